/-
  THE PROGRAM's RunValid, isBetween AND canTick.
-/
import Derived.Test.YtidijbnoaeopdaaMgExactRunValid16
import Derived.Test.YtidijbnoaeopdaaMgExactRunValid18
import Derived.Test.YtidijbnoaeopdaaMgExactRunValid1
import Derived.Test.YtidijbnoaeopdaaMgExactRunValid5
import Derived.Deep.DeepCutAuto
import Derived.Test.YtidijbnoaeopdaaMgExactRunValid3
import Derived.Test.YtidijbnoaeopdaaMgExactRunValid15
namespace Go.Proofs.Ytidijbnoaeopdaa
set_option linter.unusedVariables false
set_option linter.unusedSimpArgs false
open Go.RowKit

set_option maxHeartbeats 400000 in
theorem isBetween_calls (n m : Int) (w : World) : Calls Try.prog 45 #[.int .i64 n, .int .i64 m] w fun e w' => e = .returned (.bool (btB n m)) ∧ w = w' := by
  by_cases h0 : 0 ≤ n
  · by_cases h1 : n ≤ m
    · have HV : Hid (btB n m = true) := by rw [Hid, btB, decide_eq_true_eq]; exact ⟨h0, h1⟩
      go_enter Try.func45, Try.ntmps45
      go_wp2_with fail
      go_ret
      exact ⟨ret_bool HV.out.symm, rfl⟩
    · have HV : Hid (btB n m = false) := by rw [Hid, btB, decide_eq_false_iff_not]; rintro ⟨-, h⟩; exact h1 h
      have h1' : decide (n ≤ m) = false := by simpa using h1
      have h2' : m < n := by omega
      go_enter Try.func45, Try.ntmps45
      go_wp2_with fail
      go_ret
      exact ⟨ret_bool HV.out.symm, rfl⟩
  · have HV : Hid (btB n m = false) := by rw [Hid, btB, decide_eq_false_iff_not]; rintro ⟨h, -⟩; exact h0 h
    have h0' : decide (0 ≤ n) = false := by simpa using h0
    have h2' : n < 0 := by omega
    go_enter Try.func45, Try.ntmps45
    go_wp2_with fail
    go_ret
    exact ⟨ret_bool HV.out.symm, rfl⟩
set_option maxRecDepth 100000 in
set_option maxHeartbeats 3200000 in
theorem implRv_calls (ds : List Df) (x : Rn) (a : Int) (c gv : Value) (w : World) (hd : DIn w ds c) (hk : CIn w x.g gv) :
    Calls Try.prog 22 #[c, .agg (rnA gv a x)] w fun e w' => e = .returned (.bool (rvB ds x a)) ∧ Below w.heap.size w w' := by
  have HD := mkHid hd
  have HK := mkHid hk
  obtain ⟨adg, capg, rfl, -, -, -⟩ := hk
  obtain ⟨adc, capc, rfl, -, -, -⟩ := hd
  unfold rnA
  have HBX : Hid (Below w.heap.size w (w.alloc (.cells #[.slice adg x.g.length capg, .int .i64 a, .int .i64 x.steps, .int .i64 x.moved, .int .i64 x.peak, .int .i64 x.ticks, .int .i64 x.rounds] 30))) := box_below _ _
  have HX : Hid ((w.alloc (.cells #[.slice adg x.g.length capg, .int .i64 a, .int .i64 x.steps, .int .i64 x.moved, .int .i64 x.peak, .int .i64 x.ticks, .int .i64 x.rounds] 30)).heap[w.heap.size]? = some (.cells #[.slice adg x.g.length capg, .int .i64 a, .int .i64 x.steps, .int .i64 x.moved, .int .i64 x.peak, .int .i64 x.ticks, .int .i64 x.rounds] 30)) := Deep.blk_alloc_new _ _
  have HXL : Hid (w.heap.size < (w.alloc (.cells #[.slice adg x.g.length capg, .int .i64 a, .int .i64 x.steps, .int .i64 x.moved, .int .i64 x.peak, .int .i64 x.ticks, .int .i64 x.rounds] 30)).heap.size) := by rw [Hid, Deep.nblk_alloc]; omega
  go_enter Try.func22, Try.ntmps22
  go_wp2_with fail
  refine (canReduce_calls ds x.g a _ _ _ (HD.out.next HBX.out) (HK.out.next HBX.out)).mono ?_
  rintro e w1 ⟨rfl, hb1⟩
  have HB1 : Hid (Below w.heap.size w w1) := HBX.out.trans (hb1.mono HBX.out.size)
  have HX1 := mkHid ((hb1.block _ HXL.out).trans HX.out)
  clear hb1
  cases hr : rightB ds x.g a with
  | false =>
    have HV : Hid (rvB ds x a = false) := rvB_noR hr
    clear hr
    go_wp2_with fail
    go_ret
    exact ⟨ret_bool HV.out.symm, HB1.out⟩
  | true =>
  have HR := mkHid hr
  clear hr
  have x2 := cell_of_blk HX1.out 2 _ rfl
  go_wp2_with fail
  refine (isBetween_calls x.steps 1000 w1).mono ?_
  rintro e w2 ⟨rfl, rfl⟩
  cases hsteps : btB x.steps 1000 with
  | false =>
    have HV : Hid (rvB ds x a = false) := rvB_no (by unfold btB at hsteps; rw [decide_eq_false_iff_not] at hsteps; unfold Rn.Sm; intro h; apply hsteps; omega)
    clear hsteps
    go_wp2_with fail
    go_ret
    exact ⟨ret_bool HV.out.symm, HB1.out⟩
  | true =>
  have Hsteps := mkHid hsteps
  clear hsteps x2
  have x5 := cell_of_blk HX1.out 5 _ rfl
  go_wp2_with fail
  refine (isBetween_calls x.ticks 1000 w1).mono ?_
  rintro e w2 ⟨rfl, rfl⟩
  cases hticks : btB x.ticks 1000 with
  | false =>
    have HV : Hid (rvB ds x a = false) := rvB_no (by unfold btB at hticks; rw [decide_eq_false_iff_not] at hticks; unfold Rn.Sm; intro h; apply hticks; omega)
    clear hticks
    go_wp2_with fail
    go_ret
    exact ⟨ret_bool HV.out.symm, HB1.out⟩
  | true =>
  have Hticks := mkHid hticks
  clear hticks x5
  have x6 := cell_of_blk HX1.out 6 _ rfl
  go_wp2_with fail
  refine (isBetween_calls x.rounds 1000 w1).mono ?_
  rintro e w2 ⟨rfl, rfl⟩
  cases hrounds : btB x.rounds 1000 with
  | false =>
    have HV : Hid (rvB ds x a = false) := rvB_no (by unfold btB at hrounds; rw [decide_eq_false_iff_not] at hrounds; unfold Rn.Sm; intro h; apply hrounds; omega)
    clear hrounds
    go_wp2_with fail
    go_ret
    exact ⟨ret_bool HV.out.symm, HB1.out⟩
  | true =>
  have Hrounds := mkHid hrounds
  clear hrounds x6
  have x3 := cell_of_blk HX1.out 3 _ rfl
  go_wp2_with fail
  refine (isBetween_calls x.moved 1000000 w1).mono ?_
  rintro e w2 ⟨rfl, rfl⟩
  cases hmoved : btB x.moved 1000000 with
  | false =>
    have HV : Hid (rvB ds x a = false) := rvB_no (by unfold btB at hmoved; rw [decide_eq_false_iff_not] at hmoved; unfold Rn.Sm; intro h; apply hmoved; omega)
    clear hmoved
    go_wp2_with fail
    go_ret
    exact ⟨ret_bool HV.out.symm, HB1.out⟩
  | true =>
  have Hmoved := mkHid hmoved
  clear hmoved x3
  have x4 := cell_of_blk HX1.out 4 _ rfl
  go_wp2_with fail
  refine (isBetween_calls x.peak 400 w1).mono ?_
  rintro e w2 ⟨rfl, rfl⟩
  cases hpeak : btB x.peak 400 with
  | false =>
    have HV : Hid (rvB ds x a = false) := rvB_no (by unfold btB at hpeak; rw [decide_eq_false_iff_not] at hpeak; unfold Rn.Sm; intro h; apply hpeak; omega)
    clear hpeak
    go_wp2_with fail
    go_ret
    exact ⟨ret_bool HV.out.symm, HB1.out⟩
  | true =>
  have Hpeak := mkHid hpeak
  clear hpeak x4
  have HV : Hid (rvB ds x a = true) := by unfold Hid rvB; rw [HR.out, Hsteps.out, Hticks.out, Hrounds.out, Hmoved.out, Hpeak.out]; rfl
  go_wp2_with fail
  go_ret
  exact ⟨ret_bool HV.out.symm, HB1.out⟩
end Go.Proofs.Ytidijbnoaeopdaa
/-
  SEVEN CELLS OF A BOX ARE STORED.
-/

namespace Go.Proofs.Ytidijbnoaeopdaa
set_option linter.unusedVariables false
set_option linter.unusedSimpArgs false
open Go.RowKit

theorem s7_blk {w : World} {B : Nat} {a0 a1 a2 a3 a4 a5 a6 b0 b1 b2 b3 b4 b5 b6 : Value} {T : TypeId} (h : w.heap[B]? = some (.cells #[a0, a1, a2, a3, a4, a5, a6] T)) : (((((((w.setCell ⟨B, 0, none⟩ b0).setCell ⟨B, 1, none⟩ b1).setCell ⟨B, 2, none⟩ b2).setCell ⟨B, 3, none⟩ b3).setCell ⟨B, 4, none⟩ b4).setCell ⟨B, 5, none⟩ b5).setCell ⟨B, 6, none⟩ b6).heap[B]? = some (.cells #[b0, b1, b2, b3, b4, b5, b6] T) := by
  simp [World.setCell, Array.getElem?_modify, h]
theorem s7_far {w : World} {B k : Nat} {b0 b1 b2 b3 b4 b5 b6 : Value} (hk : k ≠ B) : (((((((w.setCell ⟨B, 0, none⟩ b0).setCell ⟨B, 1, none⟩ b1).setCell ⟨B, 2, none⟩ b2).setCell ⟨B, 3, none⟩ b3).setCell ⟨B, 4, none⟩ b4).setCell ⟨B, 5, none⟩ b5).setCell ⟨B, 6, none⟩ b6).heap[k]? = w.heap[k]? :=
  (Below.heap_setCell _ _ _ _ hk).trans ((Below.heap_setCell _ _ _ _ hk).trans ((Below.heap_setCell _ _ _ _ hk).trans ((Below.heap_setCell _ _ _ _ hk).trans ((Below.heap_setCell _ _ _ _ hk).trans ((Below.heap_setCell _ _ _ _ hk).trans (Below.heap_setCell _ _ _ _ hk))))))
theorem s7_below {w0 w : World} {B n : Nat} {b0 b1 b2 b3 b4 b5 b6 : Value} (h : Below n w0 w) (hB : n ≤ B) : Below n w0 (((((((w.setCell ⟨B, 0, none⟩ b0).setCell ⟨B, 1, none⟩ b1).setCell ⟨B, 2, none⟩ b2).setCell ⟨B, 3, none⟩ b3).setCell ⟨B, 4, none⟩ b4).setCell ⟨B, 5, none⟩ b5).setCell ⟨B, 6, none⟩ b6) :=
  ((((((h.setCell hB _).setCell hB _).setCell hB _).setCell hB _).setCell hB _).setCell hB _).setCell hB _
end Go.Proofs.Ytidijbnoaeopdaa
/-
  THE LAWS' szRun, toRun AND eqRun.
-/
namespace Go.Proofs.Ytidijbnoaeopdaa
set_option linter.unusedVariables false
set_option linter.unusedSimpArgs false
open Go.RowKit

set_option maxHeartbeats 800000 in
theorem szRun_calls (x : Rn) (a : Int) (c : Value) (left : Int) (w : World) (hk : CIn w x.g c) (h0 : 0 ≤ left) (h1 : left ≤ 4611686018427387904) :
    Calls Try.prog 19 #[.agg (rnA c a x), .int .i64 left] w fun e w' => e = .returned (.int .i64 (szC x.g left)) ∧ Below w.heap.size w w' := by
  have HK := mkHid hk
  obtain ⟨adg, capg, rfl, -, -, -⟩ := hk
  have HBX : Hid (Below w.heap.size w (w.alloc (.cells #[.slice adg x.g.length capg, .int .i64 a, .int .i64 x.steps, .int .i64 x.moved, .int .i64 x.peak, .int .i64 x.ticks, .int .i64 x.rounds] 48))) := box_below _ _
  have hr := szC_range x.g left h0
  unfold rnA
  go_enter Try.func19, Try.ntmps19
  go_wp2_with fail
  refine (szCells_calls x.g _ left _ (HK.out.next HBX.out) h0 h1).mono ?_
  rintro e w1 ⟨rfl, hb1⟩
  have HB1 : Hid (Below w.heap.size w w1) := HBX.out.trans (hb1.mono HBX.out.size)
  clear hb1
  by_cases hneg : szC x.g left < 0
  · have hm : szC x.g left = -1 := by omega
    have HM := mkHid hm
    rw [hm]
    clear hneg hm hr
    go_wp2_with fail
    go_ret
    exact ⟨by rw [HM.out]; rfl, HB1.out⟩
  · have hz : 0 ≤ szC x.g left := by omega
    obtain ⟨z, hze⟩ : ∃ z, z = szC x.g left := ⟨_, rfl⟩
    have HM := mkHid hze
    rw [← hze] at hz hneg hr ⊢
    clear hze
    go_wp2_with fail
    go_ret
    exact ⟨by rw [← HM.out]; rfl, HB1.out⟩
/-- a new run, its graph in memory of its own -/
def NewRun (x : Rn) (a : Int) (w : World) (e : Ending) (w' : World) : Prop := ∃ v, e = .returned (.agg (rnA v a x)) ∧ CellRow w' w.heap.size x.g v ∧ Below w.heap.size w w'
set_option maxRecDepth 100000 in
set_option maxHeartbeats 1600000 in
theorem toRun_calls (x : Rn) (a : Int) (c : Value) (w : World) (hk : CIn w x.g c) (hsz : x.g.length + sumK x.g ≤ 1048576) :
    Calls Try.prog 21 #[.agg (rnA c a x)] w (NewRun x a w) := by
  have HK := mkHid hk
  obtain ⟨adg, capg, rfl, -, -, -⟩ := hk
  obtain ⟨W, hW⟩ : ∃ W, W = ((w.alloc (.cells #[.slice adg x.g.length capg, .int .i64 a, .int .i64 x.steps, .int .i64 x.moved, .int .i64 x.peak, .int .i64 x.ticks, .int .i64 x.rounds] 48)).alloc (.cells #[.slice none 0 0, .int .i64 0, .int .i64 0, .int .i64 0, .int .i64 0, .int .i64 0, .int .i64 0] 30)).alloc (.cells #[.slice none 0 0, .int .i64 0, .int .i64 0, .int .i64 0, .int .i64 0, .int .i64 0, .int .i64 0] 30) := ⟨_, rfl⟩
  have HBW : Hid (Below w.heap.size w W) := by rw [hW]; exact ((box_below _ _).alloc (by rw [Deep.nblk_alloc]; omega) _).alloc (by rw [Deep.nblk_alloc, Deep.nblk_alloc]; omega) _
  have HL : Hid (W.heap.size = w.heap.size + 3) := by rw [hW, Hid, Deep.nblk_alloc, Deep.nblk_alloc, Deep.nblk_alloc]
  have HX : Hid (W.heap[w.heap.size]? = some (.cells #[.slice adg x.g.length capg, .int .i64 a, .int .i64 x.steps, .int .i64 x.moved, .int .i64 x.peak, .int .i64 x.ticks, .int .i64 x.rounds] 48)) := by
    rw [hW]
    exact (Deep.blk_alloc_lt _ _ _ (by rw [Deep.nblk_alloc, Deep.nblk_alloc]; omega)).trans ((Deep.blk_alloc_lt _ _ _ (by rw [Deep.nblk_alloc]; omega)).trans (Deep.blk_alloc_new _ _))
  have HY : Hid (W.heap[w.heap.size + 1]? = some (.cells #[.slice none 0 0, .int .i64 0, .int .i64 0, .int .i64 0, .int .i64 0, .int .i64 0, .int .i64 0] 30)) := by
    have h := Deep.blk_alloc_new (w.alloc (.cells #[.slice adg x.g.length capg, .int .i64 a, .int .i64 x.steps, .int .i64 x.moved, .int .i64 x.peak, .int .i64 x.ticks, .int .i64 x.rounds] 48)) (.cells #[.slice none 0 0, .int .i64 0, .int .i64 0, .int .i64 0, .int .i64 0, .int .i64 0, .int .i64 0] 30)
    rw [Deep.nblk_alloc] at h
    rw [hW]
    exact (Deep.blk_alloc_lt _ _ _ (by rw [Deep.nblk_alloc, Deep.nblk_alloc]; omega)).trans h
  have HZ : Hid (W.heap[w.heap.size + 2]? = some (.cells #[.slice none 0 0, .int .i64 0, .int .i64 0, .int .i64 0, .int .i64 0, .int .i64 0, .int .i64 0] 30)) := by
    have h := Deep.blk_alloc_new ((w.alloc (.cells #[.slice adg x.g.length capg, .int .i64 a, .int .i64 x.steps, .int .i64 x.moved, .int .i64 x.peak, .int .i64 x.ticks, .int .i64 x.rounds] 48)).alloc (.cells #[.slice none 0 0, .int .i64 0, .int .i64 0, .int .i64 0, .int .i64 0, .int .i64 0, .int .i64 0] 30)) (.cells #[.slice none 0 0, .int .i64 0, .int .i64 0, .int .i64 0, .int .i64 0, .int .i64 0, .int .i64 0] 30)
    rw [Deep.nblk_alloc, Deep.nblk_alloc] at h
    rw [hW]
    exact h
  unfold rnA
  go_enter Try.func21, Try.ntmps21
  go_wp2_with fail
  rw [← hW]
  clear hW
  refine (toCells_calls x.g _ W (HK.out.next HBW.out) hsz).mono ?_
  rintro e w1 ⟨v, rfl, hv, hb1⟩
  obtain ⟨adv, capv, rfl, -, -, -⟩ := id hv
  have HV := mkHid hv
  have HB1 : Hid (Below w.heap.size w w1) := HBW.out.trans (hb1.mono HBW.out.size)
  have HX1 := mkHid ((hb1.block _ (by rw [HL.out]; omega)).trans HX.out)
  have HY1 := mkHid ((hb1.block _ (by rw [HL.out]; omega)).trans HY.out)
  have HZ1 := mkHid ((hb1.block _ (by rw [HL.out]; omega)).trans HZ.out)
  clear hv hb1
  have x0 := cell_of_blk HX1.out 0 _ rfl
  have y0 := cell_of_blk HY1.out 0 _ rfl
  have z0 := cell_of_blk HZ1.out 0 _ rfl
  have x1 := cell_of_blk HX1.out 1 _ rfl
  have y1 := cell_of_blk HY1.out 1 _ rfl
  have z1 := cell_of_blk HZ1.out 1 _ rfl
  have x2 := cell_of_blk HX1.out 2 _ rfl
  have y2 := cell_of_blk HY1.out 2 _ rfl
  have z2 := cell_of_blk HZ1.out 2 _ rfl
  have x3 := cell_of_blk HX1.out 3 _ rfl
  have y3 := cell_of_blk HY1.out 3 _ rfl
  have z3 := cell_of_blk HZ1.out 3 _ rfl
  have x4 := cell_of_blk HX1.out 4 _ rfl
  have y4 := cell_of_blk HY1.out 4 _ rfl
  have z4 := cell_of_blk HZ1.out 4 _ rfl
  have x5 := cell_of_blk HX1.out 5 _ rfl
  have y5 := cell_of_blk HY1.out 5 _ rfl
  have z5 := cell_of_blk HZ1.out 5 _ rfl
  have x6 := cell_of_blk HX1.out 6 _ rfl
  have y6 := cell_of_blk HY1.out 6 _ rfl
  have z6 := cell_of_blk HZ1.out 6 _ rfl
  have fy := frz_of_blk HY1.out
  have fz := frz_of_blk HZ1.out
  go_upto_region 9 with fail
  clear x0 y0 z0 x1 y1 z1 x2 y2 z2 x3 y3 z3 x4 y4 z4 x5 y5 z5 x6 y6 z6 fy fz
  have HZ2 : Hid ((((((((w1.setCell ⟨w.heap.size + 2, 0, none⟩ (.slice adv x.g.length capv)).setCell ⟨w.heap.size + 2, 1, none⟩ (.int .i64 a)).setCell ⟨w.heap.size + 2, 2, none⟩ (.int .i64 x.steps)).setCell ⟨w.heap.size + 2, 3, none⟩ (.int .i64 x.moved)).setCell ⟨w.heap.size + 2, 4, none⟩ (.int .i64 x.peak)).setCell ⟨w.heap.size + 2, 5, none⟩ (.int .i64 x.ticks)).setCell ⟨w.heap.size + 2, 6, none⟩ (.int .i64 x.rounds)).heap[w.heap.size + 2]? = some (.cells #[.slice adv x.g.length capv, .int .i64 a, .int .i64 x.steps, .int .i64 x.moved, .int .i64 x.peak, .int .i64 x.ticks, .int .i64 x.rounds] 30)) := s7_blk HZ1.out
  have HY2 : Hid ((((((((w1.setCell ⟨w.heap.size + 2, 0, none⟩ (.slice adv x.g.length capv)).setCell ⟨w.heap.size + 2, 1, none⟩ (.int .i64 a)).setCell ⟨w.heap.size + 2, 2, none⟩ (.int .i64 x.steps)).setCell ⟨w.heap.size + 2, 3, none⟩ (.int .i64 x.moved)).setCell ⟨w.heap.size + 2, 4, none⟩ (.int .i64 x.peak)).setCell ⟨w.heap.size + 2, 5, none⟩ (.int .i64 x.ticks)).setCell ⟨w.heap.size + 2, 6, none⟩ (.int .i64 x.rounds)).heap[w.heap.size + 1]? = some (.cells #[.slice none 0 0, .int .i64 0, .int .i64 0, .int .i64 0, .int .i64 0, .int .i64 0, .int .i64 0] 30)) := (s7_far (by omega)).trans HY1.out
  have HV2 : Hid (CellRow (((((((w1.setCell ⟨w.heap.size + 2, 0, none⟩ (.slice adv x.g.length capv)).setCell ⟨w.heap.size + 2, 1, none⟩ (.int .i64 a)).setCell ⟨w.heap.size + 2, 2, none⟩ (.int .i64 x.steps)).setCell ⟨w.heap.size + 2, 3, none⟩ (.int .i64 x.moved)).setCell ⟨w.heap.size + 2, 4, none⟩ (.int .i64 x.peak)).setCell ⟨w.heap.size + 2, 5, none⟩ (.int .i64 x.ticks)).setCell ⟨w.heap.size + 2, 6, none⟩ (.int .i64 x.rounds)) (w.heap.size + 3) x.g (.slice adv x.g.length capv)) := HV.out.keep (by rw [HL.out]; exact Nat.le_refl _) (fun k hk _ => s7_far (by rw [HL.out] at hk; omega))
  have HB2 : Hid (Below w.heap.size w (((((((w1.setCell ⟨w.heap.size + 2, 0, none⟩ (.slice adv x.g.length capv)).setCell ⟨w.heap.size + 2, 1, none⟩ (.int .i64 a)).setCell ⟨w.heap.size + 2, 2, none⟩ (.int .i64 x.steps)).setCell ⟨w.heap.size + 2, 3, none⟩ (.int .i64 x.moved)).setCell ⟨w.heap.size + 2, 4, none⟩ (.int .i64 x.peak)).setCell ⟨w.heap.size + 2, 5, none⟩ (.int .i64 x.ticks)).setCell ⟨w.heap.size + 2, 6, none⟩ (.int .i64 x.rounds))) := s7_below HB1.out (by omega)
  generalize (((((((w1.setCell ⟨w.heap.size + 2, 0, none⟩ (.slice adv x.g.length capv)).setCell ⟨w.heap.size + 2, 1, none⟩ (.int .i64 a)).setCell ⟨w.heap.size + 2, 2, none⟩ (.int .i64 x.steps)).setCell ⟨w.heap.size + 2, 3, none⟩ (.int .i64 x.moved)).setCell ⟨w.heap.size + 2, 4, none⟩ (.int .i64 x.peak)).setCell ⟨w.heap.size + 2, 5, none⟩ (.int .i64 x.ticks)).setCell ⟨w.heap.size + 2, 6, none⟩ (.int .i64 x.rounds)) = w2 at HZ2 HY2 HV2 HB2 ⊢
  have y0 := cell_of_blk HY2.out 0 _ rfl
  have z0 := cell_of_blk HZ2.out 0 _ rfl
  have y1 := cell_of_blk HY2.out 1 _ rfl
  have z1 := cell_of_blk HZ2.out 1 _ rfl
  have y2 := cell_of_blk HY2.out 2 _ rfl
  have z2 := cell_of_blk HZ2.out 2 _ rfl
  have y3 := cell_of_blk HY2.out 3 _ rfl
  have z3 := cell_of_blk HZ2.out 3 _ rfl
  have y4 := cell_of_blk HY2.out 4 _ rfl
  have z4 := cell_of_blk HZ2.out 4 _ rfl
  have y5 := cell_of_blk HY2.out 5 _ rfl
  have z5 := cell_of_blk HZ2.out 5 _ rfl
  have y6 := cell_of_blk HY2.out 6 _ rfl
  have z6 := cell_of_blk HZ2.out 6 _ rfl
  have fy := frz_of_blk HY2.out
  go_wp2_with fail
  refine bodyPost_ret (v := .agg #[.slice adv x.g.length capv, .int .i64 a, .int .i64 x.steps, .int .i64 x.moved, .int .i64 x.peak, .int .i64 x.ticks, .int .i64 x.rounds]) (by simp [results, Try.results21, go_sem, y0, y1, y2, y3, y4, y5, y6, fy]) rfl ?_
  exact ⟨_, rfl, HV2.out.keep (by omega) (fun k hk _ => s7_far (by omega)), s7_below HB2.out (by omega)⟩

set_option maxHeartbeats 1600000 in
theorem eqRun_calls (x : Rn) (a : Int) (c d : Value) (w : World) (hc : CIn w x.g c) (hd : CIn w x.g d) :
    Calls Try.prog 12 #[.agg (rnA c a x), .agg (rnA d a x)] w fun e w' => e = .returned (.bool true) ∧ Below w.heap.size w w' := by
  have HC := mkHid hc
  have HD := mkHid hd
  obtain ⟨adc, capc, rfl, -, -, -⟩ := hc
  obtain ⟨add, capd, rfl, -, -, -⟩ := hd
  have HB0 : Hid (∀ o1 o2, Below w.heap.size w ((w.alloc o1).alloc o2)) := fun o1 o2 => (box_below _ _).alloc (by rw [Deep.nblk_alloc]; omega) _
  have HX : Hid (∀ o1 o2, ((w.alloc o1).alloc o2).heap[w.heap.size]? = some o1) := fun o1 o2 => (Deep.blk_alloc_lt _ _ _ (by rw [Deep.nblk_alloc]; omega)).trans (Deep.blk_alloc_new _ _)
  have HY : Hid (∀ o1 o2, ((w.alloc o1).alloc o2).heap[w.heap.size + 1]? = some o2) := fun o1 o2 => by
    have h := Deep.blk_alloc_new (w.alloc o1) o2
    rw [Deep.nblk_alloc] at h
    exact h
  have HL : Hid (∀ o1 o2, ((w.alloc o1).alloc o2).heap.size = w.heap.size + 2) := fun o1 o2 => by rw [Deep.nblk_alloc, Deep.nblk_alloc]
  unfold rnA
  go_enter Try.func12, Try.ntmps12
  go_wp2_with fail
  refine (eqCells_calls x.g _ _ _ (HC.out.next (HB0.out _ _)) (HD.out.next (HB0.out _ _))).mono ?_
  rintro e w1 ⟨rfl, hb1⟩
  have HB1 : Hid (Below w.heap.size w w1) := (HB0.out _ _).trans (hb1.mono (HB0.out _ _).size)
  have HX1 := mkHid ((hb1.block _ (by rw [HL.out]; omega)).trans (HX.out _ _))
  have HY1 := mkHid ((hb1.block _ (by rw [HL.out]; omega)).trans (HY.out _ _))
  clear hb1
  have x0 := cell_of_blk HX1.out 0 _ rfl
  have y0 := cell_of_blk HY1.out 0 _ rfl
  have x1 := cell_of_blk HX1.out 1 _ rfl
  have y1 := cell_of_blk HY1.out 1 _ rfl
  have x2 := cell_of_blk HX1.out 2 _ rfl
  have y2 := cell_of_blk HY1.out 2 _ rfl
  have x3 := cell_of_blk HX1.out 3 _ rfl
  have y3 := cell_of_blk HY1.out 3 _ rfl
  have x4 := cell_of_blk HX1.out 4 _ rfl
  have y4 := cell_of_blk HY1.out 4 _ rfl
  have x5 := cell_of_blk HX1.out 5 _ rfl
  have y5 := cell_of_blk HY1.out 5 _ rfl
  have x6 := cell_of_blk HX1.out 6 _ rfl
  have y6 := cell_of_blk HY1.out 6 _ rfl
  have ta : (a != a) = false := by simp
  have tsteps : (x.steps != x.steps) = false := by simp
  have tmoved : (x.moved != x.moved) = false := by simp
  have tpeak : (x.peak != x.peak) = false := by simp
  have tticks : (x.ticks != x.ticks) = false := by simp
  have trounds : (x.rounds != x.rounds) = false := by simp
  go_wp2_with fail
  go_ret
  exact ⟨rfl, HB1.out⟩
end Go.Proofs.Ytidijbnoaeopdaa
/-
  THE LAWS' COPY OF A PROGRAM LIES IN PLAIN BLOCKS.
-/
namespace Go.Proofs.Ytidijbnoaeopdaa
set_option linter.unusedVariables false
set_option linter.unusedSimpArgs false
open Go.RowKit

theorem Pl.set {w : World} {k : Nat} {a : Addr} (h : Pl w k) (hk : k ≠ a.block) (u : Value) : Pl (w.setCell a u) k :=
  ⟨by rw [size_setCell]; exact h.1, by obtain ⟨C, T, e⟩ := h.2; exact ⟨C, T, (Below.heap_setCell _ _ _ _ hk).trans e⟩⟩
end Go.Proofs.Ytidijbnoaeopdaa
/-
  THE LAWS' COPY OF A PROGRAM, WITH ALL ITS BLOCKS: they are distinct.
-/
namespace Go.Proofs.Ytidijbnoaeopdaa
set_option linter.unusedVariables false
set_option linter.unusedSimpArgs false
open Go.RowKit

/-- a function whose body's operands have these blocks -/
def DfFp (w : World) (d : Df) (fp : List Nat) (a b c e : Value) : Prop := a = .int .i64 d.1 ∧ I64 d.1 ∧ TrFp w 37 d.2 fp b c e
/-- a program in a row of its own, with all its blocks -/
def DefsFp (w : World) (ds : List Df) (fp : List Nat) (v : Value) : Prop :=
  ∃ (bl : Nat) (f : Nat → Value) (fps : List (List Nat)), v = .slice (some ⟨bl, 0, none⟩) ds.length ds.length ∧ ds.length ≤ 1048576 ∧ w.rowIs bl 66 (ds.length * 4) f ∧ fp = bl :: fps.flatten ∧ fps.length = ds.length ∧ ∀ i (hi : i < ds.length) (hi2 : i < fps.length), DfFp w ds[i] fps[i] (f (i * 4)) (f (i * 4 + 1)) (f (i * 4 + 2)) (f (i * 4 + 3))
theorem DefsFp.keep {w w' : World} {ds : List Df} {fp : List Nat} {v : Value} (h : DefsFp w ds fp v) (hw : ∀ k ∈ fp, w'.heap[k]? = w.heap[k]?) : DefsFp w' ds fp v := by
  obtain ⟨bl, f, fps, e, l1, hr, rfl, hl, hi⟩ := h
  refine ⟨bl, f, fps, e, l1, hr.of_block (hw bl (List.mem_cons_self ..)), rfl, hl, fun i h1 h2 => ?_⟩
  obtain ⟨a1, a2, a3⟩ := hi i h1 h2
  exact ⟨a1, a2, TrFp.keep _ _ _ _ _ (fun k hk => hw k (List.mem_cons_of_mem _ (List.mem_flatten.2 ⟨_, List.getElem_mem h2, hk⟩))) a3⟩
theorem DefsFp.lt {w : World} {ds : List Df} {fp : List Nat} {v : Value} (h : DefsFp w ds fp v) : ∀ k ∈ fp, k < w.heap.size := by
  obtain ⟨bl, f, fps, e, l1, hr, rfl, hl, hi⟩ := h
  intro k hk
  rcases List.mem_cons.1 hk with rfl | hk
  · exact hr.lt
  · obtain ⟨g, hg, hk⟩ := List.mem_flatten.1 hk
    obtain ⟨i, h2, rfl⟩ := List.getElem_of_mem hg
    exact TrFp.lt _ _ _ _ _ (hi i (by omega) h2).2.2 k hk
theorem DefsFp.on {w : World} {S : Nat → Prop} {ds : List Df} {fp : List Nat} {v : Value} (h : DefsFp w ds fp v) (hS : ∀ k ∈ fp, S k) : DefsOn w S ds v := by
  obtain ⟨bl, f, fps, rfl, l1, hr, rfl, hl, hi⟩ := h
  refine ⟨_, _, rfl, Nat.le_refl _, by unfold maxLen; omega, Or.inr ⟨bl, 0, rfl, hS bl (List.mem_cons_self ..), fun i h1 => ?_⟩⟩
  obtain ⟨a1, a2, a3⟩ := hi i h1 (by omega)
  refine ⟨f (i * 4), f (i * 4 + 1), f (i * 4 + 2), f (i * 4 + 3), ?_, ?_, ?_, ?_, a1, a2, TrFp.on _ _ _ _ _ (fun k hk => hS k (List.mem_cons_of_mem _ (List.mem_flatten.2 ⟨_, List.getElem_mem _, hk⟩))) a3⟩
  · simpa using hr.cell (i := i * 4) (by omega)
  · simpa [Nat.zero_add] using hr.cell (i := i * 4 + 1) (by omega)
  · simpa [Nat.zero_add] using hr.cell (i := i * 4 + 2) (by omega)
  · simpa [Nat.zero_add] using hr.cell (i := i * 4 + 3) (by omega)
theorem Fresh.down {w : World} {lo lo' : Nat} {ks : List Tr} {c : Value} (h : Fresh w lo ks c) (hl : lo' ≤ lo) : Fresh w lo' ks c := by
  obtain ⟨fp, h1, h2, h3⟩ := h
  exact ⟨fp, h1, h2, fun k hk => Nat.le_trans hl (h3 k hk)⟩
end Go.Proofs.Ytidijbnoaeopdaa
