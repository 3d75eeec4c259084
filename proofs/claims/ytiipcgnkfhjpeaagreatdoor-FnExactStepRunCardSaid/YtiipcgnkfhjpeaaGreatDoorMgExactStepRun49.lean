/-
  THE PROGRAM's EvalRun AND StepRun.
-/
import Derived.Test.YtiipcgnkfhjpeaaGreatDoorMgExactStepRun48
import Derived.Test.YtiipcgnkfhjpeaaGreatDoorMgExactStepRun1
import Derived.Test.YtiipcgnkfhjpeaaGreatDoorMgExactStepRun18
import Derived.Test.YtiipcgnkfhjpeaaGreatDoorMgExactStepRun4
import Derived.Deep.DeepCutAuto
import Derived.Test.YtiipcgnkfhjpeaaGreatDoorMgExactStepRun38
import Derived.Test.YtiipcgnkfhjpeaaGreatDoorMgExactStepRun9
import Derived.Test.YtiipcgnkfhjpeaaGreatDoorMgExactStepRun8
namespace Go.Proofs.YtiipcgnkfhjpeaaGreatDoor
set_option linter.unusedVariables false
set_option linter.unusedSimpArgs false
open Go.RowKit



/-- a run by value in memory of its own, and a code -/
def OwnRC (r : Rn × Nat) (w : World) (e : Ending) (w' : World) : Prop := ∃ gv, e = .returned (.tuple #[.agg (rnC gv r.1), .int .i64 (r.2 : Int)]) ∧ OwnC w' w.heap.size (fun k => w.heap.size ≤ k) r.1.g gv ∧ Below w.heap.size w w'
theorem tick_code {ds : List Df} {limit : Int} {tidy : Bool} (x : Rn) : (x.tick ds limit tidy).2 ≤ 3 := by
  unfold Rn.tick
  split
  · exact Nat.zero_le _
  · unfold Rn.tic2
    split
    · split
      · exact Nat.zero_le _
      · rw [Rn.adv_code]; exact Rn.code_le _
    · rw [Rn.adv_code]; exact Rn.code_le _
set_option maxRecDepth 100000 in
set_option maxHeartbeats 6400000 in
theorem implStepR_calls (aF aS aL : Addr) (ds : List Df) (x : Rn) (a : Int) (c gv : Value) (limit : Int) (tidy : Bool) (w : World) (hE : Errs aF aS aL w) (hd : DInP w ds c) (hk : CIn w x.g gv) :
    Calls Tryz.prog 10 #[c, .agg (rnA gv a x), .int .i64 limit, .bool tidy] w (OwnRC (sRun ds x a limit tidy) w) := by
  have HD := mkHid hd
  have HKK := mkHid hk
  have HE := mkHid hE
  obtain ⟨adg, capg, rfl, -, -, -⟩ := hk
  obtain ⟨adc, capc, rfl, -, -, -⟩ := id hd
  unfold rnA
  obtain ⟨W, hW⟩ : ∃ W, W = (w.alloc (.cells #[.slice adg x.g.length capg, .int .i64 a, .int .i64 x.steps, .int .i64 x.moved, .int .i64 x.peak, .int .i64 x.ticks, .int .i64 x.rounds] 30)).alloc (.cells #[.slice none 0 0, .int .i64 0, .int .i64 0, .int .i64 0, .int .i64 0, .int .i64 0, .int .i64 0] 30) := ⟨_, rfl⟩
  have HB_W : Hid (Below w.heap.size w W) := by rw [hW]; exact (box_below _ _).alloc (by rw [Deep.nblk_alloc]; omega) _
  have HX_W : Hid (W.heap[w.heap.size]? = some (.cells #[.slice adg x.g.length capg, .int .i64 a, .int .i64 x.steps, .int .i64 x.moved, .int .i64 x.peak, .int .i64 x.ticks, .int .i64 x.rounds] 30)) := by
    rw [hW]; exact (Deep.blk_alloc_lt _ _ _ (by rw [Deep.nblk_alloc]; omega)).trans (Deep.blk_alloc_new _ _)
  have HY_W : Hid (W.heap[w.heap.size + 1]? = some (.cells #[.slice none 0 0, .int .i64 0, .int .i64 0, .int .i64 0, .int .i64 0, .int .i64 0, .int .i64 0] 30)) := by
    have h := Deep.blk_alloc_new (w.alloc (.cells #[.slice adg x.g.length capg, .int .i64 a, .int .i64 x.steps, .int .i64 x.moved, .int .i64 x.peak, .int .i64 x.ticks, .int .i64 x.rounds] 30)) (.cells #[.slice none 0 0, .int .i64 0, .int .i64 0, .int .i64 0, .int .i64 0, .int .i64 0, .int .i64 0] 30)
    rw [Deep.nblk_alloc] at h
    rw [hW]; exact h
  have HL_W : Hid (w.heap.size + 2 ≤ W.heap.size) := by rw [hW, Hid, Deep.nblk_alloc, Deep.nblk_alloc]; exact Nat.le_refl _
  clear hd hE
  go_enter Tryz.func10, Tryz.ntmps10
  go_wp2_with fail
  rw [← hW]
  clear hW
  refine (canTick_calls ds x a _ _ W (HD.out.inP.next HB_W.out) (HKK.out.next HB_W.out)).mono ?_
  rintro e w1 ⟨rfl, hb1⟩
  have HB1 : Hid (Below w.heap.size w w1) := HB_W.out.trans (hb1.mono HB_W.out.size)
  have HL1 : Hid (w.heap.size + 2 ≤ w1.heap.size) := Nat.le_trans HL_W.out hb1.size
  have HX1 := mkHid ((hb1.block _ (by have := HL_W.out; omega)).trans HX_W.out)
  have HY1 := mkHid ((hb1.block _ (by have := HL_W.out; omega)).trans HY_W.out)
  clear hb1
  have SNO : Hid (¬ (ctB ds x a = true ∧ btB limit 400 = true) → sRun ds x a limit tidy = (rnZ, 4)) := fun h => by unfold sRun; rw [if_neg h]
  cases hr : ctB ds x a with
  | false =>
    have HV : Hid (sRun ds x a limit tidy = (rnZ, 4)) := SNO.out (by rw [hr]; simp)
    clear hr
    have y0 := cell_of_blk HY1.out 0 _ rfl
    have y1 := cell_of_blk HY1.out 1 _ rfl
    have y2 := cell_of_blk HY1.out 2 _ rfl
    have y3 := cell_of_blk HY1.out 3 _ rfl
    have y4 := cell_of_blk HY1.out 4 _ rfl
    have y5 := cell_of_blk HY1.out 5 _ rfl
    have y6 := cell_of_blk HY1.out 6 _ rfl
    have fy := frz_of_blk HY1.out
    go_wp2_with fail
    refine bodyPost_ret (v := .tuple #[.agg (rnC (.slice none 0 0) rnZ), .int .i64 4]) (by simp [results, Tryz.results10, go_sem, y0, y1, y2, y3, y4, y5, y6, fy, rnC, rnZ]) rfl ?_
    rw [HV.out]
    exact ⟨_, rfl, OwnC.nil _ _ _, st7_below HB1.out (by omega)⟩
  | true =>
  have HCT := mkHid hr
  clear hr
  go_wp2_with fail
  refine (isBetween_calls limit 400 w1).mono ?_
  rintro e w2 ⟨rfl, rfl⟩
  cases hl : btB limit 400 with
  | false =>
    have HV : Hid (sRun ds x a limit tidy = (rnZ, 4)) := SNO.out (by rw [hl]; simp)
    clear hl
    have y0 := cell_of_blk HY1.out 0 _ rfl
    have y1 := cell_of_blk HY1.out 1 _ rfl
    have y2 := cell_of_blk HY1.out 2 _ rfl
    have y3 := cell_of_blk HY1.out 3 _ rfl
    have y4 := cell_of_blk HY1.out 4 _ rfl
    have y5 := cell_of_blk HY1.out 5 _ rfl
    have y6 := cell_of_blk HY1.out 6 _ rfl
    have fy := frz_of_blk HY1.out
    go_wp2_with fail
    refine bodyPost_ret (v := .tuple #[.agg (rnC (.slice none 0 0) rnZ), .int .i64 4]) (by simp [results, Tryz.results10, go_sem, y0, y1, y2, y3, y4, y5, y6, fy, rnC, rnZ]) rfl ?_
    rw [HV.out]
    exact ⟨_, rfl, OwnC.nil _ _ _, st7_below HB1.out (by omega)⟩
  | true =>
  have HLT := mkHid hl
  have HOK := mkHid (ctB_ok HCT.out)
  obtain ⟨z, hz⟩ : ∃ z, z = x.at a := ⟨_, rfl⟩
  have hzg : x.g = z.g := by rw [hz]; rfl
  have hza : a = (z.root : Int) := by rw [hz]; exact HOK.out.2.2.2.1.symm
  have HSV : Hid (sRun ds x a limit tidy = if z.val ds = true then (z, 0) else z.tick ds limit tidy) := by rw [hz]; unfold Hid sRun; rw [if_pos ⟨HCT.out, HLT.out⟩]
  have e1 : x.steps = z.steps := by rw [hz]; rfl
  have e2 : x.moved = z.moved := by rw [hz]; rfl
  have e3 : x.peak = z.peak := by rw [hz]; rfl
  have e4 : x.ticks = z.ticks := by rw [hz]; rfl
  have e5 : x.rounds = z.rounds := by rw [hz]; rfl
  rw [← hz] at HOK
  have HK2 : Hid (CIn w1 z.g (.slice adg z.g.length capg)) := by rw [← hzg]; exact HKK.out.next HB1.out
  have HEQ := mkHid (And.intro hzg (And.intro hza (And.intro e1 (And.intro e2 (And.intro e3 (And.intro e4 e5))))))
  clear hl e1 e2 e3 e4 e5 hzg hza hz

  have x0 := cell_of_blk HX1.out 0 _ rfl
  have x1 := cell_of_blk HX1.out 1 _ rfl
  have x2 := cell_of_blk HX1.out 2 _ rfl
  have x3 := cell_of_blk HX1.out 3 _ rfl
  have x4 := cell_of_blk HX1.out 4 _ rfl
  have x5 := cell_of_blk HX1.out 5 _ rfl
  have x6 := cell_of_blk HX1.out 6 _ rfl
  go_wp2_with fail
  clear x0 x1 x2 x3 x4 x5 x6
  obtain ⟨hzg, hza, e1, e2, e3, e4, e5⟩ := HEQ.out
  rw [hzg, hza, e1, e2, e3, e4, e5]
  clear hzg hza e1 e2 e3 e4 e5
  have HE1 := mkHid (HE.out.next HB1.out)
  have HD1 : Hid (DInP w1 ds (.slice adc ds.length capc)) := DefsOn.nextP HD.out HB1.out
  have HENV : Hid (Env aF aS aL ds (.slice adc ds.length capc) w1) := ⟨HE1.out, HD1.out, HOK.out.1⟩
  refine (runnerOf_calls ds _ (.slice adg z.g.length capg) tidy z w1 HD1.out.inP HK2.out HOK.out.2.1).mono ?_
  rintro e w2 ⟨Q, S, A, rfl, hrw, hb2⟩
  have HS2 : Hid (Sn w1 w2) := hb2
  have HW2 := mkHid hrw
  clear hrw hb2
  go_wp2_with fail
  refine (done_env HENV.out HS2.out HW2.out HOK.out.2.1).mono ?_
  rintro e w3 ⟨rfl, hw3, hs3⟩
  have HW3 := mkHid hw3
  have HS3 := mkHid hs3
  clear hw3 hs3
  cases hv : z.val ds with
  | true =>
    have HV : Hid (sRun ds x a limit tidy = (z, 0)) := HSV.out.trans (if_pos hv)
    have HWR := HW3
    have HBR : Hid (Below w.heap.size w w3) := HB1.out.trans (Below.mono HS3.out HB1.out.size)
    have HYR := mkHid ((Below.block HS3.out _ (by have := HL1.out; omega)).trans HY1.out)
    have HER := mkHid (HE1.out.next HS3.out)
    clear hv
    go_wp2_with fail
    refine (run_calls _ _ _ _ _ _ _ w3 HWR.out).mono ?_
    rintro e w8 ⟨ad8, cap8, rfl, ho8, hb8⟩
    have HO8 := mkHid ho8
    have HB8 : Hid (Below w.heap.size w w8) := HBR.out.trans (hb8.mono HBR.out.size)
    have HY8 := mkHid ((hb8.block _ (cellsOf_ltI HYR.out)).trans HYR.out)
    have HE8 := mkHid (HER.out.next hb8)
    clear ho8 hb8
    unfold rnC
    have y0 := cell_of_blk HY8.out 0 _ rfl
    have y1 := cell_of_blk HY8.out 1 _ rfl
    have y2 := cell_of_blk HY8.out 2 _ rfl
    have y3 := cell_of_blk HY8.out 3 _ rfl
    have y4 := cell_of_blk HY8.out 4 _ rfl
    have y5 := cell_of_blk HY8.out 5 _ rfl
    have y6 := cell_of_blk HY8.out 6 _ rfl
    have fy := frz_of_blk HY8.out
    go_wp2_with fail
    refine bodyPost_ret (v := .tuple #[.agg #[(.slice ad8 z.g.length cap8), .int .i64 (z.root : Int), .int .i64 z.steps, .int .i64 z.moved, .int .i64 z.peak, .int .i64 z.ticks, .int .i64 z.rounds], .int .i64 0]) (by simp [results, Tryz.results10, go_sem, y0, y1, y2, y3, y4, y5, y6, fy]) rfl ?_
    rw [HV.out]
    exact ⟨_, rfl, (HO8.out.far (fun k hk => st7_far (by have := HL1.out; omega))).lower HB1.out.size (fun k hk => Nat.le_trans HB1.out.size hk), st7_below HB8.out (by omega)⟩
  | false =>
    have HV : Hid (sRun ds x a limit tidy = z.tick ds limit tidy) := HSV.out.trans (if_neg (by rw [hv]; simp))
    have HVF := mkHid hv
    clear hv
    go_wp2_with fail
    refine (tick_env limit HENV.out HS3.out HW3.out HOK.out.2.1 HVF.out HOK.out.2.2.1).mono ?_
    obtain ⟨r, hrr⟩ : ∃ r, r = z.tick ds limit tidy := ⟨_, rfl⟩
    have HRC : Hid (r.2 ≤ 3) := by rw [hrr]; exact tick_code _
    rw [← hrr] at HV ⊢
    clear hrr
    rintro e w4 ⟨rfl, hw4, hs4⟩
    have HBR : Hid (Below w.heap.size w w4) := HB1.out.trans (Below.mono hs4 HB1.out.size)
    have HYR := mkHid ((Below.block hs4 _ (by have := HL1.out; omega)).trans HY1.out)
    have HER := mkHid (HE1.out.next hs4)
    have HWR := mkHid hw4
    obtain ⟨u, hu⟩ : ∃ u, u = r.1 := ⟨_, rfl⟩
    obtain ⟨cd, hcd⟩ : ∃ cd, cd = r.2 := ⟨_, rfl⟩
    have HRE : Hid (r = (u, cd)) := by rw [hu, hcd]; rfl
    rw [← hu] at HWR
    rw [← hcd] at HRC ⊢
    obtain ⟨ev, hev⟩ : ∃ ev, ev = errV aF aS aL cd := ⟨_, rfl⟩
    have HEV := mkHid hev
    rw [← hev]
    clear hw4 hs4 hu hcd hev
    go_wp2_with fail
    refine (run_calls _ _ _ _ _ _ _ w4 HWR.out).mono ?_
    rintro e w8 ⟨ad8, cap8, rfl, ho8, hb8⟩
    have HO8 := mkHid ho8
    have HB8 : Hid (Below w.heap.size w w8) := HBR.out.trans (hb8.mono HBR.out.size)
    have HY8 := mkHid ((hb8.block _ (cellsOf_ltI HYR.out)).trans HYR.out)
    have HE8 := mkHid (HER.out.next hb8)
    clear ho8 hb8
    unfold rnC
    go_wp2_with fail
    rw [HEV.out]
    refine (codeOf_calls aF aS aL cd HRC.out w8 HE8.out).mono ?_
    rintro e w9 ⟨rfl, rfl⟩
    have y0 := cell_of_blk HY8.out 0 _ rfl
    have y1 := cell_of_blk HY8.out 1 _ rfl
    have y2 := cell_of_blk HY8.out 2 _ rfl
    have y3 := cell_of_blk HY8.out 3 _ rfl
    have y4 := cell_of_blk HY8.out 4 _ rfl
    have y5 := cell_of_blk HY8.out 5 _ rfl
    have y6 := cell_of_blk HY8.out 6 _ rfl
    have fy := frz_of_blk HY8.out
    go_wp2_with fail
    refine bodyPost_ret (v := .tuple #[.agg #[(.slice ad8 u.g.length cap8), .int .i64 (u.root : Int), .int .i64 u.steps, .int .i64 u.moved, .int .i64 u.peak, .int .i64 u.ticks, .int .i64 u.rounds], .int .i64 (cd : Int)]) (by simp [results, Tryz.results10, go_sem, y0, y1, y2, y3, y4, y5, y6, fy]) rfl ?_
    rw [HV.out, HRE.out]
    exact ⟨_, rfl, (HO8.out.far (fun k hk => st7_far (by have := HL1.out; omega))).lower HB1.out.size (fun k hk => Nat.le_trans HB1.out.size hk), st7_below HB8.out (by omega)⟩
end Go.Proofs.YtiipcgnkfhjpeaaGreatDoor
/-
  SEVEN CELLS OF A BOX ARE STORED.
-/

namespace Go.Proofs.YtiipcgnkfhjpeaaGreatDoor
set_option linter.unusedVariables false
set_option linter.unusedSimpArgs false
open Go.RowKit

theorem s7_blk {w : World} {B : Nat} {a0 a1 a2 a3 a4 a5 a6 b0 b1 b2 b3 b4 b5 b6 : Value} {T : TypeId} (h : w.heap[B]? = some (.cells #[a0, a1, a2, a3, a4, a5, a6] T)) : (((((((w.setCell ⟨B, 0, none⟩ b0).setCell ⟨B, 1, none⟩ b1).setCell ⟨B, 2, none⟩ b2).setCell ⟨B, 3, none⟩ b3).setCell ⟨B, 4, none⟩ b4).setCell ⟨B, 5, none⟩ b5).setCell ⟨B, 6, none⟩ b6).heap[B]? = some (.cells #[b0, b1, b2, b3, b4, b5, b6] T) := by
  simp [World.setCell, Array.getElem?_modify, h]
theorem s7_far {w : World} {B k : Nat} {b0 b1 b2 b3 b4 b5 b6 : Value} (hk : k ≠ B) : (((((((w.setCell ⟨B, 0, none⟩ b0).setCell ⟨B, 1, none⟩ b1).setCell ⟨B, 2, none⟩ b2).setCell ⟨B, 3, none⟩ b3).setCell ⟨B, 4, none⟩ b4).setCell ⟨B, 5, none⟩ b5).setCell ⟨B, 6, none⟩ b6).heap[k]? = w.heap[k]? :=
  (Below.heap_setCell _ _ _ _ hk).trans ((Below.heap_setCell _ _ _ _ hk).trans ((Below.heap_setCell _ _ _ _ hk).trans ((Below.heap_setCell _ _ _ _ hk).trans ((Below.heap_setCell _ _ _ _ hk).trans ((Below.heap_setCell _ _ _ _ hk).trans (Below.heap_setCell _ _ _ _ hk))))))
theorem s7_below {w0 w : World} {B n : Nat} {b0 b1 b2 b3 b4 b5 b6 : Value} (h : Below n w0 w) (hB : n ≤ B) : Below n w0 (((((((w.setCell ⟨B, 0, none⟩ b0).setCell ⟨B, 1, none⟩ b1).setCell ⟨B, 2, none⟩ b2).setCell ⟨B, 3, none⟩ b3).setCell ⟨B, 4, none⟩ b4).setCell ⟨B, 5, none⟩ b5).setCell ⟨B, 6, none⟩ b6) :=
  ((((((h.setCell hB _).setCell hB _).setCell hB _).setCell hB _).setCell hB _).setCell hB _).setCell hB _
end Go.Proofs.YtiipcgnkfhjpeaaGreatDoor
/-
  THE LAWS' szRun, toRun AND eqRun.
-/
namespace Go.Proofs.YtiipcgnkfhjpeaaGreatDoor
set_option linter.unusedVariables false
set_option linter.unusedSimpArgs false
open Go.RowKit

set_option maxHeartbeats 800000 in
theorem szRun_calls (x : Rn) (a : Int) (c : Value) (left : Int) (w : World) (hk : CIn w x.g c) (h0 : 0 ≤ left) (h1 : left ≤ 4611686018427387904) :
    Calls Tryz.prog 6 #[.agg (rnA c a x), .int .i64 left] w fun e w' => e = .returned (.int .i64 (szC x.g left)) ∧ Below w.heap.size w w' := by
  have HK := mkHid hk
  obtain ⟨adg, capg, rfl, -, -, -⟩ := hk
  have HBX : Hid (Below w.heap.size w (w.alloc (.cells #[.slice adg x.g.length capg, .int .i64 a, .int .i64 x.steps, .int .i64 x.moved, .int .i64 x.peak, .int .i64 x.ticks, .int .i64 x.rounds] 25))) := box_below _ _
  have hr := szC_range x.g left h0
  unfold rnA
  go_enter Tryz.func6, Tryz.ntmps6
  go_wp2_with fail
  refine (szCells_calls x.g _ left _ (HK.out.next HBX.out) h0 h1).mono ?_
  rintro e w1 ⟨rfl, hb1⟩
  have HB1 : Hid (Below w.heap.size w w1) := HBX.out.trans (hb1.mono HBX.out.size)
  clear hb1
  by_cases hneg : szC x.g left < 0
  · have hm : szC x.g left = -1 := by omega
    have HM := mkHid hm
    rw [hm]
    clear hneg hm hr
    go_wp2_with fail
    go_ret
    exact ⟨by rw [HM.out]; rfl, HB1.out⟩
  · have hz : 0 ≤ szC x.g left := by omega
    obtain ⟨z, hze⟩ : ∃ z, z = szC x.g left := ⟨_, rfl⟩
    have HM := mkHid hze
    rw [← hze] at hz hneg hr ⊢
    clear hze
    go_wp2_with fail
    go_ret
    exact ⟨by rw [← HM.out]; rfl, HB1.out⟩
/-- a new run, its graph in memory of its own -/
def NewRun (x : Rn) (a : Int) (w : World) (e : Ending) (w' : World) : Prop := ∃ v, e = .returned (.agg (rnA v a x)) ∧ CellRow w' w.heap.size x.g v ∧ Below w.heap.size w w'
set_option maxRecDepth 100000 in
set_option maxHeartbeats 1600000 in
theorem toRun_calls (x : Rn) (a : Int) (c : Value) (w : World) (hk : CIn w x.g c) (hsz : x.g.length + sumK x.g ≤ 1048576) :
    Calls Tryz.prog 9 #[.agg (rnA c a x)] w (NewRun x a w) := by
  have HK := mkHid hk
  obtain ⟨adg, capg, rfl, -, -, -⟩ := hk
  obtain ⟨W, hW⟩ : ∃ W, W = ((w.alloc (.cells #[.slice adg x.g.length capg, .int .i64 a, .int .i64 x.steps, .int .i64 x.moved, .int .i64 x.peak, .int .i64 x.ticks, .int .i64 x.rounds] 25)).alloc (.cells #[.slice none 0 0, .int .i64 0, .int .i64 0, .int .i64 0, .int .i64 0, .int .i64 0, .int .i64 0] 30)).alloc (.cells #[.slice none 0 0, .int .i64 0, .int .i64 0, .int .i64 0, .int .i64 0, .int .i64 0, .int .i64 0] 30) := ⟨_, rfl⟩
  have HBW : Hid (Below w.heap.size w W) := by rw [hW]; exact ((box_below _ _).alloc (by rw [Deep.nblk_alloc]; omega) _).alloc (by rw [Deep.nblk_alloc, Deep.nblk_alloc]; omega) _
  have HL : Hid (W.heap.size = w.heap.size + 3) := by rw [hW, Hid, Deep.nblk_alloc, Deep.nblk_alloc, Deep.nblk_alloc]
  have HX : Hid (W.heap[w.heap.size]? = some (.cells #[.slice adg x.g.length capg, .int .i64 a, .int .i64 x.steps, .int .i64 x.moved, .int .i64 x.peak, .int .i64 x.ticks, .int .i64 x.rounds] 25)) := by
    rw [hW]
    exact (Deep.blk_alloc_lt _ _ _ (by rw [Deep.nblk_alloc, Deep.nblk_alloc]; omega)).trans ((Deep.blk_alloc_lt _ _ _ (by rw [Deep.nblk_alloc]; omega)).trans (Deep.blk_alloc_new _ _))
  have HY : Hid (W.heap[w.heap.size + 1]? = some (.cells #[.slice none 0 0, .int .i64 0, .int .i64 0, .int .i64 0, .int .i64 0, .int .i64 0, .int .i64 0] 30)) := by
    have h := Deep.blk_alloc_new (w.alloc (.cells #[.slice adg x.g.length capg, .int .i64 a, .int .i64 x.steps, .int .i64 x.moved, .int .i64 x.peak, .int .i64 x.ticks, .int .i64 x.rounds] 25)) (.cells #[.slice none 0 0, .int .i64 0, .int .i64 0, .int .i64 0, .int .i64 0, .int .i64 0, .int .i64 0] 30)
    rw [Deep.nblk_alloc] at h
    rw [hW]
    exact (Deep.blk_alloc_lt _ _ _ (by rw [Deep.nblk_alloc, Deep.nblk_alloc]; omega)).trans h
  have HZ : Hid (W.heap[w.heap.size + 2]? = some (.cells #[.slice none 0 0, .int .i64 0, .int .i64 0, .int .i64 0, .int .i64 0, .int .i64 0, .int .i64 0] 30)) := by
    have h := Deep.blk_alloc_new ((w.alloc (.cells #[.slice adg x.g.length capg, .int .i64 a, .int .i64 x.steps, .int .i64 x.moved, .int .i64 x.peak, .int .i64 x.ticks, .int .i64 x.rounds] 25)).alloc (.cells #[.slice none 0 0, .int .i64 0, .int .i64 0, .int .i64 0, .int .i64 0, .int .i64 0, .int .i64 0] 30)) (.cells #[.slice none 0 0, .int .i64 0, .int .i64 0, .int .i64 0, .int .i64 0, .int .i64 0, .int .i64 0] 30)
    rw [Deep.nblk_alloc, Deep.nblk_alloc] at h
    rw [hW]
    exact h
  unfold rnA
  go_enter Tryz.func9, Tryz.ntmps9
  go_wp2_with fail
  rw [← hW]
  clear hW
  refine (toCells_calls x.g _ W (HK.out.next HBW.out) hsz).mono ?_
  rintro e w1 ⟨v, rfl, hv, hb1⟩
  obtain ⟨adv, capv, rfl, -, -, -⟩ := id hv
  have HV := mkHid hv
  have HB1 : Hid (Below w.heap.size w w1) := HBW.out.trans (hb1.mono HBW.out.size)
  have HX1 := mkHid ((hb1.block _ (by rw [HL.out]; omega)).trans HX.out)
  have HY1 := mkHid ((hb1.block _ (by rw [HL.out]; omega)).trans HY.out)
  have HZ1 := mkHid ((hb1.block _ (by rw [HL.out]; omega)).trans HZ.out)
  clear hv hb1
  have x0 := cell_of_blk HX1.out 0 _ rfl
  have y0 := cell_of_blk HY1.out 0 _ rfl
  have z0 := cell_of_blk HZ1.out 0 _ rfl
  have x1 := cell_of_blk HX1.out 1 _ rfl
  have y1 := cell_of_blk HY1.out 1 _ rfl
  have z1 := cell_of_blk HZ1.out 1 _ rfl
  have x2 := cell_of_blk HX1.out 2 _ rfl
  have y2 := cell_of_blk HY1.out 2 _ rfl
  have z2 := cell_of_blk HZ1.out 2 _ rfl
  have x3 := cell_of_blk HX1.out 3 _ rfl
  have y3 := cell_of_blk HY1.out 3 _ rfl
  have z3 := cell_of_blk HZ1.out 3 _ rfl
  have x4 := cell_of_blk HX1.out 4 _ rfl
  have y4 := cell_of_blk HY1.out 4 _ rfl
  have z4 := cell_of_blk HZ1.out 4 _ rfl
  have x5 := cell_of_blk HX1.out 5 _ rfl
  have y5 := cell_of_blk HY1.out 5 _ rfl
  have z5 := cell_of_blk HZ1.out 5 _ rfl
  have x6 := cell_of_blk HX1.out 6 _ rfl
  have y6 := cell_of_blk HY1.out 6 _ rfl
  have z6 := cell_of_blk HZ1.out 6 _ rfl
  have fy := frz_of_blk HY1.out
  have fz := frz_of_blk HZ1.out
  go_upto_region 9 with fail
  clear x0 y0 z0 x1 y1 z1 x2 y2 z2 x3 y3 z3 x4 y4 z4 x5 y5 z5 x6 y6 z6 fy fz
  have HZ2 : Hid ((((((((w1.setCell ⟨w.heap.size + 2, 0, none⟩ (.slice adv x.g.length capv)).setCell ⟨w.heap.size + 2, 1, none⟩ (.int .i64 a)).setCell ⟨w.heap.size + 2, 2, none⟩ (.int .i64 x.steps)).setCell ⟨w.heap.size + 2, 3, none⟩ (.int .i64 x.moved)).setCell ⟨w.heap.size + 2, 4, none⟩ (.int .i64 x.peak)).setCell ⟨w.heap.size + 2, 5, none⟩ (.int .i64 x.ticks)).setCell ⟨w.heap.size + 2, 6, none⟩ (.int .i64 x.rounds)).heap[w.heap.size + 2]? = some (.cells #[.slice adv x.g.length capv, .int .i64 a, .int .i64 x.steps, .int .i64 x.moved, .int .i64 x.peak, .int .i64 x.ticks, .int .i64 x.rounds] 30)) := s7_blk HZ1.out
  have HY2 : Hid ((((((((w1.setCell ⟨w.heap.size + 2, 0, none⟩ (.slice adv x.g.length capv)).setCell ⟨w.heap.size + 2, 1, none⟩ (.int .i64 a)).setCell ⟨w.heap.size + 2, 2, none⟩ (.int .i64 x.steps)).setCell ⟨w.heap.size + 2, 3, none⟩ (.int .i64 x.moved)).setCell ⟨w.heap.size + 2, 4, none⟩ (.int .i64 x.peak)).setCell ⟨w.heap.size + 2, 5, none⟩ (.int .i64 x.ticks)).setCell ⟨w.heap.size + 2, 6, none⟩ (.int .i64 x.rounds)).heap[w.heap.size + 1]? = some (.cells #[.slice none 0 0, .int .i64 0, .int .i64 0, .int .i64 0, .int .i64 0, .int .i64 0, .int .i64 0] 30)) := (s7_far (by omega)).trans HY1.out
  have HV2 : Hid (CellRow (((((((w1.setCell ⟨w.heap.size + 2, 0, none⟩ (.slice adv x.g.length capv)).setCell ⟨w.heap.size + 2, 1, none⟩ (.int .i64 a)).setCell ⟨w.heap.size + 2, 2, none⟩ (.int .i64 x.steps)).setCell ⟨w.heap.size + 2, 3, none⟩ (.int .i64 x.moved)).setCell ⟨w.heap.size + 2, 4, none⟩ (.int .i64 x.peak)).setCell ⟨w.heap.size + 2, 5, none⟩ (.int .i64 x.ticks)).setCell ⟨w.heap.size + 2, 6, none⟩ (.int .i64 x.rounds)) (w.heap.size + 3) x.g (.slice adv x.g.length capv)) := HV.out.keep (by rw [HL.out]; exact Nat.le_refl _) (fun k hk _ => s7_far (by rw [HL.out] at hk; omega))
  have HB2 : Hid (Below w.heap.size w (((((((w1.setCell ⟨w.heap.size + 2, 0, none⟩ (.slice adv x.g.length capv)).setCell ⟨w.heap.size + 2, 1, none⟩ (.int .i64 a)).setCell ⟨w.heap.size + 2, 2, none⟩ (.int .i64 x.steps)).setCell ⟨w.heap.size + 2, 3, none⟩ (.int .i64 x.moved)).setCell ⟨w.heap.size + 2, 4, none⟩ (.int .i64 x.peak)).setCell ⟨w.heap.size + 2, 5, none⟩ (.int .i64 x.ticks)).setCell ⟨w.heap.size + 2, 6, none⟩ (.int .i64 x.rounds))) := s7_below HB1.out (by omega)
  generalize (((((((w1.setCell ⟨w.heap.size + 2, 0, none⟩ (.slice adv x.g.length capv)).setCell ⟨w.heap.size + 2, 1, none⟩ (.int .i64 a)).setCell ⟨w.heap.size + 2, 2, none⟩ (.int .i64 x.steps)).setCell ⟨w.heap.size + 2, 3, none⟩ (.int .i64 x.moved)).setCell ⟨w.heap.size + 2, 4, none⟩ (.int .i64 x.peak)).setCell ⟨w.heap.size + 2, 5, none⟩ (.int .i64 x.ticks)).setCell ⟨w.heap.size + 2, 6, none⟩ (.int .i64 x.rounds)) = w2 at HZ2 HY2 HV2 HB2 ⊢
  have y0 := cell_of_blk HY2.out 0 _ rfl
  have z0 := cell_of_blk HZ2.out 0 _ rfl
  have y1 := cell_of_blk HY2.out 1 _ rfl
  have z1 := cell_of_blk HZ2.out 1 _ rfl
  have y2 := cell_of_blk HY2.out 2 _ rfl
  have z2 := cell_of_blk HZ2.out 2 _ rfl
  have y3 := cell_of_blk HY2.out 3 _ rfl
  have z3 := cell_of_blk HZ2.out 3 _ rfl
  have y4 := cell_of_blk HY2.out 4 _ rfl
  have z4 := cell_of_blk HZ2.out 4 _ rfl
  have y5 := cell_of_blk HY2.out 5 _ rfl
  have z5 := cell_of_blk HZ2.out 5 _ rfl
  have y6 := cell_of_blk HY2.out 6 _ rfl
  have z6 := cell_of_blk HZ2.out 6 _ rfl
  have fy := frz_of_blk HY2.out
  go_wp2_with fail
  refine bodyPost_ret (v := .agg #[.slice adv x.g.length capv, .int .i64 a, .int .i64 x.steps, .int .i64 x.moved, .int .i64 x.peak, .int .i64 x.ticks, .int .i64 x.rounds]) (by simp [results, Tryz.results9, go_sem, y0, y1, y2, y3, y4, y5, y6, fy]) rfl ?_
  exact ⟨_, rfl, HV2.out.keep (by omega) (fun k hk _ => s7_far (by omega)), s7_below HB2.out (by omega)⟩

set_option maxHeartbeats 1600000 in
theorem eqRun_calls (x : Rn) (a : Int) (c d : Value) (w : World) (hc : CIn w x.g c) (hd : CIn w x.g d) :
    Calls Tryz.prog 11 #[.agg (rnA c a x), .agg (rnA d a x)] w fun e w' => e = .returned (.bool true) ∧ Below w.heap.size w w' := by
  have HC := mkHid hc
  have HD := mkHid hd
  obtain ⟨adc, capc, rfl, -, -, -⟩ := hc
  obtain ⟨add, capd, rfl, -, -, -⟩ := hd
  have HB0 : Hid (∀ o1 o2, Below w.heap.size w ((w.alloc o1).alloc o2)) := fun o1 o2 => (box_below _ _).alloc (by rw [Deep.nblk_alloc]; omega) _
  have HX : Hid (∀ o1 o2, ((w.alloc o1).alloc o2).heap[w.heap.size]? = some o1) := fun o1 o2 => (Deep.blk_alloc_lt _ _ _ (by rw [Deep.nblk_alloc]; omega)).trans (Deep.blk_alloc_new _ _)
  have HY : Hid (∀ o1 o2, ((w.alloc o1).alloc o2).heap[w.heap.size + 1]? = some o2) := fun o1 o2 => by
    have h := Deep.blk_alloc_new (w.alloc o1) o2
    rw [Deep.nblk_alloc] at h
    exact h
  have HL : Hid (∀ o1 o2, ((w.alloc o1).alloc o2).heap.size = w.heap.size + 2) := fun o1 o2 => by rw [Deep.nblk_alloc, Deep.nblk_alloc]
  unfold rnA
  go_enter Tryz.func11, Tryz.ntmps11
  go_wp2_with fail
  refine (eqCells_calls x.g _ _ _ (HC.out.next (HB0.out _ _)) (HD.out.next (HB0.out _ _))).mono ?_
  rintro e w1 ⟨rfl, hb1⟩
  have HB1 : Hid (Below w.heap.size w w1) := (HB0.out _ _).trans (hb1.mono (HB0.out _ _).size)
  have HX1 := mkHid ((hb1.block _ (by rw [HL.out]; omega)).trans (HX.out _ _))
  have HY1 := mkHid ((hb1.block _ (by rw [HL.out]; omega)).trans (HY.out _ _))
  clear hb1
  have x0 := cell_of_blk HX1.out 0 _ rfl
  have y0 := cell_of_blk HY1.out 0 _ rfl
  have x1 := cell_of_blk HX1.out 1 _ rfl
  have y1 := cell_of_blk HY1.out 1 _ rfl
  have x2 := cell_of_blk HX1.out 2 _ rfl
  have y2 := cell_of_blk HY1.out 2 _ rfl
  have x3 := cell_of_blk HX1.out 3 _ rfl
  have y3 := cell_of_blk HY1.out 3 _ rfl
  have x4 := cell_of_blk HX1.out 4 _ rfl
  have y4 := cell_of_blk HY1.out 4 _ rfl
  have x5 := cell_of_blk HX1.out 5 _ rfl
  have y5 := cell_of_blk HY1.out 5 _ rfl
  have x6 := cell_of_blk HX1.out 6 _ rfl
  have y6 := cell_of_blk HY1.out 6 _ rfl
  have ta : (a != a) = false := by simp
  have tsteps : (x.steps != x.steps) = false := by simp
  have tmoved : (x.moved != x.moved) = false := by simp
  have tpeak : (x.peak != x.peak) = false := by simp
  have tticks : (x.ticks != x.ticks) = false := by simp
  have trounds : (x.rounds != x.rounds) = false := by simp
  go_wp2_with fail
  go_ret
  exact ⟨rfl, HB1.out⟩
end Go.Proofs.YtiipcgnkfhjpeaaGreatDoor
/-
  THE LAWS' markRun AND heldRun: the marks of a run's graph, which lies in rows of its own.
-/
namespace Go.Proofs.YtiipcgnkfhjpeaaGreatDoor
set_option linter.unusedVariables false
set_option linter.unusedSimpArgs false
open Go.RowKit

set_option maxHeartbeats 400000 in
theorem markRun_calls (x : Rn) (a : Int) (fp : List Nat) (c : Value) (k : Int) (w : World) (h : GOwn w fp x.g c) (hz : ∀ b ∈ fp, b < w.heap.size) (h0 : 0 ≤ k) (h1 : k ≤ 1048576) (hs : x.g.length + sumK x.g ≤ 1048576) :
    Calls Tryz.prog 14 #[.agg (rnA c a x), .int .i64 k] w fun e w' => e = .returned (.int .i64 (k + 2 * (x.g.length : Int) + (sumK x.g : Int))) ∧ GOwn w' fp (labC x.g k) c ∧ ButL fp w w' := by
  have HK := mkHid h
  have HZ := mkHid hz
  have HS := mkHid hs
  obtain ⟨-, adg, capg, rfl, -, -, -⟩ := h
  have HBX : Hid (∀ o, Below w.heap.size w (w.alloc o)) := fun o => box_below _ _
  have HM : Hid (I64 (k + 2 * (x.g.length : Int) + (sumK x.g : Int))) := by unfold Hid I64; omega
  clear hz hs
  unfold rnA
  go_enter Tryz.func14, Tryz.ntmps14
  go_wp2_with fail
  refine (gmarkG_calls x.g fp _ k _ (HK.out.keep fun b hb _ => (HBX.out _).block b (HZ.out b hb)) h0 h1 HS.out).mono ?_
  rintro e w1 ⟨rfl, hk1, hb1⟩
  have HK1 := mkHid hk1
  have HB1 : Hid (ButL fp w w1) := (ButL.of_below (HBX.out _)).trans hb1
  clear hk1 hb1
  obtain ⟨z, hze⟩ : ∃ z, z = k + 2 * (x.g.length : Int) + (sumK x.g : Int) := ⟨_, rfl⟩
  have HE := mkHid hze
  rw [← hze]
  clear hze
  go_wp2_with fail
  go_ret
  exact ⟨by rw [HE.out]; rfl, HK1.out, HB1.out⟩
set_option maxHeartbeats 400000 in
theorem heldRun_calls (x : Rn) (a : Int) (g : List Ce) (c : Value) (k : Int) (w : World) (hl : x.g = labC g k) (hk : CIn w x.g c) (h0 : 0 ≤ k) (h1 : k ≤ 1048576) (hs : g.length + sumK g ≤ 1048576) :
    Calls Tryz.prog 15 #[.agg (rnA c a x), .int .i64 k] w fun e w' => e = .returned (.int .i64 (k + 2 * (g.length : Int) + (sumK g : Int))) ∧ Below w.heap.size w w' := by
  have HK := mkHid hk
  have HLB := mkHid hl
  have HS := mkHid hs
  obtain ⟨adg, capg, rfl, -, -, -⟩ := hk
  have HBX : Hid (∀ o, Below w.heap.size w (w.alloc o)) := fun o => box_below _ _
  obtain ⟨z, hze⟩ : ∃ z, z = k + 2 * (g.length : Int) + (sumK g : Int) := ⟨_, rfl⟩
  have HE := mkHid hze
  have hz0 : 0 ≤ z := by omega
  have hz1 : ¬ z < 0 := by omega
  clear hze hs hl
  unfold rnA
  go_enter Tryz.func15, Tryz.ntmps15
  go_wp2_with fail
  refine (gheld_calls g _ k _ (by rw [← HLB.out]; exact HK.out.next (HBX.out _)) h0 (by omega) HS.out).mono ?_
  rintro e w1 ⟨rfl, hb1⟩
  have HB1 : Hid (Below w.heap.size w w1) := (HBX.out _).trans (hb1.mono (HBX.out _).size)
  clear hb1
  rw [← HE.out]
  go_wp2_with fail
  go_ret
  exact ⟨by rw [HE.out]; rfl, HB1.out⟩
end Go.Proofs.YtiipcgnkfhjpeaaGreatDoor
/-
  A COPY OF A GRAPH, AS ROWS THAT MAY BE MARKED.
-/
namespace Go.Proofs.YtiipcgnkfhjpeaaGreatDoor
set_option linter.unusedVariables false
set_option linter.unusedSimpArgs false
open Go.RowKit

theorem CellRow.shape {w : World} {lo : Nat} {g : List Ce} {v : Value} (h : CellRow w lo g v) : CShape w (List.range' lo (w.heap.size - lo)) (g.map (·.kids.length)) v := by
  obtain ⟨ad, cap, e, l1, l2, h⟩ := h
  refine ⟨ad, cap, by rw [List.length_map]; exact e, by rw [List.length_map]; exact l1, l2, ?_⟩
  rcases h with rfl | ⟨b, f, rfl, hb, hr, hf⟩
  · exact Or.inl rfl
  · refine Or.inr ⟨b, f, rfl, by rw [List.mem_range'_1]; have := hr.lt; omega, hr, fun i hi => ?_⟩
    rw [List.length_map] at hi
    obtain ⟨-, -, -, -, ad2, cap2, e2, l3, l4, h2⟩ := hf i hi
    refine ⟨ad2, cap2, by rw [e2]; simp, by simpa using l3, l4, ?_⟩
    rcases h2 with h2 | ⟨b2, f2, rfl, hb2, hr2, -⟩
    · left; simp [h2]
    · exact Or.inr ⟨b2, f2, rfl, by rw [List.mem_range'_1]; have := hr2.lt; omega, hr2⟩
theorem sum_shape (g : List Ce) : sumN' (g.map (·.kids.length)) = sumK g := rfl
end Go.Proofs.YtiipcgnkfhjpeaaGreatDoor
/-
  THE LAWS' markRun OF A RUN WHOSE GRAPH IS KNOWN BY ITS SHAPE.
-/
namespace Go.Proofs.YtiipcgnkfhjpeaaGreatDoor
set_option linter.unusedVariables false
set_option linter.unusedSimpArgs false
open Go.RowKit

set_option maxHeartbeats 400000 in
theorem markRunS_calls (x : Rn) (a : Int) (fp : List Nat) (c : Value) (k : Int) (w : World) (h : CShape w fp (x.g.map (·.kids.length)) c) (hz : ∀ b ∈ fp, b < w.heap.size) (h0 : 0 ≤ k) (h1 : k ≤ 288230376151711744) (hs : x.g.length + sumK x.g ≤ 1048576) :
    Calls Tryz.prog 14 #[.agg (rnA c a x), .int .i64 k] w fun e w' => e = .returned (.int .i64 (k + (2 * x.g.length + sumK x.g : Nat))) ∧ ButL fp w w' := by
  have HK := mkHid h
  have HZ := mkHid hz
  have HS : Hid ((x.g.map (·.kids.length)).length + sumN' (x.g.map (·.kids.length)) ≤ 1048576) := by rw [Hid, sum_shape, List.length_map]; exact hs
  obtain ⟨adg, capg, rfl, -, -, -⟩ := h
  have HBX : Hid (∀ o, Below w.heap.size w (w.alloc o)) := fun o => box_below _ _
  obtain ⟨z, hze⟩ : ∃ z : Int, z = k + (2 * x.g.length + sumK x.g : Nat) := ⟨_, rfl⟩
  have HE := mkHid hze
  have HM : Hid (I64 z) := by rw [hze]; unfold Hid I64; omega
  clear hz hs hze
  rw [List.length_map] at HK ⊢
  unfold rnA
  go_enter Tryz.func14, Tryz.ntmps14
  go_wp2_with fail
  refine (markCells_calls (x.g.map (·.kids.length)) fp _ k _ (HK.out.blocks fun b hb => (HBX.out _).block b (HZ.out b hb)) h0 (by omega) HS.out).mono ?_
  rintro e w1 ⟨rfl, hb1⟩
  have HB1 : Hid (ButL fp w w1) := (ButL.of_below (HBX.out _)).trans hb1
  clear hb1
  rw [sum_shape, List.length_map, ← HE.out]
  go_wp2_with fail
  go_ret
  exact ⟨by rw [HE.out]; rfl, HB1.out⟩
end Go.Proofs.YtiipcgnkfhjpeaaGreatDoor
