/-
  THE MODEL's l6Eval.
-/
import Derived.Test.YtiipcgnkfhjpeaaGreatDoorMgExactStepRun29
import Derived.Deep.LoopGhost
import Derived.Test.YtiipcgnkfhjpeaaGreatDoorMgExactStepRun17
import Derived.Test.YtiipcgnkfhjpeaaGreatDoorMgExactStepRun18
import Derived.Test.YtiipcgnkfhjpeaaGreatDoorMgExactStepRun24
import Derived.Test.YtiipcgnkfhjpeaaGreatDoorMgExactStepRun13
import Derived.Test.YtiipcgnkfhjpeaaGreatDoorMgExactStepRun26
import Derived.Test.YtiipcgnkfhjpeaaGreatDoorMgExactStepRun11
import Derived.Test.YtiipcgnkfhjpeaaGreatDoorMgExactStepRun19
import Derived.Deep.DeepCutAuto
import Derived.Deep.RegionWith
import Derived.Deep.RegionHeld3
import Derived.Deep.RegionLaw
import Derived.IntWalk
import Derived.Test.YtiipcgnkfhjpeaaGreatDoorMgExactStepRun23
namespace Go.Proofs.YtiipcgnkfhjpeaaGreatDoor
set_option linter.unusedVariables false
set_option linter.unusedSimpArgs false
open Go.RowKit



end Go.Proofs.YtiipcgnkfhjpeaaGreatDoor
/-
  THE MODEL's l2Args: the function of nested applications, and its arguments in order; nothing that was there is changed.
-/
namespace Go.Proofs.YtiipcgnkfhjpeaaGreatDoor
set_option linter.unusedVariables false
set_option linter.unusedSimpArgs false
open Go.RowKit

end Go.Proofs.YtiipcgnkfhjpeaaGreatDoor
/-
  THE MODEL's l2Head, l2Closed, IsHead: which closed expressions are values; nothing that was there is changed.
-/
namespace Go.Proofs.YtiipcgnkfhjpeaaGreatDoor
set_option linter.unusedVariables false
set_option linter.unusedSimpArgs false
open Go.RowKit

end Go.Proofs.YtiipcgnkfhjpeaaGreatDoor
/-
  THE MODEL's StartRun.
-/
namespace Go.Proofs.YtiipcgnkfhjpeaaGreatDoor
set_option linter.unusedVariables false
set_option linter.unusedSimpArgs false
open Go.RowKit

end Go.Proofs.YtiipcgnkfhjpeaaGreatDoor
/-
  THE MODEL's RunValid AND l6Limit.
-/
namespace Go.Proofs.YtiipcgnkfhjpeaaGreatDoor
set_option linter.unusedVariables false
set_option linter.unusedSimpArgs false
open Go.RowKit

set_option maxHeartbeats 400000 in
theorem l6Limit_calls (n : Int) (w : World) : Calls Tryz.prog 25 #[.int .i64 n] w fun e w' => e = .returned (.bool (btB n 400)) ∧ w = w' := by
  by_cases h0 : 0 ≤ n
  · by_cases h1 : n ≤ 400
    · have HV : Hid (btB n 400 = true) := by rw [Hid, btB, decide_eq_true_eq]; exact ⟨h0, h1⟩
      go_enter Tryz.func25, Tryz.ntmps25
      go_wp2_with fail
      go_ret
      exact ⟨ret_bool HV.out.symm, rfl⟩
    · have HV : Hid (btB n 400 = false) := by rw [Hid, btB, decide_eq_false_iff_not]; rintro ⟨-, h⟩; exact h1 h
      have h1' : decide (n ≤ 400) = false := by simpa using h1
      have h2' : 400 < n := by omega
      go_enter Tryz.func25, Tryz.ntmps25
      go_wp2_with fail
      go_ret
      exact ⟨ret_bool HV.out.symm, rfl⟩
  · have HV : Hid (btB n 400 = false) := by rw [Hid, btB, decide_eq_false_iff_not]; rintro ⟨h, -⟩; exact h0 h
    have h0' : decide (0 ≤ n) = false := by simpa using h0
    have h2' : n < 0 := by omega
    go_enter Tryz.func25, Tryz.ntmps25
    go_wp2_with fail
    go_ret
    exact ⟨ret_bool HV.out.symm, rfl⟩
set_option maxRecDepth 100000 in
set_option maxHeartbeats 3200000 in
theorem specRv_calls (ds : List Df) (x : Rn) (a : Int) (c gv : Value) (w : World) (hd : DIn w ds c) (hk : CIn w x.g gv) :
    Calls Tryz.prog 24 #[c, .agg (rnA gv a x)] w fun e w' => e = .returned (.bool (rvB ds x a)) ∧ Below w.heap.size w w' := by
  have HD := mkHid hd
  have HK := mkHid hk
  obtain ⟨adg, capg, rfl, -, -, -⟩ := hk
  obtain ⟨adc, capc, rfl, -, -, -⟩ := hd
  unfold rnA
  have HBX : Hid (Below w.heap.size w (w.alloc (.cells #[.slice adg x.g.length capg, .int .i64 a, .int .i64 x.steps, .int .i64 x.moved, .int .i64 x.peak, .int .i64 x.ticks, .int .i64 x.rounds] 30))) := box_below _ _
  by_cases hsteps0 : 0 ≤ x.steps
  case neg =>
    have HV : Hid (rvB ds x a = false) := rvB_no (by unfold Rn.Sm; omega)
    have hsteps0' : decide (0 ≤ x.steps) = false := by simpa using hsteps0
    have hsteps0n : x.steps < 0 := by omega
    go_enter Tryz.func24, Tryz.ntmps24
    go_wp2_with fail
    go_ret
    exact ⟨ret_bool HV.out.symm, HBX.out⟩
  by_cases hsteps1 : x.steps ≤ 1000
  case neg =>
    have HV : Hid (rvB ds x a = false) := rvB_no (by unfold Rn.Sm; omega)
    have hsteps1' : decide (x.steps ≤ 1000) = false := by simpa using hsteps1
    have hsteps1n : 1000 < x.steps := by omega
    go_enter Tryz.func24, Tryz.ntmps24
    go_wp2_with fail
    go_ret
    exact ⟨ret_bool HV.out.symm, HBX.out⟩
  by_cases hmoved0 : 0 ≤ x.moved
  case neg =>
    have HV : Hid (rvB ds x a = false) := rvB_no (by unfold Rn.Sm; omega)
    have hmoved0' : decide (0 ≤ x.moved) = false := by simpa using hmoved0
    have hmoved0n : x.moved < 0 := by omega
    go_enter Tryz.func24, Tryz.ntmps24
    go_wp2_with fail
    go_ret
    exact ⟨ret_bool HV.out.symm, HBX.out⟩
  by_cases hmoved1 : x.moved ≤ 1000000
  case neg =>
    have HV : Hid (rvB ds x a = false) := rvB_no (by unfold Rn.Sm; omega)
    have hmoved1' : decide (x.moved ≤ 1000000) = false := by simpa using hmoved1
    have hmoved1n : 1000000 < x.moved := by omega
    go_enter Tryz.func24, Tryz.ntmps24
    go_wp2_with fail
    go_ret
    exact ⟨ret_bool HV.out.symm, HBX.out⟩
  by_cases hpeak0 : 0 ≤ x.peak
  case neg =>
    have HV : Hid (rvB ds x a = false) := rvB_no (by unfold Rn.Sm; omega)
    have hpeak0' : decide (0 ≤ x.peak) = false := by simpa using hpeak0
    have hpeak0n : x.peak < 0 := by omega
    go_enter Tryz.func24, Tryz.ntmps24
    go_wp2_with fail
    go_ret
    exact ⟨ret_bool HV.out.symm, HBX.out⟩
  by_cases hpeak1 : x.peak ≤ 400
  case neg =>
    have HV : Hid (rvB ds x a = false) := rvB_no (by unfold Rn.Sm; omega)
    have hpeak1' : decide (x.peak ≤ 400) = false := by simpa using hpeak1
    have hpeak1n : 400 < x.peak := by omega
    go_enter Tryz.func24, Tryz.ntmps24
    go_wp2_with fail
    go_ret
    exact ⟨ret_bool HV.out.symm, HBX.out⟩
  by_cases hticks0 : 0 ≤ x.ticks
  case neg =>
    have HV : Hid (rvB ds x a = false) := rvB_no (by unfold Rn.Sm; omega)
    have hticks0' : decide (0 ≤ x.ticks) = false := by simpa using hticks0
    have hticks0n : x.ticks < 0 := by omega
    go_enter Tryz.func24, Tryz.ntmps24
    go_wp2_with fail
    go_ret
    exact ⟨ret_bool HV.out.symm, HBX.out⟩
  by_cases hticks1 : x.ticks ≤ 1000
  case neg =>
    have HV : Hid (rvB ds x a = false) := rvB_no (by unfold Rn.Sm; omega)
    have hticks1' : decide (x.ticks ≤ 1000) = false := by simpa using hticks1
    have hticks1n : 1000 < x.ticks := by omega
    go_enter Tryz.func24, Tryz.ntmps24
    go_wp2_with fail
    go_ret
    exact ⟨ret_bool HV.out.symm, HBX.out⟩
  by_cases hrounds0 : 0 ≤ x.rounds
  case neg =>
    have HV : Hid (rvB ds x a = false) := rvB_no (by unfold Rn.Sm; omega)
    have hrounds0' : decide (0 ≤ x.rounds) = false := by simpa using hrounds0
    have hrounds0n : x.rounds < 0 := by omega
    go_enter Tryz.func24, Tryz.ntmps24
    go_wp2_with fail
    go_ret
    exact ⟨ret_bool HV.out.symm, HBX.out⟩
  by_cases hrounds1 : x.rounds ≤ 1000
  case neg =>
    have HV : Hid (rvB ds x a = false) := rvB_no (by unfold Rn.Sm; omega)
    have hrounds1' : decide (x.rounds ≤ 1000) = false := by simpa using hrounds1
    have hrounds1n : 1000 < x.rounds := by omega
    go_enter Tryz.func24, Tryz.ntmps24
    go_wp2_with fail
    go_ret
    exact ⟨ret_bool HV.out.symm, HBX.out⟩
  have HV : Hid (rvB ds x a = rightB ds x.g a) := rvB_of (by unfold Rn.Sm; omega)
  go_enter Tryz.func24, Tryz.ntmps24
  go_wp2_with fail
  refine (l4Right_calls ds x.g a _ _ _ (HD.out.next HBX.out) (HK.out.next HBX.out)).mono ?_
  rintro e w1 ⟨rfl, hb1⟩
  have HB1 : Hid (Below w.heap.size w w1) := HBX.out.trans (hb1.mono HBX.out.size)
  rw [← HV.out]
  clear hb1
  go_wp2_with fail
  go_ret
  exact ⟨rfl, HB1.out⟩
end Go.Proofs.YtiipcgnkfhjpeaaGreatDoor
/-
  THE MODEL's EvalRun AND StepRun.
-/
namespace Go.Proofs.YtiipcgnkfhjpeaaGreatDoor
set_option linter.unusedVariables false
set_option linter.unusedSimpArgs false
open Go.RowKit



/-- a run by value and a number; its graph lies in new blocks -/
def GotRCN (r : Rn × Nat) (w : World) (e : Ending) (w' : World) : Prop := ∃ gv, e = .returned (.tuple #[.agg (rnC gv r.1), .int .i64 (r.2 : Int)]) ∧ CellsOn w' (fun k => k < w'.heap.size ∧ w.heap.size ≤ k) r.1.g gv ∧ Below w.heap.size w w'
theorem GotRCN.old {r : Rn × Nat} {w : World} {e : Ending} {w' : World} (h : GotRCN r w e w') : GotRC r w e w' := by
  obtain ⟨gv, h1, h2, h3⟩ := h
  exact ⟨gv, h1, h2.mono (fun k hk => hk.1) fun _ _ => rfl, h3⟩
set_option maxRecDepth 100000 in
set_option maxHeartbeats 6400000 in
theorem specStepRN_calls (ds : List Df) (x : Rn) (a : Int) (c gv : Value) (limit : Int) (tidy : Bool) (w : World) (hd : DIn w ds c) (hk : CIn w x.g gv) :
    Calls Tryz.prog 7 #[c, .agg (rnA gv a x), .int .i64 limit, .bool tidy] w (GotRCN (sRun ds x a limit tidy) w) := by
  have HD := mkHid hd
  have HKK := mkHid hk
  obtain ⟨adg, capg, rfl, -, -, -⟩ := hk
  obtain ⟨adc, capc, rfl, -, -, -⟩ := hd
  unfold rnA
  obtain ⟨W, hW⟩ : ∃ W, W = (w.alloc (.cells #[.slice adg x.g.length capg, .int .i64 a, .int .i64 x.steps, .int .i64 x.moved, .int .i64 x.peak, .int .i64 x.ticks, .int .i64 x.rounds] 30)).alloc (.cells #[.slice none 0 0, .int .i64 0, .int .i64 0, .int .i64 0, .int .i64 0, .int .i64 0, .int .i64 0] 30) := ⟨_, rfl⟩
  have HB_W : Hid (Below w.heap.size w W) := by rw [hW]; exact (box_below _ _).alloc (by rw [Deep.nblk_alloc]; omega) _
  have HX_W : Hid (W.heap[w.heap.size]? = some (.cells #[.slice adg x.g.length capg, .int .i64 a, .int .i64 x.steps, .int .i64 x.moved, .int .i64 x.peak, .int .i64 x.ticks, .int .i64 x.rounds] 30)) := by
    rw [hW]; exact (Deep.blk_alloc_lt _ _ _ (by rw [Deep.nblk_alloc]; omega)).trans (Deep.blk_alloc_new _ _)
  have HY_W : Hid (W.heap[w.heap.size + 1]? = some (.cells #[.slice none 0 0, .int .i64 0, .int .i64 0, .int .i64 0, .int .i64 0, .int .i64 0, .int .i64 0] 30)) := by
    have h := Deep.blk_alloc_new (w.alloc (.cells #[.slice adg x.g.length capg, .int .i64 a, .int .i64 x.steps, .int .i64 x.moved, .int .i64 x.peak, .int .i64 x.ticks, .int .i64 x.rounds] 30)) (.cells #[.slice none 0 0, .int .i64 0, .int .i64 0, .int .i64 0, .int .i64 0, .int .i64 0, .int .i64 0] 30)
    rw [Deep.nblk_alloc] at h
    rw [hW]; exact h
  have HL_W : Hid (w.heap.size + 2 ≤ W.heap.size) := by rw [hW, Hid, Deep.nblk_alloc, Deep.nblk_alloc]; exact Nat.le_refl _
  go_enter Tryz.func7, Tryz.ntmps7
  go_wp2_with fail
  rw [← hW]
  clear hW
  refine (specRv_calls ds x a _ _ W (HD.out.next HB_W.out) (HKK.out.next HB_W.out)).mono ?_
  rintro e w1 ⟨rfl, hb1⟩
  have HB1 : Hid (Below w.heap.size w w1) := HB_W.out.trans (hb1.mono HB_W.out.size)
  have HL1 : Hid (w.heap.size + 2 ≤ w1.heap.size) := Nat.le_trans HL_W.out hb1.size
  have HX1 := mkHid ((hb1.block _ (by have := HL_W.out; omega)).trans HX_W.out)
  have HY1 := mkHid ((hb1.block _ (by have := HL_W.out; omega)).trans HY_W.out)
  clear hb1
  have sno : ¬ (ctB ds x a = true ∧ btB limit 400 = true) → sRun ds x a limit tidy = (rnZ, 4) := fun h => by unfold sRun; rw [if_neg h]
  have SNO := mkHid sno
  clear sno
  have y0 := cell_of_blk HY1.out 0 _ rfl
  have y1 := cell_of_blk HY1.out 1 _ rfl
  have y2 := cell_of_blk HY1.out 2 _ rfl
  have y3 := cell_of_blk HY1.out 3 _ rfl
  have y4 := cell_of_blk HY1.out 4 _ rfl
  have y5 := cell_of_blk HY1.out 5 _ rfl
  have y6 := cell_of_blk HY1.out 6 _ rfl
  have fy := frz_of_blk HY1.out
  cases hr : rvB ds x a with
  | false =>
    have HV : Hid (sRun ds x a limit tidy = (rnZ, 4)) := SNO.out (by rw [ctB_noR hr]; simp)
    clear hr
    go_wp2_with fail
    refine bodyPost_ret (v := .tuple #[.agg (rnC (.slice none 0 0) rnZ), .int .i64 4]) (by simp [results, Tryz.results7, go_sem, y0, y1, y2, y3, y4, y5, y6, fy, rnC, rnZ]) rfl ?_
    rw [HV.out]
    exact ⟨_, rfl, ⟨none, 0, rfl, Nat.le_refl _, by simp [maxLen], Or.inl rfl⟩, st7_below HB1.out (by omega)⟩
  | true =>
  have HR := mkHid hr
  clear hr
  go_wp2_with fail
  refine (l6Limit_calls limit w1).mono ?_
  rintro e w2 ⟨rfl, rfl⟩
  cases hl : btB limit 400 with
  | false =>
    have HV : Hid (sRun ds x a limit tidy = (rnZ, 4)) := SNO.out (by rw [hl]; simp)
    clear hl
    go_wp2_with fail
    refine bodyPost_ret (v := .tuple #[.agg (rnC (.slice none 0 0) rnZ), .int .i64 4]) (by simp [results, Tryz.results7, go_sem, y0, y1, y2, y3, y4, y5, y6, fy, rnC, rnZ]) rfl ?_
    rw [HV.out]
    exact ⟨_, rfl, ⟨none, 0, rfl, Nat.le_refl _, by simp [maxLen], Or.inl rfl⟩, st7_below HB1.out (by omega)⟩
  | true =>
  have HLT := mkHid hl
  clear hl

  have x0 := cell_of_blk HX1.out 0 _ rfl
  have x1 := cell_of_blk HX1.out 1 _ rfl
  have x2 := cell_of_blk HX1.out 2 _ rfl
  have x3 := cell_of_blk HX1.out 3 _ rfl
  have x4 := cell_of_blk HX1.out 4 _ rfl
  have x5 := cell_of_blk HX1.out 5 _ rfl
  have x6 := cell_of_blk HX1.out 6 _ rfl
  by_cases hsteps : x.steps ≤ 900
  case neg =>
    have HV : Hid (sRun ds x a limit tidy = (rnZ, 4)) := SNO.out (by rw [ctB_no (by omega)]; simp)
    have hsteps' : decide (x.steps ≤ 900) = false := by simpa using hsteps
    have hstepsn : 900 < x.steps := by omega
    go_wp2_with fail
    refine bodyPost_ret (v := .tuple #[.agg (rnC (.slice none 0 0) rnZ), .int .i64 4]) (by simp [results, Tryz.results7, go_sem, y0, y1, y2, y3, y4, y5, y6, fy, rnC, rnZ]) rfl ?_
    rw [HV.out]
    exact ⟨_, rfl, ⟨none, 0, rfl, Nat.le_refl _, by simp [maxLen], Or.inl rfl⟩, st7_below HB1.out (by omega)⟩

  by_cases hrounds : x.rounds ≤ 900
  case neg =>
    have HV : Hid (sRun ds x a limit tidy = (rnZ, 4)) := SNO.out (by rw [ctB_no (by omega)]; simp)
    have hrounds' : decide (x.rounds ≤ 900) = false := by simpa using hrounds
    have hroundsn : 900 < x.rounds := by omega
    go_wp2_with fail
    refine bodyPost_ret (v := .tuple #[.agg (rnC (.slice none 0 0) rnZ), .int .i64 4]) (by simp [results, Tryz.results7, go_sem, y0, y1, y2, y3, y4, y5, y6, fy, rnC, rnZ]) rfl ?_
    rw [HV.out]
    exact ⟨_, rfl, ⟨none, 0, rfl, Nat.le_refl _, by simp [maxLen], Or.inl rfl⟩, st7_below HB1.out (by omega)⟩

  by_cases hmoved : x.moved ≤ 900000
  case neg =>
    have HV : Hid (sRun ds x a limit tidy = (rnZ, 4)) := SNO.out (by rw [ctB_no (by omega)]; simp)
    have hmoved' : decide (x.moved ≤ 900000) = false := by simpa using hmoved
    have hmovedn : 900000 < x.moved := by omega
    go_wp2_with fail
    refine bodyPost_ret (v := .tuple #[.agg (rnC (.slice none 0 0) rnZ), .int .i64 4]) (by simp [results, Tryz.results7, go_sem, y0, y1, y2, y3, y4, y5, y6, fy, rnC, rnZ]) rfl ?_
    rw [HV.out]
    exact ⟨_, rfl, ⟨none, 0, rfl, Nat.le_refl _, by simp [maxLen], Or.inl rfl⟩, st7_below HB1.out (by omega)⟩

  have HCT : Hid (ctB ds x a = true) := ctB_iff.2 ⟨HR.out, hsteps, hrounds, hmoved⟩
  have HOK := mkHid (ctB_ok HCT.out)
  obtain ⟨z, hz⟩ : ∃ z, z = x.at a := ⟨_, rfl⟩
  have HZE := mkHid hz
  have hzg : x.g = z.g := by rw [hz]; rfl
  have hza : a = (z.root : Int) := by rw [hz]; exact HOK.out.2.2.2.1.symm
  have HSV : Hid (sRun ds x a limit tidy = if z.val ds = true then (z, 0) else z.tick ds limit tidy) := by rw [hz]; unfold Hid sRun; rw [if_pos ⟨HCT.out, HLT.out⟩]
  have e1 : x.steps = z.steps := by rw [hz]; rfl
  have e2 : x.moved = z.moved := by rw [hz]; rfl
  have e3 : x.peak = z.peak := by rw [hz]; rfl
  have e4 : x.ticks = z.ticks := by rw [hz]; rfl
  have e5 : x.rounds = z.rounds := by rw [hz]; rfl
  rw [← hz] at HOK
  have HK2 : Hid (CIn w1 z.g (.slice adg z.g.length capg)) := by rw [← hzg]; exact HKK.out.next HB1.out
  have HEQ := mkHid (And.intro hzg (And.intro hza (And.intro e1 (And.intro e2 (And.intro e3 (And.intro e4 e5))))))
  clear e1 e2 e3 e4 e5 hzg hza hz
  go_wp2_with fail
  obtain ⟨hzg, hza, e1, e2, e3, e4, e5⟩ := HEQ.out
  rw [hzg, hza]
  refine (l4Value_calls ds z.g z.root _ _ w1 (HD.out.next HB1.out) HK2.out HOK.out.2.1.1 HOK.out.2.1.2).mono ?_
  rintro e w2 ⟨rfl, hb2⟩
  have HB2 : Hid (Below w.heap.size w w2) := HB1.out.trans (hb2.mono HB1.out.size)
  have HL2 : Hid (w.heap.size + 2 ≤ w2.heap.size) := Nat.le_trans HL1.out hb2.size
  have HX2 := mkHid ((hb2.block _ (by have := HL1.out; omega)).trans HX1.out)
  have HY2 := mkHid ((hb2.block _ (by have := HL1.out; omega)).trans HY1.out)
  have HK3 := mkHid (HK2.out.next hb2)
  rw [hzg, hza, e1, e2, e3, e4, e5] at HX2
  clear hb2 x0 x1 x2 x3 x4 x5 x6 y0 y1 y2 y3 y4 y5 y6 fy hsteps hrounds hmoved e1 e2 e3 e4 e5 hzg hza

  have x0 := cell_of_blk HX2.out 0 _ rfl
  have x1 := cell_of_blk HX2.out 1 _ rfl
  have x2 := cell_of_blk HX2.out 2 _ rfl
  have x3 := cell_of_blk HX2.out 3 _ rfl
  have x4 := cell_of_blk HX2.out 4 _ rfl
  have x5 := cell_of_blk HX2.out 5 _ rfl
  have x6 := cell_of_blk HX2.out 6 _ rfl
  cases hv : z.val ds with
  | true =>
    have HV : Hid (sRun ds x a limit tidy = (z, 0)) := HSV.out.trans (if_pos hv)
    have ev : valB (arsOf ds) z.g z.root = true := hv
    rw [ev]
    clear hv ev
    go_wp2_with fail
    refine (l6Copy_calls z (.slice adg z.g.length capg) w2 HK3.out ⟨_, HOK.out.2.1.1⟩).mono ?_
    rintro e w5 ⟨gv5, rfl, hk5, hb5⟩
    obtain ⟨ad5, cap5, rfl, -, -, -⟩ := id hk5
    have HK5 := mkHid hk5
    have HB5 : Hid (Below w.heap.size w w5) := HB2.out.trans (hb5.mono HB2.out.size)
    have HY5 := mkHid ((hb5.block _ (by have := HL2.out; omega)).trans HY2.out)
    clear hk5 hb5 x0 x1 x2 x3 x4 x5 x6
    unfold rnC
    have y0 := cell_of_blk HY5.out 0 _ rfl
    have y1 := cell_of_blk HY5.out 1 _ rfl
    have y2 := cell_of_blk HY5.out 2 _ rfl
    have y3 := cell_of_blk HY5.out 3 _ rfl
    have y4 := cell_of_blk HY5.out 4 _ rfl
    have y5 := cell_of_blk HY5.out 5 _ rfl
    have y6 := cell_of_blk HY5.out 6 _ rfl
    have fy := frz_of_blk HY5.out
    go_wp2_with fail
    refine bodyPost_ret (v := .tuple #[.agg #[(.slice ad5 z.g.length cap5), .int .i64 (z.root : Int), .int .i64 z.steps, .int .i64 z.moved, .int .i64 z.peak, .int .i64 z.ticks, .int .i64 z.rounds], .int .i64 0]) (by simp [results, Tryz.results7, go_sem, y0, y1, y2, y3, y4, y5, y6, fy]) rfl ?_
    rw [HV.out]
    refine ⟨_, rfl, ?_, st7_below HB5.out (by omega)⟩
    exact CellsOn.mono HK5.out (fun k hk => by rw [st7_size]; exact ⟨hk.1, by have := hk.2; have := HL2.out; omega⟩) (fun k hk => st7_far (by have := hk.2; have := HL2.out; omega))
  | false =>
    have HV : Hid (sRun ds x a limit tidy = z.tick ds limit tidy) := HSV.out.trans (if_neg (by rw [hv]; simp))
    have HVF := mkHid hv
    have ev : valB (arsOf ds) z.g z.root = false := hv
    rw [ev]
    clear hv ev
    go_wp2_with fail
    clear x0 x1 x2 x3 x4 x5 x6
    refine (l6Step_calls ds z _ (.slice adg z.g.length capg) limit tidy w2 (Lt w2.heap.size) (HD.out.next HB2.out) HK3.out (fun _ h => h) HOK.out.2.1 HOK.out.1 HOK.out.2.2.1 HVF.out (by have := HOK.out.2.2.2.2; omega)).mono ?_
    obtain ⟨r, hrr⟩ : ∃ r, r = z.tick ds limit tidy := ⟨_, rfl⟩
    have HROK : Hid (r.1.Ok ds) := by rw [hrr]; exact HOK.out.2.1.tick HOK.out.1 limit tidy
    rw [← hrr] at HV ⊢
    clear hrr
    rintro e w3 ⟨gv3, rfl, hk3, hb3⟩
    obtain ⟨ad3, cap3, rfl, -, -, -⟩ := id hk3
    have HK3' : Hid (CIn w3 r.1.g (.slice ad3 r.1.g.length cap3)) := hk3.inW
    have HB3 : Hid (Below w.heap.size w w3) := HB2.out.trans (hb3.mono HB2.out.size)
    have HY3 := mkHid ((hb3.block _ (by have := HL2.out; omega)).trans HY2.out)
    have HL3 : Hid (w.heap.size + 2 ≤ w3.heap.size) := Nat.le_trans HL2.out hb3.size
    obtain ⟨u, hu⟩ : ∃ u, u = r.1 := ⟨_, rfl⟩
    obtain ⟨cd, hcd⟩ : ∃ cd, cd = r.2 := ⟨_, rfl⟩
    have HRE : Hid (r = (u, cd)) := by rw [hu, hcd]; rfl
    rw [← hu] at HK3' HROK ⊢
    rw [← hcd]
    clear hk3 hb3 hu hcd
    unfold rnC
    go_wp2_with fail
    have HBB : Hid (Below w3.heap.size w3 (w3.alloc (.cells #[.slice ad3 u.g.length cap3, .int .i64 (u.root : Int), .int .i64 u.steps, .int .i64 u.moved, .int .i64 u.peak, .int .i64 u.ticks, .int .i64 u.rounds] 30))) := box_below _ _
    refine (l6Copy_calls u (.slice ad3 u.g.length cap3) _ (HK3'.out.next HBB.out) ⟨_, HROK.out.1⟩).mono ?_
    rintro e w5 ⟨gv5, rfl, hk5, hb5⟩
    obtain ⟨ad5, cap5, rfl, -, -, -⟩ := id hk5
    have HK5 := mkHid hk5
    have HB5 : Hid (Below w.heap.size w w5) := (HB3.out.trans (HBB.out.mono HB3.out.size)).trans (hb5.mono (by rw [Deep.nblk_alloc]; have := HB3.out.size; omega))
    have HY5 := mkHid ((hb5.block _ (by rw [Deep.nblk_alloc]; have := HL3.out; omega)).trans ((HBB.out.block _ (by have := HL3.out; omega)).trans HY3.out))
    have HN5 : Hid (w.heap.size + 2 ≤ (w3.alloc (.cells #[.slice ad3 u.g.length cap3, .int .i64 (u.root : Int), .int .i64 u.steps, .int .i64 u.moved, .int .i64 u.peak, .int .i64 u.ticks, .int .i64 u.rounds] 30)).heap.size) := by rw [Hid, Deep.nblk_alloc]; have := HL3.out; omega
    clear hk5 hb5
    unfold rnC
    have y0 := cell_of_blk HY5.out 0 _ rfl
    have y1 := cell_of_blk HY5.out 1 _ rfl
    have y2 := cell_of_blk HY5.out 2 _ rfl
    have y3 := cell_of_blk HY5.out 3 _ rfl
    have y4 := cell_of_blk HY5.out 4 _ rfl
    have y5 := cell_of_blk HY5.out 5 _ rfl
    have y6 := cell_of_blk HY5.out 6 _ rfl
    have fy := frz_of_blk HY5.out
    go_wp2_with fail
    refine bodyPost_ret (v := .tuple #[.agg #[(.slice ad5 u.g.length cap5), .int .i64 (u.root : Int), .int .i64 u.steps, .int .i64 u.moved, .int .i64 u.peak, .int .i64 u.ticks, .int .i64 u.rounds], .int .i64 (cd : Int)]) (by simp [results, Tryz.results7, go_sem, y0, y1, y2, y3, y4, y5, y6, fy]) rfl ?_
    rw [HV.out, HRE.out]
    refine ⟨_, rfl, ?_, st7_below HB5.out (by omega)⟩
    exact CellsOn.mono HK5.out (fun k hk => by rw [st7_size]; exact ⟨hk.1, by have := hk.2; have := HN5.out; omega⟩) (fun k hk => st7_far (by have := hk.2; have := HN5.out; omega))
end Go.Proofs.YtiipcgnkfhjpeaaGreatDoor
/-
  THE PROGRAM's arena, wherever it lies: one cell more.
-/
namespace Go.Proofs.YtiipcgnkfhjpeaaGreatDoor
set_option linter.unusedVariables false
set_option linter.unusedSimpArgs false
open Go.RowKit

theorem row_ne_cells {w : World} {A lo n : Nat} {T : TypeId} {CC : Array Value} {gv : Value} {xs : List Value} (hT : T ≠ 93) (hA : w.heap[A]? = some (.cells CC T)) (hx : w.ownsRow lo 93 3 gv n xs) : some A ≠ gv.ownBlock := by
  intro e
  rcases hx.2 with ⟨rfl, -⟩ | ⟨b, cap, cur, rfl, -, hh, -⟩
  · simp [Value.ownBlock] at e
  · simp only [Value.ownBlock, Option.some.injEq] at e
    subst e
    rw [hh] at hA
    simp only [Option.some.injEq, Obj.cells.injEq] at hA
    exact hT hA.2.1.symm
theorem grown_drew {w w5 : World} {b : Option Nat} (h : w.drew.grownBy w5 b) : w.grownBy w5 b := ⟨h.os, h.tape, h.output, h.size, h.block⟩
theorem arp_keep {w w5 : World} {A lo n : Nat} {T : TypeId} {CC : Array Value} {gv : Value} {xs : List Value} {o1 o2 : Obj} (hT : T ≠ 93) (hA : w.heap[A]? = some (.cells CC T)) (hx : w.ownsRow lo 93 3 gv n xs) (hg : ((w.alloc o1).alloc o2).grownBy w5 gv.ownBlock) : w5.heap[A]? = some (.cells CC T) := by
  have hl : A < w.heap.size := (Array.getElem?_eq_some_iff.1 hA).1
  exact ((hg.block A (by rw [Deep.nblk_alloc, Deep.nblk_alloc]; omega) (row_ne_cells hT hA hx)).trans ((Deep.blk_alloc_lt _ _ _ (by rw [Deep.nblk_alloc]; omega)).trans (Deep.blk_alloc_lt _ _ _ hl))).trans hA

/-- what add hands back: the cell's place; its row is the arena's -/
def AddedP (A q lo n : Nat) (o m : Int) (gv kv : Value) (xs : List Value) (w : World) (e : Ending) (w' : World) : Prop :=
  ∃ v' w5, e = .returned (.int .i64 (n : Int)) ∧ w5.ownsRow lo 93 3 v' (n + 1) (xs ++ [.int .i64 o, .int .i64 m, kv]) ∧ ((w.alloc (.cells #[.int .i64 o, .int .i64 m, kv] 93)).alloc (.cells #[.int .i64 o, .int .i64 m, kv] 93)).grownBy w5 gv.ownBlock ∧ (v'.ownBlock = gv.ownBlock ∨ ∃ g, v'.ownBlock = some g ∧ ((w.alloc (.cells #[.int .i64 o, .int .i64 m, kv] 93)).alloc (.cells #[.int .i64 o, .int .i64 m, kv] 93)).heap.size ≤ g) ∧ w' = w5.setCell ⟨A, q, none⟩ v'

set_option maxRecDepth 100000 in
set_option maxHeartbeats 1600000 in
theorem addP_calls (A q : Nat) (T : TypeId) (CC : Array Value) (hT : T ≠ 93) (lo n : Nat) (o m : Int) (gv : Value) (adk : Option Addr) (nk ck : Nat) (xs : List Value) (w : World) (hA : w.heap[A]? = some (.cells CC T)) (hq : CC[q]? = some gv) (hx : w.ownsRow lo 93 3 gv n xs) (hlo : lo ≤ w.heap.size) (hn : n ≤ 500000) :
    Calls Tryz.prog 98 #[.pointer (some ⟨A, q, none⟩), .agg #[.int .i64 o, .int .i64 m, .slice adk nk ck]] w (AddedP A q lo n o m gv (.slice adk nk ck) xs w) := by
  have HA : Hid (w.heap[A]? = some (.cells CC T)) := hA
  have HX : Hid (w.ownsRow lo 93 3 gv n xs) := hx
  have a0 := cell_of_blk hA q _ hq
  have af := frz_of_blk hA q
  obtain ⟨ad, cap, rfl⟩ : ∃ ad cap, gv = .slice ad n cap := by
    rcases hx.2 with ⟨rfl, h0⟩ | ⟨b, cap, cur, rfl, -⟩
    · exact ⟨none, 0, by rw [h0]⟩
    · exact ⟨_, _, rfl⟩
  have HQ := mkHid hq
  clear hA hx hq
  go_enter Tryz.func98, Tryz.ntmps98
  have p0 := old_cell a0 (.cells #[.int .i64 o, .int .i64 m, .slice adk nk ck] 93)
  have p1 := old_cell p0 (.cells #[.int .i64 o, .int .i64 m, .slice adk nk ck] 93)
  have b0 := box_cell w #[.int .i64 o, .int .i64 m, .slice adk nk ck] 93 0 _ rfl
  have b1 := box_cell w #[.int .i64 o, .int .i64 m, .slice adk nk ck] 93 1 _ rfl
  have b2 := box_cell w #[.int .i64 o, .int .i64 m, .slice adk nk ck] 93 2 _ rfl
  obtain ⟨iC, zC, hII⟩ := infoC1
  have HII : Hid (Tryz.prog.info? 93 = some iC ∧ iC.zero = some zC ∧ iC.size = 3 ∧ iC.bytes = 40 ∧ zC.cells.size = 3) := hII
  have HX2 : Hid (((w.alloc (.cells #[.int .i64 o, .int .i64 m, .slice adk nk ck] 93)).alloc (.cells #[.int .i64 o, .int .i64 m, .slice adk nk ck] 93)).drew.ownsRow lo 93 3 (.slice ad n cap) n xs) := own_keep (own_keep (own_keep HX.out (fun k _ hk => Deep.blk_alloc_lt _ _ _ hk)) (fun k _ hk => Deep.blk_alloc_lt _ _ _ hk)) (fun _ _ _ => rfl)
  clear hII
  go_wp2_with fail
  go_region_law (refine step_append_where rfl (.tmp 9) (.tmp 11) 28 rfl lo 93 iC zC 3 40 Tryz.underlying28 HII.out.1 HII.out.2.1 HII.out.2.2.1 HII.out.2.2.2.1 HII.out.2.2.2.2 (by decide) (.slice ad n cap) n xs (by simp [Act.eval, Act.put]) HX2.out ⟨w.heap.size + 1, 0, none⟩ 1 1 [.int .i64 o, .int .i64 m, .slice adk nk ck] (by simp [Act.eval, Act.put]) rfl (by have h := news3c (w.alloc (.cells #[.int .i64 o, .int .i64 m, .slice adk nk ck] 93)) (.int .i64 o) (.int .i64 m) (.slice adk nk ck); rw [Deep.nblk_alloc] at h; exact h) (by simp [Value.oneCell']) (by unfold maxLen; omega) (by omega) (by show lo ≤ ((w.alloc _).alloc _).heap.size; simp only [Deep.nblk_alloc]; omega) (by omega) ?_; intro v' w5 hown hg0 hw; have hg := grown_drew hg0; clear hg0; obtain ⟨g', c', rfl, -, -, -, -⟩ := own_form hown (by omega); have s2 := cell_of_blk (arp_keep hT HA.out HX.out hg) q _ HQ.out; have sf := frz_of_blk (arp_keep hT HA.out HX.out hg) q)
  all_goals
    have hn0 : ¬ ((n : Int) + 1 - 1 < 0) := by omega
    have h64 : IntKind.i64.wrap ((n : Int) + 1 - 1) = (n : Int) := by rw [show (n : Int) + 1 - 1 = (n : Int) by omega]; exact IntWalk.i64_in _ (by omega)
    go_wp2_with fail
    go_ret
    exact ⟨_, w5, rfl, hown, hg, hw, rfl⟩
end Go.Proofs.YtiipcgnkfhjpeaaGreatDoor
/-
  THE PROGRAM's arena: one cell more.
-/
namespace Go.Proofs.YtiipcgnkfhjpeaaGreatDoor
set_option linter.unusedVariables false
set_option linter.unusedSimpArgs false
open Go.RowKit

theorem cells_ne_arena {w : World} {A lo n : Nat} {gv gv0 : Value} {xs : List Value} (hA : w.heap[A]? = some (.cells #[gv0] 142)) (hx : w.ownsRow lo 93 3 gv n xs) : some A ≠ gv.ownBlock := by
  intro e
  rcases hx.2 with ⟨rfl, -⟩ | ⟨b, cap, cur, rfl, -, hh, -⟩
  · simp [Value.ownBlock] at e
  · simp only [Value.ownBlock, Option.some.injEq] at e
    subst e
    rw [hh] at hA
    simp at hA
theorem ar_keep {w w5 : World} {A lo n : Nat} {gv : Value} {xs : List Value} {o1 o2 : Obj} (hA : w.heap[A]? = some (.cells #[gv] 142)) (hx : w.ownsRow lo 93 3 gv n xs) (hg : ((w.alloc o1).alloc o2).grownBy w5 gv.ownBlock) : w5.heap[A]? = some (.cells #[gv] 142) := by
  have hl : A < w.heap.size := (Array.getElem?_eq_some_iff.1 hA).1
  exact ((hg.block A (by rw [Deep.nblk_alloc, Deep.nblk_alloc]; omega) (cells_ne_arena hA hx)).trans ((Deep.blk_alloc_lt _ _ _ (by rw [Deep.nblk_alloc]; omega)).trans (Deep.blk_alloc_lt _ _ _ hl))).trans hA

/-- what add hands back: the cell's place; its row is the arena's -/
abbrev Added (A lo n : Nat) (o m : Int) (gv kv : Value) (xs : List Value) (w : World) (e : Ending) (w' : World) : Prop := AddedP A 0 lo n o m gv kv xs w e w'
theorem arena_not_cell : (142 : TypeId) ≠ 93 := by decide
theorem add_calls (A lo n : Nat) (o m : Int) (gv : Value) (adk : Option Addr) (nk ck : Nat) (xs : List Value) (w : World) (hA : w.heap[A]? = some (.cells #[gv] 142)) (hx : w.ownsRow lo 93 3 gv n xs) (hlo : lo ≤ w.heap.size) (hn : n ≤ 500000) :
    Calls Tryz.prog 98 #[.pointer (some ⟨A, 0, none⟩), .agg #[.int .i64 o, .int .i64 m, .slice adk nk ck]] w (Added A lo n o m gv (.slice adk nk ck) xs w) :=
  addP_calls A 0 142 #[gv] arena_not_cell lo n o m gv adk nk ck xs w hA rfl hx hlo hn
end Go.Proofs.YtiipcgnkfhjpeaaGreatDoor
