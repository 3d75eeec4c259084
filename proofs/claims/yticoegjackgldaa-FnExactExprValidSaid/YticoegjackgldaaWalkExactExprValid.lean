/-
  THE WALK OF FnExactExprValid.
-/
import Derived.Test.YticoegjackgldaaSz
import Derived.Test.YticoegjackgldaaTo
import Derived.Test.YticoegjackgldaaEq
import Derived.Test.YticoegjackgldaaSpecExpr
import Derived.Test.YticoegjackgldaaNodesLeft
namespace Go.Proofs.Yticoegjackgldaa.lawExactExprValid
open Go.ChangeShapes Go.WideShapes Go.ChangeAt Go.RowKit
set_option linter.unusedVariables false
set_option linter.unusedSimpArgs false

set_option maxHeartbeats 800000 in
theorem walk (t : Tr) (c : Value) (vars defs : Int) (w : World) (hk : In w t.kids c) :
    Calls Try.prog 3 #[.agg #[.int .i64 t.op, .int .i64 t.num, c], .int .i64 vars, .int .i64 defs] w fun e w' => e = .returned (.bool true) ∧ Below w.heap.size w w' := by
  have HK : Hid (In w t.kids c) := hk
  obtain ⟨ad, cap, rfl, -, -, -⟩ := hk
  have HB0 : Hid (Below w.heap.size w (w.alloc (.cells #[.int .i64 t.op, .int .i64 t.num, .slice ad t.kids.length cap] 24))) := box_below _ _
  have hrg := szOut_range t.kids 1048576 (by omega)
  go_enter Try.func3, Try.ntmps3
  go_wp2_with fail
  refine (sz_calls t.kids _ _ _ _ _ (HK.out.next HB0.out) (by omega) (by omega)).mono ?_
  rintro e w1 ⟨rfl, hb1⟩
  have HB1 : Hid (Below w.heap.size w w1) := HB0.out.trans (hb1.mono HB0.out.size)
  have hz1 : w.heap.size < w1.heap.size := by have := hb1.size; rw [Deep.nblk_alloc] at this; omega
  have a0 := (hb1.cell (p := ⟨w.heap.size, 0, none⟩) (by rw [Deep.nblk_alloc]; exact Nat.lt_succ_self _)).trans (box_cell w #[.int .i64 t.op, .int .i64 t.num, .slice ad t.kids.length cap] 24 0 _ rfl)
  have a1 := (hb1.cell (p := ⟨w.heap.size, 1, none⟩) (by rw [Deep.nblk_alloc]; exact Nat.lt_succ_self _)).trans (box_cell w #[.int .i64 t.op, .int .i64 t.num, .slice ad t.kids.length cap] 24 1 _ rfl)
  have a2 := (hb1.cell (p := ⟨w.heap.size, 2, none⟩) (by rw [Deep.nblk_alloc]; exact Nat.lt_succ_self _)).trans (box_cell w #[.int .i64 t.op, .int .i64 t.num, .slice ad t.kids.length cap] 24 2 _ rfl)
  clear hb1
  by_cases hneg : szOut t.kids 1048576 < 0
  · clear a0 a1 a2
    go_wp2_with fail
    go_ret
    exact ⟨rfl, HB1.out⟩
  have hsz : szL t.kids ≤ 1048576 := by unfold szOut at hneg; split at hneg <;> omega
  have HZ : Hid (szL t.kids ≤ 1048576) := hsz
  clear hsz
  go_wp2_with fail
  -- the first copy
  refine (to_calls t.kids _ _ _ _ (HK.out.next HB1.out) HZ.out).mono ?_
  rintro e w2 ⟨v2, rfl, hv2, hb2⟩
  have HV2 : Hid (In w2 t.kids v2) := hv2.btw_in
  have HB2 : Hid (Below w.heap.size w w2) := HB1.out.trans (hb2.mono HB1.out.size)
  have hz2 : w.heap.size < w2.heap.size := Nat.lt_of_lt_of_le hz1 hb2.size
  have b0 := (hb2.cell (p := ⟨w.heap.size, 0, none⟩) hz1).trans a0
  have b1 := (hb2.cell (p := ⟨w.heap.size, 1, none⟩) hz1).trans a1
  have b2 := (hb2.cell (p := ⟨w.heap.size, 2, none⟩) hz1).trans a2
  clear hv2 hb2 a0 a1 a2
  go_wp2_with fail
  refine (specValid_calls t _ _ _ _ HV2.out).mono ?_
  rintro e w3 ⟨rfl, hb3⟩
  have HB3 : Hid (Below w.heap.size w w3) := HB2.out.trans (hb3.mono HB2.out.size)
  have hz3 : w.heap.size < w3.heap.size := Nat.lt_of_lt_of_le hz2 hb3.size
  have a0 := (hb3.cell (p := ⟨w.heap.size, 0, none⟩) hz2).trans b0
  have a1 := (hb3.cell (p := ⟨w.heap.size, 1, none⟩) hz2).trans b1
  have a2 := (hb3.cell (p := ⟨w.heap.size, 2, none⟩) hz2).trans b2
  clear hb3 b0 b1 b2
  go_wp2_with fail
  -- the second copy
  refine (to_calls t.kids _ _ _ _ (HK.out.next HB3.out) HZ.out).mono ?_
  rintro e w4 ⟨v4, rfl, hv4, hb4⟩
  have HV4 : Hid (In w4 t.kids v4) := hv4.btw_in
  have HB4 : Hid (Below w.heap.size w w4) := HB3.out.trans (hb4.mono HB3.out.size)
  have hz4 : w.heap.size < w4.heap.size := Nat.lt_of_lt_of_le hz3 hb4.size
  have b0 := (hb4.cell (p := ⟨w.heap.size, 0, none⟩) hz3).trans a0
  have b1 := (hb4.cell (p := ⟨w.heap.size, 1, none⟩) hz3).trans a1
  have b2 := (hb4.cell (p := ⟨w.heap.size, 2, none⟩) hz3).trans a2
  obtain ⟨ad4, cap4, rfl, -, -, -⟩ := hv4
  clear hb4 a0 a1 a2
  go_wp2_with fail
  have HB4' : Hid (Below w4.heap.size w4 (w4.alloc (.cells #[.int .i64 t.op, .int .i64 t.num, .slice ad4 t.kids.length cap4] 29))) := box_below _ _
  have d0 := box_cell w4 #[.int .i64 t.op, .int .i64 t.num, .slice ad4 t.kids.length cap4] 29 0 _ rfl
  have d1 := box_cell w4 #[.int .i64 t.op, .int .i64 t.num, .slice ad4 t.kids.length cap4] 29 1 _ rfl
  have d2 := box_cell w4 #[.int .i64 t.op, .int .i64 t.num, .slice ad4 t.kids.length cap4] 29 2 _ rfl
  have hz5 : w4.heap.size < (w4.alloc (.cells #[.int .i64 t.op, .int .i64 t.num, .slice ad4 t.kids.length cap4] 29)).heap.size := by rw [Deep.nblk_alloc]; omega
  generalize w4.alloc (.cells #[.int .i64 t.op, .int .i64 t.num, .slice ad4 t.kids.length cap4] 29) = w5 at *
  refine (implValid_calls t _ _ _ _ (HV4.out.next HB4'.out)).mono ?_
  rintro e w6 ⟨rfl, hb6⟩
  have HB6' : Hid (Below w4.heap.size w4 w6) := HB4'.out.trans (hb6.mono HB4'.out.size)
  have HB6 : Hid (Below w.heap.size w w6) := HB4.out.trans (HB6'.out.mono HB4.out.size)
  have hz6 : w4.heap.size < w6.heap.size := Nat.lt_of_lt_of_le hz5 hb6.size
  have e0 := (hb6.cell (p := ⟨w4.heap.size, 0, none⟩) hz5).trans d0
  have e1 := (hb6.cell (p := ⟨w4.heap.size, 1, none⟩) hz5).trans d1
  have e2 := (hb6.cell (p := ⟨w4.heap.size, 2, none⟩) hz5).trans d2
  have a0 := (HB6'.out.cell (p := ⟨w.heap.size, 0, none⟩) hz4).trans b0
  have a1 := (HB6'.out.cell (p := ⟨w.heap.size, 1, none⟩) hz4).trans b1
  have a2 := (HB6'.out.cell (p := ⟨w.heap.size, 2, none⟩) hz4).trans b2
  clear hb6 d0 d1 d2 b0 b1 b2
  have tb : (validB t vars defs != validB t vars defs) = false := by simp
  go_wp2_with fail
  have HK6 : Hid (In w6 t.kids (.slice ad t.kids.length cap)) := HK.out.next HB6.out
  have HV6 : Hid (In w6 t.kids (.slice ad4 t.kids.length cap4)) := HV4.out.next HB6'.out
  go_region_with (first
    | (go_at_call 14; go_must (refine (to_calls t.kids _ _ _ _ ?_ HZ.out).mono ?_); go_must (exact HK6.out.drew); go_must (rintro e w7 ⟨v7, rfl, hv7, hb7⟩); go_must (have HV7 : Hid (In w7 t.kids v7) := hv7.btw_in); go_must (have HB7 : Hid (Below w6.heap.size w6 w7) := (Below.refl _ _).drew.trans hb7); go_must (have g0 := (HB7.out.cell (p := ⟨w4.heap.size, 0, none⟩) hz6).trans e0); go_must (have g1 := (HB7.out.cell (p := ⟨w4.heap.size, 1, none⟩) hz6).trans e1); go_must (have g2 := (HB7.out.cell (p := ⟨w4.heap.size, 2, none⟩) hz6).trans e2); clear hv7 hb7)
    | (go_at_call 16; go_must (refine (eq_calls t.kids _ _ _ _ _ ?_ ?_).mono ?_); go_must (exact HV6.out.next HB7.out); go_must (exact HV7.out); go_must (rintro e w8 ⟨rfl, hb8⟩)))
  all_goals
    have HB8 : Hid (Below w.heap.size w w8) := HB6.out.trans ((HB7.out.trans (hb8.mono HB7.out.size)).mono HB6.out.size)
    clear hb8
    go_wp2_with fail
    go_ret
    exact ⟨rfl, HB8.out⟩
end Go.Proofs.Yticoegjackgldaa.lawExactExprValid
