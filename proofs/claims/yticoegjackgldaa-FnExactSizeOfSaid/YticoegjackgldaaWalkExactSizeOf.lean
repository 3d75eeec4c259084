/-
  THE WALK OF FnExactSizeOf.
-/
import Derived.Test.YticoegjackgldaaSize
import Derived.Test.YticoegjackgldaaSpecSize
import Derived.Test.YticoegjackgldaaFresh
import Derived.Test.YticoegjackgldaaSz
import Derived.Test.YticoegjackgldaaEq
namespace Go.Proofs.Yticoegjackgldaa.lawExactSizeOf
open Go.ChangeShapes Go.WideShapes Go.ChangeAt Go.RowKit
set_option linter.unusedVariables false
set_option linter.unusedSimpArgs false

theorem carry {w w' : World} (hb : Below w.heap.size w w') {a : Addr} {v : Value} (h : w.cell? a = some v) : w'.cell? a = some v := (hb.cell (cell_lt h)).trans h

set_option maxRecDepth 100000 in
set_option maxHeartbeats 1600000 in
theorem walk (t : Tr) (c : Value) (w : World) (hk : In w t.kids c) (ht : I64 t.op ∧ I64 t.num) :
    Calls Try.prog 9 #[.agg #[.int .i64 t.op, .int .i64 t.num, c]] w fun e w' => e = .returned (.bool true) ∧ Below w.heap.size w w' := by
  have HK : Hid (In w t.kids c) := hk
  have HT : Hid (I64 t.op ∧ I64 t.num) := ht
  obtain ⟨ad, cap, rfl, -, -, -⟩ := hk
  have hrg := szOut_range t.kids 1048576 (by omega)
  clear ht
  go_enter Try.func9, Try.ntmps9
  go_wp2_with fail
  refine (sz_calls t.kids _ _ _ _ _ (HK.out.next (box_below _ _)) (by omega) (by omega)).mono ?_
  rintro e w1 ⟨rfl, hb1⟩
  obtain ⟨a0, a1, a2, hz1, HB1⟩ := box_after hb1
  have HB1 : Hid (Below w.heap.size w w1) := HB1
  clear hb1
  by_cases hneg : szOut t.kids 1048576 < 0
  · clear a0 a1 a2
    go_wp2_with fail
    go_ret
    exact ⟨rfl, HB1.out⟩
  have HZ : Hid (szL t.kids ≤ 1048576) := by unfold szOut at hneg; unfold Hid; split at hneg <;> omega
  generalize szOut t.kids 1048576 = left at *
  clear hrg
  go_wp2_with fail
  refine (to_calls t.kids _ _ _ _ (HK.out.next HB1.out) HZ.out).mono ?_
  rintro e w2 ⟨v2, rfl, hv2, hb2⟩
  have HV2 : Hid (In w2 t.kids v2) := hv2.btw_in
  have HB2 : Hid (Below w.heap.size w w2) := HB1.out.trans (hb2.mono HB1.out.size)
  replace a0 := carry hb2 a0
  replace a1 := carry hb2 a1
  replace a2 := carry hb2 a2
  clear hv2 hb2
  go_wp2_with fail
  refine (szOf_calls t _ _ _ _ HV2.out (by rw [szT_eq]; exact HZ.out)).mono ?_
  rintro e w3 ⟨rfl, hb3⟩
  have HB3 : Hid (Below w.heap.size w w3) := HB2.out.trans (hb3.mono HB2.out.size)
  replace a0 := carry hb3 a0
  replace a1 := carry hb3 a1
  replace a2 := carry hb3 a2
  clear hb3
  go_wp2_with fail
  refine (fto_calls t.kids _ _ _ _ (HK.out.next HB3.out) HZ.out).mono ?_
  rintro e w4 ⟨v4, rfl, hv4, hb4⟩
  have HV4 : Hid (InP w4 t.kids v4) := hv4.inP
  have HV4' := HV4.out
  have HB4 : Hid (Below w.heap.size w w4) := HB3.out.trans (hb4.mono HB3.out.size)
  replace a0 := carry hb4 a0
  replace a1 := carry hb4 a1
  replace a2 := carry hb4 a2
  obtain ⟨ad4, cap4, rfl, -, -, -⟩ := HV4'
  clear hv4 hb4
  go_wp2_with fail
  refine (implSize_calls t _ _ (HV4.out.nextP (box_below _ _)) HT.out (by rw [szT_eq]; have := HZ.out; omega)).mono ?_
  rintro e w6 ⟨rfl, hb6⟩
  obtain ⟨x0, x1, x2, hz6, HB6'⟩ := box_after hb6
  have HV6 : Hid (In w6 t.kids (.slice ad4 t.kids.length cap4)) := HV4.out.inP.next HB6'
  have HB6 : Hid (Below w.heap.size w w6) := HB4.out.trans (HB6'.mono HB4.out.size)
  replace a0 := carry HB6' a0
  replace a1 := carry HB6' a1
  replace a2 := carry HB6' a2
  clear hb6 HB6'
  have tb : ((1 + (szT t : Int)) != 1 + (szT t : Int)) = false := by simp
  generalize 1 + (szT t : Int) = nn at *
  go_wp2_with fail
  have HK6 : Hid (In w6 t.kids (.slice ad t.kids.length cap)) := HK.out.next HB6.out
  go_region_with (first
    | (go_at_call 14; go_must (refine (to_calls t.kids _ _ _ _ ?_ HZ.out).mono ?_); go_must (exact HK6.out.drew); go_must (rintro e w7 ⟨v7, rfl, hv7, hb7⟩); go_must (have HV7 : Hid (In w7 t.kids v7) := hv7.btw_in); go_must (have HB7 : Hid (Below w6.heap.size w6 w7) := (Below.refl _ _).drew.trans hb7); go_must (have y0 := carry HB7.out x0); go_must (have y1 := carry HB7.out x1); go_must (have y2 := carry HB7.out x2); clear hv7 hb7)
    | (go_at_call 16; go_must (refine (eq_calls t.kids _ _ _ _ _ ?_ ?_).mono ?_); go_must (exact HV6.out.next HB7.out); go_must (exact HV7.out); go_must (rintro e w8 ⟨rfl, hb8⟩)))
  all_goals
    have HB8 : Hid (Below w.heap.size w w8) := HB6.out.trans ((HB7.out.trans (hb8.mono HB7.out.size)).mono HB6.out.size)
    clear hb8
    go_wp2_with fail
    go_ret
    exact ⟨rfl, HB8.out⟩
end Go.Proofs.Yticoegjackgldaa.lawExactSizeOf
