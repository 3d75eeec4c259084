/-
  THE WALK OF FnExactIsHead.
-/
import Derived.Test.YticoegjackgldaaSpecIsHead
import Derived.Test.YticoegjackgldaaIsHead
import Derived.Test.YticoegjackgldaaFresh
import Derived.Test.YticoegjackgldaaSz
import Derived.Test.YticoegjackgldaaEq
namespace Go.Proofs.Yticoegjackgldaa.lawExactIsHead
open Go.ChangeShapes Go.WideShapes Go.ChangeAt Go.RowKit
set_option linter.unusedVariables false
set_option linter.unusedSimpArgs false

theorem carry {w w' : World} (hb : Below w.heap.size w w') {a : Addr} {v : Value} (h : w.cell? a = some v) : w'.cell? a = some v := (hb.cell (cell_lt h)).trans h

set_option maxRecDepth 100000 in
set_option maxHeartbeats 1600000 in
theorem walk (ds : List Df) (p : Value) (t : Tr) (c : Value) (w : World) (hp : DIn w ds p) (hk : In w t.kids c) (ht : I64 t.op ∧ I64 t.num) :
    Calls Try.prog 11 #[p, .agg #[.int .i64 t.op, .int .i64 t.num, c]] w fun e w' => e = .returned (.bool true) ∧ Below w.heap.size w w' := by
  have HK : Hid (In w t.kids c) := hk
  have HP : Hid (DIn w ds p) := hp
  have HT : Hid (I64 t.op ∧ I64 t.num) := ht
  obtain ⟨ad, cap, rfl, -, -, -⟩ := hk
  have hrg := szOut_range (bodies ds) 1048576 (by omega)
  clear hp ht
  go_enter Try.func11, Try.ntmps11
  go_wp2_with fail
  refine (szDefS_calls ds _ _ _ (HP.out.next (box_below _ _)) (by omega) (by omega)).mono ?_
  rintro e w1 ⟨rfl, hb1⟩
  obtain ⟨a0, a1, a2, hz1, HB1⟩ := box_after hb1
  have HB1 : Hid (Below w.heap.size w w1) := HB1
  clear hb1
  by_cases hneg : szOut (bodies ds) 1048576 < 0
  · go_wp2_with fail
    go_ret
    exact ⟨rfl, HB1.out⟩
  have HZ : Hid (szL (bodies ds) ≤ 1048576) := by unfold szOut at hneg; unfold Hid; split at hneg <;> omega
  generalize szOut (bodies ds) 1048576 = left at *
  go_wp2_with fail
  refine (sz_calls t.kids _ _ _ _ _ (HK.out.next HB1.out) (by omega) (by omega)).mono ?_
  rintro e w2 ⟨rfl, hb2⟩
  have HB2 : Hid (Below w.heap.size w w2) := HB1.out.trans (hb2.mono HB1.out.size)
  replace a0 := carry hb2 a0
  replace a1 := carry hb2 a1
  replace a2 := carry hb2 a2
  clear hb2
  by_cases hneg2 : szOut t.kids left < 0
  · clear a0 a1 a2
    go_wp2_with fail
    go_ret
    exact ⟨rfl, HB2.out⟩
  have HZ2 : Hid (szL t.kids ≤ 1048576) := by unfold szOut at hneg2; unfold Hid; split at hneg2 <;> omega
  clear hrg
  generalize szOut t.kids left = left2 at *
  go_wp2_with fail
  have HP2 : Hid (DIn w2 ds p) := HP.out.next HB2.out
  have HK2 : Hid (In w2 t.kids (.slice ad t.kids.length cap)) := HK.out.next HB2.out
  go_region_with (first
    | (go_at_call 19; go_must (refine (toDefS_calls ds _ _ ?_ HZ.out).mono ?_); go_must (exact HP2.out.drew); go_must (rintro e w3 ⟨v3, rfl, hv3, hb3⟩); go_must (have HV3 : Hid (DIn w3 ds v3) := hv3.btw_in); go_must (have HB3 : Hid (Below w2.heap.size w2 w3) := (Below.refl _ _).drew.trans hb3); go_must (have b0 := carry HB3.out a0); go_must (have b1 := carry HB3.out a1); go_must (have b2 := carry HB3.out a2); clear hb3 hv3)
    | (go_at_call 14; go_must (refine (fto_calls t.kids _ _ _ _ ?_ HZ2.out).mono ?_); go_must (exact HK2.out.next HB3.out); go_must (rintro e w4 ⟨v4, rfl, hv4, hb4⟩); go_must (have HV4 : Hid (In w4 t.kids v4) := hv4.inP.inP); go_must (have HV3' : Hid (DIn w4 ds v3) := HV3.out.next hb4); go_must (have HB4 : Hid (Below w2.heap.size w2 w4) := HB3.out.trans (hb4.mono HB3.out.size)); go_must (have c0 := carry hb4 b0); go_must (have c1 := carry hb4 b1); go_must (have c2 := carry hb4 b2); clear hb4 hv4)
    | (go_at_call 43; go_must (refine (specIsHead_calls ds _ t _ _ HV3'.out HV4.out HT.out ?_).mono ?_); go_must (rw [szT_eq]; have := HZ2.out; omega); go_must (rintro e w5 ⟨rfl, hb5⟩); go_must (have HB5' : Hid (Below w2.heap.size w2 w5) := HB4.out.trans (hb5.mono HB4.out.size)); go_must (have d0 := carry hb5 c0); go_must (have d1 := carry hb5 c1); go_must (have d2 := carry hb5 c2); clear hb5))
  all_goals
    have HB5 : Hid (Below w.heap.size w w5) := HB2.out.trans (HB5'.out.mono HB2.out.size)
    clear a0 a1 a2 b0 b1 b2 c0 c1 c2
    go_wp2_with fail
    refine (toDefS_calls ds _ _ (HP.out.next HB5.out) HZ.out).mono ?_
    rintro e w6 ⟨v6, rfl, hv6, hb6⟩
    have HV6 : Hid (DIn w6 ds v6) := hv6.btw_in
    have HB6 : Hid (Below w.heap.size w w6) := HB5.out.trans (hb6.mono HB5.out.size)
    replace d0 := carry hb6 d0
    replace d1 := carry hb6 d1
    replace d2 := carry hb6 d2
    clear hb6 hv6
    go_wp2_with fail
    refine (fto_calls t.kids _ _ _ _ (HK.out.next HB6.out) HZ2.out).mono ?_
    rintro e w7 ⟨v7, rfl, hv7, hb7⟩
    have HV7 : Hid (InP w7 t.kids v7) := hv7.inP
    have HV7' := HV7.out
    have HV6' : Hid (DIn w7 ds v6) := HV6.out.next hb7
    have HB7 : Hid (Below w.heap.size w w7) := HB6.out.trans (hb7.mono HB6.out.size)
    replace d0 := carry hb7 d0
    replace d1 := carry hb7 d1
    replace d2 := carry hb7 d2
    obtain ⟨ad7, cap7, rfl, -, -, -⟩ := HV7'
    clear hb7 hv7
    go_wp2_with fail
    refine (isHead_calls ds _ t _ _ (HV6'.out.next (box_below _ _)) (HV7.out.nextP (box_below _ _)) HT.out (by rw [szT_eq]; have := HZ2.out; omega)).mono ?_
    rintro e w8 ⟨rfl, hb8⟩
    obtain ⟨x0, x1, x2, hz8, HB8'⟩ := box_after hb8
    have HV8 : Hid (In w8 t.kids (.slice ad7 t.kids.length cap7)) := HV7.out.inP.next HB8'
    have HV6'' : Hid (DIn w8 ds v6) := HV6'.out.next HB8'
    have HB8 : Hid (Below w.heap.size w w8) := HB7.out.trans (HB8'.mono HB7.out.size)
    replace d0 := carry HB8' d0
    replace d1 := carry HB8' d1
    replace d2 := carry HB8' d2
    clear hb8 HB8'
    have tb : (headB ds t != headB ds t) = false := by simp
    go_wp2_with fail
    refine (toDefS_calls ds _ _ (HP.out.next HB8.out) HZ.out).mono ?_
    rintro e w9 ⟨v9, rfl, hv9, hb9⟩
    have HV9 : Hid (DIn w9 ds v9) := hv9.btw_in
    have HV6a : Hid (DIn w9 ds v6) := HV6''.out.next hb9
    have HV8a : Hid (In w9 t.kids (.slice ad7 t.kids.length cap7)) := HV8.out.next hb9
    have HB9 : Hid (Below w.heap.size w w9) := HB8.out.trans (hb9.mono HB8.out.size)
    replace d0 := carry hb9 d0
    replace d1 := carry hb9 d1
    replace d2 := carry hb9 d2
    replace x0 := carry hb9 x0
    replace x1 := carry hb9 x1
    replace x2 := carry hb9 x2
    clear hb9 hv9
    go_wp2_with fail
    refine (eqDefS_calls ds v6 v9 _ HV6a.out HV9.out).mono ?_
    rintro e w10 ⟨rfl, hb10⟩
    have HV8b : Hid (In w10 t.kids (.slice ad7 t.kids.length cap7)) := HV8a.out.next hb10
    have HB10 : Hid (Below w.heap.size w w10) := HB9.out.trans (hb10.mono HB9.out.size)
    replace d0 := carry hb10 d0
    replace d1 := carry hb10 d1
    replace d2 := carry hb10 d2
    replace x0 := carry hb10 x0
    replace x1 := carry hb10 x1
    replace x2 := carry hb10 x2
    clear hb10
    go_wp2_with fail
    have HK10 : Hid (In w10 t.kids (.slice ad t.kids.length cap)) := HK.out.next HB10.out
    go_region_with (first
      | (go_at_call 14; go_must (refine (to_calls t.kids _ _ _ _ ?_ HZ2.out).mono ?_); go_must (exact HK10.out.drew); go_must (rintro e w11 ⟨v11, rfl, hv11, hb11⟩); go_must (have HV11 : Hid (In w11 t.kids v11) := hv11.btw_in); go_must (have HB11 : Hid (Below w10.heap.size w10 w11) := (Below.refl _ _).drew.trans hb11); go_must (have y0 := carry HB11.out x0); go_must (have y1 := carry HB11.out x1); go_must (have y2 := carry HB11.out x2); clear hv11 hb11)
      | (go_at_call 16; go_must (refine (eq_calls t.kids _ _ _ _ _ ?_ ?_).mono ?_); go_must (exact HV8b.out.next HB11.out); go_must (exact HV11.out); go_must (rintro e w12 ⟨rfl, hb12⟩)))
    all_goals
      have HB12 : Hid (Below w.heap.size w w12) := HB10.out.trans ((HB11.out.trans (hb12.mono HB11.out.size)).mono HB10.out.size)
      clear hb12
      go_wp2_with fail
      go_ret
      exact ⟨rfl, HB12.out⟩
end Go.Proofs.Yticoegjackgldaa.lawExactIsHead
