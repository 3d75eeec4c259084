/-
  THE WALK OF FnExactStrictIn.
-/
import Derived.Test.YtocnkjicmchbdaaSpecIn
import Derived.Test.YtocnkjicmchbdaaImplIn
import Derived.Test.YtocnkjicmchbdaaNeeds
import Derived.Test.YtocnkjicmchbdaaFresh
import Derived.Test.YtocnkjicmchbdaaSz
import Derived.Test.YtocnkjicmchbdaaEq
namespace Go.Proofs.Ytocnkjicmchbdaa.lawExactStrictIn
open Go.ChangeShapes Go.WideShapes Go.ChangeAt Go.RowKit
set_option linter.unusedVariables false
set_option linter.unusedSimpArgs false

theorem carry {w w' : World} (hb : Below w.heap.size w w') {a : Addr} {v : Value} (h : w.cell? a = some v) : w'.cell? a = some v := (hb.cell (cell_lt h)).trans h

set_option maxRecDepth 100000 in
set_option maxHeartbeats 1600000 in
theorem walk (t : Tr) (c : Value) (i : Int) (ne : List (List Bool)) (p : Value) (w : World) (hk : In w t.kids c) (hp : NIn w ne p) (ht : I64 t.op ∧ I64 t.num) (hi : I64 i) :
    Calls Try.prog 3 #[.agg #[.int .i64 t.op, .int .i64 t.num, c], .int .i64 i, p] w fun e w' => e = .returned (.bool true) ∧ Below w.heap.size w w' := by
  have HK : Hid (In w t.kids c) := hk
  have HP : Hid (NIn w ne p) := hp
  have HT : Hid (I64 t.op ∧ I64 t.num) := ht
  obtain ⟨ad, cap, rfl, -, -, -⟩ := hk
  have hrg := szOut_range t.kids 1048576 (by omega)
  obtain ⟨r0, hr0⟩ : ∃ r : Bool, r = strictO t i ne := ⟨_, rfl⟩
  have HSS : Hid (∀ (u q : Value) (W : World), szL t.kids ≤ 1048576 → In W t.kids u → NIn W ne q → Calls Try.prog 11 #[.agg #[.int .i64 t.op, .int .i64 t.num, u], .int .i64 i, q] W fun en w' => en = .returned (.bool r0) ∧ Below W.heap.size W w') := fun u q W hz h h' => by rw [hr0]; exact specStrictIn_calls t i ne u q W h h' ht (by rw [szT_eq]; omega)
  have HSI : Hid (∀ (u q : Value) (W : World), szL t.kids ≤ 1048576 → InP W t.kids u → NIn W ne q → Calls Try.prog 14 #[.agg #[.int .i64 t.op, .int .i64 t.num, u], .int .i64 i, q] W fun en w' => en = .returned (.bool r0) ∧ Below W.heap.size W w') := fun u q W hz h h' => by rw [hr0]; exact implStrictIn_calls t i ne u q W h h' ht (by rw [szT_eq]; omega)
  have tb : (r0 != r0) = false := by simp
  clear hp ht hi hr0
  go_enter Try.func3, Try.ntmps3
  go_wp2_with fail
  refine (sz_calls t.kids _ _ _ _ _ (HK.out.next (box_below _ _)) (by omega) (by omega)).mono ?_
  rintro e w1 ⟨rfl, hb1⟩
  obtain ⟨a0, a1, a2, hz1, HB1⟩ := box_after hb1
  have HB1 : Hid (Below w.heap.size w w1) := HB1
  clear hb1
  by_cases hneg : szOut t.kids 1048576 < 0
  · clear a0 a1 a2
    go_wp2_with fail
    go_ret
    exact ⟨rfl, HB1.out⟩
  have HZ : Hid (szL t.kids ≤ 1048576) := by unfold szOut at hneg; unfold Hid; split at hneg <;> omega
  generalize szOut t.kids 1048576 = left at *
  have hrg2 := szN_range ne left (by omega)
  go_wp2_with fail
  refine (szNeeds_calls ne _ _ _ (HP.out.next HB1.out) (by omega) (by omega)).mono ?_
  rintro e w2 ⟨rfl, hb2⟩
  have HB2 : Hid (Below w.heap.size w w2) := HB1.out.trans (hb2.mono HB1.out.size)
  replace a0 := carry hb2 a0
  replace a1 := carry hb2 a1
  replace a2 := carry hb2 a2
  clear hb2
  by_cases hneg2 : szN ne left < 0
  · clear a0 a1 a2
    go_wp2_with fail
    go_ret
    exact ⟨rfl, HB2.out⟩
  have HZ2 : Hid (ne.length + sumB ne ≤ 1048576) := by unfold szN at hneg2; unfold Hid; split at hneg2 <;> omega
  clear hrg
  generalize szN ne left = left2 at *
  clear hrg2
  go_wp2_with fail
  refine (fto_calls t.kids _ _ _ _ (HK.out.next HB2.out) HZ.out).mono ?_
  rintro e w4 ⟨v4, rfl, hv4, hb4⟩
  have HV4 : Hid (In w4 t.kids v4) := hv4.inP.inP
  have HB4 : Hid (Below w.heap.size w w4) := HB2.out.trans (hb4.mono HB2.out.size)
  replace a0 := carry hb4 a0
  replace a1 := carry hb4 a1
  replace a2 := carry hb4 a2
  clear hb4 hv4
  go_wp2_with fail
  refine (toNeeds_calls ne _ _ (HP.out.next HB4.out) HZ2.out).mono ?_
  rintro e w3 ⟨v3, rfl, hv3, hb3⟩
  have HV3 : Hid (NIn w3 ne v3) := hv3.inn
  have HV4' : Hid (In w3 t.kids v4) := HV4.out.next hb3
  have HB3 : Hid (Below w.heap.size w w3) := HB4.out.trans (hb3.mono HB4.out.size)
  replace a0 := carry hb3 a0
  replace a1 := carry hb3 a1
  replace a2 := carry hb3 a2
  clear hb3 hv3
  go_wp2_with fail
  refine (HSS.out _ _ _ HZ.out HV4'.out HV3.out).mono ?_
  rintro e w5 ⟨rfl, hb5⟩
  have HB5 : Hid (Below w.heap.size w w5) := HB3.out.trans (hb5.mono HB3.out.size)
  have d0 := carry hb5 a0
  have d1 := carry hb5 a1
  have d2 := carry hb5 a2
  clear hb5 a0 a1 a2
  go_wp2_with fail
  refine (fto_calls t.kids _ _ _ _ (HK.out.next HB5.out) HZ.out).mono ?_
  rintro e w7 ⟨v7, rfl, hv7, hb7⟩
  have HV7 : Hid (InP w7 t.kids v7) := hv7.inP
  have HV7' := HV7.out
  have HB7 : Hid (Below w.heap.size w w7) := HB5.out.trans (hb7.mono HB5.out.size)
  replace d0 := carry hb7 d0
  replace d1 := carry hb7 d1
  replace d2 := carry hb7 d2
  obtain ⟨ad7, cap7, rfl, -, -, -⟩ := HV7'
  clear hb7 hv7
  have HX7 : Hid (∀ W, Below (w7.alloc (.cells #[.int .i64 t.op, .int .i64 t.num, .slice ad7 t.kids.length cap7] 31)).heap.size (w7.alloc (.cells #[.int .i64 t.op, .int .i64 t.num, .slice ad7 t.kids.length cap7] 31)) W → W.cell? ⟨w7.heap.size, 0, none⟩ = some (.int .i64 t.op) ∧ W.cell? ⟨w7.heap.size, 1, none⟩ = some (.int .i64 t.num) ∧ W.cell? ⟨w7.heap.size, 2, none⟩ = some (.slice ad7 t.kids.length cap7) ∧ Below w7.heap.size w7 W) := fun W hb => by
    obtain ⟨x0, x1, x2, -, hB⟩ := box_after hb
    exact ⟨x0, x1, x2, hB⟩
  go_wp2_with fail
  refine (toNeeds_calls ne _ _ ((HP.out.next HB7.out).next (box_below _ _)) HZ2.out).mono ?_
  rintro e w6 ⟨v6, rfl, hv6, hb6⟩
  obtain ⟨x0, x1, x2, HB6'⟩ := HX7.out w6 hb6
  have HV6 : Hid (NIn w6 ne v6) := hv6.inn
  have HV76 : Hid (InP w6 t.kids (.slice ad7 t.kids.length cap7)) := HV7.out.nextP HB6'
  have HB6 : Hid (Below w.heap.size w w6) := HB7.out.trans (HB6'.mono HB7.out.size)
  replace d0 := carry HB6' d0
  replace d1 := carry HB6' d1
  replace d2 := carry HB6' d2
  clear hb6 hv6 HB6'
  go_wp2_with fail
  refine (HSI.out _ _ _ HZ.out HV76.out HV6.out).mono ?_
  rintro e w8 ⟨rfl, hb8⟩
  have HV8 : Hid (In w8 t.kids (.slice ad7 t.kids.length cap7)) := HV76.out.inP.next hb8
  have HV6'' : Hid (NIn w8 ne v6) := HV6.out.next hb8
  have HB8 : Hid (Below w.heap.size w w8) := HB6.out.trans (hb8.mono HB6.out.size)
  replace d0 := carry hb8 d0
  replace d1 := carry hb8 d1
  replace d2 := carry hb8 d2
  replace x0 := carry hb8 x0
  replace x1 := carry hb8 x1
  replace x2 := carry hb8 x2
  clear hb8
  have HK8 : Hid (In w8 t.kids (.slice ad t.kids.length cap)) := HK.out.next HB8.out
  go_wp2_with fail
  go_region_with (first
    | (go_at_call 12; go_must (refine (to_calls t.kids _ _ _ _ ?_ HZ.out).mono ?_); go_must (exact HK8.out.drew); go_must (rintro e w11 ⟨v11, rfl, hv11, hb11⟩); go_must (have HV11 : Hid (In w11 t.kids v11) := hv11.btw_in); go_must (have HB11 : Hid (Below w8.heap.size w8 w11) := (Below.refl _ _).drew.trans hb11); go_must (have y0 := carry HB11.out x0); go_must (have y1 := carry HB11.out x1); go_must (have y2 := carry HB11.out x2); clear hv11 hb11)
    | (go_at_call 15; go_must (refine (eq_calls t.kids _ _ _ _ _ ?_ ?_).mono ?_); go_must (exact HV8.out.next HB11.out); go_must (exact HV11.out); go_must (rintro e w12 ⟨rfl, hb12⟩)))
  all_goals
    have HB12' : Hid (Below w8.heap.size w8 w12) := HB11.out.trans (hb12.mono HB11.out.size)
    have HB12 : Hid (Below w.heap.size w w12) := HB8.out.trans (HB12'.out.mono HB8.out.size)
    have HV12 : Hid (NIn w12 ne v6) := HV6''.out.next HB12'.out
    clear hb12 d0 d1 d2 x0 x1 x2 y0 y1 y2
    go_wp2_with fail
    refine (toNeeds_calls ne _ _ (HP.out.next HB12.out) HZ2.out).mono ?_
    rintro e w13 ⟨v13, rfl, hv13, hb13⟩
    have HV13 : Hid (NIn w13 ne v13) := hv13.inn
    have HB13 : Hid (Below w.heap.size w w13) := HB12.out.trans (hb13.mono HB12.out.size)
    have HV12' : Hid (NIn w13 ne v6) := HV12.out.next hb13
    clear hv13 hb13
    go_wp2_with fail
    refine (eqNeeds_calls ne v6 v13 _ HV12'.out HV13.out).mono ?_
    rintro e w14 ⟨rfl, hb14⟩
    have HB14 : Hid (Below w.heap.size w w14) := HB13.out.trans (hb14.mono HB13.out.size)
    clear hb14
    go_wp2_with fail
    go_ret
    exact ⟨rfl, HB14.out⟩
end Go.Proofs.Ytocnkjicmchbdaa.lawExactStrictIn
