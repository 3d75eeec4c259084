/-
  THE WALK OF FnExactNeedHolds.
-/
import Derived.Test.YtocnkjicmchbdaaSpecNh
import Derived.Test.YtocnkjicmchbdaaImplStl
import Derived.Test.YtocnkjicmchbdaaNeeds
import Derived.Test.YtocnkjicmchbdaaDefsP
import Derived.Test.YtocnkjicmchbdaaSz
import Derived.Test.YtocnkjicmchbdaaEq
namespace Go.Proofs.Ytocnkjicmchbdaa.lawExactNeedHolds
open Go.ChangeShapes Go.WideShapes Go.ChangeAt Go.RowKit
set_option linter.unusedVariables false
set_option linter.unusedSimpArgs false

set_option maxRecDepth 100000 in
set_option maxHeartbeats 3200000 in
theorem walk (ds0 : List Df) (c0 : Value) (ne1 : List (List Bool)) (c1 : Value) (w : World) (hk0 : DIn w ds0 c0) (hk1 : NIn w ne1 c1) :
    Calls Try.prog 5 #[c0, c1] w fun e w' => e = .returned (.bool true) ∧ Below w.heap.size w w' := by
  have HK0 : Hid (DIn w ds0 c0) := hk0
  have HK1 : Hid (NIn w ne1 c1) := hk1
  obtain ⟨r0, hr0⟩ : ∃ r : Bool, r = holdsO ds0 ne1 := ⟨_, rfl⟩
  have HSS : Hid (∀ (u0 u1 : Value) (W : World), szL (bodies ds0) ≤ 1048576 → DIn W ds0 u0 → NIn W ne1 u1 → Calls Try.prog 25 #[u0, u1] W fun en w' => en = .returned (.bool r0) ∧ Below W.heap.size W w') := fun u0 u1 W z0 h0 h1 => by rw [hr0]; exact specNeedHolds_calls ds0 ne1 u0 u1 W h0 h1 z0
  have HSI : Hid (∀ (u0 u1 : Value) (W : World), szL (bodies ds0) ≤ 1048576 → DInP W ds0 u0 → NIn W ne1 u1 → Calls Try.prog 26 #[u0, u1] W fun en w' => en = .returned (.bool r0) ∧ Below W.heap.size W w') := fun u0 u1 W z0 h0 h1 => by rw [hr0]; exact implNeedHolds_calls ds0 ne1 u0 u1 W h0 h1 z0
  have t0 : (r0 != r0) = false := by simp
  clear hr0
  clear hk0
  clear hk1
  go_enter Try.func5, Try.ntmps5
  have HB_w : Hid (Below w.heap.size w w) := Below.refl _ _
  have hleft0 : (0 : Int) ≤ 1048576 ∧ (1048576 : Int) ≤ 1048576 := by omega
  have hrg0 := szOut_range (bodies ds0) 1048576 (by omega)
  go_wp2_with fail
  refine (szDefS_calls ds0 c0 _ _ (HK0.out.next HB_w.out) (by omega) (by omega)).mono ?_
  rintro en w1 ⟨rfl, hb⟩
  have HB_w1 : Hid (Below w.heap.size w w1) := HB_w.out.trans (hb.mono HB_w.out.size)
  clear hb
  by_cases hneg0 : szOut (bodies ds0) 1048576 < 0
  · go_wp2_with fail
    go_ret
    exact ⟨rfl, HB_w1.out⟩
  have HZ0 : Hid (szL (bodies ds0) ≤ 1048576) := by unfold szOut at hneg0; unfold Hid; split at hneg0 <;> omega
  generalize szOut (bodies ds0) 1048576 = left0 at *
  have hrg1 := szN_range ne1 left0 (by omega)
  go_wp2_with fail
  refine (szNeeds_calls ne1 c1 _ _ (HK1.out.next HB_w1.out) (by omega) (by omega)).mono ?_
  rintro en w2 ⟨rfl, hb⟩
  have HB_w2 : Hid (Below w.heap.size w w2) := HB_w1.out.trans (hb.mono HB_w1.out.size)
  clear hb
  by_cases hneg1 : szN ne1 left0 < 0
  · go_wp2_with fail
    go_ret
    exact ⟨rfl, HB_w2.out⟩
  have HZ1 : Hid (ne1.length + sumB ne1 ≤ 1048576) := by unfold szN at hneg1; unfold Hid; split at hneg1 <;> omega
  generalize szN ne1 left0 = left1 at *
  clear hrg0
  clear hrg1
  -- the model's answer
  go_wp2_with fail
  refine (toDefS_calls ds0 c0 _ (HK0.out.next HB_w2.out) HZ0.out).mono ?_
  rintro en w3 ⟨s0, rfl, hv, hb⟩
  have HB_w3 : Hid (Below w.heap.size w w3) := HB_w2.out.trans (hb.mono HB_w2.out.size)
  have s0_w3 : Hid (DIn w3 ds0 s0) := hv.btw_in
  clear hv hb
  go_wp2_with fail
  refine (toNeeds_calls ne1 c1 _ (HK1.out.next HB_w3.out) HZ1.out).mono ?_
  rintro en w4 ⟨s1, rfl, hv, hb⟩
  have s0_w4 : Hid (DIn w4 ds0 s0) := s0_w3.out.next hb
  have HB_w4 : Hid (Below w.heap.size w w4) := HB_w3.out.trans (hb.mono HB_w3.out.size)
  have s1_w4 : Hid (NIn w4 ne1 s1) := hv.inn
  clear hv hb
  go_wp2_with fail
  refine (HSS.out s0 s1 _ HZ0.out s0_w4.out s1_w4.out).mono ?_
  rintro en w5 ⟨rfl, hb⟩
  have HB_w5 : Hid (Below w.heap.size w w5) := HB_w4.out.trans (hb.mono HB_w4.out.size)
  clear hb
  -- the program's answer
  go_wp2_with fail
  refine (toDefS_callsP ds0 c0 _ (HK0.out.next HB_w5.out) HZ0.out).mono ?_
  rintro en w6 ⟨x0, rfl, hv, hb⟩
  have HB_w6 : Hid (Below w.heap.size w w6) := HB_w5.out.trans (hb.mono HB_w5.out.size)
  have x0_w6 : Hid (DInP w6 ds0 x0) := DefsOn.plain hv
  clear hv hb
  go_wp2_with fail
  refine (toNeeds_calls ne1 c1 _ (HK1.out.next HB_w6.out) HZ1.out).mono ?_
  rintro en w7 ⟨x1, rfl, hv, hb⟩
  have x0_w7 : Hid (DInP w7 ds0 x0) := DefsOn.nextP x0_w6.out hb
  have HB_w7 : Hid (Below w.heap.size w w7) := HB_w6.out.trans (hb.mono HB_w6.out.size)
  have x1_w7 : Hid (NIn w7 ne1 x1) := hv.inn
  clear hv hb
  go_wp2_with fail
  refine (HSI.out x0 x1 _ HZ0.out x0_w7.out x1_w7.out).mono ?_
  rintro en w8 ⟨rfl, hb⟩
  have x0_w8 : Hid (DInP w8 ds0 x0) := DefsOn.nextP x0_w7.out hb
  have x1_w8 : Hid (NIn w8 ne1 x1) := x1_w7.out.next hb
  have HB_w8 : Hid (Below w.heap.size w w8) := HB_w7.out.trans (hb.mono HB_w7.out.size)
  clear hb
  -- the arguments are as they were
  go_wp2_with fail
  refine (toDefS_calls ds0 c0 _ (HK0.out.next HB_w8.out) HZ0.out).mono ?_
  rintro en w9 ⟨y0, rfl, hv, hb⟩
  have x0_w9 : Hid (DInP w9 ds0 x0) := DefsOn.nextP x0_w8.out hb
  have x1_w9 : Hid (NIn w9 ne1 x1) := x1_w8.out.next hb
  have HB_w9 : Hid (Below w.heap.size w w9) := HB_w8.out.trans (hb.mono HB_w8.out.size)
  have y0_w9 : Hid (DIn w9 ds0 y0) := hv.btw_in
  clear hv hb
  go_wp2_with fail
  refine (eqDefS_calls ds0 x0 y0 _ (DefsOn.inP x0_w9.out) y0_w9.out).mono ?_
  rintro en w10 ⟨rfl, hb⟩
  have x0_w10 : Hid (DInP w10 ds0 x0) := DefsOn.nextP x0_w9.out hb
  have x1_w10 : Hid (NIn w10 ne1 x1) := x1_w9.out.next hb
  have HB_w10 : Hid (Below w.heap.size w w10) := HB_w9.out.trans (hb.mono HB_w9.out.size)
  clear hb
  go_wp2_with fail
  refine (toNeeds_calls ne1 c1 _ (HK1.out.next HB_w10.out) HZ1.out).mono ?_
  rintro en w11 ⟨y1, rfl, hv, hb⟩
  have x0_w11 : Hid (DInP w11 ds0 x0) := DefsOn.nextP x0_w10.out hb
  have x1_w11 : Hid (NIn w11 ne1 x1) := x1_w10.out.next hb
  have HB_w11 : Hid (Below w.heap.size w w11) := HB_w10.out.trans (hb.mono HB_w10.out.size)
  have y1_w11 : Hid (NIn w11 ne1 y1) := hv.inn
  clear hv hb
  go_wp2_with fail
  refine (eqNeeds_calls ne1 x1 y1 _ x1_w11.out y1_w11.out).mono ?_
  rintro en w12 ⟨rfl, hb⟩
  have x0_w12 : Hid (DInP w12 ds0 x0) := DefsOn.nextP x0_w11.out hb
  have x1_w12 : Hid (NIn w12 ne1 x1) := x1_w11.out.next hb
  have HB_w12 : Hid (Below w.heap.size w w12) := HB_w11.out.trans (hb.mono HB_w11.out.size)
  clear hb
  go_wp2_with fail
  go_ret
  exact ⟨rfl, HB_w12.out⟩
end Go.Proofs.Ytocnkjicmchbdaa.lawExactNeedHolds
