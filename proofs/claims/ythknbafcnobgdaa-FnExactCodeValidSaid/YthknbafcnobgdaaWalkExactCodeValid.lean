/-
  THE WALK OF FnExactCodeValid.
-/
import Derived.Test.YthknbafcnobgdaaSpecCv
import Derived.Test.YthknbafcnobgdaaImplCv
import Derived.Test.YthknbafcnobgdaaSz
namespace Go.Proofs.Ythknbafcnobgdaa.lawExactCodeValid
open Go.ChangeShapes Go.WideShapes Go.ChangeAt Go.RowKit
set_option linter.unusedVariables false
set_option linter.unusedSimpArgs false

set_option maxRecDepth 100000 in
set_option maxHeartbeats 3200000 in
theorem walk (cs0 : List Ins) (c0 : Value) (i1 : Int) (i2 : Int) (w : World) (hk0 : InsIn w cs0 c0) (hw0 : ∀ c ∈ cs0, I64 c.op ∧ I64 c.num) (hi1 : I64 i1) (hi2 : I64 i2) :
    Calls Try.prog 3 #[c0, .int .i64 i1, .int .i64 i2] w fun e w' => e = .returned (.bool true) ∧ Below w.heap.size w w' := by
  have HK0 : Hid (InsIn w cs0 c0) := hk0
  obtain ⟨r0, hr0⟩ : ∃ r : Bool, r = codeB cs0 i1 i2 := ⟨_, rfl⟩
  have HSS : Hid (∀ (u0 : Value) (W : World), cs0.length ≤ 1048576 → InsIn W cs0 u0 → Calls Try.prog 10 #[u0, .int .i64 i1, .int .i64 i2] W fun en w' => en = .returned (.bool r0) ∧ Below W.heap.size W w') := fun u0 W z0 h0 => by rw [hr0]; exact specCodeV_calls cs0 i1 i2 u0 W h0 z0 hw0
  have HSI : Hid (∀ (u0 : Value) (W : World), cs0.length ≤ 1048576 → InsIn W cs0 u0 → Calls Try.prog 12 #[u0, .int .i64 i1, .int .i64 i2] W fun en w' => en = .returned (.bool r0) ∧ Below W.heap.size W w') := fun u0 W z0 h0 => by rw [hr0]; exact implCodeV_calls cs0 i1 i2 u0 W h0 z0 hw0
  have t0 : (r0 != r0) = false := by simp
  clear hr0
  clear hw0
  clear hk0
  clear hi1
  clear hi2
  go_enter Try.func3, Try.ntmps3
  have HB_w : Hid (Below w.heap.size w w) := Below.refl _ _
  have hleft0 : (0 : Int) ≤ 1048576 ∧ (1048576 : Int) ≤ 1048576 := by omega
  have hrg0 := szI_range cs0 1048576 (by omega)
  go_wp2_with fail
  refine (szCode_calls cs0 c0 _ _ (HK0.out.next HB_w.out) (by omega) (by omega)).mono ?_
  rintro en w1 ⟨rfl, hb⟩
  have HB_w1 : Hid (Below w.heap.size w w1) := HB_w.out.trans (hb.mono HB_w.out.size)
  clear hb
  by_cases hneg0 : szI cs0 1048576 < 0
  · go_wp2_with fail
    go_ret
    exact ⟨rfl, HB_w1.out⟩
  have HZ0 : Hid (cs0.length ≤ 1048576) := by unfold szI at hneg0; unfold Hid; split at hneg0 <;> omega
  generalize szI cs0 1048576 = left0 at *
  clear hrg0
  -- the model's answer
  go_wp2_with fail
  refine (toCode_calls cs0 c0 _ (HK0.out.next HB_w1.out) HZ0.out).mono ?_
  rintro en w2 ⟨s0, rfl, hv, hb⟩
  have HB_w2 : Hid (Below w.heap.size w w2) := HB_w1.out.trans (hb.mono HB_w1.out.size)
  have s0_w2 : Hid (InsIn w2 cs0 s0) := hv.inn
  clear hv hb
  go_wp2_with fail
  refine (HSS.out s0 _ HZ0.out s0_w2.out).mono ?_
  rintro en w3 ⟨rfl, hb⟩
  have HB_w3 : Hid (Below w.heap.size w w3) := HB_w2.out.trans (hb.mono HB_w2.out.size)
  clear hb
  -- the program's answer
  go_wp2_with fail
  refine (toCode_calls cs0 c0 _ (HK0.out.next HB_w3.out) HZ0.out).mono ?_
  rintro en w4 ⟨x0, rfl, hv, hb⟩
  have HB_w4 : Hid (Below w.heap.size w w4) := HB_w3.out.trans (hb.mono HB_w3.out.size)
  have x0_w4 : Hid (InsIn w4 cs0 x0) := hv.inn
  clear hv hb
  go_wp2_with fail
  refine (HSI.out x0 _ HZ0.out x0_w4.out).mono ?_
  rintro en w5 ⟨rfl, hb⟩
  have x0_w5 : Hid (InsIn w5 cs0 x0) := x0_w4.out.next hb
  have HB_w5 : Hid (Below w.heap.size w w5) := HB_w4.out.trans (hb.mono HB_w4.out.size)
  clear hb
  -- the arguments are as they were
  go_wp2_with fail
  refine (toCode_calls cs0 c0 _ (HK0.out.next HB_w5.out) HZ0.out).mono ?_
  rintro en w6 ⟨y0, rfl, hv, hb⟩
  have x0_w6 : Hid (InsIn w6 cs0 x0) := x0_w5.out.next hb
  have HB_w6 : Hid (Below w.heap.size w w6) := HB_w5.out.trans (hb.mono HB_w5.out.size)
  have y0_w6 : Hid (InsIn w6 cs0 y0) := hv.inn
  clear hv hb
  go_wp2_with fail
  refine (eqCode_calls cs0 x0 y0 _ x0_w6.out y0_w6.out).mono ?_
  rintro en w7 ⟨rfl, hb⟩
  have x0_w7 : Hid (InsIn w7 cs0 x0) := x0_w6.out.next hb
  have HB_w7 : Hid (Below w.heap.size w w7) := HB_w6.out.trans (hb.mono HB_w6.out.size)
  clear hb
  go_wp2_with fail
  go_ret
  exact ⟨rfl, HB_w7.out⟩
end Go.Proofs.Ythknbafcnobgdaa.lawExactCodeValid
