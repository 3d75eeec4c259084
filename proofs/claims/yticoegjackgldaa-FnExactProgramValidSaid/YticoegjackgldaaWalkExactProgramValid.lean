/-
  THE WALK OF FnExactProgramValid.
-/
import Derived.Test.YticoegjackgldaaValidProg
namespace Go.Proofs.Yticoegjackgldaa.lawExactProgramValid
open Go.RowKit
set_option linter.unusedVariables false
set_option linter.unusedSimpArgs false

set_option maxRecDepth 100000 in
set_option maxHeartbeats 800000 in
theorem walk (ds : List Df) (c : Value) (w : World) (hk : DIn w ds c) :
    Calls Try.prog 4 #[c] w fun e w' => e = .returned (.bool true) ∧ Below w.heap.size w w' := by
  have HK : Hid (DIn w ds c) := hk
  have hrg := szOut_range (bodies ds) 1048576 (by omega)
  clear hk
  go_enter Try.func4, Try.ntmps4
  go_wp2_with fail
  refine (szDefS_calls ds c _ _ HK.out (by omega) (by omega)).mono ?_
  rintro e w1 ⟨rfl, hb1⟩
  have HB1 : Hid (Below w.heap.size w w1) := hb1
  clear hb1
  by_cases hneg : szOut (bodies ds) 1048576 < 0
  · go_wp2_with fail
    go_ret
    exact ⟨rfl, HB1.out⟩
  have HZ : Hid (szL (bodies ds) ≤ 1048576) := by unfold szOut at hneg; unfold Hid; split at hneg <;> omega
  go_wp2_with fail
  refine (toDefS_calls ds c _ (HK.out.next HB1.out) HZ.out).mono ?_
  rintro e w2 ⟨v2, rfl, hv2, hb2⟩
  have HV2 : Hid (DIn w2 ds v2) := hv2.btw_in
  have HB2 : Hid (Below w.heap.size w w2) := HB1.out.trans (hb2.mono HB1.out.size)
  clear hv2 hb2
  go_wp2_with fail
  refine (specProg_calls ds v2 _ HV2.out).mono ?_
  rintro e w3 ⟨rfl, hb3⟩
  have HB3 : Hid (Below w.heap.size w w3) := HB2.out.trans (hb3.mono HB2.out.size)
  clear hb3
  go_wp2_with fail
  refine (toDefS_calls ds c _ (HK.out.next HB3.out) HZ.out).mono ?_
  rintro e w4 ⟨v4, rfl, hv4, hb4⟩
  have HV4 : Hid (DIn w4 ds v4) := hv4.btw_in
  have HB4 : Hid (Below w.heap.size w w4) := HB3.out.trans (hb4.mono HB3.out.size)
  clear hv4 hb4
  go_wp2_with fail
  refine (implProg_calls ds v4 _ HV4.out).mono ?_
  rintro e w5 ⟨rfl, hb5⟩
  have HV5 : Hid (DIn w5 ds v4) := HV4.out.next hb5
  have HB5 : Hid (Below w.heap.size w w5) := HB4.out.trans (hb5.mono HB4.out.size)
  clear hb5
  have tb : (progB ds != progB ds) = false := by simp
  go_wp2_with fail
  refine (toDefS_calls ds c _ (HK.out.next HB5.out) HZ.out).mono ?_
  rintro e w6 ⟨v6, rfl, hv6, hb6⟩
  have HV6 : Hid (DIn w6 ds v6) := hv6.btw_in
  have HV5' : Hid (DIn w6 ds v4) := HV5.out.next hb6
  have HB6 : Hid (Below w.heap.size w w6) := HB5.out.trans (hb6.mono HB5.out.size)
  clear hv6 hb6
  go_wp2_with fail
  refine (eqDefS_calls ds v4 v6 _ HV5'.out HV6.out).mono ?_
  rintro e w7 ⟨rfl, hb7⟩
  have HB7 : Hid (Below w.heap.size w w7) := HB6.out.trans (hb7.mono HB6.out.size)
  clear hb7
  go_wp2_with fail
  go_ret
  exact ⟨rfl, HB7.out⟩
end Go.Proofs.Yticoegjackgldaa.lawExactProgramValid
