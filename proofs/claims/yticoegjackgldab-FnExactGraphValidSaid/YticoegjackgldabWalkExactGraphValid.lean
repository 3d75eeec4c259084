/-
  THE WALK OF FnExactGraphValid.
-/
import Derived.Test.YticoegjackgldabSpecGraph
import Derived.Test.YticoegjackgldabImplGraph
namespace Go.Proofs.Yticoegjackgldab.lawExactGraphValid
open Go.RowKit
set_option linter.unusedVariables false
set_option linter.unusedSimpArgs false

theorem szC_le {g : List Ce} {left : Int} (h : ¬ szC g left < 0) : (g.length : Int) + sumK g ≤ left := by unfold szC at h; split at h <;> omega
set_option maxRecDepth 100000 in
set_option maxHeartbeats 800000 in
theorem walk (g : List Ce) (c : Value) (defs : Int) (w : World) (hk : CIn w g c) (hdefs : I64 defs) :
    Calls Try.prog 4 #[c, .int .i64 defs] w fun e w' => e = .returned (.bool true) ∧ Below w.heap.size w w' := by
  have HK : Hid (CIn w g c) := hk
  have HI : Hid (I64 defs) := hdefs
  have hrg := szC_range g 1048576 (by omega)
  clear hk hdefs
  go_enter Try.func4, Try.ntmps4
  go_wp2_with fail
  refine (szCells_calls g c _ _ HK.out (by omega) (by omega)).mono ?_
  rintro e w1 ⟨rfl, hb1⟩
  have HB1 : Hid (Below w.heap.size w w1) := hb1
  clear hb1
  by_cases hneg : szC g 1048576 < 0
  · go_wp2_with fail
    go_ret
    exact ⟨rfl, HB1.out⟩
  have HZ : Hid (g.length + sumK g ≤ 1048576) := by have := szC_le hneg; unfold Hid; omega
  go_wp2_with fail
  refine (toCells_calls g c _ (HK.out.next HB1.out) HZ.out).mono ?_
  rintro e w2 ⟨v2, rfl, hv2, hb2⟩
  have HV2 : Hid (CIn w2 g v2) := hv2.inn
  have HB2 : Hid (Below w.heap.size w w2) := HB1.out.trans (hb2.mono HB1.out.size)
  clear hv2 hb2
  go_wp2_with fail
  refine (specGraph_calls g defs v2 _ HV2.out).mono ?_
  rintro e w3 ⟨rfl, hb3⟩
  have HB3 : Hid (Below w.heap.size w w3) := HB2.out.trans (hb3.mono HB2.out.size)
  clear hb3
  go_wp2_with fail
  refine (toCells_calls g c _ (HK.out.next HB3.out) HZ.out).mono ?_
  rintro e w4 ⟨v4, rfl, hv4, hb4⟩
  have HV4 : Hid (CIn w4 g v4) := hv4.inn
  have HB4 : Hid (Below w.heap.size w w4) := HB3.out.trans (hb4.mono HB3.out.size)
  clear hv4 hb4
  go_wp2_with fail
  refine (implGraph_calls g defs v4 _ HV4.out).mono ?_
  rintro e w5 ⟨rfl, hb5⟩
  have HV5 : Hid (CIn w5 g v4) := HV4.out.next hb5
  have HB5 : Hid (Below w.heap.size w w5) := HB4.out.trans (hb5.mono HB4.out.size)
  clear hb5
  have tb : (graphB g defs != graphB g defs) = false := by simp
  go_wp2_with fail
  refine (toCells_calls g c _ (HK.out.next HB5.out) HZ.out).mono ?_
  rintro e w6 ⟨v6, rfl, hv6, hb6⟩
  have HV6 : Hid (CIn w6 g v6) := hv6.inn
  have HV5' : Hid (CIn w6 g v4) := HV5.out.next hb6
  have HB6 : Hid (Below w.heap.size w w6) := HB5.out.trans (hb6.mono HB5.out.size)
  clear hv6 hb6
  go_wp2_with fail
  refine (eqCells_calls g v4 v6 _ HV5'.out HV6.out).mono ?_
  rintro e w7 ⟨rfl, hb7⟩
  have HB7 : Hid (Below w.heap.size w w7) := HB6.out.trans (hb7.mono HB6.out.size)
  clear hb7
  go_wp2_with fail
  go_ret
  exact ⟨rfl, HB7.out⟩
end Go.Proofs.Yticoegjackgldab.lawExactGraphValid
