/-
  THE WALK OF FnExactGraphSame.
-/
import Derived.Test.YticoegjackgldabImplSame
import Derived.Test.YticoegjackgldabSpecSameG
namespace Go.Proofs.Yticoegjackgldab.lawExactGraphSame
open Go.RowKit
set_option linter.unusedVariables false
set_option linter.unusedSimpArgs false

theorem szC_le {g : List Ce} {left : Int} (h : ¬ szC g left < 0) : (g.length : Int) + sumK g ≤ left := by unfold szC at h; split at h <;> omega
set_option maxRecDepth 100000 in
set_option maxHeartbeats 800000 in
theorem walk (a : List Ce) (u : Value) (b : List Ce) (v : Value) (w : World) (hu : CIn w a u) (hv : CIn w b v) :
    Calls Try.prog 10 #[u, v] w fun e w' => e = .returned (.bool true) ∧ Below w.heap.size w w' := by
  have HU : Hid (CIn w a u) := hu
  have HV : Hid (CIn w b v) := hv
  have hrg := szC_range a 1048576 (by omega)
  clear hu hv
  go_enter Try.func10, Try.ntmps10
  go_wp2_with fail
  refine (szCells_calls a u _ _ HU.out (by omega) (by omega)).mono ?_
  rintro e w0 ⟨rfl, hb0⟩
  have HB0 : Hid (Below w.heap.size w w0) := hb0
  clear hb0
  by_cases hneg : szC a 1048576 < 0
  · go_wp2_with fail
    go_ret
    exact ⟨rfl, HB0.out⟩
  have HZ1 : Hid (a.length + sumK a ≤ 1048576) := by have := szC_le hneg; unfold Hid; omega
  have hrg2 := szC_range b (szC a 1048576) (by omega)
  go_wp2_with fail
  refine (szCells_calls b v _ _ (HV.out.next HB0.out) (by omega) (by omega)).mono ?_
  rintro e w1 ⟨rfl, hb1⟩
  have HB1 : Hid (Below w.heap.size w w1) := HB0.out.trans (hb1.mono HB0.out.size)
  clear hb1
  by_cases hneg2 : szC b (szC a 1048576) < 0
  · go_wp2_with fail
    go_ret
    exact ⟨rfl, HB1.out⟩
  have HZ2 : Hid (b.length + sumK b ≤ 1048576) := by have := szC_le hneg2; unfold Hid; omega
  go_wp2_with fail
  refine (toCells_calls a u _ (HU.out.next HB1.out) HZ1.out).mono ?_
  rintro e w2 ⟨v2, rfl, hv2, hb2⟩
  have HA2 : Hid (CIn w2 a v2) := hv2.inn
  have HB2 : Hid (Below w.heap.size w w2) := HB1.out.trans (hb2.mono HB1.out.size)
  clear hv2 hb2
  go_wp2_with fail
  refine (toCells_calls b v _ (HV.out.next HB2.out) HZ2.out).mono ?_
  rintro e w3 ⟨v3, rfl, hv3, hb3⟩
  have HA3 : Hid (CIn w3 a v2) := HA2.out.next hb3
  have HC3 : Hid (CIn w3 b v3) := hv3.inn
  have HB3 : Hid (Below w.heap.size w w3) := HB2.out.trans (hb3.mono HB2.out.size)
  clear hv3 hb3
  go_wp2_with fail
  refine (specSameG_calls a b v2 v3 _ HA3.out HC3.out).mono ?_
  rintro e w4 ⟨rfl, hb4⟩
  have HB4 : Hid (Below w.heap.size w w4) := HB3.out.trans (hb4.mono HB3.out.size)
  clear hb4
  go_wp2_with fail
  refine (toCells_calls a u _ (HU.out.next HB4.out) HZ1.out).mono ?_
  rintro e w5 ⟨v5, rfl, hv5, hb5⟩
  have HA5 : Hid (CIn w5 a v5) := hv5.inn
  have HB5 : Hid (Below w.heap.size w w5) := HB4.out.trans (hb5.mono HB4.out.size)
  clear hv5 hb5
  go_wp2_with fail
  refine (toCells_calls b v _ (HV.out.next HB5.out) HZ2.out).mono ?_
  rintro e w6 ⟨v6, rfl, hv6, hb6⟩
  have HA6 : Hid (CIn w6 a v5) := HA5.out.next hb6
  have HC6 : Hid (CIn w6 b v6) := hv6.inn
  have HB6 : Hid (Below w.heap.size w w6) := HB5.out.trans (hb6.mono HB5.out.size)
  clear hv6 hb6
  go_wp2_with fail
  refine (implSameG_calls a b v5 v6 _ HA6.out HC6.out).mono ?_
  rintro e w7 ⟨rfl, hb7⟩
  have HA7 : Hid (CIn w7 a v5) := HA6.out.next hb7
  have HC7 : Hid (CIn w7 b v6) := HC6.out.next hb7
  have HB7 : Hid (Below w.heap.size w w7) := HB6.out.trans (hb7.mono HB6.out.size)
  clear hb7
  have tb : (sameG a b != sameG a b) = false := by simp
  go_wp2_with fail
  refine (toCells_calls a u _ (HU.out.next HB7.out) HZ1.out).mono ?_
  rintro e w8 ⟨v8, rfl, hv8, hb8⟩
  have HA8 : Hid (CIn w8 a v5) := HA7.out.next hb8
  have HC8 : Hid (CIn w8 b v6) := HC7.out.next hb8
  have HD8 : Hid (CIn w8 a v8) := hv8.inn
  have HB8 : Hid (Below w.heap.size w w8) := HB7.out.trans (hb8.mono HB7.out.size)
  clear hv8 hb8
  go_wp2_with fail
  refine (eqCells_calls a v5 v8 _ HA8.out HD8.out).mono ?_
  rintro e w9 ⟨rfl, hb9⟩
  have HC9 : Hid (CIn w9 b v6) := HC8.out.next hb9
  have HB9 : Hid (Below w.heap.size w w9) := HB8.out.trans (hb9.mono HB8.out.size)
  clear hb9
  go_wp2_with fail
  refine (toCells_calls b v _ (HV.out.next HB9.out) HZ2.out).mono ?_
  rintro e w10 ⟨v10, rfl, hv10, hb10⟩
  have HC10 : Hid (CIn w10 b v6) := HC9.out.next hb10
  have HD10 : Hid (CIn w10 b v10) := hv10.inn
  have HB10 : Hid (Below w.heap.size w w10) := HB9.out.trans (hb10.mono HB9.out.size)
  clear hv10 hb10
  go_wp2_with fail
  refine (eqCells_calls b v6 v10 _ HC10.out HD10.out).mono ?_
  rintro e w11 ⟨rfl, hb11⟩
  have HB11 : Hid (Below w.heap.size w w11) := HB10.out.trans (hb11.mono HB10.out.size)
  clear hb11
  go_wp2_with fail
  go_ret
  exact ⟨rfl, HB11.out⟩
end Go.Proofs.Yticoegjackgldab.lawExactGraphSame
