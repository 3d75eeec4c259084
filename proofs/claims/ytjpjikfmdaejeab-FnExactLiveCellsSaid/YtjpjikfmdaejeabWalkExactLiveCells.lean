/-
  THE WALK OF FnExactLiveCells.
-/
import Derived.Test.YtjpjikfmdaejeabSpecLive
import Derived.Test.YtjpjikfmdaejeabImplLive
import Derived.Test.YtjpjikfmdaejeabMarkC
import Derived.Test.YtjpjikfmdaejeabCRow
import Derived.Test.YtjpjikfmdaejeabToInts
import Derived.Test.YtjpjikfmdaejeabCells
import Derived.Test.YtjpjikfmdaejeabInts
namespace Go.Proofs.Ytjpjikfmdaejeab.lawExactLiveCells
open Go.ChangeShapes Go.WideShapes Go.ChangeAt Go.RowKit
set_option linter.unusedVariables false
set_option linter.unusedSimpArgs false

set_option maxRecDepth 100000 in
set_option maxHeartbeats 3200000 in
theorem walk (g0 : List Ce) (c0 : Value) (xs1 : List Int) (c1 : Value) (w : World) (hk0 : CIn w g0 c0) (hk1 : IIn w xs1 c1) :
    Calls Try.prog 4 #[c0, c1] w fun e w' => e = .returned (.bool true) ∧ Below w.heap.size w w' := by
  have HK0 : Hid (CIn w g0 c0) := hk0
  have HK1 : Hid (IIn w xs1 c1) := hk1
  obtain ⟨r0, hr0⟩ : ∃ r : Int, r = liveO g0 xs1 := ⟨_, rfl⟩
  obtain ⟨r1, hr1⟩ : ∃ r : Bool, r = rootB g0 xs1 := ⟨_, rfl⟩
  have HSS : Hid (∀ (u0 u1 : Value) (W : World), CIn W g0 u0 → IIn W xs1 u1 → Calls Try.prog 13 #[u0, u1] W fun en w' => en = .returned (.tuple #[.int .i64 r0, .bool r1]) ∧ Below W.heap.size W w') := fun u0 u1 W h0 h1 => by rw [hr0, hr1]; exact specLive_calls g0 xs1 u0 u1 W h0 h1
  have HSI : Hid (∀ (u0 u1 : Value) (W : World), CIn W g0 u0 → IIn W xs1 u1 → Calls Try.prog 15 #[u0, u1] W fun en w' => en = .returned (.tuple #[.int .i64 r0, .bool r1]) ∧ Below W.heap.size W w') := fun u0 u1 W h0 h1 => by rw [hr0, hr1]; exact implLive_calls g0 xs1 u0 u1 W h0 h1
  have t0 : (r0 != r0) = false := by simp
  have t1 : (r1 != r1) = false := by simp
  clear hr0 hr1
  clear hk0
  obtain ⟨ad1, cap1, rfl, hl1, hm1, -⟩ := hk1
  unfold maxLen at hm1
  go_enter Try.func4, Try.ntmps4
  have HB_w : Hid (Below w.heap.size w w) := Below.refl _ _
  by_cases hlen1 : (1048576 : Int) < (xs1.length : Int)
  · go_wp2_with fail
    go_ret
    exact ⟨rfl, HB_w.out⟩
  have HL1 : Hid (xs1.length ≤ 1048576) := by unfold Hid; omega
  have hleft0 : (0 : Int) ≤ 1048576 ∧ (1048576 : Int) ≤ 1048576 := by omega
  have hrg0 := szC_range g0 1048576 (by omega)
  go_wp2_with fail
  refine (szCells_calls g0 c0 _ _ (HK0.out.next HB_w.out) (by omega) (by omega)).mono ?_
  rintro en w1 ⟨rfl, hb⟩
  have HB_w1 : Hid (Below w.heap.size w w1) := HB_w.out.trans (hb.mono HB_w.out.size)
  clear hb
  by_cases hneg0 : szC g0 1048576 < 0
  · go_wp2_with fail
    go_ret
    exact ⟨rfl, HB_w1.out⟩
  have HZ0 : Hid (g0.length + sumK g0 ≤ 1048576) := by unfold szC at hneg0; unfold Hid; split at hneg0 <;> omega
  generalize szC g0 1048576 = left0 at *
  clear hrg0
  -- the model's answer
  go_wp2_with fail
  refine (toCells_calls g0 c0 _ (HK0.out.next HB_w1.out) HZ0.out).mono ?_
  rintro en w2 ⟨s0, rfl, hv, hb⟩
  have HB_w2 : Hid (Below w.heap.size w w2) := HB_w1.out.trans (hb.mono HB_w1.out.size)
  have s0_w2 : Hid (CIn w2 g0 s0) := hv.inn
  clear hv hb
  go_wp2_with fail
  refine (toInts_calls xs1 (.slice ad1 xs1.length cap1) _ (HK1.out.next HB_w2.out) HL1.out).mono ?_
  rintro en w3 ⟨s1, rfl, hv, hb⟩
  have s0_w3 : Hid (CIn w3 g0 s0) := s0_w2.out.next hb
  have HB_w3 : Hid (Below w.heap.size w w3) := HB_w2.out.trans (hb.mono HB_w2.out.size)
  have s1_w3 : Hid (IIn w3 xs1 s1) := hv.inn
  clear hv hb
  go_wp2_with fail
  refine (HSS.out s0 s1 _ s0_w3.out s1_w3.out).mono ?_
  rintro en w4 ⟨rfl, hb⟩
  have HB_w4 : Hid (Below w.heap.size w w4) := HB_w3.out.trans (hb.mono HB_w3.out.size)
  clear hb
  -- the program's answer
  go_wp2_with fail
  refine (toCells_calls g0 c0 _ (HK0.out.next HB_w4.out) HZ0.out).mono ?_
  rintro en w5 ⟨x0, rfl, hv, hb⟩
  have HB_w5 : Hid (Below w.heap.size w w5) := HB_w4.out.trans (hb.mono HB_w4.out.size)
  have x0_w5 : Hid (CIn w5 g0 x0) := hv.inn
  clear hv hb
  go_wp2_with fail
  refine (toInts_calls xs1 (.slice ad1 xs1.length cap1) _ (HK1.out.next HB_w5.out) HL1.out).mono ?_
  rintro en w6 ⟨x1, rfl, hv, hb⟩
  have x0_w6 : Hid (CIn w6 g0 x0) := x0_w5.out.next hb
  have HB_w6 : Hid (Below w.heap.size w w6) := HB_w5.out.trans (hb.mono HB_w5.out.size)
  have x1_w6 : Hid (IIn w6 xs1 x1) := hv.inn
  clear hv hb
  go_wp2_with fail
  refine (HSI.out x0 x1 _ x0_w6.out x1_w6.out).mono ?_
  rintro en w7 ⟨rfl, hb⟩
  have x0_w7 : Hid (CIn w7 g0 x0) := x0_w6.out.next hb
  have x1_w7 : Hid (IIn w7 xs1 x1) := x1_w6.out.next hb
  have HB_w7 : Hid (Below w.heap.size w w7) := HB_w6.out.trans (hb.mono HB_w6.out.size)
  clear hb
  -- the arguments are as they were
  go_wp2_with fail
  refine (toCells_calls g0 c0 _ (HK0.out.next HB_w7.out) HZ0.out).mono ?_
  rintro en w8 ⟨y0, rfl, hv, hb⟩
  have x0_w8 : Hid (CIn w8 g0 x0) := x0_w7.out.next hb
  have x1_w8 : Hid (IIn w8 xs1 x1) := x1_w7.out.next hb
  have HB_w8 : Hid (Below w.heap.size w w8) := HB_w7.out.trans (hb.mono HB_w7.out.size)
  have y0_w8 : Hid (CIn w8 g0 y0) := hv.inn
  clear hv hb
  go_wp2_with fail
  refine (eqCells_calls g0 x0 y0 _ x0_w8.out y0_w8.out).mono ?_
  rintro en w9 ⟨rfl, hb⟩
  have x0_w9 : Hid (CIn w9 g0 x0) := x0_w8.out.next hb
  have x1_w9 : Hid (IIn w9 xs1 x1) := x1_w8.out.next hb
  have HB_w9 : Hid (Below w.heap.size w w9) := HB_w8.out.trans (hb.mono HB_w8.out.size)
  clear hb
  go_wp2_with fail
  refine (toInts_calls xs1 (.slice ad1 xs1.length cap1) _ (HK1.out.next HB_w9.out) HL1.out).mono ?_
  rintro en w10 ⟨y1, rfl, hv, hb⟩
  have x0_w10 : Hid (CIn w10 g0 x0) := x0_w9.out.next hb
  have x1_w10 : Hid (IIn w10 xs1 x1) := x1_w9.out.next hb
  have HB_w10 : Hid (Below w.heap.size w w10) := HB_w9.out.trans (hb.mono HB_w9.out.size)
  have y1_w10 : Hid (IIn w10 xs1 y1) := hv.inn
  clear hv hb
  go_wp2_with fail
  refine (eqInts_calls xs1 x1 y1 _ x1_w10.out y1_w10.out).mono ?_
  rintro en w11 ⟨rfl, hb⟩
  have x0_w11 : Hid (CIn w11 g0 x0) := x0_w10.out.next hb
  have x1_w11 : Hid (IIn w11 xs1 x1) := x1_w10.out.next hb
  have HB_w11 : Hid (Below w.heap.size w w11) := HB_w10.out.trans (hb.mono HB_w10.out.size)
  clear hb
  go_wp2_with fail
  go_ret
  exact ⟨rfl, HB_w11.out⟩
end Go.Proofs.Ytjpjikfmdaejeab.lawExactLiveCells
