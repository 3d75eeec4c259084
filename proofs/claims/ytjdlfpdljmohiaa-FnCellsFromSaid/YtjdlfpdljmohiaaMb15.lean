/-
  THE MODEL's CellsFrom: what can be reached.
-/
import Derived.Test.YtjdlfpdljmohiaaMb13
namespace Go.Proofs.Ytjdlfpdljmohiaa
set_option linter.unusedVariables false
set_option linter.unusedSimpArgs false
open Go.RowKit

set_option maxHeartbeats 800000 in
theorem specFrom_calls (g : List Ce) (root : Int) (v : Value) (w : World) (fl : Nat → Bool) (hfl : ∀ a, fl a = true ↔ Reach g root.toNat a) (hk : CIn w g v) :
    Calls Try.prog 22 #[v, .int .i64 root] w (NewInts (fromB g root fl) w) := by
  have HK : Hid (CIn w g v) := hk
  have HFL : Hid (∀ a, fl a = true ↔ Reach g root.toNat a) := hfl
  obtain ⟨ad, cap, rfl, hl, hm, -⟩ := hk
  unfold maxLen at hm
  clear hfl
  go_enter Try.func22, Try.ntmps22
  go_wp2_with fail
  refine (specGraph_calls g 6 _ _ HK.out).mono ?_
  rintro e w1 ⟨rfl, hb1⟩
  have HB1 : Hid (Below w.heap.size w w1) := hb1
  clear hb1
  cases hg : graphB g 6 with
  | false =>
    have HV : Hid (fromB g root fl = []) := fromB_no (by rw [hg]; simp)
    clear hg
    go_wp2_with fail
    go_ret
    exact ⟨_, rfl, by rw [HV.out]; exact no_ints _ _ _ _ (by simp [maxLen]), HB1.out.alloc HB1.out.size _⟩
  | true =>
    have HG : Hid (graphB g 6 = true) := hg
    clear hg
    by_cases h0 : root < 0
    · have HV : Hid (fromB g root fl = []) := fromB_no (by rw [isAt_lo h0]; simp)
      go_wp2_with fail
      go_ret
      exact ⟨_, rfl, by rw [HV.out]; exact no_ints _ _ _ _ (by simp [maxLen]), HB1.out.alloc HB1.out.size _⟩
    by_cases h1 : (g.length : Int) ≤ root
    · have HV : Hid (fromB g root fl = []) := fromB_no (by rw [isAt_hi (by omega)]; simp)
      go_wp2_with fail
      go_ret
      exact ⟨_, rfl, by rw [HV.out]; exact no_ints _ _ _ _ (by simp [maxLen]), HB1.out.alloc HB1.out.size _⟩
    obtain ⟨n, rfl⟩ : ∃ n : Nat, root = (n : Int) := ⟨root.toNat, by omega⟩
    have hn : n < g.length := by omega
    have HV : Hid (fromB g (n : Int) fl = numsTo fl g.length) := fromB_yes ⟨HG.out, isAt_in (by omega) (by omega)⟩
    go_wp2_with fail
    refine (l3From_calls g n _ _ fl (HK.out.next HB1.out) HG.out hn HFL.out).mono ?_
    rintro e w2 ⟨b, rfl, hbl, hmk, hb2⟩
    have HM : Hid (Marks w2 b g.length fl) := hmk
    have HB2 : Hid (Below w.heap.size w w2) := HB1.out.trans (hb2.mono HB1.out.size)
    clear hmk hb2
    go_wp2_with fail
    refine (l3Numbers_calls g.length b fl _ HM.out (graphB_len HG.out)).mono ?_
    rintro e w3 ⟨v3, rfl, hi3, hb3⟩
    have HI : Hid (IntRow w3 w.heap.size (numsTo fl g.length) v3) := hi3.keep (by have := HB2.out.size; exact this) fun _ _ _ => rfl
    have HB3 : Hid (Below w.heap.size w w3) := HB2.out.trans (hb3.mono HB2.out.size)
    clear hi3 hb3
    go_wp2_with fail
    go_ret
    exact ⟨_, rfl, by rw [HV.out]; exact HI.out, HB3.out⟩
end Go.Proofs.Ytjdlfpdljmohiaa
