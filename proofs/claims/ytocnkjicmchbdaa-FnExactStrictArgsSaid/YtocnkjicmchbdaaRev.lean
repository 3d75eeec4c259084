/-
  slices.Reverse AT A ROW OF EXPRESSIONS: the elements' cells, turned around; nothing else is changed.
-/
import Derived.Test.YtocnkjicmchbdaaTree
import Derived.Test.YtocnkjicmchbdaaProg
import Derived.Deep.RegionHeld3
import Derived.Deep.RegionWith
import Derived.Deep.DeepMust
import Derived.BigRegion
namespace Go.Proofs.Ytocnkjicmchbdaa
set_option linter.unusedVariables false
set_option linter.unusedSimpArgs false
open Go.RowKit

/-- a row behind k exchanges from both ends -/
def revF (n k : Nat) (f : Nat → Value) (i : Nat) : Value := if i / 3 < n ∧ (i / 3 < k ∨ n ≤ i / 3 + k) then f ((n - 1 - i / 3) * 3 + i % 3) else f i

theorem revF_at (n k : Nat) (f : Nat → Value) (j r : Nat) (hr : r < 3) : revF n k f (j * 3 + r) = if j < n ∧ (j < k ∨ n ≤ j + k) then f ((n - 1 - j) * 3 + r) else f (j * 3 + r) := by
  unfold revF
  rw [show (j * 3 + r) / 3 = j by omega, show (j * 3 + r) % 3 = r by omega]
theorem grown_set {w w1 : World} {g : Nat} (h : w.grownBy w1 (some g)) (i : Nat) (u : Value) : w.grownBy (w1.setCell ⟨g, i, none⟩ u) (some g) :=
  ⟨h.os, h.tape, h.output, by rw [size_setCell]; exact h.size, fun k hk hne => (Below.heap_setCell _ _ _ _ (fun e => hne (by rw [e]))).trans (h.block k hk hne)⟩
theorem grown_drew_r {w w1 : World} {r : Option Nat} (h : w.grownBy w1 r) : w.grownBy w1.drew r := ⟨h.os, h.tape, h.output, h.size, h.block⟩

set_option maxRecDepth 100000 in
set_option maxHeartbeats 800000 in
theorem rev_calls (g n cap : Nat) (f : Nat → Value) (w : World) (hr : w.rowIs g 31 (cap * 3) f) (hn : n ≤ cap) (hc : cap ≤ maxLen)
    (hf : ∀ j, j < n → ∃ p q ad l c, f (j * 3) = .int .i64 p ∧ f (j * 3 + 1) = .int .i64 q ∧ f (j * 3 + 2) = .slice ad l c) :
    Calls Try.prog 118 #[.slice (some ⟨g, 0, none⟩) n cap] w fun e w' => e = .returned (.tuple #[]) ∧ (∃ f', w'.rowIs g 31 (cap * 3) f' ∧ ∀ j r, j < n → r < 3 → f' (j * 3 + r) = f ((n - 1 - j) * 3 + r)) ∧ w.grownBy w' (some g) := by
  unfold maxLen at hc
  have HR : Hid (w.rowIs g 31 (cap * 3) f) := hr
  clear hr
  go_enter Try.func118, Try.ntmps118
  go_wp2_with fail
  go_loopw [2, 3] (fun i j wr => ∃ k : Nat, 2 * k ≤ n ∧ i = .int .i64 k ∧ j = .int .i64 ((n : Int) - 1 - k) ∧ wr.rowIs g 31 (cap * 3) (revF n k f) ∧ w.grownBy wr (some g)) (fun i _ _ => n - (intOf i).toNat)
  case atStart => exact ⟨0, by omega, rfl, by simp, HR.out.congr fun i hi => by unfold revF; rw [if_neg (by omega)], rfl, rfl, rfl, Nat.le_refl _, fun _ _ _ => rfl⟩
  case round =>
    obtain ⟨k, hk, rfl, rfl, hrow, hg⟩ := hrel
    by_cases hlt : (k : Int) < (n : Int) - 1 - k
    · obtain ⟨m, hm⟩ : ∃ m : Nat, (n : Int) - 1 - k = m := ⟨n - 1 - k, by omega⟩
      rw [hm] at hlt ⊢
      have hkm : k < m := by omega
      have hmn : m < n := by omega
      have ek : ∀ r, r < 3 → revF n k f (k * 3 + r) = f (k * 3 + r) := fun r hr => by unfold revF; rw [if_neg (by intro h; omega)]
      have em : ∀ r, r < 3 → revF n k f (m * 3 + r) = f (m * 3 + r) := fun r hr => by unfold revF; rw [if_neg (by intro h; omega)]
      have a0 := hrow.cell (i := k * 3) (by omega)
      have a1 := hrow.cell (i := k * 3 + 1) (by omega)
      have a2 := hrow.cell (i := k * 3 + 2) (by omega)
      have b0 := hrow.cell (i := m * 3) (by omega)
      have b1 := hrow.cell (i := m * 3 + 1) (by omega)
      have b2 := hrow.cell (i := m * 3 + 2) (by omega)
      have fz := hrow.frozen
      have HRow : Hid (wr.rowIs g 31 (cap * 3) (revF n k f)) := hrow
      have HG : Hid (w.grownBy wr (some g)) := hg
      have HM : Hid ((n : Int) - 1 - k = m) := hm
      clear hrow hg hm
      obtain ⟨p, q, ad, l, c, e0, e1, e2⟩ := hf k (by omega)
      obtain ⟨p', q', ad', l', c', e0', e1', e2'⟩ := hf m (by omega)
      rw [show k * 3 = k * 3 + 0 from rfl, ek 0 (by omega), Nat.add_zero, e0] at a0
      rw [ek 1 (by omega), e1] at a1
      rw [ek 2 (by omega), e2] at a2
      rw [show m * 3 = m * 3 + 0 from rfl, em 0 (by omega), Nat.add_zero, e0'] at b0
      rw [em 1 (by omega), e1'] at b1
      rw [em 2 (by omega), e2'] at b2
      have HE : Hid (f (k * 3) = .int .i64 p ∧ f (k * 3 + 1) = .int .i64 q ∧ f (k * 3 + 2) = .slice ad l c ∧ f (m * 3) = .int .i64 p' ∧ f (m * 3 + 1) = .int .i64 q' ∧ f (m * 3 + 2) = .slice ad' l' c') := ⟨e0, e1, e2, e0', e1', e2'⟩
      clear ek em e0 e1 e2 e0' e1' e2' hf
      go_wp2_with fail
      go_big_region
      have HR' : Hid ((((((((wr.setCell ⟨g, k * 3, none⟩ (.int .i64 p')).setCell ⟨g, k * 3 + 1, none⟩ (.int .i64 q')).setCell ⟨g, k * 3 + 2, none⟩ (.slice ad' l' c')).setCell ⟨g, m * 3, none⟩ (.int .i64 p)).setCell ⟨g, m * 3 + 1, none⟩ (.int .i64 q)).setCell ⟨g, m * 3 + 2, none⟩ (.slice ad l c)).drew).rowIs g 31 (cap * 3) (revF n (k + 1) f)) := by
        refine ((((((HRow.out.set (k * 3) _).set (k * 3 + 1) _).set (k * 3 + 2) _).set (m * 3) _).set (m * 3 + 1) _).set (m * 3 + 2) _).drew.congr fun i hi => ?_
        obtain ⟨h0, h1, h2, h3, h4, h5⟩ := HE.out
        have hm := HM.out
        obtain ⟨j, r, hr, rfl⟩ : ∃ j r, r < 3 ∧ i = j * 3 + r := ⟨i / 3, i % 3, by omega, by omega⟩
        have e1 : n - 1 - k = m := by omega
        have e2 : n - 1 - m = k := by omega
        simp only [revF_at n _ f j r hr]
        rcases (by omega : r = 0 ∨ r = 1 ∨ r = 2) with rfl | rfl | rfl
        · by_cases hjk : j = k
          · subst hjk
            rw [if_neg (by omega), if_neg (by omega), if_neg (by omega), if_neg (by omega), if_neg (by omega), if_pos (by omega), if_pos (by omega), e1]; exact h3.symm
          by_cases hjm : j = m
          · subst hjm
            rw [if_neg (by omega), if_neg (by omega), if_pos (by omega), if_pos (by omega), e2]; exact h0.symm
          rw [if_neg (by omega), if_neg (by omega), if_neg (by omega), if_neg (by omega), if_neg (by omega), if_neg (by omega)]
          by_cases hc : j < n ∧ (j < k ∨ n ≤ j + k)
          · rw [if_pos hc, if_pos (by omega)]
          · rw [if_neg hc, if_neg (by omega)]
        · by_cases hjk : j = k
          · subst hjk
            rw [if_neg (by omega), if_neg (by omega), if_neg (by omega), if_neg (by omega), if_pos (by omega), if_pos (by omega), e1]; exact h4.symm
          by_cases hjm : j = m
          · subst hjm
            rw [if_neg (by omega), if_pos (by omega), if_pos (by omega), e2]; exact h1.symm
          rw [if_neg (by omega), if_neg (by omega), if_neg (by omega), if_neg (by omega), if_neg (by omega), if_neg (by omega)]
          by_cases hc : j < n ∧ (j < k ∨ n ≤ j + k)
          · rw [if_pos hc, if_pos (by omega)]
          · rw [if_neg hc, if_neg (by omega)]
        · by_cases hjk : j = k
          · subst hjk
            rw [if_neg (by omega), if_neg (by omega), if_neg (by omega), if_pos (by omega), if_pos (by omega), e1]; exact h5.symm
          by_cases hjm : j = m
          · subst hjm
            rw [if_pos (by omega), if_pos (by omega), e2]; exact h2.symm
          rw [if_neg (by omega), if_neg (by omega), if_neg (by omega), if_neg (by omega), if_neg (by omega), if_neg (by omega)]
          by_cases hc : j < n ∧ (j < k ∨ n ≤ j + k)
          · rw [if_pos hc, if_pos (by omega)]
          · rw [if_neg hc, if_neg (by omega)]
      have HG' : Hid (w.grownBy (((((((wr.setCell ⟨g, k * 3, none⟩ (.int .i64 p')).setCell ⟨g, k * 3 + 1, none⟩ (.int .i64 q')).setCell ⟨g, k * 3 + 2, none⟩ (.slice ad' l' c')).setCell ⟨g, m * 3, none⟩ (.int .i64 p)).setCell ⟨g, m * 3 + 1, none⟩ (.int .i64 q)).setCell ⟨g, m * 3 + 2, none⟩ (.slice ad l c)).drew) (some g)) := by
        exact grown_drew_r (grown_set (grown_set (grown_set (grown_set (grown_set (grown_set HG.out _ _) _ _) _ _) _ _) _ _) _ _)
      clear a0 a1 a2 b0 b1 b2 fz
      generalize ((((((wr.setCell ⟨g, k * 3, none⟩ (.int .i64 p')).setCell ⟨g, k * 3 + 1, none⟩ (.int .i64 q')).setCell ⟨g, k * 3 + 2, none⟩ (.slice ad' l' c')).setCell ⟨g, m * 3, none⟩ (.int .i64 p)).setCell ⟨g, m * 3 + 1, none⟩ (.int .i64 q)).setCell ⟨g, m * 3 + 2, none⟩ (.slice ad l c)).drew = wz at *
      go_wp2_with fail
      have hm := HM.out
      unfold Hid at hm
      refine ⟨⟨k + 1, by omega, by simp, ?_, HR'.out, HG'.out⟩, by simp [intOf]; omega⟩
      exact congrArg (Value.int .i64) (by push_cast; omega)
    · have HRow : Hid (wr.rowIs g 31 (cap * 3) (revF n k f)) := hrow
      have HG : Hid (w.grownBy wr (some g)) := hg
      clear hrow hg hf
      go_wp2_with fail
      go_end0
      refine ⟨rfl, ⟨_, HRow.out, fun j r hj hr => ?_⟩, HG.out⟩
      rw [revF_at _ _ _ _ _ hr]
      by_cases hc : j < k ∨ n ≤ j + k
      · rw [if_pos ⟨hj, hc⟩]
      · have e : n - 1 - j = j := by omega
        rw [if_neg (fun h => hc h.2), e]
end Go.Proofs.Ytocnkjicmchbdaa
