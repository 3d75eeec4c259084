/-
  THE MARKS IN SLICES OF INTS: the laws' markIntS and heldIntS.
-/
import Derived.Test.YtiipcgnkfhjpeaaIntsOn
import Derived.Test.YtiipcgnkfhjpeaaButL
namespace Go.Proofs.Ytiipcgnkfhjpeaa
set_option linter.unusedVariables false
set_option linter.unusedSimpArgs false
open Go.RowKit

/-- the numbers from k on -/
def upFrom (k : Int) : Nat → List Int
  | 0 => []
  | n + 1 => k :: upFrom (k + 1) n
theorem upFrom_length : ∀ (n : Nat) (k : Int), (upFrom k n).length = n
  | 0, _ => rfl
  | n + 1, k => by simp [upFrom, upFrom_length n]
theorem upFrom_get : ∀ (n : Nat) (k : Int) (i : Nat) (h : i < (upFrom k n).length), (upFrom k n)[i] = k + i
  | 0, _, _, h => by simp [upFrom] at h
  | n + 1, k, 0, _ => by simp [upFrom]
  | n + 1, k, i + 1, h => by
    have := upFrom_get n (k + 1) i (by simpa [upFrom] using h)
    simp only [upFrom, List.getElem_cons_succ, this]
    push_cast
    omega

/-- what holds behind j rounds of the marking -/
def IMRel (w : World) (lo : Nat) (xs : List Int) (k : Int) (ad : Option Addr) (cap j : Nat) (wr : World) : Prop :=
  Below lo w wr ∧ (xs = [] ∨ ∃ g f, ad = some ⟨g, 0, none⟩ ∧ lo ≤ g ∧ wr.rowIs g 3 cap f ∧ xs.length ≤ cap ∧ ∀ i, i < j → f i = .int .i64 (k + (i : Int)))
theorem IMRel.start {w : World} {lo : Nat} {xs : List Int} {k : Int} {ad : Option Addr} {cap : Nat} (h : IntRow w lo xs (.slice ad xs.length cap)) : IMRel w lo xs k ad cap 0 w := by
  obtain ⟨_, _, he, l1, -, h⟩ := h
  cases he
  refine ⟨Below.refl _ _, h.imp id ?_⟩
  rintro ⟨g, f, rfl, hg, hr, -⟩
  exact ⟨g, f, rfl, hg, hr, l1, fun i hi => absurd hi (by omega)⟩
theorem IMRel.step {w wr : World} {lo : Nat} {xs : List Int} {k : Int} {g cap j : Nat} (h : IMRel w lo xs k (some ⟨g, 0, none⟩) cap j wr) (hj : j < xs.length) : IMRel w lo xs k (some ⟨g, 0, none⟩) cap (j + 1) (wr.setCell ⟨g, j, none⟩ (.int .i64 (k + (j : Int)))) := by
  obtain ⟨hb, h⟩ := h
  rcases h with rfl | ⟨g', f, e, hg, hr, hl, hf⟩
  · simp at hj
  · simp only [Option.some.injEq, Addr.mk.injEq, and_true] at e
    subst e
    refine ⟨hb.setCell hg _, Or.inr ⟨g, _, rfl, hg, hr.set j _, hl, fun i hi => ?_⟩⟩
    by_cases hij : i = j
    · subst hij; simp
    · simp [hij, hf i (by omega)]
theorem IMRel.done {w wr : World} {lo : Nat} {xs : List Int} {k : Int} {ad : Option Addr} {cap : Nat} (h : IMRel w lo xs k ad cap xs.length wr) (hm : cap ≤ maxLen) (hl : xs.length ≤ cap) : IntRow wr lo (upFrom k xs.length) (.slice ad xs.length cap) ∧ Below lo w wr := by
  obtain ⟨hb, h⟩ := h
  refine ⟨⟨ad, cap, by rw [upFrom_length], by rw [upFrom_length]; exact hl, hm, ?_⟩, hb⟩
  rcases h with rfl | ⟨g, f, rfl, hg, hr, -, hf⟩
  · exact Or.inl rfl
  · refine Or.inr ⟨g, f, rfl, hg, hr, fun i hi => ?_⟩
    rw [upFrom_get]
    rw [upFrom_length] at hi
    exact hf i hi

set_option maxHeartbeats 400000 in
theorem markInts_calls (xs : List Int) (lo : Nat) (c : Value) (k : Int) (w : World) (hc : IntRow w lo xs c) (h0 : 0 ≤ k) (h1 : k + (xs.length : Int) ≤ 1152921504606846976) :
    Calls Try.prog 16 #[c, .int .i64 k] w fun e w' => e = .returned (.int .i64 (k + (xs.length : Int))) ∧ IntRow w' lo (upFrom k xs.length) c ∧ Below lo w w' := by
  have HC : Hid (IntRow w lo xs c) := hc
  obtain ⟨ad, cap, rfl, hl, hm, -⟩ := hc
  unfold maxLen at hm
  go_enter Try.func16, Try.ntmps16
  go_wp2_with fail
  go_loopw [1, 5] (fun q i wr => ∃ j : Nat, j ≤ xs.length ∧ i = .int .i64 j ∧ q = .int .i64 (k + j) ∧ IMRel w lo xs k ad cap j wr) (fun _ i _ => xs.length - (intOf i).toNat)
  case atStart => exact ⟨0, Nat.zero_le _, rfl, by simp, IMRel.start HC.out⟩
  case round =>
    obtain ⟨j, hj, rfl, rfl, hr⟩ := hrel
    have HR : Hid (IMRel w lo xs k ad cap j wr) := hr
    by_cases hlt : j < xs.length
    · obtain ⟨hb, hr⟩ := hr
      rcases hr with rfl | ⟨g, f, rfl, hg, hrow, hlc, hf⟩
      · simp at hlt
      have c0 := hrow.cell (i := j) (by omega)
      have f0 := hrow.frozen j
      clear hb hrow hf
      go_wp2_with fail
      go_roundw
      case rel => exact ⟨j + 1, by omega, by go_num, congrArg (Value.int .i64) (by push_cast; omega), HR.out.step hlt⟩
      case measure => simp [intOf]; omega
    · have hje : j = xs.length := by omega
      have HV : Hid (IntRow wr lo (upFrom k xs.length) (.slice ad xs.length cap) ∧ Below lo w wr) := by subst hje; exact HR.out.done (by unfold maxLen; omega) hl
      have HJ : Hid (k + (xs.length : Int) = k + (j : Int)) := by rw [hje]; rfl
      clear hje hr
      go_wp2_with fail
      go_ret
      exact ⟨ret_int HJ.out.symm, HV.out⟩

set_option maxHeartbeats 400000 in
theorem heldInts_calls (n : Nat) (c : Value) (k : Int) (w : World) (hc : IIn w (upFrom k n) c) (h0 : 0 ≤ k) (h1 : k + (n : Int) ≤ 1152921504606846976) :
    Calls Try.prog 17 #[c, .int .i64 k] w fun e w' => e = .returned (.int .i64 (k + (n : Int))) ∧ Below w.heap.size w w' := by
  have HC : Hid (IIn w (upFrom k n) c) := hc
  obtain ⟨ad, cap, rfl, hl, hm, -⟩ := hc
  unfold maxLen at hm
  rw [upFrom_length] at hl ⊢
  go_enter Try.func17, Try.ntmps17
  go_wp2_with fail
  go_loopw [1, 5] (fun q i wr => ∃ j : Nat, j ≤ n ∧ i = .int .i64 j ∧ q = .int .i64 (k + j) ∧ wr = w) (fun _ i _ => n - (intOf i).toNat)
  case atStart => exact ⟨0, Nat.zero_le _, rfl, by simp, rfl⟩
  case round =>
    obtain ⟨j, hj, rfl, rfl, rfl⟩ := hrel
    by_cases hlt : j < n
    · obtain ⟨_, _, he, -, -, hr⟩ := HC.out
      simp only [Value.slice.injEq] at he
      obtain ⟨rfl, -, rfl⟩ := he
      rcases hr with hnil | ⟨bl, off, rfl, -, hr⟩
      · have := congrArg List.length hnil; rw [upFrom_length] at this; simp at this; omega
      have c0 := hr j (by rw [upFrom_length]; exact hlt)
      rw [upFrom_get] at c0
      have t2 : (k + (j : Int) != k + (j : Int)) = false := by simp
      clear hr
      go_wp2_with fail
      go_roundw
      case rel => exact ⟨j + 1, by omega, by go_num, congrArg (Value.int .i64) (by push_cast; omega), trivial⟩
      case measure => simp [intOf]; omega
    · have HJ : Hid (k + (n : Int) = k + (j : Int)) := by unfold Hid; omega
      go_wp2_with fail
      go_ret
      exact ⟨ret_int HJ.out.symm, Below.refl _ _⟩
end Go.Proofs.Ytiipcgnkfhjpeaa
