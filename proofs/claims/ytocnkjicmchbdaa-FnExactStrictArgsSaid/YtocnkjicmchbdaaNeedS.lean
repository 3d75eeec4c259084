/-
  EXPRESSIONS OF A VALID SHAPE, with any of the variables and functions that there can be: their parts, and the way down nested applications.
-/
import Derived.Test.YtocnkjicmchbdaaNeedT
namespace Go.Proofs.Ytocnkjicmchbdaa
set_option linter.unusedVariables false
set_option linter.unusedSimpArgs false
open Go.RowKit

/-- of a valid shape -/
def ShE (t : Tr) : Prop := ∃ d, shB 4 6 d t = true
theorem ShE.of_sh {t : Tr} {vars defs : Int} {d : Nat} (h : shB vars defs d t = true) (hv : vars ≤ 4) (hd : defs ≤ 6) : ShE t := ⟨d, shB_mono hv hd d t h⟩
theorem ShE.of_valid {t : Tr} {vars defs : Int} (h : validB t vars defs = true) : ShE t := by
  unfold validB at h
  simp only [Bool.and_eq_true, decide_eq_true_eq] at h
  exact ShE.of_sh h.2.1 h.1.2.1 h.1.2.2.2
theorem ShE.kid {t : Tr} (h : ShE t) {k : Tr} (hk : k ∈ t.kids) : ShE k := by
  obtain ⟨d, h⟩ := h
  cases d with
  | zero => simp [shB] at h
  | succ d =>
    unfold shB at h
    simp only [Bool.and_eq_true, List.all_eq_true] at h
    exact ⟨d, h.2 k hk⟩
theorem ShE.ar {t : Tr} (h : ShE t) : (t.kids.length : Int) = arity t.op := by
  obtain ⟨d, h⟩ := h
  cases d with
  | zero => simp [shB] at h
  | succ d =>
    unfold shB at h
    simp only [Bool.and_eq_true, decide_eq_true_eq] at h
    exact h.1.1
theorem ShE.num {t : Tr} (h : ShE t) (ho : t.op = 3) : 0 ≤ t.num ∧ t.num < 6 := by
  obtain ⟨d, h⟩ := h
  cases d with
  | zero => simp [shB] at h
  | succ d =>
    unfold shB at h
    simp only [Bool.and_eq_true] at h
    have h2 := h.1.2
    unfold ownB at h2
    rw [if_neg (by omega), if_neg (by omega), if_pos ho] at h2
    simpa using h2
/-- which kinds there are, and how many operands -/
theorem ShE.cases {t : Tr} (h : ShE t) : ((t.op = 1 ∨ t.op = 2 ∨ t.op = 3) ∧ t.kids = []) ∨ ((t.op = 6 ∨ t.op = 7) ∧ ∃ a, t.kids = [a]) ∨ ((t.op = 4 ∨ t.op = 5 ∨ t.op = 8 ∨ t.op = 9) ∧ ∃ a b, t.kids = [a, b]) ∨ (t.op = 10 ∧ ∃ a b c, t.kids = [a, b, c]) := by
  have ha := h.ar
  unfold arity at ha
  split at ha
  · rename_i ho
    exact Or.inl ⟨ho, List.eq_nil_of_length_eq_zero (by omega)⟩
  split at ha
  · rename_i ho
    refine Or.inr (Or.inl ⟨ho, ?_⟩)
    match hk : t.kids, ha with
    | [a], _ => exact ⟨a, rfl⟩
  split at ha
  · rename_i ho
    refine Or.inr (Or.inr (Or.inl ⟨ho, ?_⟩))
    match hk : t.kids, ha with
    | [a, b], _ => exact ⟨a, b, rfl⟩
  split at ha
  · rename_i ho
    refine Or.inr (Or.inr (Or.inr ⟨ho, ?_⟩))
    match hk : t.kids, ha with
    | [a, b, c], _ => exact ⟨a, b, c, rfl⟩
  · omega
theorem Unw.shE {w : World} {a t : Tr} {c ct : Value} {l : List Cd} (h : Unw w a c t ct l) (ha : ShE a) : ShE t ∧ ∀ d ∈ l, ShE d.1 := by
  induction h with
  | here => exact ⟨ha, by simp⟩
  | down h ho hk _ _ _ _ _ ih =>
    refine ⟨ih.1.kid (by rw [hk]; simp), fun d hd => ?_⟩
    simp only [List.mem_append, List.mem_singleton] at hd
    rcases hd with hd | rfl
    · exact ih.2 d hd
    · exact ih.1.kid (by rw [hk]; simp)
/-- below nested applications everything is smaller -/
theorem Unw.small {w : World} {a t : Tr} {c ct : Value} {l : List Cd} (h : Unw w a c t ct l) : (t = a ∧ l = []) ∨ (szT t < szT a ∧ ∀ d ∈ l, szT d.1 < szT a) := by
  induction h with
  | here => exact Or.inl ⟨rfl, rfl⟩
  | @down t f x ct cf u v r l bl off cap h ho hk _ _ _ _ _ ih =>
    have e1 : szT t = szL [f, x] := by rw [szT_eq, hk]
    simp only [szL] at e1
    refine Or.inr ⟨?_, fun d hd => ?_⟩
    · rcases ih with ⟨rfl, -⟩ | ⟨h1, -⟩ <;> omega
    · simp only [List.mem_append, List.mem_singleton] at hd
      rcases hd with hd | rfl
      · rcases ih with ⟨-, rfl⟩ | ⟨-, h2⟩
        · simp at hd
        · exact h2 d hd
      · show szT x < szT a
        rcases ih with ⟨rfl, -⟩ | ⟨h1, -⟩ <;> omega
end Go.Proofs.Ytocnkjicmchbdaa
