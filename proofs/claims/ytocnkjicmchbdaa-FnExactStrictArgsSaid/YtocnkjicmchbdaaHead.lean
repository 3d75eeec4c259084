/-
  THE PROGRAM's isValue: which closed expressions are values; nothing that was there is changed.
-/
import Derived.Test.YtocnkjicmchbdaaUnwind
import Derived.Test.YtocnkjicmchbdaaValidProg
namespace Go.Proofs.Ytocnkjicmchbdaa
set_option linter.unusedVariables false
set_option linter.unusedSimpArgs false
open Go.RowKit

/-- the arity of a function of a program -/
def arityAt (ds : List Df) (n : Int) : Int := ((ds.map (·.1))[n.toNat]?).getD 0
/-- is a closed expression a value? -/
def valueB (ds : List Df) (t : Tr) : Bool := decide (t.op = 2) || (decide (t.op = 5) || (decide ((unwT t []).1.op = 3) && decide (((unwT t []).2.length : Int) < arityAt ds (unwT t []).1.num)))
/-- closed for so many functions, down to some depth -/
def Closed (ds : List Df) (t : Tr) : Prop := ∃ d, shB 0 ds.length d t = true

theorem closed_of_valid {ds : List Df} {t : Tr} (h : validB t 0 ds.length = true) : Closed ds t := by
  unfold validB at h
  simp only [Bool.and_eq_true] at h
  exact ⟨16, h.2.1⟩
theorem Closed.kid {ds : List Df} {t : Tr} (h : Closed ds t) {k : Tr} (hk : k ∈ t.kids) : Closed ds k := by
  obtain ⟨d, h⟩ := h
  cases d with
  | zero => simp [shB] at h
  | succ d =>
    unfold shB at h
    simp only [Bool.and_eq_true, List.all_eq_true] at h
    exact ⟨d, h.2 k hk⟩
theorem Closed.fun {ds : List Df} {t : Tr} (h : Closed ds t) (ho : t.op = 3) : 0 ≤ t.num ∧ t.num < ds.length := by
  obtain ⟨d, h⟩ := h
  cases d with
  | zero => simp [shB] at h
  | succ d =>
    unfold shB at h
    simp only [Bool.and_eq_true] at h
    have h2 := h.1.2
    unfold ownB at h2
    rw [if_neg (by omega), if_neg (by omega), if_pos ho] at h2
    simpa using h2
theorem Unw.closed {w : World} {a t : Tr} {c ct : Value} {l : List Cd} (h : Unw w a c t ct l) {ds : List Df} (ha : Closed ds a) : Closed ds t := by
  induction h with
  | here => exact ha
  | down h ho hk _ _ _ _ _ ih => exact ih.kid (by rw [hk]; simp)
theorem Unw.value {w : World} {a t : Tr} {c ct : Value} {l : List Cd} (h : Unw w a c t ct l) (hs : ¬ (t.op = 4 ∧ t.kids.length = 2)) : unwT a [] = (t, (l.map (·.1)).reverse) := by
  rw [h.unw, unwT_stop hs]

theorem unwT_closed (ds : List Df) : ∀ (n : Nat) (t : Tr) (acc : List Tr), szT t ≤ n → Closed ds t → Closed ds (unwT t acc).1 := by
  intro n
  induction n with
  | zero =>
    intro t acc hz hc
    rw [unwT_stop]
    · exact hc
    · rintro ⟨-, hl⟩
      rw [szT_eq, szL_sum] at hz
      omega
  | succ n ih =>
    intro t acc hz hc
    by_cases h : t.op = 4 ∧ t.kids.length = 2
    · obtain ⟨f, x, hk⟩ : ∃ f x, t.kids = [f, x] := by
        match hks : t.kids, h.2 with
        | [f, x], _ => exact ⟨f, x, rfl⟩
      rw [unwT_app h.1 hk]
      refine ih f _ ?_ (hc.kid (by rw [hk]; simp))
      rw [szT_eq, hk] at hz
      simp only [szL] at hz
      omega
    · rw [unwT_stop h]; exact hc
theorem CdRow.form {w : World} {lo : Nat} {l : List Cd} {v : Value} (h : CdRow w lo l v) : ∃ ad cap, v = .slice ad l.length cap := by
  rcases h with ⟨rfl, rfl⟩ | ⟨g, cap, f, rfl, -⟩
  · exact ⟨_, _, rfl⟩
  · exact ⟨_, _, rfl⟩

/-- a valid program and a closed expression -/
def closedB (ds : List Df) (t : Tr) : Bool := progB ds && validB t 0 ds.length
/-- .. that is a value -/
def headB (ds : List Df) (t : Tr) : Bool := closedB ds t && valueB ds t

end Go.Proofs.Ytocnkjicmchbdaa
