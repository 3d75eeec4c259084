/-
  PLAIN: two lists, compared element by element. No program is named here.
-/
import Derived.Test.YtjpjikfmdaejeabCells
namespace Go.Proofs.Ytjpjikfmdaejeab
set_option linter.unusedVariables false
set_option linter.unusedSimpArgs false

def sameL {α : Type} (p : α → α → Bool) : List α → List α → Bool
  | [], [] => true
  | a :: xs, b :: ys => p a b && sameL p xs ys
  | _, _ => false
theorem sameL_len {α : Type} (p : α → α → Bool) : ∀ (a b : List α), a.length ≠ b.length → sameL p a b = false
  | [], [], h => by simp at h
  | [], _ :: _, _ => rfl
  | _ :: _, [], _ => rfl
  | a :: xs, b :: ys, h => by rw [sameL, sameL_len p xs ys (by simpa using h), Bool.and_false]
theorem sameL_no {α : Type} (p : α → α → Bool) : ∀ (a b : List α) (k : Nat) (h : k < a.length) (h' : k < b.length), p a[k] b[k] = false → sameL p a b = false
  | [], _, _, h, _, _ => by simp at h
  | _ :: _, [], _, _, h, _ => by simp at h
  | a :: xs, b :: ys, 0, _, _, e => by rw [sameL]; have : p a b = false := e; rw [this]; rfl
  | a :: xs, b :: ys, k + 1, h, h', e => by rw [sameL, sameL_no p xs ys k (by simpa using h) (by simpa using h') (by simpa using e), Bool.and_false]
theorem sameL_yes {α : Type} (p : α → α → Bool) : ∀ (a b : List α), a.length = b.length → (∀ k (h : k < a.length) (h' : k < b.length), p a[k] b[k] = true) → sameL p a b = true
  | [], [], _, _ => rfl
  | [], _ :: _, h, _ => by simp at h
  | _ :: _, [], h, _ => by simp at h
  | a :: xs, b :: ys, h, hp => by
    have h0 : p a b = true := hp 0 (by simp) (by simp)
    rw [sameL, h0, sameL_yes p xs ys (by simpa using h) fun k h1 h2 => hp (k + 1) (by simpa using h1) (by simpa using h2)]
    rfl
def sameI (a b : Int) : Bool := a == b
def sameC (a b : Ce) : Bool := (a.op == b.op) && ((a.num == b.num) && sameL sameI a.kids b.kids)
def sameG (a b : List Ce) : Bool := sameL sameC a b
theorem sameC_op {a b : Ce} (h : ¬ a.op = b.op) : sameC a b = false := by
  have e : (a.op == b.op) = false := by simpa using h
  unfold sameC; rw [e]; rfl
theorem sameC_num {a b : Ce} (h : ¬ a.num = b.num) : sameC a b = false := by
  have e : (a.num == b.num) = false := by simpa using h
  unfold sameC; rw [e]; simp
theorem sameC_kids {a b : Ce} (h : a.op = b.op) (h' : a.num = b.num) : sameC a b = sameL sameI a.kids b.kids := by unfold sameC; rw [h, h']; simp
end Go.Proofs.Ytjpjikfmdaejeab
