/-
  THE MODEL's l1Texts AND l1Draw: a drawn program is valid, or empty.
-/
import Derived.Test.YtglpehelmlehiaaMb5
import Derived.Test.YtglpehelmlehiaaMb2
import Derived.Test.YtglpehelmlehiaaMb4
namespace Go.Proofs.Ytglpehelmlehiaa
set_option linter.unusedVariables false
set_option linter.unusedSimpArgs false
open Go.RowKit

/-- texts in a row: each of them short -/
def TxRow (w w' : World) (e : Ending) : Prop := ∃ g, e = .returned (.slice (some ⟨g, 0, none⟩) 12 12) ∧ w.heap.size ≤ g ∧ g < w'.heap.size ∧ (∀ i, i < 12 → ∃ s : ByteArray, w'.cell? ⟨g, i, none⟩ = some (.string s) ∧ s.size ≤ 1000) ∧ Below w.heap.size w w'
abbrev txC : Array Value := #[.string ⟨#[65, 49, 61, 40, 97, 43, 97, 41, 10, 66, 49, 61, 40, 65, 32, 40, 65, 32, 97, 41, 41, 10]⟩, .string ⟨#[65, 50, 61, 97, 10, 66, 50, 61, 98, 10, 67, 49, 61, 40, 40, 65, 32, 97, 41, 32, 40, 67, 32, 97, 41, 41, 10]⟩, .string ⟨#[65, 49, 61, 91, 97, 63, 49, 58, 40, 97, 43, 40, 65, 32, 40, 97, 45, 49, 41, 41, 41, 93, 10]⟩, .string ⟨#[65, 49, 61, 60, 97, 44, 40, 65, 32, 40, 97, 43, 49, 41, 41, 62, 10, 66, 50, 61, 91, 97, 63, 126, 98, 58, 40, 40, 66, 32, 40, 97, 45, 49, 41, 41, 32, 94, 98, 41, 93, 10]⟩, .string ⟨#[65, 51, 61, 40, 40, 97, 32, 99, 41, 32, 40, 98, 32, 99, 41, 41, 10, 66, 50, 61, 97, 10, 67, 48, 61, 40, 40, 65, 32, 66, 41, 32, 66, 41, 10]⟩, .string ⟨#[65, 49, 61, 60, 94, 97, 44, 126, 97, 62, 10, 66, 49, 61, 40, 126, 97, 43, 94, 97, 41, 10, 67, 49, 61, 40, 66, 32, 40, 65, 32, 60, 97, 44, 50, 62, 41, 41, 10]⟩, .string ⟨#[65, 50, 61, 91, 97, 63, 98, 58, 40, 40, 65, 32, 40, 97, 45, 49, 41, 41, 32, 40, 98, 43, 98, 41, 41, 93, 10]⟩, .string ⟨#[65, 48, 61, 60, 49, 44, 65, 62, 10, 66, 49, 61, 126, 94, 97, 10]⟩, .string ⟨#[65, 50, 61, 40, 97, 32, 98, 41, 10, 66, 49, 61, 40, 40, 65, 32, 67, 41, 32, 97, 41, 10, 67, 49, 61, 40, 97, 45, 51, 41, 10]⟩, .string ⟨#[65, 50, 61, 91, 98, 63, 49, 58, 40, 40, 67, 32, 97, 41, 32, 40, 40, 65, 32, 97, 41, 32, 40, 98, 45, 49, 41, 41, 41, 93, 10, 66, 49, 61, 40, 97, 43, 49, 41, 10, 67, 50, 61, 40, 97, 32, 98, 41, 10]⟩, .string ⟨#[65, 49, 61, 40, 66, 32, 97, 41, 10, 66, 49, 61, 40, 65, 32, 97, 41, 10]⟩, .string ⟨#[]⟩]
theorem txC_at : ∀ i, i < 12 → ∃ s : ByteArray, txC[i]? = some (.string s) ∧ s.size ≤ 1000 := by
  intro i hi
  rcases (by omega : i = 0 ∨ i = 1 ∨ i = 2 ∨ i = 3 ∨ i = 4 ∨ i = 5 ∨ i = 6 ∨ i = 7 ∨ i = 8 ∨ i = 9 ∨ i = 10 ∨ i = 11) with rfl | rfl | rfl | rfl | rfl | rfl | rfl | rfl | rfl | rfl | rfl | rfl <;> exact ⟨_, rfl, by decide⟩

set_option maxRecDepth 100000 in
set_option maxHeartbeats 1600000 in
theorem l1Texts_calls (w : World) : Calls Try.prog 117 #[] w fun e w' => TxRow w w' e := by
  have HT : Hid (TxRow w (w.alloc (.cells txC 9)) (.returned (.slice (some ⟨w.heap.size, 0, none⟩) 12 12))) :=
    ⟨_, rfl, Nat.le_refl _, by rw [Deep.nblk_alloc]; omega, fun i hi => by obtain ⟨s, h1, h2⟩ := txC_at i hi; exact ⟨s, box_cell w _ _ i _ h1, h2⟩, box_below _ _⟩
  go_enter Try.func117, Try.ntmps117
  go_wp2_with fail
  go_ret
  exact HT.out

theorem parseP_valid (s : ByteArray) : progB ((parseP s).getD []) = true := by
  unfold parseP
  cases linesT (linesOf s) with
  | none => rfl
  | some ds =>
    simp only [Option.bind_some]
    split
    · rename_i h; exact h.1
    · rfl
/-- a drawn program -/
def Drawn (w : World) (b p : Nat) (e : Ending) (w' : World) : Prop :=
  ∃ ds v, e = .returned v ∧ progB ds = true ∧ DefsOn w' (PN w.heap.size w') ds v ∧ RdOn w' b (p + 1) ∧ But b w w'

end Go.Proofs.Ytglpehelmlehiaa
/-
  THE MODEL's l2Goals: the rows of texts.
-/
namespace Go.Proofs.Ytglpehelmlehiaa
set_option linter.unusedVariables false
set_option linter.unusedSimpArgs false
open Go.RowKit

abbrev goC0 : Array Value := #[.string ⟨#[40, 66, 32, 51, 41]⟩, .string ⟨#[40, 65, 32, 40, 66, 32, 49, 41, 41]⟩, .string ⟨#[40, 66, 32, 40, 66, 32, 50, 41, 41]⟩]
abbrev goC1 : Array Value := #[.string ⟨#[40, 40, 65, 32, 49, 41, 32, 40, 67, 32, 50, 41, 41]⟩, .string ⟨#[40, 40, 66, 32, 40, 67, 32, 49, 41, 41, 32, 53, 41]⟩, .string ⟨#[40, 67, 32, 51, 41]⟩]
abbrev goC2 : Array Value := #[.string ⟨#[40, 65, 32, 51, 41]⟩, .string ⟨#[40, 65, 32, 40, 65, 32, 50, 41, 41]⟩, .string ⟨#[40, 65, 32, 48, 41]⟩]
abbrev goC3 : Array Value := #[.string ⟨#[40, 40, 66, 32, 51, 41, 32, 40, 65, 32, 53, 41, 41]⟩, .string ⟨#[126, 40, 65, 32, 49, 41]⟩, .string ⟨#[40, 40, 66, 32, 48, 41, 32, 40, 65, 32, 40, 50, 43, 50, 41, 41, 41]⟩, .string ⟨#[94, 94, 40, 65, 32, 55, 41]⟩]
abbrev goC4 : Array Value := #[.string ⟨#[40, 67, 32, 55, 41]⟩, .string ⟨#[40, 40, 40, 65, 32, 66, 41, 32, 67, 41, 32, 50, 41]⟩, .string ⟨#[40, 67, 32, 40, 67, 32, 52, 41, 41]⟩]
abbrev goC5 : Array Value := #[.string ⟨#[40, 67, 32, 51, 41]⟩, .string ⟨#[40, 66, 32, 40, 65, 32, 60, 52, 44, 57, 62, 41, 41]⟩, .string ⟨#[126, 40, 65, 32, 60, 49, 44, 40, 50, 43, 50, 41, 62, 41]⟩]
abbrev goC6 : Array Value := #[.string ⟨#[40, 40, 65, 32, 51, 41, 32, 49, 41]⟩, .string ⟨#[40, 40, 65, 32, 48, 41, 32, 40, 49, 45, 50, 41, 41]⟩]
abbrev goC7 : Array Value := #[.string ⟨#[40, 66, 32, 65, 41]⟩, .string ⟨#[126, 94, 94, 65]⟩, .string ⟨#[126, 65]⟩]
abbrev goC8 : Array Value := #[.string ⟨#[40, 66, 32, 53, 41]⟩, .string ⟨#[40, 40, 65, 32, 67, 41, 32, 40, 49, 43, 49, 41, 41]⟩, .string ⟨#[40, 65, 32, 49, 41]⟩]
abbrev goC9 : Array Value := #[.string ⟨#[40, 40, 65, 32, 66, 41, 32, 50, 41]⟩, .string ⟨#[40, 40, 65, 32, 40, 67, 32, 66, 41, 41, 32, 50, 41]⟩, .string ⟨#[40, 40, 65, 32, 66, 41, 32, 48, 41]⟩]
abbrev goC10 : Array Value := #[.string ⟨#[40, 65, 32, 49, 41]⟩, .string ⟨#[91, 49, 63, 40, 65, 32, 49, 41, 58, 52, 93]⟩]
abbrev goC11 : Array Value := #[.string ⟨#[40, 40, 50, 43, 51, 41, 45, 54, 41]⟩, .string ⟨#[126, 60, 49, 44, 50, 62]⟩, .string ⟨#[40, 49, 32, 50, 41]⟩, .string ⟨#[91, 48, 63, 49, 58, 50, 93]⟩, .string ⟨#[126, 51]⟩, .string ⟨#[40, 60, 49, 44, 50, 62, 43, 49, 41]⟩]
/-- how many goals a program has -/
def goN (i : Nat) : Nat := ([3, 3, 3, 4, 3, 3, 2, 3, 3, 3, 2, 6] : List Nat).getD i 2
/-- the goals of a program -/
def goL : List (List ByteArray) := [[⟨#[40, 66, 32, 51, 41]⟩, ⟨#[40, 65, 32, 40, 66, 32, 49, 41, 41]⟩, ⟨#[40, 66, 32, 40, 66, 32, 50, 41, 41]⟩], [⟨#[40, 40, 65, 32, 49, 41, 32, 40, 67, 32, 50, 41, 41]⟩, ⟨#[40, 40, 66, 32, 40, 67, 32, 49, 41, 41, 32, 53, 41]⟩, ⟨#[40, 67, 32, 51, 41]⟩], [⟨#[40, 65, 32, 51, 41]⟩, ⟨#[40, 65, 32, 40, 65, 32, 50, 41, 41]⟩, ⟨#[40, 65, 32, 48, 41]⟩], [⟨#[40, 40, 66, 32, 51, 41, 32, 40, 65, 32, 53, 41, 41]⟩, ⟨#[126, 40, 65, 32, 49, 41]⟩, ⟨#[40, 40, 66, 32, 48, 41, 32, 40, 65, 32, 40, 50, 43, 50, 41, 41, 41]⟩, ⟨#[94, 94, 40, 65, 32, 55, 41]⟩], [⟨#[40, 67, 32, 55, 41]⟩, ⟨#[40, 40, 40, 65, 32, 66, 41, 32, 67, 41, 32, 50, 41]⟩, ⟨#[40, 67, 32, 40, 67, 32, 52, 41, 41]⟩], [⟨#[40, 67, 32, 51, 41]⟩, ⟨#[40, 66, 32, 40, 65, 32, 60, 52, 44, 57, 62, 41, 41]⟩, ⟨#[126, 40, 65, 32, 60, 49, 44, 40, 50, 43, 50, 41, 62, 41]⟩], [⟨#[40, 40, 65, 32, 51, 41, 32, 49, 41]⟩, ⟨#[40, 40, 65, 32, 48, 41, 32, 40, 49, 45, 50, 41, 41]⟩], [⟨#[40, 66, 32, 65, 41]⟩, ⟨#[126, 94, 94, 65]⟩, ⟨#[126, 65]⟩], [⟨#[40, 66, 32, 53, 41]⟩, ⟨#[40, 40, 65, 32, 67, 41, 32, 40, 49, 43, 49, 41, 41]⟩, ⟨#[40, 65, 32, 49, 41]⟩], [⟨#[40, 40, 65, 32, 66, 41, 32, 50, 41]⟩, ⟨#[40, 40, 65, 32, 40, 67, 32, 66, 41, 41, 32, 50, 41]⟩, ⟨#[40, 40, 65, 32, 66, 41, 32, 48, 41]⟩], [⟨#[40, 65, 32, 49, 41]⟩, ⟨#[91, 49, 63, 40, 65, 32, 49, 41, 58, 52, 93]⟩], [⟨#[40, 40, 50, 43, 51, 41, 45, 54, 41]⟩, ⟨#[126, 60, 49, 44, 50, 62]⟩, ⟨#[40, 49, 32, 50, 41]⟩, ⟨#[91, 48, 63, 49, 58, 50, 93]⟩, ⟨#[126, 51]⟩, ⟨#[40, 60, 49, 44, 50, 62, 43, 49, 41]⟩]]
def goS (i j : Nat) : ByteArray := (goL.getD i []).getD j ⟨#[]⟩
/-- the texts of programs -/
def txL : List ByteArray := [⟨#[65, 49, 61, 40, 97, 43, 97, 41, 10, 66, 49, 61, 40, 65, 32, 40, 65, 32, 97, 41, 41, 10]⟩, ⟨#[65, 50, 61, 97, 10, 66, 50, 61, 98, 10, 67, 49, 61, 40, 40, 65, 32, 97, 41, 32, 40, 67, 32, 97, 41, 41, 10]⟩, ⟨#[65, 49, 61, 91, 97, 63, 49, 58, 40, 97, 43, 40, 65, 32, 40, 97, 45, 49, 41, 41, 41, 93, 10]⟩, ⟨#[65, 49, 61, 60, 97, 44, 40, 65, 32, 40, 97, 43, 49, 41, 41, 62, 10, 66, 50, 61, 91, 97, 63, 126, 98, 58, 40, 40, 66, 32, 40, 97, 45, 49, 41, 41, 32, 94, 98, 41, 93, 10]⟩, ⟨#[65, 51, 61, 40, 40, 97, 32, 99, 41, 32, 40, 98, 32, 99, 41, 41, 10, 66, 50, 61, 97, 10, 67, 48, 61, 40, 40, 65, 32, 66, 41, 32, 66, 41, 10]⟩, ⟨#[65, 49, 61, 60, 94, 97, 44, 126, 97, 62, 10, 66, 49, 61, 40, 126, 97, 43, 94, 97, 41, 10, 67, 49, 61, 40, 66, 32, 40, 65, 32, 60, 97, 44, 50, 62, 41, 41, 10]⟩, ⟨#[65, 50, 61, 91, 97, 63, 98, 58, 40, 40, 65, 32, 40, 97, 45, 49, 41, 41, 32, 40, 98, 43, 98, 41, 41, 93, 10]⟩, ⟨#[65, 48, 61, 60, 49, 44, 65, 62, 10, 66, 49, 61, 126, 94, 97, 10]⟩, ⟨#[65, 50, 61, 40, 97, 32, 98, 41, 10, 66, 49, 61, 40, 40, 65, 32, 67, 41, 32, 97, 41, 10, 67, 49, 61, 40, 97, 45, 51, 41, 10]⟩, ⟨#[65, 50, 61, 91, 98, 63, 49, 58, 40, 40, 67, 32, 97, 41, 32, 40, 40, 65, 32, 97, 41, 32, 40, 98, 45, 49, 41, 41, 41, 93, 10, 66, 49, 61, 40, 97, 43, 49, 41, 10, 67, 50, 61, 40, 97, 32, 98, 41, 10]⟩, ⟨#[65, 49, 61, 40, 66, 32, 97, 41, 10, 66, 49, 61, 40, 65, 32, 97, 41, 10]⟩, ⟨#[]⟩]
def txS (i : Nat) : ByteArray := txL.getD i ⟨#[]⟩
/-- the texts of programs, in a row -/
def TxAt (w w' : World) (e : Ending) : Prop := ∃ g, e = .returned (.slice (some ⟨g, 0, none⟩) 12 12) ∧ w.heap.size ≤ g ∧ g < w'.heap.size ∧ (∀ i, i < 12 → w'.cell? ⟨g, i, none⟩ = some (.string (txS i))) ∧ Below w.heap.size w w'
theorem txC_txS : ∀ i, i < 12 → txC[i]? = some (.string (txS i)) := by
  intro i hi
  rcases (by omega : i = 0 ∨ i = 1 ∨ i = 2 ∨ i = 3 ∨ i = 4 ∨ i = 5 ∨ i = 6 ∨ i = 7 ∨ i = 8 ∨ i = 9 ∨ i = 10 ∨ i = 11) with rfl | rfl | rfl | rfl | rfl | rfl | rfl | rfl | rfl | rfl | rfl | rfl <;> rfl
theorem txS_size : ∀ i, i < 12 → (txS i).size ≤ 1000 := by
  intro i hi
  rcases (by omega : i = 0 ∨ i = 1 ∨ i = 2 ∨ i = 3 ∨ i = 4 ∨ i = 5 ∨ i = 6 ∨ i = 7 ∨ i = 8 ∨ i = 9 ∨ i = 10 ∨ i = 11) with rfl | rfl | rfl | rfl | rfl | rfl | rfl | rfl | rfl | rfl | rfl | rfl <;> decide
theorem goS_size (i j : Nat) (hi : i < 12) (hj : j < 6) : (goS i j).size ≤ 1000 := by
  rcases (by omega : i = 0 ∨ i = 1 ∨ i = 2 ∨ i = 3 ∨ i = 4 ∨ i = 5 ∨ i = 6 ∨ i = 7 ∨ i = 8 ∨ i = 9 ∨ i = 10 ∨ i = 11) with rfl | rfl | rfl | rfl | rfl | rfl | rfl | rfl | rfl | rfl | rfl | rfl
  all_goals
    rcases (by omega : j = 0 ∨ j = 1 ∨ j = 2 ∨ j = 3 ∨ j = 4 ∨ j = 5) with rfl | rfl | rfl | rfl | rfl | rfl
    all_goals decide
theorem goN_rng : ∀ i, i < 12 → 2 ≤ goN i ∧ goN i ≤ 6 := by
  intro i hi
  rcases (by omega : i = 0 ∨ i = 1 ∨ i = 2 ∨ i = 3 ∨ i = 4 ∨ i = 5 ∨ i = 6 ∨ i = 7 ∨ i = 8 ∨ i = 9 ∨ i = 10 ∨ i = 11) with rfl | rfl | rfl | rfl | rfl | rfl | rfl | rfl | rfl | rfl | rfl | rfl <;> decide
set_option maxRecDepth 100000 in
set_option maxHeartbeats 1600000 in
theorem l1TextsAt_calls (w : World) : Calls Try.prog 117 #[] w fun e w' => TxAt w w' e := by
  have HT : Hid (TxAt w (w.alloc (.cells txC 9)) (.returned (.slice (some ⟨w.heap.size, 0, none⟩) 12 12))) :=
    ⟨_, rfl, Nat.le_refl _, by rw [Deep.nblk_alloc]; omega, fun i hi => box_cell w _ _ i _ (txC_txS i hi), box_below _ _⟩
  go_enter Try.func117, Try.ntmps117
  go_wp2_with fail
  go_ret
  exact HT.out
/-- rows that are laid one behind the other -/
def alls : List Obj → World → World
  | [], w => w
  | o :: os, w => alls os (w.alloc o)
theorem alls_below : ∀ (os : List Obj) (w : World), Below w.heap.size w (alls os w)
  | [], w => Below.refl _ _
  | o :: os, w => (box_below w o).trans ((alls_below os (w.alloc o)).mono (by rw [Deep.nblk_alloc]; omega))
theorem alls_size : ∀ (os : List Obj) (w : World), (alls os w).heap.size = w.heap.size + os.length
  | [], w => rfl
  | o :: os, w => by rw [alls, alls_size os, Deep.nblk_alloc, List.length_cons]; omega
theorem alls_at : ∀ (os : List Obj) (w : World) (i : Nat) (o : Obj), os[i]? = some o → (alls os w).heap[w.heap.size + i]? = some o
  | [], w, i, o, h => by simp at h
  | x :: os, w, 0, o, h => by
    simp at h
    subst h
    exact ((alls_below os (w.alloc x)).block _ (by rw [Deep.nblk_alloc]; omega)).trans (Deep.blk_alloc_new _ _)
  | x :: os, w, i + 1, o, h => by
    have := alls_at os (w.alloc x) i o (by simpa using h)
    rw [Deep.nblk_alloc] at this
    rw [show w.heap.size + (i + 1) = w.heap.size + 1 + i by omega]
    exact this

abbrev goOs : List Obj := [.cells goC0 9, .cells goC1 9, .cells goC2 9, .cells goC3 9, .cells goC4 9, .cells goC5 9, .cells goC6 9, .cells goC7 9, .cells goC8 9, .cells goC9 9, .cells goC10 9, .cells goC11 9]
/-- the rows of goals -/
def GoRow (w : World) (e : Ending) (w' : World) : Prop := ∃ g, e = .returned (.slice (some ⟨g, 0, none⟩) 12 12) ∧ w.heap.size ≤ g ∧ g < w'.heap.size ∧ (∀ i, i < 12 → ∃ b, w.heap.size ≤ b ∧ b < w'.heap.size ∧ w'.cell? ⟨g, i, none⟩ = some (.slice (some ⟨b, 0, none⟩) (goN i) (goN i)) ∧ ∀ j, j < goN i → w'.cell? ⟨b, j, none⟩ = some (.string (goS i j))) ∧ Below w.heap.size w w'
abbrev goO (w : World) : Array Value := #[.slice (some ⟨w.heap.size, 0, none⟩) 3 3, .slice (some ⟨w.heap.size + 1, 0, none⟩) 3 3, .slice (some ⟨w.heap.size + 2, 0, none⟩) 3 3, .slice (some ⟨w.heap.size + 3, 0, none⟩) 4 4, .slice (some ⟨w.heap.size + 4, 0, none⟩) 3 3, .slice (some ⟨w.heap.size + 5, 0, none⟩) 3 3, .slice (some ⟨w.heap.size + 6, 0, none⟩) 2 2, .slice (some ⟨w.heap.size + 7, 0, none⟩) 3 3, .slice (some ⟨w.heap.size + 8, 0, none⟩) 3 3, .slice (some ⟨w.heap.size + 9, 0, none⟩) 3 3, .slice (some ⟨w.heap.size + 10, 0, none⟩) 2 2, .slice (some ⟨w.heap.size + 11, 0, none⟩) 6 6]
theorem goOs_at : ∀ i, i < 12 → ∃ C, goOs[i]? = some (.cells C 9) ∧ ∀ j, j < goN i → C[j]? = some (.string (goS i j)) := by
  intro i hi
  rcases (by omega : i = 0 ∨ i = 1 ∨ i = 2 ∨ i = 3 ∨ i = 4 ∨ i = 5 ∨ i = 6 ∨ i = 7 ∨ i = 8 ∨ i = 9 ∨ i = 10 ∨ i = 11) with rfl | rfl | rfl | rfl | rfl | rfl | rfl | rfl | rfl | rfl | rfl | rfl
  all_goals refine ⟨_, rfl, fun j hj => ?_⟩
  all_goals
    have h6 : j < 6 := Nat.lt_of_lt_of_le hj (by decide)
    rcases (by omega : j = 0 ∨ j = 1 ∨ j = 2 ∨ j = 3 ∨ j = 4 ∨ j = 5) with rfl | rfl | rfl | rfl | rfl | rfl
    all_goals first | rfl | exact absurd hj (by decide)
theorem goO_at (w : World) : ∀ i, i < 12 → (goO w)[i]? = some (.slice (some ⟨w.heap.size + i, 0, none⟩) (goN i) (goN i)) := by
  intro i hi
  rcases (by omega : i = 0 ∨ i = 1 ∨ i = 2 ∨ i = 3 ∨ i = 4 ∨ i = 5 ∨ i = 6 ∨ i = 7 ∨ i = 8 ∨ i = 9 ∨ i = 10 ∨ i = 11) with rfl | rfl | rfl | rfl | rfl | rfl | rfl | rfl | rfl | rfl | rfl | rfl <;> rfl
theorem go_row (w : World) : GoRow w (.returned (.slice (some ⟨w.heap.size + 12, 0, none⟩) 12 12)) ((alls goOs w).alloc (.cells (goO w) 138)) := by
  have hz : (alls goOs w).heap.size = w.heap.size + 12 := alls_size goOs w
  have hb := (alls_below goOs w).trans ((box_below (alls goOs w) (.cells (goO w) 138)).mono (by omega))
  refine ⟨_, rfl, by omega, by rw [Deep.nblk_alloc]; omega, fun i hi => ⟨w.heap.size + i, by omega, by rw [Deep.nblk_alloc]; omega, ?_, fun j hj => ?_⟩, hb⟩
  · have h := Deep.blk_alloc_new (alls goOs w) (.cells (goO w) 138)
    rw [hz] at h
    exact cell_of_blk h i _ (goO_at w i hi)
  · obtain ⟨C, h1, h2⟩ := goOs_at i hi
    have h := (Deep.blk_alloc_lt (alls goOs w) (.cells (goO w) 138) _ (by omega : w.heap.size + i < (alls goOs w).heap.size)).trans (alls_at goOs w i _ h1)
    exact cell_of_blk h j _ (h2 j hj)

set_option maxRecDepth 100000 in
set_option maxHeartbeats 1600000 in
theorem l2Goals_calls (w : World) : Calls Try.prog 119 #[] w (GoRow w) := by
  have HT := mkHid (go_row w)
  go_enter Try.func119, Try.ntmps119
  go_wp2_with fail
  go_ret
  exact HT.out
end Go.Proofs.Ytglpehelmlehiaa
/-
  THE FIXED GOALS ARE VALID for their programs: by evaluation.
-/
namespace Go.Proofs.Ytglpehelmlehiaa
set_option linter.unusedVariables false
set_option linter.unusedSimpArgs false
open Go.RowKit

theorem goals_check : ((List.range 12).all fun i => (List.range (goN i)).all fun j => shB 0 ((parseP (txS i)).getD []).length 8 (parseE (goS i j)).1 && decide (1 + szT (parseE (goS i j)).1 ≤ 40)) = true := by decide +kernel
theorem goals_valid (i j : Nat) (hi : i < 12) (hj : j < goN i) : shB 0 ((parseP (txS i)).getD []).length 8 (parseE (goS i j)).1 = true ∧ 1 + szT (parseE (goS i j)).1 ≤ 40 := by
  have h := goals_check
  rw [List.all_eq_true] at h
  have h1 := h i (by simpa using hi)
  rw [List.all_eq_true] at h1
  have h2 := h1 j (by simpa using hj)
  simpa only [Bool.and_eq_true, decide_eq_true_eq] using h2
end Go.Proofs.Ytglpehelmlehiaa
/-
  THE MODEL's COPY OF AN EXPRESSION (l1Copy): the same tree in new memory; nothing that was there is changed.
-/
namespace Go.Proofs.Ytglpehelmlehiaa
set_option linter.unusedVariables false
set_option linter.unusedSimpArgs false
open Go.RowKit

/-- what holds behind k rounds of a loop that appends to the Kids of an expression of its own: the expression's block, the row, and all else as it was -/
def ApRel (o n : Int) (ts : List Tr) (B lo : Nat) (v : Value) (wr : World) : Prop := OwnTr wr lo ts v ∧ wr.heap[B]? = some (.cells #[.int .i64 o, .int .i64 n, v] 32)

/-- the step: the call has handed back a tree in new memory, a block for it was laid, append went through, and the value was stored -/
theorem apRel_step {o n : Int} {ts : List Tr} {B lo : Nat} {v v' : Value} {w w1 w2 w3 : World} {t : Tr} {c : Value} (h : ApRel o n ts B lo v w) (hB : B < lo) (hlo : lo ≤ w.heap.size) (hb : Below w.heap.size w w1) (hk : KidsOn w1 (Btw w.heap.size w1.heap.size) t.kids c) (ho : I64 t.op) (hn : I64 t.num)
    (he : w2 = w1.alloc (.cells #[.int .i64 t.op, .int .i64 t.num, c] 32)) (xs : List Value) (hx : w2.ownsRow lo 32 3 v ts.length xs)
    (hown : w3.ownsRow lo 32 3 v' (ts.length + 1) (xs ++ [.int .i64 t.op, .int .i64 t.num, c])) (hg : w2.grownBy w3 v.ownBlock) (hw : v'.ownBlock = v.ownBlock ∨ ∃ g, v'.ownBlock = some g ∧ w2.heap.size ≤ g)
    (hxs : ∀ j (hj : j < ts.length), ∃ a b c, xs[j * 3]? = some a ∧ xs[j * 3 + 1]? = some b ∧ xs[j * 3 + 2]? = some c ∧ TrOn w2 (fun k => lo ≤ k ∧ k < w2.heap.size ∧ some k ≠ v.ownBlock) ts[j] a b c) :
    ApRel o n (ts ++ [t]) B lo v' (w3.setCell ⟨B, 2, none⟩ v') := by
  subst he
  have hsz := hb.size
  have hOB : ∀ k, v.ownBlock = some k → lo ≤ k ∧ k < w.heap.size := by
    obtain ⟨xs', h1, _⟩ := h.1
    exact h1.lt
  have h2 : OwnTr (w1.alloc (.cells #[.int .i64 t.op, .int .i64 t.num, c] 32)) lo ts v := ⟨xs, hx, hxs⟩
  have hn3 := h2.step (t := t) (a := .int .i64 t.op) (b := .int .i64 t.num) (c := c) xs hx (by rw [Deep.nblk_alloc]; omega) hxs
    (trOn_iff.2 ⟨rfl, rfl, ho, hn, hk.mono (fun k hk => ⟨by have := hk.1; omega, by rw [Deep.nblk_alloc]; have := hk.2; omega, fun e => by have := (hOB k e.symm).2; have := hk.1; omega⟩) (fun k hk => Deep.blk_alloc_lt _ _ _ hk.2)⟩) hown hg hw
  have hBv : some B ≠ v.ownBlock := fun e => by have := (hOB B e.symm).1; omega
  have hB3 : w3.heap[B]? = some (.cells #[.int .i64 o, .int .i64 n, v] 32) := by
    rw [hg.block B (by rw [Deep.nblk_alloc]; omega) hBv, Deep.blk_alloc_lt _ _ _ (by omega), hb.block B (by omega)]
    exact h.2
  refine ⟨hn3.next (by rw [size_setCell]; exact Nat.le_refl _) (fun k h1 h2 => Below.heap_setCell _ _ _ _ (by show k ≠ B; omega)), ?_⟩
  simp [World.setCell, Array.getElem?_modify, hB3]

theorem ApRel.drew {o n : Int} {ts : List Tr} {B lo : Nat} {v : Value} {w : World} (h : ApRel o n ts B lo v w) : ApRel o n ts B lo v w.drew := ⟨h.1.next (Nat.le_refl _) (fun _ _ _ => rfl), h.2⟩
/-- ahead of append: the row, in the world with the new tree's block -/
theorem apRel_mid {o n : Int} {ts : List Tr} {B lo : Nat} {v : Value} {w w1 : World} (h : ApRel o n ts B lo v w) (hb : Below w.heap.size w w1) (obj : Obj) :
    ∃ xs, (w1.alloc obj).ownsRow lo 32 3 v ts.length xs ∧ ∀ j (hj : j < ts.length), ∃ a b c, xs[j * 3]? = some a ∧ xs[j * 3 + 1]? = some b ∧ xs[j * 3 + 2]? = some c ∧ TrOn (w1.alloc obj) (fun k => lo ≤ k ∧ k < (w1.alloc obj).heap.size ∧ some k ≠ v.ownBlock) ts[j] a b c :=
  h.1.next (w' := w1.alloc obj) (by rw [Deep.nblk_alloc]; have := hb.size; omega) (fun k _ hk => (Deep.blk_alloc_lt _ _ _ (Nat.lt_of_lt_of_le hk hb.size)).trans (hb.block k hk))
/-- behind append: the expression's own block -/
theorem apRel_blk {o n : Int} {ts : List Tr} {B lo : Nat} {v : Value} {w w1 w3 : World} {obj : Obj} (h : ApRel o n ts B lo v w) (hB : B < lo) (hlo : lo ≤ w.heap.size) (hb : Below w.heap.size w w1) (hg : (w1.alloc obj).grownBy w3 v.ownBlock) :
    w3.heap[B]? = some (.cells #[.int .i64 o, .int .i64 n, v] 32) := by
  have hsz := hb.size
  have hOB : ∀ k, v.ownBlock = some k → lo ≤ k ∧ k < w.heap.size := by
    obtain ⟨xs', h1, _⟩ := h.1
    exact h1.lt
  have hBv : some B ≠ v.ownBlock := fun e => by have := (hOB B e.symm).1; omega
  rw [hg.block B (by rw [Deep.nblk_alloc]; omega) hBv, Deep.blk_alloc_lt _ _ _ (by omega), hb.block B (by omega)]
  exact h.2
/-- .. and every other block that was there -/
theorem apRel_other {o n : Int} {ts : List Tr} {B lo : Nat} {v : Value} {w w1 w3 : World} {obj : Obj} (h : ApRel o n ts B lo v w) (hb : Below w.heap.size w w1) (hg : (w1.alloc obj).grownBy w3 v.ownBlock) (k : Nat) (hk : k < lo) (hkw : k < w.heap.size) : w3.heap[k]? = w.heap[k]? := by
  have hsz := hb.size
  have hOB : ∀ k, v.ownBlock = some k → lo ≤ k ∧ k < w.heap.size := by
    obtain ⟨xs', h1, _⟩ := h.1
    exact h1.lt
  rw [hg.block k (by rw [Deep.nblk_alloc]; omega) (fun e => by have := (hOB k e.symm).1; omega), Deep.blk_alloc_lt _ _ _ (by omega), hb.block k hkw]

/-- what holds behind k rounds of the copy -/
def CpRel (t : Tr) (box : Value) (w : World) (k : Nat) (wr : World) : Prop :=
  ∃ v, ApRel t.op t.num (t.kids.take k) (w.heap.size + 2) (w.heap.size + 3) v wr ∧ wr.heap[w.heap.size]? = some (.cells #[.int .i64 t.op, .int .i64 t.num, box] 32) ∧
    wr.heap[w.heap.size + 1]? = some (.cells #[.int .i64 0, .int .i64 0, .slice none 0 0] 32) ∧ Below w.heap.size w wr ∧ w.heap.size + 3 ≤ wr.heap.size

theorem cpRel_start (t : Tr) (box : Value) (w : World) : CpRel t box w 0 (((w.alloc (.cells #[.int .i64 t.op, .int .i64 t.num, box] 32)).alloc (.cells #[.int .i64 0, .int .i64 0, .slice none 0 0] 32)).alloc (.cells #[.int .i64 t.op, .int .i64 t.num, .slice none 0 0] 32)) := by
  have e1 : (w.alloc (.cells #[.int .i64 t.op, .int .i64 t.num, box] 32)).heap.size = w.heap.size + 1 := Deep.nblk_alloc _ _
  have e2 : ((w.alloc (.cells #[.int .i64 t.op, .int .i64 t.num, box] 32)).alloc (.cells #[.int .i64 0, .int .i64 0, .slice none 0 0] 32)).heap.size = w.heap.size + 2 := by rw [Deep.nblk_alloc, e1]
  refine ⟨.slice none 0 0, ⟨by simpa using OwnTr.nil _ _, ?_⟩, ?_, ?_, ?_, ?_⟩
  · rw [← e2]; exact Deep.blk_alloc_new _ _
  · rw [Deep.blk_alloc_lt _ _ _ (by rw [e2]; omega), Deep.blk_alloc_lt _ _ _ (by rw [e1]; omega)]; exact Deep.blk_alloc_new _ _
  · rw [Deep.blk_alloc_lt _ _ _ (by rw [e2]; omega)]; rw [← e1]; exact Deep.blk_alloc_new _ _
  · exact (((Below.refl _ _).alloc (Nat.le_refl _) _).alloc (by rw [e1]; omega) _).alloc (by rw [e2]; omega) _
  · rw [Deep.nblk_alloc, e2]; omega



end Go.Proofs.Ytglpehelmlehiaa
/-
  LISTS OF TREES THAT A CALL BUILDS BY append, WHERE ONE BLOCK OF THE CALLER's (a reader's) IS WRITTEN BETWEEN.
-/
namespace Go.Proofs.Ytglpehelmlehiaa
set_option linter.unusedVariables false
set_option linter.unusedSimpArgs false
open Go.RowKit

theorem KidsOn.but {w w' : World} {lo b : Nat} {ks : List Tr} {c : Value} (h : KidsOn w (Btw lo w.heap.size) ks c) (hb : But b w w') (hlo : b < lo) : KidsOn w' (Btw lo w'.heap.size) ks c :=
  h.mono (fun _ hk => ⟨hk.1, Nat.lt_of_lt_of_le hk.2 hb.size⟩) (fun k hk => hb.block k hk.2 (by have := hk.1; omega))

/-- ahead of append: the row, in the world with the new tree's block -/
theorem apBut_mid {o n : Int} {ts : List Tr} {B lo b : Nat} {v : Value} {w w1 : World} (h : ApRel o n ts B lo v w) (hb : But b w w1) (hblo : b < lo) (obj : Obj) :
    ∃ xs, (w1.alloc obj).ownsRow lo 32 3 v ts.length xs ∧ ∀ j (hj : j < ts.length), ∃ a b c, xs[j * 3]? = some a ∧ xs[j * 3 + 1]? = some b ∧ xs[j * 3 + 2]? = some c ∧ TrOn (w1.alloc obj) (fun k => lo ≤ k ∧ k < (w1.alloc obj).heap.size ∧ some k ≠ v.ownBlock) ts[j] a b c :=
  h.1.next (w' := w1.alloc obj) (by rw [Deep.nblk_alloc]; have := hb.size; omega) (fun k hl hk => (Deep.blk_alloc_lt _ _ _ (Nat.lt_of_lt_of_le hk hb.size)).trans (hb.block k hk (by omega)))
/-- behind append: every block that was there below the row, but the reader's, and that one as the call left it -/
theorem apBut_other {o n : Int} {ts : List Tr} {B lo b : Nat} {v : Value} {w w1 w3 : World} {obj : Obj} (h : ApRel o n ts B lo v w) (hsz : w.heap.size ≤ w1.heap.size) (hg : (w1.alloc obj).grownBy w3 v.ownBlock) (k : Nat) (hk : k < lo) (hkw : k < w1.heap.size) : w3.heap[k]? = w1.heap[k]? := by
  have hOB : ∀ k, v.ownBlock = some k → lo ≤ k ∧ k < w.heap.size := by
    obtain ⟨xs', h1, _⟩ := h.1
    exact h1.lt
  rw [hg.block k (by rw [Deep.nblk_alloc]; omega) (fun e => by have := (hOB k e.symm).1; omega), Deep.blk_alloc_lt _ _ _ hkw]
/-- the step -/
theorem apBut_step {o n : Int} {ts : List Tr} {B lo b : Nat} {v v' : Value} {w w1 w3 : World} {t : Tr} {c : Value} (h : ApRel o n ts B lo v w) (hB : B < lo) (hBb : B ≠ b) (hblo : b < lo) (hlo : lo ≤ w.heap.size) (hb : But b w w1) (hk : KidsOn w1 (Btw w.heap.size w1.heap.size) t.kids c) (ho : I64 t.op) (hn : I64 t.num)
    (xs : List Value) (hx : (w1.alloc (.cells #[.int .i64 t.op, .int .i64 t.num, c] 32)).ownsRow lo 32 3 v ts.length xs)
    (hown : w3.ownsRow lo 32 3 v' (ts.length + 1) (xs ++ [.int .i64 t.op, .int .i64 t.num, c])) (hg : (w1.alloc (.cells #[.int .i64 t.op, .int .i64 t.num, c] 32)).grownBy w3 v.ownBlock) (hw : v'.ownBlock = v.ownBlock ∨ ∃ g, v'.ownBlock = some g ∧ (w1.alloc (.cells #[.int .i64 t.op, .int .i64 t.num, c] 32)).heap.size ≤ g)
    (hxs : ∀ j (hj : j < ts.length), ∃ a b c', xs[j * 3]? = some a ∧ xs[j * 3 + 1]? = some b ∧ xs[j * 3 + 2]? = some c' ∧ TrOn (w1.alloc (.cells #[.int .i64 t.op, .int .i64 t.num, c] 32)) (fun k => lo ≤ k ∧ k < (w1.alloc (.cells #[.int .i64 t.op, .int .i64 t.num, c] 32)).heap.size ∧ some k ≠ v.ownBlock) ts[j] a b c') :
    ApRel o n (ts ++ [t]) B lo v' (w3.setCell ⟨B, 2, none⟩ v') := by
  have hsz := hb.size
  have hOB : ∀ k, v.ownBlock = some k → lo ≤ k ∧ k < w.heap.size := by
    obtain ⟨xs', h1, _⟩ := h.1
    exact h1.lt
  have h2 : OwnTr (w1.alloc (.cells #[.int .i64 t.op, .int .i64 t.num, c] 32)) lo ts v := ⟨xs, hx, hxs⟩
  have hn3 := h2.step (t := t) (a := .int .i64 t.op) (b := .int .i64 t.num) (c := c) xs hx (by rw [Deep.nblk_alloc]; omega) hxs
    (trOn_iff.2 ⟨rfl, rfl, ho, hn, hk.mono (fun k hk => ⟨by have := hk.1; omega, by rw [Deep.nblk_alloc]; have := hk.2; omega, fun e => by have := (hOB k e.symm).2; have := hk.1; omega⟩) (fun k hk => Deep.blk_alloc_lt _ _ _ hk.2)⟩) hown hg hw
  have hB3 : w3.heap[B]? = some (.cells #[.int .i64 o, .int .i64 n, v] 32) := by
    rw [apBut_other (B := B) (b := b) h hsz hg B hB (by omega), hb.block B (by omega) hBb]
    exact h.2
  refine ⟨hn3.next (by rw [size_setCell]; exact Nat.le_refl _) (fun k h1 h2 => Below.heap_setCell _ _ _ _ (by show k ≠ B; omega)), ?_⟩
  simp [World.setCell, Array.getElem?_modify, hB3]
end Go.Proofs.Ytglpehelmlehiaa
/-
  THE MODEL's DRAWN EXPRESSION (l1Some): some tree in new memory, of at most 4^depth nodes, for at most 8 * 4^depth draws; nothing is changed but the reader's own block.
-/
namespace Go.Proofs.Ytglpehelmlehiaa
set_option linter.unusedVariables false
set_option linter.unusedSimpArgs false
open Go.RowKit

/-- the depth of a drawn expression -/
def ddp (d : Nat) : Nat := if d < 2 then 1 else d
/-- of so many nodes at most, and well formed -/
def SzSh (vars defs : Int) (d : Nat) (t : Tr) : Prop := 1 + szL t.kids ≤ 4 ^ d ∧ shB vars defs (ddp d) t = true
def LsSh (vars defs : Int) (d k : Nat) (ts : List Tr) : Prop := szL ts ≤ k * 4 ^ d ∧ ∀ t ∈ ts, shB vars defs (ddp d) t = true
theorem leaf_shB {o n vars defs : Int} (h : arity o = 0 ∧ ownB o n vars defs = true) (d : Nat) : shB vars defs (ddp d) (.node o n []) = true := by
  have hd : ∃ e, ddp d = e + 1 := by
    unfold ddp
    split
    · exact ⟨0, rfl⟩
    · exact ⟨d - 1, by omega⟩
  obtain ⟨e, he⟩ := hd
  rw [he]
  simp [shB, h.1, h.2]
theorem leaf1 {n vars defs : Int} (h : 0 ≤ n ∧ n < vars) : arity 1 = 0 ∧ ownB 1 n vars defs = true := ⟨by simp [arity], by simp [ownB]; omega⟩
theorem leaf2 {n vars defs : Int} (h : 0 ≤ n ∧ n ≤ 999) : arity 2 = 0 ∧ ownB 2 n vars defs = true := ⟨by simp [arity], by simp [ownB]; omega⟩
theorem leaf3 {n vars defs : Int} (h : 0 ≤ n ∧ n < defs) : arity 3 = 0 ∧ ownB 3 n vars defs = true := ⟨by simp [arity], by simp [ownB]; omega⟩
theorem ar_pos {op : Int} (h : 4 ≤ op ∧ op ≤ 10) : 1 ≤ arity op := by
  unfold arity
  repeat' split
  all_goals omega
theorem node_shB {op vars defs : Int} {d : Nat} {ts : List Tr} (hl : (ts.length : Int) = arity op) (ho : 4 ≤ op) (h : ∀ t ∈ ts, shB vars defs (ddp (d + 1)) t = true) : shB vars defs (ddp (d + 2)) (.node op 0 ts) = true := by
  have h1 : ddp (d + 2) = (d + 1) + 1 := by unfold ddp; rw [if_neg (by omega)]
  have h2 : ddp (d + 1) = d + 1 := by unfold ddp; split <;> omega
  rw [h1, shB]
  rw [h2] at h
  simp only [Tr.kids_node, Tr.op_node, Tr.num_node, Bool.and_eq_true, decide_eq_true_eq, List.all_eq_true]
  refine ⟨⟨decide_eq_true hl, ?_⟩, h⟩
  unfold ownB
  rw [if_neg (by omega), if_neg (by omega), if_neg (by omega)]
  rfl
def SomeTr (vars defs : Int) (d : Nat) (w : World) (b p : Nat) (e : Ending) (w' : World) : Prop :=
  ∃ (t : Tr) (c : Value) (p' : Nat), e = .returned (.agg #[.int .i64 t.op, .int .i64 t.num, c]) ∧ I64 t.op ∧ I64 t.num ∧ KidsOn w' (Btw w.heap.size w'.heap.size) t.kids c ∧ SzSh vars defs d t ∧ RdOn w' b p' ∧ p' ≤ p + 8 * 4 ^ d ∧ But b w w'

def SmSaid (d : Nat) : Prop := ∀ (vars defs : Int) (w : World) (b p : Nat), vars ≤ 1000000 → defs ≤ 1000000 → RdOn w b p → p + 8 * 4 ^ d ≤ 1099511627776 →
  Calls Try.prog 109 #[.pointer (some ⟨b, 0, none⟩), .int .i64 vars, .int .i64 defs, .int .i64 (d : Int)] w (SomeTr vars defs d w b p)

/-- the result's block -/
abbrev zeroE : Obj := .cells #[.int .i64 0, .int .i64 0, .slice none 0 0] 32

/-- a leaf -/
theorem leaf_end {vars defs : Int} {d : Nat} {w wx : World} {b p p' : Nat} (hb : But b w wx) (hlt : w.heap.size < wx.heap.size) (hR : wx.heap[w.heap.size]? = some zeroE) (hr : RdOn wx b p') (hbw : b < w.heap.size) (hp : p' ≤ p + 8) (o n : Int) (ho : I64 o) (hn : I64 n) (hsh : arity o = 0 ∧ ownB o n vars defs = true) :
    SomeTr vars defs d w b p (.returned (.agg #[.int .i64 o, .int .i64 n, .slice none 0 0])) (((wx.setCell ⟨w.heap.size, 0, none⟩ (.int .i64 o)).setCell ⟨w.heap.size, 1, none⟩ (.int .i64 n)).setCell ⟨w.heap.size, 2, none⟩ (.slice none 0 0)) := by
  have h4 : 1 ≤ 4 ^ d := Nat.one_le_pow _ _ (by omega)
  refine ⟨.node o n [], .slice none 0 0, p', rfl, ho, hn, ⟨none, 0, rfl, Nat.le_refl _, by simp [maxLen], Or.inl rfl⟩, ⟨by simpa [szL] using h4, leaf_shB hsh d⟩, ?_, by omega, ?_⟩
  · exact ((hr.setCell (by exact hbw) _).setCell (by exact hbw) _).setCell (by exact hbw) _
  · exact ((hb.setNew (by exact Nat.le_refl _) _).setNew (by exact Nat.le_refl _) _).setNew (by exact Nat.le_refl _) _

/-- a list of numbers that was just laid -/
theorem ints_at (W : World) (g : Nat) (hg : W.heap.size = g) (b : Nat) (L : List Int) (C : Array Value) (hb : b < g) (hC : C.size = L.length) (hc : ∀ i (hi : i < L.length), C[i]? = some (.int .i64 L[i])) :
    IntsBut (W.alloc (.cells C 3)) b L (.slice (some ⟨g, 0, none⟩) L.length L.length) := by
  subst hg
  exact ⟨W.heap.size, 0, L.length, rfl, by omega, by rw [Deep.nblk_alloc]; omega, fun i hi => by rw [Nat.zero_add]; exact box_cell W C _ i _ (hc i hi)⟩
theorem ints6 : ∀ i (hi : i < [(0 : Int), 1, 2, 3, 999, 10].length), (#[.int .i64 0, .int .i64 1, .int .i64 2, .int .i64 3, .int .i64 999, .int .i64 10] : Array Value)[i]? = some (.int .i64 [(0 : Int), 1, 2, 3, 999, 10][i]) := by
  intro i hi
  match i, hi with
  | 0, _ => rfl
  | 1, _ => rfl
  | 2, _ => rfl
  | 3, _ => rfl
  | 4, _ => rfl
  | 5, _ => rfl

set_option maxRecDepth 100000 in
set_option maxHeartbeats 3200000 in
theorem sm_leaf0 (d : Nat) (hd : d < 2) (vars defs : Int) (w : World) (b p : Nat) (h : RdOn w b p) (hv : vars ≤ 1000000) (hf : defs ≤ 1000000) (hp : p + 8 ≤ 1099511627776) :
    Calls Try.prog 109 #[.pointer (some ⟨b, 0, none⟩), .int .i64 vars, .int .i64 defs, .int .i64 (d : Int)] w (SomeTr vars defs d w b p) := by
  have hbw := h.lt
  have HR0 : Hid (RdOn (w.alloc zeroE) b p) := h.next (box_below _ _)
  have HB0 : Hid (But b w (w.alloc zeroE)) := But.of_below (box_below _ _)
  have HZ0 : Hid ((w.alloc zeroE).heap[w.heap.size]? = some zeroE) := Deep.blk_alloc_new _ _
  have lt0 : w.heap.size < (w.alloc zeroE).heap.size := by rw [Deep.nblk_alloc]; omega
  have d1 : decide ((d : Int) < 2) = true := by simp; omega
  clear h
  go_enter Try.func109, Try.ntmps109
  by_cases hv0 : 0 < vars
  · go_wp2_with fail
    refine (pick_calls 2 _ b _ HR0.out (by omega) (by omega)).mono ?_
    rintro e w1 ⟨x1, rfl, x1l, x1u, x1z, hr1, hb1⟩
    have HR1 : Hid (RdOn w1 b _) := hr1
    have HB1 : Hid (But b w w1) := HB0.out.trans hb1
    have HZ1 : Hid (w1.heap[w.heap.size]? = some zeroE) := (hb1.block _ lt0 (by omega)).trans HZ0.out
    have lt1 : w.heap.size < w1.heap.size := Nat.lt_of_lt_of_le lt0 hb1.size
    clear hr1 hb1
    by_cases x1e : x1 = 0
    · subst x1e
      clear x1u x1z x1l
      go_wp2_with fail
      refine (pick_calls vars _ b _ HR1.out (by omega) (by omega)).mono ?_
      rintro e w2 ⟨x2, rfl, x2l, x2u, x2z, hr2, hb2⟩
      have HR2 : Hid (RdOn w2 b _) := hr2
      have HB2 : Hid (But b w w2) := HB1.out.trans hb2
      have HZ2 : Hid (w2.heap[w.heap.size]? = some zeroE) := (hb2.block _ lt1 (by omega)).trans HZ1.out
      have lt2 : w.heap.size < w2.heap.size := Nat.lt_of_lt_of_le lt1 hb2.size
      clear hr2 hb2
      have x2v := x2u hv0
      clear x2u x2z
      have r0 := cell_of_blk HZ2.out 0 _ rfl
      have r1 := cell_of_blk HZ2.out 1 _ rfl
      have r2 := cell_of_blk HZ2.out 2 _ rfl
      have q0 := frz_of_blk HZ2.out 0
      have q1 := frz_of_blk HZ2.out 1
      have q2 := frz_of_blk HZ2.out 2
      have HE : Hid _ := leaf_end (vars := vars) (defs := defs) (d := d) HB2.out lt2 HZ2.out HR2.out hbw (p := p) (by omega) 1 x2 (by unfold I64; omega) (by unfold I64; omega) (leaf1 (by omega))
      go_wp2_with fail
      refine bodyPost_ret (v := .agg #[.int .i64 1, .int .i64 x2, .slice none 0 0]) (by simp [results, Try.results109, go_sem, r0, r1, r2]) rfl ?_
      exact HE.out
    · have x1b : (x1 == 0) = false := by simpa using x1e
      clear x1u x1z
      by_cases hd0 : 0 < defs
      · go_wp2_with fail
        refine (pick_calls 3 _ b _ HR1.out (by omega) (by omega)).mono ?_
        rintro e w3 ⟨x3, rfl, x3l, x3u, x3z, hr3, hb3⟩
        have HR3 : Hid (RdOn w3 b _) := hr3
        have HB3 : Hid (But b w w3) := HB1.out.trans hb3
        have HZ3 : Hid (w3.heap[w.heap.size]? = some zeroE) := (hb3.block _ lt1 (by omega)).trans HZ1.out
        have lt3 : w.heap.size < w3.heap.size := Nat.lt_of_lt_of_le lt1 hb3.size
        clear hr3 hb3
        by_cases x3e : x3 = 0
        · subst x3e
          clear x3u x3z x3l
          go_wp2_with fail
          refine (pick_calls defs _ b _ HR3.out (by omega) (by omega)).mono ?_
          rintro e w4 ⟨x4, rfl, x4l, x4u, x4z, hr4, hb4⟩
          have HR4 : Hid (RdOn w4 b _) := hr4
          have HB4 : Hid (But b w w4) := HB3.out.trans hb4
          have HZ4 : Hid (w4.heap[w.heap.size]? = some zeroE) := (hb4.block _ lt3 (by omega)).trans HZ3.out
          have lt4 : w.heap.size < w4.heap.size := Nat.lt_of_lt_of_le lt3 hb4.size
          clear hr4 hb4
          have x4v := x4u hd0
          clear x4u x4z
          have r0 := cell_of_blk HZ4.out 0 _ rfl
          have r1 := cell_of_blk HZ4.out 1 _ rfl
          have r2 := cell_of_blk HZ4.out 2 _ rfl
          have q0 := frz_of_blk HZ4.out 0
          have q1 := frz_of_blk HZ4.out 1
          have q2 := frz_of_blk HZ4.out 2
          have HE : Hid _ := leaf_end (vars := vars) (defs := defs) (d := d) HB4.out lt4 HZ4.out HR4.out hbw (p := p) (by omega) 3 x4 (by unfold I64; omega) (by unfold I64; omega) (leaf3 (by omega))
          go_wp2_with fail
          refine bodyPost_ret (v := .agg #[.int .i64 3, .int .i64 x4, .slice none 0 0]) (by simp [results, Try.results109, go_sem, r0, r1, r2]) rfl ?_
          exact HE.out
        · have x3b : (x3 == 0) = false := by simpa using x3e
          clear x3u x3z
          go_wp2_with fail
          refine (num_calls [0, 1, 2, 3, 999, 10] (.slice (some ⟨w3.heap.size, 0, none⟩) 6 6) _ b _ (HR3.out.next (box_below _ _)) (by omega) (ints_at w3 w3.heap.size rfl b [0, 1, 2, 3, 999, 10] #[.int .i64 0, .int .i64 1, .int .i64 2, .int .i64 3, .int .i64 999, .int .i64 10] (by have := lt3; omega) rfl ints6) (by simp) (by simp)).mono ?_
          rintro e w5 ⟨y5, rfl, hy5, hr5, hb5⟩
          have HR5 : Hid (RdOn w5 b _) := hr5
          have hbb5 : But b w3 w5 := (But.of_below (box_below _ _)).trans hb5
          have HB5 : Hid (But b w w5) := HB3.out.trans hbb5
          have HZ5 : Hid (w5.heap[w.heap.size]? = some zeroE) := (hbb5.block _ lt3 (by omega)).trans HZ3.out
          have lt5 : w.heap.size < w5.heap.size := Nat.lt_of_lt_of_le lt3 hbb5.size
          have rg5 : 0 ≤ y5 ∧ y5 ≤ 999 := by simp at hy5; omega
          clear hr5 hb5 hbb5 hy5
          have r0 := cell_of_blk HZ5.out 0 _ rfl
          have r1 := cell_of_blk HZ5.out 1 _ rfl
          have r2 := cell_of_blk HZ5.out 2 _ rfl
          have q0 := frz_of_blk HZ5.out 0
          have q1 := frz_of_blk HZ5.out 1
          have q2 := frz_of_blk HZ5.out 2
          have HE : Hid _ := leaf_end (vars := vars) (defs := defs) (d := d) HB5.out lt5 HZ5.out HR5.out hbw (p := p) (by omega) 2 y5 (by unfold I64; omega) (by unfold I64; omega) (leaf2 (by omega))
          go_wp2_with fail
          refine bodyPost_ret (v := .agg #[.int .i64 2, .int .i64 y5, .slice none 0 0]) (by simp [results, Try.results109, go_sem, r0, r1, r2]) rfl ?_
          exact HE.out
      · have hd0' : decide (0 < defs) = false := by simpa using hd0
        go_wp2_with fail
        refine (num_calls [0, 1, 2, 3, 999, 10] (.slice (some ⟨w1.heap.size, 0, none⟩) 6 6) _ b _ (HR1.out.next (box_below _ _)) (by omega) (ints_at w1 w1.heap.size rfl b [0, 1, 2, 3, 999, 10] #[.int .i64 0, .int .i64 1, .int .i64 2, .int .i64 3, .int .i64 999, .int .i64 10] (by have := lt1; omega) rfl ints6) (by simp) (by simp)).mono ?_
        rintro e w6 ⟨y6, rfl, hy6, hr6, hb6⟩
        have HR6 : Hid (RdOn w6 b _) := hr6
        have hbb6 : But b w1 w6 := (But.of_below (box_below _ _)).trans hb6
        have HB6 : Hid (But b w w6) := HB1.out.trans hbb6
        have HZ6 : Hid (w6.heap[w.heap.size]? = some zeroE) := (hbb6.block _ lt1 (by omega)).trans HZ1.out
        have lt6 : w.heap.size < w6.heap.size := Nat.lt_of_lt_of_le lt1 hbb6.size
        have rg6 : 0 ≤ y6 ∧ y6 ≤ 999 := by simp at hy6; omega
        clear hr6 hb6 hbb6 hy6
        have r0 := cell_of_blk HZ6.out 0 _ rfl
        have r1 := cell_of_blk HZ6.out 1 _ rfl
        have r2 := cell_of_blk HZ6.out 2 _ rfl
        have q0 := frz_of_blk HZ6.out 0
        have q1 := frz_of_blk HZ6.out 1
        have q2 := frz_of_blk HZ6.out 2
        have HE : Hid _ := leaf_end (vars := vars) (defs := defs) (d := d) HB6.out lt6 HZ6.out HR6.out hbw (p := p) (by omega) 2 y6 (by unfold I64; omega) (by unfold I64; omega) (leaf2 (by omega))
        go_wp2_with fail
        refine bodyPost_ret (v := .agg #[.int .i64 2, .int .i64 y6, .slice none 0 0]) (by simp [results, Try.results109, go_sem, r0, r1, r2]) rfl ?_
        exact HE.out
  · have hv0' : decide (0 < vars) = false := by simpa using hv0
    by_cases hd0 : 0 < defs
    · go_wp2_with fail
      refine (pick_calls 3 _ b _ HR0.out (by omega) (by omega)).mono ?_
      rintro e w7 ⟨x7, rfl, x7l, x7u, x7z, hr7, hb7⟩
      have HR7 : Hid (RdOn w7 b _) := hr7
      have HB7 : Hid (But b w w7) := HB0.out.trans hb7
      have HZ7 : Hid (w7.heap[w.heap.size]? = some zeroE) := (hb7.block _ lt0 (by omega)).trans HZ0.out
      have lt7 : w.heap.size < w7.heap.size := Nat.lt_of_lt_of_le lt0 hb7.size
      clear hr7 hb7
      by_cases x7e : x7 = 0
      · subst x7e
        clear x7u x7z x7l
        go_wp2_with fail
        refine (pick_calls defs _ b _ HR7.out (by omega) (by omega)).mono ?_
        rintro e w8 ⟨x8, rfl, x8l, x8u, x8z, hr8, hb8⟩
        have HR8 : Hid (RdOn w8 b _) := hr8
        have HB8 : Hid (But b w w8) := HB7.out.trans hb8
        have HZ8 : Hid (w8.heap[w.heap.size]? = some zeroE) := (hb8.block _ lt7 (by omega)).trans HZ7.out
        have lt8 : w.heap.size < w8.heap.size := Nat.lt_of_lt_of_le lt7 hb8.size
        clear hr8 hb8
        have x8v := x8u hd0
        clear x8u x8z
        have r0 := cell_of_blk HZ8.out 0 _ rfl
        have r1 := cell_of_blk HZ8.out 1 _ rfl
        have r2 := cell_of_blk HZ8.out 2 _ rfl
        have q0 := frz_of_blk HZ8.out 0
        have q1 := frz_of_blk HZ8.out 1
        have q2 := frz_of_blk HZ8.out 2
        have HE : Hid _ := leaf_end (vars := vars) (defs := defs) (d := d) HB8.out lt8 HZ8.out HR8.out hbw (p := p) (by omega) 3 x8 (by unfold I64; omega) (by unfold I64; omega) (leaf3 (by omega))
        go_wp2_with fail
        refine bodyPost_ret (v := .agg #[.int .i64 3, .int .i64 x8, .slice none 0 0]) (by simp [results, Try.results109, go_sem, r0, r1, r2]) rfl ?_
        exact HE.out
      · have x7b : (x7 == 0) = false := by simpa using x7e
        clear x7u x7z
        go_wp2_with fail
        refine (num_calls [0, 1, 2, 3, 999, 10] (.slice (some ⟨w7.heap.size, 0, none⟩) 6 6) _ b _ (HR7.out.next (box_below _ _)) (by omega) (ints_at w7 w7.heap.size rfl b [0, 1, 2, 3, 999, 10] #[.int .i64 0, .int .i64 1, .int .i64 2, .int .i64 3, .int .i64 999, .int .i64 10] (by have := lt7; omega) rfl ints6) (by simp) (by simp)).mono ?_
        rintro e w9 ⟨y9, rfl, hy9, hr9, hb9⟩
        have HR9 : Hid (RdOn w9 b _) := hr9
        have hbb9 : But b w7 w9 := (But.of_below (box_below _ _)).trans hb9
        have HB9 : Hid (But b w w9) := HB7.out.trans hbb9
        have HZ9 : Hid (w9.heap[w.heap.size]? = some zeroE) := (hbb9.block _ lt7 (by omega)).trans HZ7.out
        have lt9 : w.heap.size < w9.heap.size := Nat.lt_of_lt_of_le lt7 hbb9.size
        have rg9 : 0 ≤ y9 ∧ y9 ≤ 999 := by simp at hy9; omega
        clear hr9 hb9 hbb9 hy9
        have r0 := cell_of_blk HZ9.out 0 _ rfl
        have r1 := cell_of_blk HZ9.out 1 _ rfl
        have r2 := cell_of_blk HZ9.out 2 _ rfl
        have q0 := frz_of_blk HZ9.out 0
        have q1 := frz_of_blk HZ9.out 1
        have q2 := frz_of_blk HZ9.out 2
        have HE : Hid _ := leaf_end (vars := vars) (defs := defs) (d := d) HB9.out lt9 HZ9.out HR9.out hbw (p := p) (by omega) 2 y9 (by unfold I64; omega) (by unfold I64; omega) (leaf2 (by omega))
        go_wp2_with fail
        refine bodyPost_ret (v := .agg #[.int .i64 2, .int .i64 y9, .slice none 0 0]) (by simp [results, Try.results109, go_sem, r0, r1, r2]) rfl ?_
        exact HE.out
    · have hd0' : decide (0 < defs) = false := by simpa using hd0
      go_wp2_with fail
      refine (num_calls [0, 1, 2, 3, 999, 10] (.slice (some ⟨(w.heap.size + 1), 0, none⟩) 6 6) _ b _ (HR0.out.next (box_below _ _)) (by omega) (ints_at (w.alloc zeroE) (w.heap.size + 1) (Deep.nblk_alloc _ _) b [0, 1, 2, 3, 999, 10] #[.int .i64 0, .int .i64 1, .int .i64 2, .int .i64 3, .int .i64 999, .int .i64 10] (by have := lt0; omega) rfl ints6) (by simp) (by simp)).mono ?_
      rintro e w10 ⟨y10, rfl, hy10, hr10, hb10⟩
      have HR10 : Hid (RdOn w10 b _) := hr10
      have hbb10 : But b (w.alloc zeroE) w10 := (But.of_below (box_below _ _)).trans hb10
      have HB10 : Hid (But b w w10) := HB0.out.trans hbb10
      have HZ10 : Hid (w10.heap[w.heap.size]? = some zeroE) := (hbb10.block _ lt0 (by omega)).trans HZ0.out
      have lt10 : w.heap.size < w10.heap.size := Nat.lt_of_lt_of_le lt0 hbb10.size
      have rg10 : 0 ≤ y10 ∧ y10 ≤ 999 := by simp at hy10; omega
      clear hr10 hb10 hbb10 hy10
      have r0 := cell_of_blk HZ10.out 0 _ rfl
      have r1 := cell_of_blk HZ10.out 1 _ rfl
      have r2 := cell_of_blk HZ10.out 2 _ rfl
      have q0 := frz_of_blk HZ10.out 0
      have q1 := frz_of_blk HZ10.out 1
      have q2 := frz_of_blk HZ10.out 2
      have HE : Hid _ := leaf_end (vars := vars) (defs := defs) (d := d) HB10.out lt10 HZ10.out HR10.out hbw (p := p) (by omega) 2 y10 (by unfold I64; omega) (by unfold I64; omega) (leaf2 (by omega))
      go_wp2_with fail
      refine bodyPost_ret (v := .agg #[.int .i64 2, .int .i64 y10, .slice none 0 0]) (by simp [results, Try.results109, go_sem, r0, r1, r2]) rfl ?_
      exact HE.out
end Go.Proofs.Ytglpehelmlehiaa
