/-
  THE LAWS' OWN MARKS IN A GRAPH (markCellS): only the graph's own blocks are written.
-/
import Derived.Test.YtjpjikfmdaejeabCells
import Derived.Test.YtjpjikfmdaejeabButL
namespace Go.Proofs.Ytjpjikfmdaejeab
set_option linter.unusedVariables false
set_option linter.unusedSimpArgs false
open Go.RowKit

/-- a row of ints, whatever they are -/
def IShape (w : World) (fp : List Nat) (n : Nat) (v : Value) : Prop :=
  ∃ ad cap, v = .slice ad n cap ∧ n ≤ cap ∧ cap ≤ maxLen ∧ (n = 0 ∨ ∃ g f, ad = some ⟨g, 0, none⟩ ∧ g ∈ fp ∧ w.rowIs g 3 cap f)
/-- a row of cells, whatever their numbers are -/
def CShape (w : World) (fp : List Nat) (ns : List Nat) (v : Value) : Prop :=
  ∃ ad cap, v = .slice ad ns.length cap ∧ ns.length ≤ cap ∧ cap ≤ maxLen ∧ (ns = [] ∨ ∃ b f, ad = some ⟨b, 0, none⟩ ∧ b ∈ fp ∧ w.rowIs b 60 (cap * 3) f ∧ ∀ i (h : i < ns.length), IShape w fp ns[i] (f (i * 3 + 2)))
/-- shapes stay, and nothing but fp is written -/
structure Keeps (fp : List Nat) (w w' : World) : Prop where
  ints : ∀ n v, IShape w fp n v → IShape w' fp n v
  rows : ∀ b c f, w.rowIs b 60 c f → w'.rowIs b 60 c f
  but : ButL fp w w'
theorem Keeps.refl (fp : List Nat) (w : World) : Keeps fp w w := ⟨fun _ _ h => h, fun _ _ _ h => h, ButL.refl _ _⟩
theorem Keeps.trans {fp : List Nat} {a b c : World} (h : Keeps fp a b) (k : Keeps fp b c) : Keeps fp a c := ⟨fun n v x => k.ints n v (h.ints n v x), fun g c f x => k.rows g c f (h.rows g c f x), h.but.trans k.but⟩
theorem rows_part {w : World} {b g n m : Nat} {f f' : Nat → Value} (h : w.rowIs b 60 n f) (h' : w.rowIs g 3 m f') : b ≠ g := by
  rintro rfl
  obtain ⟨c, h1, -⟩ := h
  obtain ⟨c', h2, -⟩ := h'
  rw [h1] at h2
  simp at h2
theorem setCell_other (w : World) {b k : Nat} (o : Nat) (u : Value) (h : k ≠ b) : (w.setCell ⟨b, o, none⟩ u).heap[k]? = w.heap[k]? := Below.heap_setCell _ _ _ _ (fun e => h e)
/-- a store into a row of ints -/
theorem Keeps.int {fp : List Nat} {w : World} {g cap : Nat} {f : Nat → Value} (hg : g ∈ fp) (hr : w.rowIs g 3 cap f) (j : Nat) (u : Value) : Keeps fp w (w.setCell ⟨g, j, none⟩ u) where
  ints n v h := by
    obtain ⟨ad, cap2, e, l1, l2, h⟩ := h
    refine ⟨ad, cap2, e, l1, l2, h.imp id ?_⟩
    rintro ⟨g2, f2, rfl, hg2, hr2⟩
    by_cases hgg : g2 = g
    · subst hgg; exact ⟨g2, _, rfl, hg2, hr2.set j u⟩
    · exact ⟨g2, f2, rfl, hg2, hr2.of_block (setCell_other w j u hgg)⟩
  rows b c f2 h := h.of_block (setCell_other w j u (rows_part h hr))
  but := ButL.setCell w g j hg u

theorem CShape.keep {fp : List Nat} {w w' : World} {ns : List Nat} {v : Value} (h : CShape w fp ns v) (k : Keeps fp w w') : CShape w' fp ns v := by
  obtain ⟨ad, cap, e, l1, l2, h⟩ := h
  refine ⟨ad, cap, e, l1, l2, h.imp id ?_⟩
  rintro ⟨b, f, rfl, hb, hr, hi⟩
  exact ⟨b, f, rfl, hb, k.rows _ _ _ hr, fun i h => k.ints _ _ (hi i h)⟩
theorem CShape.blocks {fp : List Nat} {w w' : World} {ns : List Nat} {v : Value} (h : CShape w fp ns v) (k : ∀ b ∈ fp, w'.heap[b]? = w.heap[b]?) : CShape w' fp ns v := by
  obtain ⟨ad, cap, e, l1, l2, h⟩ := h
  refine ⟨ad, cap, e, l1, l2, h.imp id ?_⟩
  rintro ⟨b, f, rfl, hb, hr, hi⟩
  refine ⟨b, f, rfl, hb, hr.of_block (k b hb), fun i h => ?_⟩
  obtain ⟨ad, cap, e, l1, l2, h⟩ := hi i h
  refine ⟨ad, cap, e, l1, l2, h.imp id ?_⟩
  rintro ⟨g, f, rfl, hg, hr⟩
  exact ⟨g, f, rfl, hg, hr.of_block (k g hg)⟩
/-- a store into the row of cells, not at an operand -/
theorem CShape.store {fp : List Nat} {w : World} {ns : List Nat} {b n cap : Nat} (h : CShape w fp ns (.slice (some ⟨b, 0, none⟩) n cap)) (hn : 0 < ns.length) (i m : Nat) (hm : m < 2) (u : Value) :
    CShape (w.setCell ⟨b, i * 3 + m, none⟩ u) fp ns (.slice (some ⟨b, 0, none⟩) n cap) ∧ ButL fp w (w.setCell ⟨b, i * 3 + m, none⟩ u) := by
  obtain ⟨ad, cap2, e, l1, l2, h⟩ := h
  simp only [Value.slice.injEq] at e
  obtain ⟨rfl, rfl, rfl⟩ := e
  rcases h with rfl | ⟨b2, f, e, hb, hr, hi⟩
  · simp at hn
  simp only [Option.some.injEq, Addr.mk.injEq, and_true] at e
  subst e
  refine ⟨⟨_, cap, rfl, l1, l2, Or.inr ⟨b, _, rfl, hb, hr.set (i * 3 + m) u, fun j hj => ?_⟩⟩, ButL.setCell w b _ hb u⟩
  have hne : ¬ (j * 3 + 2 = i * 3 + m) := by omega
  simp only [if_neg hne]
  obtain ⟨ad, cap3, e, l3, l4, h⟩ := hi j hj
  refine ⟨ad, cap3, e, l3, l4, h.imp id ?_⟩
  rintro ⟨g2, f2, rfl, hg2, hr2⟩
  exact ⟨g2, f2, rfl, hg2, hr2.of_block (setCell_other w _ u (rows_part hr hr2).symm)⟩

def sumN' (l : List Nat) : Nat := l.sum
theorem sumN_take_succ (l : List Nat) (i : Nat) (h : i < l.length) : sumN' (l.take (i + 1)) = sumN' (l.take i) + l[i] := by
  unfold sumN'; rw [List.take_succ_eq_append_getElem h, List.sum_append]; simp
theorem sumN_take_le (l : List Nat) (i : Nat) : sumN' (l.take i) ≤ sumN' l := by
  unfold sumN'
  conv => rhs; rw [← List.take_append_drop i l, List.sum_append]
  omega

end Go.Proofs.Ytjpjikfmdaejeab
