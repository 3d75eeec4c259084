/-
  WHAT ReadGraph ANSWERS, plainly.
-/
import Derived.Test.YticoegjackgldabReadT
import Derived.Test.YticoegjackgldabOwnF
namespace Go.Proofs.Yticoegjackgldab
set_option linter.unusedVariables false
set_option linter.unusedSimpArgs false
open Go.RowKit

/-- what ReadGraph answers -/
def readB (g : List Ce) (root defs : Int) : Option Tr := if graphB g defs = true ∧ isAt g.length root = true then (readT g 16 root.toNat 60).map (·.1) else none
/-- an expression in new memory, all blocks distinct, and whether there is one -/
def ReadOut (o : Option Tr) (w : World) (e : Ending) (w' : World) : Prop :=
  match o with
  | none => e = .returned (.tuple #[.agg #[.int .i64 0, .int .i64 0, .slice none 0 0], .bool false]) ∧ Below w.heap.size w w'
  | some t => ∃ v, e = .returned (.tuple #[.agg #[.int .i64 t.op, .int .i64 t.num, v], .bool true]) ∧ Fresh w' w.heap.size t.kids v ∧ I64 t.op ∧ I64 t.num ∧ Below w.heap.size w w'
theorem graphB_six {g : List Ce} {defs : Int} (h : graphB g defs = true) : graphB g 6 = true := by
  unfold graphB at h ⊢
  simp only [Bool.and_eq_true, decide_eq_true_eq, List.all_eq_true] at h ⊢
  obtain ⟨h1, h2⟩ := h
  refine ⟨by omega, fun c hc => ?_⟩
  have h3 := h2 c hc
  unfold cellB fitsB at h3 ⊢
  simp only [Bool.and_eq_true] at h3 ⊢
  refine ⟨⟨h3.1.1, ?_⟩, h3.2⟩
  have h4 := h3.1.2
  unfold ownB at h4 ⊢
  by_cases e1 : c.op = 1
  · rw [if_pos e1] at h4 ⊢; exact h4
  rw [if_neg e1] at h4 ⊢
  by_cases e2 : c.op = 2
  · rw [if_pos e2] at h4 ⊢; exact h4
  rw [if_neg e2] at h4 ⊢
  by_cases e3 : c.op = 3
  · rw [if_pos e3] at h4 ⊢; simp at h4 ⊢; omega
  rw [if_neg e3] at h4 ⊢; exact h4
theorem readB_no {g : List Ce} {root defs : Int} (h : ¬ (graphB g defs = true ∧ isAt g.length root = true)) : readB g root defs = none := by unfold readB; rw [if_neg h]
theorem readB_yes {g : List Ce} {root defs : Int} (h : graphB g defs = true ∧ isAt g.length root = true) : readB g root defs = (readT g 16 root.toNat 60).map (·.1) := by unfold readB; rw [if_pos h]

/-- the result's box is written: another block stays -/
theorem box_stay {w : World} {R B : Nat} {x y z : Value} {o : Obj} (h : w.heap[R]? = some o) (hne : R ≠ B) : (((w.setCell ⟨B, 0, none⟩ x).setCell ⟨B, 1, none⟩ y).setCell ⟨B, 2, none⟩ z).heap[R]? = some o := by
  rw [Below.heap_setCell _ _ _ _ (by show R ≠ B; exact hne), Below.heap_setCell _ _ _ _ (by show R ≠ B; exact hne), Below.heap_setCell _ _ _ _ (by show R ≠ B; exact hne)]
  exact h
theorem box_but {fp : List Nat} {w w1 : World} {x y z : Value} (h : Below w.heap.size w w1) : ButL fp w (((w1.setCell ⟨w.heap.size, 0, none⟩ x).setCell ⟨w.heap.size, 1, none⟩ y).setCell ⟨w.heap.size, 2, none⟩ z) :=
  ButL.of_below (((h.setCell (Nat.le_refl _) _).setCell (Nat.le_refl _) _).setCell (Nat.le_refl _) _)

theorem readB_sz (g : List Ce) (root defs : Int) : ∀ t, readB g root defs = some t → szT t ≤ 60 := by
  intro t h
  unfold readB at h
  split at h
  · cases hr : readT g 16 root.toNat 60 with
    | none => rw [hr] at h; simp at h
    | some q =>
      obtain ⟨t', l⟩ := q
      rw [hr] at h
      simp only [Option.map_some, Option.some.injEq] at h
      subst h
      have := readT_sz g 16 _ _ _ _ hr
      omega
  · simp at h
theorem fresh_shape {w : World} {lo : Nat} {ks : List Tr} {v : Value} (h : Fresh w lo ks v) : ∃ ad cap, v = .slice ad ks.length cap := by
  obtain ⟨ad, cap, e, -⟩ := h.on
  exact ⟨ad, cap, e⟩
theorem fresh_nil (w : World) (lo : Nat) : Fresh w lo [] (.slice none 0 0) := (OwnF.nil w lo lo).fresh
/-- both ways in one form -/
theorem readOut_one (o : Option Tr) (hs : ∀ t, o = some t → szT t ≤ 60) : ∃ (t : Tr) (b : Bool), szL t.kids ≤ 60 ∧ ∀ (W : World) (en : Ending) (w' : World), ReadOut o W en w' → ∃ v, en = .returned (.tuple #[.agg #[.int .i64 t.op, .int .i64 t.num, v], .bool b]) ∧ Fresh w' W.heap.size t.kids v ∧ Below W.heap.size W w' := by
  cases o with
  | none => exact ⟨.node 0 0 [], false, by simp [szL], fun W en w' h => ⟨_, h.1, fresh_nil _ _, h.2⟩⟩
  | some t => exact ⟨t, true, by rw [← szT_eq]; exact hs t rfl, fun W en w' h => by obtain ⟨v, h1, h2, -, -, h3⟩ := h; exact ⟨v, h1, h2, h3⟩⟩
end Go.Proofs.Yticoegjackgldab
