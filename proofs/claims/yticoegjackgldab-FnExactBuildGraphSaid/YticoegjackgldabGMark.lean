/-
  THE MARKS OF A GRAPH IN ROWS OF ITS OWN: what stands there behind them.
-/
import Derived.Test.YticoegjackgldabGOwn
import Derived.Test.YticoegjackgldabOwnC
import Derived.Test.YticoegjackgldabAddOut
namespace Go.Proofs.Yticoegjackgldab
set_option linter.unusedVariables false
set_option linter.unusedSimpArgs false
open Go.RowKit

theorem labC_half (g : List Ce) (k : Int) : HalfC g k g.length (labC g k) := ⟨labC_length g k, fun i hi hm => by rw [if_pos hi, labC_get g k i hi]⟩
/-- what marking hands back -/
def GMarked (g : List Ce) (fp : List Nat) (k : Int) (v : Value) (w : World) (e : Ending) (w' : World) : Prop := e = .returned (.int .i64 (k + 2 * (g.length : Int) + (sumK g : Int))) ∧ CIn w' (labC g k) v ∧ ButL fp w w'
theorem gmarkO_calls (g : List Ce) (fp : List Nat) (v : Value) (k : Int) (w : World) (h : GOwn w fp g v) (h0 : 0 ≤ k) (h1 : k ≤ 1048576) (hs : g.length + sumK g ≤ 1048576) :
    Calls Try.prog 28 #[v, .int .i64 k] w (GMarked g fp k v w) := by
  obtain ⟨hi, ad, cap, rfl, l1, l2, hr⟩ := h
  rcases hr with rfl | ⟨b, kb, rfl, hb, hr, hd⟩
  · refine (markCells_calls [] fp (.slice ad 0 cap) k w ⟨ad, cap, rfl, l1, l2, Or.inl rfl⟩ h0 (by omega) (by simp [sumN'])).mono ?_
    rintro e w' ⟨rfl, hb⟩
    refine ⟨ret_int (by simp [sumK, sumN']), ⟨ad, cap, rfl, l1, l2, Or.inl rfl⟩, hb⟩
  · refine (gmark_calls g fp b cap kb k w hr hb hd l1 l2 h0 (by omega) hs).mono ?_
    rintro e w' ⟨rfl, h5, h6⟩
    refine ⟨rfl, GOwn.inn (fp := fp) ⟨fun i hi' => ?_, some ⟨b, 0, none⟩, cap, by rw [labC_length], by rw [labC_length]; exact l1, l2, Or.inr ⟨b, kb, rfl, hb, h5, (labC_half g k).dist hd⟩⟩, h6⟩
    have hl := labC_length g k
    rw [labC_get g k i (by omega) hi']
    have := cLab_le g k i (by omega)
    unfold markedC I64
    simp only
    omega
/-- a graph that a call hands back, in rows of its own -/
theorem addOut_small (t : Tr) (defs : Int) : (addOut [] t [] defs).1.length + sumK (addOut [] t [] defs).1 ≤ 200 := by
  rw [addOut_closed]
  split
  · rename_i h
    have h' := h
    unfold validB at h'
    simp only [Bool.and_eq_true, decide_eq_true_eq] at h'
    have hs := addT_size [] t []
    simp only [List.length_nil] at hs
    have e : sumK ([] : List Ce) = 0 := rfl
    rw [e] at hs
    show (addT [] t []).1.length + sumK (addT [] t []).1 ≤ 200
    omega
  · simp [sumK]
end Go.Proofs.Yticoegjackgldab
