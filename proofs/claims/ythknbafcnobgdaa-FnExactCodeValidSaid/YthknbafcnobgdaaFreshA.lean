/-
  append TO A FRESH EMPTY SLICE OF EXPRESSIONS, of any expressions, none too: as one step of a region that draws its order.
-/
import Derived.Test.YthknbafcnobgdaaCloneE
namespace Go.Proofs.Ythknbafcnobgdaa
set_option linter.unusedVariables false
set_option linter.unusedSimpArgs false
open Go.RowKit

theorem run_append_fresh (w : World) (ty : TypeId) (G : Nat) (hG : w.heap[G]? = some (.cells #[] 37)) (n : Nat) (news : List Value) (v : Value) (hv : ECells w n news v) (hb : n ≤ 1048576) :
    ∃ v' w', (Builtin.append_ #[35, 35] ty #[.slice (some ⟨G, 0, none⟩) 0 0, v]).run Try.prog w = .ok v' w' ∧ w'.ownsRow G 37 3 v' n news ∧ w.grownBy w' (some G) ∧ (v'.ownBlock = some G ∨ ∃ g, v'.ownBlock = some g ∧ w.heap.size ≤ g) := by
  obtain ⟨hl, h1, ad, cap, rfl, hr⟩ := hv
  obtain ⟨i, z, hi, hz, hs, hby, hzs⟩ := infoE3
  have hlt := (Array.getElem?_eq_some_iff.1 hG).1
  have hown : w.ownsRow G 37 3 (.slice (some ⟨G, 0, none⟩) 0 0) 0 [] := ⟨rfl, Or.inr ⟨G, 0, #[], rfl, Nat.le_refl _, hG, Nat.le_refl _, by unfold maxLen; omega, rfl, rfl⟩⟩
  by_cases hn : n = 0
  · subst hn
    obtain rfl : news = [] := List.eq_nil_of_length_eq_zero (by omega)
    refine ⟨.slice (some ⟨G, 0, none⟩) 0 0, w, ?_, hown, ⟨rfl, rfl, rfl, Nat.le_refl _, fun _ _ _ => rfl⟩, Or.inl rfl⟩
    rcases hr with ⟨rfl, -⟩ | ⟨bl, off, rfl, hbl, -⟩
    · simp [Builtin.append_, run_underlying Try.underlying35, sizeOf, typeInfo, hi, Builtin.lenOf, Builtin.firstCells, storeCells]
    · simp [Builtin.append_, run_underlying Try.underlying35, sizeOf, typeInfo, hi, Builtin.lenOf, Builtin.firstCells, storeCells, loadCells, loadCellsFrom]
  · rcases hr with ⟨-, h0⟩ | ⟨bl, off, rfl, hbl, hc⟩
    · exact absurd h0 hn
    · obtain ⟨v', w', hrun, h2, h3, h4⟩ := run_append_where (P := Try.prog) w G 35 ty 37 i z 3 40 Try.underlying35 hi hz hs hby hzs (by decide) (.slice (some ⟨G, 0, none⟩) 0 0) 0 [] hown ⟨bl, off, none⟩ n cap news hl (fun j u hj => by rw [WideShapes.add_plain]; exact hc j u hj) h1 (by unfold maxLen; omega) (by omega) (by omega) (by omega)
      exact ⟨v', w', hrun, by rw [Nat.zero_add, List.nil_append] at h2; exact h2, h3, h4⟩
theorem step_append_fresh {ops : Array Oper} {o : Oper} {a : Act} {w : World} {K : Act → World → Prop} {Q : Exit → Act → World → Prop} {E : Prop} (hgd : o.guard = none) (s x : Operand)
    (ho : o.op = .call { callee := .builtin .append, args := #[s, x], argTypes := #[35, 35] })
    (G : Nat) (hG : w.heap[G]? = some (.cells #[] 37)) (n : Nat) (news : List Value) (v : Value) (hs : a.eval s = .slice (some ⟨G, 0, none⟩) 0 0) (hx : a.eval x = v) (hv : ECells w n news v) (hb : n ≤ 1048576)
    (h : ∀ v' w', w'.ownsRow G 37 3 v' n news → w.grownBy w' (some G) → (v'.ownBlock = some G ∨ ∃ g, v'.ownBlock = some g ∧ w.heap.size ≤ g) → K (a.put o.dst v') w') : if Region.wanted o (yielded ops a.tmps) = true then Oper.wp Try.prog o a w K Q else E := by
  have hw : Region.wanted o (yielded ops a.tmps) = true := by simp [Region.wanted, hgd]
  rw [if_pos hw]
  obtain ⟨v', w', hrun, h2, h3, h4⟩ := run_append_fresh w o.type G hG n news v hv hb
  unfold Oper.wp
  simp [execOp, ho, resolve, invoke, builtin, hs, hx, hrun, Result.andThen]
  exact h _ _ h2 h3 h4
end Go.Proofs.Ythknbafcnobgdaa
