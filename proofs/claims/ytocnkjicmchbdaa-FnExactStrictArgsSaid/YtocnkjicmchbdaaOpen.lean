/-
  WHAT THE READING OF AN ARGUMENT GIVES: an expression of the laws' own type is a tree in memory.
-/
import Derived.Test.YtocnkjicmchbdaaTree
import Derived.Test.YtocnkjicmchbdaaProg
namespace Go.Proofs.Ytocnkjicmchbdaa
open Go.RowKit
set_option linter.unusedVariables false
set_option linter.unusedSimpArgs false
section
variable {H : Type} {enc : TypeId × Value → H} {w : World} {base : Nat} {spare : Nat → Bool} {held : Bool}

theorem trod_lawKids (fuel : Nat) (v : Value) (x : DataW H × List MemPlace) (h : DataW.trod enc Try.prog w base spare held fuel 22 [v] = some x) : ∃ ks, In w ks v :=
  open_kids Try.underlying22 Try.underlying24 (by kernel_rfl) (by kernel_rfl) rfl rfl rfl Try.underlying3 Try.underlying3 fuel v x h

set_option maxRecDepth 100000 in
theorem open_lawExpr {r : Reach} {b0 : Nat} {v : Value} {d : DataW H} {p : List MemPlace} (hv : Value.okWide Try.prog w r b0 24 v) (h : DataW.Trod enc Try.prog w base spare held 24 v d p) :
    ∃ (t : Tr) (c : Value), v = .agg #[.int .i64 t.op, .int .i64 t.num, c] ∧ In w t.kids c := by
  obtain ⟨x0, x1, x2, y0, y1, y2, n, rfl, -, -, g0, g1, g2⟩ := Joins.open_agg3 Try.underlying24 (by kernel_rfl) (by kernel_rfl) hv h
  obtain ⟨o, e0, _, _⟩ := DataW.trod_int Try.underlying3 g0
  obtain ⟨m, e1, _, _⟩ := DataW.trod_int Try.underlying3 g1
  obtain ⟨ks, hk⟩ := trod_lawKids n x2 y2 g2
  simp only [List.cons.injEq, and_true] at e0 e1
  exact ⟨.node o m ks, x2, by rw [e0, e1]; rfl, hk⟩
set_option maxRecDepth 100000 in
/-- .. its numbers fit Go's int -/
theorem open_lawExpr2 {r : Reach} {b0 : Nat} {v : Value} {d : DataW H} {p : List MemPlace} (hv : Value.okWide Try.prog w r b0 24 v) (h : DataW.Trod enc Try.prog w base spare held 24 v d p) :
    ∃ (t : Tr) (c : Value), v = .agg #[.int .i64 t.op, .int .i64 t.num, c] ∧ In w t.kids c ∧ I64 t.op ∧ I64 t.num := by
  obtain ⟨x0, x1, x2, y0, y1, y2, n, rfl, -, -, g0, g1, g2⟩ := Joins.open_agg3 Try.underlying24 (by kernel_rfl) (by kernel_rfl) hv h
  obtain ⟨o, e0, _, w0⟩ := DataW.trod_int Try.underlying3 g0
  obtain ⟨m, e1, _, w1⟩ := DataW.trod_int Try.underlying3 g1
  obtain ⟨ks, hk⟩ := trod_lawKids n x2 y2 g2
  simp only [List.cons.injEq, and_true] at e0 e1
  exact ⟨.node o m ks, x2, by rw [e0, e1]; rfl, hk, bounds_i64 w0, bounds_i64 w1⟩
end
end Go.Proofs.Ytocnkjicmchbdaa
