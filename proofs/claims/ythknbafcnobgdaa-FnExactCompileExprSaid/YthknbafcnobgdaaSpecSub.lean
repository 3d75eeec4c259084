/-
  THE MODEL's l1Subst: the variables replaced, in new memory; nothing that was there is changed.
-/
import Derived.Test.YthknbafcnobgdaaCopy
import Derived.Test.YthknbafcnobgdaaSubT
namespace Go.Proofs.Ythknbafcnobgdaa
set_option linter.unusedVariables false
set_option linter.unusedSimpArgs false
open Go.RowKit

/-- a call has handed back this tree in new memory -/
def NewG (g : Tr) (w : World) (e : Ending) (w' : World) : Prop := ∃ v, e = .returned (.agg #[.int .i64 g.op, .int .i64 g.num, v]) ∧ KidsOn w' (Btw w.heap.size w'.heap.size) g.kids v ∧ I64 g.op ∧ I64 g.num ∧ Below w.heap.size w w'
/-- what holds behind k rounds -/
def SbRel (args : List Tr) (t : Tr) (box : Value) (w : World) (k : Nat) (wr : World) : Prop :=
  ∃ v, ApRel t.op t.num ((t.kids.take k).map (sbT args)) (w.heap.size + 2) (w.heap.size + 3) v wr ∧ wr.heap[w.heap.size]? = some (.cells #[.int .i64 t.op, .int .i64 t.num, box] 37) ∧
    wr.heap[w.heap.size + 1]? = some (.cells #[.int .i64 0, .int .i64 0, .slice none 0 0] 37) ∧ Below w.heap.size w wr ∧ w.heap.size + 3 ≤ wr.heap.size
theorem sbRel_start (args : List Tr) (t : Tr) (box : Value) (w : World) : SbRel args t box w 0 (((w.alloc (.cells #[.int .i64 t.op, .int .i64 t.num, box] 37)).alloc (.cells #[.int .i64 0, .int .i64 0, .slice none 0 0] 37)).alloc (.cells #[.int .i64 t.op, .int .i64 t.num, .slice none 0 0] 37)) := by
  obtain ⟨v, h1, h2⟩ := cpRel_start t box w
  exact ⟨v, by simpa using h1, h2⟩

end Go.Proofs.Ythknbafcnobgdaa
