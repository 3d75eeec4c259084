/-
  A ROW OF COUNTS.
-/
import Derived.Test.YticoegjackgldacStk
import Derived.Test.YticoegjackgldacShareT
namespace Go.Proofs.Yticoegjackgldac
set_option linter.unusedVariables false
set_option linter.unusedSimpArgs false
open Go.RowKit

/-- a row of counts -/
abbrev Counts (w : World) (b n : Nat) (u : Nat → Nat) : Prop := w.rowIs b 3 n (fun i => .int .i64 (u i : Int))
theorem Counts.up {w : World} {b n : Nat} {u : Nat → Nat} (h : Counts w b n u) (k : Nat) (u' : Nat → Nat) (hu : ∀ i, u' i = u i + if i = k then 1 else 0) : Counts (w.setCell ⟨b, k, none⟩ (.int .i64 ((u k : Int) + 1))) b n u' := by
  refine World.rowIs.congr (h.set k _) fun i hi => ?_
  by_cases e : i = k
  · subst e; simp [hu]
  · simp [e, hu]
end Go.Proofs.Yticoegjackgldac
