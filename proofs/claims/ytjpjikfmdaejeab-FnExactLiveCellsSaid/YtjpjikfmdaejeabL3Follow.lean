/-
  THE MODEL's l3Follow; nothing that was there is changed.
-/
import Derived.Test.YtjpjikfmdaejeabGraphT
import Derived.Test.YtjpjikfmdaejeabProg
namespace Go.Proofs.Ytjpjikfmdaejeab
set_option linter.unusedVariables false
set_option linter.unusedSimpArgs false
open Go.RowKit

/-- what l3Follow answers: the place, or -1 -/
def folI (o : Option Nat) : Int := match o with | some b => (b : Int) | none => -1
theorem followN_ind {g : List Ce} {n a : Nat} (h : opAt g a = 11) : followN g (n + 1) a = followN g n (nxt g a) := by rw [followN, if_pos h]
theorem followN_stop {g : List Ce} {n a : Nat} (h : ¬ opAt g a = 11) : followN g (n + 1) a = some a := by rw [followN, if_neg h]
theorem opAt_at {g : List Ce} (a : Nat) (ha : a < g.length) : opAt g a = g[a].op := by unfold opAt; rw [getD_at _ _ _ ha]

theorem ret_ib {a b : Int} {p q : Bool} (h : a = b) (h' : p = q) : Ending.returned (.tuple #[.int .i64 a, .bool p]) = .returned (.tuple #[.int .i64 b, .bool q]) := by rw [h, h']

end Go.Proofs.Ytjpjikfmdaejeab
