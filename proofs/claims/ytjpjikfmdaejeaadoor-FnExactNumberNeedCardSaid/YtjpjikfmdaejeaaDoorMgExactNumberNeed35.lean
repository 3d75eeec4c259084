/-
  THE COUNT OF A BODY's NODES THAT ARE NO VARIABLES, as (*reducer).call asks for it; nothing that was there is changed.
-/
import Derived.Test.YtjpjikfmdaejeaaDoorMgExactNumberNeed34
namespace Go.Proofs.YtjpjikfmdaejeaaDoor
set_option linter.unusedVariables false
set_option linter.unusedSimpArgs false
open Go.RowKit

set_option maxHeartbeats 400000 in
theorem want_noV (w0 : World) (vb : Nat) : cntCall.WantSaid w0 vb noV := by
  intro t c W hb hk
  obtain ⟨ad, cap, rfl, -, -, -⟩ := hk
  clear hb
  go_enter Tryd.func121, Tryd.ntmps121
  go_wp2_with fail
  go_ret
  exact ⟨rfl, box_below _ _⟩
/-- how many nodes of a body are no variables -/
theorem cntNoV_calls (a : Tr) (c : Value) (w : World) (hc : InP w a.kids c) (ha : I64 a.op ∧ I64 a.num) (hz : szT a ≤ 1099511627776) :
    Calls Tryd.prog 120 #[.agg #[.int .i64 a.op, .int .i64 a.num, c], .func (.func 121) #[] #[]] w fun e w' => e = .returned (.int .i64 (cntT noV a : Int)) ∧ Below w.heap.size w w' :=
  cntCall.implCount_calls 0 noV a c w (want_noV w 0) hc ha hz
end Go.Proofs.YtjpjikfmdaejeaaDoor
