/-
  THE LAWS' OWN MARKING OF ONE TREE (markExpr).
-/
import Derived.Test.YthknbafcnobgdaaMarkS
namespace Go.Proofs.Ythknbafcnobgdaa
set_option linter.unusedVariables false
set_option linter.unusedSimpArgs false
open Go.RowKit

set_option maxHeartbeats 400000 in
theorem mark_calls (ks : List Tr) (o n : Int) (fp : List Nat) (c : Value) (k : Int) (w : World) (hk : KidsFp w 37 ks fp c) (hn : fp.Nodup) (h0 : 0 ≤ k) (h1 : k + 2 * (szL ks : Int) ≤ 1152921504606846976) :
    Calls Try.prog 19 #[.agg #[.int .i64 o, .int .i64 n, c], .int .i64 k] w fun e w' => e = .returned (.int .i64 (k + 2 * (szL ks : Int))) ∧ KidsFp w' 37 (labL ks k) fp c ∧ ButL fp w w' := by
  have HK : Hid (KidsFp w 37 ks fp c) := hk
  clear hk
  go_enter Try.func19, Try.ntmps19
  go_wp2_with fail
  refine (markS_calls ks fp c k _ ?_ hn h0 h1).mono ?_
  · exact HK.out.keep fun b hb => (box_below w _).block b (HK.out.lt b hb)
  rintro e w1 ⟨rfl, hk1, hb⟩
  have hk1' : Hid (KidsFp w1 37 (labL ks k) fp c) := hk1
  have hb' : ButL fp w w1 := (ButL.of_below (box_below w _)).trans hb
  clear hb hk1
  go_wp2_with fail
  go_ret
  exact ⟨rfl, hk1'.out, hb'⟩
end Go.Proofs.Ythknbafcnobgdaa
