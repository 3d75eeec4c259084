/-
  THE PROGRAM's SizeOf: how many nodes a tree has; nothing that was there is changed.
-/
import Derived.Test.YticoegjackgldaaCountAll
namespace Go.Proofs.Yticoegjackgldaa
set_option linter.unusedVariables false
set_option linter.unusedSimpArgs false
open Go.RowKit

set_option maxHeartbeats 400000 in
theorem want_all (w0 : World) (vb : Nat) : cntAll.WantSaid w0 vb (fun _ => true) := by
  intro t c W hb hk
  obtain ⟨ad, cap, rfl, -, -, -⟩ := hk
  clear hb
  go_enter Try.func65, Try.ntmps65
  go_wp2_with fail
  go_ret
  exact ⟨rfl, box_below _ _⟩

set_option maxHeartbeats 400000 in
theorem implSize_calls (a : Tr) (c : Value) (w : World) (hc : InP w a.kids c) (ha : I64 a.op ∧ I64 a.num) (hz : szT a ≤ 1099511627776) :
    Calls Try.prog 37 #[.agg #[.int .i64 a.op, .int .i64 a.num, c]] w fun e w' => e = .returned (.int .i64 (1 + (szT a : Int))) ∧ Below w.heap.size w w' := by
  have HC : Hid (InP w a.kids c) := hc
  obtain ⟨ad, cap, rfl, -, -, -⟩ := hc
  have HV : Hid (((cntT (fun _ => true) a : Nat) : Int) = 1 + (szT a : Int)) := by unfold Hid; rw [cntT_all]; push_cast; rfl
  go_enter Try.func37, Try.ntmps37
  go_wp2_with fail
  refine (cntAll.implCount_calls 0 (fun _ => true) a _ _ (want_all _ 0) (HC.out.nextP (box_below _ _)) ha hz).mono ?_
  rintro e w1 ⟨rfl, hb1⟩
  have HB1 : Hid (Below w.heap.size w w1) := (box_below w _).trans (hb1.mono (by rw [Deep.nblk_alloc]; omega))
  rw [HV.out]
  clear hb1
  go_wp2_with fail
  go_ret
  exact ⟨rfl, HB1.out⟩
end Go.Proofs.Yticoegjackgldaa
