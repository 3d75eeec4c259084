/-
  THE PROGRAM's hasNumber AND sizeOfKind.
-/
import Derived.Test.YtiipcgnkfhjpeaaWordT
import Derived.Test.YtiipcgnkfhjpeaaImplValid
namespace Go.Proofs.Ytiipcgnkfhjpeaa
set_option linter.unusedVariables false
set_option linter.unusedSimpArgs false
open Go.RowKit


theorem hasNumber_calls (op : Int) (w : World) : Calls Try.prog 39 #[.int .i64 op] w fun e w' => e = .returned (.bool (isNumOp op)) ∧ w = w' := by
  by_cases h2 : op = 2
  · subst h2
    go_enter Try.func39, Try.ntmps39
    go_wp2_with fail
    go_ret
    exact ⟨rfl, rfl⟩
  by_cases h3 : op = 3
  · subst h3
    go_enter Try.func39, Try.ntmps39
    go_wp2_with fail
    go_ret
    exact ⟨rfl, rfl⟩
  have hv : isNumOp op = false := by unfold isNumOp; simp; omega
  have h2' : (op == 2) = false := by simpa using h2
  have h3' : (op == 3) = false := by simpa using h3
  rw [hv]
  clear h2 h3 hv
  go_enter Try.func39, Try.ntmps39
  go_wp2_with fail
  go_ret
  exact ⟨rfl, rfl⟩

/-- what sizeOfKind answers as a size -/
def sizeV (op : Int) : Int := if wLen op = 0 then 1 else wLen op
theorem sizeV_ok {op : Int} (h : wLen op ≠ 0) : sizeV op = (wLen op : Int) := by unfold sizeV; rw [if_neg h]
def sizeOk (op : Int) : Bool := decide (wLen op ≠ 0)
theorem sizeV_op {op : Int} (h2 : op ≠ 2) (h3 : op ≠ 3) (h11 : op ≠ 11) : opOk op = sizeOk op ∧ 1 + opKids op = sizeV op := by
  unfold sizeOk opOk sizeV opKids wLen
  repeat' split
  all_goals (try omega)
  all_goals (refine ⟨?_, ?_⟩ <;> simp at * <;> omega)

set_option maxHeartbeats 400000 in
theorem sizeOfKind_calls (op : Int) (w : World) : Calls Try.prog 38 #[.int .i64 op] w fun e w' => e = .returned (.tuple #[.int .i64 (sizeV op), .bool (sizeOk op)]) ∧ Below w.heap.size w w' := by
  by_cases h2 : op = 2
  · subst h2
    go_enter Try.func38, Try.ntmps38
    go_wp2_with fail
    go_ret2
    exact ⟨rfl, Below.refl _ _⟩
  by_cases h3 : op = 3
  · subst h3
    go_enter Try.func38, Try.ntmps38
    go_wp2_with fail
    go_ret2
    exact ⟨rfl, Below.refl _ _⟩
  by_cases h11 : op = 11
  · subst h11
    go_enter Try.func38, Try.ntmps38
    go_wp2_with fail
    go_ret2
    exact ⟨rfl, Below.refl _ _⟩
  obtain ⟨e1, e2⟩ := sizeV_op h2 h3 h11
  have h2' : (op == 2) = false := by simpa using h2
  have h3' : (op == 3) = false := by simpa using h3
  have h11' : (op == 11) = false := by simpa using h11
  have HV := mkHid (And.intro e1 e2)
  have hkb : 0 ≤ opKids op ∧ opKids op ≤ 3 := by unfold opKids; repeat' split
                                                 all_goals omega
  clear h2 h3 h11 e1 e2
  go_enter Try.func38, Try.ntmps38
  go_wp2_with fail
  refine (opOf_calls op _).mono ?_
  rintro e w1 ⟨rfl, hb1⟩
  have HB1 := mkHid hb1
  obtain ⟨k, hk⟩ : ∃ k, k = opKids op := ⟨_, rfl⟩
  have HKE := mkHid hk
  rw [← hk] at hkb ⊢
  clear hb1 hk
  go_wp2_with fail
  refine bodyPost_ret (v := .tuple #[.int .i64 (1 + k), .bool (opOk op)]) (by simp [results, Try.results38, go_sem]) rfl ?_
  exact ⟨by rw [HV.out.1, HKE.out, HV.out.2], HB1.out.alloc HB1.out.size _⟩
end Go.Proofs.Ytiipcgnkfhjpeaa
