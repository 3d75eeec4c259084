/-
  THE PROGRAM's ExprValid (opOf, nodeOf, the four kinds' fits, nodesLeft, ExprValid): which trees it takes for valid; nothing that was there is changed.
-/
import Derived.Test.YtocnkjicmchbdaaPlain
import Derived.Test.YtocnkjicmchbdaaProg
import Derived.Deep.RegionWith
import Derived.Deep.DeepMust
import Derived.Deep.QuietTactic
import Derived.BigQuiet
namespace Go.Proofs.Ytocnkjicmchbdaa
set_option linter.unusedVariables false
set_option linter.unusedSimpArgs false
open Go.RowKit

/-- how nodes of a kind with operands are written -/
def opKids (op : Int) : Int := if op = 4 then 2 else if op = 5 then 2 else if op = 6 then 1 else if op = 7 then 1 else if op = 8 then 2 else if op = 9 then 2 else if op = 10 then 3 else 0
def opMarks (op : Int) : ByteArray := if op = 4 then ⟨#[40, 32, 41]⟩ else if op = 5 then ⟨#[60, 44, 62]⟩ else if op = 6 then ⟨#[126]⟩ else if op = 7 then ⟨#[94]⟩ else if op = 8 then ⟨#[40, 43, 41]⟩ else if op = 9 then ⟨#[40, 45, 41]⟩ else if op = 10 then ⟨#[91, 63, 58, 93]⟩ else ⟨#[]⟩
def opOk (op : Int) : Bool := decide (4 ≤ op ∧ op ≤ 10)

/-- opOf has handed back the row of a kind -/
def OpRow (op : Int) (w : World) (e : Ending) (w' : World) : Prop := e = .returned (.tuple #[.agg #[.int .i64 (opKids op), .string (opMarks op)], .bool (opOk op)]) ∧ Below w.heap.size w w'

theorem opRow_4 {op : Int} (h : (op == 4) = true) : opKids op = 2 ∧ opMarks op = ⟨#[40, 32, 41]⟩ ∧ opOk op = true := by
  have e : op = 4 := by simpa using h
  subst e
  exact ⟨rfl, rfl, rfl⟩
theorem opRow_5 {op : Int} (h : (op == 5) = true) : opKids op = 2 ∧ opMarks op = ⟨#[60, 44, 62]⟩ ∧ opOk op = true := by
  have e : op = 5 := by simpa using h
  subst e
  exact ⟨rfl, rfl, rfl⟩
theorem opRow_6 {op : Int} (h : (op == 6) = true) : opKids op = 1 ∧ opMarks op = ⟨#[126]⟩ ∧ opOk op = true := by
  have e : op = 6 := by simpa using h
  subst e
  exact ⟨rfl, rfl, rfl⟩
theorem opRow_7 {op : Int} (h : (op == 7) = true) : opKids op = 1 ∧ opMarks op = ⟨#[94]⟩ ∧ opOk op = true := by
  have e : op = 7 := by simpa using h
  subst e
  exact ⟨rfl, rfl, rfl⟩
theorem opRow_8 {op : Int} (h : (op == 8) = true) : opKids op = 2 ∧ opMarks op = ⟨#[40, 43, 41]⟩ ∧ opOk op = true := by
  have e : op = 8 := by simpa using h
  subst e
  exact ⟨rfl, rfl, rfl⟩
theorem opRow_9 {op : Int} (h : (op == 9) = true) : opKids op = 2 ∧ opMarks op = ⟨#[40, 45, 41]⟩ ∧ opOk op = true := by
  have e : op = 9 := by simpa using h
  subst e
  exact ⟨rfl, rfl, rfl⟩
theorem opRow_10 {op : Int} (h : (op == 10) = true) : opKids op = 3 ∧ opMarks op = ⟨#[91, 63, 58, 93]⟩ ∧ opOk op = true := by
  have e : op = 10 := by simpa using h
  subst e
  exact ⟨rfl, rfl, rfl⟩
theorem opRow_no {op : Int} (h4 : (op == 4) = false) (h5 : (op == 5) = false) (h6 : (op == 6) = false) (h7 : (op == 7) = false) (h8 : (op == 8) = false) (h9 : (op == 9) = false) (h10 : (op == 10) = false) : opKids op = 0 ∧ opMarks op = ⟨#[]⟩ ∧ opOk op = false := by
  simp only [beq_eq_false_iff_ne] at *
  refine ⟨?_, ?_, ?_⟩
  · unfold opKids; rw [if_neg h4, if_neg h5, if_neg h6, if_neg h7, if_neg h8, if_neg h9, if_neg h10]
  · unfold opMarks; rw [if_neg h4, if_neg h5, if_neg h6, if_neg h7, if_neg h8, if_neg h9, if_neg h10]
  · unfold opOk; rw [decide_eq_false]; omega

set_option maxHeartbeats 400000 in
theorem opOf_calls (op : Int) (w : World) : Calls Try.prog 131 #[.int .i64 op] w (OpRow op w) := by
  go_enter Try.func131, Try.ntmps131
  go_wp2_with fail
  all_goals first
    | (rename (op == 4) = true => ht; obtain ⟨e1, e2, e3⟩ := opRow_4 ht; refine bodyPost_ret (v := .tuple #[.agg #[.int .i64 2, .string ⟨#[40, 32, 41]⟩], .bool true]) (by simp [results, Try.results131, go_sem]) rfl ⟨by rw [e1, e2, e3], box_below _ _⟩)
    | (rename (op == 5) = true => ht; obtain ⟨e1, e2, e3⟩ := opRow_5 ht; refine bodyPost_ret (v := .tuple #[.agg #[.int .i64 2, .string ⟨#[60, 44, 62]⟩], .bool true]) (by simp [results, Try.results131, go_sem]) rfl ⟨by rw [e1, e2, e3], box_below _ _⟩)
    | (rename (op == 6) = true => ht; obtain ⟨e1, e2, e3⟩ := opRow_6 ht; refine bodyPost_ret (v := .tuple #[.agg #[.int .i64 1, .string ⟨#[126]⟩], .bool true]) (by simp [results, Try.results131, go_sem]) rfl ⟨by rw [e1, e2, e3], box_below _ _⟩)
    | (rename (op == 7) = true => ht; obtain ⟨e1, e2, e3⟩ := opRow_7 ht; refine bodyPost_ret (v := .tuple #[.agg #[.int .i64 1, .string ⟨#[94]⟩], .bool true]) (by simp [results, Try.results131, go_sem]) rfl ⟨by rw [e1, e2, e3], box_below _ _⟩)
    | (rename (op == 8) = true => ht; obtain ⟨e1, e2, e3⟩ := opRow_8 ht; refine bodyPost_ret (v := .tuple #[.agg #[.int .i64 2, .string ⟨#[40, 43, 41]⟩], .bool true]) (by simp [results, Try.results131, go_sem]) rfl ⟨by rw [e1, e2, e3], box_below _ _⟩)
    | (rename (op == 9) = true => ht; obtain ⟨e1, e2, e3⟩ := opRow_9 ht; refine bodyPost_ret (v := .tuple #[.agg #[.int .i64 2, .string ⟨#[40, 45, 41]⟩], .bool true]) (by simp [results, Try.results131, go_sem]) rfl ⟨by rw [e1, e2, e3], box_below _ _⟩)
    | (rename (op == 10) = true => ht; obtain ⟨e1, e2, e3⟩ := opRow_10 ht; refine bodyPost_ret (v := .tuple #[.agg #[.int .i64 3, .string ⟨#[91, 63, 58, 93]⟩], .bool true]) (by simp [results, Try.results131, go_sem]) rfl ⟨by rw [e1, e2, e3], box_below _ _⟩)
    | (rename (op == 4) = false => h4; rename (op == 5) = false => h5; rename (op == 6) = false => h6; rename (op == 7) = false => h7; rename (op == 8) = false => h8; rename (op == 9) = false => h9; rename (op == 10) = false => h10; obtain ⟨e1, e2, e3⟩ := opRow_no h4 h5 h6 h7 h8 h9 h10; refine bodyPost_ret (v := .tuple #[.agg #[.int .i64 0, .string ⟨#[]⟩], .bool false]) (by simp [results, Try.results131, go_sem]) rfl ⟨by rw [e1, e2, e3], box_below _ _⟩)

set_option maxHeartbeats 400000 in
theorem nodeOf_1 (n : Int) (len : Nat) (w : World) : Calls Try.prog 126 #[.int .i64 1, .int .i64 n, .int .i64 (len : Int)] w fun e w' => e = .returned (.tuple #[.iface 159 (.int .i64 n), .bool ((len : Int) == 0)]) ∧ Below w.heap.size w w' := by
  go_enter Try.func126, Try.ntmps126
  go_wp2_with fail
  go_ret2
  exact ⟨rfl, Below.refl _ _⟩

set_option maxHeartbeats 400000 in
theorem nodeOf_2 (n : Int) (len : Nat) (w : World) : Calls Try.prog 126 #[.int .i64 2, .int .i64 n, .int .i64 (len : Int)] w fun e w' => e = .returned (.tuple #[.iface 160 (.int .i64 n), .bool ((len : Int) == 0)]) ∧ Below w.heap.size w w' := by
  go_enter Try.func126, Try.ntmps126
  go_wp2_with fail
  go_ret2
  exact ⟨rfl, Below.refl _ _⟩

set_option maxHeartbeats 400000 in
theorem nodeOf_3 (n : Int) (len : Nat) (w : World) : Calls Try.prog 126 #[.int .i64 3, .int .i64 n, .int .i64 (len : Int)] w fun e w' => e = .returned (.tuple #[.iface 161 (.int .i64 n), .bool ((len : Int) == 0)]) ∧ Below w.heap.size w w' := by
  go_enter Try.func126, Try.ntmps126
  go_wp2_with fail
  go_ret2
  exact ⟨rfl, Below.refl _ _⟩

theorem ret_node {v : Value} {a b : Bool} (h : a = b) : Ending.returned (.tuple #[v, .bool a]) = .returned (.tuple #[v, .bool b]) := by rw [h]
/-- nodeOf has handed back a node with operands -/
def OpNode (op : Int) (b : Bool) (w : World) (e : Ending) (w' : World) : Prop := e = .returned (.tuple #[.iface 163 (.agg #[.int .i64 (opKids op), .string (opMarks op)]), .bool b]) ∧ Below w.heap.size w w'
theorem opKids_range (op : Int) : 0 ≤ opKids op ∧ opKids op ≤ 3 := by
  unfold opKids
  repeat' split
  all_goals omega

set_option maxHeartbeats 800000 in
theorem nodeOf_op (op n : Int) (len : Nat) (w : World) (t1 : (op == 1) = false) (t2 : (op == 2) = false) (t3 : (op == 3) = false) :
    Calls Try.prog 126 #[.int .i64 op, .int .i64 n, .int .i64 (len : Int)] w (OpNode op (opOk op && ((n == 0) && ((len : Int) == opKids op))) w) := by
  have hkr := opKids_range op
  go_enter Try.func126, Try.ntmps126
  go_wp2_with fail
  refine (opOf_calls op _).mono ?_
  rintro e w1 ⟨rfl, hb⟩
  have HB : Hid (Below w.heap.size w w1) := hb
  have hle : w.heap.size ≤ w1.heap.size := hb.size
  clear hb
  cases hok : opOk op with
  | false =>
    have HV : Hid ((opOk op && ((n == 0) && ((len : Int) == opKids op))) = false) := by simp [Hid, hok]
    go_wp2_with fail
    have k3 := cell_regrown (box_cell w1 #[.int .i64 (opKids op), .string (opMarks op)] 163 0 _ rfl)
    have k4 := cell_regrown (box_cell w1 #[.int .i64 (opKids op), .string (opMarks op)] 163 1 _ rfl)
    refine wp_region_quiet_below (by kernel_rfl) (by kernel_rfl) ?_
    repeat (any_goals (first | go_big_quiet_step (fail) | quiet_step (fail)))
    refine wpQuiet_nil ?_
    intro _ hw'
    obtain ⟨⟨dq, osq⟩, hw''⟩ := hw'
    subst hw''
    clear k3 k4
    go_wp2_with fail
    go_ret2
    exact ⟨ret_node HV.out.symm, HB.out.trans ((box_below _ _).trans ((below_regrown _ _ _).mono (by rw [Deep.nblk_alloc]; omega)) |>.mono hle)⟩
  | true =>
    by_cases hn : n = 0
    · subst hn
      by_cases hl : (len : Int) = opKids op
      · have hl' : ((len : Int) == opKids op) = true := by simpa using hl
        have HV : Hid ((opOk op && (((0 : Int) == 0) && ((len : Int) == opKids op))) = true) := by simp [Hid, hok, hl']
        clear hl
        go_wp2_with fail
        have k3 := cell_regrown (box_cell w1 #[.int .i64 (opKids op), .string (opMarks op)] 163 0 _ rfl)
        have k4 := cell_regrown (box_cell w1 #[.int .i64 (opKids op), .string (opMarks op)] 163 1 _ rfl)
        refine wp_region_quiet_below (by kernel_rfl) (by kernel_rfl) ?_
        repeat (any_goals (first | go_big_quiet_step (fail) | quiet_step (fail)))
        refine wpQuiet_nil ?_
        intro _ hw'
        obtain ⟨⟨dq, osq⟩, hw''⟩ := hw'
        subst hw''
        clear k3 k4
        go_wp2_with fail
        go_ret2
        exact ⟨ret_node HV.out.symm, HB.out.trans ((box_below _ _).trans ((below_regrown _ _ _).mono (by rw [Deep.nblk_alloc]; omega)) |>.mono hle)⟩
      · have hl' : ((len : Int) == opKids op) = false := by simpa using hl
        have HV : Hid ((opOk op && (((0 : Int) == 0) && ((len : Int) == opKids op))) = false) := by simp [Hid, hok, hl']
        clear hl
        go_wp2_with fail
        have k3 := cell_regrown (box_cell w1 #[.int .i64 (opKids op), .string (opMarks op)] 163 0 _ rfl)
        have k4 := cell_regrown (box_cell w1 #[.int .i64 (opKids op), .string (opMarks op)] 163 1 _ rfl)
        refine wp_region_quiet_below (by kernel_rfl) (by kernel_rfl) ?_
        repeat (any_goals (first | go_big_quiet_step (fail) | quiet_step (fail)))
        refine wpQuiet_nil ?_
        intro _ hw'
        obtain ⟨⟨dq, osq⟩, hw''⟩ := hw'
        subst hw''
        clear k3 k4
        go_wp2_with fail
        go_ret2
        exact ⟨ret_node HV.out.symm, HB.out.trans ((box_below _ _).trans ((below_regrown _ _ _).mono (by rw [Deep.nblk_alloc]; omega)) |>.mono hle)⟩
    · have hn' : (n == 0) = false := by simpa using hn
      have HV : Hid ((opOk op && ((n == 0) && ((len : Int) == opKids op))) = false) := by simp [Hid, hok, hn']
      go_wp2_with fail
      have k3 := cell_regrown (box_cell w1 #[.int .i64 (opKids op), .string (opMarks op)] 163 0 _ rfl)
      have k4 := cell_regrown (box_cell w1 #[.int .i64 (opKids op), .string (opMarks op)] 163 1 _ rfl)
      refine wp_region_quiet_below (by kernel_rfl) (by kernel_rfl) ?_
      repeat (any_goals (first | go_big_quiet_step (fail) | quiet_step (fail)))
      refine wpQuiet_nil ?_
      intro _ hw'
      obtain ⟨⟨dq, osq⟩, hw''⟩ := hw'
      subst hw''
      clear k3 k4
      go_wp2_with fail
      go_ret2
      exact ⟨ret_node HV.out.symm, HB.out.trans ((box_below _ _).trans ((below_regrown _ _ _).mono (by rw [Deep.nblk_alloc]; omega)) |>.mono hle)⟩
end Go.Proofs.Ytocnkjicmchbdaa
