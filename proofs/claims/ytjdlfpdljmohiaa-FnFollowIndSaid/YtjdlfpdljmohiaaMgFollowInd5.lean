/-
  THE PROGRAM's ExprValid (opOf, nodeOf, the four kinds' fits, nodesLeft, ExprValid): which trees it takes for valid; nothing that was there is changed.
-/
import Derived.Test.YtjdlfpdljmohiaaMgFollowInd1
import Derived.Test.YtjdlfpdljmohiaaProg
import Derived.Deep.RegionWith
import Derived.Deep.DeepMust
import Derived.Deep.QuietTactic
import Derived.BigQuiet
import Derived.Test.YtjdlfpdljmohiaaMgFollowInd4
import Derived.Test.YtjdlfpdljmohiaaMgFollowInd3
namespace Go.Proofs.Ytjdlfpdljmohiaa
set_option linter.unusedVariables false
set_option linter.unusedSimpArgs false
open Go.RowKit

/-- how nodes of a kind with operands are written -/
def opKids (op : Int) : Int := if op = 4 then 2 else if op = 5 then 2 else if op = 6 then 1 else if op = 7 then 1 else if op = 8 then 2 else if op = 9 then 2 else if op = 10 then 3 else 0
def opMarks (op : Int) : ByteArray := if op = 4 then ⟨#[40, 32, 41]⟩ else if op = 5 then ⟨#[60, 44, 62]⟩ else if op = 6 then ⟨#[126]⟩ else if op = 7 then ⟨#[94]⟩ else if op = 8 then ⟨#[40, 43, 41]⟩ else if op = 9 then ⟨#[40, 45, 41]⟩ else if op = 10 then ⟨#[91, 63, 58, 93]⟩ else ⟨#[]⟩
def opOk (op : Int) : Bool := decide (4 ≤ op ∧ op ≤ 10)

/-- opOf has handed back the row of a kind -/
def OpRow (op : Int) (w : World) (e : Ending) (w' : World) : Prop := e = .returned (.tuple #[.agg #[.int .i64 (opKids op), .string (opMarks op)], .bool (opOk op)]) ∧ Below w.heap.size w w'

theorem opRow_4 {op : Int} (h : (op == 4) = true) : opKids op = 2 ∧ opMarks op = ⟨#[40, 32, 41]⟩ ∧ opOk op = true := by
  have e : op = 4 := by simpa using h
  subst e
  exact ⟨rfl, rfl, rfl⟩
theorem opRow_5 {op : Int} (h : (op == 5) = true) : opKids op = 2 ∧ opMarks op = ⟨#[60, 44, 62]⟩ ∧ opOk op = true := by
  have e : op = 5 := by simpa using h
  subst e
  exact ⟨rfl, rfl, rfl⟩
theorem opRow_6 {op : Int} (h : (op == 6) = true) : opKids op = 1 ∧ opMarks op = ⟨#[126]⟩ ∧ opOk op = true := by
  have e : op = 6 := by simpa using h
  subst e
  exact ⟨rfl, rfl, rfl⟩
theorem opRow_7 {op : Int} (h : (op == 7) = true) : opKids op = 1 ∧ opMarks op = ⟨#[94]⟩ ∧ opOk op = true := by
  have e : op = 7 := by simpa using h
  subst e
  exact ⟨rfl, rfl, rfl⟩
theorem opRow_8 {op : Int} (h : (op == 8) = true) : opKids op = 2 ∧ opMarks op = ⟨#[40, 43, 41]⟩ ∧ opOk op = true := by
  have e : op = 8 := by simpa using h
  subst e
  exact ⟨rfl, rfl, rfl⟩
theorem opRow_9 {op : Int} (h : (op == 9) = true) : opKids op = 2 ∧ opMarks op = ⟨#[40, 45, 41]⟩ ∧ opOk op = true := by
  have e : op = 9 := by simpa using h
  subst e
  exact ⟨rfl, rfl, rfl⟩
theorem opRow_10 {op : Int} (h : (op == 10) = true) : opKids op = 3 ∧ opMarks op = ⟨#[91, 63, 58, 93]⟩ ∧ opOk op = true := by
  have e : op = 10 := by simpa using h
  subst e
  exact ⟨rfl, rfl, rfl⟩
theorem opRow_no {op : Int} (h4 : (op == 4) = false) (h5 : (op == 5) = false) (h6 : (op == 6) = false) (h7 : (op == 7) = false) (h8 : (op == 8) = false) (h9 : (op == 9) = false) (h10 : (op == 10) = false) : opKids op = 0 ∧ opMarks op = ⟨#[]⟩ ∧ opOk op = false := by
  simp only [beq_eq_false_iff_ne] at *
  refine ⟨?_, ?_, ?_⟩
  · unfold opKids; rw [if_neg h4, if_neg h5, if_neg h6, if_neg h7, if_neg h8, if_neg h9, if_neg h10]
  · unfold opMarks; rw [if_neg h4, if_neg h5, if_neg h6, if_neg h7, if_neg h8, if_neg h9, if_neg h10]
  · unfold opOk; rw [decide_eq_false]; omega

set_option maxHeartbeats 400000 in
theorem opOf_calls (op : Int) (w : World) : Calls Try.prog 91 #[.int .i64 op] w (OpRow op w) := by
  go_enter Try.func91, Try.ntmps91
  go_wp2_with fail
  all_goals first
    | (rename (op == 4) = true => ht; obtain ⟨e1, e2, e3⟩ := opRow_4 ht; refine bodyPost_ret (v := .tuple #[.agg #[.int .i64 2, .string ⟨#[40, 32, 41]⟩], .bool true]) (by simp [results, Try.results91, go_sem]) rfl ⟨by rw [e1, e2, e3], box_below _ _⟩)
    | (rename (op == 5) = true => ht; obtain ⟨e1, e2, e3⟩ := opRow_5 ht; refine bodyPost_ret (v := .tuple #[.agg #[.int .i64 2, .string ⟨#[60, 44, 62]⟩], .bool true]) (by simp [results, Try.results91, go_sem]) rfl ⟨by rw [e1, e2, e3], box_below _ _⟩)
    | (rename (op == 6) = true => ht; obtain ⟨e1, e2, e3⟩ := opRow_6 ht; refine bodyPost_ret (v := .tuple #[.agg #[.int .i64 1, .string ⟨#[126]⟩], .bool true]) (by simp [results, Try.results91, go_sem]) rfl ⟨by rw [e1, e2, e3], box_below _ _⟩)
    | (rename (op == 7) = true => ht; obtain ⟨e1, e2, e3⟩ := opRow_7 ht; refine bodyPost_ret (v := .tuple #[.agg #[.int .i64 1, .string ⟨#[94]⟩], .bool true]) (by simp [results, Try.results91, go_sem]) rfl ⟨by rw [e1, e2, e3], box_below _ _⟩)
    | (rename (op == 8) = true => ht; obtain ⟨e1, e2, e3⟩ := opRow_8 ht; refine bodyPost_ret (v := .tuple #[.agg #[.int .i64 2, .string ⟨#[40, 43, 41]⟩], .bool true]) (by simp [results, Try.results91, go_sem]) rfl ⟨by rw [e1, e2, e3], box_below _ _⟩)
    | (rename (op == 9) = true => ht; obtain ⟨e1, e2, e3⟩ := opRow_9 ht; refine bodyPost_ret (v := .tuple #[.agg #[.int .i64 2, .string ⟨#[40, 45, 41]⟩], .bool true]) (by simp [results, Try.results91, go_sem]) rfl ⟨by rw [e1, e2, e3], box_below _ _⟩)
    | (rename (op == 10) = true => ht; obtain ⟨e1, e2, e3⟩ := opRow_10 ht; refine bodyPost_ret (v := .tuple #[.agg #[.int .i64 3, .string ⟨#[91, 63, 58, 93]⟩], .bool true]) (by simp [results, Try.results91, go_sem]) rfl ⟨by rw [e1, e2, e3], box_below _ _⟩)
    | (rename (op == 4) = false => h4; rename (op == 5) = false => h5; rename (op == 6) = false => h6; rename (op == 7) = false => h7; rename (op == 8) = false => h8; rename (op == 9) = false => h9; rename (op == 10) = false => h10; obtain ⟨e1, e2, e3⟩ := opRow_no h4 h5 h6 h7 h8 h9 h10; refine bodyPost_ret (v := .tuple #[.agg #[.int .i64 0, .string ⟨#[]⟩], .bool false]) (by simp [results, Try.results91, go_sem]) rfl ⟨by rw [e1, e2, e3], box_below _ _⟩)

set_option maxHeartbeats 400000 in
theorem nodeOf_1 (n : Int) (len : Nat) (w : World) : Calls Try.prog 79 #[.int .i64 1, .int .i64 n, .int .i64 (len : Int)] w fun e w' => e = .returned (.tuple #[.iface 119 (.int .i64 n), .bool ((len : Int) == 0)]) ∧ Below w.heap.size w w' := by
  go_enter Try.func79, Try.ntmps79
  go_wp2_with fail
  go_ret2
  exact ⟨rfl, Below.refl _ _⟩

set_option maxHeartbeats 400000 in
theorem nodeOf_2 (n : Int) (len : Nat) (w : World) : Calls Try.prog 79 #[.int .i64 2, .int .i64 n, .int .i64 (len : Int)] w fun e w' => e = .returned (.tuple #[.iface 120 (.int .i64 n), .bool ((len : Int) == 0)]) ∧ Below w.heap.size w w' := by
  go_enter Try.func79, Try.ntmps79
  go_wp2_with fail
  go_ret2
  exact ⟨rfl, Below.refl _ _⟩

set_option maxHeartbeats 400000 in
theorem nodeOf_3 (n : Int) (len : Nat) (w : World) : Calls Try.prog 79 #[.int .i64 3, .int .i64 n, .int .i64 (len : Int)] w fun e w' => e = .returned (.tuple #[.iface 121 (.int .i64 n), .bool ((len : Int) == 0)]) ∧ Below w.heap.size w w' := by
  go_enter Try.func79, Try.ntmps79
  go_wp2_with fail
  go_ret2
  exact ⟨rfl, Below.refl _ _⟩

theorem ret_node {v : Value} {a b : Bool} (h : a = b) : Ending.returned (.tuple #[v, .bool a]) = .returned (.tuple #[v, .bool b]) := by rw [h]
/-- nodeOf has handed back a node with operands -/
def OpNode (op : Int) (b : Bool) (w : World) (e : Ending) (w' : World) : Prop := e = .returned (.tuple #[.iface 123 (.agg #[.int .i64 (opKids op), .string (opMarks op)]), .bool b]) ∧ Below w.heap.size w w'
theorem opKids_range (op : Int) : 0 ≤ opKids op ∧ opKids op ≤ 3 := by
  unfold opKids
  repeat' split
  all_goals omega

set_option maxHeartbeats 800000 in
theorem nodeOf_op (op n : Int) (len : Nat) (w : World) (t1 : (op == 1) = false) (t2 : (op == 2) = false) (t3 : (op == 3) = false) :
    Calls Try.prog 79 #[.int .i64 op, .int .i64 n, .int .i64 (len : Int)] w (OpNode op (opOk op && ((n == 0) && ((len : Int) == opKids op))) w) := by
  have hkr := opKids_range op
  go_enter Try.func79, Try.ntmps79
  go_wp2_with fail
  refine (opOf_calls op _).mono ?_
  rintro e w1 ⟨rfl, hb⟩
  have HB : Hid (Below w.heap.size w w1) := hb
  have hle : w.heap.size ≤ w1.heap.size := hb.size
  clear hb
  cases hok : opOk op with
  | false =>
    have HV : Hid ((opOk op && ((n == 0) && ((len : Int) == opKids op))) = false) := by simp [Hid, hok]
    go_wp2_with fail
    have k3 := cell_regrown (box_cell w1 #[.int .i64 (opKids op), .string (opMarks op)] 123 0 _ rfl)
    have k4 := cell_regrown (box_cell w1 #[.int .i64 (opKids op), .string (opMarks op)] 123 1 _ rfl)
    refine wp_region_quiet_below (by kernel_rfl) (by kernel_rfl) ?_
    repeat (any_goals (first | go_big_quiet_step (fail) | quiet_step (fail)))
    refine wpQuiet_nil ?_
    intro _ hw'
    obtain ⟨⟨dq, osq⟩, hw''⟩ := hw'
    subst hw''
    clear k3 k4
    go_wp2_with fail
    go_ret2
    exact ⟨ret_node HV.out.symm, HB.out.trans ((box_below _ _).trans ((below_regrown _ _ _).mono (by rw [Deep.nblk_alloc]; omega)) |>.mono hle)⟩
  | true =>
    by_cases hn : n = 0
    · subst hn
      by_cases hl : (len : Int) = opKids op
      · have hl' : ((len : Int) == opKids op) = true := by simpa using hl
        have HV : Hid ((opOk op && (((0 : Int) == 0) && ((len : Int) == opKids op))) = true) := by simp [Hid, hok, hl']
        clear hl
        go_wp2_with fail
        have k3 := cell_regrown (box_cell w1 #[.int .i64 (opKids op), .string (opMarks op)] 123 0 _ rfl)
        have k4 := cell_regrown (box_cell w1 #[.int .i64 (opKids op), .string (opMarks op)] 123 1 _ rfl)
        refine wp_region_quiet_below (by kernel_rfl) (by kernel_rfl) ?_
        repeat (any_goals (first | go_big_quiet_step (fail) | quiet_step (fail)))
        refine wpQuiet_nil ?_
        intro _ hw'
        obtain ⟨⟨dq, osq⟩, hw''⟩ := hw'
        subst hw''
        clear k3 k4
        go_wp2_with fail
        go_ret2
        exact ⟨ret_node HV.out.symm, HB.out.trans ((box_below _ _).trans ((below_regrown _ _ _).mono (by rw [Deep.nblk_alloc]; omega)) |>.mono hle)⟩
      · have hl' : ((len : Int) == opKids op) = false := by simpa using hl
        have HV : Hid ((opOk op && (((0 : Int) == 0) && ((len : Int) == opKids op))) = false) := by simp [Hid, hok, hl']
        clear hl
        go_wp2_with fail
        have k3 := cell_regrown (box_cell w1 #[.int .i64 (opKids op), .string (opMarks op)] 123 0 _ rfl)
        have k4 := cell_regrown (box_cell w1 #[.int .i64 (opKids op), .string (opMarks op)] 123 1 _ rfl)
        refine wp_region_quiet_below (by kernel_rfl) (by kernel_rfl) ?_
        repeat (any_goals (first | go_big_quiet_step (fail) | quiet_step (fail)))
        refine wpQuiet_nil ?_
        intro _ hw'
        obtain ⟨⟨dq, osq⟩, hw''⟩ := hw'
        subst hw''
        clear k3 k4
        go_wp2_with fail
        go_ret2
        exact ⟨ret_node HV.out.symm, HB.out.trans ((box_below _ _).trans ((below_regrown _ _ _).mono (by rw [Deep.nblk_alloc]; omega)) |>.mono hle)⟩
    · have hn' : (n == 0) = false := by simpa using hn
      have HV : Hid ((opOk op && ((n == 0) && ((len : Int) == opKids op))) = false) := by simp [Hid, hok, hn']
      go_wp2_with fail
      have k3 := cell_regrown (box_cell w1 #[.int .i64 (opKids op), .string (opMarks op)] 123 0 _ rfl)
      have k4 := cell_regrown (box_cell w1 #[.int .i64 (opKids op), .string (opMarks op)] 123 1 _ rfl)
      refine wp_region_quiet_below (by kernel_rfl) (by kernel_rfl) ?_
      repeat (any_goals (first | go_big_quiet_step (fail) | quiet_step (fail)))
      refine wpQuiet_nil ?_
      intro _ hw'
      obtain ⟨⟨dq, osq⟩, hw''⟩ := hw'
      subst hw''
      clear k3 k4
      go_wp2_with fail
      go_ret2
      exact ⟨ret_node HV.out.symm, HB.out.trans ((box_below _ _).trans ((below_regrown _ _ _).mono (by rw [Deep.nblk_alloc]; omega)) |>.mono hle)⟩
end Go.Proofs.Ytjdlfpdljmohiaa
/-
  A NODE OF THE PROGRAM: nodeOf's answer, the method fits that it leads to, and that one's answer.
-/
namespace Go.Proofs.Ytjdlfpdljmohiaa
set_option linter.unusedVariables false
set_option linter.unusedSimpArgs false
open Go.RowKit

/-- is a node right at its top? -/
def topC (op num : Int) (n : Nat) (vars defs : Int) : Bool := decide ((n : Int) = arity op) && ownB op num vars defs
/-- what is known of the node at a tree's top: nodeOf's answer, the method that it leads to, and that one's answer -/
structure NodeAt (vars defs op num : Int) (n : Nat) (T : TypeId) (x : Value) (K : FuncId) (ok fit : Bool) : Prop where
  node : ∀ (w : World), Calls Try.prog 79 #[.int .i64 op, .int .i64 num, .int .i64 (n : Int)] w fun e w' => e = .returned (.tuple #[.iface T x, .bool ok]) ∧ Below w.heap.size w w'
  meth : ∀ w : World, (method 268 T x "loop.example/graphreducer/impl.fits").run Try.prog w = .ok (K, x) w
  enters : ∀ (args : Array Value) (w : World), (callFunc K args).run Try.prog w = .ok (.enter K args) w
  fits : ok = true → ∀ w : World, Calls Try.prog K #[x, .int .i64 vars, .int .i64 defs] w fun e w' => e = .returned (.bool fit) ∧ Below w.heap.size w w'
  top : (ok && fit) = topC op num n vars defs

set_option maxHeartbeats 400000 in
theorem fits_1 (n vars defs : Int) (w : World) : Calls Try.prog 127 #[.int .i64 n, .int .i64 vars, .int .i64 defs] w fun e w' => e = .returned (.bool (ownB 1 n vars defs)) ∧ Below w.heap.size w w' := by
  by_cases h0 : 0 ≤ n
  · go_enter Try.func127, Try.ntmps127
    go_wp2_with fail
    go_ret
    exact ⟨ret_bool (by simp [ownB, h0]), Below.refl _ _⟩
  · have h1 : decide (0 ≤ n) = false := by simpa using h0
    go_enter Try.func127, Try.ntmps127
    go_wp2_with fail
    go_ret
    exact ⟨ret_bool (by simp [ownB]; omega), Below.refl _ _⟩
theorem meth_1 (n : Int) (w : World) : (method 268 119 (.int .i64 n) "loop.example/graphreducer/impl.fits").run Try.prog w = .ok (127, .int .i64 n) w := by kernel_rfl
theorem enters_1 (args : Array Value) (w : World) : (callFunc 127 args).run Try.prog w = .ok (.enter 127 args) w := by kernel_rfl
theorem nodeAt_1 (vars defs op num : Int) (n : Nat) (h : op = 1) : NodeAt vars defs op num n 119 (.int .i64 num) 127 ((n : Int) == 0) (ownB op num vars defs) where
  node w := by rw [h]; exact nodeOf_1 num n w
  meth w := meth_1 _ w
  enters := enters_1
  fits _ w := by rw [h]; exact fits_1 _ _ _ w
  top := by unfold topC; rw [h, show arity 1 = 0 from rfl]; rfl

set_option maxHeartbeats 400000 in
theorem fits_2 (n vars defs : Int) (w : World) : Calls Try.prog 129 #[.int .i64 n, .int .i64 vars, .int .i64 defs] w fun e w' => e = .returned (.bool (ownB 2 n vars defs)) ∧ Below w.heap.size w w' := by
  by_cases h0 : 0 ≤ n
  · go_enter Try.func129, Try.ntmps129
    go_wp2_with fail
    go_ret
    exact ⟨ret_bool (by simp [ownB, h0]), Below.refl _ _⟩
  · have h1 : decide (0 ≤ n) = false := by simpa using h0
    go_enter Try.func129, Try.ntmps129
    go_wp2_with fail
    go_ret
    exact ⟨ret_bool (by simp [ownB]; omega), Below.refl _ _⟩
theorem meth_2 (n : Int) (w : World) : (method 268 120 (.int .i64 n) "loop.example/graphreducer/impl.fits").run Try.prog w = .ok (129, .int .i64 n) w := by kernel_rfl
theorem enters_2 (args : Array Value) (w : World) : (callFunc 129 args).run Try.prog w = .ok (.enter 129 args) w := by kernel_rfl
theorem nodeAt_2 (vars defs op num : Int) (n : Nat) (h : op = 2) : NodeAt vars defs op num n 120 (.int .i64 num) 129 ((n : Int) == 0) (ownB op num vars defs) where
  node w := by rw [h]; exact nodeOf_2 num n w
  meth w := meth_2 _ w
  enters := enters_2
  fits _ w := by rw [h]; exact fits_2 _ _ _ w
  top := by unfold topC; rw [h, show arity 2 = 0 from rfl]; rfl

set_option maxHeartbeats 400000 in
theorem fits_3 (n vars defs : Int) (w : World) : Calls Try.prog 131 #[.int .i64 n, .int .i64 vars, .int .i64 defs] w fun e w' => e = .returned (.bool (ownB 3 n vars defs)) ∧ Below w.heap.size w w' := by
  by_cases h0 : 0 ≤ n
  · go_enter Try.func131, Try.ntmps131
    go_wp2_with fail
    go_ret
    exact ⟨ret_bool (by simp [ownB, h0]), Below.refl _ _⟩
  · have h1 : decide (0 ≤ n) = false := by simpa using h0
    go_enter Try.func131, Try.ntmps131
    go_wp2_with fail
    go_ret
    exact ⟨ret_bool (by simp [ownB]; omega), Below.refl _ _⟩
theorem meth_3 (n : Int) (w : World) : (method 268 121 (.int .i64 n) "loop.example/graphreducer/impl.fits").run Try.prog w = .ok (131, .int .i64 n) w := by kernel_rfl
theorem enters_3 (args : Array Value) (w : World) : (callFunc 131 args).run Try.prog w = .ok (.enter 131 args) w := by kernel_rfl
theorem nodeAt_3 (vars defs op num : Int) (n : Nat) (h : op = 3) : NodeAt vars defs op num n 121 (.int .i64 num) 131 ((n : Int) == 0) (ownB op num vars defs) where
  node w := by rw [h]; exact nodeOf_3 num n w
  meth w := meth_3 _ w
  enters := enters_3
  fits _ w := by rw [h]; exact fits_3 _ _ _ w
  top := by unfold topC; rw [h, show arity 3 = 0 from rfl]; rfl

set_option maxHeartbeats 400000 in
theorem fits_o (k : Int) (m : ByteArray) (vars defs : Int) (w : World) : Calls Try.prog 133 #[.agg #[.int .i64 k, .string m], .int .i64 vars, .int .i64 defs] w fun e w' => e = .returned (.bool true) ∧ Below w.heap.size w w' := by
  go_enter Try.func133, Try.ntmps133
  go_wp2_with fail
  go_ret
  exact ⟨rfl, box_below _ _⟩
theorem meth_o (k : Int) (m : ByteArray) (w : World) : (method 268 123 (.agg #[.int .i64 k, .string m]) "loop.example/graphreducer/impl.fits").run Try.prog w = .ok (133, .agg #[.int .i64 k, .string m]) w := by kernel_rfl
theorem enters_o (args : Array Value) (w : World) : (callFunc 133 args).run Try.prog w = .ok (.enter 133 args) w := by kernel_rfl
theorem nodeAt_o (vars defs op num : Int) (n : Nat) (h1 : op ≠ 1) (h2 : op ≠ 2) (h3 : op ≠ 3) : NodeAt vars defs op num n 123 (.agg #[.int .i64 (opKids op), .string (opMarks op)]) 133 (opOk op && ((num == 0) && ((n : Int) == opKids op))) true where
  node w := nodeOf_op op num n w (by simpa using h1) (by simpa using h2) (by simpa using h3)
  meth w := meth_o _ _ w
  enters := enters_o
  fits _ w := fits_o _ _ _ _ w
  top := by
    unfold topC ownB
    rw [if_neg h1, if_neg h2, if_neg h3, Bool.and_true]
    by_cases hr : 4 ≤ op ∧ op ≤ 10
    · have e : opKids op = arity op := by
        have : op = 4 ∨ op = 5 ∨ op = 6 ∨ op = 7 ∨ op = 8 ∨ op = 9 ∨ op = 10 := by omega
        rcases this with h | h | h | h | h | h | h <;> rw [h] <;> rfl
      have e2 : opOk op = true := by unfold opOk; rw [decide_eq_true hr]
      rw [e, e2, Bool.true_and, Bool.and_comm]
      rfl
    · have e2 : opOk op = false := by unfold opOk; rw [decide_eq_false hr]
      have e3 : arity op = -1 := by
        unfold arity
        rw [if_neg (by omega), if_neg (by omega), if_neg (by omega), if_neg (by omega)]
      rw [e2, e3, Bool.false_and, decide_eq_false (by omega), Bool.false_and]
end Go.Proofs.Ytjdlfpdljmohiaa
/-
  THE PROGRAM's nodesLeft AND ExprValid: which trees they take for valid; nothing that was there is changed.
-/
namespace Go.Proofs.Ytjdlfpdljmohiaa
set_option linter.unusedVariables false
set_option linter.unusedSimpArgs false
open Go.RowKit

end Go.Proofs.Ytjdlfpdljmohiaa
/-
  THE MODEL's AND THE PROGRAM's ProgramValid: which programs they take for valid; nothing that was there is changed.
-/
namespace Go.Proofs.Ytjdlfpdljmohiaa
set_option linter.unusedVariables false
set_option linter.unusedSimpArgs false
open Go.RowKit

/-- a valid program -/
def progB (ds : List Df) : Bool := decide (ds.length ≤ 6) && ds.all fun d => validB d.2 d.1 ds.length

theorem progB_long (ds : List Df) (h : 6 < ds.length) : progB ds = false := by unfold progB; rw [decide_eq_false (by omega), Bool.false_and]
theorem progB_bad (ds : List Df) (k : Nat) (hk : k < ds.length) (h : validB ds[k].2 ds[k].1 ds.length = false) : progB ds = false := by
  unfold progB
  rw [Bool.and_eq_false_iff]
  right
  rw [List.all_eq_false]
  exact ⟨ds[k], List.getElem_mem hk, by simp [h]⟩
theorem progB_end (ds : List Df) (h : ds.length ≤ 6) (ha : (ds.take ds.length).all (fun d => validB d.2 d.1 ds.length) = true) : progB ds = true := by
  rw [List.take_length] at ha
  unfold progB
  rw [ha, decide_eq_true h]; rfl
theorem all_take_succ' {α : Type} (p : α → Bool) (l : List α) (i : Nat) (h : i < l.length) : (l.take (i + 1)).all p = ((l.take i).all p && p l[i]) := by
  rw [List.take_succ_eq_append_getElem h, List.all_append]; simp
theorem validB_is (t : Tr) (v d : Int) (h : 0 ≤ v ∧ v ≤ 4 ∧ 0 ≤ d ∧ d ≤ 6) : validB t v d = isB t v d := by
  simp only [validB, isB]
  rw [decide_eq_true h, Bool.true_and]
  congr 1
  rw [decide_eq_decide]
  omega
theorem validB_no (t : Tr) (v d : Int) (h : ¬ (0 ≤ v ∧ v ≤ 4 ∧ 0 ≤ d ∧ d ≤ 6)) : validB t v d = false := by
  simp only [validB]; rw [decide_eq_false h, Bool.false_and]

theorem is_val (b : Bool) (t : Tr) (vars defs : Int) (c : Value) (W : World) (hk : In W t.kids c) (h : isB t vars defs = b) : Calls Try.prog 88 #[.agg #[.int .i64 t.op, .int .i64 t.num, c], .int .i64 vars, .int .i64 defs] W fun e w' => e = .returned (.bool b) ∧ Below W.heap.size W w' := by
  have := l1Is_calls t vars defs c W hk; rwa [h] at this

theorem is_quiet (b : Bool) (t : Tr) (vars defs : Int) (c : Value) (wr : World) (hk : In wr t.kids c) (h : isB t vars defs = b) (dq : Nat) (osq : Array Obj) :
    Calls Try.prog 88 #[.agg #[.int .i64 t.op, .int .i64 t.num, c], .int .i64 vars, .int .i64 defs] (Sort.grow (redrawn wr dq) osq) fun e w'' => e = .returned (.bool b) ∧ ∃ p : Regrown, w'' = Sort.grow (redrawn wr p.d) p.os :=
  quietB (fun W hW => is_val b t vars defs c W (hk.next hW) h) dq osq

set_option maxRecDepth 100000 in
set_option maxHeartbeats 800000 in
theorem specProg_calls (ds : List Df) (c : Value) (w : World) (hk : DIn w ds c) : Calls Try.prog 99 #[c] w fun e w' => e = .returned (.bool (progB ds)) ∧ Below w.heap.size w w' := by
  have HK : Hid (DIn w ds c) := hk
  obtain ⟨ad, cap, rfl, hl, hm, -⟩ := hk
  unfold maxLen at hm
  go_enter Try.func99, Try.ntmps99
  go_wp2_with fail
  go_loopw [3] (fun i wr => ∃ k : Nat, k ≤ ds.length ∧ i = .int .i64 k ∧ (ds.take k).all (fun d => validB d.2 d.1 ds.length || decide (6 < ds.length)) = true ∧ Below w.heap.size w wr) (fun i _ => ds.length - (intOf i).toNat)
  case atStart => exact ⟨0, Nat.zero_le _, rfl, by simp, Below.refl _ _⟩
  case round =>
    obtain ⟨k, hk, rfl, hall, hb⟩ := hrel
    have HA : Hid ((ds.take k).all (fun d => validB d.2 d.1 ds.length || decide (6 < ds.length)) = true) := hall
    have HBW : Hid (Below w.heap.size w wr) := hb
    clear hall
    by_cases hlt : k < ds.length
    · by_cases h6 : (k : Int) ≤ 6
      · obtain ⟨bl, off, r, rfl, c0, c1, c2, c3, -, -, -, hkk⟩ := (HK.out.next hb).at k hlt
        have HKK : Hid (In wr ds[k].2.kids r) := hkk
        clear hkk hb
        have k0 := cell_regrown c0
        have k1 := cell_regrown c1
        have k2 := cell_regrown c2
        have k3 := cell_regrown c3
        by_cases ha0 : ds[k].1 < 0
        · have hd0 : decide (ds[k].1 < 0) = true := by simpa using ha0
          have HV : Hid (progB ds = false) := progB_bad ds k hlt (validB_no _ _ _ (by omega))
          go_wp2_with fail
          refine wp_region_quiet_below (by kernel_rfl) (by kernel_rfl) ?_
          repeat (any_goals (first | go_big_quiet_step (fail) | quiet_step (fail)))
          refine wpQuiet_nil ?_
          intro _ hw'
          obtain ⟨⟨dq, osq⟩, hw''⟩ := hw'
          subst hw''
          clear k0 k1 k2 k3
          go_wp2_with fail
          go_ret
          exact ⟨ret_bool HV.out.symm, HBW.out.trans ((below_regrown _ _ _).mono HBW.out.size)⟩
        · have hd0 : decide (ds[k].1 < 0) = false := by simpa using ha0
          by_cases ha4 : 4 < ds[k].1
          · have hd4 : decide (4 < ds[k].1) = true := by simpa using ha4
            have HV : Hid (progB ds = false) := progB_bad ds k hlt (validB_no _ _ _ (by omega))
            go_wp2_with fail
            refine wp_region_quiet_below (by kernel_rfl) (by kernel_rfl) ?_
            repeat (any_goals (first | go_big_quiet_step (fail) | quiet_step (fail)))
            refine wpQuiet_nil ?_
            intro _ hw'
            obtain ⟨⟨dq, osq⟩, hw''⟩ := hw'
            subst hw''
            clear k0 k1 k2 k3
            go_wp2_with fail
            go_ret
            exact ⟨ret_bool HV.out.symm, HBW.out.trans ((below_regrown _ _ _).mono HBW.out.size)⟩
          · have hd4 : decide (4 < ds[k].1) = false := by simpa using ha4
            cases hib : isB ds[k].2 ds[k].1 ds.length with
            | false =>
              have HC : Hid (∀ (dq : Nat) (osq : Array Obj), Calls Try.prog 88 #[.agg #[.int .i64 ds[k].2.op, .int .i64 ds[k].2.num, r], .int .i64 ds[k].1, .int .i64 (ds.length : Int)] (Sort.grow (redrawn wr dq) osq) fun e w'' => e = .returned (.bool false) ∧ ∃ p : Regrown, w'' = Sort.grow (redrawn wr p.d) p.os) :=
                fun dq osq => is_quiet false ds[k].2 ds[k].1 ds.length r wr HKK.out hib dq osq
              have HV : Hid (progB ds = false) := by
                by_cases hl6 : 6 < ds.length
                · exact progB_long ds hl6
                · exact progB_bad ds k hlt (by rw [validB_is _ _ _ (by omega)]; exact hib)
              go_wp2_with fail
              refine wp_region_quiet_below (by kernel_rfl) (by kernel_rfl) ?_
              repeat (any_goals (first | go_big_quiet_step ((go_at_call 88; go_must (exact HC.out _ _))) | quiet_step ((go_at_call 88; go_must (exact HC.out _ _)))))
              refine wpQuiet_nil ?_
              intro _ hw'
              obtain ⟨⟨dq, osq⟩, hw''⟩ := hw'
              subst hw''
              clear k0 k1 k2 k3
              go_wp2_with fail
              go_ret
              exact ⟨ret_bool HV.out.symm, HBW.out.trans ((below_regrown _ _ _).mono HBW.out.size)⟩
            | true =>
              have HC : Hid (∀ (dq : Nat) (osq : Array Obj), Calls Try.prog 88 #[.agg #[.int .i64 ds[k].2.op, .int .i64 ds[k].2.num, r], .int .i64 ds[k].1, .int .i64 (ds.length : Int)] (Sort.grow (redrawn wr dq) osq) fun e w'' => e = .returned (.bool true) ∧ ∃ p : Regrown, w'' = Sort.grow (redrawn wr p.d) p.os) :=
                fun dq osq => is_quiet true ds[k].2 ds[k].1 ds.length r wr HKK.out hib dq osq
              have HV : Hid ((ds.take (k + 1)).all (fun d => validB d.2 d.1 ds.length || decide (6 < ds.length)) = true) := by
                rw [Hid, all_take_succ' _ _ _ hlt, HA.out, Bool.true_and]
                by_cases hl6 : 6 < ds.length
                · simp [hl6]
                · rw [validB_is _ _ _ (by omega), hib, Bool.true_or]
              go_wp2_with fail
              refine wp_region_quiet_below (by kernel_rfl) (by kernel_rfl) ?_
              repeat (any_goals (first | go_big_quiet_step ((go_at_call 88; go_must (exact HC.out _ _))) | quiet_step ((go_at_call 88; go_must (exact HC.out _ _)))))
              refine wpQuiet_nil ?_
              intro _ hw'
              obtain ⟨⟨dq, osq⟩, hw''⟩ := hw'
              subst hw''
              clear k0 k1 k2 k3
              have HB2 : Hid (Below w.heap.size w (Sort.grow (redrawn wr dq) osq)) := HBW.out.trans ((below_regrown _ _ _).mono HBW.out.size)
              clear hib
              go_wp2_with fail
              go_roundw
              case rel => exact ⟨k + 1, by omega, by go_num, HV.out, HB2.out⟩
              case measure => simp [intOf]; omega
      · have HV : Hid (progB ds = decide (ds.length ≤ 6)) := by
          rw [Hid, progB_long ds (by omega), decide_eq_false (by omega)]
        have hd6 : decide ((k : Int) ≤ 6) = false := by simpa using h6
        clear hb
        go_wp2_with fail
        go_ret
        exact ⟨ret_bool (by rw [HV.out, decide_eq_decide]; omega), HBW.out⟩
    · have HV : Hid (progB ds = decide (ds.length ≤ 6)) := by
        have hke : ds.length = k := by omega
        by_cases hl6 : 6 < ds.length
        · rw [Hid, progB_long ds hl6, decide_eq_false (by omega)]
        · rw [Hid, progB_end ds (by omega) _, decide_eq_true (by omega)]
          have h2 := HA.out
          rw [← hke] at h2
          simpa [hl6] using h2
      clear hb
      go_wp2_with fail
      go_ret
      exact ⟨ret_bool (by rw [HV.out, decide_eq_decide]; omega), HBW.out⟩

end Go.Proofs.Ytjdlfpdljmohiaa
/-
  THE MODEL's l1Program.
-/
namespace Go.Proofs.Ytjdlfpdljmohiaa
set_option linter.unusedVariables false
set_option linter.unusedSimpArgs false
open Go.RowKit

/-- a program's text, from a place on -/
def progT : Nat → List Df → List UInt8
  | _, [] => []
  | i, d :: ds => [byt (65 + i)] ++ decT d.1.toNat ++ [61] ++ textT d.2 ++ [10] ++ progT (i + 1) ds
def decB (n : Nat) : ByteArray := ⟨(decT n).toArray⟩
theorem app_mk (a b : List UInt8) : (⟨a.toArray⟩ : ByteArray) ++ ⟨b.toArray⟩ = ⟨(a ++ b).toArray⟩ := by rw [ByteArray.mk_append_mk]; first | done | simp

set_option maxRecDepth 100000 in
set_option maxHeartbeats 3200000 in
theorem l1Program_calls (ds : List Df) (v : Value) (w : World) (hk : DIn w ds v) (hp : progB ds = true) :
    Calls Try.prog 100 #[v] w fun e w' => e = .returned (.string ⟨(progT 0 ds).toArray⟩) ∧ Below w.heap.size w w' := by
  have hp6 : ds.length ≤ 6 := by by_cases h : ds.length ≤ 6; exact h; rw [progB_long ds (by omega)] at hp; exact absurd hp (by decide)
  have HVD : Hid (∀ d ∈ ds, validB d.2 d.1 ds.length = true) := by
    unfold progB at hp
    rw [Bool.and_eq_true, List.all_eq_true] at hp
    exact hp.2
  have HK := mkHid hk
  obtain ⟨ad, cap, rfl, hlc, hcm, -⟩ := id hk
  unfold maxLen at hcm
  obtain ⟨r, hr⟩ : ∃ r, r = progT 0 ds := ⟨_, rfl⟩
  rw [← hr]
  have HR := mkHid hr
  obtain ⟨n, hn⟩ : ∃ n, n = ds.length := ⟨_, rfl⟩
  have HN := mkHid hn
  rw [← hn] at HK hlc hp6 HVD ⊢
  clear hk hr hp hn
  go_enter Try.func100, Try.ntmps100
  go_wp2_with fail
  go_loopw [3, 4] (fun sv iv wr => ∃ (i : Nat) (S : ByteArray) (L : List UInt8), i ≤ n ∧ sv = .string S ∧ iv = .int .i64 (i : Int) ∧ S.size ≤ i * 300 ∧ Hid (S = ⟨L.toArray⟩) ∧ Hid (r = L ++ progT i (ds.drop i)) ∧ Hid (Below w.heap.size w wr)) (fun _ iv _ => n - (intOf iv).toNat)
  case atStart => exact ⟨0, ⟨#[]⟩, [], Nat.zero_le _, rfl, rfl, Nat.zero_le _, rfl, HR.out, Below.refl _ _⟩
  case round =>
    obtain ⟨i, S, L, hi, rfl, rfl, hsz, HS, HRR, HB⟩ := hrel
    by_cases hlt : i < n
    · have hid : i < ds.length := by rw [← HN.out]; exact hlt
      obtain ⟨bl, off, c, rfl, k0, k1, k2, k3, hI0, hI1, hI2, hIK⟩ := (DefsOn.next HK.out HB.out).at i hid
      have hvd : validB ds[i].2 ds[i].1 n = true := HVD.out _ (List.getElem_mem hid)
      have hsm : szT ds[i].2 ≤ 60 ∧ 0 ≤ ds[i].1 ∧ ds[i].1 ≤ 4 := by
        unfold validB at hvd
        simp only [Bool.and_eq_true, decide_eq_true_eq] at hvd
        omega
      have hsh := ShE.of_valid hvd
      obtain ⟨A, hA⟩ : ∃ A : Nat, ds[i].1 = (A : Int) := ⟨ds[i].1.toNat, by omega⟩
      obtain ⟨D, hD⟩ : ∃ D, D = decB A := ⟨_, rfl⟩
      obtain ⟨T, hT⟩ : ∃ T, T = textB ds[i].2 := ⟨_, rfl⟩
      obtain ⟨B1, hB1⟩ : ∃ B1 : ByteArray, B1 = ⟨#[byt (65 + i)]⟩ := ⟨_, rfl⟩
      have hA4 : A ≤ 4 := by omega
      have hDs : D.size ≤ 3 := by rw [hD]; show (decT A).toArray.size ≤ 3; rw [List.size_toArray]; exact decT_len A (by omega)
      have hTs : T.size ≤ 250 := by rw [hT, textB_size]; have := textT_len _ _ (Nat.le_refl _) hsh; omega
      have hBs : B1.size = 1 := by rw [hB1]; rfl
      have H1 : Hid (∀ W, Below wr.heap.size wr W → Calls Try.prog 104 #[.int .u8 65, .int .i64 (i : Int)] W fun e w' => e = .returned (.string B1) ∧ Below W.heap.size W w') := fun W _ => by rw [hB1]; exact l1Letter_calls 65 i W (by omega) (by decide)
      have H2 : Hid (∀ W, Below wr.heap.size wr W → Calls Try.prog 105 #[.int .i64 (A : Int)] W fun e w' => e = .returned (.string D) ∧ Below W.heap.size W w') := fun W _ => by rw [hD]; exact l16Dec_calls A W (by omega)
      have H3 : Hid (∀ W, Below wr.heap.size wr W → Calls Try.prog 103 #[.agg #[.int .i64 ds[i].2.op, .int .i64 ds[i].2.num, c]] W fun e w' => e = .returned (.string T) ∧ Below W.heap.size W w') := fun W h => by rw [hT]; exact l1Text_calls _ hsh (by omega) c W (hIK.next h) ⟨hI1, hI2⟩
      have HSS : Hid (S ++ B1 ++ D ++ (⟨#[61]⟩ : ByteArray) ++ T ++ (⟨#[10]⟩ : ByteArray) = ⟨(L ++ ([byt (65 + i)] ++ decT A ++ [61] ++ textT ds[i].2 ++ [10])).toArray⟩) := by
        have e1 : B1 = ⟨[byt (65 + i)].toArray⟩ := by rw [hB1]
        have e2 : (⟨#[61]⟩ : ByteArray) = ⟨[(61 : UInt8)].toArray⟩ := rfl
        have e3 : (⟨#[10]⟩ : ByteArray) = ⟨[(10 : UInt8)].toArray⟩ := rfl
        rw [Hid, HS.out, e1, hD, hT, decB, textB, e2, e3, app_mk, app_mk, app_mk, app_mk, app_mk]
        simp only [List.append_assoc]
      have HV : Hid (r = (L ++ ([byt (65 + i)] ++ decT A ++ [61] ++ textT ds[i].2 ++ [10])) ++ progT (i + 1) (ds.drop (i + 1))) := by
        rw [Hid, HRR.out, List.drop_eq_getElem_cons hid, progT, hA, Int.toNat_natCast]
        simp only [List.append_assoc]
      obtain ⟨adc, capc, rfl, -, -, -⟩ := hIK
      obtain ⟨o, ho⟩ : ∃ o, o = ds[i].2.op := ⟨_, rfl⟩
      obtain ⟨m, hm⟩ : ∃ m, m = ds[i].2.num := ⟨_, rfl⟩
      obtain ⟨z, hz⟩ : ∃ z, z = ds[i].2.kids.length := ⟨_, rfl⟩
      rw [← ho, ← hm, ← hz] at H3
      rw [hA] at k0
      rw [← ho] at k1
      rw [← hm] at k2
      rw [← hz] at k3
      have r0 := cell_regrown k0
      have r1 := cell_regrown k1
      have r2 := cell_regrown k2
      have r3 := cell_regrown k3
      obtain ⟨LL, hLL⟩ : ∃ LL, LL = L ++ ([byt (65 + i)] ++ decT A ++ [61] ++ textT ds[i].2 ++ [10]) := ⟨_, rfl⟩
      rw [← hLL] at HSS HV
      clear k0 k1 k2 k3 hI0 hI1 hI2 hvd hsm hsh hA hD hT hB1 ho hm hz hLL HRR HS
      go_wp2_with fail
      refine wp_region_quiet_below (by kernel_rfl) (by kernel_rfl) ?_
      iterate 2 (any_goals (first | go_big_quiet_step (fail) | quiet_step (fail)))
      any_goals (first | go_big_quiet_step (exact quietB (fun W h => H1.out W h) _ _) | quiet_step (exact quietB (fun W h => H1.out W h) _ _))
      iterate 6 (any_goals (first | go_big_quiet_step (fail) | quiet_step (fail)))
      any_goals (first | go_big_quiet_step (exact quietB (fun W h => H2.out W h) _ _) | quiet_step (exact quietB (fun W h => H2.out W h) _ _))
      iterate 7 (any_goals (first | go_big_quiet_step (fail) | quiet_step (fail)))
      any_goals (first | go_big_quiet_step (exact quietB (fun W h => H3.out W h) _ _) | quiet_step (exact quietB (fun W h => H3.out W h) _ _))
      iterate 3 (any_goals (first | go_big_quiet_step (fail) | quiet_step (fail)))
      refine wpQuiet_nil ?_
      intro _ hw'
      obtain ⟨⟨dq, osq⟩, hw''⟩ := hw'
      subst hw''
      clear r0 r1 r2 r3
      go_wp2_with fail
      have e61 : (⟨#[61]⟩ : ByteArray).size = 1 := rfl
      have e10 : (⟨#[10]⟩ : ByteArray).size = 1 := rfl
      exact ⟨⟨i + 1, _, LL, hlt, rfl, by simp, by simp only [ByteArray.size_append]; omega, HSS.out, HV.out, HB.out.trans ((below_regrown _ _ _).mono HB.out.size)⟩, by simp only [intOf]; omega⟩
    · have hin : i = n := by omega
      have HV : Hid (r = L) := by
        have e : ds.drop i = [] := List.drop_eq_nil_of_le (by rw [hin, HN.out]; exact Nat.le_refl _)
        rw [Hid, HRR.out, e]; simp [progT]
      subst hin
      go_wp2_with fail
      go_ret
      exact ⟨ret_str (by rw [HV.out]; exact HS.out), HB.out⟩
end Go.Proofs.Ytjdlfpdljmohiaa
/-
  THE MODEL's ParseProgram.
-/
namespace Go.Proofs.Ytjdlfpdljmohiaa
set_option linter.unusedVariables false
set_option linter.unusedSimpArgs false
open Go.RowKit

/-- a program's line -/
def lineT (l : ByteArray) : Option Df := if 4 ≤ l.size ∧ 48 ≤ bN l 1 ∧ bN l 1 ≤ 57 ∧ bN l 2 = 61 ∧ (parseE (l.extract 3 l.size)).2 = true then some (((bN l 1 - 48 : Nat) : Int), (parseE (l.extract 3 l.size)).1) else none
def linesT : List ByteArray → Option (List Df)
  | [] => some []
  | l :: ls => (lineT l).bind fun d => (linesT ls).map (d :: ·)
/-- the lines that count -/
def linesOf (s : ByteArray) : List ByteArray := ((cutT s 10 (s.size + 1) 0 0).take ((cutT s 10 (s.size + 1) 0 0).length - 1)).take 7
def parseP (s : ByteArray) : Option (List Df) := (linesT (linesOf s)).bind fun ds => if progB ds = true ∧ (⟨(progT 0 ds).toArray⟩ : ByteArray) = s then some ds else none
/-- functions in a row of one's own, their bodies elsewhere -/
def OwnDf (w : World) (lo : Nat) (ds : List Df) (v : Value) : Prop :=
  ∃ xs, w.ownsRow lo 137 4 v ds.length xs ∧ ∀ j (hj : j < ds.length), ∃ a b c e, xs[j * 4]? = some a ∧ xs[j * 4 + 1]? = some b ∧ xs[j * 4 + 2]? = some c ∧ xs[j * 4 + 3]? = some e ∧ DfOn w (fun k => PN lo w k ∧ some k ≠ v.ownBlock) ds[j] a b c e
theorem DfOn.mono {w w' : World} {S S' : Nat → Prop} {d : Df} {a b c e : Value} (h : DfOn w S d a b c e) (hS : ∀ k, S k → S' k) (hw : ∀ k, S k → w'.heap[k]? = w.heap[k]?) : DfOn w' S' d a b c e :=
  ⟨h.1, h.2.1, h.2.2.mono hS hw⟩
theorem OwnDf.next {w w' : World} {lo : Nat} {ds : List Df} {v : Value} (h : OwnDf w lo ds v) (hb : Below w.heap.size w w') : OwnDf w' lo ds v := by
  obtain ⟨xs, h1, h2⟩ := h
  refine ⟨xs, own_keep h1 fun k _ hk => hb.block k hk, fun j hj => ?_⟩
  obtain ⟨a, b, c, e, e1, e2, e3, e4, e5⟩ := h2 j hj
  exact ⟨a, b, c, e, e1, e2, e3, e4, e5.mono (fun k hk => ⟨hk.1.go (Nat.le_refl _) (hb.block k hk.1.2.1), hk.2⟩) fun k hk => hb.block k hk.1.2.1⟩
theorem OwnDf.step {w w' : World} {lo : Nat} {ds : List Df} {v v' : Value} {d : Df} {a b c e : Value} (xs : List Value) (hx : w.ownsRow lo 137 4 v ds.length xs) (hlo : lo ≤ w.heap.size)
    (ht : ∀ j (hj : j < ds.length), ∃ a b c e, xs[j * 4]? = some a ∧ xs[j * 4 + 1]? = some b ∧ xs[j * 4 + 2]? = some c ∧ xs[j * 4 + 3]? = some e ∧ DfOn w (fun k => PN lo w k ∧ some k ≠ v.ownBlock) ds[j] a b c e)
    (hn : DfOn w (fun k => PN lo w k ∧ some k ≠ v.ownBlock) d a b c e)
    (hown : w'.ownsRow lo 137 4 v' (ds.length + 1) (xs ++ [a, b, c, e])) (hg : w.grownBy w' v.ownBlock) (hw : v'.ownBlock = v.ownBlock ∨ ∃ g, v'.ownBlock = some g ∧ w.heap.size ≤ g) : OwnDf w' lo (ds ++ [d]) v' := by
  have hlen := hx.1
  have keep : ∀ (s : Df) (x y z u : Value), DfOn w (fun k => PN lo w k ∧ some k ≠ v.ownBlock) s x y z u → DfOn w' (fun k => PN lo w' k ∧ some k ≠ v'.ownBlock) s x y z u := by
    intro s x y z u hs
    refine hs.mono (fun k hk => ⟨hk.1.go (Nat.le_refl _) (hg.block k hk.1.2.1 hk.2), ?_⟩) (fun k hk => hg.block k hk.1.2.1 hk.2)
    rcases hw with hw | ⟨g, hw, hge⟩
    · rw [hw]; exact hk.2
    · rw [hw]; intro e; simp only [Option.some.injEq] at e; have := hk.1.2.1; omega
  refine ⟨xs ++ [a, b, c, e], by simpa using hown, fun j hj => ?_⟩
  by_cases hjl : j < ds.length
  · obtain ⟨x, y, z, u, e1, e2, e3, e4, e5⟩ := ht j hjl
    have l1 : j * 4 + 3 < xs.length := by omega
    refine ⟨x, y, z, u, ?_, ?_, ?_, ?_, ?_⟩
    · rw [List.getElem?_append_left (by omega)]; exact e1
    · rw [List.getElem?_append_left (by omega)]; exact e2
    · rw [List.getElem?_append_left (by omega)]; exact e3
    · rw [List.getElem?_append_left (by omega)]; exact e4
    · rw [List.getElem_append_left hjl]; exact keep _ _ _ _ _ e5
  · have hj' : j = ds.length := by simp at hj; omega
    subst hj'
    refine ⟨a, b, c, e, ?_, ?_, ?_, ?_, ?_⟩
    · rw [List.getElem?_append_right (by omega)]; simp [hlen]
    · rw [List.getElem?_append_right (by omega)]; simp [hlen]
    · rw [List.getElem?_append_right (by omega)]; simp [hlen]
    · rw [List.getElem?_append_right (by omega)]; simp [hlen]
    · simpa using keep _ _ _ _ _ hn
theorem OwnDf.defs {w : World} {lo : Nat} {ds : List Df} {v : Value} (h : OwnDf w lo ds v) : DefsOn w (PN lo w) ds v := by
  obtain ⟨xs, h1, h2⟩ := h
  rcases h1.2 with ⟨rfl, h0⟩ | ⟨g, cap, cur, rfl, hg, hh, hn, hc, hs, htk⟩
  · obtain rfl : ds = [] := List.eq_nil_of_length_eq_zero h0
    exact ⟨none, 0, rfl, Nat.le_refl _, by simp [maxLen], Or.inl rfl⟩
  · refine ⟨_, cap, rfl, hn, hc, Or.inr ⟨g, 0, rfl, ⟨hg, (Array.getElem?_eq_some_iff.1 hh).1, _, _, hh⟩, fun i hi => ?_⟩⟩
    obtain ⟨a, b, c, e, e1, e2, e3, e4, e5⟩ := h2 i hi
    refine ⟨a, b, c, e, ?_, ?_, ?_, ?_, e5.mono (fun k hk => hk.1) (fun _ _ => rfl)⟩
    · rw [Nat.zero_add, h1.cellAt (i * 4) (by omega)]; exact e1
    · rw [Nat.zero_add, h1.cellAt (i * 4 + 1) (by omega)]; exact e2
    · rw [Nat.zero_add, h1.cellAt (i * 4 + 2) (by omega)]; exact e3
    · rw [Nat.zero_add, h1.cellAt (i * 4 + 3) (by omega)]; exact e4
theorem infoD4 : ∃ i z, Try.prog.info? 137 = some i ∧ i.zero = some z ∧ i.size = 4 ∧ i.bytes = 48 ∧ z.cells.size = 4 := by
  obtain ⟨i, hi, hzz⟩ := Option.map_eq_some_iff.1 infoD
  simp only [Prod.mk.injEq] at hzz
  obtain ⟨hz, hs, hb⟩ := hzz
  exact ⟨i, _, hi, hz, hs, hb, rfl⟩
theorem cutT_small (s : ByteArray) (c : Nat) : ∀ k i f, ∀ x ∈ cutT s c k i f, x.size ≤ s.size
  | 0, _, _ => by simp [cutT]
  | k + 1, i, f => by
    intro x hx
    unfold cutT at hx
    split at hx
    · rcases List.mem_cons.1 hx with rfl | h
      · rw [ByteArray.size_extract]; omega
      · exact cutT_small s c k _ _ x h
    · exact cutT_small s c k _ _ x hx
theorem cutT_pos (s : ByteArray) (c : Nat) : ∀ k i f, i + k = s.size → 1 ≤ (cutT s c (k + 1) i f).length
  | 0, i, f, h => by unfold cutT; rw [if_pos (Or.inl (by omega))]; simp
  | k + 1, i, f, h => by
    unfold cutT
    split
    · simp
    · exact cutT_pos s c k (i + 1) f (by omega)
end Go.Proofs.Ytjdlfpdljmohiaa
/-
  THE MODEL's ParseProgram, THE WALK.
-/
namespace Go.Proofs.Ytjdlfpdljmohiaa
set_option linter.unusedVariables false
set_option linter.unusedSimpArgs false
open Go.RowKit

def PpRes (r : Option (List Df)) (w : World) (e : Ending) (w' : World) : Prop := ∃ v, e = .returned (.tuple #[v, .bool r.isSome]) ∧ DefsOn w' (PN w.heap.size w') (r.getD []) v ∧ Below w.heap.size w w'
theorem PpRes.none {r : Option (List Df)} {w w' : World} {ad : Option Addr} {cap : Nat} (h : r = Option.none) (hc : cap ≤ maxLen) (hb : Below w.heap.size w w') : PpRes r w (.returned (.tuple #[.slice ad 0 cap, .bool false])) w' := by
  subst h
  exact ⟨_, rfl, ⟨ad, cap, rfl, Nat.zero_le _, hc, Or.inl rfl⟩, hb⟩

/-- what the loop keeps -/
structure PqR (w w1 wr : World) (ds : List Df) (ov : Value) : Prop where
  own : OwnDf wr w.heap.size ds ov
  blk : ∀ g, ov.ownBlock = some g → g = w.heap.size + 1 ∨ w1.heap.size ≤ g
  low : Below w.heap.size w wr
  mid : ∀ k, w.heap.size + 2 ≤ k → k < w1.heap.size → wr.heap[k]? = w1.heap[k]?
  size : w1.heap.size ≤ wr.heap.size

set_option maxRecDepth 100000 in
set_option maxHeartbeats 3200000 in
theorem specParseProgram_calls (s : ByteArray) (w : World) (hs : s.size ≤ 1099511627775) :
    Calls Try.prog 93 #[.string s] w (PpRes (parseP s) w) := by
  obtain ⟨r, hr⟩ : ∃ r, r = parseP s := ⟨_, rfl⟩
  rw [← hr]
  have HR := mkHid hr
  have HSZ : Hid (∀ x ∈ cutT s 10 (s.size + 1) 0 0, x.size ≤ 1099511627775) := fun x hx => Nat.le_trans (cutT_small s 10 _ _ _ x hx) hs
  have hcl := cutT_len s 10 (s.size + 1) 0 0
  have hcp := cutT_pos s 10 s.size 0 0 (by omega)
  have HCUT := mkHid fun W => l16Cut_calls s 10 W (by decide) (by omega)
  unfold parseP linesOf at HR
  obtain ⟨ls, hls⟩ : ∃ ls, ls = cutT s 10 (s.size + 1) 0 0 := ⟨_, rfl⟩
  rw [← hls] at HSZ hcl hcp HCUT HR
  obtain ⟨nl, hnl⟩ : ∃ nl, nl = ls.length := ⟨_, rfl⟩
  have HNL := mkHid hnl
  rw [← hnl] at hcl hcp HR
  obtain ⟨L0, hL0⟩ : ∃ L0, L0 = (ls.take (nl - 1)).take 7 := ⟨_, rfl⟩
  rw [← hL0] at HR
  have HL0 := mkHid hL0
  obtain ⟨iE, zE, hiE, hzE, hsE, hbE, hcE⟩ := infoD4
  have HE : Hid (Try.prog.info? 137 = some iE ∧ iE.zero = some zE ∧ iE.size = 4 ∧ iE.bytes = 48 ∧ zE.cells.size = 4) := ⟨hiE, hzE, hsE, hbE, hcE⟩
  clear hr hls hnl hL0 hiE hzE hsE hbE hcE
  go_enter Try.func93, Try.ntmps93
  go_wp2_with fail
  refine (HCUT.out _).mono ?_
  rintro e w1 ⟨lv, rfl, hlv, hb1⟩
  have hs2 : ((w.alloc (.cells #[] 137)).alloc (.cells #[] 137)).heap.size = w.heap.size + 2 := by rw [Deep.nblk_alloc, Deep.nblk_alloc]
  have HB1 := mkHid hb1
  rw [hs2] at hb1 hlv
  have hsw := hb1.size
  rw [hs2] at hsw
  have HBW : Hid (Below w.heap.size w w1) := ((box_below _ _).trans ((box_below _ _).mono (by rw [Deep.nblk_alloc]; omega))).trans (hb1.mono (by omega))
  have HD0 : Hid (w1.heap[w.heap.size + 1]? = some (.cells #[] 137)) := (hb1.block _ (by omega)).trans (by have h := Deep.blk_alloc_new (w.alloc (.cells #[] 137)) (.cells #[] 137); rwa [Deep.nblk_alloc] at h)
  rcases id hlv.2 with ⟨rfl, h0⟩ | ⟨g, cap, cur, rfl, hg, hh, hn, hc, -, -⟩
  · rw [← HNL.out] at h0; omega
  have hgw : g < w1.heap.size := (Array.getElem?_eq_some_iff.1 hh).1
  have HCL : Hid (∀ i (hi : i < ls.length), w1.cell? ⟨g, i, none⟩ = some (.string ls[i])) := fun i hi => by
    rw [World.ownsRow.cellAt hlv i (by rw [Nat.mul_one]; exact hi), List.getElem?_map, List.getElem?_eq_getElem hi]; rfl
  rw [← HNL.out] at hn ⊢
  obtain ⟨n0, hn0⟩ : ∃ n0, n0 = L0.length := ⟨_, rfl⟩
  have hn1 : n0 = min 7 (nl - 1) := by rw [hn0, HL0.out, List.length_take, List.length_take, ← HNL.out]; omega
  have HN0 := mkHid hn0
  have HLI : Hid (∀ i (hi : i < L0.length) (hi' : i < ls.length), L0[i] = ls[i]) := fun i hi hi' => by
    have h : L0[i]? = ls[i]? := by
      have h2 := hi
      rw [HL0.out, List.length_take, List.length_take] at h2
      rw [HL0.out, List.getElem?_take_of_lt (by omega), List.getElem?_take_of_lt (by omega)]
    rw [List.getElem?_eq_getElem hi, List.getElem?_eq_getElem hi'] at h
    exact Option.some.inj h
  unfold maxLen at hc
  clear hlv hb1 hs2 hh hn0
  go_wp2_with fail
  go_loopw [5, 7] (fun ov iv wr => ∃ (i : Nat) (ds : List Df), i ≤ n0 ∧ iv = .int .i64 (i : Int) ∧ Hid (PqR w w1 wr ds ov) ∧ Hid (ds.length = i) ∧ Hid (linesT L0 = (linesT (L0.drop i)).map (ds ++ ·))) (fun _ iv _ => n0 - (intOf iv).toNat)
  case atStart =>
    refine ⟨0, [], Nat.zero_le _, rfl, ⟨⟨[], ⟨rfl, Or.inr ⟨_, 0, #[], rfl, by omega, HD0.out, Nat.le_refl _, by unfold maxLen; omega, rfl, rfl⟩⟩, fun j hj => absurd hj (by simp)⟩, fun b hb => Or.inl ?_, HBW.out, fun _ _ _ => rfl, Nat.le_refl _⟩, rfl, ?_⟩
    · simp only [Value.ownBlock, Option.some.injEq] at hb; omega
    · rw [Hid, List.drop_zero]; cases linesT L0 <;> simp
  case round =>
    obtain ⟨i, ds, hi, rfl, HP, HDL, HLT⟩ := hrel
    by_cases hlt : i < n0
    · have hi1 : (i : Int) < (nl : Int) - 1 := by omega
      have hi2 : (i : Int) ≤ 6 := by omega
      have hil : i < L0.length := by rw [← HN0.out]; exact hlt
      have hil2 : i < ls.length := by rw [← HNL.out]; omega
      obtain ⟨l, hl⟩ : ∃ l, l = ls[i] := ⟨_, rfl⟩
      have hlz : l.size ≤ 1099511627775 := by rw [hl]; exact HSZ.out _ (List.getElem_mem hil2)
      have c0 : wr.cell? ⟨g, i, none⟩ = some (.string l) := by
        rw [World.cell?_of_block (w := w1) (HP.out.mid g hg hgw), hl]; exact HCL.out i hil2
      have HDR : Hid (L0.drop i = l :: L0.drop (i + 1)) := by rw [Hid, List.drop_eq_getElem_cons hil, HLI.out i hil hil2, hl]
      have HRN : Hid (lineT l = none → r = none) := fun h => by
        rw [HR.out, HLT.out, HDR.out, linesT, h]; rfl
      have HRS : Hid (∀ d, lineT l = some d → linesT L0 = (linesT (L0.drop (i + 1))).map ((ds ++ [d]) ++ ·)) := fun d h => by
        rw [HLT.out, HDR.out, linesT, h]
        cases linesT (L0.drop (i + 1)) <;> simp
      clear hl
      by_cases t4 : 4 ≤ l.size
      case neg =>
        have HV : Hid (r = none) := HRN.out (by unfold lineT; rw [if_neg (fun h => t4 h.1)])
        go_wp2_with fail
        go_ret2
        exact PpRes.none HV.out (by simp [maxLen]) HP.out.low
      have h1 : 1 < l.size := by omega
      have h2 : 2 < l.size := by omega
      have t4' : ¬ (l.size : Int) < 4 := by omega
      have hb1 := bN_at h1
      have hb2 := bN_at h2
      obtain ⟨b1, hB1⟩ : ∃ b1, b1 = bN l 1 := ⟨_, rfl⟩
      obtain ⟨b2, hB2⟩ : ∃ b2, b2 = bN l 2 := ⟨_, rfl⟩
      rw [← hB1] at hb1
      rw [← hB2] at hb2
      have HBB := mkHid (And.intro hB1 hB2)
      clear hB1 hB2
      by_cases t48 : 48 ≤ b1
      case neg =>
        have HV : Hid (r = none) := HRN.out (by unfold lineT; rw [if_neg (fun h => t48 (by rw [HBB.out.1]; exact h.2.1))])
        go_wp2_with fail
        go_ret2
        exact PpRes.none HV.out (by simp [maxLen]) HP.out.low
      by_cases t57 : b1 ≤ 57
      case neg =>
        have HV : Hid (r = none) := HRN.out (by unfold lineT; rw [if_neg (fun h => t57 (by rw [HBB.out.1]; exact h.2.2.1))])
        go_wp2_with fail
        go_ret2
        exact PpRes.none HV.out (by simp [maxLen]) HP.out.low
      by_cases t61 : b2 = 61
      case neg =>
        have HV : Hid (r = none) := HRN.out (by unfold lineT; rw [if_neg (fun h => t61 (by rw [HBB.out.2]; exact h.2.2.2.1))])
        have t61' : ((b2 : Int) == 61) = false := by simp; omega
        have t61'' : ((b2 : Int) != 61) = true := by simp; omega
        go_wp2_with fail
        go_ret2
        exact PpRes.none HV.out (by simp [maxLen]) HP.out.low
      have HPC := mkHid (specParseExpr_calls (l.extract 3 l.size) wr (by rw [ByteArray.size_extract]; omega))
      obtain ⟨q, hq⟩ : ∃ q, q = parseE (l.extract 3 l.size) := ⟨_, rfl⟩
      have HQ := mkHid hq
      rw [← hq] at HPC
      obtain ⟨x, ok⟩ := q
      subst t61
      clear hq
      go_wp2_with fail
      refine HPC.out.mono ?_
      rintro e w2 ⟨kv, rfl, hkv, hb2⟩
      obtain ⟨adk, capk, rfl, -, -, -⟩ := id hkv
      have HKV := mkHid hkv
      have HB2 := mkHid hb2
      have HXI : Hid (I64 x.op ∧ I64 x.num) := by
        have h := (parseT_rng (l.extract 3 l.size) 16 0).i64
        have h2 := HQ.out
        unfold parseE at h2
        split at h2
        · rw [Prod.mk.injEq] at h2; rw [h2.1]; exact h
        · rw [Prod.mk.injEq] at h2; rw [h2.1]; exact ⟨⟨by decide, by decide⟩, ⟨by decide, by decide⟩⟩
      obtain ⟨o, ho⟩ : ∃ o, o = x.op := ⟨_, rfl⟩
      obtain ⟨m, hm⟩ : ∃ m, m = x.num := ⟨_, rfl⟩
      obtain ⟨z, hz⟩ : ∃ z, z = x.kids.length := ⟨_, rfl⟩
      simp only [] at HKV ⊢
      rw [← ho, ← hm, ← hz]
      rw [← hz] at HKV
      have HOM := mkHid (And.intro ho hm)
      have HL2 : Hid (Below w.heap.size w (w2.alloc (.cells #[.int .i64 o, .int .i64 m, .slice adk z capk] 30))) := HP.out.low.trans ((hb2.trans ((box_below _ _).mono hb2.size)).mono HP.out.low.size)
      clear hkv hb2 ho hm hz
      cases ok with
      | false =>
        have HV : Hid (r = none) := HRN.out (by unfold lineT; rw [if_neg (fun h => by rw [← HQ.out] at h; exact absurd h.2.2.2.2 Bool.false_ne_true)])
        go_wp2_with fail
        go_ret2
        exact PpRes.none HV.out (by simp [maxLen]) HL2.out
      | true =>
        obtain ⟨A, hA⟩ : ∃ A, A = b1 - 48 := ⟨_, rfl⟩
        have hA9 : A ≤ 9 := by omega
        have hw1 : IntKind.u8.wrap ((b1 : Int) - 48) = (A : Int) := by rw [IntWalk.u8_in _ (by omega)]; omega
        have HV : Hid (linesT L0 = (linesT (L0.drop (i + 1))).map ((ds ++ [((A : Int), x)]) ++ ·)) := HRS.out _ (by
          unfold lineT
          have e := HBB.out
          have q := HQ.out
          rw [← q, ← e.1, ← e.2, if_pos ⟨t4, t48, t57, rfl, rfl⟩, hA])
        obtain ⟨wb, hwb⟩ : ∃ wb, wb = w2.alloc (.cells #[.int .i64 o, .int .i64 m, .slice adk z capk] 30) := ⟨_, rfl⟩
        have HWB := mkHid hwb
        have x0 := box_cell w2 #[.int .i64 o, .int .i64 m, .slice adk z capk] 30 0 _ rfl
        have x1 := box_cell w2 #[.int .i64 o, .int .i64 m, .slice adk z capk] 30 1 _ rfl
        have x2 := box_cell w2 #[.int .i64 o, .int .i64 m, .slice adk z capk] 30 2 _ rfl
        rw [← hwb] at HL2
        clear hA hwb
        go_wp2_with fail
        rw [← HWB.out] at x0 x1 x2 ⊢
        obtain ⟨xs, hx1, hx2⟩ := HP.out.own
        rw [HDL.out] at hx1
        have HBB2 : Hid (Below wr.heap.size wr wb) := by rw [Hid, HWB.out]; exact HB2.out.trans ((box_below _ _).mono HB2.out.size)
        have HWW : Hid (Below wr.heap.size wr (wb.alloc (.cells #[.int .i64 (A : Int), .int .i64 o, .int .i64 m, .slice adk z capk] 137)).drew) := (HBB2.out.alloc HBB2.out.size _).drew
        have HXW : Hid ((wb.alloc (.cells #[.int .i64 (A : Int), .int .i64 o, .int .i64 m, .slice adk z capk] 137)).drew.ownsRow w.heap.size 137 4 u5 i xs) := own_keep hx1 fun k _ hk => HWW.out.block k hk
        have HXT : Hid (∀ (j : Nat) (hj : j < ds.length), ∃ a b c e, xs[j * 4]? = some a ∧ xs[j * 4 + 1]? = some b ∧ xs[j * 4 + 2]? = some c ∧ xs[j * 4 + 3]? = some e ∧ DfOn (wb.alloc (.cells #[.int .i64 (A : Int), .int .i64 o, .int .i64 m, .slice adk z capk] 137)).drew (fun k => PN w.heap.size (wb.alloc (.cells #[.int .i64 (A : Int), .int .i64 o, .int .i64 m, .slice adk z capk] 137)).drew k ∧ some k ≠ u5.ownBlock) ds[j] a b c e) := by
          intro j hj
          obtain ⟨a, b, c, e, e1, e2, e3, e4, e5⟩ := hx2 j hj
          exact ⟨a, b, c, e, e1, e2, e3, e4, e5.mono (fun k hk => ⟨hk.1.go (Nat.le_refl _) (HWW.out.block k hk.1.2.1), hk.2⟩) fun k hk => HWW.out.block k hk.1.2.1⟩
        have HOB : Hid (∀ g, some g = u5.ownBlock → w.heap.size ≤ g ∧ g < wr.heap.size) := fun g e => own_some hx1 g e.symm
        have HXN : Hid (DfOn (wb.alloc (.cells #[.int .i64 (A : Int), .int .i64 o, .int .i64 m, .slice adk z capk] 137)).drew (fun k => PN w.heap.size (wb.alloc (.cells #[.int .i64 (A : Int), .int .i64 o, .int .i64 m, .slice adk z capk] 137)).drew k ∧ some k ≠ u5.ownBlock) ((A : Int), x) (.int .i64 (A : Int)) (.int .i64 o) (.int .i64 m) (.slice adk z capk)) := by
          have hblk : ∀ k, k < w2.heap.size → (wb.alloc (.cells #[.int .i64 (A : Int), .int .i64 o, .int .i64 m, .slice adk z capk] 137)).drew.heap[k]? = w2.heap[k]? := fun k h1 => by
            have h3 : wb.heap.size = w2.heap.size + 1 := by rw [HWB.out, Deep.nblk_alloc]
            refine (Deep.blk_alloc_lt wb _ k (by omega)).trans ?_
            rw [HWB.out, Deep.blk_alloc_lt _ _ _ h1]
          refine ⟨rfl, ⟨by show _ ≤ (A : Int); omega, by show (A : Int) ≤ _; omega⟩, trOn_iff.2 ⟨by rw [HOM.out.1], by rw [HOM.out.2], HXI.out.1, HXI.out.2, HKV.out.mono (fun k hk => ⟨hk.go HP.out.low.size (hblk k hk.2.1), fun e => ?_⟩) fun k hk => hblk k hk.2.1⟩⟩
          have h1 : wr.heap.size ≤ k := hk.1
          have := (HOB.out k e).2
          omega
        have HSB : Hid (w.heap.size ≤ (wb.alloc (.cells #[.int .i64 (A : Int), .int .i64 o, .int .i64 m, .slice adk z capk] 137)).drew.heap.size) := Nat.le_trans HP.out.low.size HWW.out.size
        have hi6 : i ≤ 6 := by omega
        have hw2 : IntKind.i64.wrap (A : Int) = (A : Int) := IntWalk.i64_in _ (by omega)
        have HN1 := mkHid hn1
        clear hx1 hx2
        go_region_law (go_must (refine step_append_where rfl (.tmp 58) (.tmp 65) 67 rfl w.heap.size 137 iE zE 4 48 Try.underlying67 HE.out.1 HE.out.2.1 HE.out.2.2.1 HE.out.2.2.2.1 HE.out.2.2.2.2 (by decide) u5 i xs (by simp [Act.eval, Act.put]) HXW.out ⟨wb.heap.size, 0, none⟩ 1 1 [.int .i64 (A : Int), .int .i64 o, .int .i64 m, .slice adk z capk] (by simp [Act.eval, Act.put]) rfl (fun j u hu => by rw [WideShapes.add_plain, Nat.zero_add]; exact box_cell wb #[.int .i64 (A : Int), .int .i64 o, .int .i64 m, .slice adk z capk] _ j u (by simpa using hu)) (by simp [Value.oneCell']) (by unfold maxLen; omega) (by omega) HSB.out (by omega) ?_); go_must (intro v' w3 hown hg hw); go_must (have HX3 := mkHid hown); go_must (have HG3 := mkHid hg); go_must (have HW3 := mkHid hw); clear hown hg hw)
        all_goals
          have HP3 : Hid (PqR w w1 w3 (ds ++ [((A : Int), x)]) v') := by
            have hwb2 : wb.heap.size ≤ w3.heap.size := Nat.le_trans (by show wb.heap.size ≤ (wb.alloc _).heap.size; rw [Deep.nblk_alloc]; omega) HG3.out.size
            have hwr : wr.heap.size ≤ w3.heap.size := Nat.le_trans HBB2.out.size hwb2
            refine ⟨OwnDf.step xs (by rw [HDL.out]; exact HXW.out) HSB.out HXT.out HXN.out (by rw [HDL.out]; exact HX3.out) HG3.out HW3.out, fun b hb => ?_, ?_, fun k h1 h2 => ?_, Nat.le_trans HP.out.size hwr⟩
            · rcases HW3.out with h | ⟨b', h, hge⟩
              · exact HP.out.blk b (h ▸ hb)
              · rw [h] at hb
                obtain rfl := Option.some.inj hb
                exact Or.inr (Nat.le_trans HP.out.size (Nat.le_trans HWW.out.size hge))
            · exact (HP.out.low.trans (HWW.out.mono HP.out.low.size)).grown HG3.out HSB.out fun b e => (HOB.out b e.symm).1
            · have hkw : k < wr.heap.size := Nat.lt_of_lt_of_le h2 HP.out.size
              rw [HG3.out.block k (Nat.lt_of_lt_of_le hkw HWW.out.size) (fun e => by rcases HP.out.blk k e.symm with h | h <;> omega), HWW.out.block k hkw]
              exact HP.out.mid k h1 h2
          have HDL3 : Hid ((ds ++ [((A : Int), x)]).length = i + 1) := by rw [Hid, List.length_append, HDL.out]; rfl
          clear HX3 HG3 HW3
          go_wp2_with fail
          exact ⟨⟨i + 1, ds ++ [((A : Int), x)], hlt, by simp, HP3, HDL3, HV⟩, by simp only [intOf]; omega⟩
    · have hin : i = n0 := by omega
      have HR2 : Hid (r = if progB ds = true ∧ (⟨(progT 0 ds).toArray⟩ : ByteArray) = s then some ds else none) := by
        have e : L0.drop i = [] := List.drop_eq_nil_of_le (by rw [hin, HN0.out]; exact Nat.le_refl _)
        rw [Hid, HR.out, HLT.out, e]; simp [linesT]
      have HDD := mkHid (OwnDf.defs HP.out.own)
      have HDI := mkHid (show DIn wr ds u5 from HDD.out.mono (fun _ hk => hk.2.1) (fun _ _ => rfl))
      have HPV := mkHid (specProg_calls ds u5 wr HDI.out)
      have HPP : Hid (∀ W, Below wr.heap.size wr W → progB ds = true → Calls Try.prog 100 #[u5] W fun e w' => e = .returned (.string ⟨(progT 0 ds).toArray⟩) ∧ Below W.heap.size W w') := fun W h hp => l1Program_calls ds u5 W (HDI.out.next h) hp
      obtain ⟨T, hT⟩ : ∃ T, T = (⟨(progT 0 ds).toArray⟩ : ByteArray) := ⟨_, rfl⟩
      rw [← hT] at HR2 HPP
      have hcond : ((i : Int) < (nl : Int) - 1 ∧ ¬ (i : Int) ≤ 6) ∨ ¬ (i : Int) < (nl : Int) - 1 := by omega
      clear hin hT
      rcases hcond with ⟨hi1, hi2⟩ | hi1
      all_goals
        go_wp2_with fail
        refine HPV.out.mono ?_
        rintro e w2 ⟨rfl, hb2⟩
        have HB2 := mkHid hb2
        clear hb2
        cases hp : progB ds with
        | false =>
          have HV : Hid (r = none) := by rw [Hid, HR2.out, if_neg (fun h => by rw [hp] at h; exact absurd h.1 Bool.false_ne_true)]
          go_wp2_with fail
          go_ret2
          exact PpRes.none HV.out (by simp [maxLen]) (HP.out.low.trans (HB2.out.mono HP.out.low.size))
        | true =>
          have HPC := mkHid (HPP.out w2 HB2.out hp)
          go_wp2_with fail
          refine HPC.out.mono ?_
          rintro e w3 ⟨rfl, hb3⟩
          have HB3 : Hid (Below wr.heap.size wr w3) := HB2.out.trans (hb3.mono HB2.out.size)
          clear hb3
          by_cases hTs : T = s
          · have HV : Hid (r = some ds) := by rw [Hid, HR2.out, if_pos ⟨hp, hTs⟩]
            subst hTs
            go_wp2_with fail
            go_ret2
            rw [HV.out]
            exact ⟨_, rfl, HDD.out.mono (fun k hk => hk.go (Nat.le_refl _) (HB3.out.block k hk.2.1)) (fun k hk => HB3.out.block k hk.2.1), HP.out.low.trans (HB3.out.mono HP.out.low.size)⟩
          · have HV : Hid (r = none) := by rw [Hid, HR2.out, if_neg (fun h => hTs h.2)]
            have m1 : ¬ T.toList = s.toList := fun h => hTs (by
              rw [ByteArray.toList_eq, ByteArray.toList_eq] at h
              cases T; cases s; congr; exact Array.toList_inj.1 h)
            have m2 : (T.toList == s.toList) = false := by simpa using m1
            go_wp2_with fail
            go_ret2
            exact PpRes.none HV.out (by simp [maxLen]) (HP.out.low.trans (HB3.out.mono HP.out.low.size))
end Go.Proofs.Ytjdlfpdljmohiaa
/-
  THE MODEL's READER OF DRAWS: num, l16Open.
-/
namespace Go.Proofs.Ytjdlfpdljmohiaa
set_option linter.unusedVariables false
set_option linter.unusedSimpArgs false
open Go.RowKit

/-- a slice value that holds these numbers, in a block other than b -/
def IntsBut (w : World) (b : Nat) (L : List Int) (v : Value) : Prop :=
  ∃ bl off cap, v = .slice (some ⟨bl, off, none⟩) L.length cap ∧ bl ≠ b ∧ bl < w.heap.size ∧ ∀ i (hi : i < L.length), w.cell? ⟨bl, off + i, none⟩ = some (.int .i64 L[i])

/-- num has answered -/
def Numbered (L : List Int) (w : World) (b p : Nat) (e : Ending) (w' : World) : Prop :=
  ∃ x : Int, e = .returned (.int .i64 x) ∧ x ∈ L ∧ RdOn w' b (p + 1) ∧ But b w w'

set_option maxHeartbeats 800000 in
theorem num_calls (L : List Int) (v : Value) (w : World) (b p : Nat) (h : RdOn w b p) (hp : p ≤ 1099511627776) (hv : IntsBut w b L v) (hL : 0 < L.length) (hL1 : L.length ≤ 1000) :
    Calls Try.prog 60 #[.pointer (some ⟨b, 0, none⟩), v] w (Numbered L w b p) := by
  obtain ⟨bl, off, cap, rfl, hb, hlt, hc⟩ := hv
  have HC : Hid (∀ i (hi : i < L.length), w.cell? ⟨bl, off + i, none⟩ = some (.int .i64 L[i])) := hc
  have HR : Hid (RdOn w b p) := h
  clear hc h
  go_enter Try.func60, Try.ntmps60
  go_wp2_with fail
  refine (pick_calls L.length _ b p HR.out hp (by omega)).mono ?_
  rintro e w1 ⟨x, rfl, h0, h1, -, hr1, hb1⟩
  have HR1 : Hid (RdOn w1 b (p + 1)) := hr1
  have HB1 : Hid (But b w w1) := hb1
  have hx : x < L.length := h1 (by omega)
  obtain ⟨k, rfl⟩ := Int.eq_ofNat_of_zero_le h0
  have hk : k < L.length := by omega
  have c1 : w1.cell? ⟨bl, off + k, none⟩ = some (.int .i64 L[k]) := (hb1.cell (p := ⟨bl, off + k, none⟩) hlt hb).trans (HC.out k hk)
  clear h1 hr1 hb1
  go_wp2_with fail
  go_ret
  exact ⟨L[k], rfl, List.getElem_mem hk, HR1.out, HB1.out⟩

/-- a new reader lies in block b -/
def Opened (w : World) (e : Ending) (w' : World) : Prop := e = .returned (.pointer (some ⟨w.heap.size, 0, none⟩)) ∧ RdOn w' w.heap.size 0 ∧ Below w.heap.size w w'

theorem opened_of (w : World) (len : Nat) (v : Value) (h : BytesOn w (Lt w.heap.size) len v) (hl : len ≤ 2000) : Opened w (.returned (.pointer (some ⟨w.heap.size, 0, none⟩))) (w.alloc (.cells #[v, .int .i64 0] 113)) := by
  refine ⟨rfl, ⟨len, v, h.mono (fun k hk => hk) (fun k hk => Deep.blk_alloc_lt _ _ _ hk), hl, ?_⟩, box_below _ _⟩
  exact Deep.blk_alloc_new _ _

set_option maxHeartbeats 800000 in
theorem open_calls (len : Nat) (v : Value) (w : World) (h : BytesOn w (Lt w.heap.size) len v) : Calls Try.prog 57 #[v] w (Opened w) := by
  by_cases hl : 2000 < len
  · have h' := h
    obtain ⟨ad, cap, rfl, h1, h2, h3⟩ := h
    unfold maxLen at h2
    rcases h3 with h3 | ⟨bl, off, rfl, hs, hr⟩
    · omega
    have HO : Hid (Opened w (.returned (.pointer (some ⟨w.heap.size, 0, none⟩))) (w.alloc (.cells #[.slice (some ⟨bl, off, none⟩) 2000 cap, .int .i64 0] 113))) :=
      opened_of w 2000 _ ⟨_, cap, rfl, by omega, by unfold maxLen; omega, Or.inr ⟨bl, off, rfl, hs, fun i hi => hr i (by omega)⟩⟩ (by omega)
    clear hr h'
    go_enter Try.func57, Try.ntmps57
    go_wp2_with fail
    go_ret
    exact HO.out
  · have HO : Hid (Opened w (.returned (.pointer (some ⟨w.heap.size, 0, none⟩))) (w.alloc (.cells #[v, .int .i64 0] 113))) := opened_of w len v h (by omega)
    obtain ⟨ad, cap, rfl, h1, h2, -⟩ := h
    go_enter Try.func57, Try.ntmps57
    go_wp2_with fail
    go_ret
    exact HO.out
end Go.Proofs.Ytjdlfpdljmohiaa
/-
  THE MODEL's l1Texts AND l1Draw: a drawn program is valid, or empty.
-/
namespace Go.Proofs.Ytjdlfpdljmohiaa
set_option linter.unusedVariables false
set_option linter.unusedSimpArgs false
open Go.RowKit

abbrev txC : Array Value := #[.string ⟨#[65, 49, 61, 40, 97, 43, 97, 41, 10, 66, 49, 61, 40, 65, 32, 40, 65, 32, 97, 41, 41, 10]⟩, .string ⟨#[65, 50, 61, 97, 10, 66, 50, 61, 98, 10, 67, 49, 61, 40, 40, 65, 32, 97, 41, 32, 40, 67, 32, 97, 41, 41, 10]⟩, .string ⟨#[65, 49, 61, 91, 97, 63, 49, 58, 40, 97, 43, 40, 65, 32, 40, 97, 45, 49, 41, 41, 41, 93, 10]⟩, .string ⟨#[65, 49, 61, 60, 97, 44, 40, 65, 32, 40, 97, 43, 49, 41, 41, 62, 10, 66, 50, 61, 91, 97, 63, 126, 98, 58, 40, 40, 66, 32, 40, 97, 45, 49, 41, 41, 32, 94, 98, 41, 93, 10]⟩, .string ⟨#[65, 51, 61, 40, 40, 97, 32, 99, 41, 32, 40, 98, 32, 99, 41, 41, 10, 66, 50, 61, 97, 10, 67, 48, 61, 40, 40, 65, 32, 66, 41, 32, 66, 41, 10]⟩, .string ⟨#[65, 49, 61, 60, 94, 97, 44, 126, 97, 62, 10, 66, 49, 61, 40, 126, 97, 43, 94, 97, 41, 10, 67, 49, 61, 40, 66, 32, 40, 65, 32, 60, 97, 44, 50, 62, 41, 41, 10]⟩, .string ⟨#[65, 50, 61, 91, 97, 63, 98, 58, 40, 40, 65, 32, 40, 97, 45, 49, 41, 41, 32, 40, 98, 43, 98, 41, 41, 93, 10]⟩, .string ⟨#[65, 48, 61, 60, 49, 44, 65, 62, 10, 66, 49, 61, 126, 94, 97, 10]⟩, .string ⟨#[65, 50, 61, 40, 97, 32, 98, 41, 10, 66, 49, 61, 40, 40, 65, 32, 67, 41, 32, 97, 41, 10, 67, 49, 61, 40, 97, 45, 51, 41, 10]⟩, .string ⟨#[65, 50, 61, 91, 98, 63, 49, 58, 40, 40, 67, 32, 97, 41, 32, 40, 40, 65, 32, 97, 41, 32, 40, 98, 45, 49, 41, 41, 41, 93, 10, 66, 49, 61, 40, 97, 43, 49, 41, 10, 67, 50, 61, 40, 97, 32, 98, 41, 10]⟩, .string ⟨#[65, 49, 61, 40, 66, 32, 97, 41, 10, 66, 49, 61, 40, 65, 32, 97, 41, 10]⟩, .string ⟨#[]⟩]
theorem parseP_valid (s : ByteArray) : progB ((parseP s).getD []) = true := by
  unfold parseP
  cases linesT (linesOf s) with
  | none => rfl
  | some ds =>
    simp only [Option.bind_some]
    split
    · rename_i h; exact h.1
    · rfl
end Go.Proofs.Ytjdlfpdljmohiaa
/-
  THE MODEL's l2Goals: the rows of texts.
-/
namespace Go.Proofs.Ytjdlfpdljmohiaa
set_option linter.unusedVariables false
set_option linter.unusedSimpArgs false
open Go.RowKit

abbrev goC0 : Array Value := #[.string ⟨#[40, 66, 32, 51, 41]⟩, .string ⟨#[40, 65, 32, 40, 66, 32, 49, 41, 41]⟩, .string ⟨#[40, 66, 32, 40, 66, 32, 50, 41, 41]⟩]
abbrev goC1 : Array Value := #[.string ⟨#[40, 40, 65, 32, 49, 41, 32, 40, 67, 32, 50, 41, 41]⟩, .string ⟨#[40, 40, 66, 32, 40, 67, 32, 49, 41, 41, 32, 53, 41]⟩, .string ⟨#[40, 67, 32, 51, 41]⟩]
abbrev goC2 : Array Value := #[.string ⟨#[40, 65, 32, 51, 41]⟩, .string ⟨#[40, 65, 32, 40, 65, 32, 50, 41, 41]⟩, .string ⟨#[40, 65, 32, 48, 41]⟩]
abbrev goC3 : Array Value := #[.string ⟨#[40, 40, 66, 32, 51, 41, 32, 40, 65, 32, 53, 41, 41]⟩, .string ⟨#[126, 40, 65, 32, 49, 41]⟩, .string ⟨#[40, 40, 66, 32, 48, 41, 32, 40, 65, 32, 40, 50, 43, 50, 41, 41, 41]⟩, .string ⟨#[94, 94, 40, 65, 32, 55, 41]⟩]
abbrev goC4 : Array Value := #[.string ⟨#[40, 67, 32, 55, 41]⟩, .string ⟨#[40, 40, 40, 65, 32, 66, 41, 32, 67, 41, 32, 50, 41]⟩, .string ⟨#[40, 67, 32, 40, 67, 32, 52, 41, 41]⟩]
abbrev goC5 : Array Value := #[.string ⟨#[40, 67, 32, 51, 41]⟩, .string ⟨#[40, 66, 32, 40, 65, 32, 60, 52, 44, 57, 62, 41, 41]⟩, .string ⟨#[126, 40, 65, 32, 60, 49, 44, 40, 50, 43, 50, 41, 62, 41]⟩]
abbrev goC6 : Array Value := #[.string ⟨#[40, 40, 65, 32, 51, 41, 32, 49, 41]⟩, .string ⟨#[40, 40, 65, 32, 48, 41, 32, 40, 49, 45, 50, 41, 41]⟩]
abbrev goC7 : Array Value := #[.string ⟨#[40, 66, 32, 65, 41]⟩, .string ⟨#[126, 94, 94, 65]⟩, .string ⟨#[126, 65]⟩]
abbrev goC8 : Array Value := #[.string ⟨#[40, 66, 32, 53, 41]⟩, .string ⟨#[40, 40, 65, 32, 67, 41, 32, 40, 49, 43, 49, 41, 41]⟩, .string ⟨#[40, 65, 32, 49, 41]⟩]
abbrev goC9 : Array Value := #[.string ⟨#[40, 40, 65, 32, 66, 41, 32, 50, 41]⟩, .string ⟨#[40, 40, 65, 32, 40, 67, 32, 66, 41, 41, 32, 50, 41]⟩, .string ⟨#[40, 40, 65, 32, 66, 41, 32, 48, 41]⟩]
abbrev goC10 : Array Value := #[.string ⟨#[40, 65, 32, 49, 41]⟩, .string ⟨#[91, 49, 63, 40, 65, 32, 49, 41, 58, 52, 93]⟩]
abbrev goC11 : Array Value := #[.string ⟨#[40, 40, 50, 43, 51, 41, 45, 54, 41]⟩, .string ⟨#[126, 60, 49, 44, 50, 62]⟩, .string ⟨#[40, 49, 32, 50, 41]⟩, .string ⟨#[91, 48, 63, 49, 58, 50, 93]⟩, .string ⟨#[126, 51]⟩, .string ⟨#[40, 60, 49, 44, 50, 62, 43, 49, 41]⟩]
/-- how many goals a program has -/
def goN (i : Nat) : Nat := ([3, 3, 3, 4, 3, 3, 2, 3, 3, 3, 2, 6] : List Nat).getD i 2
/-- the goals of a program -/
def goL : List (List ByteArray) := [[⟨#[40, 66, 32, 51, 41]⟩, ⟨#[40, 65, 32, 40, 66, 32, 49, 41, 41]⟩, ⟨#[40, 66, 32, 40, 66, 32, 50, 41, 41]⟩], [⟨#[40, 40, 65, 32, 49, 41, 32, 40, 67, 32, 50, 41, 41]⟩, ⟨#[40, 40, 66, 32, 40, 67, 32, 49, 41, 41, 32, 53, 41]⟩, ⟨#[40, 67, 32, 51, 41]⟩], [⟨#[40, 65, 32, 51, 41]⟩, ⟨#[40, 65, 32, 40, 65, 32, 50, 41, 41]⟩, ⟨#[40, 65, 32, 48, 41]⟩], [⟨#[40, 40, 66, 32, 51, 41, 32, 40, 65, 32, 53, 41, 41]⟩, ⟨#[126, 40, 65, 32, 49, 41]⟩, ⟨#[40, 40, 66, 32, 48, 41, 32, 40, 65, 32, 40, 50, 43, 50, 41, 41, 41]⟩, ⟨#[94, 94, 40, 65, 32, 55, 41]⟩], [⟨#[40, 67, 32, 55, 41]⟩, ⟨#[40, 40, 40, 65, 32, 66, 41, 32, 67, 41, 32, 50, 41]⟩, ⟨#[40, 67, 32, 40, 67, 32, 52, 41, 41]⟩], [⟨#[40, 67, 32, 51, 41]⟩, ⟨#[40, 66, 32, 40, 65, 32, 60, 52, 44, 57, 62, 41, 41]⟩, ⟨#[126, 40, 65, 32, 60, 49, 44, 40, 50, 43, 50, 41, 62, 41]⟩], [⟨#[40, 40, 65, 32, 51, 41, 32, 49, 41]⟩, ⟨#[40, 40, 65, 32, 48, 41, 32, 40, 49, 45, 50, 41, 41]⟩], [⟨#[40, 66, 32, 65, 41]⟩, ⟨#[126, 94, 94, 65]⟩, ⟨#[126, 65]⟩], [⟨#[40, 66, 32, 53, 41]⟩, ⟨#[40, 40, 65, 32, 67, 41, 32, 40, 49, 43, 49, 41, 41]⟩, ⟨#[40, 65, 32, 49, 41]⟩], [⟨#[40, 40, 65, 32, 66, 41, 32, 50, 41]⟩, ⟨#[40, 40, 65, 32, 40, 67, 32, 66, 41, 41, 32, 50, 41]⟩, ⟨#[40, 40, 65, 32, 66, 41, 32, 48, 41]⟩], [⟨#[40, 65, 32, 49, 41]⟩, ⟨#[91, 49, 63, 40, 65, 32, 49, 41, 58, 52, 93]⟩], [⟨#[40, 40, 50, 43, 51, 41, 45, 54, 41]⟩, ⟨#[126, 60, 49, 44, 50, 62]⟩, ⟨#[40, 49, 32, 50, 41]⟩, ⟨#[91, 48, 63, 49, 58, 50, 93]⟩, ⟨#[126, 51]⟩, ⟨#[40, 60, 49, 44, 50, 62, 43, 49, 41]⟩]]
def goS (i j : Nat) : ByteArray := (goL.getD i []).getD j ⟨#[]⟩
/-- the texts of programs -/
def txL : List ByteArray := [⟨#[65, 49, 61, 40, 97, 43, 97, 41, 10, 66, 49, 61, 40, 65, 32, 40, 65, 32, 97, 41, 41, 10]⟩, ⟨#[65, 50, 61, 97, 10, 66, 50, 61, 98, 10, 67, 49, 61, 40, 40, 65, 32, 97, 41, 32, 40, 67, 32, 97, 41, 41, 10]⟩, ⟨#[65, 49, 61, 91, 97, 63, 49, 58, 40, 97, 43, 40, 65, 32, 40, 97, 45, 49, 41, 41, 41, 93, 10]⟩, ⟨#[65, 49, 61, 60, 97, 44, 40, 65, 32, 40, 97, 43, 49, 41, 41, 62, 10, 66, 50, 61, 91, 97, 63, 126, 98, 58, 40, 40, 66, 32, 40, 97, 45, 49, 41, 41, 32, 94, 98, 41, 93, 10]⟩, ⟨#[65, 51, 61, 40, 40, 97, 32, 99, 41, 32, 40, 98, 32, 99, 41, 41, 10, 66, 50, 61, 97, 10, 67, 48, 61, 40, 40, 65, 32, 66, 41, 32, 66, 41, 10]⟩, ⟨#[65, 49, 61, 60, 94, 97, 44, 126, 97, 62, 10, 66, 49, 61, 40, 126, 97, 43, 94, 97, 41, 10, 67, 49, 61, 40, 66, 32, 40, 65, 32, 60, 97, 44, 50, 62, 41, 41, 10]⟩, ⟨#[65, 50, 61, 91, 97, 63, 98, 58, 40, 40, 65, 32, 40, 97, 45, 49, 41, 41, 32, 40, 98, 43, 98, 41, 41, 93, 10]⟩, ⟨#[65, 48, 61, 60, 49, 44, 65, 62, 10, 66, 49, 61, 126, 94, 97, 10]⟩, ⟨#[65, 50, 61, 40, 97, 32, 98, 41, 10, 66, 49, 61, 40, 40, 65, 32, 67, 41, 32, 97, 41, 10, 67, 49, 61, 40, 97, 45, 51, 41, 10]⟩, ⟨#[65, 50, 61, 91, 98, 63, 49, 58, 40, 40, 67, 32, 97, 41, 32, 40, 40, 65, 32, 97, 41, 32, 40, 98, 45, 49, 41, 41, 41, 93, 10, 66, 49, 61, 40, 97, 43, 49, 41, 10, 67, 50, 61, 40, 97, 32, 98, 41, 10]⟩, ⟨#[65, 49, 61, 40, 66, 32, 97, 41, 10, 66, 49, 61, 40, 65, 32, 97, 41, 10]⟩, ⟨#[]⟩]
def txS (i : Nat) : ByteArray := txL.getD i ⟨#[]⟩
/-- the texts of programs, in a row -/
def TxAt (w w' : World) (e : Ending) : Prop := ∃ g, e = .returned (.slice (some ⟨g, 0, none⟩) 12 12) ∧ w.heap.size ≤ g ∧ g < w'.heap.size ∧ (∀ i, i < 12 → w'.cell? ⟨g, i, none⟩ = some (.string (txS i))) ∧ Below w.heap.size w w'
theorem txC_txS : ∀ i, i < 12 → txC[i]? = some (.string (txS i)) := by
  intro i hi
  rcases (by omega : i = 0 ∨ i = 1 ∨ i = 2 ∨ i = 3 ∨ i = 4 ∨ i = 5 ∨ i = 6 ∨ i = 7 ∨ i = 8 ∨ i = 9 ∨ i = 10 ∨ i = 11) with rfl | rfl | rfl | rfl | rfl | rfl | rfl | rfl | rfl | rfl | rfl | rfl <;> rfl
theorem txS_size : ∀ i, i < 12 → (txS i).size ≤ 1000 := by
  intro i hi
  rcases (by omega : i = 0 ∨ i = 1 ∨ i = 2 ∨ i = 3 ∨ i = 4 ∨ i = 5 ∨ i = 6 ∨ i = 7 ∨ i = 8 ∨ i = 9 ∨ i = 10 ∨ i = 11) with rfl | rfl | rfl | rfl | rfl | rfl | rfl | rfl | rfl | rfl | rfl | rfl <;> decide
theorem goS_size (i j : Nat) (hi : i < 12) (hj : j < 6) : (goS i j).size ≤ 1000 := by
  rcases (by omega : i = 0 ∨ i = 1 ∨ i = 2 ∨ i = 3 ∨ i = 4 ∨ i = 5 ∨ i = 6 ∨ i = 7 ∨ i = 8 ∨ i = 9 ∨ i = 10 ∨ i = 11) with rfl | rfl | rfl | rfl | rfl | rfl | rfl | rfl | rfl | rfl | rfl | rfl
  all_goals
    rcases (by omega : j = 0 ∨ j = 1 ∨ j = 2 ∨ j = 3 ∨ j = 4 ∨ j = 5) with rfl | rfl | rfl | rfl | rfl | rfl
    all_goals decide
theorem goN_rng : ∀ i, i < 12 → 2 ≤ goN i ∧ goN i ≤ 6 := by
  intro i hi
  rcases (by omega : i = 0 ∨ i = 1 ∨ i = 2 ∨ i = 3 ∨ i = 4 ∨ i = 5 ∨ i = 6 ∨ i = 7 ∨ i = 8 ∨ i = 9 ∨ i = 10 ∨ i = 11) with rfl | rfl | rfl | rfl | rfl | rfl | rfl | rfl | rfl | rfl | rfl | rfl <;> decide
set_option maxRecDepth 100000 in
set_option maxHeartbeats 1600000 in
theorem l1TextsAt_calls (w : World) : Calls Try.prog 92 #[] w fun e w' => TxAt w w' e := by
  have HT : Hid (TxAt w (w.alloc (.cells txC 9)) (.returned (.slice (some ⟨w.heap.size, 0, none⟩) 12 12))) :=
    ⟨_, rfl, Nat.le_refl _, by rw [Deep.nblk_alloc]; omega, fun i hi => box_cell w _ _ i _ (txC_txS i hi), box_below _ _⟩
  go_enter Try.func92, Try.ntmps92
  go_wp2_with fail
  go_ret
  exact HT.out
/-- rows that are laid one behind the other -/
def alls : List Obj → World → World
  | [], w => w
  | o :: os, w => alls os (w.alloc o)
theorem alls_below : ∀ (os : List Obj) (w : World), Below w.heap.size w (alls os w)
  | [], w => Below.refl _ _
  | o :: os, w => (box_below w o).trans ((alls_below os (w.alloc o)).mono (by rw [Deep.nblk_alloc]; omega))
theorem alls_size : ∀ (os : List Obj) (w : World), (alls os w).heap.size = w.heap.size + os.length
  | [], w => rfl
  | o :: os, w => by rw [alls, alls_size os, Deep.nblk_alloc, List.length_cons]; omega
theorem alls_at : ∀ (os : List Obj) (w : World) (i : Nat) (o : Obj), os[i]? = some o → (alls os w).heap[w.heap.size + i]? = some o
  | [], w, i, o, h => by simp at h
  | x :: os, w, 0, o, h => by
    simp at h
    subst h
    exact ((alls_below os (w.alloc x)).block _ (by rw [Deep.nblk_alloc]; omega)).trans (Deep.blk_alloc_new _ _)
  | x :: os, w, i + 1, o, h => by
    have := alls_at os (w.alloc x) i o (by simpa using h)
    rw [Deep.nblk_alloc] at this
    rw [show w.heap.size + (i + 1) = w.heap.size + 1 + i by omega]
    exact this

abbrev goOs : List Obj := [.cells goC0 9, .cells goC1 9, .cells goC2 9, .cells goC3 9, .cells goC4 9, .cells goC5 9, .cells goC6 9, .cells goC7 9, .cells goC8 9, .cells goC9 9, .cells goC10 9, .cells goC11 9]
/-- the rows of goals -/
def GoRow (w : World) (e : Ending) (w' : World) : Prop := ∃ g, e = .returned (.slice (some ⟨g, 0, none⟩) 12 12) ∧ w.heap.size ≤ g ∧ g < w'.heap.size ∧ (∀ i, i < 12 → ∃ b, w.heap.size ≤ b ∧ b < w'.heap.size ∧ w'.cell? ⟨g, i, none⟩ = some (.slice (some ⟨b, 0, none⟩) (goN i) (goN i)) ∧ ∀ j, j < goN i → w'.cell? ⟨b, j, none⟩ = some (.string (goS i j))) ∧ Below w.heap.size w w'
abbrev goO (w : World) : Array Value := #[.slice (some ⟨w.heap.size, 0, none⟩) 3 3, .slice (some ⟨w.heap.size + 1, 0, none⟩) 3 3, .slice (some ⟨w.heap.size + 2, 0, none⟩) 3 3, .slice (some ⟨w.heap.size + 3, 0, none⟩) 4 4, .slice (some ⟨w.heap.size + 4, 0, none⟩) 3 3, .slice (some ⟨w.heap.size + 5, 0, none⟩) 3 3, .slice (some ⟨w.heap.size + 6, 0, none⟩) 2 2, .slice (some ⟨w.heap.size + 7, 0, none⟩) 3 3, .slice (some ⟨w.heap.size + 8, 0, none⟩) 3 3, .slice (some ⟨w.heap.size + 9, 0, none⟩) 3 3, .slice (some ⟨w.heap.size + 10, 0, none⟩) 2 2, .slice (some ⟨w.heap.size + 11, 0, none⟩) 6 6]
theorem goOs_at : ∀ i, i < 12 → ∃ C, goOs[i]? = some (.cells C 9) ∧ ∀ j, j < goN i → C[j]? = some (.string (goS i j)) := by
  intro i hi
  rcases (by omega : i = 0 ∨ i = 1 ∨ i = 2 ∨ i = 3 ∨ i = 4 ∨ i = 5 ∨ i = 6 ∨ i = 7 ∨ i = 8 ∨ i = 9 ∨ i = 10 ∨ i = 11) with rfl | rfl | rfl | rfl | rfl | rfl | rfl | rfl | rfl | rfl | rfl | rfl
  all_goals refine ⟨_, rfl, fun j hj => ?_⟩
  all_goals
    have h6 : j < 6 := Nat.lt_of_lt_of_le hj (by decide)
    rcases (by omega : j = 0 ∨ j = 1 ∨ j = 2 ∨ j = 3 ∨ j = 4 ∨ j = 5) with rfl | rfl | rfl | rfl | rfl | rfl
    all_goals first | rfl | exact absurd hj (by decide)
theorem goO_at (w : World) : ∀ i, i < 12 → (goO w)[i]? = some (.slice (some ⟨w.heap.size + i, 0, none⟩) (goN i) (goN i)) := by
  intro i hi
  rcases (by omega : i = 0 ∨ i = 1 ∨ i = 2 ∨ i = 3 ∨ i = 4 ∨ i = 5 ∨ i = 6 ∨ i = 7 ∨ i = 8 ∨ i = 9 ∨ i = 10 ∨ i = 11) with rfl | rfl | rfl | rfl | rfl | rfl | rfl | rfl | rfl | rfl | rfl | rfl <;> rfl
theorem go_row (w : World) : GoRow w (.returned (.slice (some ⟨w.heap.size + 12, 0, none⟩) 12 12)) ((alls goOs w).alloc (.cells (goO w) 126)) := by
  have hz : (alls goOs w).heap.size = w.heap.size + 12 := alls_size goOs w
  have hb := (alls_below goOs w).trans ((box_below (alls goOs w) (.cells (goO w) 126)).mono (by omega))
  refine ⟨_, rfl, by omega, by rw [Deep.nblk_alloc]; omega, fun i hi => ⟨w.heap.size + i, by omega, by rw [Deep.nblk_alloc]; omega, ?_, fun j hj => ?_⟩, hb⟩
  · have h := Deep.blk_alloc_new (alls goOs w) (.cells (goO w) 126)
    rw [hz] at h
    exact cell_of_blk h i _ (goO_at w i hi)
  · obtain ⟨C, h1, h2⟩ := goOs_at i hi
    have h := (Deep.blk_alloc_lt (alls goOs w) (.cells (goO w) 126) _ (by omega : w.heap.size + i < (alls goOs w).heap.size)).trans (alls_at goOs w i _ h1)
    exact cell_of_blk h j _ (h2 j hj)

set_option maxRecDepth 100000 in
set_option maxHeartbeats 1600000 in
theorem l2Goals_calls (w : World) : Calls Try.prog 94 #[] w (GoRow w) := by
  have HT := mkHid (go_row w)
  go_enter Try.func94, Try.ntmps94
  go_wp2_with fail
  go_ret
  exact HT.out
end Go.Proofs.Ytjdlfpdljmohiaa
/-
  THE FIXED GOALS ARE VALID for their programs: by evaluation.
-/
namespace Go.Proofs.Ytjdlfpdljmohiaa
set_option linter.unusedVariables false
set_option linter.unusedSimpArgs false
open Go.RowKit

theorem goals_check : ((List.range 12).all fun i => (List.range (goN i)).all fun j => shB 0 ((parseP (txS i)).getD []).length 8 (parseE (goS i j)).1 && decide (1 + szT (parseE (goS i j)).1 ≤ 40)) = true := by decide +kernel
theorem goals_valid (i j : Nat) (hi : i < 12) (hj : j < goN i) : shB 0 ((parseP (txS i)).getD []).length 8 (parseE (goS i j)).1 = true ∧ 1 + szT (parseE (goS i j)).1 ≤ 40 := by
  have h := goals_check
  rw [List.all_eq_true] at h
  have h1 := h i (by simpa using hi)
  rw [List.all_eq_true] at h1
  have h2 := h1 j (by simpa using hj)
  simpa only [Bool.and_eq_true, decide_eq_true_eq] using h2
end Go.Proofs.Ytjdlfpdljmohiaa
/-
  THE MODEL's COPY OF AN EXPRESSION (l1Copy): the same tree in new memory; nothing that was there is changed.
-/
namespace Go.Proofs.Ytjdlfpdljmohiaa
set_option linter.unusedVariables false
set_option linter.unusedSimpArgs false
open Go.RowKit

/-- what holds behind k rounds of a loop that appends to the Kids of an expression of its own: the expression's block, the row, and all else as it was -/
def ApRel (o n : Int) (ts : List Tr) (B lo : Nat) (v : Value) (wr : World) : Prop := OwnTr wr lo ts v ∧ wr.heap[B]? = some (.cells #[.int .i64 o, .int .i64 n, v] 30)

theorem ApRel.drew {o n : Int} {ts : List Tr} {B lo : Nat} {v : Value} {w : World} (h : ApRel o n ts B lo v w) : ApRel o n ts B lo v w.drew := ⟨h.1.next (Nat.le_refl _) (fun _ _ _ => rfl), h.2⟩
end Go.Proofs.Ytjdlfpdljmohiaa
/-
  LISTS OF TREES THAT A CALL BUILDS BY append, WHERE ONE BLOCK OF THE CALLER's (a reader's) IS WRITTEN BETWEEN.
-/
namespace Go.Proofs.Ytjdlfpdljmohiaa
set_option linter.unusedVariables false
set_option linter.unusedSimpArgs false
open Go.RowKit

theorem KidsOn.but {w w' : World} {lo b : Nat} {ks : List Tr} {c : Value} (h : KidsOn w (Btw lo w.heap.size) ks c) (hb : But b w w') (hlo : b < lo) : KidsOn w' (Btw lo w'.heap.size) ks c :=
  h.mono (fun _ hk => ⟨hk.1, Nat.lt_of_lt_of_le hk.2 hb.size⟩) (fun k hk => hb.block k hk.2 (by have := hk.1; omega))

/-- ahead of append: the row, in the world with the new tree's block -/
theorem apBut_mid {o n : Int} {ts : List Tr} {B lo b : Nat} {v : Value} {w w1 : World} (h : ApRel o n ts B lo v w) (hb : But b w w1) (hblo : b < lo) (obj : Obj) :
    ∃ xs, (w1.alloc obj).ownsRow lo 30 3 v ts.length xs ∧ ∀ j (hj : j < ts.length), ∃ a b c, xs[j * 3]? = some a ∧ xs[j * 3 + 1]? = some b ∧ xs[j * 3 + 2]? = some c ∧ TrOn (w1.alloc obj) (fun k => lo ≤ k ∧ k < (w1.alloc obj).heap.size ∧ some k ≠ v.ownBlock) ts[j] a b c :=
  h.1.next (w' := w1.alloc obj) (by rw [Deep.nblk_alloc]; have := hb.size; omega) (fun k hl hk => (Deep.blk_alloc_lt _ _ _ (Nat.lt_of_lt_of_le hk hb.size)).trans (hb.block k hk (by omega)))
/-- behind append: every block that was there below the row, but the reader's, and that one as the call left it -/
theorem apBut_other {o n : Int} {ts : List Tr} {B lo b : Nat} {v : Value} {w w1 w3 : World} {obj : Obj} (h : ApRel o n ts B lo v w) (hsz : w.heap.size ≤ w1.heap.size) (hg : (w1.alloc obj).grownBy w3 v.ownBlock) (k : Nat) (hk : k < lo) (hkw : k < w1.heap.size) : w3.heap[k]? = w1.heap[k]? := by
  have hOB : ∀ k, v.ownBlock = some k → lo ≤ k ∧ k < w.heap.size := by
    obtain ⟨xs', h1, _⟩ := h.1
    exact h1.lt
  rw [hg.block k (by rw [Deep.nblk_alloc]; omega) (fun e => by have := (hOB k e.symm).1; omega), Deep.blk_alloc_lt _ _ _ hkw]
/-- the step -/
theorem apBut_step {o n : Int} {ts : List Tr} {B lo b : Nat} {v v' : Value} {w w1 w3 : World} {t : Tr} {c : Value} (h : ApRel o n ts B lo v w) (hB : B < lo) (hBb : B ≠ b) (hblo : b < lo) (hlo : lo ≤ w.heap.size) (hb : But b w w1) (hk : KidsOn w1 (Btw w.heap.size w1.heap.size) t.kids c) (ho : I64 t.op) (hn : I64 t.num)
    (xs : List Value) (hx : (w1.alloc (.cells #[.int .i64 t.op, .int .i64 t.num, c] 30)).ownsRow lo 30 3 v ts.length xs)
    (hown : w3.ownsRow lo 30 3 v' (ts.length + 1) (xs ++ [.int .i64 t.op, .int .i64 t.num, c])) (hg : (w1.alloc (.cells #[.int .i64 t.op, .int .i64 t.num, c] 30)).grownBy w3 v.ownBlock) (hw : v'.ownBlock = v.ownBlock ∨ ∃ g, v'.ownBlock = some g ∧ (w1.alloc (.cells #[.int .i64 t.op, .int .i64 t.num, c] 30)).heap.size ≤ g)
    (hxs : ∀ j (hj : j < ts.length), ∃ a b c', xs[j * 3]? = some a ∧ xs[j * 3 + 1]? = some b ∧ xs[j * 3 + 2]? = some c' ∧ TrOn (w1.alloc (.cells #[.int .i64 t.op, .int .i64 t.num, c] 30)) (fun k => lo ≤ k ∧ k < (w1.alloc (.cells #[.int .i64 t.op, .int .i64 t.num, c] 30)).heap.size ∧ some k ≠ v.ownBlock) ts[j] a b c') :
    ApRel o n (ts ++ [t]) B lo v' (w3.setCell ⟨B, 2, none⟩ v') := by
  have hsz := hb.size
  have hOB : ∀ k, v.ownBlock = some k → lo ≤ k ∧ k < w.heap.size := by
    obtain ⟨xs', h1, _⟩ := h.1
    exact h1.lt
  have h2 : OwnTr (w1.alloc (.cells #[.int .i64 t.op, .int .i64 t.num, c] 30)) lo ts v := ⟨xs, hx, hxs⟩
  have hn3 := h2.step (t := t) (a := .int .i64 t.op) (b := .int .i64 t.num) (c := c) xs hx (by rw [Deep.nblk_alloc]; omega) hxs
    (trOn_iff.2 ⟨rfl, rfl, ho, hn, hk.mono (fun k hk => ⟨by have := hk.1; omega, by rw [Deep.nblk_alloc]; have := hk.2; omega, fun e => by have := (hOB k e.symm).2; have := hk.1; omega⟩) (fun k hk => Deep.blk_alloc_lt _ _ _ hk.2)⟩) hown hg hw
  have hB3 : w3.heap[B]? = some (.cells #[.int .i64 o, .int .i64 n, v] 30) := by
    rw [apBut_other (B := B) (b := b) h hsz hg B hB (by omega), hb.block B (by omega) hBb]
    exact h.2
  refine ⟨hn3.next (by rw [size_setCell]; exact Nat.le_refl _) (fun k h1 h2 => Below.heap_setCell _ _ _ _ (by show k ≠ B; omega)), ?_⟩
  simp [World.setCell, Array.getElem?_modify, hB3]
end Go.Proofs.Ytjdlfpdljmohiaa
