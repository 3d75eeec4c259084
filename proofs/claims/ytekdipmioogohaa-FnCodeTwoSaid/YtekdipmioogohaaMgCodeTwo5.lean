/-
  slices.Reverse AT A ROW OF EXPRESSIONS: the elements' cells, turned around; nothing else is changed.
-/
import Derived.Test.YtekdipmioogohaaMgCodeTwo1
import Derived.Test.YtekdipmioogohaaProg
import Derived.Deep.RegionHeld3
import Derived.Deep.RegionWith
import Derived.Deep.DeepMust
import Derived.BigRegion
import Derived.Test.YtekdipmioogohaaMgCodeTwo4
import Derived.Deep.QuietTactic
import Derived.BigQuiet
import Derived.Test.YtekdipmioogohaaMgCodeTwo3
import Derived.Deep.DeepCutAuto
namespace Go.Proofs.Ytekdipmioogohaa
set_option linter.unusedVariables false
set_option linter.unusedSimpArgs false
open Go.RowKit

/-- a row behind k exchanges from both ends -/
def revF (n k : Nat) (f : Nat → Value) (i : Nat) : Value := if i / 3 < n ∧ (i / 3 < k ∨ n ≤ i / 3 + k) then f ((n - 1 - i / 3) * 3 + i % 3) else f i

theorem revF_at (n k : Nat) (f : Nat → Value) (j r : Nat) (hr : r < 3) : revF n k f (j * 3 + r) = if j < n ∧ (j < k ∨ n ≤ j + k) then f ((n - 1 - j) * 3 + r) else f (j * 3 + r) := by
  unfold revF
  rw [show (j * 3 + r) / 3 = j by omega, show (j * 3 + r) % 3 = r by omega]
theorem grown_set {w w1 : World} {g : Nat} (h : w.grownBy w1 (some g)) (i : Nat) (u : Value) : w.grownBy (w1.setCell ⟨g, i, none⟩ u) (some g) :=
  ⟨h.os, h.tape, h.output, by rw [size_setCell]; exact h.size, fun k hk hne => (Below.heap_setCell _ _ _ _ (fun e => hne (by rw [e]))).trans (h.block k hk hne)⟩
theorem grown_drew_r {w w1 : World} {r : Option Nat} (h : w.grownBy w1 r) : w.grownBy w1.drew r := ⟨h.os, h.tape, h.output, h.size, h.block⟩

end Go.Proofs.Ytekdipmioogohaa
/-
  THE PROGRAM's unwind: the function of nested applications, and its arguments in order; nothing that was there is changed.
-/
namespace Go.Proofs.Ytekdipmioogohaa
set_option linter.unusedVariables false
set_option linter.unusedSimpArgs false
open Go.RowKit

/-- a row of cards, in new memory -/
def CdRow (w : World) (lo : Nat) (l : List Cd) (v : Value) : Prop :=
  (l = [] ∧ v = .slice none 0 0) ∨ ∃ g cap f, v = .slice (some ⟨g, 0, none⟩) l.length cap ∧ lo ≤ g ∧ l.length ≤ cap ∧ cap ≤ maxLen ∧ w.rowIs g 32 (cap * 3) f ∧
    ∀ j (hj : j < l.length), f (j * 3) = l[j].2.1 ∧ f (j * 3 + 1) = l[j].2.2.1 ∧ f (j * 3 + 2) = l[j].2.2.2

theorem CdRow.keep {w w' : World} {lo lo' : Nat} {l : List Cd} {v : Value} (h : CdRow w lo l v) (hl : lo' ≤ lo) (hk : ∀ k, lo ≤ k → k < w.heap.size → w'.heap[k]? = w.heap[k]?) : CdRow w' lo' l v := by
  rcases h with h | ⟨g, cap, f, e, hg, hn, hc, hr, hv⟩
  · exact Or.inl h
  · exact Or.inr ⟨g, cap, f, e, Nat.le_trans hl hg, hn, hc, hr.of_block (hk g hg hr.lt), hv⟩
/-- cards, as cells -/
def cdCells (l : List Cd) : List Value := l.flatMap fun d => [d.2.1, d.2.2.1, d.2.2.2]
theorem cdCells_at : ∀ (l : List Cd) (j : Nat) (hj : j < l.length), (cdCells l)[j * 3]? = some l[j].2.1 ∧ (cdCells l)[j * 3 + 1]? = some l[j].2.2.1 ∧ (cdCells l)[j * 3 + 2]? = some l[j].2.2.2
  | [], j, hj => by simp at hj
  | d :: l, 0, _ => by simp [cdCells]
  | d :: l, j + 1, hj => by
    have := cdCells_at l j (by simpa using hj)
    have e : ∀ r, (cdCells (d :: l))[(j + 1) * 3 + r]? = (cdCells l)[j * 3 + r]? := fun r => by
      rw [show (j + 1) * 3 + r = 3 + (j * 3 + r) by omega]
      show ([d.2.1, d.2.2.1, d.2.2.2] ++ cdCells l)[3 + (j * 3 + r)]? = _
      rw [List.getElem?_append_right (by simp)]
      simp
    have e0 := e 0
    rw [Nat.add_zero, Nat.add_zero] at e0
    rw [e0, e 1, e 2]
    simpa using this
theorem own_cd {w : World} {base : Nat} {v : Value} {l : List Cd} (h : w.ownsRow base 32 3 v l.length (cdCells l)) : CdRow w base l v := by
  rcases h.2 with ⟨rfl, h0⟩ | ⟨g, cap, cur, rfl, hg, hh, hn, hc, hs, htk⟩
  · exact Or.inl ⟨List.eq_nil_of_length_eq_zero h0, rfl⟩
  · refine Or.inr ⟨g, cap, fun i => cur.getD i undef, rfl, hg, hn, hc, ⟨cur, hh, hs, fun i hi => ?_⟩, fun j hj => ?_⟩
    · simp [Array.getElem?_eq_getElem (hs ▸ hi : i < cur.size), Array.getD, (hs ▸ hi : i < cur.size)]
    · have hget : ∀ i v, i < l.length * 3 → (cdCells l)[i]? = some v → cur.getD i undef = v := fun i v hi hv => by
        rw [← htk, List.getElem?_take_of_lt hi, Array.getElem?_toList] at hv
        rw [Array.getD_eq_getD_getElem?, hv]; rfl
      obtain ⟨h0, h1, h2⟩ := cdCells_at l j hj
      exact ⟨hget _ _ (by omega) h0, hget _ _ (by omega) h1, hget _ _ (by omega) h2⟩

theorem ptrK : PKey Try.prog 54 embP PlainAt := by
  obtain ⟨j, hj, hs⟩ : ∃ j, Try.prog.info? 32 = some j ∧ j.size ≠ 0 := by
    have h : (Try.prog.info? 32).map (fun i => i.size) = some 3 := by kernel_rfl
    cases hi : Try.prog.info? 32 with
    | none => rw [hi] at h; simp at h
    | some j => rw [hi] at h; simp at h; exact ⟨j, rfl, by omega⟩
  exact ptr_key Try.underlying54 hj hs
theorem zeroBool (w : World) : (zeroValue 4).run Try.prog w = .ok (.bool false) w := by kernel_rfl

/-- how long a slice is -/
def slLen : Value → Nat
  | .slice _ n _ => n
  | _ => 0

/-- the three cells of a tree's box -/
def boxF (o n : Int) (c : Value) : Nat → Value := fun i => if i = 0 then .int .i64 o else if i = 1 then .int .i64 n else c
theorem box3 (o n : Int) (c : Value) : ∀ i, i < (#[.int .i64 o, .int .i64 n, c] : Array Value).size → (#[.int .i64 o, .int .i64 n, c] : Array Value)[i]? = some (boxF o n c i) := by
  intro i hi
  have hi' : i < 3 := hi
  rcases (by omega : i = 0 ∨ i = 1 ∨ i = 2) with rfl | rfl | rfl <;> rfl

/-- what holds on the way down -/
def URel (w : World) (a : Tr) (c : Value) (v : Value) (wr : World) : Prop :=
  ∃ (t : Tr) (ct : Value) (l : List Cd) (M : Addr → Option Value), Unw w a c t ct l ∧ wr.rowIs w.heap.size 32 3 (boxF t.op t.num ct) ∧ wr.rowIs (w.heap.size + 1) 32 3 (boxF 0 0 (.slice none 0 0)) ∧
    PMap embP wr (w.heap.size + 2) (fun x => ∃ s, LiesAt w (Pl w) x s ∧ szT t ≤ szT s) M ∧ wr.ownsRow (w.heap.size + 3) 32 3 v l.length (cdCells l) ∧ slLen v = l.length ∧ Below w.heap.size w wr

end Go.Proofs.Ytekdipmioogohaa
/-
  THE PROGRAM's ExprValid (opOf, nodeOf, the four kinds' fits, nodesLeft, ExprValid): which trees it takes for valid; nothing that was there is changed.
-/
namespace Go.Proofs.Ytekdipmioogohaa
set_option linter.unusedVariables false
set_option linter.unusedSimpArgs false
open Go.RowKit

/-- how nodes of a kind with operands are written -/
def opKids (op : Int) : Int := if op = 4 then 2 else if op = 5 then 2 else if op = 6 then 1 else if op = 7 then 1 else if op = 8 then 2 else if op = 9 then 2 else if op = 10 then 3 else 0
def opMarks (op : Int) : ByteArray := if op = 4 then ⟨#[40, 32, 41]⟩ else if op = 5 then ⟨#[60, 44, 62]⟩ else if op = 6 then ⟨#[126]⟩ else if op = 7 then ⟨#[94]⟩ else if op = 8 then ⟨#[40, 43, 41]⟩ else if op = 9 then ⟨#[40, 45, 41]⟩ else if op = 10 then ⟨#[91, 63, 58, 93]⟩ else ⟨#[]⟩
def opOk (op : Int) : Bool := decide (4 ≤ op ∧ op ≤ 10)

/-- opOf has handed back the row of a kind -/
def OpRow (op : Int) (w : World) (e : Ending) (w' : World) : Prop := e = .returned (.tuple #[.agg #[.int .i64 (opKids op), .string (opMarks op)], .bool (opOk op)]) ∧ Below w.heap.size w w'

theorem opRow_4 {op : Int} (h : (op == 4) = true) : opKids op = 2 ∧ opMarks op = ⟨#[40, 32, 41]⟩ ∧ opOk op = true := by
  have e : op = 4 := by simpa using h
  subst e
  exact ⟨rfl, rfl, rfl⟩
theorem opRow_5 {op : Int} (h : (op == 5) = true) : opKids op = 2 ∧ opMarks op = ⟨#[60, 44, 62]⟩ ∧ opOk op = true := by
  have e : op = 5 := by simpa using h
  subst e
  exact ⟨rfl, rfl, rfl⟩
theorem opRow_6 {op : Int} (h : (op == 6) = true) : opKids op = 1 ∧ opMarks op = ⟨#[126]⟩ ∧ opOk op = true := by
  have e : op = 6 := by simpa using h
  subst e
  exact ⟨rfl, rfl, rfl⟩
theorem opRow_7 {op : Int} (h : (op == 7) = true) : opKids op = 1 ∧ opMarks op = ⟨#[94]⟩ ∧ opOk op = true := by
  have e : op = 7 := by simpa using h
  subst e
  exact ⟨rfl, rfl, rfl⟩
theorem opRow_8 {op : Int} (h : (op == 8) = true) : opKids op = 2 ∧ opMarks op = ⟨#[40, 43, 41]⟩ ∧ opOk op = true := by
  have e : op = 8 := by simpa using h
  subst e
  exact ⟨rfl, rfl, rfl⟩
theorem opRow_9 {op : Int} (h : (op == 9) = true) : opKids op = 2 ∧ opMarks op = ⟨#[40, 45, 41]⟩ ∧ opOk op = true := by
  have e : op = 9 := by simpa using h
  subst e
  exact ⟨rfl, rfl, rfl⟩
theorem opRow_10 {op : Int} (h : (op == 10) = true) : opKids op = 3 ∧ opMarks op = ⟨#[91, 63, 58, 93]⟩ ∧ opOk op = true := by
  have e : op = 10 := by simpa using h
  subst e
  exact ⟨rfl, rfl, rfl⟩
theorem opRow_no {op : Int} (h4 : (op == 4) = false) (h5 : (op == 5) = false) (h6 : (op == 6) = false) (h7 : (op == 7) = false) (h8 : (op == 8) = false) (h9 : (op == 9) = false) (h10 : (op == 10) = false) : opKids op = 0 ∧ opMarks op = ⟨#[]⟩ ∧ opOk op = false := by
  simp only [beq_eq_false_iff_ne] at *
  refine ⟨?_, ?_, ?_⟩
  · unfold opKids; rw [if_neg h4, if_neg h5, if_neg h6, if_neg h7, if_neg h8, if_neg h9, if_neg h10]
  · unfold opMarks; rw [if_neg h4, if_neg h5, if_neg h6, if_neg h7, if_neg h8, if_neg h9, if_neg h10]
  · unfold opOk; rw [decide_eq_false]; omega

set_option maxHeartbeats 400000 in
theorem opOf_calls (op : Int) (w : World) : Calls Try.prog 42 #[.int .i64 op] w (OpRow op w) := by
  go_enter Try.func42, Try.ntmps42
  go_wp2_with fail
  all_goals first
    | (rename (op == 4) = true => ht; obtain ⟨e1, e2, e3⟩ := opRow_4 ht; refine bodyPost_ret (v := .tuple #[.agg #[.int .i64 2, .string ⟨#[40, 32, 41]⟩], .bool true]) (by simp [results, Try.results42, go_sem]) rfl ⟨by rw [e1, e2, e3], box_below _ _⟩)
    | (rename (op == 5) = true => ht; obtain ⟨e1, e2, e3⟩ := opRow_5 ht; refine bodyPost_ret (v := .tuple #[.agg #[.int .i64 2, .string ⟨#[60, 44, 62]⟩], .bool true]) (by simp [results, Try.results42, go_sem]) rfl ⟨by rw [e1, e2, e3], box_below _ _⟩)
    | (rename (op == 6) = true => ht; obtain ⟨e1, e2, e3⟩ := opRow_6 ht; refine bodyPost_ret (v := .tuple #[.agg #[.int .i64 1, .string ⟨#[126]⟩], .bool true]) (by simp [results, Try.results42, go_sem]) rfl ⟨by rw [e1, e2, e3], box_below _ _⟩)
    | (rename (op == 7) = true => ht; obtain ⟨e1, e2, e3⟩ := opRow_7 ht; refine bodyPost_ret (v := .tuple #[.agg #[.int .i64 1, .string ⟨#[94]⟩], .bool true]) (by simp [results, Try.results42, go_sem]) rfl ⟨by rw [e1, e2, e3], box_below _ _⟩)
    | (rename (op == 8) = true => ht; obtain ⟨e1, e2, e3⟩ := opRow_8 ht; refine bodyPost_ret (v := .tuple #[.agg #[.int .i64 2, .string ⟨#[40, 43, 41]⟩], .bool true]) (by simp [results, Try.results42, go_sem]) rfl ⟨by rw [e1, e2, e3], box_below _ _⟩)
    | (rename (op == 9) = true => ht; obtain ⟨e1, e2, e3⟩ := opRow_9 ht; refine bodyPost_ret (v := .tuple #[.agg #[.int .i64 2, .string ⟨#[40, 45, 41]⟩], .bool true]) (by simp [results, Try.results42, go_sem]) rfl ⟨by rw [e1, e2, e3], box_below _ _⟩)
    | (rename (op == 10) = true => ht; obtain ⟨e1, e2, e3⟩ := opRow_10 ht; refine bodyPost_ret (v := .tuple #[.agg #[.int .i64 3, .string ⟨#[91, 63, 58, 93]⟩], .bool true]) (by simp [results, Try.results42, go_sem]) rfl ⟨by rw [e1, e2, e3], box_below _ _⟩)
    | (rename (op == 4) = false => h4; rename (op == 5) = false => h5; rename (op == 6) = false => h6; rename (op == 7) = false => h7; rename (op == 8) = false => h8; rename (op == 9) = false => h9; rename (op == 10) = false => h10; obtain ⟨e1, e2, e3⟩ := opRow_no h4 h5 h6 h7 h8 h9 h10; refine bodyPost_ret (v := .tuple #[.agg #[.int .i64 0, .string ⟨#[]⟩], .bool false]) (by simp [results, Try.results42, go_sem]) rfl ⟨by rw [e1, e2, e3], box_below _ _⟩)

set_option maxHeartbeats 400000 in
theorem nodeOf_1 (n : Int) (len : Nat) (w : World) : Calls Try.prog 39 #[.int .i64 1, .int .i64 n, .int .i64 (len : Int)] w fun e w' => e = .returned (.tuple #[.iface 82 (.int .i64 n), .bool ((len : Int) == 0)]) ∧ Below w.heap.size w w' := by
  go_enter Try.func39, Try.ntmps39
  go_wp2_with fail
  go_ret2
  exact ⟨rfl, Below.refl _ _⟩

set_option maxHeartbeats 400000 in
theorem nodeOf_2 (n : Int) (len : Nat) (w : World) : Calls Try.prog 39 #[.int .i64 2, .int .i64 n, .int .i64 (len : Int)] w fun e w' => e = .returned (.tuple #[.iface 83 (.int .i64 n), .bool ((len : Int) == 0)]) ∧ Below w.heap.size w w' := by
  go_enter Try.func39, Try.ntmps39
  go_wp2_with fail
  go_ret2
  exact ⟨rfl, Below.refl _ _⟩

set_option maxHeartbeats 400000 in
theorem nodeOf_3 (n : Int) (len : Nat) (w : World) : Calls Try.prog 39 #[.int .i64 3, .int .i64 n, .int .i64 (len : Int)] w fun e w' => e = .returned (.tuple #[.iface 84 (.int .i64 n), .bool ((len : Int) == 0)]) ∧ Below w.heap.size w w' := by
  go_enter Try.func39, Try.ntmps39
  go_wp2_with fail
  go_ret2
  exact ⟨rfl, Below.refl _ _⟩

theorem ret_node {v : Value} {a b : Bool} (h : a = b) : Ending.returned (.tuple #[v, .bool a]) = .returned (.tuple #[v, .bool b]) := by rw [h]
/-- nodeOf has handed back a node with operands -/
def OpNode (op : Int) (b : Bool) (w : World) (e : Ending) (w' : World) : Prop := e = .returned (.tuple #[.iface 78 (.agg #[.int .i64 (opKids op), .string (opMarks op)]), .bool b]) ∧ Below w.heap.size w w'
theorem opKids_range (op : Int) : 0 ≤ opKids op ∧ opKids op ≤ 3 := by
  unfold opKids
  repeat' split
  all_goals omega

set_option maxHeartbeats 800000 in
theorem nodeOf_op (op n : Int) (len : Nat) (w : World) (t1 : (op == 1) = false) (t2 : (op == 2) = false) (t3 : (op == 3) = false) :
    Calls Try.prog 39 #[.int .i64 op, .int .i64 n, .int .i64 (len : Int)] w (OpNode op (opOk op && ((n == 0) && ((len : Int) == opKids op))) w) := by
  have hkr := opKids_range op
  go_enter Try.func39, Try.ntmps39
  go_wp2_with fail
  refine (opOf_calls op _).mono ?_
  rintro e w1 ⟨rfl, hb⟩
  have HB : Hid (Below w.heap.size w w1) := hb
  have hle : w.heap.size ≤ w1.heap.size := hb.size
  clear hb
  cases hok : opOk op with
  | false =>
    have HV : Hid ((opOk op && ((n == 0) && ((len : Int) == opKids op))) = false) := by simp [Hid, hok]
    go_wp2_with fail
    have k3 := cell_regrown (box_cell w1 #[.int .i64 (opKids op), .string (opMarks op)] 78 0 _ rfl)
    have k4 := cell_regrown (box_cell w1 #[.int .i64 (opKids op), .string (opMarks op)] 78 1 _ rfl)
    refine wp_region_quiet_below (by kernel_rfl) (by kernel_rfl) ?_
    repeat (any_goals (first | go_big_quiet_step (fail) | quiet_step (fail)))
    refine wpQuiet_nil ?_
    intro _ hw'
    obtain ⟨⟨dq, osq⟩, hw''⟩ := hw'
    subst hw''
    clear k3 k4
    go_wp2_with fail
    go_ret2
    exact ⟨ret_node HV.out.symm, HB.out.trans ((box_below _ _).trans ((below_regrown _ _ _).mono (by rw [Deep.nblk_alloc]; omega)) |>.mono hle)⟩
  | true =>
    by_cases hn : n = 0
    · subst hn
      by_cases hl : (len : Int) = opKids op
      · have hl' : ((len : Int) == opKids op) = true := by simpa using hl
        have HV : Hid ((opOk op && (((0 : Int) == 0) && ((len : Int) == opKids op))) = true) := by simp [Hid, hok, hl']
        clear hl
        go_wp2_with fail
        have k3 := cell_regrown (box_cell w1 #[.int .i64 (opKids op), .string (opMarks op)] 78 0 _ rfl)
        have k4 := cell_regrown (box_cell w1 #[.int .i64 (opKids op), .string (opMarks op)] 78 1 _ rfl)
        refine wp_region_quiet_below (by kernel_rfl) (by kernel_rfl) ?_
        repeat (any_goals (first | go_big_quiet_step (fail) | quiet_step (fail)))
        refine wpQuiet_nil ?_
        intro _ hw'
        obtain ⟨⟨dq, osq⟩, hw''⟩ := hw'
        subst hw''
        clear k3 k4
        go_wp2_with fail
        go_ret2
        exact ⟨ret_node HV.out.symm, HB.out.trans ((box_below _ _).trans ((below_regrown _ _ _).mono (by rw [Deep.nblk_alloc]; omega)) |>.mono hle)⟩
      · have hl' : ((len : Int) == opKids op) = false := by simpa using hl
        have HV : Hid ((opOk op && (((0 : Int) == 0) && ((len : Int) == opKids op))) = false) := by simp [Hid, hok, hl']
        clear hl
        go_wp2_with fail
        have k3 := cell_regrown (box_cell w1 #[.int .i64 (opKids op), .string (opMarks op)] 78 0 _ rfl)
        have k4 := cell_regrown (box_cell w1 #[.int .i64 (opKids op), .string (opMarks op)] 78 1 _ rfl)
        refine wp_region_quiet_below (by kernel_rfl) (by kernel_rfl) ?_
        repeat (any_goals (first | go_big_quiet_step (fail) | quiet_step (fail)))
        refine wpQuiet_nil ?_
        intro _ hw'
        obtain ⟨⟨dq, osq⟩, hw''⟩ := hw'
        subst hw''
        clear k3 k4
        go_wp2_with fail
        go_ret2
        exact ⟨ret_node HV.out.symm, HB.out.trans ((box_below _ _).trans ((below_regrown _ _ _).mono (by rw [Deep.nblk_alloc]; omega)) |>.mono hle)⟩
    · have hn' : (n == 0) = false := by simpa using hn
      have HV : Hid ((opOk op && ((n == 0) && ((len : Int) == opKids op))) = false) := by simp [Hid, hok, hn']
      go_wp2_with fail
      have k3 := cell_regrown (box_cell w1 #[.int .i64 (opKids op), .string (opMarks op)] 78 0 _ rfl)
      have k4 := cell_regrown (box_cell w1 #[.int .i64 (opKids op), .string (opMarks op)] 78 1 _ rfl)
      refine wp_region_quiet_below (by kernel_rfl) (by kernel_rfl) ?_
      repeat (any_goals (first | go_big_quiet_step (fail) | quiet_step (fail)))
      refine wpQuiet_nil ?_
      intro _ hw'
      obtain ⟨⟨dq, osq⟩, hw''⟩ := hw'
      subst hw''
      clear k3 k4
      go_wp2_with fail
      go_ret2
      exact ⟨ret_node HV.out.symm, HB.out.trans ((box_below _ _).trans ((below_regrown _ _ _).mono (by rw [Deep.nblk_alloc]; omega)) |>.mono hle)⟩
end Go.Proofs.Ytekdipmioogohaa
/-
  THE PROGRAM's operands, heightAfter AND StackOf.
-/
namespace Go.Proofs.Ytekdipmioogohaa
set_option linter.unusedVariables false
set_option linter.unusedSimpArgs false
open Go.RowKit

theorem opKids_ar {op : Int} (h1 : op ≠ 1) (h2 : op ≠ 2) (h3 : op ≠ 3) : opKids op = (arN op : Int) ∧ opOk op = decide (0 ≤ arity op) := by
  unfold opOk opKids arN arity
  rw [if_neg (by omega : ¬ (op = 1 ∨ op = 2 ∨ op = 3))]
  by_cases e4 : op = 4
  · subst e4; simp
  by_cases e5 : op = 5
  · subst e5; simp
  by_cases e6 : op = 6
  · subst e6; simp
  by_cases e7 : op = 7
  · subst e7; simp
  by_cases e8 : op = 8
  · subst e8; simp
  by_cases e9 : op = 9
  · subst e9; simp
  by_cases e10 : op = 10
  · subst e10; simp
  simp only [e4, e5, e6, e7, e8, e9, e10, or_self, if_false, ↓reduceIte]
  refine ⟨by simp, ?_⟩
  simp
  omega

set_option maxHeartbeats 400000 in
theorem operands_calls (o n : Int) (w : World) : Calls Try.prog 32 #[.agg #[.int .i64 o, .int .i64 n]] w fun e w' => e = .returned (.tuple #[.int .i64 (arN o : Int), .bool (decide (0 ≤ arity o))]) ∧ Below w.heap.size w w' := by
  by_cases h1 : o = 1
  · subst h1
    go_enter Try.func32, Try.ntmps32
    go_wp2_with fail
    go_ret2
    exact ⟨rfl, box_below _ _⟩
  by_cases h2 : o = 2
  · subst h2
    go_enter Try.func32, Try.ntmps32
    go_wp2_with fail
    go_ret2
    exact ⟨rfl, box_below _ _⟩
  by_cases h3 : o = 3
  · subst h3
    go_enter Try.func32, Try.ntmps32
    go_wp2_with fail
    go_ret2
    exact ⟨rfl, box_below _ _⟩
  obtain ⟨e1, e2⟩ := opKids_ar h1 h2 h3
  have HE : Hid (opKids o = (arN o : Int) ∧ opOk o = decide (0 ≤ arity o)) := ⟨e1, e2⟩
  have h1' : (o == 1) = false := by simpa using h1
  have h2' : (o == 2) = false := by simpa using h2
  have h3' : (o == 3) = false := by simpa using h3
  clear h1 h2 h3 e1 e2
  go_enter Try.func32, Try.ntmps32
  go_wp2_with fail
  refine (opOf_calls o _).mono ?_
  rintro e w1 ⟨rfl, hb⟩
  have HB : Hid (Below w.heap.size w w1) := (box_below _ _).trans (hb.mono (by rw [Deep.nblk_alloc]; omega))
  clear hb
  go_wp2_with fail
  go_ret2
  rw [HE.out.1, HE.out.2]
  exact ⟨rfl, HB.out.trans ((box_below _ _).mono HB.out.size)⟩

set_option maxHeartbeats 400000 in
theorem height_ok (o n : Int) (h : Nat) (w : World) (h1 : 0 ≤ arity o) (h2 : arN o ≤ h) (hm : h ≤ 4611686018427387904) : Calls Try.prog 20 #[.agg #[.int .i64 o, .int .i64 n], .int .i64 (h : Int)] w fun e w' => e = .returned (.tuple #[.int .i64 ((h - arN o + 1 : Nat) : Int), .bool true]) ∧ Below w.heap.size w w' := by
  have HV : Hid (((h - arN o + 1 : Nat) : Int) = (h : Int) - arN o + 1) := by unfold Hid; omega
  have hd : decide (0 ≤ arity o) = true := decide_eq_true h1
  have ha : arN o ≤ 3 := by rcases arity_cases o with e | ⟨-, -, e⟩ <;> omega
  have hq := operands_calls o n (w.alloc (.cells #[.int .i64 o, .int .i64 n] 37))
  rw [hd] at hq
  have hle : (arN o : Int) ≤ h := by omega
  clear hd h1
  go_enter Try.func20, Try.ntmps20
  go_wp2_with fail
  refine hq.mono ?_
  rintro e w1 ⟨rfl, hb⟩
  have HB : Hid (Below w.heap.size w w1) := (box_below _ _).trans (hb.mono (by rw [Deep.nblk_alloc]; omega))
  clear hb
  go_wp2_with fail
  go_ret2
  rw [HV.out]
  exact ⟨rfl, HB.out⟩
set_option maxHeartbeats 400000 in
theorem height_no (o n : Int) (h : Nat) (w : World) (h1 : ¬ (0 ≤ arity o ∧ arN o ≤ h)) (hm : h ≤ 4611686018427387904) : Calls Try.prog 20 #[.agg #[.int .i64 o, .int .i64 n], .int .i64 (h : Int)] w fun e w' => (∃ z : Int, e = .returned (.tuple #[.int .i64 z, .bool false])) ∧ Below w.heap.size w w' := by
  have ha : arN o ≤ 3 := by
    rcases arity_cases o with e | ⟨-, -, e⟩
    · unfold arN; rw [e]; decide
    · exact e
  have hq := operands_calls o n (w.alloc (.cells #[.int .i64 o, .int .i64 n] 37))
  by_cases h2 : 0 ≤ arity o
  · have hd : decide (0 ≤ arity o) = true := decide_eq_true h2
    rw [hd] at hq
    have HLE : Hid (decide (arN o ≤ h) = false) := decide_eq_false (by omega)
    clear hd h1 h2
    go_enter Try.func20, Try.ntmps20
    go_wp2_with fail
    refine hq.mono ?_
    rintro e w1 ⟨rfl, hb⟩
    have HB : Hid (Below w.heap.size w w1) := (box_below _ _).trans (hb.mono (by rw [Deep.nblk_alloc]; omega))
    clear hb
    go_wp2_with fail
    go_ret2
    exact ⟨⟨(h : Int) - (arN o : Int) + 1, by rw [HLE.out]; rfl⟩, HB.out⟩
  · have hd : decide (0 ≤ arity o) = false := decide_eq_false h2
    rw [hd] at hq
    clear hd h1 h2
    go_enter Try.func20, Try.ntmps20
    go_wp2_with fail
    refine hq.mono ?_
    rintro e w1 ⟨rfl, hb⟩
    have HB : Hid (Below w.heap.size w w1) := (box_below _ _).trans (hb.mono (by rw [Deep.nblk_alloc]; omega))
    clear hb
    go_wp2_with fail
    go_ret2
    exact ⟨⟨_, rfl⟩, HB.out⟩

theorem dsC_take {cs : List Ins} {ds : List Nat} {k : Nat} (h : dsC [] (cs.take k) = some ds) (hk : k ≤ cs.length) : topH ds ≤ k ∧ ds.length = k := by
  have h1 := height_le h
  have h2 := dsC_len h
  rw [List.length_take, Nat.min_eq_left hk] at h1 h2
  simp [topH] at h1 h2 ⊢
  omega
theorem dsC_some {cs : List Ins} {ds : List Nat} {k : Nat} (h : dsC [] (cs.take k) = some ds) (hk : k < cs.length) (h1 : 0 ≤ arity cs[k].op) (h2 : arN cs[k].op ≤ topH ds) : dsC [] (cs.take (k + 1)) = some (ds ++ [topH ds - arN cs[k].op + 1]) := by
  rw [dsC_succ _ _ _ hk, h]
  simp [dstp, hstp, h1, h2]
theorem dsC_no {cs : List Ins} {ds : List Nat} {k : Nat} (h : dsC [] (cs.take k) = some ds) (hk : k < cs.length) (h1 : ¬ (0 ≤ arity cs[k].op ∧ arN cs[k].op ≤ topH ds)) : dsC [] cs = none := by
  refine dsC_stop (k := k + 1) ?_
  rw [dsC_succ _ _ _ hk, h]
  simp [dstp, hstp, h1]

set_option maxRecDepth 100000 in
set_option maxHeartbeats 1600000 in
theorem implStack_calls (cs : List Ins) (c : Value) (w : World) (hk : InsIn w cs c) (hl : cs.length ≤ 1048576) : Calls Try.prog 8 #[c] w fun e w' => e = .returned (.int .i64 (stackO cs : Int)) ∧ Below w.heap.size w w' := by
  have HK : Hid (InsIn w cs c) := hk
  obtain ⟨ad, cap, rfl, -, -, -⟩ := hk
  go_enter Try.func8, Try.ntmps8
  go_wp2_with fail
  go_loopw [3, 4, 10] (fun h m i wr => ∃ (k : Nat) (ds : List Nat), k ≤ cs.length ∧ i = .int .i64 k ∧ Hid (dsC [] (cs.take k) = some ds) ∧ h = .int .i64 (topH ds : Int) ∧ m = .int .i64 (mxL ds : Int) ∧ Below w.heap.size w wr) (fun _ _ i _ => cs.length - (intOf i).toNat)
  case atStart => exact ⟨0, [], Nat.zero_le _, rfl, rfl, rfl, rfl, Below.refl _ _⟩
  case round =>
    obtain ⟨k, ds, hk, rfl, HD, rfl, rfl, hb⟩ := hrel
    have htk := (dsC_take HD.out hk).1
    by_cases hlt : k < cs.length
    · obtain ⟨bl, off, rfl, -, c0, c1⟩ := (HK.out.next hb).at k hlt
      have HB : Hid (Below w.heap.size w wr) := hb
      clear hb
      by_cases hok : 0 ≤ arity cs[k].op ∧ arN cs[k].op ≤ topH ds
      · have HN := mkHid (dsC_some HD.out hlt hok.1 hok.2)
        obtain ⟨hok1, hok2⟩ := hok
        have hq := height_ok cs[k].op cs[k].num (topH ds) (wr.alloc (.cells #[.int .i64 cs[k].op, .int .i64 cs[k].num] 37)) hok1 hok2 (by omega)
        have HM := mkHid (mxL_snoc ds (topH ds - arN cs[k].op + 1))
        have HT := mkHid (topH_snoc ds (topH ds - arN cs[k].op + 1))
        clear hok1 hok2
        obtain ⟨h', hh'⟩ : ∃ h' : Nat, h' = topH ds - arN cs[k].op + 1 := ⟨_, rfl⟩
        rw [← hh'] at hq HN HM HT
        clear hh'
        go_wp2_with fail
        refine hq.mono ?_
        rintro e w1 ⟨rfl, hb1⟩
        have HB1 : Hid (Below w.heap.size w w1) := HB.out.trans (((box_below _ _).trans (hb1.mono (by rw [Deep.nblk_alloc]; omega))).mono HB.out.size)
        clear hb1
        go_wp2_with fail
        go_roundw
        case rel => exact ⟨k + 1, _, by omega, by go_num, HN, by rw [HT.out], congrArg (Value.int .i64) (by rw [HM.out]; split <;> omega), HB1.out⟩
        case measure => simp [intOf]; omega
      · have hq := height_no cs[k].op cs[k].num (topH ds) (wr.alloc (.cells #[.int .i64 cs[k].op, .int .i64 cs[k].num] 37)) hok (by omega)
        have HV : Hid (stackO cs = 0) := by unfold Hid stackO; rw [dsC_no HD.out hlt hok]
        clear hok
        go_wp2_with fail
        refine hq.mono ?_
        rintro e w1 ⟨⟨z, rfl⟩, hb1⟩
        have HB1 : Hid (Below w.heap.size w w1) := HB.out.trans (((box_below _ _).trans (hb1.mono (by rw [Deep.nblk_alloc]; omega))).mono HB.out.size)
        clear hb1
        go_wp2_with fail
        go_ret
        rw [HV.out]
        exact ⟨rfl, HB1.out⟩
    · have hke : k = cs.length := by omega
      have HV : Hid (stackO cs = mxL ds) := by
        have := HD.out
        rw [hke, List.take_length] at this
        unfold Hid stackO; rw [this]
      have HB : Hid (Below w.heap.size w wr) := hb
      clear hke hb
      go_wp2_with fail
      go_ret
      rw [HV.out]
      exact ⟨rfl, HB.out⟩
end Go.Proofs.Ytekdipmioogohaa
/-
  THE PROGRAM's execute AT EXPRESSIONS: the stack of trees, in new memory, each tree with its own blocks; nothing that was there is changed.
-/
namespace Go.Proofs.Ytekdipmioogohaa
set_option linter.unusedVariables false
set_option linter.unusedSimpArgs false
open Go.RowKit

/-- the node of an instruction and its operands -/
def PutRes (o n : Int) (kv : Value) (w : World) (e : Ending) (w' : World) : Prop := e = .returned (.agg #[.int .i64 o, .int .i64 n, kv]) ∧ Below w.heap.size w w'
set_option maxHeartbeats 400000 in
theorem put_calls (o n : Int) (ad : Option Addr) (nn cap : Nat) (w : World) : Calls Try.prog 35 #[.agg #[.int .i64 o, .int .i64 n], .slice ad nn cap] w (PutRes o n (.slice ad nn cap) w) := by
  go_enter Try.func35, Try.ntmps35
  go_wp2_with fail
  refine bodyPost_ret (v := .agg #[.int .i64 o, .int .i64 n, .slice ad nn cap]) (by simp [results, Try.results35, go_sem]) rfl ⟨rfl, ?_⟩
  repeat' (refine Below.setCell ?_ (by simp) _)
  exact ((Below.refl _ _).alloc (Nat.le_refl _) _).alloc (by simp) _
theorem own_lower {w : World} {lo lo' n size : Nat} {T : TypeId} {v : Value} {xs : List Value} (h : w.ownsRow lo' T size v n xs) (hl : lo ≤ lo') : w.ownsRow lo T size v n xs := by
  refine ⟨h.1, h.2.imp id ?_⟩
  rintro ⟨g, cap, cur, e, hg, r⟩
  exact ⟨g, cap, cur, e, Nat.le_trans hl hg, r⟩
theorem set3_other {w4 : World} {b k i : Nat} (h : k ≠ b) (x y z : Value) (_ : True) : (((w4.setCell ⟨b, 0, none⟩ x).setCell ⟨b, 1, none⟩ y).setCell ⟨b, 2, none⟩ z).cell? ⟨k, i, none⟩ = w4.cell? ⟨k, i, none⟩ := by
  refine World.cell?_of_block ?_
  show (((w4.setCell ⟨b, 0, none⟩ x).setCell ⟨b, 1, none⟩ y).setCell ⟨b, 2, none⟩ z).heap[k]? = w4.heap[k]?
  rw [Below.heap_setCell _ _ _ _ h, Below.heap_setCell _ _ _ _ h, Below.heap_setCell _ _ _ _ h]
theorem own_nob {w W : World} {n size : Nat} {T : TypeId} {v : Value} {xs : List Value} {o : Obj} (h : w.ownsRow (W.alloc o).heap.size T size v n xs) : some W.heap.size ≠ v.ownBlock := fun e => by
  have := own_block h e
  rw [Deep.nblk_alloc] at this
  omega
theorem own_new {w : World} {lo n size : Nat} {T : TypeId} {v : Value} {xs : List Value} (h : w.ownsRow lo T size v n xs) : some w.heap.size ≠ v.ownBlock := fun e => by
  rcases h.2 with ⟨rfl, -⟩ | ⟨g, cap, cur, rfl, -, hh, -⟩
  · simp [Value.ownBlock] at e
  · simp only [Value.ownBlock, Option.some.injEq] at e
    have := (Array.getElem?_eq_some_iff.1 hh).1
    omega
/-- what holds behind the call that makes a node: it stands in a box, its operands in a new row -/
def ERel (wr : World) (n : Nat) (news : List Value) (o nn : Int) (kv : Value) (b : Nat) (wz : World) : Prop :=
  wz.heap[b]? = some (.cells #[.int .i64 o, .int .i64 nn, kv] 32) ∧ wz.ownsRow wr.heap.size 32 3 kv n news ∧ Below wr.heap.size wr wz ∧ wr.heap.size ≤ b
theorem erel_alloc {wr w4 : World} {n : Nat} {news : List Value} {o nn : Int} {kv : Value} (hk : w4.ownsRow wr.heap.size 32 3 kv n news) (hb : Below wr.heap.size wr w4) : ERel wr n news o nn kv w4.heap.size (w4.alloc (.cells #[.int .i64 o, .int .i64 nn, kv] 32)) :=
  ⟨Deep.blk_alloc_new _ _, own_keep hk (fun j _ hj => Deep.blk_alloc_lt _ _ _ hj), hb.alloc hb.size _, hb.size⟩
theorem rowE_cells {w : World} {g : Nat} {T : TypeId} {f : Nat → Value} (h : w.rowIs g T 3 f) : w.heap[g]? = some (.cells #[f 0, f 1, f 2] T) := by
  obtain ⟨cur, hc, hs, hv⟩ := h
  rw [hc]
  have hx : cur = #[f 0, f 1, f 2] := by
    apply Array.ext_getElem?
    intro i
    by_cases hi : i < 3
    · rw [hv i (by omega)]
      rcases (by omega : i = 0 ∨ i = 1 ∨ i = 2) with rfl | rfl | rfl <;> rfl
    · rw [Array.getElem?_eq_none (by omega), Array.getElem?_eq_none (by simp; omega)]
  rw [hx]
theorem own_grown {lo n size : Nat} {T : TypeId} {w0 W w6 : World} {v : Value} {xs : List Value} (hx : W.ownsRow lo T size v n xs) (hl : lo = w0.heap.size) (hb : Below w0.heap.size w0 W) (hg : W.grownBy w6 v.ownBlock) : Below w0.heap.size w0 w6 :=
  ⟨by rw [hg.os]; exact hb.os, by rw [hg.tape]; exact hb.tape, by rw [hg.output]; exact hb.output, Nat.le_trans hb.size hg.size, fun k hk => (hg.block k (Nat.lt_of_lt_of_le hk hb.size) (fun e => by have := own_block hx e; omega)).trans (hb.block k hk)⟩
theorem box_kept {wr wc w6 : World} {n b m cap : Nat} {news : List Value} {o nn : Int} {kv : Value} {ad : Option Addr} {obj : Obj} (h : ERel wr n news o nn kv b wc) (ho : ∀ j, (Value.slice ad m cap).ownBlock = some j → j < wr.heap.size)
    (hg : (wc.alloc obj).drew.grownBy w6 (Value.slice ad m cap).ownBlock) : w6.heap[b]? = some (.cells #[.int .i64 o, .int .i64 nn, kv] 32) := by
  have hbl := (Array.getElem?_eq_some_iff.1 h.1).1
  refine (hg.block b (by show b < (wc.alloc obj).heap.size; rw [Deep.nblk_alloc]; omega) (fun e => ?_)).trans ((Deep.blk_alloc_lt wc _ _ hbl).trans h.1)
  have := ho b e.symm
  have := h.2.2.2
  omega
theorem erel_set {wr w4 : World} {n b : Nat} {news : List Value} {o nn : Int} {kv : Value} (hk : w4.ownsRow wr.heap.size 32 3 kv n news) (hb : Below wr.heap.size wr w4) (hz : w4.heap[b]? = some (.cells #[.int .i64 0, .int .i64 0, .slice none 0 0] 32)) (hlo : wr.heap.size ≤ b) (hne : some b ≠ kv.ownBlock) :
    ERel wr n news o nn kv b (((w4.setCell ⟨b, 0, none⟩ (.int .i64 o)).setCell ⟨b, 1, none⟩ (.int .i64 nn)).setCell ⟨b, 2, none⟩ kv) := by
  refine ⟨?_, ?_, ((hb.setCell hlo _).setCell hlo _).setCell hlo _, hlo⟩
  · have hr : w4.rowIs b 32 3 (boxF 0 0 (.slice none 0 0)) := ⟨_, hz, rfl, box3 _ _ _⟩
    have h3 := rowE_cells (((hr.set 0 (.int .i64 o)).set 1 (.int .i64 nn)).set 2 kv)
    rw [h3]
    simp
  · refine ⟨hk.1, hk.2.imp id ?_⟩
    rintro ⟨g, cap, cur, rfl, hg, hh, r⟩
    have hgb : g ≠ b := fun e => hne (by rw [e]; rfl)
    refine ⟨g, cap, cur, rfl, hg, ?_, r⟩
    rw [Below.heap_setCell _ _ _ _ hgb, Below.heap_setCell _ _ _ _ hgb, Below.heap_setCell _ _ _ _ hgb]
    exact hh
theorem own_slice {w : World} {lo n size : Nat} {T : TypeId} {v : Value} {xs : List Value} (h : w.ownsRow lo T size v n xs) : ∃ ad n cap, v = .slice ad n cap := by
  rcases h.2 with ⟨rfl, -⟩ | ⟨g, cap, cur, rfl, -⟩
  · exact ⟨_, _, _, rfl⟩
  · exact ⟨_, _, _, rfl⟩

theorem runC_len {cs : List Ins} {s : List Tr} {k : Nat} (h : runC [] (cs.take k) = some s) (hk : k ≤ cs.length) : s.length ≤ k := by
  have e := runC_ds [] [] (cs.take k) rfl
  rw [h, Option.map_some] at e
  cases e2 : dsC [] (cs.take k) with
  | none => rw [e2] at e; cases e
  | some ds =>
    rw [e2] at e
    simp only [Option.map_some, Option.some.injEq] at e
    rw [e]
    exact (dsC_take e2 hk).1
theorem runC_some {cs : List Ins} {s : List Tr} {k : Nat} (h : runC [] (cs.take k) = some s) (hk : k < cs.length) (h1 : 0 ≤ arity cs[k].op) (h2 : arN cs[k].op ≤ s.length) :
    runC [] (cs.take (k + 1)) = some (s.take (s.length - arN cs[k].op) ++ [.node cs[k].op cs[k].num (s.drop (s.length - arN cs[k].op))]) := by
  rw [runC_succ _ _ _ hk, h]
  simp [stp, h1, h2]
theorem runC_no {cs : List Ins} {s : List Tr} {k : Nat} (h : runC [] (cs.take k) = some s) (hk : k < cs.length) (h1 : ¬ (0 ≤ arity cs[k].op ∧ arN cs[k].op ≤ s.length)) : runC [] cs = none := by
  refine runC_stop (k := k + 1) ?_
  rw [runC_succ _ _ _ hk, h]
  simp [stp, h1]

/-- the stack in the end -/
def ExecRes (cs : List Ins) (w : World) (e : Ending) (w' : World) : Prop :=
  Below w.heap.size w w' ∧ match runC [] cs with
    | some s => ∃ v, e = .returned (.tuple #[v, .bool true]) ∧ OwnF w' w.heap.size w'.heap.size s v
    | none => e = .returned (.tuple #[.slice none 0 0, .bool false])
theorem OwnF.form {w : World} {lo hi : Nat} {ts : List Tr} {v : Value} (h : OwnF w lo hi ts v) : (v = .slice none 0 0 ∧ ts.length = 0) ∨ ∃ g cap, v = .slice (some ⟨g, 0, none⟩) ts.length cap ∧ lo ≤ g ∧ g < w.heap.size ∧ ts.length ≤ cap ∧ cap ≤ maxLen := by
  obtain ⟨xs, h1⟩ := h.row
  rcases h1.2 with h | ⟨g, cap, cur, rfl, hg, hh, hn, hc, -⟩
  · exact Or.inl h
  · exact Or.inr ⟨g, cap, rfl, hg, (Array.getElem?_eq_some_iff.1 hh).1, hn, hc⟩


set_option maxRecDepth 100000 in
set_option maxHeartbeats 1600000 in
theorem exec_calls (cs : List Ins) (c : Value) (w : World) (hk : InsIn w cs c) (hl : cs.length ≤ 1048576) (hw : ∀ c ∈ cs, I64 c.op ∧ I64 c.num) : Calls Try.prog 34 #[c, .func (.func 35) #[] #[]] w (ExecRes cs w) := by
  have HK : Hid (InsIn w cs c) := hk
  have HW := mkHid hw
  obtain ⟨ad, cap, rfl, -, -, -⟩ := hk
  obtain ⟨iE, zE, hII⟩ := infoE3
  have HE := mkHid hII
  clear hw hII
  go_enter Try.func34, Try.ntmps34
  go_wp2_with fail
  go_loopw [6, 15] (fun v i wr => ∃ (k : Nat) (s : List Tr), k ≤ cs.length ∧ i = .int .i64 k ∧ Hid (runC [] (cs.take k) = some s) ∧ OwnF wr w.heap.size wr.heap.size s v ∧ Below w.heap.size w wr) (fun _ i _ => cs.length - (intOf i).toNat)
  case atStart => exact ⟨0, [], Nat.zero_le _, rfl, rfl, OwnF.nil _ _ _, Below.refl _ _⟩
  case round =>
    obtain ⟨k, s, hk, rfl, HR, hown, hb⟩ := hrel
    have HO := mkHid hown
    have HB := mkHid hb
    have hsl := runC_len HR.out hk
    clear hown
    by_cases hlt : k < cs.length
    · obtain ⟨bl, off, rfl, -, c0, c1⟩ := (HK.out.next hb).at k hlt
      have HIW := mkHid (HW.out _ (List.getElem_mem hlt))
      have hq' : ∀ W : World, 0 ≤ arity cs[k].op ∧ arN cs[k].op ≤ s.length → Calls Try.prog 20 #[.agg #[.int .i64 cs[k].op, .int .i64 cs[k].num], .int .i64 (s.length : Int)] W fun e w' => e = .returned (.tuple #[.int .i64 ((s.length - arN cs[k].op : Nat) + 1 : Int), .bool true]) ∧ Below W.heap.size W w' := fun W h => (height_ok cs[k].op cs[k].num s.length W h.1 h.2 (by omega)).mono fun e w' h => ⟨by rw [h.1]; rfl, h.2⟩
      have hq2' : ∀ W : World, ¬ (0 ≤ arity cs[k].op ∧ arN cs[k].op ≤ s.length) → Calls Try.prog 20 #[.agg #[.int .i64 cs[k].op, .int .i64 cs[k].num], .int .i64 (s.length : Int)] W fun e w' => (∃ z : Int, e = .returned (.tuple #[.int .i64 z, .bool false])) ∧ Below W.heap.size W w' := fun W h => height_no cs[k].op cs[k].num s.length W h (by omega)
      have HQ := mkHid hq'
      have HQ2 := mkHid hq2'
      clear hb hq' hq2'
      by_cases hok : 0 ≤ arity cs[k].op ∧ arN cs[k].op ≤ s.length
      · have HN := mkHid (runC_some HR.out hlt hok.1 hok.2)
        have hq := HQ.out (wr.alloc (.cells #[.int .i64 cs[k].op, .int .i64 cs[k].num] 37)) hok
        have hm : s.length - arN cs[k].op ≤ s.length := by omega
        obtain ⟨m, hmm⟩ : ∃ m, m = s.length - arN cs[k].op := ⟨_, rfl⟩
        rw [← hmm] at hq HN hm
        clear hmm hok
        rcases HO.out.form with ⟨rfl, hs0⟩ | ⟨g, capg, rfl, hg1, hg2, hg3, hg4⟩
        · have hm0 : m = 0 := by omega
          subst hm0
          rw [hs0] at hq hm
          obtain ⟨xs, hx, hx1⟩ := HO.out.one
          have HX : Hid (wr.ownsRow w.heap.size 32 3 (.slice none 0 0) 0 xs) := by have h := hx; rw [hs0] at h; exact h
          have HM : Hid (0 ≤ 0) := hm
          have HTL : Hid (ECells wr (0 - 0) (xs.drop (0 * 3)) (.slice none 0 0)) := own_tail HX.out hx1 HM.out _ (Or.inl ⟨rfl, rfl⟩)
          have HWR : Hid (w.heap.size ≤ wr.heap.size) := HB.out.size
          clear hx hx1
          go_wp2_with fail
          refine hq.mono ?_
          rintro e w1 ⟨rfl, hb1⟩
          have HB1 : Hid (Below (wr.heap.size + 1) (wr.alloc (.cells #[.int .i64 cs[k].op, .int .i64 cs[k].num] 37)) w1) := by have h := hb1; rw [Deep.nblk_alloc] at h; exact h
          have HBX : Hid (w1.heap[wr.heap.size]? = some (.cells #[.int .i64 cs[k].op, .int .i64 cs[k].num] 37)) := (HB1.out.block _ (by omega)).trans (Deep.blk_alloc_new _ _)
          have HBR : Hid (Below wr.heap.size wr w1) := (box_below _ _).trans (HB1.out.mono (by omega))
          have x0 := cell_of_blk HBX.out 0 _ rfl
          have x1 := cell_of_blk HBX.out 1 _ rfl
          clear hb1
          go_upto_region 9 with fail
          go_cut [12, 15] from 15 to 43 (fun s12 s15 wx => s15 = .int .i64 (k : Int) ∧ ∃ b ad3 n3 cap3, s12 = .pointer (some ⟨b, 0, none⟩) ∧ ERel wr (0 - 0) (xs.drop (0 * 3)) cs[k].op cs[k].num (.slice ad3 n3 cap3) b wx)
          case first =>
            have HA1 : Hid (Below wr.heap.size wr (w1.drew.alloc (.cells #[.int .i64 0, .int .i64 0, .slice none 0 0] 32))) := HBR.out.drew.alloc HBR.out.drew.size _
            have g0 := old_cell (w := w1.drew) x0 (.cells #[.int .i64 0, .int .i64 0, .slice none 0 0] 32)
            have g1 := old_cell (w := w1.drew) x1 (.cells #[.int .i64 0, .int .i64 0, .slice none 0 0] 32)
            go_region_held3 (fun w' => w'.cell? ⟨wr.heap.size, 0, none⟩ = some (.int .i64 cs[k].op) ∧ w'.cell? ⟨wr.heap.size, 1, none⟩ = some (.int .i64 cs[k].num))
              (first
                | go_keep
                | exact ⟨e0, e1⟩
                | exact ⟨(set3_other HNB.out _ _ _ trivial).trans e0, (set3_other HNB.out _ _ _ trivial).trans e1⟩
                | exact ⟨h0, h1⟩
                | exact ⟨d0, d1⟩
                | exact ⟨g0, g1⟩
                | exact ⟨x0, x1⟩)
              (first
                | (go_at_call 43; refine (cloneE_calls (0 - 0) (xs.drop (0 * 3)) (.slice none 0 0) w1.drew (HTL.out.next HBR.out.drew) (by omega)).mono ?_; rintro e w3 ⟨kv, rfl, hk3, hb3⟩; have HK3 := mkHid (own_lower hk3 HBR.out.size); have HB3 := mkHid (HBR.out.drew.trans (hb3.mono HBR.out.drew.size)); have hbx3 := (hb3.block _ (Array.getElem?_eq_some_iff.1 HBX.out).1).trans HBX.out; have HL3 : Hid (wr.heap.size < w3.heap.size) := (Array.getElem?_eq_some_iff.1 hbx3).1; have d0 := cell_of_blk hbx3 0 _ rfl; have d1 := cell_of_blk hbx3 1 _ rfl; have h0 := old_cell d0 (.cells #[.int .i64 0, .int .i64 0, .slice none 0 0] 32); have h1 := old_cell d1 (.cells #[.int .i64 0, .int .i64 0, .slice none 0 0] 32); obtain ⟨ad3, n3, cap3, rfl⟩ := own_slice hk3; clear hk3 hb3 hbx3)
                | (go_at_call 43; refine (cloneE_calls (0 - 0) (xs.drop (0 * 3)) (.slice none 0 0) (w1.drew.alloc (.cells #[.int .i64 0, .int .i64 0, .slice none 0 0] 32)) (HTL.out.next HA1.out) (by omega)).mono ?_; rintro e w3 ⟨kv, rfl, hk3, hb3⟩; have HK3 := mkHid (own_lower hk3 HA1.out.size); have HB3 := mkHid (HA1.out.trans (hb3.mono HA1.out.size)); have hbx3 := (hb3.cell (p := ⟨wr.heap.size, 0, none⟩) (cell_lt g0)).trans g0; have hby3 := (hb3.cell (p := ⟨wr.heap.size, 1, none⟩) (cell_lt g1)).trans g1; have HZ3 : Hid (w3.heap[w1.heap.size]? = some (.cells #[.int .i64 0, .int .i64 0, .slice none 0 0] 32)) := (hb3.block _ (by rw [Deep.nblk_alloc]; exact Nat.lt_succ_self _)).trans (Deep.blk_alloc_new w1.drew _); have HNE3 := mkHid (own_nob hk3); have d0 := hbx3; have d1 := hby3; obtain ⟨ad3, n3, cap3, rfl⟩ := own_slice hk3; clear hk3 hb3 hbx3 hby3)
                | (have tk := HZ3; clear tk; go_at_call 35; refine (put_calls cs[k].op cs[k].num _ _ _ w3).mono ?_; rintro e w4 ⟨rfl, hb4⟩; have HB4 := mkHid (HB3.out.trans (hb4.mono HB3.out.size)); have HK4 := mkHid (own_keep HK3.out (fun j _ hj => hb4.block j hj)); have e0 := (hb4.cell (p := ⟨wr.heap.size, 0, none⟩) (cell_lt d0)).trans d0; have e1 := (hb4.cell (p := ⟨wr.heap.size, 1, none⟩) (cell_lt d1)).trans d1; have hz4 := (hb4.block _ (Array.getElem?_eq_some_iff.1 HZ3.out).1).trans HZ3.out; have HZ4 := mkHid hz4; have z0 := cell_of_blk hz4 0 _ rfl; have z1 := cell_of_blk hz4 1 _ rfl; have z2 := cell_of_blk hz4 2 _ rfl; have HNB : Hid (wr.heap.size ≠ w1.heap.size) := (by unfold Hid; have h1 := HBX.out; have h2 := (Array.getElem?_eq_some_iff.1 h1).1; have h3 := HB3.out.size; omega); have zf := fun i => frz_of_blk hz4 i; clear hb4 hz4)
                | (go_at_call 35; refine (put_calls cs[k].op cs[k].num _ _ _ w3).mono ?_; rintro e w4 ⟨rfl, hb4⟩; have HB4 := mkHid (HB3.out.trans (hb4.mono HB3.out.size)); have HK4 := mkHid (own_keep HK3.out (fun j _ hj => hb4.block j hj)); have e0 := (hb4.cell (p := ⟨wr.heap.size, 0, none⟩) (cell_lt d0)).trans d0; have e1 := (hb4.cell (p := ⟨wr.heap.size, 1, none⟩) (cell_lt d1)).trans d1; clear hb4)
                | (go_at_call 35; refine (put_calls cs[k].op cs[k].num _ _ _ (w3.alloc (.cells #[.int .i64 0, .int .i64 0, .slice none 0 0] 32))).mono ?_; rintro e w4 ⟨rfl, hb4⟩; have HA4 : Hid (Below wr.heap.size wr (w3.alloc (.cells #[.int .i64 0, .int .i64 0, .slice none 0 0] 32))) := HB3.out.alloc HB3.out.size _; have HB4 := mkHid (HA4.out.trans (hb4.mono HA4.out.size)); have HK4 := mkHid (own_keep (own_keep HK3.out (fun j _ hj => Deep.blk_alloc_lt _ (.cells #[.int .i64 0, .int .i64 0, .slice none 0 0] 32) _ hj)) (fun j _ hj => hb4.block j hj)); have e0 := (hb4.cell (p := ⟨wr.heap.size, 0, none⟩) (cell_lt h0)).trans h0; have e1 := (hb4.cell (p := ⟨wr.heap.size, 1, none⟩) (cell_lt h1)).trans h1; have hz4 := (hb4.block _ (by rw [Deep.nblk_alloc]; exact Nat.lt_succ_self _)).trans (Deep.blk_alloc_new w3 (.cells #[.int .i64 0, .int .i64 0, .slice none 0 0] 32)); have HZ4 := mkHid hz4; have HNE3 := mkHid (own_new HK3.out); have z0 := cell_of_blk hz4 0 _ rfl; have z1 := cell_of_blk hz4 1 _ rfl; have z2 := cell_of_blk hz4 2 _ rfl; have HNB : Hid (wr.heap.size ≠ w3.heap.size) := (by unfold Hid; have h1 := HL3.out; omega); have zf := fun i => frz_of_blk hz4 i; clear hb4 hz4))
            all_goals
              go_wp2_with fail
              go_meet
              first
                | exact ⟨rfl, _, _, _, _, rfl, erel_alloc HK4.out HB4.out⟩
                | exact ⟨rfl, _, _, _, _, rfl, erel_set HK4.out HB4.out HZ4.out HB3.out.size HNE3.out⟩
                | exact ⟨rfl, _, _, _, _, rfl, erel_set HK4.out HB4.out HZ4.out HBR.out.size HNE3.out⟩
          case rest =>
            obtain ⟨rfl, b, ad3, n3, cap3, rfl, her⟩ := hcut
            have HER := mkHid her
            have q0 := cell_of_blk her.1 0 _ rfl
            have q1 := cell_of_blk her.1 1 _ rfl
            have q2 := cell_of_blk her.1 2 _ rfl
            have HXM : Hid (wc.ownsRow w.heap.size 32 3 (.slice none 0 0) 0 (xs.take (0 * 3))) := own_keep (own_take HX.out hm) (fun j _ hj => HER.out.2.2.1.block j hj)
            clear her
            obtain ⟨adx, hadx⟩ : ∃ a : Option Addr, a = none := ⟨_, rfl⟩
            obtain ⟨cpx, hcpx⟩ : ∃ c : Nat, c = 0 := ⟨_, rfl⟩
            have HV0 : Hid (Value.slice none 0 0 = Value.slice adx 0 cpx) := by rw [hadx, hcpx]; rfl
            clear hadx hcpx
            have HOB : Hid (∀ j, (Value.slice adx 0 cpx).ownBlock = some j → j < wr.heap.size) := fun j hj => by rw [← HV0.out] at hj; simp [Value.ownBlock] at hj
            rw [HV0.out] at HXM ⊢
            go_wp2_with fail
            go_region_held3 (fun w' => w'.cell? ⟨b, 0, none⟩ = some (.int .i64 cs[k].op) ∧ w'.cell? ⟨b, 1, none⟩ = some (.int .i64 cs[k].num) ∧ w'.cell? ⟨b, 2, none⟩ = some (.slice ad3 n3 cap3))
              (first
                | go_keep
                | exact ⟨r0, r1, r2⟩
                | exact ⟨old_cell q0 _, old_cell q1 _, old_cell q2 _⟩
                | exact ⟨q0, q1, q2⟩)
              ((refine step_append_where (by rfl) (.tmp 39) (.tmp 41) 30 (by rfl) w.heap.size 32 iE zE 3 40 Try.underlying30 HE.out.1 HE.out.2.1 HE.out.2.2.1 HE.out.2.2.2.1 HE.out.2.2.2.2 (by decide) (.slice adx 0 cpx) 0 (xs.take (0 * 3)) (by rfl) (own_keep HXM.out (fun j _ hj => Deep.blk_alloc_lt wc _ _ hj)) ⟨wc.heap.size, 0, none⟩ 1 1 [.int .i64 cs[k].op, .int .i64 cs[k].num, .slice ad3 n3 cap3] (by rfl) (by rfl) (news3 wc _ _ _) (by simp [Value.oneCell']) (by unfold maxLen; omega) (by omega) (by show w.heap.size ≤ (wc.alloc _).heap.size; rw [Deep.nblk_alloc]; have h1 := HER.out.2.2.1.size; have h2 := HWR.out; omega) (by omega) ?_; intro v6 w6 hown6 hg6 hw6; have HOWN6 := mkHid hown6; have HG6 := mkHid hg6; have HW6 := mkHid hw6; have hb6 := box_kept HER.out HOB.out hg6; have r0 := cell_of_blk hb6 0 _ rfl; have r1 := cell_of_blk hb6 1 _ rfl; have r2 := cell_of_blk hb6 2 _ rfl; clear hown6 hg6 hw6))
            have HG7 : Hid ((wc.alloc (.cells #[.int .i64 cs[k].op, .int .i64 cs[k].num, .slice ad3 n3 cap3] 32)).grownBy w6 (Value.slice none 0 0).ownBlock) := by
              have h := HG6.out
              rw [← HV0.out] at h; exact ⟨h.os, h.tape, h.output, h.size, h.block⟩
            have HW7 : Hid (v6.ownBlock = (Value.slice none 0 0).ownBlock ∨ ∃ g, v6.ownBlock = some g ∧ (wc.alloc (.cells #[.int .i64 cs[k].op, .int .i64 cs[k].num, .slice ad3 n3 cap3] 32)).heap.size ≤ g) := by
              have h := HW6.out
              rw [← HV0.out] at h; exact h
            have HP : Hid (OwnF w6 w.heap.size w6.heap.size (s.take 0 ++ [.node cs[k].op cs[k].num (s.drop 0)]) v6) := OwnF.pop HO.out hs0.symm HM.out HWR.out HX.out HER.out.2.2.1 HER.out.2.1 HIW.out.1 HIW.out.2 HOWN6.out HG7.out HW7.out
            have HB6 : Hid (Below w.heap.size w w6) := own_grown (own_keep HXM.out (fun j _ hj => Deep.blk_alloc_lt wc (.cells #[.int .i64 cs[k].op, .int .i64 cs[k].num, .slice ad3 n3 cap3] 32) j hj)) rfl ((HB.out.trans (HER.out.2.2.1.mono HWR.out)).alloc (Nat.le_trans HWR.out HER.out.2.2.1.size) _) (by have h := HG6.out; exact (⟨h.os, h.tape, h.output, h.size, h.block⟩ : World.grownBy (wc.alloc _) w6 _))
            go_wp2_with fail
            go_roundw
            case rel => exact ⟨k + 1, _, by omega, by go_num, HN, HP.out, HB6.out⟩
            case measure => simp [intOf]; omega
        · unfold maxLen at hg4
          have hmle : m ≤ capg := by omega
          obtain ⟨xs, hx, hx1⟩ := HO.out.one
          have HX : Hid (wr.ownsRow w.heap.size 32 3 (.slice (some ⟨g, 0, none⟩) s.length capg) s.length xs) := by have h := hx;  exact h
          have HM : Hid (m ≤ s.length) := hm
          have HTL : Hid (ECells wr (s.length - m) (xs.drop (m * 3)) (.slice (if capg = m then some ⟨g, 0, none⟩ else some ⟨g, m * 3, none⟩) (s.length - m) (capg - m))) := own_tail HX.out hx1 HM.out _ (Or.inr ⟨g, rfl, rfl⟩)
          have HWR : Hid (w.heap.size ≤ wr.heap.size) := HB.out.size
          clear hx hx1
          go_wp2_with fail
          refine hq.mono ?_
          rintro e w1 ⟨rfl, hb1⟩
          have HB1 : Hid (Below (wr.heap.size + 1) (wr.alloc (.cells #[.int .i64 cs[k].op, .int .i64 cs[k].num] 37)) w1) := by have h := hb1; rw [Deep.nblk_alloc] at h; exact h
          have HBX : Hid (w1.heap[wr.heap.size]? = some (.cells #[.int .i64 cs[k].op, .int .i64 cs[k].num] 37)) := (HB1.out.block _ (by omega)).trans (Deep.blk_alloc_new _ _)
          have HBR : Hid (Below wr.heap.size wr w1) := (box_below _ _).trans (HB1.out.mono (by omega))
          have x0 := cell_of_blk HBX.out 0 _ rfl
          have x1 := cell_of_blk HBX.out 1 _ rfl
          clear hb1
          go_upto_region 9 with fail
          go_cut [12, 15] from 15 to 43 (fun s12 s15 wx => s15 = .int .i64 (k : Int) ∧ ∃ b ad3 n3 cap3, s12 = .pointer (some ⟨b, 0, none⟩) ∧ ERel wr (s.length - m) (xs.drop (m * 3)) cs[k].op cs[k].num (.slice ad3 n3 cap3) b wx)
          case first =>
            have HA1 : Hid (Below wr.heap.size wr (w1.drew.alloc (.cells #[.int .i64 0, .int .i64 0, .slice none 0 0] 32))) := HBR.out.drew.alloc HBR.out.drew.size _
            have g0 := old_cell (w := w1.drew) x0 (.cells #[.int .i64 0, .int .i64 0, .slice none 0 0] 32)
            have g1 := old_cell (w := w1.drew) x1 (.cells #[.int .i64 0, .int .i64 0, .slice none 0 0] 32)
            go_region_held3 (fun w' => w'.cell? ⟨wr.heap.size, 0, none⟩ = some (.int .i64 cs[k].op) ∧ w'.cell? ⟨wr.heap.size, 1, none⟩ = some (.int .i64 cs[k].num))
              (first
                | go_keep
                | exact ⟨e0, e1⟩
                | exact ⟨(set3_other HNB.out _ _ _ trivial).trans e0, (set3_other HNB.out _ _ _ trivial).trans e1⟩
                | exact ⟨h0, h1⟩
                | exact ⟨d0, d1⟩
                | exact ⟨g0, g1⟩
                | exact ⟨x0, x1⟩)
              (first
                | (go_at_call 43; generalize (if capg = m then (some ⟨g, 0, none⟩ : Option Addr) else some ⟨g, m * 3, none⟩) = tad at HTL ⊢; refine (cloneE_calls (s.length - m) (xs.drop (m * 3)) (.slice tad (s.length - m) (capg - m)) w1.drew (HTL.out.next HBR.out.drew) (by omega)).mono ?_; rintro e w3 ⟨kv, rfl, hk3, hb3⟩; have HK3 := mkHid (own_lower hk3 HBR.out.size); have HB3 := mkHid (HBR.out.drew.trans (hb3.mono HBR.out.drew.size)); have hbx3 := (hb3.block _ (Array.getElem?_eq_some_iff.1 HBX.out).1).trans HBX.out; have HL3 : Hid (wr.heap.size < w3.heap.size) := (Array.getElem?_eq_some_iff.1 hbx3).1; have d0 := cell_of_blk hbx3 0 _ rfl; have d1 := cell_of_blk hbx3 1 _ rfl; have h0 := old_cell d0 (.cells #[.int .i64 0, .int .i64 0, .slice none 0 0] 32); have h1 := old_cell d1 (.cells #[.int .i64 0, .int .i64 0, .slice none 0 0] 32); obtain ⟨ad3, n3, cap3, rfl⟩ := own_slice hk3; clear hk3 hb3 hbx3)
                | (go_at_call 43; generalize (if capg = m then (some ⟨g, 0, none⟩ : Option Addr) else some ⟨g, m * 3, none⟩) = tad at HTL ⊢; refine (cloneE_calls (s.length - m) (xs.drop (m * 3)) (.slice tad (s.length - m) (capg - m)) (w1.drew.alloc (.cells #[.int .i64 0, .int .i64 0, .slice none 0 0] 32)) (HTL.out.next HA1.out) (by omega)).mono ?_; rintro e w3 ⟨kv, rfl, hk3, hb3⟩; have HK3 := mkHid (own_lower hk3 HA1.out.size); have HB3 := mkHid (HA1.out.trans (hb3.mono HA1.out.size)); have hbx3 := (hb3.cell (p := ⟨wr.heap.size, 0, none⟩) (cell_lt g0)).trans g0; have hby3 := (hb3.cell (p := ⟨wr.heap.size, 1, none⟩) (cell_lt g1)).trans g1; have HZ3 : Hid (w3.heap[w1.heap.size]? = some (.cells #[.int .i64 0, .int .i64 0, .slice none 0 0] 32)) := (hb3.block _ (by rw [Deep.nblk_alloc]; exact Nat.lt_succ_self _)).trans (Deep.blk_alloc_new w1.drew _); have HNE3 := mkHid (own_nob hk3); have d0 := hbx3; have d1 := hby3; obtain ⟨ad3, n3, cap3, rfl⟩ := own_slice hk3; clear hk3 hb3 hbx3 hby3)
                | (have tk := HZ3; clear tk; go_at_call 35; refine (put_calls cs[k].op cs[k].num _ _ _ w3).mono ?_; rintro e w4 ⟨rfl, hb4⟩; have HB4 := mkHid (HB3.out.trans (hb4.mono HB3.out.size)); have HK4 := mkHid (own_keep HK3.out (fun j _ hj => hb4.block j hj)); have e0 := (hb4.cell (p := ⟨wr.heap.size, 0, none⟩) (cell_lt d0)).trans d0; have e1 := (hb4.cell (p := ⟨wr.heap.size, 1, none⟩) (cell_lt d1)).trans d1; have hz4 := (hb4.block _ (Array.getElem?_eq_some_iff.1 HZ3.out).1).trans HZ3.out; have HZ4 := mkHid hz4; have z0 := cell_of_blk hz4 0 _ rfl; have z1 := cell_of_blk hz4 1 _ rfl; have z2 := cell_of_blk hz4 2 _ rfl; have HNB : Hid (wr.heap.size ≠ w1.heap.size) := (by unfold Hid; have h1 := HBX.out; have h2 := (Array.getElem?_eq_some_iff.1 h1).1; have h3 := HB3.out.size; omega); have zf := fun i => frz_of_blk hz4 i; clear hb4 hz4)
                | (go_at_call 35; refine (put_calls cs[k].op cs[k].num _ _ _ w3).mono ?_; rintro e w4 ⟨rfl, hb4⟩; have HB4 := mkHid (HB3.out.trans (hb4.mono HB3.out.size)); have HK4 := mkHid (own_keep HK3.out (fun j _ hj => hb4.block j hj)); have e0 := (hb4.cell (p := ⟨wr.heap.size, 0, none⟩) (cell_lt d0)).trans d0; have e1 := (hb4.cell (p := ⟨wr.heap.size, 1, none⟩) (cell_lt d1)).trans d1; clear hb4)
                | (go_at_call 35; refine (put_calls cs[k].op cs[k].num _ _ _ (w3.alloc (.cells #[.int .i64 0, .int .i64 0, .slice none 0 0] 32))).mono ?_; rintro e w4 ⟨rfl, hb4⟩; have HA4 : Hid (Below wr.heap.size wr (w3.alloc (.cells #[.int .i64 0, .int .i64 0, .slice none 0 0] 32))) := HB3.out.alloc HB3.out.size _; have HB4 := mkHid (HA4.out.trans (hb4.mono HA4.out.size)); have HK4 := mkHid (own_keep (own_keep HK3.out (fun j _ hj => Deep.blk_alloc_lt _ (.cells #[.int .i64 0, .int .i64 0, .slice none 0 0] 32) _ hj)) (fun j _ hj => hb4.block j hj)); have e0 := (hb4.cell (p := ⟨wr.heap.size, 0, none⟩) (cell_lt h0)).trans h0; have e1 := (hb4.cell (p := ⟨wr.heap.size, 1, none⟩) (cell_lt h1)).trans h1; have hz4 := (hb4.block _ (by rw [Deep.nblk_alloc]; exact Nat.lt_succ_self _)).trans (Deep.blk_alloc_new w3 (.cells #[.int .i64 0, .int .i64 0, .slice none 0 0] 32)); have HZ4 := mkHid hz4; have HNE3 := mkHid (own_new HK3.out); have z0 := cell_of_blk hz4 0 _ rfl; have z1 := cell_of_blk hz4 1 _ rfl; have z2 := cell_of_blk hz4 2 _ rfl; have HNB : Hid (wr.heap.size ≠ w3.heap.size) := (by unfold Hid; have h1 := HL3.out; omega); have zf := fun i => frz_of_blk hz4 i; clear hb4 hz4))
            all_goals
              go_wp2_with fail
              go_meet
              first
                | exact ⟨rfl, _, _, _, _, rfl, erel_alloc HK4.out HB4.out⟩
                | exact ⟨rfl, _, _, _, _, rfl, erel_set HK4.out HB4.out HZ4.out HB3.out.size HNE3.out⟩
                | exact ⟨rfl, _, _, _, _, rfl, erel_set HK4.out HB4.out HZ4.out HBR.out.size HNE3.out⟩
          case rest =>
            obtain ⟨rfl, b, ad3, n3, cap3, rfl, her⟩ := hcut
            have HER := mkHid her
            have q0 := cell_of_blk her.1 0 _ rfl
            have q1 := cell_of_blk her.1 1 _ rfl
            have q2 := cell_of_blk her.1 2 _ rfl
            have HXM : Hid (wc.ownsRow w.heap.size 32 3 (.slice (some ⟨g, 0, none⟩) m capg) m (xs.take (m * 3))) := own_keep (own_take HX.out hm) (fun j _ hj => HER.out.2.2.1.block j hj)
            clear her
            have HOB : Hid (∀ j, (Value.slice (some ⟨g, 0, none⟩) m capg).ownBlock = some j → j < wr.heap.size) := fun j hj => (HX.out.lt j hj).2
            go_wp2_with fail
            go_region_held3 (fun w' => w'.cell? ⟨b, 0, none⟩ = some (.int .i64 cs[k].op) ∧ w'.cell? ⟨b, 1, none⟩ = some (.int .i64 cs[k].num) ∧ w'.cell? ⟨b, 2, none⟩ = some (.slice ad3 n3 cap3))
              (first
                | go_keep
                | exact ⟨r0, r1, r2⟩
                | exact ⟨old_cell q0 _, old_cell q1 _, old_cell q2 _⟩
                | exact ⟨q0, q1, q2⟩)
              ((refine step_append_where (by rfl) (.tmp 39) (.tmp 41) 30 (by rfl) w.heap.size 32 iE zE 3 40 Try.underlying30 HE.out.1 HE.out.2.1 HE.out.2.2.1 HE.out.2.2.2.1 HE.out.2.2.2.2 (by decide) (.slice (some ⟨g, 0, none⟩) m capg) m (xs.take (m * 3)) (by rfl) (own_keep HXM.out (fun j _ hj => Deep.blk_alloc_lt wc _ _ hj)) ⟨wc.heap.size, 0, none⟩ 1 1 [.int .i64 cs[k].op, .int .i64 cs[k].num, .slice ad3 n3 cap3] (by rfl) (by rfl) (news3 wc _ _ _) (by simp [Value.oneCell']) (by unfold maxLen; omega) (by omega) (by show w.heap.size ≤ (wc.alloc _).heap.size; rw [Deep.nblk_alloc]; have h1 := HER.out.2.2.1.size; have h2 := HWR.out; omega) (by omega) ?_; intro v6 w6 hown6 hg6 hw6; have HOWN6 := mkHid hown6; have HG6 := mkHid hg6; have HW6 := mkHid hw6; have hb6 := box_kept HER.out HOB.out hg6; have r0 := cell_of_blk hb6 0 _ rfl; have r1 := cell_of_blk hb6 1 _ rfl; have r2 := cell_of_blk hb6 2 _ rfl; clear hown6 hg6 hw6))
            have HG7 : Hid ((wc.alloc (.cells #[.int .i64 cs[k].op, .int .i64 cs[k].num, .slice ad3 n3 cap3] 32)).grownBy w6 (Value.slice (some ⟨g, 0, none⟩) m capg).ownBlock) := by
              have h := HG6.out
              exact ⟨h.os, h.tape, h.output, h.size, h.block⟩
            have HW7 : Hid (v6.ownBlock = (Value.slice (some ⟨g, 0, none⟩) m capg).ownBlock ∨ ∃ g, v6.ownBlock = some g ∧ (wc.alloc (.cells #[.int .i64 cs[k].op, .int .i64 cs[k].num, .slice ad3 n3 cap3] 32)).heap.size ≤ g) := by
              have h := HW6.out
              exact h
            have HP : Hid (OwnF w6 w.heap.size w6.heap.size (s.take m ++ [.node cs[k].op cs[k].num (s.drop m)]) v6) := OwnF.pop HO.out rfl HM.out HWR.out HX.out HER.out.2.2.1 HER.out.2.1 HIW.out.1 HIW.out.2 HOWN6.out HG7.out HW7.out
            have HB6 : Hid (Below w.heap.size w w6) := own_grown (own_keep HXM.out (fun j _ hj => Deep.blk_alloc_lt wc (.cells #[.int .i64 cs[k].op, .int .i64 cs[k].num, .slice ad3 n3 cap3] 32) j hj)) rfl ((HB.out.trans (HER.out.2.2.1.mono HWR.out)).alloc (Nat.le_trans HWR.out HER.out.2.2.1.size) _) (by have h := HG6.out; exact (⟨h.os, h.tape, h.output, h.size, h.block⟩ : World.grownBy (wc.alloc _) w6 _))
            go_wp2_with fail
            go_roundw
            case rel => exact ⟨k + 1, _, by omega, by go_num, HN, HP.out, HB6.out⟩
            case measure => simp [intOf]; omega
      · have HV := mkHid (runC_no HR.out hlt hok)
        have hq := HQ2.out (wr.alloc (.cells #[.int .i64 cs[k].op, .int .i64 cs[k].num] 37)) hok
        clear hok
        obtain ⟨ads, caps, rfl⟩ : ∃ ads caps, u6 = .slice ads s.length caps := by
          rcases HO.out.form with ⟨e, h⟩ | ⟨g, capg, e, -⟩
          · exact ⟨none, 0, by rw [e, h]⟩
          · exact ⟨_, _, e⟩
        go_wp2_with fail
        refine hq.mono ?_
        rintro e w1 ⟨⟨z, rfl⟩, hb1⟩
        have HB1 : Hid (Below w.heap.size w w1) := HB.out.trans (((box_below _ _).trans (hb1.mono (by rw [Deep.nblk_alloc]; omega))).mono HB.out.size)
        clear hb1
        go_wp2_with fail
        go_ret2
        refine ⟨HB1.out, ?_⟩
        rw [HV.out]
        rfl
    · have hke : k = cs.length := by omega
      have HV : Hid (runC [] cs = some s) := by
        have := HR.out
        rw [hke, List.take_length] at this
        exact this
      clear hke hb
      obtain ⟨ads, caps, rfl⟩ : ∃ ads caps, u6 = .slice ads s.length caps := by
        rcases HO.out.form with ⟨e, h⟩ | ⟨g, capg, e, -⟩
        · exact ⟨none, 0, by rw [e, h]⟩
        · exact ⟨_, _, e⟩
      go_wp2_with fail
      go_ret2
      refine ⟨HB.out, ?_⟩
      rw [HV.out]
      exact ⟨.slice ads s.length caps, rfl, HO.out⟩
end Go.Proofs.Ytekdipmioogohaa
/-
  A NODE OF THE PROGRAM: nodeOf's answer, the method fits that it leads to, and that one's answer.
-/
namespace Go.Proofs.Ytekdipmioogohaa
set_option linter.unusedVariables false
set_option linter.unusedSimpArgs false
open Go.RowKit

/-- is a node right at its top? -/
def topC (op num : Int) (n : Nat) (vars defs : Int) : Bool := decide ((n : Int) = arity op) && ownB op num vars defs
def topB (t : Tr) (vars defs : Int) : Bool := topC t.op t.num t.kids.length vars defs

/-- what is known of the node at a tree's top: nodeOf's answer, the method that it leads to, and that one's answer -/
structure NodeAt (vars defs op num : Int) (n : Nat) (T : TypeId) (x : Value) (K : FuncId) (ok fit : Bool) : Prop where
  node : ∀ (w : World), Calls Try.prog 39 #[.int .i64 op, .int .i64 num, .int .i64 (n : Int)] w fun e w' => e = .returned (.tuple #[.iface T x, .bool ok]) ∧ Below w.heap.size w w'
  meth : ∀ w : World, (method 206 T x "loop.example/graphreducer/impl.fits").run Try.prog w = .ok (K, x) w
  enters : ∀ (args : Array Value) (w : World), (callFunc K args).run Try.prog w = .ok (.enter K args) w
  fits : ok = true → ∀ w : World, Calls Try.prog K #[x, .int .i64 vars, .int .i64 defs] w fun e w' => e = .returned (.bool fit) ∧ Below w.heap.size w w'
  top : (ok && fit) = topC op num n vars defs

set_option maxHeartbeats 400000 in
theorem fits_1 (n vars defs : Int) (w : World) : Calls Try.prog 63 #[.int .i64 n, .int .i64 vars, .int .i64 defs] w fun e w' => e = .returned (.bool (ownB 1 n vars defs)) ∧ Below w.heap.size w w' := by
  by_cases h0 : 0 ≤ n
  · go_enter Try.func63, Try.ntmps63
    go_wp2_with fail
    go_ret
    exact ⟨ret_bool (by simp [ownB, h0]), Below.refl _ _⟩
  · have h1 : decide (0 ≤ n) = false := by simpa using h0
    go_enter Try.func63, Try.ntmps63
    go_wp2_with fail
    go_ret
    exact ⟨ret_bool (by simp [ownB]; omega), Below.refl _ _⟩
theorem meth_1 (n : Int) (w : World) : (method 206 82 (.int .i64 n) "loop.example/graphreducer/impl.fits").run Try.prog w = .ok (63, .int .i64 n) w := by kernel_rfl
theorem enters_1 (args : Array Value) (w : World) : (callFunc 63 args).run Try.prog w = .ok (.enter 63 args) w := by kernel_rfl
theorem nodeAt_1 (vars defs op num : Int) (n : Nat) (h : op = 1) : NodeAt vars defs op num n 82 (.int .i64 num) 63 ((n : Int) == 0) (ownB op num vars defs) where
  node w := by rw [h]; exact nodeOf_1 num n w
  meth w := meth_1 _ w
  enters := enters_1
  fits _ w := by rw [h]; exact fits_1 _ _ _ w
  top := by unfold topC; rw [h, show arity 1 = 0 from rfl]; rfl

set_option maxHeartbeats 400000 in
theorem fits_2 (n vars defs : Int) (w : World) : Calls Try.prog 65 #[.int .i64 n, .int .i64 vars, .int .i64 defs] w fun e w' => e = .returned (.bool (ownB 2 n vars defs)) ∧ Below w.heap.size w w' := by
  by_cases h0 : 0 ≤ n
  · go_enter Try.func65, Try.ntmps65
    go_wp2_with fail
    go_ret
    exact ⟨ret_bool (by simp [ownB, h0]), Below.refl _ _⟩
  · have h1 : decide (0 ≤ n) = false := by simpa using h0
    go_enter Try.func65, Try.ntmps65
    go_wp2_with fail
    go_ret
    exact ⟨ret_bool (by simp [ownB]; omega), Below.refl _ _⟩
theorem meth_2 (n : Int) (w : World) : (method 206 83 (.int .i64 n) "loop.example/graphreducer/impl.fits").run Try.prog w = .ok (65, .int .i64 n) w := by kernel_rfl
theorem enters_2 (args : Array Value) (w : World) : (callFunc 65 args).run Try.prog w = .ok (.enter 65 args) w := by kernel_rfl
theorem nodeAt_2 (vars defs op num : Int) (n : Nat) (h : op = 2) : NodeAt vars defs op num n 83 (.int .i64 num) 65 ((n : Int) == 0) (ownB op num vars defs) where
  node w := by rw [h]; exact nodeOf_2 num n w
  meth w := meth_2 _ w
  enters := enters_2
  fits _ w := by rw [h]; exact fits_2 _ _ _ w
  top := by unfold topC; rw [h, show arity 2 = 0 from rfl]; rfl

set_option maxHeartbeats 400000 in
theorem fits_3 (n vars defs : Int) (w : World) : Calls Try.prog 67 #[.int .i64 n, .int .i64 vars, .int .i64 defs] w fun e w' => e = .returned (.bool (ownB 3 n vars defs)) ∧ Below w.heap.size w w' := by
  by_cases h0 : 0 ≤ n
  · go_enter Try.func67, Try.ntmps67
    go_wp2_with fail
    go_ret
    exact ⟨ret_bool (by simp [ownB, h0]), Below.refl _ _⟩
  · have h1 : decide (0 ≤ n) = false := by simpa using h0
    go_enter Try.func67, Try.ntmps67
    go_wp2_with fail
    go_ret
    exact ⟨ret_bool (by simp [ownB]; omega), Below.refl _ _⟩
theorem meth_3 (n : Int) (w : World) : (method 206 84 (.int .i64 n) "loop.example/graphreducer/impl.fits").run Try.prog w = .ok (67, .int .i64 n) w := by kernel_rfl
theorem enters_3 (args : Array Value) (w : World) : (callFunc 67 args).run Try.prog w = .ok (.enter 67 args) w := by kernel_rfl
theorem nodeAt_3 (vars defs op num : Int) (n : Nat) (h : op = 3) : NodeAt vars defs op num n 84 (.int .i64 num) 67 ((n : Int) == 0) (ownB op num vars defs) where
  node w := by rw [h]; exact nodeOf_3 num n w
  meth w := meth_3 _ w
  enters := enters_3
  fits _ w := by rw [h]; exact fits_3 _ _ _ w
  top := by unfold topC; rw [h, show arity 3 = 0 from rfl]; rfl

set_option maxHeartbeats 400000 in
theorem fits_o (k : Int) (m : ByteArray) (vars defs : Int) (w : World) : Calls Try.prog 61 #[.agg #[.int .i64 k, .string m], .int .i64 vars, .int .i64 defs] w fun e w' => e = .returned (.bool true) ∧ Below w.heap.size w w' := by
  go_enter Try.func61, Try.ntmps61
  go_wp2_with fail
  go_ret
  exact ⟨rfl, box_below _ _⟩
theorem meth_o (k : Int) (m : ByteArray) (w : World) : (method 206 78 (.agg #[.int .i64 k, .string m]) "loop.example/graphreducer/impl.fits").run Try.prog w = .ok (61, .agg #[.int .i64 k, .string m]) w := by kernel_rfl
theorem enters_o (args : Array Value) (w : World) : (callFunc 61 args).run Try.prog w = .ok (.enter 61 args) w := by kernel_rfl
theorem nodeAt_o (vars defs op num : Int) (n : Nat) (h1 : op ≠ 1) (h2 : op ≠ 2) (h3 : op ≠ 3) : NodeAt vars defs op num n 78 (.agg #[.int .i64 (opKids op), .string (opMarks op)]) 61 (opOk op && ((num == 0) && ((n : Int) == opKids op))) true where
  node w := nodeOf_op op num n w (by simpa using h1) (by simpa using h2) (by simpa using h3)
  meth w := meth_o _ _ w
  enters := enters_o
  fits _ w := fits_o _ _ _ _ w
  top := by
    unfold topC ownB
    rw [if_neg h1, if_neg h2, if_neg h3, Bool.and_true]
    by_cases hr : 4 ≤ op ∧ op ≤ 10
    · have e : opKids op = arity op := by
        have : op = 4 ∨ op = 5 ∨ op = 6 ∨ op = 7 ∨ op = 8 ∨ op = 9 ∨ op = 10 := by omega
        rcases this with h | h | h | h | h | h | h <;> rw [h] <;> rfl
      have e2 : opOk op = true := by unfold opOk; rw [decide_eq_true hr]
      rw [e, e2, Bool.true_and, Bool.and_comm]
      rfl
    · have e2 : opOk op = false := by unfold opOk; rw [decide_eq_false hr]
      have e3 : arity op = -1 := by
        unfold arity
        rw [if_neg (by omega), if_neg (by omega), if_neg (by omega), if_neg (by omega)]
      rw [e2, e3, Bool.false_and, decide_eq_false (by omega), Bool.false_and]
end Go.Proofs.Ytekdipmioogohaa
/-
  THE PROGRAM's nodesLeft AND ExprValid: which trees they take for valid; nothing that was there is changed.
-/
namespace Go.Proofs.Ytekdipmioogohaa
set_option linter.unusedVariables false
set_option linter.unusedSimpArgs false
open Go.RowKit

def NlSaid (vars defs : Int) (d : Nat) (t : Tr) : Prop := ∀ (c : Value) (nodes : Int) (w : World), In w t.kids c → 0 ≤ nodes → nodes ≤ 1000 →
  Calls Try.prog 27 #[.agg #[.int .i64 t.op, .int .i64 t.num, c], .int .i64 vars, .int .i64 defs, .int .i64 (d : Int), .int .i64 nodes] w fun e w' => e = .returned (.int .i64 (nlOut vars defs d t nodes)) ∧ Below w.heap.size w w'

theorem nlOut_bad (vars defs : Int) (d : Nat) (t : Tr) (nodes : Int) (h : topB t vars defs = false) : nlOut vars defs d t nodes = -1 := by
  unfold nlOut
  rw [if_neg]
  rintro ⟨h1, _⟩
  cases d with
  | zero => simp [shB] at h1
  | succ d =>
    simp only [shB, Bool.and_eq_true] at h1
    simp only [topB, topC] at h
    rw [h1.1.1, h1.1.2] at h
    simp at h
theorem nlOut_zero (vars defs : Int) (t : Tr) (nodes : Int) : nlOut vars defs 0 t nodes = -1 := by
  unfold nlOut; rw [if_neg]; rintro ⟨h1, _⟩; simp [shB] at h1
theorem nlOut_none (vars defs : Int) (d : Nat) (t : Tr) : nlOut vars defs d t 0 = -1 := by
  unfold nlOut; rw [if_neg]; rintro ⟨_, h⟩; omega

/-- what is left behind the first k operands -/
def nlAt (t : Tr) (nodes : Int) (k : Nat) : Int := nodes - 1 - szL (t.kids.take k)
theorem nlOut_kid (vars defs : Int) (d : Nat) (t : Tr) (nodes : Int) (k : Nat) (hk : k < t.kids.length) (h : 0 ≤ nlOut vars defs d t.kids[k] (nlAt t nodes k)) :
    nlOut vars defs d t.kids[k] (nlAt t nodes k) = nlAt t nodes (k + 1) ∧ shB vars defs d t.kids[k] = true := by
  have e := szL_take_succ t.kids k hk
  unfold nlOut at h ⊢
  split at h
  · rename_i h1
    rw [if_pos h1]
    unfold nlAt
    rw [e]
    exact ⟨by omega, h1.1⟩
  · omega
theorem nlOut_kid_bad (vars defs : Int) (d : Nat) (t : Tr) (nodes : Int) (k : Nat) (hk : k < t.kids.length) (h : nlOut vars defs d t.kids[k] (nlAt t nodes k) < 0) (h0 : 0 ≤ nlAt t nodes k) : nlOut vars defs (d + 1) t nodes = -1 := by
  have e := szL_take_succ t.kids k hk
  have e2 := szL_take_le t.kids (k + 1)
  unfold nlOut
  rw [if_neg]
  rintro ⟨h1, h2⟩
  simp only [shB, Bool.and_eq_true, List.all_eq_true] at h1
  have h3 := h1.2 _ (List.getElem_mem hk)
  unfold nlOut at h
  rw [if_pos] at h
  · rw [szT_eq t] at h2; unfold nlAt at *; omega
  · refine ⟨h3, ?_⟩
    rw [szT_eq t] at h2; unfold nlAt; omega
theorem nlOut_end (vars defs : Int) (d : Nat) (t : Tr) (nodes : Int) (ht : topB t vars defs = true) (ha : (t.kids.take t.kids.length).all (shB vars defs d) = true) (h0 : 0 ≤ nlAt t nodes t.kids.length) : nlOut vars defs (d + 1) t nodes = nlAt t nodes t.kids.length := by
  rw [List.take_length] at ha
  unfold nlAt at *
  rw [List.take_length] at *
  unfold nlOut
  rw [if_pos, szT_eq]
  · omega
  · refine ⟨?_, by rw [szT_eq]; omega⟩
    simp only [topB, topC, Bool.and_eq_true] at ht
    simp only [shB, ha, ht.1, ht.2, Bool.and_true]
theorem nlOut_range (vars defs : Int) (d : Nat) (t : Tr) (nodes : Int) (h : 0 ≤ nodes) : -1 ≤ nlOut vars defs d t nodes ∧ nlOut vars defs d t nodes ≤ nodes := by
  unfold nlOut; split <;> omega

set_option maxRecDepth 100000 in
set_option maxHeartbeats 800000 in
/-- the node is not right at its top, or nothing is left -/
theorem nl_leave (vars defs : Int) (d : Nat) (t : Tr) (T : TypeId) (x : Value) (K : FuncId) (ok fit : Bool) (hn : NodeAt vars defs t.op t.num t.kids.length T x K ok fit) (ad : Option Addr) (cap : Nat) (nodes : Int) (w : World)
    (h : topB t vars defs = false ∨ d = 0 ∨ nodes = 0) :
    Calls Try.prog 27 #[.agg #[.int .i64 t.op, .int .i64 t.num, .slice ad t.kids.length cap], .int .i64 vars, .int .i64 defs, .int .i64 (d : Int), .int .i64 nodes] w fun e w' => e = .returned (.int .i64 (nlOut vars defs d t nodes)) ∧ Below w.heap.size w w' := by
  have HV : Hid (nlOut vars defs d t nodes = -1) := by
    rcases h with h | rfl | rfl
    · exact nlOut_bad _ _ _ _ _ h
    · exact nlOut_zero _ _ _ _
    · exact nlOut_none _ _ _ _
  have HN : Hid (NodeAt vars defs t.op t.num t.kids.length T x K ok fit) := hn
  have hme := hn.meth
  have hen := hn.enters
  have htop : (ok && fit) = topB t vars defs := hn.top
  clear hn
  cases hok : ok with
  | false =>
    clear htop h
    subst hok
    clear hme hen
    go_enter Try.func27, Try.ntmps27
    go_wp2_with fail
    refine (HN.out.node _).mono ?_
    rintro e w1 ⟨rfl, hb⟩
    have HB : Hid (Below w.heap.size w w1) := (box_below _ _).trans (hb.mono (by rw [Deep.nblk_alloc]; omega))
    clear hb
    go_wp2_with fail
    go_ret
    exact ⟨ret_int HV.out.symm, HB.out⟩
  | true =>
    subst hok
    rw [Bool.true_and] at htop
    rw [← htop] at h
    clear htop
    cases hfit : fit with
    | false =>
      subst hfit
      clear h
      go_enter Try.func27, Try.ntmps27
      go_wp2_with fail
      refine (HN.out.node _).mono ?_
      rintro e w1 ⟨rfl, hb⟩
      have HB : Hid (Below w.heap.size w w1) := (box_below _ _).trans (hb.mono (by rw [Deep.nblk_alloc]; omega))
      clear hb
      go_wp2_with fail
      refine (HN.out.fits rfl _).mono ?_
      rintro e w2 ⟨rfl, hb⟩
      have HB2 : Hid (Below w.heap.size w w2) := HB.out.trans (hb.mono HB.out.size)
      clear hb
      go_wp2_with fail
      go_ret
      exact ⟨ret_int HV.out.symm, HB2.out⟩
    | true =>
      subst hfit
      by_cases hd : d = 0
      · subst hd
        clear h
        have hd' : (((0 : Nat) : Int) == 0) = true := rfl
        go_enter Try.func27, Try.ntmps27
        go_wp2_with fail
        refine (HN.out.node _).mono ?_
        rintro e w1 ⟨rfl, hb⟩
        have HB : Hid (Below w.heap.size w w1) := (box_below _ _).trans (hb.mono (by rw [Deep.nblk_alloc]; omega))
        clear hb
        go_wp2_with fail
        refine (HN.out.fits rfl _).mono ?_
        rintro e w2 ⟨rfl, hb⟩
        have HB2 : Hid (Below w.heap.size w w2) := HB.out.trans (hb.mono HB.out.size)
        clear hb
        go_wp2_with fail
        go_ret
        exact ⟨ret_int HV.out.symm, HB2.out⟩
      · have hn0 : nodes = 0 := by
          rcases h with h | h | h
          · simp at h
          · exact absurd h hd
          · exact h
        subst hn0
        clear h
        have hd' : ((d : Int) == 0) = false := by simpa using hd
        go_enter Try.func27, Try.ntmps27
        go_wp2_with fail
        refine (HN.out.node _).mono ?_
        rintro e w1 ⟨rfl, hb⟩
        have HB : Hid (Below w.heap.size w w1) := (box_below _ _).trans (hb.mono (by rw [Deep.nblk_alloc]; omega))
        clear hb
        go_wp2_with fail
        refine (HN.out.fits rfl _).mono ?_
        rintro e w2 ⟨rfl, hb⟩
        have HB2 : Hid (Below w.heap.size w w2) := HB.out.trans (hb.mono HB.out.size)
        clear hb
        go_wp2_with fail
        go_ret
        exact ⟨ret_int HV.out.symm, HB2.out⟩

set_option maxRecDepth 100000 in
set_option maxHeartbeats 800000 in
/-- the node is right at its top, and something is left: its operands -/
theorem nl_go (vars defs : Int) (d : Nat) (t : Tr) (T : TypeId) (x : Value) (K : FuncId) (ok fit : Bool) (hn : NodeAt vars defs t.op t.num t.kids.length T x K ok fit) (c : Value) (nodes : Int) (w : World)
    (ih : ∀ i (hi : i < t.kids.length), NlSaid vars defs d (t.kids[i])) (hk : In w t.kids c) (ht : topB t vars defs = true) (h0 : 0 < nodes) (h1 : nodes ≤ 1000) (hd : d ≤ 100) :
    Calls Try.prog 27 #[.agg #[.int .i64 t.op, .int .i64 t.num, c], .int .i64 vars, .int .i64 defs, .int .i64 ((d + 1 : Nat) : Int), .int .i64 nodes] w fun e w' => e = .returned (.int .i64 (nlOut vars defs (d + 1) t nodes)) ∧ Below w.heap.size w w' := by
  have HI : Hid (∀ i (hi : i < t.kids.length), NlSaid vars defs d (t.kids[i])) := ih
  have HK : Hid (In w t.kids c) := hk
  have HT : Hid (topB t vars defs = true) := ht
  have HN : Hid (NodeAt vars defs t.op t.num t.kids.length T x K ok fit) := hn
  have hme := hn.meth
  have hen := hn.enters
  have htop : (ok && fit) = topB t vars defs := hn.top
  rw [ht, Bool.and_eq_true] at htop
  obtain ⟨rfl, rfl⟩ := htop
  clear hn ih ht
  obtain ⟨ad, cap, rfl, hl, hm, -⟩ := hk
  unfold maxLen at hm
  have d1 : ((d : Int) + 1 == 0) = false := by simp; omega
  have n1 : (nodes == 0) = false := by simp; omega
  go_enter Try.func27, Try.ntmps27
  go_wp2_with fail
  refine (HN.out.node _).mono ?_
  rintro e w1 ⟨rfl, hb⟩
  have HB : Hid (Below w.heap.size w w1) := (box_below _ _).trans (hb.mono (by rw [Deep.nblk_alloc]; omega))
  have hz : w.heap.size < w1.heap.size := by have := hb.size; rw [Deep.nblk_alloc] at this; omega
  have c2 := (hb.cell (p := ⟨w.heap.size, 2, none⟩) (by rw [Deep.nblk_alloc]; exact Nat.lt_succ_self _)).trans (box_cell w #[.int .i64 t.op, .int .i64 t.num, .slice ad t.kids.length cap] 32 2 _ rfl)
  have C2 : Hid (w1.cell? ⟨w.heap.size, 2, none⟩ = some (.slice ad t.kids.length cap)) := c2
  clear hb c2
  go_wp2_with fail
  refine (HN.out.fits rfl _).mono ?_
  rintro e w2 ⟨rfl, hb⟩
  have HB2 : Hid (Below w.heap.size w w2) := HB.out.trans (hb.mono HB.out.size)
  have c2 := (hb.cell (p := ⟨w.heap.size, 2, none⟩) hz).trans C2.out
  clear hb hme hen
  go_wp2_with fail
  clear c2
  go_loopw [4, 48] (fun n i wr => ∃ k : Nat, k ≤ t.kids.length ∧ i = .int .i64 k ∧ n = .int .i64 (nlAt t nodes k) ∧ 0 ≤ nlAt t nodes k ∧ (t.kids.take k).all (shB vars defs d) = true ∧ Below w.heap.size w wr) (fun _ i _ => t.kids.length - (intOf i).toNat)
  case atStart => exact ⟨0, Nat.zero_le _, rfl, by simp [nlAt, szL], by simp [nlAt, szL]; omega, by simp, HB2.out⟩
  case round =>
    obtain ⟨k, hk, rfl, rfl, hpos, hall, hb⟩ := hrel
    have HA : Hid ((t.kids.take k).all (shB vars defs d) = true) := hall
    have HBW : Hid (Below w.heap.size w wr) := hb
    have hle : nlAt t nodes k ≤ nodes := by unfold nlAt; omega
    clear hall
    by_cases hlt : k < t.kids.length
    · have hrow' := HK.out.next hb
      clear hb
      obtain ⟨ad', cap', he, -, -, hr⟩ := hrow'
      cases he
      rcases hr with hnil | ⟨bl, off, rfl, -, hr⟩
      · rw [hnil] at hlt; simp at hlt
      obtain ⟨p, q, r, e0, e1, e2, ht⟩ := RowOn.at t.kids off k hlt hr
      obtain ⟨rfl, rfl, -, -, hkk⟩ := trOn_iff.1 ht
      obtain ⟨ad2, cap2, rfl, -, -, -⟩ := id hkk
      have HKK : Hid (In wr t.kids[k].kids (.slice ad2 t.kids[k].kids.length cap2)) := hkk
      clear hkk ht hr
      go_wp2_with fail
      refine (HI.out k hlt (.slice ad2 t.kids[k].kids.length cap2) _ _ ?_ hpos (by omega)).mono ?_
      · exact HKK.out.next (box_below _ _)
      rintro e w3 ⟨rfl, hb3⟩
      have HB3 : Hid (Below w.heap.size w w3) := HBW.out.trans (((box_below _ _).trans (hb3.mono (by rw [Deep.nblk_alloc]; omega))).mono HBW.out.size)
      clear hb3
      have hrg := nlOut_range vars defs d t.kids[k] (nlAt t nodes k) hpos
      by_cases hneg : nlOut vars defs d t.kids[k] (nlAt t nodes k) < 0
      · have HV : Hid (nlOut vars defs (d + 1) t nodes = -1) := nlOut_kid_bad vars defs d t nodes k hlt hneg hpos
        go_wp2_with fail
        go_ret
        exact ⟨ret_int HV.out.symm, HB3.out⟩
      · have hkid := nlOut_kid vars defs d t nodes k hlt (by omega)
        have HV : Hid (nlOut vars defs d t.kids[k] (nlAt t nodes k) = nlAt t nodes (k + 1)) := hkid.1
        have HA2 : Hid ((t.kids.take (k + 1)).all (shB vars defs d) = true) := by rw [Hid, all_take_succ _ _ _ hlt, HA.out, hkid.2]; rfl
        have hnn : 0 ≤ nlAt t nodes (k + 1) := by rw [← HV.out]; omega
        clear hkid
        go_wp2_with fail
        go_roundw
        case rel => exact ⟨k + 1, by omega, by go_num, by rw [HV.out], hnn, HA2.out, HB3.out⟩
        case measure => simp [intOf]; omega
    · have hke : t.kids.length = k := by omega
      have HV : Hid (nlOut vars defs (d + 1) t nodes = nlAt t nodes k) := by
        have h2 := HA.out
        rw [← hke] at hpos h2 ⊢
        exact nlOut_end vars defs d t nodes HT.out h2 hpos
      clear hke hb
      go_wp2_with fail
      go_ret
      exact ⟨ret_int HV.out.symm, HBW.out⟩
theorem nl_step (vars defs : Int) (d : Nat) (t : Tr) (hd : d ≤ 100) (ih : ∀ i (hi : i < t.kids.length), ∀ d', d' < d → NlSaid vars defs d' (t.kids[i])) : NlSaid vars defs d t := by
  intro c nodes w hk h0 h1
  have key : ∀ (T : TypeId) (x : Value) (K : FuncId) (ok fit : Bool), NodeAt vars defs t.op t.num t.kids.length T x K ok fit →
      Calls Try.prog 27 #[.agg #[.int .i64 t.op, .int .i64 t.num, c], .int .i64 vars, .int .i64 defs, .int .i64 (d : Int), .int .i64 nodes] w fun e w' => e = .returned (.int .i64 (nlOut vars defs d t nodes)) ∧ Below w.heap.size w w' := by
    intro T x K ok fit hn
    by_cases hl : topB t vars defs = false ∨ d = 0 ∨ nodes = 0
    · obtain ⟨ad, cap, rfl, -, -, -⟩ := hk
      exact nl_leave vars defs d t T x K ok fit hn ad cap nodes w hl
    · simp only [not_or, Bool.not_eq_false] at hl
      obtain ⟨e, rfl⟩ : ∃ e, d = e + 1 := ⟨d - 1, by omega⟩
      exact nl_go vars defs e t T x K ok fit hn c nodes w (fun i hi => ih i hi e (by omega)) hk hl.1 (by omega) h1 (by omega)
  by_cases e1 : t.op = 1
  · exact key _ _ _ _ _ (nodeAt_1 vars defs t.op t.num t.kids.length e1)
  by_cases e2 : t.op = 2
  · exact key _ _ _ _ _ (nodeAt_2 vars defs t.op t.num t.kids.length e2)
  by_cases e3 : t.op = 3
  · exact key _ _ _ _ _ (nodeAt_3 vars defs t.op t.num t.kids.length e3)
  exact key _ _ _ _ _ (nodeAt_o vars defs t.op t.num t.kids.length e1 e2 e3)

theorem nl_any (vars defs : Int) : ∀ (d : Nat) (t : Tr), d ≤ 100 → NlSaid vars defs d t := by
  intro d
  induction d using Nat.strongRecOn with
  | ind d ih => intro t h; exact nl_step vars defs d t h fun i hi d' hd' => ih d' hd' _ (by omega)

set_option maxHeartbeats 400000 in
/-- THE PROGRAM's ExprValid -/
theorem implValid_calls (t : Tr) (vars defs : Int) (c : Value) (w : World) (hk : In w t.kids c) : Calls Try.prog 14 #[.agg #[.int .i64 t.op, .int .i64 t.num, c], .int .i64 vars, .int .i64 defs] w fun e w' => e = .returned (.bool (validB t vars defs)) ∧ Below w.heap.size w w' := by
  have HK : Hid (In w t.kids c) := hk
  clear hk
  have HBX : Hid (Below w.heap.size w (w.alloc (.cells #[.int .i64 t.op, .int .i64 t.num, c] 32))) := box_below _ _
  by_cases hv0 : 0 ≤ vars
  · by_cases hv4 : vars ≤ 4
    · by_cases hd0 : 0 ≤ defs
      · by_cases hd6 : defs ≤ 6
        · have HV : Hid (validB t vars defs = decide (0 ≤ nlOut vars defs 16 t 60)) := by
            simp only [Hid, validB]
            rw [decide_eq_true (show 0 ≤ vars ∧ vars ≤ 4 ∧ 0 ≤ defs ∧ defs ≤ 6 from ⟨hv0, hv4, hd0, hd6⟩), Bool.true_and]
            unfold nlOut
            cases hs : shB vars defs 16 t with
            | false => simp
            | true =>
              simp only [true_and, Bool.true_and]
              rw [decide_eq_decide]
              split <;> omega
          have hrg := nlOut_range vars defs 16 t 60 (by omega)
          go_enter Try.func14, Try.ntmps14
          go_wp2_with fail
          refine (nl_any vars defs 16 t (by omega) c _ _ (HK.out.next HBX.out) (by omega) (by omega)).mono ?_
          rintro e w2 ⟨rfl, hb2⟩
          have HB2 : Hid (Below w.heap.size w w2) := HBX.out.trans (hb2.mono HBX.out.size)
          clear hb2
          go_wp2_with fail
          go_ret
          exact ⟨ret_bool HV.out.symm, HB2.out⟩
        · have HV : Hid (validB t vars defs = false) := by
            simp only [Hid, validB]
            rw [decide_eq_false (show ¬ (0 ≤ vars ∧ vars ≤ 4 ∧ 0 ≤ defs ∧ defs ≤ 6) by omega), Bool.false_and]
          go_enter Try.func14, Try.ntmps14
          go_wp2_with fail
          go_ret
          exact ⟨ret_bool HV.out.symm, HBX.out⟩
      · have HV : Hid (validB t vars defs = false) := by
          simp only [Hid, validB]
          rw [decide_eq_false (show ¬ (0 ≤ vars ∧ vars ≤ 4 ∧ 0 ≤ defs ∧ defs ≤ 6) by omega), Bool.false_and]
        go_enter Try.func14, Try.ntmps14
        go_wp2_with fail
        go_ret
        exact ⟨ret_bool HV.out.symm, HBX.out⟩
    · have HV : Hid (validB t vars defs = false) := by
        simp only [Hid, validB]
        rw [decide_eq_false (show ¬ (0 ≤ vars ∧ vars ≤ 4 ∧ 0 ≤ defs ∧ defs ≤ 6) by omega), Bool.false_and]
      go_enter Try.func14, Try.ntmps14
      go_wp2_with fail
      go_ret
      exact ⟨ret_bool HV.out.symm, HBX.out⟩
  · have HV : Hid (validB t vars defs = false) := by
      simp only [Hid, validB]
      rw [decide_eq_false (show ¬ (0 ≤ vars ∧ vars ≤ 4 ∧ 0 ≤ defs ∧ defs ≤ 6) by omega), Bool.false_and]
    go_enter Try.func14, Try.ntmps14
    go_wp2_with fail
    go_ret
    exact ⟨ret_bool HV.out.symm, HBX.out⟩
end Go.Proofs.Ytekdipmioogohaa
