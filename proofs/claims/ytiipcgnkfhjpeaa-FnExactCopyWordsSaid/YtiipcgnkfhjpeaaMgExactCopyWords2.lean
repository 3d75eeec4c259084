/-
  A STACK OF PLACES (a slice of ints that a call owns) AND MARKS (a row of bools).
-/
import Derived.Test.YtiipcgnkfhjpeaaMgExactCopyWords1
import Derived.Laws.AppendOwn
import Derived.Laws.AppendOwnNone
import Derived.Test.YtiipcgnkfhjpeaaProg
import Derived.Deep.RegionWith
import Derived.Deep.DeepMust
import Derived.Deep.QuietTactic
import Derived.BigQuiet
import Derived.IntWalk
namespace Go.Proofs.Ytiipcgnkfhjpeaa
set_option linter.unusedVariables false
set_option linter.unusedSimpArgs false
open Go.RowKit

theorem infoI1 : ∃ i z, Try.prog.info? 3 = some i ∧ i.zero = some z ∧ i.size = 1 ∧ i.bytes = 8 ∧ z.cells.size = 1 := by
  obtain ⟨i, hi, hzz⟩ := Option.map_eq_some_iff.1 infoI
  simp only [Prod.mk.injEq] at hzz
  obtain ⟨hz, hs, hb⟩ := hzz
  exact ⟨i, _, hi, hz, hs, hb, rfl⟩
/-- places, as values -/
def plV (ws : List Nat) : List Value := ws.map fun (a : Nat) => Value.int .i64 (a : Int)
theorem plV_length (ws : List Nat) : (plV ws).length = ws.length := by simp [plV]
def Stk (w : World) (lo : Nat) (ws : List Nat) (v : Value) : Prop := w.ownsRow lo 3 1 v ws.length (plV ws)
theorem Stk.keep {w w' : World} {lo : Nat} {ws : List Nat} {v : Value} (h : Stk w lo ws v) (hk : ∀ k, lo ≤ k → k < w.heap.size → w'.heap[k]? = w.heap[k]?) : Stk w' lo ws v := by
  refine ⟨h.1, ?_⟩
  rcases h.2 with h | ⟨g, cap, cur, rfl, hg, hh, r⟩
  · exact Or.inl h
  · exact Or.inr ⟨g, cap, cur, rfl, hg, (hk g hg (Array.getElem?_eq_some_iff.1 hh).1).trans hh, r⟩
theorem Stk.top {w : World} {lo : Nat} {ws : List Nat} {a : Nat} {v : Value} (h : Stk w lo (ws ++ [a]) v) :
    ∃ g cap, v = .slice (some ⟨g, 0, none⟩) (ws.length + 1) cap ∧ lo ≤ g ∧ g < w.heap.size ∧ ws.length + 1 ≤ cap ∧ cap ≤ maxLen ∧ w.cell? ⟨g, ws.length, none⟩ = some (.int .i64 (a : Int)) ∧ Stk w lo ws (.slice (some ⟨g, 0, none⟩) ws.length cap) := by
  obtain ⟨h1, h2⟩ := h
  rcases h2 with ⟨-, h0⟩ | ⟨g, cap, cur, hv, hg, hh, hn, hc, hs, htk⟩
  · simp at h0
  · simp only [List.length_append, List.length_cons, List.length_nil, Nat.zero_add] at hv hn htk
    simp only [Nat.mul_one] at hs htk
    have hlt : ws.length < cur.size := by omega
    have e1 : (cur.toList.take (ws.length + 1))[ws.length]? = (plV (ws ++ [a]))[ws.length]? := by rw [htk]
    have e2 : cur.toList.take ws.length = plV ws := by
      have := congrArg (List.take ws.length) htk
      rw [List.take_take, Nat.min_eq_left (by omega)] at this
      rw [this]
      simp [plV]
    refine ⟨g, cap, hv, hg, (Array.getElem?_eq_some_iff.1 hh).1, hn, hc, ?_, by rw [plV_length]; omega, Or.inr ⟨g, cap, cur, rfl, hg, hh, by omega, hc, by omega, by rw [Nat.mul_one]; exact e2⟩⟩
    simp only [World.cell?, hh]
    rw [List.getElem?_take_of_lt (by omega)] at e1
    have e3 : (plV (ws ++ [a]))[ws.length]? = some (.int .i64 (a : Int)) := by simp [plV]
    rw [e3] at e1
    simpa using e1
theorem own_lo {w : World} {base n size : Nat} {e : TypeId} {v : Value} {xs : List Value} (h : w.ownsRow base e size v n xs) {k : Nat} (hk : some k = v.ownBlock) : base ≤ k := by
  rcases h.2 with ⟨rfl, -⟩ | ⟨g, cap, cur, rfl, hg, -⟩
  · simp [Value.ownBlock] at hk
  · simp only [Value.ownBlock, Option.some.injEq] at hk
    omega
theorem Stk.nil {w : World} {lo : Nat} {v : Value} {n : Nat} (h : Stk w lo [] v) : ∃ ad cap, v = .slice ad 0 cap := by
  rcases h.2 with ⟨rfl, -⟩ | ⟨g, cap, cur, rfl, -⟩
  · exact ⟨_, _, rfl⟩
  · exact ⟨_, _, rfl⟩
theorem Stk.len {w : World} {lo : Nat} {ws : List Nat} {v : Value} (h : Stk w lo ws v) : ∃ ad cap, v = .slice ad ws.length cap := by
  rcases h.2 with ⟨rfl, h0⟩ | ⟨g, cap, cur, rfl, -⟩
  · exact ⟨none, 0, by rw [h0]⟩
  · exact ⟨_, _, rfl⟩
theorem Stk.row {w : World} {lo : Nat} {ws : List Nat} {v : Value} (h : Stk w lo ws v) : IntRow w lo (ws.map fun (a : Nat) => (a : Int)) v := by
  rcases h.2 with ⟨rfl, h0⟩ | ⟨g, cap, cur, rfl, hg, hh, hn, hc, hs, htk⟩
  · obtain rfl : ws = [] := List.eq_nil_of_length_eq_zero h0
    exact IntRow.none _ _
  · rw [Nat.mul_one] at hs htk
    refine ⟨_, cap, by rw [List.length_map], by rw [List.length_map]; exact hn, hc, Or.inr ⟨g, fun i => cur.getD i undef, rfl, hg, ⟨cur, hh, hs, fun i hi => ?_⟩, fun i hi => ?_⟩⟩
    · have hi' : i < cur.size := by omega
      simp [Array.getD, hi']
    · rw [List.length_map] at hi
      have hi' : i < cur.size := by omega
      have e1 : (cur.toList.take ws.length)[i]? = (plV ws)[i]? := by rw [htk]
      rw [List.getElem?_take_of_lt hi] at e1
      have e2 : (plV ws)[i]? = some (.int .i64 (ws[i] : Int)) := by simp [plV, hi]
      rw [e2] at e1
      simp [Array.getD, hi'] at e1 ⊢
      exact e1
theorem Stk.alloc {w : World} {lo : Nat} {ws : List Nat} {v : Value} (h : Stk w lo ws v) (o : Obj) : Stk (w.alloc o) lo ws v := h.keep fun k _ hk => Deep.blk_alloc_lt _ _ _ hk

/-- no numbers, in whatever block -/
theorem no_ints (w : World) (lo : Nat) (ad : Option Addr) (cap : Nat) (h : cap ≤ maxLen) : IntRow w lo [] (.slice ad 0 cap) := ⟨ad, cap, rfl, Nat.zero_le _, h, Or.inl rfl⟩
end Go.Proofs.Ytiipcgnkfhjpeaa
/-
  A SLICE OF INTS THAT A CALL OWNS, to which it appends: any numbers.
-/
namespace Go.Proofs.Ytiipcgnkfhjpeaa
set_option linter.unusedVariables false
set_option linter.unusedSimpArgs false
open Go.RowKit

/-- numbers, as values -/
def inV (xs : List Int) : List Value := xs.map fun a => Value.int .i64 a
theorem inV_length (xs : List Int) : (inV xs).length = xs.length := by simp [inV]
theorem inV_append (xs ys : List Int) : inV (xs ++ ys) = inV xs ++ inV ys := by simp [inV]
theorem inV_one (xs : List Int) : ∀ u ∈ inV xs, u.oneCell' = true := by
  intro u hu
  simp only [inV, List.mem_map] at hu
  obtain ⟨a, -, rfl⟩ := hu
  rfl
def StkI (w : World) (lo : Nat) (xs : List Int) (v : Value) : Prop := w.ownsRow lo 3 1 v xs.length (inV xs)
theorem StkI.keep {w w' : World} {lo : Nat} {xs : List Int} {v : Value} (h : StkI w lo xs v) (hk : ∀ k, lo ≤ k → k < w.heap.size → w'.heap[k]? = w.heap[k]?) : StkI w' lo xs v := by
  refine ⟨h.1, ?_⟩
  rcases h.2 with h | ⟨g, cap, cur, rfl, hg, hh, r⟩
  · exact Or.inl h
  · exact Or.inr ⟨g, cap, cur, rfl, hg, (hk g hg (Array.getElem?_eq_some_iff.1 hh).1).trans hh, r⟩
theorem StkI.next {w w' : World} {lo : Nat} {xs : List Int} {v : Value} (h : StkI w lo xs v) (hb : Below w.heap.size w w') : StkI w' lo xs v := h.keep fun k _ hk => hb.block k hk
theorem StkI.lower {w : World} {lo lo' : Nat} {xs : List Int} {v : Value} (h : StkI w lo xs v) (hl : lo' ≤ lo) : StkI w lo' xs v := by
  refine ⟨h.1, ?_⟩
  rcases h.2 with h | ⟨g, cap, cur, rfl, hg, r⟩
  · exact Or.inl h
  · exact Or.inr ⟨g, cap, cur, rfl, Nat.le_trans hl hg, r⟩
theorem StkI.len {w : World} {lo : Nat} {xs : List Int} {v : Value} (h : StkI w lo xs v) : ∃ ad cap, v = .slice ad xs.length cap := by
  rcases h.2 with ⟨rfl, h0⟩ | ⟨g, cap, cur, rfl, -⟩
  · exact ⟨none, 0, by rw [h0]⟩
  · exact ⟨_, _, rfl⟩
theorem StkI.form {w : World} {lo : Nat} {xs : List Int} {v : Value} (h : StkI w lo xs v) : ∃ ad n cap, v = .slice ad n cap := by
  obtain ⟨ad, cap, e⟩ := h.len
  exact ⟨ad, _, cap, e⟩
theorem StkI.eq_len {w : World} {lo : Nat} {xs : List Int} {ad : Option Addr} {n cap : Nat} (h : StkI w lo xs (.slice ad n cap)) : n = xs.length := by
  obtain ⟨_, _, e⟩ := h.len
  simp only [Value.slice.injEq] at e
  exact e.2.1
/-- no numbers yet, in a new block -/
theorem StkI.nil (w : World) (lo : Nat) (h : lo ≤ w.heap.size) : StkI (w.alloc (.cells #[] 3)) lo [] (.slice (some ⟨w.heap.size, 0, none⟩) 0 0) :=
  ⟨rfl, Or.inr ⟨w.heap.size, 0, _, rfl, h, Deep.blk_alloc_new _ _, Nat.le_refl _, by simp [maxLen], rfl, rfl⟩⟩
theorem StkI.none (w : World) (lo : Nat) : StkI w lo [] (.slice none 0 0) := ⟨rfl, Or.inl ⟨rfl, rfl⟩⟩
theorem StkI.row {w : World} {lo : Nat} {xs : List Int} {v : Value} (h : StkI w lo xs v) : IntRow w lo xs v := by
  rcases h.2 with ⟨rfl, h0⟩ | ⟨g, cap, cur, rfl, hg, hh, hn, hc, hs, htk⟩
  · obtain rfl : xs = [] := List.eq_nil_of_length_eq_zero h0
    exact IntRow.none _ _
  · rw [Nat.mul_one] at hs htk
    refine ⟨_, cap, rfl, hn, hc, Or.inr ⟨g, fun i => cur.getD i undef, rfl, hg, ⟨cur, hh, hs, fun i hi => ?_⟩, fun i hi => ?_⟩⟩
    · have hi' : i < cur.size := by omega
      simp [Array.getD, hi']
    · have hi' : i < cur.size := by omega
      have e1 : (cur.toList.take xs.length)[i]? = (inV xs)[i]? := by rw [htk]
      rw [List.getElem?_take_of_lt hi] at e1
      have e2 : (inV xs)[i]? = some (.int .i64 xs[i]) := by simp [inV, hi]
      rw [e2] at e1
      simp [Array.getD, hi'] at e1 ⊢
      exact e1
theorem StkI.alloc {w : World} {lo : Nat} {xs : List Int} {v : Value} (h : StkI w lo xs v) (o : Obj) : StkI (w.alloc o) lo xs v := h.keep fun k _ hk => Deep.blk_alloc_lt _ _ _ hk
theorem StkI.drew {w : World} {lo : Nat} {xs : List Int} {v : Value} (h : StkI w lo xs v) : StkI w.drew lo xs v := h.keep fun _ _ _ => rfl
/-- one number in a new block, as a slice that is appended -/
theorem oneI_in (w : World) (a : Int) : IIn (w.alloc (.cells #[.int .i64 a] 3)) [a] (.slice (some ⟨w.heap.size, 0, none⟩) 1 1) := by
  refine ⟨_, 1, rfl, Nat.le_refl _, by simp [maxLen], Or.inr ⟨_, 0, rfl, by show w.heap.size < _; rw [Deep.nblk_alloc]; omega, fun i hi => ?_⟩⟩
  obtain rfl : i = 0 := by simp at hi; omega
  exact box_cell w #[.int .i64 a] 3 0 _ rfl
theorem ints_newsI {w : World} {xs : List Int} {ad : Addr} {n cap : Nat} (h : IIn w xs (.slice (some ad) n cap)) : ∀ j u, (inV xs)[j]? = some u → w.cell? (ad.add j) = some u := by
  intro j u hu
  obtain ⟨ad', cap', he, -, -, hr⟩ := h
  simp only [Value.slice.injEq, Option.some.injEq] at he
  obtain ⟨rfl, -, -⟩ := he
  have hj : j < xs.length := by
    rcases Nat.lt_or_ge j xs.length with h | h
    · exact h
    · rw [List.getElem?_eq_none (by rw [inV_length]; exact h)] at hu; cases hu
  rcases hr with hnil | ⟨bl, off, e, -, hr⟩
  · subst hnil; simp at hj
  · simp only [Option.some.injEq] at e
    subst e
    rw [WideShapes.add_plain]
    have := hr j hj
    rw [this]
    simp [inV, hj] at hu
    simpa using hu

/-- append of numbers, out of any slice of ints -/
theorem run_pushI (w : World) (lo : Nat) (xs news : List Int) (v x : Value) (ty : TypeId) (hst : StkI w lo xs v) (hx : IIn w news x) (hlo : lo ≤ w.heap.size) (hb : xs.length + news.length ≤ 1048576) :
    ∃ v' w', (Builtin.append_ #[24, 24] ty #[v, x]).run Try.prog w = .ok v' w' ∧ StkI w' lo (xs ++ news) v' ∧ w.grownBy w' v.ownBlock := by
  obtain ⟨i, z, hi, hz, hs, hby, hzs⟩ := infoI1
  have hx2 := hx
  obtain ⟨ad, cap, rfl, -, -, hr⟩ := hx2
  rcases ad with _ | ad
  · have hnil : news = [] := by
      rcases hr with h | ⟨_, _, h, -⟩
      · exact h
      · simp at h
    subst hnil
    refine ⟨v, w, ?_, by simpa using hst, ⟨rfl, rfl, rfl, Nat.le_refl _, fun _ _ _ => rfl⟩⟩
    rcases hst.2 with ⟨rfl, h0⟩ | ⟨g, cap, cur, rfl, _, _, hnc, _⟩
    · simp [Builtin.append_, run_underlying Try.underlying24, sizeOf, typeInfo, hi, Builtin.lenOf, Builtin.firstCells]
    · simp [Builtin.append_, run_underlying Try.underlying24, sizeOf, typeInfo, hi, Builtin.lenOf, Builtin.firstCells, hnc, storeCells]
  · obtain ⟨v', w', hrun, hown, hg, -⟩ := run_append_own (P := Try.prog) w lo 24 ty 3 i z 1 8 Try.underlying24 hi hz hs hby hzs (by decide) v xs.length (inV xs) hst ad news.length cap (inV news) (by rw [inV_length, Nat.mul_one]) (ints_newsI hx) (inV_one _) (by unfold maxLen; omega) (by omega) hlo
    refine ⟨v', w', hrun, ?_, hg⟩
    unfold StkI
    rw [inV_append, List.length_append]
    exact hown
theorem wpList_pushI {ops : Array Oper} {rest : List Oper} {o : Oper} {a : Act} {Q : Exit → Act → World → Prop} (hgd : o.guard = none) (s x : Operand)
    (ho : o.op = .call { callee := .builtin .append, args := #[s, x], argTypes := #[24, 24] })
    (w : World) (lo : Nat) (xs news : List Int) (v xv : Value) (hs : a.eval s = v) (hst : StkI w lo xs v) (hxe : a.eval x = xv) (hx : IIn w news xv) (hlo : lo ≤ w.heap.size) (hb : xs.length + news.length ≤ 1048576)
    (h : ∀ v' w', StkI w' lo (xs ++ news) v' → w.grownBy w' v.ownBlock → wpList Try.prog ops Q rest (a.put o.dst v') w') : wpList Try.prog ops Q (o :: rest) a w := by
  refine wpList_plain hgd fun K hK => ?_
  obtain ⟨v', w', hrun, h2, h3⟩ := run_pushI w lo xs news v xv o.type hst hx hlo hb
  unfold Oper.wp
  simp [execOp, ho, resolve, invoke, builtin, hs, hxe, hrun, Result.andThen]
  exact hK _ _ (h v' w' h2 h3)
/-- a world after an append to a row of one's own -/
theorem StkI.grown {lo : Nat} {w0 w w' : World} {xs : List Int} {v : Value} (hst : StkI w lo xs v) (hl : lo = w0.heap.size) (hb : Below w0.heap.size w0 w) (hg : w.grownBy w' v.ownBlock) : Below w0.heap.size w0 w' :=
  ⟨by rw [hg.os]; exact hb.os, by rw [hg.tape]; exact hb.tape, by rw [hg.output]; exact hb.output, Nat.le_trans hb.size hg.size, fun k hk => (hg.block k (Nat.lt_of_lt_of_le hk hb.size) (fun e => by have := own_lo hst e; omega)).trans (hb.block k hk)⟩
/-- what lies below the row stays by an append -/
theorem StkI.far {lo : Nat} {w w' : World} {xs : List Int} {v : Value} (hst : StkI w lo xs v) (hg : w.grownBy w' v.ownBlock) {k : Nat} (hk : k < w.heap.size) (hl : k < lo) : w'.heap[k]? = w.heap[k]? :=
  hg.block k hk (fun e => by have := own_lo hst e; omega)
/-- .. as one step of a region that draws its order -/
theorem step_pushI {ops : Array Oper} {o : Oper} {a : Act} {w : World} {K : Act → World → Prop} {Q : Exit → Act → World → Prop} {E : Prop} (hgd : o.guard = none) (s x : Operand)
    (ho : o.op = .call { callee := .builtin .append, args := #[s, x], argTypes := #[24, 24] })
    (lo : Nat) (xs news : List Int) (v xv : Value) (hs : a.eval s = v) (hst : StkI w lo xs v) (hxe : a.eval x = xv) (hx : IIn w news xv) (hlo : lo ≤ w.heap.size) (hb : xs.length + news.length ≤ 1048576)
    (h : ∀ v' w', StkI w' lo (xs ++ news) v' → w.grownBy w' v.ownBlock → K (a.put o.dst v') w') : if Region.wanted o (yielded ops a.tmps) = true then Oper.wp Try.prog o a w K Q else E := by
  have hw : Region.wanted o (yielded ops a.tmps) = true := by simp [Region.wanted, hgd]
  rw [if_pos hw]
  obtain ⟨v', w', hrun, h2, h3⟩ := run_pushI w lo xs news v xv o.type hst hx hlo hb
  unfold Oper.wp
  simp [execOp, ho, resolve, invoke, builtin, hs, hxe, hrun, Result.andThen]
  exact h _ _ h2 h3
/-- a block of another type stays by an append -/
theorem StkI.box {lo B : Nat} {w w' : World} {xs : List Int} {v : Value} {cs : Array Value} {T : TypeId} (hst : StkI w lo xs v) (hX : w.heap[B]? = some (.cells cs T)) (hT : T ≠ 3) (hg : w.grownBy w' v.ownBlock) : w'.heap[B]? = some (.cells cs T) := by
  refine (hg.block B (Array.getElem?_eq_some_iff.1 hX).1 fun e => ?_).trans hX
  rcases hst.2 with ⟨rfl, -⟩ | ⟨g, cap, cur, rfl, -, hh, -⟩
  · simp [Value.ownBlock] at e
  · simp only [Value.ownBlock, Option.some.injEq] at e
    subst e
    rw [hX] at hh
    simp only [Option.some.injEq, Obj.cells.injEq] at hh
    exact hT hh.2.1
end Go.Proofs.Ytiipcgnkfhjpeaa
/-
  THE MODEL's l1Kids AND l1Own.
-/
namespace Go.Proofs.Ytiipcgnkfhjpeaa
set_option linter.unusedVariables false
set_option linter.unusedSimpArgs false
open Go.RowKit

set_option maxHeartbeats 400000 in
theorem l1Kids_calls (op : Int) (w : World) : Calls Try.prog 71 #[.int .i64 op] w fun e w' => e = .returned (.int .i64 (arity op)) ∧ w = w' := by
  go_enter Try.func71, Try.ntmps71
  go_wp2_with fail
  all_goals go_ret
  all_goals refine ⟨ret_int ?_, rfl⟩
  all_goals show (_ : Int) = arity op
  all_goals unfold arity
  all_goals simp_all

set_option maxHeartbeats 400000 in
theorem l1Own_calls (op n vars defs : Int) (c : Value) (w : World) : Calls Try.prog 72 #[.agg #[.int .i64 op, .int .i64 n, c], .int .i64 vars, .int .i64 defs] w fun e w' => e = .returned (.bool (ownB op n vars defs)) ∧ Below w.heap.size w w' := by
  go_enter Try.func72, Try.ntmps72
  go_wp2_with fail
  all_goals go_ret
  all_goals refine ⟨ret_bool ?_, (Below.refl _ _).alloc (Nat.le_refl _) _⟩
  all_goals show (_ : Bool) = ownB op n vars defs
  all_goals unfold ownB
  all_goals simp_all
  all_goals (first | omega | rfl)

theorem l1Kids_below (op : Int) (w : World) : Calls Try.prog 71 #[.int .i64 op] w fun e w' => e = .returned (.int .i64 (arity op)) ∧ Below w.heap.size w w' :=
  (l1Kids_calls op w).mono fun _ _ ⟨h, e⟩ => ⟨h, e ▸ Below.refl _ _⟩
end Go.Proofs.Ytiipcgnkfhjpeaa
/-
  THE MODEL's GraphValid AND FollowInd (l3Cell, GraphValid, l3Follow, FollowInd); nothing that was there is changed.
-/
namespace Go.Proofs.Ytiipcgnkfhjpeaa
set_option linter.unusedVariables false
set_option linter.unusedSimpArgs false
open Go.RowKit

theorem cellB_var {cells defs : Int} {c : Ce} (h : c.op = 1) : cellB cells defs c = false := by
  unfold cellB fitsB; rw [h, ownB_var]; simp
theorem cellB_len {cells defs : Int} {c : Ce} (h : ¬ (c.kids.length : Int) = cArity c.op) : cellB cells defs c = false := by
  unfold cellB fitsB; rw [decide_eq_false h]; simp
theorem cellB_kid {cells defs : Int} {c : Ce} (k : Nat) (hk : k < c.kids.length) (h : isAt cells c.kids[k] = false) : cellB cells defs c = false := by
  unfold cellB; rw [allI_false_of _ _ k hk h]; simp
theorem cellB_all {cells defs : Int} {c : Ce} (h : (c.kids.length : Int) = cArity c.op) (ha : c.kids.all (isAt cells) = true) : cellB cells defs c = ownB c.op c.num 0 defs := by
  unfold cellB fitsB; rw [decide_eq_true h, ha]; simp
theorem all_end {α : Type} {p : α → Bool} {l : List α} {k : Nat} (h : (l.take k).all p = true) (e : l.length = k) : l.all p = true := by
  subst e; rwa [List.take_length] at h
theorem isAt_lo {cells k : Int} (h : k < 0) : isAt cells k = false := by unfold isAt; rw [decide_eq_false]; omega
theorem isAt_hi {cells k : Int} (h : ¬ k < cells) : isAt cells k = false := by unfold isAt; rw [decide_eq_false]; omega
theorem isAt_in {cells k : Int} (h0 : 0 ≤ k) (h : k < cells) : isAt cells k = true := by unfold isAt; rw [decide_eq_true]; exact ⟨h0, h⟩

set_option maxHeartbeats 800000 in
theorem l3Cell_var (c : Ce) (cells defs : Int) (v : Value) (w : World) (hk : IIn w c.kids v) (h1 : c.op = 1) :
    Calls Try.prog 58 #[.agg #[.int .i64 c.op, .int .i64 c.num, v], .int .i64 cells, .int .i64 defs] w fun e w' => e = .returned (.bool (cellB cells defs c)) ∧ Below w.heap.size w w' := by
  have HK : Hid (IIn w c.kids v) := hk
  obtain ⟨ad, cap, rfl, hl, hm, -⟩ := hk
  unfold maxLen at hm
  have HV : Hid (cellB cells defs c = false) := cellB_var h1
  have t1 : (c.op == 1) = true := by simpa using h1
  have t11 : (c.op == 11) = false := by simp [h1]
  clear h1
  go_enter Try.func58, Try.ntmps58
  go_wp2_with fail
  refine (l1Kids_below c.op _).mono ?_
  rintro e w1 ⟨rfl, hb⟩
  have HB : Hid (Below w.heap.size w w1) := (box_below _ _).trans (hb.mono (by rw [Deep.nblk_alloc]; omega))
  have hz : w.heap.size < w1.heap.size := by have := hb.size; rw [Deep.nblk_alloc] at this; omega
  have c0 := (hb.cell (p := ⟨w.heap.size, 0, none⟩) (by rw [Deep.nblk_alloc]; exact Nat.lt_succ_self _)).trans (box_cell w #[.int .i64 c.op, .int .i64 c.num, .slice ad c.kids.length cap] 40 0 _ rfl)
  have c1 := (hb.cell (p := ⟨w.heap.size, 1, none⟩) (by rw [Deep.nblk_alloc]; exact Nat.lt_succ_self _)).trans (box_cell w #[.int .i64 c.op, .int .i64 c.num, .slice ad c.kids.length cap] 40 1 _ rfl)
  have c2 := (hb.cell (p := ⟨w.heap.size, 2, none⟩) (by rw [Deep.nblk_alloc]; exact Nat.lt_succ_self _)).trans (box_cell w #[.int .i64 c.op, .int .i64 c.num, .slice ad c.kids.length cap] 40 2 _ rfl)
  clear hb
  go_wp2_with fail
  go_ret
  exact ⟨ret_bool HV.out.symm, HB.out⟩

set_option maxHeartbeats 800000 in
theorem l3Cell_ind_no (c : Ce) (cells defs : Int) (v : Value) (w : World) (hk : IIn w c.kids v) (h1 : c.op = 11) (hlen : ¬ (c.kids.length : Int) = cArity c.op) :
    Calls Try.prog 58 #[.agg #[.int .i64 c.op, .int .i64 c.num, v], .int .i64 cells, .int .i64 defs] w fun e w' => e = .returned (.bool (cellB cells defs c)) ∧ Below w.heap.size w w' := by
  have HK : Hid (IIn w c.kids v) := hk
  obtain ⟨ad, cap, rfl, hl, hm, -⟩ := hk
  unfold maxLen at hm
  have t1 : (c.op == 1) = false := by simp [h1]
  have t11 : (c.op == 11) = true := by simpa using h1
  have ha : cArity c.op = 1 := by unfold cArity; rw [if_pos h1]
  have HV : Hid (cellB cells defs c = false) := cellB_len hlen
  rw [ha] at hlen
  have t2 : ((c.kids.length : Int) != 1) = true := by simpa using hlen
  clear h1 hlen ha
  go_enter Try.func58, Try.ntmps58
  go_wp2_with fail
  refine (l1Kids_below c.op _).mono ?_
  rintro e w1 ⟨rfl, hb⟩
  have HB : Hid (Below w.heap.size w w1) := (box_below _ _).trans (hb.mono (by rw [Deep.nblk_alloc]; omega))
  have hz : w.heap.size < w1.heap.size := by have := hb.size; rw [Deep.nblk_alloc] at this; omega
  have c0 := (hb.cell (p := ⟨w.heap.size, 0, none⟩) (by rw [Deep.nblk_alloc]; exact Nat.lt_succ_self _)).trans (box_cell w #[.int .i64 c.op, .int .i64 c.num, .slice ad c.kids.length cap] 40 0 _ rfl)
  have c1 := (hb.cell (p := ⟨w.heap.size, 1, none⟩) (by rw [Deep.nblk_alloc]; exact Nat.lt_succ_self _)).trans (box_cell w #[.int .i64 c.op, .int .i64 c.num, .slice ad c.kids.length cap] 40 1 _ rfl)
  have c2 := (hb.cell (p := ⟨w.heap.size, 2, none⟩) (by rw [Deep.nblk_alloc]; exact Nat.lt_succ_self _)).trans (box_cell w #[.int .i64 c.op, .int .i64 c.num, .slice ad c.kids.length cap] 40 2 _ rfl)
  clear hb
  go_wp2_with fail
  go_ret
  exact ⟨ret_bool HV.out.symm, HB.out⟩

set_option maxHeartbeats 800000 in
theorem l3Cell_ind_ok (c : Ce) (cells defs : Int) (v : Value) (w : World) (hk : IIn w c.kids v) (h1 : c.op = 11) (hlen : (c.kids.length : Int) = cArity c.op) :
    Calls Try.prog 58 #[.agg #[.int .i64 c.op, .int .i64 c.num, v], .int .i64 cells, .int .i64 defs] w fun e w' => e = .returned (.bool (cellB cells defs c)) ∧ Below w.heap.size w w' := by
  have HK : Hid (IIn w c.kids v) := hk
  obtain ⟨ad, cap, rfl, hl, hm, -⟩ := hk
  unfold maxLen at hm
  have t1 : (c.op == 1) = false := by simp [h1]
  have t11 : (c.op == 11) = true := by simpa using h1
  have ha : cArity c.op = 1 := by unfold cArity; rw [if_pos h1]
  have t2 : ((c.kids.length : Int) != 1) = false := by rw [ha] at hlen; simpa using hlen
  clear h1 ha
  go_enter Try.func58, Try.ntmps58
  go_wp2_with fail
  refine (l1Kids_below c.op _).mono ?_
  rintro e w1 ⟨rfl, hb⟩
  have HB : Hid (Below w.heap.size w w1) := (box_below _ _).trans (hb.mono (by rw [Deep.nblk_alloc]; omega))
  have hz : w.heap.size < w1.heap.size := by have := hb.size; rw [Deep.nblk_alloc] at this; omega
  have c0 := (hb.cell (p := ⟨w.heap.size, 0, none⟩) (by rw [Deep.nblk_alloc]; exact Nat.lt_succ_self _)).trans (box_cell w #[.int .i64 c.op, .int .i64 c.num, .slice ad c.kids.length cap] 40 0 _ rfl)
  have c1 := (hb.cell (p := ⟨w.heap.size, 1, none⟩) (by rw [Deep.nblk_alloc]; exact Nat.lt_succ_self _)).trans (box_cell w #[.int .i64 c.op, .int .i64 c.num, .slice ad c.kids.length cap] 40 1 _ rfl)
  have c2 := (hb.cell (p := ⟨w.heap.size, 2, none⟩) (by rw [Deep.nblk_alloc]; exact Nat.lt_succ_self _)).trans (box_cell w #[.int .i64 c.op, .int .i64 c.num, .slice ad c.kids.length cap] 40 2 _ rfl)
  clear hb
  have HL : Hid ((c.kids.length : Int) = cArity c.op) := hlen
  clear hlen
  go_wp2_with fail
  go_loopw [8] (fun i wr => ∃ k : Nat, k ≤ c.kids.length ∧ i = .int .i64 k ∧ (c.kids.take k).all (isAt cells) = true ∧ Below w1.heap.size w1 wr) (fun i _ => c.kids.length - (intOf i).toNat)
  case atStart => exact ⟨0, Nat.zero_le _, rfl, by simp, Below.refl _ _⟩
  case round =>
    obtain ⟨k, hk, rfl, hall, hb⟩ := hrel
    have HA : Hid ((c.kids.take k).all (isAt cells) = true) := hall
    have HBW : Hid (Below w.heap.size w wr) := HB.out.trans (hb.mono (Nat.le_of_lt hz))
    have HBR : Hid (Below w1.heap.size w1 wr) := hb
    have e0 := (hb.cell (p := ⟨w.heap.size, 0, none⟩) hz).trans c0
    have e1 := (hb.cell (p := ⟨w.heap.size, 1, none⟩) hz).trans c1
    have e2 := (hb.cell (p := ⟨w.heap.size, 2, none⟩) hz).trans c2
    clear hall hb c0 c1 c2
    by_cases hlt : k < c.kids.length
    · obtain ⟨bl, off, rfl, d0⟩ := (HK.out.next HBW.out).at k hlt
      by_cases hneg : c.kids[k] < 0
      · have HV : Hid (cellB cells defs c = false) := cellB_kid k hlt (isAt_lo hneg)
        go_wp2_with fail
        go_ret
        exact ⟨ret_bool HV.out.symm, HBW.out⟩
      by_cases hhi : c.kids[k] < cells
      · have HA2 : Hid ((c.kids.take (k + 1)).all (isAt cells) = true) := by rw [Hid, allI_take_succ _ _ _ hlt, HA.out, isAt_in (by omega) hhi]; rfl
        go_wp2_with fail
        go_roundw
        case rel => exact ⟨k + 1, by omega, by go_num, HA2.out, HBR.out⟩
        case measure => simp [intOf]; omega
      · have HV : Hid (cellB cells defs c = false) := cellB_kid k hlt (isAt_hi hhi)
        go_wp2_with fail
        go_ret
        exact ⟨ret_bool HV.out.symm, HBW.out⟩
    · have hke : c.kids.length = k := by omega
      have HV : Hid (cellB cells defs c = ownB c.op c.num 0 defs) := cellB_all HL.out (all_end HA.out hke)
      clear hke
      go_wp2_with fail
      refine (l1Own_calls c.op c.num 0 defs _ _).mono ?_
      rintro e w3 ⟨rfl, hb3⟩
      have HB3 : Hid (Below w.heap.size w w3) := HBW.out.trans (hb3.mono HBW.out.size)
      clear hb3
      go_wp2_with fail
      go_ret
      exact ⟨ret_bool HV.out.symm, HB3.out⟩

set_option maxHeartbeats 800000 in
theorem l3Cell_other_no (c : Ce) (cells defs : Int) (v : Value) (w : World) (hk : IIn w c.kids v) (h1 : c.op ≠ 1) (h11 : c.op ≠ 11) (hlen : ¬ (c.kids.length : Int) = cArity c.op) :
    Calls Try.prog 58 #[.agg #[.int .i64 c.op, .int .i64 c.num, v], .int .i64 cells, .int .i64 defs] w fun e w' => e = .returned (.bool (cellB cells defs c)) ∧ Below w.heap.size w w' := by
  have HK : Hid (IIn w c.kids v) := hk
  obtain ⟨ad, cap, rfl, hl, hm, -⟩ := hk
  unfold maxLen at hm
  have t1 : (c.op == 1) = false := by simpa using h1
  have t11 : (c.op == 11) = false := by simpa using h11
  have ha : cArity c.op = arity c.op := by unfold cArity; rw [if_neg h11]
  have HV : Hid (cellB cells defs c = false) := cellB_len hlen
  rw [ha] at hlen
  have t2 : ((c.kids.length : Int) != arity c.op) = true := by simpa using hlen
  clear h1 h11 hlen ha
  go_enter Try.func58, Try.ntmps58
  go_wp2_with fail
  refine (l1Kids_below c.op _).mono ?_
  rintro e w1 ⟨rfl, hb⟩
  have HB : Hid (Below w.heap.size w w1) := (box_below _ _).trans (hb.mono (by rw [Deep.nblk_alloc]; omega))
  have hz : w.heap.size < w1.heap.size := by have := hb.size; rw [Deep.nblk_alloc] at this; omega
  have c0 := (hb.cell (p := ⟨w.heap.size, 0, none⟩) (by rw [Deep.nblk_alloc]; exact Nat.lt_succ_self _)).trans (box_cell w #[.int .i64 c.op, .int .i64 c.num, .slice ad c.kids.length cap] 40 0 _ rfl)
  have c1 := (hb.cell (p := ⟨w.heap.size, 1, none⟩) (by rw [Deep.nblk_alloc]; exact Nat.lt_succ_self _)).trans (box_cell w #[.int .i64 c.op, .int .i64 c.num, .slice ad c.kids.length cap] 40 1 _ rfl)
  have c2 := (hb.cell (p := ⟨w.heap.size, 2, none⟩) (by rw [Deep.nblk_alloc]; exact Nat.lt_succ_self _)).trans (box_cell w #[.int .i64 c.op, .int .i64 c.num, .slice ad c.kids.length cap] 40 2 _ rfl)
  clear hb
  go_wp2_with fail
  go_ret
  exact ⟨ret_bool HV.out.symm, HB.out⟩

set_option maxHeartbeats 800000 in
theorem l3Cell_other_ok (c : Ce) (cells defs : Int) (v : Value) (w : World) (hk : IIn w c.kids v) (h1 : c.op ≠ 1) (h11 : c.op ≠ 11) (hlen : (c.kids.length : Int) = cArity c.op) :
    Calls Try.prog 58 #[.agg #[.int .i64 c.op, .int .i64 c.num, v], .int .i64 cells, .int .i64 defs] w fun e w' => e = .returned (.bool (cellB cells defs c)) ∧ Below w.heap.size w w' := by
  have HK : Hid (IIn w c.kids v) := hk
  obtain ⟨ad, cap, rfl, hl, hm, -⟩ := hk
  unfold maxLen at hm
  have t1 : (c.op == 1) = false := by simpa using h1
  have t11 : (c.op == 11) = false := by simpa using h11
  have ha : cArity c.op = arity c.op := by unfold cArity; rw [if_neg h11]
  have t2 : ((c.kids.length : Int) != arity c.op) = false := by rw [ha] at hlen; simpa using hlen
  clear h1 h11 ha
  go_enter Try.func58, Try.ntmps58
  go_wp2_with fail
  refine (l1Kids_below c.op _).mono ?_
  rintro e w1 ⟨rfl, hb⟩
  have HB : Hid (Below w.heap.size w w1) := (box_below _ _).trans (hb.mono (by rw [Deep.nblk_alloc]; omega))
  have hz : w.heap.size < w1.heap.size := by have := hb.size; rw [Deep.nblk_alloc] at this; omega
  have c0 := (hb.cell (p := ⟨w.heap.size, 0, none⟩) (by rw [Deep.nblk_alloc]; exact Nat.lt_succ_self _)).trans (box_cell w #[.int .i64 c.op, .int .i64 c.num, .slice ad c.kids.length cap] 40 0 _ rfl)
  have c1 := (hb.cell (p := ⟨w.heap.size, 1, none⟩) (by rw [Deep.nblk_alloc]; exact Nat.lt_succ_self _)).trans (box_cell w #[.int .i64 c.op, .int .i64 c.num, .slice ad c.kids.length cap] 40 1 _ rfl)
  have c2 := (hb.cell (p := ⟨w.heap.size, 2, none⟩) (by rw [Deep.nblk_alloc]; exact Nat.lt_succ_self _)).trans (box_cell w #[.int .i64 c.op, .int .i64 c.num, .slice ad c.kids.length cap] 40 2 _ rfl)
  clear hb
  have HL : Hid ((c.kids.length : Int) = cArity c.op) := hlen
  clear hlen
  go_wp2_with fail
  go_loopw [8] (fun i wr => ∃ k : Nat, k ≤ c.kids.length ∧ i = .int .i64 k ∧ (c.kids.take k).all (isAt cells) = true ∧ Below w1.heap.size w1 wr) (fun i _ => c.kids.length - (intOf i).toNat)
  case atStart => exact ⟨0, Nat.zero_le _, rfl, by simp, Below.refl _ _⟩
  case round =>
    obtain ⟨k, hk, rfl, hall, hb⟩ := hrel
    have HA : Hid ((c.kids.take k).all (isAt cells) = true) := hall
    have HBW : Hid (Below w.heap.size w wr) := HB.out.trans (hb.mono (Nat.le_of_lt hz))
    have HBR : Hid (Below w1.heap.size w1 wr) := hb
    have e0 := (hb.cell (p := ⟨w.heap.size, 0, none⟩) hz).trans c0
    have e1 := (hb.cell (p := ⟨w.heap.size, 1, none⟩) hz).trans c1
    have e2 := (hb.cell (p := ⟨w.heap.size, 2, none⟩) hz).trans c2
    clear hall hb c0 c1 c2
    by_cases hlt : k < c.kids.length
    · obtain ⟨bl, off, rfl, d0⟩ := (HK.out.next HBW.out).at k hlt
      by_cases hneg : c.kids[k] < 0
      · have HV : Hid (cellB cells defs c = false) := cellB_kid k hlt (isAt_lo hneg)
        go_wp2_with fail
        go_ret
        exact ⟨ret_bool HV.out.symm, HBW.out⟩
      by_cases hhi : c.kids[k] < cells
      · have HA2 : Hid ((c.kids.take (k + 1)).all (isAt cells) = true) := by rw [Hid, allI_take_succ _ _ _ hlt, HA.out, isAt_in (by omega) hhi]; rfl
        go_wp2_with fail
        go_roundw
        case rel => exact ⟨k + 1, by omega, by go_num, HA2.out, HBR.out⟩
        case measure => simp [intOf]; omega
      · have HV : Hid (cellB cells defs c = false) := cellB_kid k hlt (isAt_hi hhi)
        go_wp2_with fail
        go_ret
        exact ⟨ret_bool HV.out.symm, HBW.out⟩
    · have hke : c.kids.length = k := by omega
      have HV : Hid (cellB cells defs c = ownB c.op c.num 0 defs) := cellB_all HL.out (all_end HA.out hke)
      clear hke
      go_wp2_with fail
      refine (l1Own_calls c.op c.num 0 defs _ _).mono ?_
      rintro e w3 ⟨rfl, hb3⟩
      have HB3 : Hid (Below w.heap.size w w3) := HBW.out.trans (hb3.mono HBW.out.size)
      clear hb3
      go_wp2_with fail
      go_ret
      exact ⟨ret_bool HV.out.symm, HB3.out⟩

theorem l3Cell_calls (c : Ce) (cells defs : Int) (v : Value) (w : World) (hk : IIn w c.kids v) :
    Calls Try.prog 58 #[.agg #[.int .i64 c.op, .int .i64 c.num, v], .int .i64 cells, .int .i64 defs] w fun e w' => e = .returned (.bool (cellB cells defs c)) ∧ Below w.heap.size w w' := by
  by_cases h1 : c.op = 1
  · exact l3Cell_var c cells defs v w hk h1
  by_cases h11 : c.op = 11
  · by_cases hlen : (c.kids.length : Int) = cArity c.op
    · exact l3Cell_ind_ok c cells defs v w hk h11 hlen
    · exact l3Cell_ind_no c cells defs v w hk h11 hlen
  · by_cases hlen : (c.kids.length : Int) = cArity c.op
    · exact l3Cell_other_ok c cells defs v w hk h1 h11 hlen
    · exact l3Cell_other_no c cells defs v w hk h1 h11 hlen

theorem graphB_no {g : List Ce} {defs : Int} (h : ¬ ((g.length : Int) ≤ 400 ∧ 0 ≤ defs ∧ defs ≤ 6)) : graphB g defs = false := by unfold graphB; rw [decide_eq_false h]; rfl
theorem graphB_cellNo {g : List Ce} {defs : Int} (k : Nat) (hk : k < g.length) (h : cellB g.length defs g[k] = false) : graphB g defs = false := by
  unfold graphB; rw [allI_false_of _ _ k hk h]; simp
theorem graphB_yes {g : List Ce} {defs : Int} (h : (g.length : Int) ≤ 400 ∧ 0 ≤ defs ∧ defs ≤ 6) (ha : g.all (cellB g.length defs) = true) : graphB g defs = true := by
  unfold graphB; rw [decide_eq_true h, ha]; rfl

set_option maxHeartbeats 800000 in
theorem specGraph_calls (g : List Ce) (defs : Int) (v : Value) (w : World) (hk : CIn w g v) :
    Calls Try.prog 34 #[v, .int .i64 defs] w fun e w' => e = .returned (.bool (graphB g defs)) ∧ Below w.heap.size w w' := by
  have HK : Hid (CIn w g v) := hk
  obtain ⟨ad, cap, rfl, hl, hm, -⟩ := hk
  unfold maxLen at hm
  by_cases hlim : (g.length : Int) ≤ 400 ∧ 0 ≤ defs ∧ defs ≤ 6
  · have HLM : Hid ((g.length : Int) ≤ 400 ∧ 0 ≤ defs ∧ defs ≤ 6) := hlim
    obtain ⟨l1, l2, l3⟩ := hlim
    go_enter Try.func34, Try.ntmps34
    go_wp2_with fail
    go_loopw [5] (fun i wr => ∃ k : Nat, k ≤ g.length ∧ i = .int .i64 k ∧ (g.take k).all (cellB g.length defs) = true ∧ Below w.heap.size w wr) (fun i _ => g.length - (intOf i).toNat)
    case atStart => exact ⟨0, Nat.zero_le _, rfl, by simp, Below.refl _ _⟩
    case round =>
      obtain ⟨k, hk, rfl, hall, hb⟩ := hrel
      have HA : Hid ((g.take k).all (cellB g.length defs) = true) := hall
      have HB : Hid (Below w.heap.size w wr) := hb
      clear hall hb
      by_cases hlt : k < g.length
      · obtain ⟨bl, off, r, rfl, c0, c1, c2, -, -, hkk⟩ := (HK.out.next HB.out).at k hlt
        have HKK : Hid (IIn wr g[k].kids r) := hkk
        clear hkk
        go_wp2_with fail
        refine (l3Cell_calls g[k] _ defs r _ HKK.out).mono ?_
        rintro e w1 ⟨rfl, hb1⟩
        have HB1 : Hid (Below w.heap.size w w1) := HB.out.trans (hb1.mono HB.out.size)
        clear hb1 c0 c1 c2
        cases hc : cellB (g.length : Int) defs g[k] with
        | false =>
          have HV : Hid (graphB g defs = false) := graphB_cellNo k hlt hc
          clear hc
          go_wp2_with fail
          go_ret
          exact ⟨ret_bool HV.out.symm, HB1.out⟩
        | true =>
          have HA2 : Hid ((g.take (k + 1)).all (cellB g.length defs) = true) := by rw [Hid, allI_take_succ _ _ _ hlt, HA.out, hc]; rfl
          clear hc
          go_wp2_with fail
          go_roundw
          case rel => exact ⟨k + 1, by omega, by go_num, HA2.out, HB1.out⟩
          case measure => simp [intOf]; omega
      · have hke : g.length = k := by omega
        have HV : Hid (graphB g defs = true) := graphB_yes HLM.out (all_end HA.out hke)
        clear hke
        go_wp2_with fail
        go_ret
        exact ⟨ret_bool HV.out.symm, HB.out⟩
  · have HV : Hid (graphB g defs = false) := graphB_no hlim
    by_cases l1 : (g.length : Int) ≤ 400
    · by_cases l2 : 0 ≤ defs
      · have l3 : ¬ defs ≤ 6 := fun h => hlim ⟨l1, l2, h⟩
        clear hlim
        go_enter Try.func34, Try.ntmps34
        go_wp2_with fail
        go_ret
        exact ⟨ret_bool HV.out.symm, Below.refl _ _⟩
      · clear hlim
        go_enter Try.func34, Try.ntmps34
        go_wp2_with fail
        go_ret
        exact ⟨ret_bool HV.out.symm, Below.refl _ _⟩
    · clear hlim
      go_enter Try.func34, Try.ntmps34
      go_wp2_with fail
      go_ret
      exact ⟨ret_bool HV.out.symm, Below.refl _ _⟩
end Go.Proofs.Ytiipcgnkfhjpeaa
/-
  THE MODEL's l7Length, l7Pack, PackGraph.
-/
namespace Go.Proofs.Ytiipcgnkfhjpeaa
set_option linter.unusedVariables false
set_option linter.unusedSimpArgs false
open Go.RowKit


theorem l7Length_calls (op : Int) (w : World) : Calls Try.prog 59 #[.int .i64 op] w fun e w' => e = .returned (.int .i64 (wLen op : Int)) ∧ w = w' := by
  by_cases h11 : op = 11
  · subst h11
    go_enter Try.func59, Try.ntmps59
    go_wp2_with fail
    go_ret
    exact ⟨rfl, rfl⟩
  obtain ⟨k, hk⟩ : ∃ k, k = arity op := ⟨_, rfl⟩
  obtain ⟨n, hn⟩ : ∃ n : Int, n = (wLen op : Int) := ⟨_, rfl⟩
  have hkn : (op = 1 → n = 0) ∧ (k < 0 → n = 0) ∧ (op ≠ 1 → k = 0 → n = 2) ∧ (op ≠ 1 → 0 < k → n = k + 1) ∧ k ≤ 3 := by
    rw [hk, hn]
    unfold arity wLen
    clear hk hn
    repeat' split
    all_goals omega
  obtain ⟨n1, n2, n3, n4, n5⟩ := hkn
  have HK := mkHid hk
  rw [← hn]
  have h11' : (op == 11) = false := by simpa using h11
  clear h11
  go_enter Try.func59, Try.ntmps59
  go_wp2_with fail
  refine (l1Kids_calls op w).mono ?_
  rintro e w1 ⟨rfl, rfl⟩
  rw [← HK.out]
  clear hk hn
  by_cases h1 : op = 1
  · obtain rfl := n1 h1
    have h1' : (op == 1) = true := by simpa using h1
    clear h1 n2 n3 n4 n1
    go_wp2_with fail
    go_ret
    exact ⟨rfl, rfl⟩
  have h1' : (op == 1) = false := by simpa using h1
  replace n3 := n3 h1
  replace n4 := n4 h1
  by_cases hk0 : k < 0
  · obtain rfl := n2 hk0
    clear n1 n2 n3 n4
    go_wp2_with fail
    go_ret
    exact ⟨rfl, rfl⟩
  by_cases hk1 : k = 0
  · obtain rfl := n3 hk1
    have hk1' : (k == 0) = true := by simpa using hk1
    clear n1 n2 n3 n4 hk1
    go_wp2_with fail
    go_ret
    exact ⟨rfl, rfl⟩
  have hk1' : (k == 0) = false := by simpa using hk1
  obtain rfl := n4 (by omega)
  clear n1 n2 n3 n4 hk1
  go_wp2_with fail
  go_ret
  exact ⟨rfl, rfl⟩

end Go.Proofs.Ytiipcgnkfhjpeaa
/-
  THE MODEL's l7Starts AND l7Index.
-/
namespace Go.Proofs.Ytiipcgnkfhjpeaa
set_option linter.unusedVariables false
set_option linter.unusedSimpArgs false
open Go.RowKit


/-- addresses, and whether there is nothing else -/
def NewStarts (r : Option (List Int)) (w : World) (e : Ending) (w' : World) : Prop := ∃ t, e = .returned (.tuple #[t, .bool r.isSome]) ∧ IntRow w' w.heap.size (r.getD []) t ∧ Below w.heap.size w w'
set_option maxHeartbeats 800000 in
theorem l7Starts_calls (ws : List Int) (v : Value) (w : World) (hk : IIn w ws v) (hl : ws.length ≤ 1048576) :
    Calls Try.prog 63 #[v] w (NewStarts (startsW ws 0) w) := by
  have HK := mkHid hk
  obtain ⟨ad, cap, rfl, hlc, hm, -⟩ := hk
  unfold maxLen at hm
  go_enter Try.func63, Try.ntmps63
  go_wp2_with fail
  go_loopw [4, 5] (fun o a wr => ∃ (p : Nat) (acc : List Int), a = .int .i64 p ∧ p ≤ ws.length ∧ acc.length ≤ p ∧ startsW ws 0 = (startsW ws p).map (acc ++ ·) ∧ StkI wr w.heap.size acc o ∧ Below w.heap.size w wr) (fun _ a _ => ws.length - (intOf a).toNat)
  case atStart => exact ⟨0, [], rfl, Nat.zero_le _, Nat.le_refl _, by simp, StkI.nil _ _ (Nat.le_refl _), box_below _ _⟩
  case round =>
    obtain ⟨p, acc, rfl, hp, hal, heq, hst, hb⟩ := hrel
    obtain ⟨wo, rfl⟩ : ∃ wo : World, wo = wr := ⟨_, rfl⟩
    obtain ⟨ado, no, capo, rfl⟩ := hst.form
    have HS := mkHid hst
    have HB := mkHid hb
    have HEQ := mkHid heq
    have HAL := mkHid hal
    by_cases hlt : p < ws.length
    · obtain ⟨bl, off, rfl, d0w⟩ := HK.out.at p hlt
      have d0 := (hb.cell (p := ⟨bl, off + p, none⟩) (cell_lt d0w)).trans d0w
      obtain ⟨n, hn⟩ : ∃ n : Nat, n = wLen ws[p] := ⟨_, rfl⟩
      have HN := mkHid hn
      have hn4 : n ≤ 4 := by rw [hn]; exact wLen_le _
      clear hst hb heq hal d0w hn
      go_wp2_with fail
      refine (l7Length_calls ws[p] wo).mono ?_
      rintro e w1 ⟨rfl, rfl⟩
      rw [← HN.out]
      clear d0
      by_cases hn0 : n = 0
      · have HV : Hid (startsW ws 0 = none) := by rw [Hid, HEQ.out, startsW_bad hlt (Or.inl (by rw [← HN.out]; exact hn0))]; rfl
        subst hn0
        go_wp2_with fail
        refine bodyPost_ret (v := .tuple #[.slice (some ⟨wo.heap.size, 0, none⟩) 0 0, .bool false]) (by simp [results, Try.results63, go_sem]) rfl ?_
        rw [HV.out]
        exact ⟨_, rfl, no_ints _ _ _ _ (by simp [maxLen]), HB.out.alloc HB.out.size _⟩
      have hn0' : ((n : Int) == 0) = false := by simpa using hn0
      by_cases hbig : ws.length < p + n
      · have HV : Hid (startsW ws 0 = none) := by rw [Hid, HEQ.out, startsW_bad hlt (Or.inr (by rw [← HN.out]; exact hbig))]; rfl
        have hbig' : (ws.length : Int) < (p : Int) + n := by omega
        go_wp2_with fail
        refine bodyPost_ret (v := .tuple #[.slice (some ⟨wo.heap.size, 0, none⟩) 0 0, .bool false]) (by simp [results, Try.results63, go_sem]) rfl ?_
        rw [HV.out]
        exact ⟨_, rfl, no_ints _ _ _ _ (by simp [maxLen]), HB.out.alloc HB.out.size _⟩
      have HNE : Hid (startsW ws 0 = (startsW ws (p + n)).map ((acc ++ [(p : Int)]) ++ ·)) := by
        rw [Hid, HEQ.out, startsW_go hlt (by rw [← HN.out]; omega), ← HN.out, Option.map_map]
        congr 1
        funext x
        simp
      have A1 : Hid (StkI (wo.alloc (.cells #[.int .i64 (p : Int)] 3)) w.heap.size (acc) (.slice ado no capo)) := StkI.alloc HS.out _
      have K1 : Hid (IIn (wo.alloc (.cells #[.int .i64 (p : Int)] 3)) [(p : Int)] (.slice (some ⟨wo.heap.size, 0, none⟩) 1 1)) := oneI_in wo (p : Int)
      have L1 : Hid (w.heap.size ≤ (wo.alloc (.cells #[.int .i64 (p : Int)] 3)).heap.size) := by rw [Hid, Deep.nblk_alloc]; have := HB.out.size; omega
      go_wp2_with (have tk := A1; clear tk; at_builtin; go_must (refine wpList_pushI rfl _ _ rfl _ w.heap.size (acc) [(p : Int)] (.slice ado no capo) (.slice (some ⟨wo.heap.size, 0, none⟩) 1 1) rfl A1.out rfl K1.out L1.out (by have := HAL.out; simp; omega) ?_); go_must (intro v1 w5 hst1 hg1); go_must (have HB5 : Hid (Below w.heap.size w w5) := StkI.grown A1.out rfl (HB.out.alloc HB.out.size _) hg1); go_must (have HS5 : Hid (StkI w5 w.heap.size (acc ++ [(p : Int)]) v1) := by exact hst1); go_must (obtain ⟨ad1, n1, cap1, rfl⟩ := hst1.form); clear hst1 hg1)
      go_roundw
      case rel => first | exact ⟨p + n, acc ++ [(p : Int)], by go_num, by omega, by have := HAL.out; simp; omega, HNE.out, HS5.out, HB5.out⟩ | ((repeat apply Exists.intro); exact ⟨⟨p + n, acc ++ [(p : Int)], by go_num, by omega, by have := HAL.out; simp; omega, HNE.out, HS5.out, HB5.out⟩, rfl⟩)
      case measure => simp [intOf]; omega
    · have HV : Hid (startsW ws 0 = some acc) := by rw [Hid, HEQ.out, startsW_end (by omega)]; simp
      clear hst hb heq hal
      go_wp2_with fail
      refine bodyPost_ret (v := .tuple #[.slice ado no capo, .bool true]) (by simp [results, Try.results63, go_sem]) rfl ?_
      rw [HV.out]
      exact ⟨_, rfl, HS.out.row, HB.out⟩

set_option maxHeartbeats 800000 in
theorem l7Index_calls (xs : List Int) (a : Int) (v : Value) (w : World) (hk : IIn w xs v) (hs : xs.Pairwise (· < ·)) (hl : xs.length ≤ 1048576) :
    Calls Try.prog 42 #[v, .int .i64 a] w fun e w' => e = .returned (.int .i64 (idxI xs a)) ∧ w = w' := by
  have HK := mkHid hk
  have HS := mkHid hs
  obtain ⟨ad, cap, rfl, hlc, hm, -⟩ := hk
  unfold maxLen at hm
  clear hs
  go_enter Try.func42, Try.ntmps42
  go_wp2_with fail
  go_loopw [5, 6] (fun l h wr => ∃ lo hi : Nat, l = .int .i64 lo ∧ h = .int .i64 hi ∧ Bis xs a lo hi ∧ wr = w) (fun l h _ => (intOf h).toNat - (intOf l).toNat)
  case atStart => exact ⟨0, xs.length, rfl, rfl, Bis.start _ _, rfl⟩
  case round =>
    obtain ⟨lo, hi, rfl, rfl, hbis, rfl⟩ := hrel
    have HBI := mkHid hbis
    have hb1 := hbis.1
    have hb2 := hbis.2.1
    clear hbis
    by_cases hlt : lo < hi
    · obtain ⟨m, hm0⟩ : ∃ m : Nat, m = (lo + hi) / 2 := ⟨_, rfl⟩
      have hm1 : lo ≤ m ∧ m < hi := by omega
      have hmx : m < xs.length := by omega
      obtain ⟨bl, off, rfl, d0⟩ := HK.out.at m hmx
      have hq : Int.tdiv ((lo : Int) + hi) 2 = (m : Int) := by rw [hm0, Int.tdiv_eq_ediv_of_nonneg (by omega)]; omega
      clear hm0
      by_cases hc : xs[m] < a
      · go_wp2_with fail
        go_roundw
        case rel => exact ⟨m + 1, hi, by go_num, rfl, HBI.out.up HS.out hm1.2 hmx hc, by first | rfl | trivial⟩
        case measure => simp [intOf]; omega
      · go_wp2_with fail
        go_roundw
        case rel => exact ⟨lo, m, rfl, by go_num, HBI.out.down HS.out hm1.2 hm1.1 hmx hc, by first | rfl | trivial⟩
        case measure => simp [intOf]; omega
    · obtain rfl : lo = hi := by omega
      by_cases hl2 : lo < xs.length
      · obtain ⟨bl, off, rfl, d0⟩ := HK.out.at lo hl2
        by_cases he : xs[lo] = a
        · have HV : Hid (idxI xs a = (lo : Int)) := idxI_found HS.out hl2 he
          have he' : (xs[lo] == a) = true := by simpa using he
          clear he
          go_wp2_with fail
          go_ret
          exact ⟨by rw [HV.out]; rfl, rfl⟩
        · have HV : Hid (idxI xs a = -1) := HBI.out.none (fun _ => he) HS.out
          have he' : (xs[lo] == a) = false := by simpa using he
          go_wp2_with fail
          go_ret
          exact ⟨by rw [HV.out]; rfl, rfl⟩
      · have HV : Hid (idxI xs a = -1) := HBI.out.none (fun h => absurd h hl2) HS.out
        go_wp2_with fail
        go_ret
        exact ⟨by rw [HV.out]; rfl, rfl⟩
end Go.Proofs.Ytiipcgnkfhjpeaa
/-
  A WORLD IN WHICH NOTHING BUT SOME BLOCKS HAS BEEN WRITTEN.
-/
namespace Go.Proofs.Ytiipcgnkfhjpeaa
set_option linter.unusedVariables false
set_option linter.unusedSimpArgs false
open Go.RowKit

/-- all blocks but those of a list are as they were -/
structure ButL (fp : List Nat) (w w' : World) : Prop where
  os : w'.os = w.os
  tape : w'.tape = w.tape
  output : w'.output = w.output
  size : w.heap.size ≤ w'.heap.size
  block : ∀ k, k < w.heap.size → k ∉ fp → w'.heap[k]? = w.heap[k]?
theorem ButL.refl (fp : List Nat) (w : World) : ButL fp w w := ⟨rfl, rfl, rfl, Nat.le_refl _, fun _ _ _ => rfl⟩
theorem ButL.trans {fp : List Nat} {a c d : World} (h : ButL fp a c) (k : ButL fp c d) : ButL fp a d :=
  ⟨k.os.trans h.os, k.tape.trans h.tape, k.output.trans h.output, Nat.le_trans h.size k.size, fun i hi hb => (k.block i (Nat.lt_of_lt_of_le hi h.size) hb).trans (h.block i hi hb)⟩
theorem ButL.mono {fp fq : List Nat} {w w' : World} (h : ButL fp w w') (hs : ∀ k ∈ fp, k ∈ fq) : ButL fq w w' := ⟨h.os, h.tape, h.output, h.size, fun k hk hb => h.block k hk fun hm => hb (hs k hm)⟩
theorem ButL.below {fp : List Nat} {B : Nat} {w w' : World} (h : ButL fp w w') (hf : ∀ k ∈ fp, B ≤ k) (hB : B ≤ w.heap.size) : Below B w w' :=
  ⟨h.os, h.tape, h.output, h.size, fun k hk => h.block k (by omega) (fun hm => by have := hf k hm; omega)⟩
theorem ButL.setCell {fp : List Nat} (w : World) (b o : Nat) (hb : b ∈ fp) (u : Value) : ButL fp w (w.setCell ⟨b, o, none⟩ u) :=
  ⟨rfl, rfl, rfl, by simp [World.setCell], fun k hk hn => Below.heap_setCell _ _ _ _ (fun e => hn (e ▸ hb))⟩
end Go.Proofs.Ytiipcgnkfhjpeaa
/-
  THE LAWS' OWN MARKS IN A GRAPH (markCellS): only the graph's own blocks are written.
-/
namespace Go.Proofs.Ytiipcgnkfhjpeaa
set_option linter.unusedVariables false
set_option linter.unusedSimpArgs false
open Go.RowKit

/-- a row of ints, whatever they are -/
def IShape (w : World) (fp : List Nat) (n : Nat) (v : Value) : Prop :=
  ∃ ad cap, v = .slice ad n cap ∧ n ≤ cap ∧ cap ≤ maxLen ∧ (n = 0 ∨ ∃ g f, ad = some ⟨g, 0, none⟩ ∧ g ∈ fp ∧ w.rowIs g 3 cap f)
/-- a row of cells, whatever their numbers are -/
def CShape (w : World) (fp : List Nat) (ns : List Nat) (v : Value) : Prop :=
  ∃ ad cap, v = .slice ad ns.length cap ∧ ns.length ≤ cap ∧ cap ≤ maxLen ∧ (ns = [] ∨ ∃ b f, ad = some ⟨b, 0, none⟩ ∧ b ∈ fp ∧ w.rowIs b 40 (cap * 3) f ∧ ∀ i (h : i < ns.length), IShape w fp ns[i] (f (i * 3 + 2)))
/-- shapes stay, and nothing but fp is written -/
structure Keeps (fp : List Nat) (w w' : World) : Prop where
  ints : ∀ n v, IShape w fp n v → IShape w' fp n v
  rows : ∀ b c f, w.rowIs b 40 c f → w'.rowIs b 40 c f
  but : ButL fp w w'
theorem Keeps.refl (fp : List Nat) (w : World) : Keeps fp w w := ⟨fun _ _ h => h, fun _ _ _ h => h, ButL.refl _ _⟩
theorem Keeps.trans {fp : List Nat} {a b c : World} (h : Keeps fp a b) (k : Keeps fp b c) : Keeps fp a c := ⟨fun n v x => k.ints n v (h.ints n v x), fun g c f x => k.rows g c f (h.rows g c f x), h.but.trans k.but⟩
theorem rows_part {w : World} {b g n m : Nat} {f f' : Nat → Value} (h : w.rowIs b 40 n f) (h' : w.rowIs g 3 m f') : b ≠ g := by
  rintro rfl
  obtain ⟨c, h1, -⟩ := h
  obtain ⟨c', h2, -⟩ := h'
  rw [h1] at h2
  simp at h2
theorem setCell_other (w : World) {b k : Nat} (o : Nat) (u : Value) (h : k ≠ b) : (w.setCell ⟨b, o, none⟩ u).heap[k]? = w.heap[k]? := Below.heap_setCell _ _ _ _ (fun e => h e)
/-- a store into a row of ints -/
theorem Keeps.int {fp : List Nat} {w : World} {g cap : Nat} {f : Nat → Value} (hg : g ∈ fp) (hr : w.rowIs g 3 cap f) (j : Nat) (u : Value) : Keeps fp w (w.setCell ⟨g, j, none⟩ u) where
  ints n v h := by
    obtain ⟨ad, cap2, e, l1, l2, h⟩ := h
    refine ⟨ad, cap2, e, l1, l2, h.imp id ?_⟩
    rintro ⟨g2, f2, rfl, hg2, hr2⟩
    by_cases hgg : g2 = g
    · subst hgg; exact ⟨g2, _, rfl, hg2, hr2.set j u⟩
    · exact ⟨g2, f2, rfl, hg2, hr2.of_block (setCell_other w j u hgg)⟩
  rows b c f2 h := h.of_block (setCell_other w j u (rows_part h hr))
  but := ButL.setCell w g j hg u

set_option maxHeartbeats 400000 in
theorem markI_calls (n : Nat) (fp : List Nat) (v : Value) (k : Int) (w : World) (hc : IShape w fp n v) (h0 : 0 ≤ k) (h1 : k + (n : Int) ≤ 1152921504606846976) :
    Calls Try.prog 16 #[v, .int .i64 k] w fun e w' => e = .returned (.int .i64 (k + (n : Int))) ∧ Keeps fp w w' := by
  have HC : Hid (IShape w fp n v) := hc
  obtain ⟨ad, cap, rfl, hl, hm, -⟩ := hc
  unfold maxLen at hm
  go_enter Try.func16, Try.ntmps16
  go_wp2_with fail
  go_loopw [1, 5] (fun q i wr => ∃ j : Nat, j ≤ n ∧ i = .int .i64 j ∧ q = .int .i64 (k + j) ∧ Keeps fp w wr) (fun _ i _ => n - (intOf i).toNat)
  case atStart => exact ⟨0, Nat.zero_le _, rfl, by simp, Keeps.refl _ _⟩
  case round =>
    obtain ⟨j, hj, rfl, rfl, hr⟩ := hrel
    have HR : Hid (Keeps fp w wr) := hr
    by_cases hlt : j < n
    · obtain ⟨_, _, he, -, -, hrow⟩ := hr.ints _ _ HC.out
      cases he
      rcases hrow with rfl | ⟨g, f, rfl, hg, hrow⟩
      · simp at hlt
      have HK : Hid (Keeps fp w (wr.setCell ⟨g, j, none⟩ (.int .i64 (k + (j : Int))))) := HR.out.trans (Keeps.int hg hrow j _)
      have c0 := hrow.cell (i := j) (by omega)
      have f0 := hrow.frozen j
      clear hr hrow
      go_wp2_with fail
      go_roundw
      case rel => exact ⟨j + 1, by omega, by go_num, congrArg (Value.int .i64) (by push_cast; omega), HK.out⟩
      case measure => simp [intOf]; omega
    · have hje : j = n := by omega
      have HJ : Hid (k + (n : Int) = k + (j : Int)) := by rw [hje]; rfl
      clear hje hr
      go_wp2_with fail
      go_ret
      exact ⟨ret_int HJ.out.symm, HR.out⟩

theorem CShape.keep {fp : List Nat} {w w' : World} {ns : List Nat} {v : Value} (h : CShape w fp ns v) (k : Keeps fp w w') : CShape w' fp ns v := by
  obtain ⟨ad, cap, e, l1, l2, h⟩ := h
  refine ⟨ad, cap, e, l1, l2, h.imp id ?_⟩
  rintro ⟨b, f, rfl, hb, hr, hi⟩
  exact ⟨b, f, rfl, hb, k.rows _ _ _ hr, fun i h => k.ints _ _ (hi i h)⟩
theorem CShape.blocks {fp : List Nat} {w w' : World} {ns : List Nat} {v : Value} (h : CShape w fp ns v) (k : ∀ b ∈ fp, w'.heap[b]? = w.heap[b]?) : CShape w' fp ns v := by
  obtain ⟨ad, cap, e, l1, l2, h⟩ := h
  refine ⟨ad, cap, e, l1, l2, h.imp id ?_⟩
  rintro ⟨b, f, rfl, hb, hr, hi⟩
  refine ⟨b, f, rfl, hb, hr.of_block (k b hb), fun i h => ?_⟩
  obtain ⟨ad, cap, e, l1, l2, h⟩ := hi i h
  refine ⟨ad, cap, e, l1, l2, h.imp id ?_⟩
  rintro ⟨g, f, rfl, hg, hr⟩
  exact ⟨g, f, rfl, hg, hr.of_block (k g hg)⟩
end Go.Proofs.Ytiipcgnkfhjpeaa
/-
  THE MARKS IN SLICES OF INTS: the laws' markIntS and heldIntS.
-/
namespace Go.Proofs.Ytiipcgnkfhjpeaa
set_option linter.unusedVariables false
set_option linter.unusedSimpArgs false
open Go.RowKit

/-- the numbers from k on -/
def upFrom (k : Int) : Nat → List Int
  | 0 => []
  | n + 1 => k :: upFrom (k + 1) n
theorem upFrom_length : ∀ (n : Nat) (k : Int), (upFrom k n).length = n
  | 0, _ => rfl
  | n + 1, k => by simp [upFrom, upFrom_length n]
theorem upFrom_get : ∀ (n : Nat) (k : Int) (i : Nat) (h : i < (upFrom k n).length), (upFrom k n)[i] = k + i
  | 0, _, _, h => by simp [upFrom] at h
  | n + 1, k, 0, _ => by simp [upFrom]
  | n + 1, k, i + 1, h => by
    have := upFrom_get n (k + 1) i (by simpa [upFrom] using h)
    simp only [upFrom, List.getElem_cons_succ, this]
    push_cast
    omega

/-- what holds behind j rounds of the marking -/
def IMRel (w : World) (lo : Nat) (xs : List Int) (k : Int) (ad : Option Addr) (cap j : Nat) (wr : World) : Prop :=
  Below lo w wr ∧ (xs = [] ∨ ∃ g f, ad = some ⟨g, 0, none⟩ ∧ lo ≤ g ∧ wr.rowIs g 3 cap f ∧ xs.length ≤ cap ∧ ∀ i, i < j → f i = .int .i64 (k + (i : Int)))
theorem IMRel.start {w : World} {lo : Nat} {xs : List Int} {k : Int} {ad : Option Addr} {cap : Nat} (h : IntRow w lo xs (.slice ad xs.length cap)) : IMRel w lo xs k ad cap 0 w := by
  obtain ⟨_, _, he, l1, -, h⟩ := h
  cases he
  refine ⟨Below.refl _ _, h.imp id ?_⟩
  rintro ⟨g, f, rfl, hg, hr, -⟩
  exact ⟨g, f, rfl, hg, hr, l1, fun i hi => absurd hi (by omega)⟩
theorem IMRel.step {w wr : World} {lo : Nat} {xs : List Int} {k : Int} {g cap j : Nat} (h : IMRel w lo xs k (some ⟨g, 0, none⟩) cap j wr) (hj : j < xs.length) : IMRel w lo xs k (some ⟨g, 0, none⟩) cap (j + 1) (wr.setCell ⟨g, j, none⟩ (.int .i64 (k + (j : Int)))) := by
  obtain ⟨hb, h⟩ := h
  rcases h with rfl | ⟨g', f, e, hg, hr, hl, hf⟩
  · simp at hj
  · simp only [Option.some.injEq, Addr.mk.injEq, and_true] at e
    subst e
    refine ⟨hb.setCell hg _, Or.inr ⟨g, _, rfl, hg, hr.set j _, hl, fun i hi => ?_⟩⟩
    by_cases hij : i = j
    · subst hij; simp
    · simp [hij, hf i (by omega)]
set_option maxHeartbeats 400000 in
theorem heldInts_calls (n : Nat) (c : Value) (k : Int) (w : World) (hc : IIn w (upFrom k n) c) (h0 : 0 ≤ k) (h1 : k + (n : Int) ≤ 1152921504606846976) :
    Calls Try.prog 17 #[c, .int .i64 k] w fun e w' => e = .returned (.int .i64 (k + (n : Int))) ∧ Below w.heap.size w w' := by
  have HC : Hid (IIn w (upFrom k n) c) := hc
  obtain ⟨ad, cap, rfl, hl, hm, -⟩ := hc
  unfold maxLen at hm
  rw [upFrom_length] at hl ⊢
  go_enter Try.func17, Try.ntmps17
  go_wp2_with fail
  go_loopw [1, 5] (fun q i wr => ∃ j : Nat, j ≤ n ∧ i = .int .i64 j ∧ q = .int .i64 (k + j) ∧ wr = w) (fun _ i _ => n - (intOf i).toNat)
  case atStart => exact ⟨0, Nat.zero_le _, rfl, by simp, rfl⟩
  case round =>
    obtain ⟨j, hj, rfl, rfl, rfl⟩ := hrel
    by_cases hlt : j < n
    · obtain ⟨_, _, he, -, -, hr⟩ := HC.out
      simp only [Value.slice.injEq] at he
      obtain ⟨rfl, -, rfl⟩ := he
      rcases hr with hnil | ⟨bl, off, rfl, -, hr⟩
      · have := congrArg List.length hnil; rw [upFrom_length] at this; simp at this; omega
      have c0 := hr j (by rw [upFrom_length]; exact hlt)
      rw [upFrom_get] at c0
      have t2 : (k + (j : Int) != k + (j : Int)) = false := by simp
      clear hr
      go_wp2_with fail
      go_roundw
      case rel => exact ⟨j + 1, by omega, by go_num, congrArg (Value.int .i64) (by push_cast; omega), trivial⟩
      case measure => simp [intOf]; omega
    · have HJ : Hid (k + (n : Int) = k + (j : Int)) := by unfold Hid; omega
      go_wp2_with fail
      go_ret
      exact ⟨ret_int HJ.out.symm, Below.refl _ _⟩
end Go.Proofs.Ytiipcgnkfhjpeaa
