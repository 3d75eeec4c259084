/-
  A SLICE OF INTS THAT A CALL OWNS, to which it appends: any numbers.
-/
import Derived.Test.YthknbafcnobgdaaStk
namespace Go.Proofs.Ythknbafcnobgdaa
set_option linter.unusedVariables false
set_option linter.unusedSimpArgs false
open Go.RowKit

/-- numbers, as values -/
def inV (xs : List Int) : List Value := xs.map fun a => Value.int .i64 a
theorem inV_length (xs : List Int) : (inV xs).length = xs.length := by simp [inV]
theorem inV_append (xs ys : List Int) : inV (xs ++ ys) = inV xs ++ inV ys := by simp [inV]
theorem inV_one (xs : List Int) : ∀ u ∈ inV xs, u.oneCell' = true := by
  intro u hu
  simp only [inV, List.mem_map] at hu
  obtain ⟨a, -, rfl⟩ := hu
  rfl
def StkI (w : World) (lo : Nat) (xs : List Int) (v : Value) : Prop := w.ownsRow lo 3 1 v xs.length (inV xs)
theorem StkI.keep {w w' : World} {lo : Nat} {xs : List Int} {v : Value} (h : StkI w lo xs v) (hk : ∀ k, lo ≤ k → k < w.heap.size → w'.heap[k]? = w.heap[k]?) : StkI w' lo xs v := by
  refine ⟨h.1, ?_⟩
  rcases h.2 with h | ⟨g, cap, cur, rfl, hg, hh, r⟩
  · exact Or.inl h
  · exact Or.inr ⟨g, cap, cur, rfl, hg, (hk g hg (Array.getElem?_eq_some_iff.1 hh).1).trans hh, r⟩
theorem StkI.next {w w' : World} {lo : Nat} {xs : List Int} {v : Value} (h : StkI w lo xs v) (hb : Below w.heap.size w w') : StkI w' lo xs v := h.keep fun k _ hk => hb.block k hk
theorem StkI.lower {w : World} {lo lo' : Nat} {xs : List Int} {v : Value} (h : StkI w lo xs v) (hl : lo' ≤ lo) : StkI w lo' xs v := by
  refine ⟨h.1, ?_⟩
  rcases h.2 with h | ⟨g, cap, cur, rfl, hg, r⟩
  · exact Or.inl h
  · exact Or.inr ⟨g, cap, cur, rfl, Nat.le_trans hl hg, r⟩
theorem StkI.len {w : World} {lo : Nat} {xs : List Int} {v : Value} (h : StkI w lo xs v) : ∃ ad cap, v = .slice ad xs.length cap := by
  rcases h.2 with ⟨rfl, h0⟩ | ⟨g, cap, cur, rfl, -⟩
  · exact ⟨none, 0, by rw [h0]⟩
  · exact ⟨_, _, rfl⟩
theorem StkI.form {w : World} {lo : Nat} {xs : List Int} {v : Value} (h : StkI w lo xs v) : ∃ ad n cap, v = .slice ad n cap := by
  obtain ⟨ad, cap, e⟩ := h.len
  exact ⟨ad, _, cap, e⟩
theorem StkI.eq_len {w : World} {lo : Nat} {xs : List Int} {ad : Option Addr} {n cap : Nat} (h : StkI w lo xs (.slice ad n cap)) : n = xs.length := by
  obtain ⟨_, _, e⟩ := h.len
  simp only [Value.slice.injEq] at e
  exact e.2.1
/-- no numbers yet, in a new block -/
theorem StkI.nil (w : World) (lo : Nat) (h : lo ≤ w.heap.size) : StkI (w.alloc (.cells #[] 3)) lo [] (.slice (some ⟨w.heap.size, 0, none⟩) 0 0) :=
  ⟨rfl, Or.inr ⟨w.heap.size, 0, _, rfl, h, Deep.blk_alloc_new _ _, Nat.le_refl _, by simp [maxLen], rfl, rfl⟩⟩
theorem StkI.none (w : World) (lo : Nat) : StkI w lo [] (.slice none 0 0) := ⟨rfl, Or.inl ⟨rfl, rfl⟩⟩
theorem StkI.row {w : World} {lo : Nat} {xs : List Int} {v : Value} (h : StkI w lo xs v) : IntRow w lo xs v := by
  rcases h.2 with ⟨rfl, h0⟩ | ⟨g, cap, cur, rfl, hg, hh, hn, hc, hs, htk⟩
  · obtain rfl : xs = [] := List.eq_nil_of_length_eq_zero h0
    exact IntRow.none _ _
  · rw [Nat.mul_one] at hs htk
    refine ⟨_, cap, rfl, hn, hc, Or.inr ⟨g, fun i => cur.getD i undef, rfl, hg, ⟨cur, hh, hs, fun i hi => ?_⟩, fun i hi => ?_⟩⟩
    · have hi' : i < cur.size := by omega
      simp [Array.getD, hi']
    · have hi' : i < cur.size := by omega
      have e1 : (cur.toList.take xs.length)[i]? = (inV xs)[i]? := by rw [htk]
      rw [List.getElem?_take_of_lt hi] at e1
      have e2 : (inV xs)[i]? = some (.int .i64 xs[i]) := by simp [inV, hi]
      rw [e2] at e1
      simp [Array.getD, hi'] at e1 ⊢
      exact e1
theorem StkI.alloc {w : World} {lo : Nat} {xs : List Int} {v : Value} (h : StkI w lo xs v) (o : Obj) : StkI (w.alloc o) lo xs v := h.keep fun k _ hk => Deep.blk_alloc_lt _ _ _ hk
theorem StkI.drew {w : World} {lo : Nat} {xs : List Int} {v : Value} (h : StkI w lo xs v) : StkI w.drew lo xs v := h.keep fun _ _ _ => rfl
/-- one number in a new block, as a slice that is appended -/
theorem oneI_in (w : World) (a : Int) : IIn (w.alloc (.cells #[.int .i64 a] 3)) [a] (.slice (some ⟨w.heap.size, 0, none⟩) 1 1) := by
  refine ⟨_, 1, rfl, Nat.le_refl _, by simp [maxLen], Or.inr ⟨_, 0, rfl, by show w.heap.size < _; rw [Deep.nblk_alloc]; omega, fun i hi => ?_⟩⟩
  obtain rfl : i = 0 := by simp at hi; omega
  exact box_cell w #[.int .i64 a] 3 0 _ rfl
theorem ints_newsI {w : World} {xs : List Int} {ad : Addr} {n cap : Nat} (h : IIn w xs (.slice (some ad) n cap)) : ∀ j u, (inV xs)[j]? = some u → w.cell? (ad.add j) = some u := by
  intro j u hu
  obtain ⟨ad', cap', he, -, -, hr⟩ := h
  simp only [Value.slice.injEq, Option.some.injEq] at he
  obtain ⟨rfl, -, -⟩ := he
  have hj : j < xs.length := by
    rcases Nat.lt_or_ge j xs.length with h | h
    · exact h
    · rw [List.getElem?_eq_none (by rw [inV_length]; exact h)] at hu; cases hu
  rcases hr with hnil | ⟨bl, off, e, -, hr⟩
  · subst hnil; simp at hj
  · simp only [Option.some.injEq] at e
    subst e
    rw [WideShapes.add_plain]
    have := hr j hj
    rw [this]
    simp [inV, hj] at hu
    simpa using hu

/-- append of numbers, out of any slice of ints -/
theorem run_pushI (w : World) (lo : Nat) (xs news : List Int) (v x : Value) (ty : TypeId) (hst : StkI w lo xs v) (hx : IIn w news x) (hlo : lo ≤ w.heap.size) (hb : xs.length + news.length ≤ 1048576) :
    ∃ v' w', (Builtin.append_ #[47, 47] ty #[v, x]).run Try.prog w = .ok v' w' ∧ StkI w' lo (xs ++ news) v' ∧ w.grownBy w' v.ownBlock := by
  obtain ⟨i, z, hi, hz, hs, hby, hzs⟩ := infoI1
  have hx2 := hx
  obtain ⟨ad, cap, rfl, -, -, hr⟩ := hx2
  rcases ad with _ | ad
  · have hnil : news = [] := by
      rcases hr with h | ⟨_, _, h, -⟩
      · exact h
      · simp at h
    subst hnil
    refine ⟨v, w, ?_, by simpa using hst, ⟨rfl, rfl, rfl, Nat.le_refl _, fun _ _ _ => rfl⟩⟩
    rcases hst.2 with ⟨rfl, h0⟩ | ⟨g, cap, cur, rfl, _, _, hnc, _⟩
    · simp [Builtin.append_, run_underlying Try.underlying47, sizeOf, typeInfo, hi, Builtin.lenOf, Builtin.firstCells]
    · simp [Builtin.append_, run_underlying Try.underlying47, sizeOf, typeInfo, hi, Builtin.lenOf, Builtin.firstCells, hnc, storeCells]
  · obtain ⟨v', w', hrun, hown, hg, -⟩ := run_append_own (P := Try.prog) w lo 47 ty 3 i z 1 8 Try.underlying47 hi hz hs hby hzs (by decide) v xs.length (inV xs) hst ad news.length cap (inV news) (by rw [inV_length, Nat.mul_one]) (ints_newsI hx) (inV_one _) (by unfold maxLen; omega) (by omega) hlo
    refine ⟨v', w', hrun, ?_, hg⟩
    unfold StkI
    rw [inV_append, List.length_append]
    exact hown
theorem wpList_pushI {ops : Array Oper} {rest : List Oper} {o : Oper} {a : Act} {Q : Exit → Act → World → Prop} (hgd : o.guard = none) (s x : Operand)
    (ho : o.op = .call { callee := .builtin .append, args := #[s, x], argTypes := #[47, 47] })
    (w : World) (lo : Nat) (xs news : List Int) (v xv : Value) (hs : a.eval s = v) (hst : StkI w lo xs v) (hxe : a.eval x = xv) (hx : IIn w news xv) (hlo : lo ≤ w.heap.size) (hb : xs.length + news.length ≤ 1048576)
    (h : ∀ v' w', StkI w' lo (xs ++ news) v' → w.grownBy w' v.ownBlock → wpList Try.prog ops Q rest (a.put o.dst v') w') : wpList Try.prog ops Q (o :: rest) a w := by
  refine wpList_plain hgd fun K hK => ?_
  obtain ⟨v', w', hrun, h2, h3⟩ := run_pushI w lo xs news v xv o.type hst hx hlo hb
  unfold Oper.wp
  simp [execOp, ho, resolve, invoke, builtin, hs, hxe, hrun, Result.andThen]
  exact hK _ _ (h v' w' h2 h3)
/-- a world after an append to a row of one's own -/
theorem StkI.grown {lo : Nat} {w0 w w' : World} {xs : List Int} {v : Value} (hst : StkI w lo xs v) (hl : lo = w0.heap.size) (hb : Below w0.heap.size w0 w) (hg : w.grownBy w' v.ownBlock) : Below w0.heap.size w0 w' :=
  ⟨by rw [hg.os]; exact hb.os, by rw [hg.tape]; exact hb.tape, by rw [hg.output]; exact hb.output, Nat.le_trans hb.size hg.size, fun k hk => (hg.block k (Nat.lt_of_lt_of_le hk hb.size) (fun e => by have := own_lo hst e; omega)).trans (hb.block k hk)⟩
/-- what lies below the row stays by an append -/
theorem StkI.far {lo : Nat} {w w' : World} {xs : List Int} {v : Value} (hst : StkI w lo xs v) (hg : w.grownBy w' v.ownBlock) {k : Nat} (hk : k < w.heap.size) (hl : k < lo) : w'.heap[k]? = w.heap[k]? :=
  hg.block k hk (fun e => by have := own_lo hst e; omega)
/-- .. as one step of a region that draws its order -/
theorem step_pushI {ops : Array Oper} {o : Oper} {a : Act} {w : World} {K : Act → World → Prop} {Q : Exit → Act → World → Prop} {E : Prop} (hgd : o.guard = none) (s x : Operand)
    (ho : o.op = .call { callee := .builtin .append, args := #[s, x], argTypes := #[47, 47] })
    (lo : Nat) (xs news : List Int) (v xv : Value) (hs : a.eval s = v) (hst : StkI w lo xs v) (hxe : a.eval x = xv) (hx : IIn w news xv) (hlo : lo ≤ w.heap.size) (hb : xs.length + news.length ≤ 1048576)
    (h : ∀ v' w', StkI w' lo (xs ++ news) v' → w.grownBy w' v.ownBlock → K (a.put o.dst v') w') : if Region.wanted o (yielded ops a.tmps) = true then Oper.wp Try.prog o a w K Q else E := by
  have hw : Region.wanted o (yielded ops a.tmps) = true := by simp [Region.wanted, hgd]
  rw [if_pos hw]
  obtain ⟨v', w', hrun, h2, h3⟩ := run_pushI w lo xs news v xv o.type hst hx hlo hb
  unfold Oper.wp
  simp [execOp, ho, resolve, invoke, builtin, hs, hxe, hrun, Result.andThen]
  exact h _ _ h2 h3
/-- a block of another type stays by an append -/
theorem StkI.box {lo B : Nat} {w w' : World} {xs : List Int} {v : Value} {cs : Array Value} {T : TypeId} (hst : StkI w lo xs v) (hX : w.heap[B]? = some (.cells cs T)) (hT : T ≠ 3) (hg : w.grownBy w' v.ownBlock) : w'.heap[B]? = some (.cells cs T) := by
  refine (hg.block B (Array.getElem?_eq_some_iff.1 hX).1 fun e => ?_).trans hX
  rcases hst.2 with ⟨rfl, -⟩ | ⟨g, cap, cur, rfl, -, hh, -⟩
  · simp [Value.ownBlock] at e
  · simp only [Value.ownBlock, Option.some.injEq] at e
    subst e
    rw [hX] at hh
    simp only [Option.some.injEq, Obj.cells.injEq] at hh
    exact hT hh.2.1
end Go.Proofs.Ythknbafcnobgdaa
