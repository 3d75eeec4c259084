/-
  LISTS OF PLACES IN MEMORY: reading one; one more, at a step; other rows stay.
-/
import Derived.Test.YtjpjikfmdaejeabStk
import Derived.Test.YtjpjikfmdaejeabAtS
import Derived.Test.YtjpjikfmdaejeabOwnSome
import Derived.Deep.DeepCutAuto
import Derived.Deep.RegionWith
import Derived.Deep.RegionHeld3
namespace Go.Proofs.Ytjpjikfmdaejeab
set_option linter.unusedVariables false
set_option linter.unusedSimpArgs false
open Go.RowKit

/-- a call has handed back these places, in a row of its own -/
def NewStk (ws : List Nat) (w : World) (e : Ending) (w' : World) : Prop := ∃ v, e = .returned v ∧ Stk w' w.heap.size ws v ∧ Below w.heap.size w w'
theorem pl_form {w : World} {rs : List Nat} {v : Value} (h : IIn w (plI rs) v) : ∃ ad cap, v = .slice ad rs.length cap ∧ rs.length ≤ cap ∧ cap ≤ maxLen := by
  obtain ⟨ad, cap, e, l1, l2, -⟩ := h
  rw [plI_length] at e l1
  exact ⟨ad, cap, e, l1, l2⟩
theorem pl_at {w : World} {rs : List Nat} {ad : Option Addr} {n cap : Nat} (h : IIn w (plI rs) (.slice ad n cap)) (k : Nat) (hk : k < rs.length) :
    ∃ bl off x, ad = some ⟨bl, off, none⟩ ∧ bl < w.heap.size ∧ rs[k]? = some x ∧ x ∈ rs ∧ w.cell? ⟨bl, off + k, none⟩ = some (.int .i64 (x : Int)) := by
  obtain ⟨bl, off, e, hc⟩ := h.at k (by rw [plI_length]; exact hk)
  refine ⟨bl, off, rs[k], e, cell_lt hc, List.getElem?_eq_getElem hk, List.getElem_mem hk, ?_⟩
  rw [hc]; simp [plI]
theorem Stk.pin {w : World} {lo : Nat} {ws : List Nat} {v : Value} (h : Stk w lo ws v) : IIn w (plI ws) v := h.row.inn
theorem Stk.lower {w : World} {lo lo' : Nat} {ws : List Nat} {v : Value} (h : Stk w lo ws v) (hl : lo' ≤ lo) : Stk w lo' ws v := by
  refine ⟨h.1, ?_⟩
  rcases h.2 with h | ⟨g, cap, cur, rfl, hg, r⟩
  · exact Or.inl h
  · exact Or.inr ⟨g, cap, cur, rfl, Nat.le_trans hl hg, r⟩
theorem Stk.next {w w' : World} {lo : Nat} {ws : List Nat} {v : Value} (h : Stk w lo ws v) (hb : Below w.heap.size w w') : Stk w' lo ws v := h.keep fun k _ hk => hb.block k hk
theorem kids_pl {w : World} {g : List Ce} {defs : Int} {a : Nat} {v : Value} (hg : graphB g defs = true) (ha : a < g.length) (h : IIn w g[a].kids v) : IIn w (plI (kidsN g a)) v := by
  rw [kids_back hg a ha] at h; exact h
/-- an empty row of places -/
theorem stk_zero {w : World} {lo b : Nat} (h : w.heap[b]? = some (.cells #[] 3)) (hb : lo ≤ b) : Stk w lo [] (.slice (some ⟨b, 0, none⟩) 0 0) :=
  ⟨rfl, Or.inr ⟨b, 0, #[], rfl, hb, h, Nat.le_refl _, by simp [maxLen], rfl, rfl⟩⟩
/-- append of places, at a step of a region that draws -/
theorem step_push {ops : Array Oper} {o : Oper} {a : Act} {w : World} {K : Act → World → Prop} {Q : Exit → Act → World → Prop} {E : Prop} (hgd : o.guard = none) (s x : Operand)
    (ho : o.op = .call { callee := .builtin .append, args := #[s, x], argTypes := #[29, 29] })
    (lo : Nat) (ws news : List Nat) (v xv : Value) (hs : a.eval s = v) (hst : Stk w lo ws v) (hxe : a.eval x = xv) {xs : List Int} (hx : IIn w xs xv) (hxs : xs = news.map fun (a : Nat) => (a : Int)) (hlo : lo ≤ w.heap.size) (hb : ws.length + news.length ≤ 1048576)
    (h : ∀ v' w', Stk w' lo (ws ++ news) v' → w.grownBy w' v.ownBlock → K (a.put o.dst v') w') : if Region.wanted o (yielded ops a.tmps) = true then Oper.wp Try.prog o a w K Q else E := by
  have hw : Region.wanted o (yielded ops a.tmps) = true := by simp [Region.wanted, hgd]
  rw [if_pos hw]
  obtain ⟨v', w', hrun, h2, h3⟩ := run_push w lo ws news v xv o.type hst hx hxs hlo hb
  unfold Oper.wp
  simp [execOp, ho, resolve, invoke, builtin, hs, hxe, hrun, Result.andThen]
  exact h _ _ h2 h3
theorem stk_len2 {w : World} {lo n : Nat} {ws : List Nat} {v : Value} (h : Stk w lo ([] ++ ws) v) (hn : ws.length = n) : ∃ ad cap, v = .slice ad n cap := by
  obtain ⟨a, c, e⟩ := h.len
  exact ⟨a, c, by rw [e, List.nil_append, hn]⟩
/-- a row of another type is not the row of places -/
theorem own_other {w : World} {lo : Nat} {ws : List Nat} {v : Value} {b n : Nat} {T : TypeId} {f : Nat → Value} (h : Stk w lo ws v) (hr : w.rowIs b T n f) (hT : T ≠ 3) : some b ≠ v.ownBlock := by
  intro e
  rcases h.2 with ⟨rfl, -⟩ | ⟨g, cap, cur, rfl, -, hh, -⟩
  · simp [Value.ownBlock] at e
  · simp only [Value.ownBlock, Option.some.injEq] at e
    subst e
    obtain ⟨C, hC, -⟩ := hr
    rw [hh] at hC
    simp only [Option.some.injEq, Obj.cells.injEq] at hC
    exact hT hC.2.1.symm
theorem Stk.mark {w : World} {lo : Nat} {ws : List Nat} {v : Value} {b n : Nat} {T : TypeId} {f : Nat → Value} (h : Stk w lo ws v) (hr : w.rowIs b T n f) (hT : T ≠ 3) (i : Nat) (u : Value) : Stk (w.setCell ⟨b, i, none⟩ u) lo ws v := by
  have hne := own_other h hr hT
  refine ⟨h.1, ?_⟩
  rcases h.2 with h' | ⟨g, cap, cur, rfl, hg, hh, r⟩
  · exact Or.inl h'
  · refine Or.inr ⟨g, cap, cur, rfl, hg, (Below.heap_setCell _ _ _ _ ?_).trans hh, r⟩
    intro e
    exact hne (by simp only [Value.ownBlock, Option.some.injEq]; exact e.symm)
/-- the world behind append: nothing older has changed -/
theorem push_below {w wb w5 : World} {B lo : Nat} {ws : List Nat} {v : Value} (hst : Stk wb lo ws v) (hb : Below B w wb) (hlo : B ≤ lo) (hg : wb.grownBy w5 v.ownBlock) (hB : B ≤ w.heap.size) : Below B w w5 :=
  ⟨by rw [hg.os]; exact hb.os, by rw [hg.tape]; exact hb.tape, by rw [hg.output]; exact hb.output, Nat.le_trans hb.size hg.size, fun k hk =>
    (hg.block k (by have := hb.size; omega) (fun e => by have := own_lo hst e; omega)).trans (hb.block k hk)⟩
/-- a row of another type stays behind append -/
theorem row_push {w w5 : World} {lo : Nat} {ws : List Nat} {v : Value} {b n : Nat} {T : TypeId} {f : Nat → Value} (hr : w.rowIs b T n f) (hst : Stk w lo ws v) (hg : w.grownBy w5 v.ownBlock) (hT : T ≠ 3) : w5.rowIs b T n f :=
  hr.of_block (hg.block b hr.lt (own_other hst hr hT))
end Go.Proofs.Ytjpjikfmdaejeab
