/-
  THE PROGRAM's addExpr in an arena, and arenaOf at no graph.
-/
import Derived.Test.YtjpjikfmdaejeaaDoorMgExactNumberNeed37
import Derived.Test.YtjpjikfmdaejeaaDoorMgExactNumberNeed21
import Derived.Test.YtjpjikfmdaejeaaDoorMgExactNumberNeed16
import Derived.Test.YtjpjikfmdaejeaaDoorMgExactNumberNeed25
import Derived.Deep.DeepCutAuto
import Derived.Deep.RegionWith
import Derived.Deep.RegionHeld3
namespace Go.Proofs.YtjpjikfmdaejeaaDoor
set_option linter.unusedVariables false
set_option linter.unusedSimpArgs false
open Go.RowKit

theorem OwnC.down {w : World} {lo lo' : Nat} {S S' : Nat → Prop} {g : List Ce} {v : Value} (h : OwnC w lo S g v) (hl : lo' ≤ lo) (hS : ∀ k, S k → S' k) : OwnC w lo' S' g v := by
  obtain ⟨hi0, xs, kb, h1, h2, h3⟩ := h.next (S' := S') (fun k hk _ => hS k hk) (fun _ _ _ => rfl) (fun _ _ _ => rfl)
  refine ⟨hi0, xs, kb, ⟨h1.1, ?_⟩, h2, h3⟩
  rcases h1.2 with h | ⟨b, cap, cur, rfl, hg, r⟩
  · exact Or.inl h
  · exact Or.inr ⟨b, cap, cur, rfl, Nat.le_trans hl hg, r⟩
theorem fdRes_down {r : List Ce × Nat} {lo A : Nat} {S : Nat → Prop} {gv : Value} {w W : World} {e : Ending} {w' : World} (h : FdRes r lo S gv A W e w') (hb : Below w.heap.size w W) : FdRes r lo S gv A w e w' := by
  obtain ⟨gv', h1, h2, h3, h4, h5⟩ := h
  have hs := hb.size
  refine ⟨gv', h1, h2.next (fun b hb _ => hb.imp id fun h => by omega) (fun _ _ _ => rfl) (fun _ _ _ => rfl), h3, ⟨h4.os.trans hb.os, h4.tape.trans hb.tape, h4.output.trans hb.output, Nat.le_trans hs h4.size, fun k hk hn hne => (h4.block k (by omega) hn hne).trans (hb.block k hk)⟩, ?_⟩
  rcases h5 with e | ⟨g, e, hg⟩
  · exact Or.inl e
  · exact Or.inr ⟨g, e, by omega⟩

set_option maxRecDepth 100000 in
set_option maxHeartbeats 1600000 in
theorem ax_callsT (args : List Nat) (t : Tr) (gv c : Value) (ada : Option Addr) (na ca : Nat) (lo A : Nat) (S T : Nat → Prop) (cs : List Ce) (w : World) (hg : OwnC w lo S cs gv) (hA : w.heap[A]? = some (.cells #[gv] 97))
    (hlo : lo ≤ w.heap.size) (hT : Free T w A gv) (ha : IntsOn w T (args.map fun (a : Nat) => (a : Int)) (.slice ada na ca)) (hk : KidsOn w T t.kids c) (hz : cs.length + szT t ≤ 500000) (hal : args.length ≤ 1048576) (ho : I64 t.op) (hn : I64 t.num) (hp : AllT (VarOk args.length) t) :
    Calls Tryd.prog 57 #[.pointer (some ⟨A, 0, none⟩), .agg #[.int .i64 t.op, .int .i64 t.num, c], .slice ada na ca] w (FdRes (addT args t cs) lo S gv A w) := by
  have hAl : A < w.heap.size := (Array.getElem?_eq_some_iff.1 hA).1
  have hkeep : ∀ o1 o2 o3 b, b < w.heap.size → (((w.alloc o1).alloc o2).alloc o3).heap[b]? = w.heap[b]? := fun o1 o2 o3 b hb => (Deep.blk_alloc_lt _ _ _ (by rw [Deep.nblk_alloc, Deep.nblk_alloc]; omega)).trans ((Deep.blk_alloc_lt _ _ _ (by rw [Deep.nblk_alloc]; omega)).trans (Deep.blk_alloc_lt _ _ _ hb))
  have hbw : Below w.heap.size w (((w.alloc (.cells #[.pointer (some ⟨A, 0, none⟩)] 78)).alloc (.cells #[.int .i64 t.op, .int .i64 t.num, c] 34)).alloc (.cells #[.slice ada na ca] 62)) := (((box_below w _).alloc (by rw [Deep.nblk_alloc]; omega) _).alloc (by rw [Deep.nblk_alloc, Deep.nblk_alloc]; omega) _)
  have hc := fd_calls args (.slice ada na ca) t gv c lo A (w.heap.size + 1 + 1) w.heap.size S T cs (((w.alloc (.cells #[.pointer (some ⟨A, 0, none⟩)] 78)).alloc (.cells #[.int .i64 t.op, .int .i64 t.num, c] 34)).alloc (.cells #[.slice ada na ca] 62))
    (hg.next (fun _ h _ => h) (fun b _ hb => hkeep _ _ _ b hb) (fun b _ hb => hkeep _ _ _ b hb)) ((hkeep _ _ _ A hAl).trans hA)
    (by have h := Deep.blk_alloc_new ((w.alloc (.cells #[.pointer (some ⟨A, 0, none⟩)] 78)).alloc (.cells #[.int .i64 t.op, .int .i64 t.num, c] 34)) (.cells #[.slice ada na ca] 62); rw [Deep.nblk_alloc, Deep.nblk_alloc] at h; exact h)
    ((Deep.blk_alloc_lt _ _ _ (by rw [Deep.nblk_alloc, Deep.nblk_alloc]; omega)).trans ((Deep.blk_alloc_lt _ _ _ (by rw [Deep.nblk_alloc]; omega)).trans (Deep.blk_alloc_new _ _)))
    (by rw [Deep.nblk_alloc, Deep.nblk_alloc, Deep.nblk_alloc]; omega) (fun b hb => ⟨by have := (hT b hb).1; rw [Deep.nblk_alloc, Deep.nblk_alloc, Deep.nblk_alloc]; omega, (hT b hb).2⟩) (ha.mono (fun _ h => h) (fun b hb => hkeep _ _ _ b (hT b hb).1)) (hk.mono (fun _ h => h) (fun b hb => hkeep _ _ _ b (hT b hb).1)) hz hal ho hn hp
  have HC := mkHid (hc.mono fun e w' h => fdRes_down h hbw)
  clear hc hbw hkeep hg hA ha hk hp ho hn
  go_enter Tryd.func57, Tryd.ntmps57
  go_wp2_with fail
  refine HC.out.mono ?_
  intro e w' hr
  have HR := hr
  obtain ⟨gv', rfl, -⟩ := hr
  have HR := mkHid HR
  go_wp2_with fail
  go_ret
  exact HR.out

theorem ax_calls (args : List Nat) (t : Tr) (gv c : Value) (ada : Option Addr) (na ca : Nat) (lo A : Nat) (S : Nat → Prop) (cs : List Ce) (w : World) (hg : OwnC w lo S cs gv) (hA : w.heap[A]? = some (.cells #[gv] 97))
    (hlo : lo ≤ w.heap.size) (hlA : lo ≤ A) (ha : IntsOn w (Lt lo) (args.map fun (a : Nat) => (a : Int)) (.slice ada na ca)) (hk : KidsOn w (Lt lo) t.kids c) (hz : cs.length + szT t ≤ 500000) (hal : args.length ≤ 1048576) (ho : I64 t.op) (hn : I64 t.num) (hp : AllT (VarOk args.length) t) :
    Calls Tryd.prog 57 #[.pointer (some ⟨A, 0, none⟩), .agg #[.int .i64 t.op, .int .i64 t.num, c], .slice ada na ca] w (FdRes (addT args t cs) lo S gv A w) :=
  ax_callsT args t gv c ada na ca lo A S (Lt lo) cs w hg hA hlo (fun b hb => ⟨Nat.lt_of_lt_of_le hb hlo, fun e => by obtain ⟨ys, hy⟩ := hg.row; have := (own_some hy b e.symm).1; have h2 : b < lo := hb; omega, fun e => by have h2 : b < lo := hb; omega⟩) ha hk hz hal ho hn hp

set_option maxRecDepth 100000 in
set_option maxHeartbeats 1600000 in
theorem arena0 (w : World) : Calls Tryd.prog 56 #[.slice none 0 0] w fun e w' => e = .returned (.pointer (some ⟨w.heap.size, 0, none⟩)) ∧ w' = w.alloc (.cells #[.slice none 0 0] 97) := by
  go_enter Tryd.func56, Tryd.ntmps56
  go_wp2_with fail
  go_loopw [10] (fun i wr => i = .int .i64 0 ∧ wr = w.alloc (.cells #[.slice none 0 0] 97)) (fun i _ => 0)
  case atStart => exact ⟨rfl, rfl⟩
  case round =>
    obtain ⟨rfl, rfl⟩ := hrel
    go_wp2_with fail
    go_ret
    exact ⟨rfl, rfl⟩

end Go.Proofs.YtjpjikfmdaejeaaDoor
/-
  LISTS OF PLACES IN MEMORY: reading one; one more, at a step; other rows stay.
-/
namespace Go.Proofs.YtjpjikfmdaejeaaDoor
set_option linter.unusedVariables false
set_option linter.unusedSimpArgs false
open Go.RowKit

/-- a call has handed back these places, in a row of its own -/
def NewStk (ws : List Nat) (w : World) (e : Ending) (w' : World) : Prop := ∃ v, e = .returned v ∧ Stk w' w.heap.size ws v ∧ Below w.heap.size w w'
theorem pl_form {w : World} {rs : List Nat} {v : Value} (h : IIn w (plI rs) v) : ∃ ad cap, v = .slice ad rs.length cap ∧ rs.length ≤ cap ∧ cap ≤ maxLen := by
  obtain ⟨ad, cap, e, l1, l2, -⟩ := h
  rw [plI_length] at e l1
  exact ⟨ad, cap, e, l1, l2⟩
theorem pl_at {w : World} {rs : List Nat} {ad : Option Addr} {n cap : Nat} (h : IIn w (plI rs) (.slice ad n cap)) (k : Nat) (hk : k < rs.length) :
    ∃ bl off x, ad = some ⟨bl, off, none⟩ ∧ bl < w.heap.size ∧ rs[k]? = some x ∧ x ∈ rs ∧ w.cell? ⟨bl, off + k, none⟩ = some (.int .i64 (x : Int)) := by
  obtain ⟨bl, off, e, hc⟩ := h.at k (by rw [plI_length]; exact hk)
  refine ⟨bl, off, rs[k], e, cell_lt hc, List.getElem?_eq_getElem hk, List.getElem_mem hk, ?_⟩
  rw [hc]; simp [plI]
theorem Stk.pin {w : World} {lo : Nat} {ws : List Nat} {v : Value} (h : Stk w lo ws v) : IIn w (plI ws) v := h.row.inn
theorem Stk.lower {w : World} {lo lo' : Nat} {ws : List Nat} {v : Value} (h : Stk w lo ws v) (hl : lo' ≤ lo) : Stk w lo' ws v := by
  refine ⟨h.1, ?_⟩
  rcases h.2 with h | ⟨g, cap, cur, rfl, hg, r⟩
  · exact Or.inl h
  · exact Or.inr ⟨g, cap, cur, rfl, Nat.le_trans hl hg, r⟩
theorem Stk.next {w w' : World} {lo : Nat} {ws : List Nat} {v : Value} (h : Stk w lo ws v) (hb : Below w.heap.size w w') : Stk w' lo ws v := h.keep fun k _ hk => hb.block k hk
theorem kids_pl {w : World} {g : List Ce} {defs : Int} {a : Nat} {v : Value} (hg : graphB g defs = true) (ha : a < g.length) (h : IIn w g[a].kids v) : IIn w (plI (kidsN g a)) v := by
  rw [kids_back hg a ha] at h; exact h
/-- an empty row of places -/
theorem stk_zero {w : World} {lo b : Nat} (h : w.heap[b]? = some (.cells #[] 3)) (hb : lo ≤ b) : Stk w lo [] (.slice (some ⟨b, 0, none⟩) 0 0) :=
  ⟨rfl, Or.inr ⟨b, 0, #[], rfl, hb, h, Nat.le_refl _, by simp [maxLen], rfl, rfl⟩⟩
/-- append of places, at a step of a region that draws -/
theorem step_push {ops : Array Oper} {o : Oper} {a : Act} {w : World} {K : Act → World → Prop} {Q : Exit → Act → World → Prop} {E : Prop} (hgd : o.guard = none) (s x : Operand)
    (ho : o.op = .call { callee := .builtin .append, args := #[s, x], argTypes := #[62, 62] })
    (lo : Nat) (ws news : List Nat) (v xv : Value) (hs : a.eval s = v) (hst : Stk w lo ws v) (hxe : a.eval x = xv) {xs : List Int} (hx : IIn w xs xv) (hxs : xs = news.map fun (a : Nat) => (a : Int)) (hlo : lo ≤ w.heap.size) (hb : ws.length + news.length ≤ 1048576)
    (h : ∀ v' w', Stk w' lo (ws ++ news) v' → w.grownBy w' v.ownBlock → K (a.put o.dst v') w') : if Region.wanted o (yielded ops a.tmps) = true then Oper.wp Tryd.prog o a w K Q else E := by
  have hw : Region.wanted o (yielded ops a.tmps) = true := by simp [Region.wanted, hgd]
  rw [if_pos hw]
  obtain ⟨v', w', hrun, h2, h3⟩ := run_push w lo ws news v xv o.type hst hx hxs hlo hb
  unfold Oper.wp
  simp [execOp, ho, resolve, invoke, builtin, hs, hxe, hrun, Result.andThen]
  exact h _ _ h2 h3
theorem stk_len2 {w : World} {lo n : Nat} {ws : List Nat} {v : Value} (h : Stk w lo ([] ++ ws) v) (hn : ws.length = n) : ∃ ad cap, v = .slice ad n cap := by
  obtain ⟨a, c, e⟩ := h.len
  exact ⟨a, c, by rw [e, List.nil_append, hn]⟩
/-- a row of another type is not the row of places -/
theorem own_other {w : World} {lo : Nat} {ws : List Nat} {v : Value} {b n : Nat} {T : TypeId} {f : Nat → Value} (h : Stk w lo ws v) (hr : w.rowIs b T n f) (hT : T ≠ 3) : some b ≠ v.ownBlock := by
  intro e
  rcases h.2 with ⟨rfl, -⟩ | ⟨g, cap, cur, rfl, -, hh, -⟩
  · simp [Value.ownBlock] at e
  · simp only [Value.ownBlock, Option.some.injEq] at e
    subst e
    obtain ⟨C, hC, -⟩ := hr
    rw [hh] at hC
    simp only [Option.some.injEq, Obj.cells.injEq] at hC
    exact hT hC.2.1.symm
theorem Stk.mark {w : World} {lo : Nat} {ws : List Nat} {v : Value} {b n : Nat} {T : TypeId} {f : Nat → Value} (h : Stk w lo ws v) (hr : w.rowIs b T n f) (hT : T ≠ 3) (i : Nat) (u : Value) : Stk (w.setCell ⟨b, i, none⟩ u) lo ws v := by
  have hne := own_other h hr hT
  refine ⟨h.1, ?_⟩
  rcases h.2 with h' | ⟨g, cap, cur, rfl, hg, hh, r⟩
  · exact Or.inl h'
  · refine Or.inr ⟨g, cap, cur, rfl, hg, (Below.heap_setCell _ _ _ _ ?_).trans hh, r⟩
    intro e
    exact hne (by simp only [Value.ownBlock, Option.some.injEq]; exact e.symm)
/-- the world behind append: nothing older has changed -/
theorem push_below {w wb w5 : World} {B lo : Nat} {ws : List Nat} {v : Value} (hst : Stk wb lo ws v) (hb : Below B w wb) (hlo : B ≤ lo) (hg : wb.grownBy w5 v.ownBlock) (hB : B ≤ w.heap.size) : Below B w w5 :=
  ⟨by rw [hg.os]; exact hb.os, by rw [hg.tape]; exact hb.tape, by rw [hg.output]; exact hb.output, Nat.le_trans hb.size hg.size, fun k hk =>
    (hg.block k (by have := hb.size; omega) (fun e => by have := own_lo hst e; omega)).trans (hb.block k hk)⟩
/-- a row of another type stays behind append -/
theorem row_push {w w5 : World} {lo : Nat} {ws : List Nat} {v : Value} {b n : Nat} {T : TypeId} {f : Nat → Value} (hr : w.rowIs b T n f) (hst : Stk w lo ws v) (hg : w.grownBy w5 v.ownBlock) (hT : T ≠ 3) : w5.rowIs b T n f :=
  hr.of_block (hg.block b hr.lt (own_other hst hr hT))
end Go.Proofs.YtjpjikfmdaejeaaDoor
