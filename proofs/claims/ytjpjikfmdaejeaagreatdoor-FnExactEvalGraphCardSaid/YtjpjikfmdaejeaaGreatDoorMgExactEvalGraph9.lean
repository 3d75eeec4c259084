/-
  THE PROGRAM's foldExpr with the closure of addExpr: the cells of an expression, added to an arena.
-/
import Derived.Test.YtjpjikfmdaejeaaGreatDoorMgExactEvalGraph6
import Derived.Test.YtjpjikfmdaejeaaGreatDoorMgExactEvalGraph8
import Derived.Test.YtjpjikfmdaejeaaGreatDoorMgExactEvalGraph5
import Derived.Test.YtjpjikfmdaejeaaGreatDoorMgExactEvalGraph4
import Derived.Test.YtjpjikfmdaejeaaGreatDoorMgExactEvalGraph2
import Derived.Deep.DeepCutAuto
import Derived.Deep.RegionWith
import Derived.Deep.RegionHeld3
import Derived.Test.YtjpjikfmdaejeaaGreatDoorMgExactEvalGraph7
import Derived.RangeFuncNested
import Derived.RangeFuncBound
import Derived.RangeFuncCalls
import Derived.RangeFuncLeaves
import Derived.RangeFuncBox
import Derived.OrdersHeld
import Derived.Shelf.Abstract
import Derived.WalkKit
import Derived.OwnWalkIn
import Derived.TacticsInMore
import Derived.LoopNIn
import Derived.LoopIn
import Derived.Test.YtjpjikfmdaejeaaGreatDoorRows
namespace Go.Proofs.YtjpjikfmdaejeaaGreatDoor
set_option linter.unusedVariables false
set_option linter.unusedSimpArgs false
open Go.RowKit

/-- nothing changed but one row and block A -/
structure Kept (w w' : World) (A : Nat) (row : Option Nat) : Prop where
  os : w'.os = w.os
  tape : w'.tape = w.tape
  output : w'.output = w.output
  size : w.heap.size ≤ w'.heap.size
  block : ∀ k, k < w.heap.size → some k ≠ row → k ≠ A → w'.heap[k]? = w.heap[k]?
/-- a graph that is being built stays where its rows stay: rows of ints and the row of cells -/
theorem OwnC.next2 {w w' : World} {lo : Nat} {S S' : Nat → Prop} {g : List Ce} {v : Value} (h : OwnC w lo S g v) (hS : ∀ k, S k → k < w.heap.size → S' k) (hr : ∀ k, some k = v.ownBlock → k < w.heap.size → w'.heap[k]? = w.heap[k]?) (hb : ∀ k C, S k → k < w.heap.size → w.heap[k]? = some (.cells C 3 (0, 0)) → w'.heap[k]? = w.heap[k]?) : OwnC w' lo S' g v := by
  obtain ⟨hi0, xs, kb, h1, h2, h3⟩ := h
  refine ⟨hi0, xs, kb, ?_, fun j hj => ?_, h3⟩
  · refine ⟨h1.1, ?_⟩
    rcases h1.2 with h | ⟨b, cap, cur, rfl, hg, hh, r⟩
    · exact Or.inl h
    · exact Or.inr ⟨b, cap, cur, rfl, hg, (hr b rfl (Array.getElem?_eq_some_iff.1 hh).1).trans hh, r⟩
  · obtain ⟨kv, e0, e1, e2, e3⟩ := h2 j hj
    exact ⟨kv, e0, e1, e2, e3.keep hS fun C h1 h2 hC => hb _ C h1 h2 hC⟩

def FdRes (r : List Ce × Nat) (lo : Nat) (S : Nat → Prop) (gv : Value) (A : Nat) (w : World) (e : Ending) (w' : World) : Prop :=
  ∃ gv', e = .returned (.int .i64 (r.2 : Int)) ∧ OwnC w' lo (fun b => S b ∨ w.heap.size ≤ b) r.1 gv' ∧ w'.heap[A]? = some (.cells #[gv'] 66) ∧ Kept w w' A gv.ownBlock ∧ (gv'.ownBlock = gv.ownBlock ∨ ∃ g, gv'.ownBlock = some g ∧ w.heap.size ≤ g)
/-- blocks of T are there, and none of them is the arena or the row of its cells -/
def Free (T : Nat → Prop) (w : World) (A : Nat) (gv : Value) : Prop := ∀ b, T b → b < w.heap.size ∧ some b ≠ gv.ownBlock ∧ b ≠ A
def FdSaid (args : List Nat) (av : Value) (t : Tr) : Prop := ∀ (gv c : Value) (lo A xb ab : Nat) (S T : Nat → Prop) (cs : List Ce) (w : World), OwnC w lo S cs gv → w.heap[A]? = some (.cells #[gv] 66) → w.heap[xb]? = some (.cells #[av] 47) → w.heap[ab]? = some (.cells #[.pointer (some ⟨A, 0, none⟩)] 61) →
  lo ≤ w.heap.size → Free T w A gv → IntsOn w T (args.map fun (a : Nat) => (a : Int)) av → KidsOn w T t.kids c → cs.length + szT t ≤ 500000 → args.length ≤ 1048576 → I64 t.op → I64 t.num → AllT (VarOk args.length) t →
  Calls Tryz.prog 95 #[.agg #[.int .i64 t.op, .int .i64 t.num, c], .func (.func 96) #[] #[.pointer (some ⟨xb, 0, none⟩), .pointer (some ⟨ab, 0, none⟩)]] w (FdRes (addT args t cs) lo S gv A w)

/-- the closure, at a node that is no variable -/
def CloRes (A lo n : Nat) (o m : Int) (gv kv : Value) (xs : List Value) (w : World) (e : Ending) (w' : World) : Prop := ∃ ob, Added A lo n o m gv kv xs (w.alloc ob) e w'
set_option maxRecDepth 100000 in
set_option maxHeartbeats 1600000 in
theorem clo_add (A lo n xb ab : Nat) (o m : Int) (c gv : Value) (adk : Option Addr) (nk ck : Nat) (xs : List Value) (w : World) (h1 : ¬ o = 1) (hA : w.heap[A]? = some (.cells #[gv] 66)) (hab : w.heap[ab]? = some (.cells #[.pointer (some ⟨A, 0, none⟩)] 61)) (hx : w.ownsRow lo 58 3 gv n xs) (hlo : lo ≤ w.heap.size) (hn : n ≤ 500000) :
    Calls Tryz.prog 96 #[.agg #[.int .i64 o, .int .i64 m, c], .slice adk nk ck, .pointer (some ⟨xb, 0, none⟩), .pointer (some ⟨ab, 0, none⟩)] w (CloRes A lo n o m gv (.slice adk nk ck) xs w) := by
  have t1 : (o == 1) = false := by simpa using h1
  have HA : Hid (w.heap[A]? = some (.cells #[gv] 66)) := hA
  have HX : Hid (w.ownsRow lo 58 3 gv n xs) := hx
  have p0 := old_cell (cell_of_blk hab 0 _ rfl) (.cells #[.int .i64 o, .int .i64 m, c] 54)
  clear h1 hA hab hx
  go_enter Tryz.func96, Tryz.ntmps96
  go_wp2_with fail
  refine (add_calls A lo n o m gv adk nk ck xs _ ((Deep.blk_alloc_lt _ _ _ (Array.getElem?_eq_some_iff.1 HA.out).1).trans HA.out) (own_keep HX.out (fun k _ hk => Deep.blk_alloc_lt _ _ _ hk)) (by rw [Deep.nblk_alloc]; omega) hn).mono ?_
  rintro e w' ⟨v', w5, rfl, h1, h2, h3, rfl⟩
  have HR : Hid (CloRes A lo n o m gv (.slice adk nk ck) xs w (.returned (.int .i64 (n : Int))) (w5.setCell ⟨A, 0, none⟩ v')) := ⟨_, v', w5, rfl, h1, h2, h3, rfl⟩
  clear h1 h2 h3
  go_wp2_with fail
  go_ret
  exact HR.out

/-- where the operands' rows of the graph lie while the operands of a cell are gathered in kv -/
def SF (w : World) (S : Nat → Prop) (kv : Value) : Nat → Prop := fun b => ((S b ∧ b < w.heap.size) ∨ w.heap.size + 1 ≤ b) ∧ some b ≠ kv.ownBlock
/-- what holds behind k operands -/
structure FdRel (args : List Nat) (t : Tr) (cs : List Ce) (lo : Nat) (S : Nat → Prop) (A : Nat) (gv0 ebox : Value) (w : World) (k : Nat) (gv kv : Value) (wr : World) : Prop where
  graph : OwnC wr lo (SF w S kv) (addL args (t.kids.take k) cs).1 gv
  arena : wr.heap[A]? = some (.cells #[gv] 66)
  kids : Stk wr (w.heap.size + 1) (addL args (t.kids.take k) cs).2 kv
  ebx : wr.heap[w.heap.size]? = some (.cells #[.int .i64 t.op, .int .i64 t.num, ebox] 54)
  kept : Kept w wr A gv0.ownBlock
  size : w.heap.size + 1 ≤ wr.heap.size
  own : gv.ownBlock = gv0.ownBlock ∨ ∃ g, gv.ownBlock = some g ∧ w.heap.size + 1 ≤ g
theorem FdRel.gown {args : List Nat} {t : Tr} {cs : List Ce} {lo A : Nat} {S : Nat → Prop} {gv0 ebox : Value} {w : World} {k : Nat} {gv kv : Value} {wr : World} (h : FdRel args t cs lo S A gv0 ebox w k gv kv wr) : ∀ b, some b = gv.ownBlock → some b = gv0.ownBlock ∨ w.heap.size + 1 ≤ b := by
  intro b hb
  rcases h.own with e | ⟨g, e, hg⟩
  · exact Or.inl (hb.trans e)
  · rw [e] at hb; simp only [Option.some.injEq] at hb; exact Or.inr (by omega)
/-- one operand more -/
theorem fd_push {args : List Nat} {t : Tr} {cs : List Ce} {lo A : Nat} {S : Nat → Prop} {gv0 ebox : Value} {w : World} {k : Nat} {gv kv : Value} {wr : World} (h : FdRel args t cs lo S A gv0 ebox w k gv kv wr) (hk : k < t.kids.length) (hg0 : ∀ b, gv0.ownBlock = some b → b < w.heap.size) (hA : A < w.heap.size) (o1 : Obj) {gv' : Value} {w2 : World}
    (hg : OwnC w2 lo (fun b => SF w S kv b ∨ (wr.alloc o1).heap.size ≤ b) (addT args t.kids[k] (addL args (t.kids.take k) cs).1).1 gv') (hA2 : w2.heap[A]? = some (.cells #[gv'] 66)) (hgr : Kept (wr.alloc o1) w2 A gv.ownBlock) (how : gv'.ownBlock = gv.ownBlock ∨ ∃ g, gv'.ownBlock = some g ∧ (wr.alloc o1).heap.size ≤ g) (o : Obj) {kv' : Value} {w5 : World}
    (hst : Stk w5 (w.heap.size + 1) ((addL args (t.kids.take k) cs).2 ++ [(addT args t.kids[k] (addL args (t.kids.take k) cs).1).2]) kv') (hgr5 : (w2.alloc o).grownBy w5 kv.ownBlock) (hw5 : kv'.ownBlock = kv.ownBlock ∨ ∃ g, kv'.ownBlock = some g ∧ (w2.alloc o).heap.size ≤ g) :
    FdRel args t cs lo S A gv0 ebox w (k + 1) gv' kv' w5 := by
  have hs := h.size
  have hs2 := hgr.size
  have hs5 := hgr5.size
  rw [Deep.nblk_alloc] at hs2 hs5 hw5 how hg
  have hkv : ∀ b, some b = kv.ownBlock → w.heap.size + 1 ≤ b ∧ b < wr.heap.size := fun b e => own_some h.kids b e.symm
  have k2 : ∀ b, b < wr.heap.size → some b ≠ gv.ownBlock → b ≠ A → w2.heap[b]? = wr.heap[b]? := fun b hb hn hne => (hgr.block b (by rw [Deep.nblk_alloc]; omega) hn hne).trans (Deep.blk_alloc_lt _ _ _ hb)
  have k5 : ∀ b, b < w2.heap.size → some b ≠ kv.ownBlock → w5.heap[b]? = w2.heap[b]? := fun b hb hn => (hgr5.block b (by rw [Deep.nblk_alloc]; omega) hn).trans (Deep.blk_alloc_lt _ _ _ hb)
  have q4 : Stk w2 (w.heap.size + 1) (addL args (t.kids.take k) cs).2 kv := by
    obtain ⟨ys, hy⟩ := h.graph.row
    refine ⟨h.kids.1, ?_⟩
    rcases h.kids.2 with h' | ⟨g, cap, cur, rfl, hg, hh, r⟩
    · exact Or.inl h'
    · exact Or.inr ⟨g, cap, cur, rfl, hg, (k2 g (Array.getElem?_eq_some_iff.1 hh).1 (fun e => own_ne hy h.kids g e rfl) (by omega)).trans hh, r⟩
  have e1 : addL args (t.kids.take (k + 1)) cs = _ := addL_take_succ args t.kids cs k hk
  have hkA : some A ≠ kv.ownBlock := fun e => by have := (hkv _ e).1; omega
  refine ⟨?_, ?_, ?_, ?_, ⟨?_, ?_, ?_, ?_, ?_⟩, ?_, ?_⟩
  · rw [e1]
    refine hg.next2 (fun b hb hb2 => ?_) (fun b e hb => ?_) (fun b C hS hb _ => ?_)
    · refine ⟨?_, fun e => ?_⟩
      · rcases hb with hb | hb
        · exact hb.1
        · exact Or.inr (by omega)
      · rcases hw5 with e5 | ⟨g, e5, hg5⟩
        · rw [e5] at e
          rcases hb with hb | hb
          · exact hb.2 e
          · have := (hkv b e).2; omega
        · rw [e5] at e
          simp only [Option.some.injEq] at e
          omega
    · obtain ⟨ys, hy⟩ := hg.row
      exact k5 b hb (own_ne hy q4 b e)
    · rcases hS with hS | hS
      · exact k5 b hb hS.2
      · exact k5 b hb (fun e => by have := (hkv b e).2; omega)
  · rw [k5 A (by omega) hkA]; exact hA2
  · rw [e1]; exact hst
  · rw [k5 _ (by omega) (fun e => by have := (hkv _ e).1; omega), k2 _ (by omega) (fun e => by rcases h.gown _ e with e | e; have := hg0 _ e.symm; omega; omega) (by omega)]
    exact h.ebx
  · rw [hgr5.os]; exact hgr.os.trans h.kept.os
  · rw [hgr5.tape]; exact hgr.tape.trans h.kept.tape
  · rw [hgr5.output]; exact hgr.output.trans h.kept.output
  · omega
  · intro b hb hn hne
    rw [k5 b (by omega) (fun e => by have := (hkv _ e).1; omega), k2 b (by omega) (fun e => by rcases h.gown _ e with e | e; exact hn e; omega) hne]
    exact h.kept.block b hb hn hne
  · omega
  · rcases how with e | ⟨g, e, hg⟩
    · rw [e]; exact h.own
    · exact Or.inr ⟨g, e, by omega⟩
/-- behind all operands: the cell -/
theorem fd_end {args : List Nat} {t : Tr} {cs : List Ce} {lo A : Nat} {S : Nat → Prop} {gv0 ebox : Value} {w : World} {gv kv : Value} {wr : World} (h : FdRel args t cs lo S A gv0 ebox w t.kids.length gv kv wr) (h1 : ¬ t.op = 1) (hg0 : ∀ b, gv0.ownBlock = some b → b < w.heap.size) (hA : A < w.heap.size) (ho : I64 t.op) (hn : I64 t.num) {xs : List Value}
    (hx : wr.ownsRow lo 58 3 gv (addL args t.kids cs).1.length xs) {e : Ending} {w' : World} (hr : CloRes A lo (addL args t.kids cs).1.length t.op t.num gv kv xs wr e w') : FdRes (addT args t cs) lo S gv0 A w e w' := by
  obtain ⟨ob, v', w5, rfl, hown, hg, hw, rfl⟩ := hr
  have hs := h.size
  have hG := h.graph
  have hK := h.kids
  rw [List.take_length] at hG hK
  have hz : ∀ o1 o2, ((((wr.alloc ob).alloc o1).alloc o2)).heap.size = wr.heap.size + 3 := fun o1 o2 => by rw [Deep.nblk_alloc, Deep.nblk_alloc, Deep.nblk_alloc]
  have hs5 := hg.size
  rw [hz] at hs5 hw
  have hkeep : ∀ o1 o2 b, b < wr.heap.size → (((wr.alloc ob).alloc o1).alloc o2).heap[b]? = wr.heap[b]? := fun o1 o2 b hb => (Deep.blk_alloc_lt _ _ _ (by rw [Deep.nblk_alloc, Deep.nblk_alloc]; omega)).trans ((Deep.blk_alloc_lt _ _ _ (by rw [Deep.nblk_alloc]; omega)).trans (Deep.blk_alloc_lt _ _ _ hb))
  have hG4 : OwnC (((wr.alloc ob).alloc (.cells #[.int .i64 t.op, .int .i64 t.num, kv] 58)).alloc (.cells #[.int .i64 t.op, .int .i64 t.num, kv] 58)) lo (SF w S kv) (addL args t.kids cs).1 gv := hG.next (fun _ h _ => h) (fun b _ hb => hkeep _ _ b hb) (fun b _ hb => hkeep _ _ b hb)
  obtain ⟨blk, hb1, hb2, hb3⟩ : ∃ blk, w.heap.size ≤ blk ∧ ¬ SF w S kv blk ∧ KRowS (((wr.alloc ob).alloc (.cells #[.int .i64 t.op, .int .i64 t.num, kv] 58)).alloc (.cells #[.int .i64 t.op, .int .i64 t.num, kv] 58)) (fun b => b = blk) ((addL args t.kids cs).2.map fun (a : Nat) => (a : Int)) blk kv := by
    obtain ⟨blk, h1, h2⟩ := stk_krow (((hK.alloc ob).alloc (.cells #[.int .i64 t.op, .int .i64 t.num, kv] 58)).alloc (.cells #[.int .i64 t.op, .int .i64 t.num, kv] 58))
    by_cases he : (addL args t.kids cs).2 = []
    · refine ⟨w.heap.size, Nat.le_refl _, fun h => by rcases h.1 with h | h <;> omega, ?_⟩
      obtain ⟨ad, cap, e, l1, l2, -⟩ := h2
      exact ⟨ad, cap, e, l1, l2, Or.inl (by rw [he]; rfl)⟩
    · exact ⟨blk, by have := (own_some hK blk (h1 he)).1; omega, fun h => h.2 (h1 he).symm, h2⟩
  have hx4 := own_keep hx (w' := ((wr.alloc ob).alloc (.cells #[.int .i64 t.op, .int .i64 t.num, kv] 58)).alloc (.cells #[.int .i64 t.op, .int .i64 t.num, kv] 58)) (fun b _ hb => hkeep _ _ b hb)
  have hst := hG4.step (c := ⟨t.op, t.num, (addL args t.kids cs).2.map fun (a : Nat) => (a : Int)⟩) (v' := v') ⟨ho, hn⟩ hb3 hb2 xs hx4 hown hg
  have hAg : some A ≠ gv.ownBlock := cells_ne_arena h.arena hx
  have hA5 : w5.heap[A]? = some (.cells #[gv] 66) := ((hg.block A (by rw [hz]; omega) hAg).trans (hkeep _ _ A (by omega))).trans h.arena
  have hAv : some A ≠ v'.ownBlock := cells_ne_arena hA5 hown
  rw [addT_other cs h1]
  refine ⟨v', rfl, hst.next2 (fun b hb _ => ?_) (fun b e hb => Below.heap_setCell _ _ _ _ (fun e2 => hAv (by have e3 : b = A := e2; rw [← e3]; exact e))) (fun b C hS hb hC => Below.heap_setCell _ _ _ _ (fun e2 => ?_)), ?_, ⟨?_, ?_, ?_, ?_, ?_⟩, ?_⟩
  · rcases hb with hb | rfl
    · rcases hb.1 with hb | hb
      · exact Or.inl hb.1
      · exact Or.inr (by omega)
    · exact Or.inr hb1
  · have e3 : b = A := e2
    subst e3
    rw [hA5] at hC
    simp at hC
  · simp [World.setCell, Array.getElem?_modify, hA5]
  · show w5.os = w.os
    rw [hg.os]; exact h.kept.os
  · show w5.tape = w.tape
    rw [hg.tape]; exact h.kept.tape
  · show w5.output = w.output
    rw [hg.output]; exact h.kept.output
  · rw [size_setCell]; omega
  · intro b hb hn hne
    rw [Below.heap_setCell _ _ _ _ hne, hg.block b (by rw [hz]; omega) (fun e => by rcases h.gown _ e with e | e; exact hn e; omega), hkeep _ _ b (by omega)]
    exact h.kept.block b hb hn hne
  · rcases hw with e | ⟨g, e, hg⟩
    · rw [e]
      rcases h.own with e | ⟨g, e, hg⟩
      · exact Or.inl e
      · exact Or.inr ⟨g, e, by omega⟩
    · exact Or.inr ⟨g, e, by omega⟩

theorem own_not {w : World} {lo n b : Nat} {v : Value} {xs : List Value} {C : Array Value} {T : TypeId} (hx : w.ownsRow lo 58 3 v n xs) (hb : w.heap[b]? = some (.cells C T)) (hT : ¬ 58 = T) : some b ≠ v.ownBlock := by
  intro e
  rcases hx.2 with ⟨rfl, -⟩ | ⟨g, cap, cur, rfl, -, hh, -⟩
  · simp [Value.ownBlock] at e
  · simp only [Value.ownBlock, Option.some.injEq] at e
    subst e
    rw [hh] at hb
    simp at hb
    exact hT hb.2
theorem fd_stk {args : List Nat} {t : Tr} {cs : List Ce} {lo A : Nat} {S : Nat → Prop} {gv0 ebox : Value} {w : World} {k : Nat} {gv kv : Value} {wr : World} (h : FdRel args t cs lo S A gv0 ebox w k gv kv wr) (hA : A < w.heap.size) (o1 : Obj) {w2 : World} (hgr : Kept (wr.alloc o1) w2 A gv.ownBlock) : Stk w2 (w.heap.size + 1) (addL args (t.kids.take k) cs).2 kv := by
  obtain ⟨ys, hy⟩ := h.graph.row
  refine ⟨h.kids.1, ?_⟩
  rcases h.kids.2 with h' | ⟨g, cap, cur, rfl, hg, hh, r⟩
  · exact Or.inl h'
  · have hl := (Array.getElem?_eq_some_iff.1 hh).1
    exact Or.inr ⟨g, cap, cur, rfl, hg, ((hgr.block g (by rw [Deep.nblk_alloc]; omega) (fun e => own_ne hy h.kids g e rfl) (by omega)).trans (Deep.blk_alloc_lt _ _ _ hl)).trans hh, r⟩
/-- the closure, at a variable -/
def CloVar (a : Nat) (w : World) (e : Ending) (w' : World) : Prop := e = .returned (.int .i64 (a : Int)) ∧ Below w.heap.size w w'
set_option maxRecDepth 100000 in
set_option maxHeartbeats 1600000 in
theorem clo_var (args : List Nat) (n xb ab : Nat) (T : Nat → Prop) (c kv av : Value) (w : World) (hn : n < args.length) (hxb : w.heap[xb]? = some (.cells #[av] 47)) (ha : IntsOn w T (args.map fun (a : Nat) => (a : Int)) av) (hal : args.length ≤ 1048576) :
    Calls Tryz.prog 96 #[.agg #[.int .i64 1, .int .i64 (n : Int), c], kv, .pointer (some ⟨xb, 0, none⟩), .pointer (some ⟨ab, 0, none⟩)] w (CloVar args[n] w) := by
  obtain ⟨ada, capa, rfl, hl2, hm2, -⟩ := id ha
  unfold maxLen at hm2
  obtain ⟨bl, off, rfl, hbl, d0⟩ := IntsOn.atS ha n (by simpa using hn)
  simp only [List.getElem_map] at d0
  have d1 := old_cell d0 (.cells #[.int .i64 1, .int .i64 (n : Int), c] 54)
  have p0 := old_cell (cell_of_blk hxb 0 _ rfl) (.cells #[.int .i64 1, .int .i64 (n : Int), c] 54)
  rw [List.length_map] at *
  clear hxb ha hbl d0
  go_enter Tryz.func96, Tryz.ntmps96
  go_wp2_with fail
  go_ret
  exact ⟨rfl, box_below _ _⟩
theorem fd_var {args : List Nat} {t : Tr} {cs : List Ce} {lo A : Nat} {S : Nat → Prop} {gv0 ebox : Value} {w : World} {gv kv : Value} {wr : World} (h : FdRel args t cs lo S A gv0 ebox w t.kids.length gv kv wr) (h1 : t.op = 1) (hk : t.kids = []) {n : Nat} (hnn : t.num = n) (hn : n < args.length) {e : Ending} {w' : World} (hr : CloVar args[n] wr e w') : FdRes (addT args t cs) lo S gv0 A w e w' := by
  obtain ⟨rfl, hb⟩ := hr
  have hs := h.size
  have hG := h.graph
  rw [List.take_length, hk] at hG
  simp only [addL] at hG
  rw [addT_var cs h1, hnn]
  have e1 : args.getD (n : Int).toNat 0 = args[n] := by simp [hn]
  rw [e1]
  have hAl := (Array.getElem?_eq_some_iff.1 h.arena).1
  refine ⟨gv, rfl, hG.next (fun b hb _ => ?_) (fun b _ hb' => hb.block b hb') (fun b _ hb' => hb.block b hb'), (hb.block A hAl).trans h.arena, ⟨hb.os.trans h.kept.os, hb.tape.trans h.kept.tape, hb.output.trans h.kept.output, by have := hb.size; omega, fun b hb' hn' hne => (hb.block b (by omega)).trans (h.kept.block b hb' hn' hne)⟩, ?_⟩
  · rcases hb.1 with hb | hb
    · exact Or.inl hb.1
    · exact Or.inr (by omega)
  · rcases h.own with e | ⟨g, e, hg⟩
    · exact Or.inl e
    · exact Or.inr ⟨g, e, by omega⟩

set_option maxRecDepth 100000 in
set_option maxHeartbeats 1600000 in
theorem fd_step (args : List Nat) (av : Value) (t : Tr) (ih : ∀ i (hi : i < t.kids.length), FdSaid args av (t.kids[i])) : FdSaid args av t := by
  intro gv c lo A xb ab S T cs w hg hA hxb hab hlo hT ha hk hz hal ho hn hp
  have HFT : Hid (Free T w A gv) := hT
  have HI : Hid (∀ i (hi : i < t.kids.length), FdSaid args av (t.kids[i])) := ih
  have HG : Hid (OwnC w lo S cs gv) := hg
  have HA : Hid (IntsOn w T (args.map fun (a : Nat) => (a : Int)) av) := ha
  have HK : Hid (KidsOn w T t.kids c) := hk
  have HT : Hid (I64 t.op ∧ I64 t.num) := ⟨ho, hn⟩
  have HPT : Hid (AllT (VarOk args.length) t) := hp
  have HG0 : Hid (∀ b, gv.ownBlock = some b → b < w.heap.size) := fun b hb => by obtain ⟨ys, hy⟩ := hg.row; exact (own_some hy b hb).2
  have HBX : Hid (w.heap[A]? = some (.cells #[gv] 66) ∧ w.heap[xb]? = some (.cells #[av] 47) ∧ w.heap[ab]? = some (.cells #[.pointer (some ⟨A, 0, none⟩)] 61)) := ⟨hA, hxb, hab⟩
  have hAl : A < w.heap.size := (Array.getElem?_eq_some_iff.1 hA).1
  have HGO : Hid (∀ b, some b = gv.ownBlock → lo ≤ b) := fun b hb => by obtain ⟨ys, hy⟩ := hg.row; exact (own_some hy b hb.symm).1
  have HXB : Hid (xb < w.heap.size ∧ some xb ≠ gv.ownBlock ∧ xb ≠ A) := by
    obtain ⟨ys, hy⟩ := hg.row
    refine ⟨(Array.getElem?_eq_some_iff.1 hxb).1, own_not hy hxb (by decide), fun e => ?_⟩
    rw [e, hA] at hxb
    simp at hxb
  have HAB : Hid (ab < w.heap.size ∧ some ab ≠ gv.ownBlock ∧ ab ≠ A) := by
    obtain ⟨ys, hy⟩ := hg.row
    refine ⟨(Array.getElem?_eq_some_iff.1 hab).1, own_not hy hab (by decide), fun e => ?_⟩
    rw [e, hA] at hab
    simp at hab
  obtain ⟨ad, cap, rfl, hl, hm, -⟩ := hk
  unfold maxLen at hm
  clear ih hg ho hn hp hA hxb hab ha
  go_enter Tryz.func95, Tryz.ntmps95
  obtain ⟨wC, hwC⟩ : ∃ wC : World, wC = w.alloc (.cells #[.int .i64 t.op, .int .i64 t.num, .slice ad t.kids.length cap] 54) := ⟨_, rfl⟩
  have HWC : Hid (wC = w.alloc (.cells #[.int .i64 t.op, .int .i64 t.num, .slice ad t.kids.length cap] 54)) := hwC
  have HST : Hid (FdRel args t cs lo S A gv (.slice ad t.kids.length cap) w 0 gv (.slice none 0 0) wC) := by
    have hz2 : wC.heap.size = w.heap.size + 1 := by rw [hwC, Deep.nblk_alloc]
    have hbl : ∀ b, b < w.heap.size → wC.heap[b]? = w.heap[b]? := fun b hb => by rw [hwC, Deep.blk_alloc_lt _ _ _ hb]
    refine ⟨?_, (hbl A hAl).trans HBX.out.1, ?_, by rw [hwC]; exact Deep.blk_alloc_new _ _, ⟨by rw [hwC]; rfl, by rw [hwC]; rfl, by rw [hwC]; rfl, by omega, fun b hb _ _ => hbl b hb⟩, by omega, Or.inl rfl⟩
    · simp only [List.take_zero, addL]
      exact HG.out.next (fun b hb hb2 => ⟨Or.inl ⟨hb, hb2⟩, by simp [Value.ownBlock]⟩) (fun b _ hb => hbl b hb) (fun b _ hb => hbl b hb)
    · simp only [List.take_zero, addL]
      exact World.ownsRow_nil _ _ _ _
  clear hwC
  go_wp2_with fail
  rw [← HWC.out]
  go_loopw [5, 11] (fun kv i wr => ∃ (k : Nat) (gvk : Value), k ≤ t.kids.length ∧ i = .int .i64 k ∧ FdRel args t cs lo S A gv (.slice ad t.kids.length cap) w k gvk kv wr) (fun _ i _ => t.kids.length - (intOf i).toNat)
  case atStart => exact ⟨0, _, Nat.zero_le _, rfl, HST.out⟩
  case round =>
    obtain ⟨k, gvk, hk, rfl, hrd⟩ := hrel
    have HRD : Hid (FdRel args t cs lo S A gv (.slice ad t.kids.length cap) w k gvk u5 wr) := hrd
    have hsz := hrd.size
    have HOLD : Hid (∀ b, T b → wr.heap[b]? = w.heap[b]?) := fun b hb => hrd.kept.block b (HFT.out b hb).1 (HFT.out b hb).2.1 (HFT.out b hb).2.2
    obtain ⟨adq, capq, rfl⟩ := hrd.kids.len
    have HX2 : Hid (wr.heap[xb]? = some (.cells #[av] 47)) := (hrd.kept.block xb HXB.out.1 HXB.out.2.1 HXB.out.2.2).trans HBX.out.2.1
    have HA2 : Hid (wr.heap[ab]? = some (.cells #[.pointer (some ⟨A, 0, none⟩)] 61)) := (hrd.kept.block ab HAB.out.1 HAB.out.2.1 HAB.out.2.2).trans HBX.out.2.2
    by_cases hlt : k < t.kids.length
    · have hkk := HK.out.mono (fun _ h => h) HOLD.out
      obtain ⟨adx, capx, hxe, -, -, hr⟩ := hkk
      cases hxe
      rcases hr with hnil | ⟨bl, off, rfl, hbl, hr⟩
      · rw [hnil] at hlt; simp at hlt
      obtain ⟨p, q, r, e0, e1, e2, ht⟩ := RowOn.at t.kids off k hlt hr
      obtain ⟨rfl, rfl, io, iN, hkc⟩ := trOn_iff.1 ht
      obtain ⟨adk, capk, rfl, -, -, -⟩ := id hkc
      have HKC : Hid (KidsOn wr T (t.kids[k]).kids (.slice adk (t.kids[k]).kids.length capk)) := hkc
      have HIO : Hid (I64 (t.kids[k]).op ∧ I64 (t.kids[k]).num) := ⟨io, iN⟩
      have HSZ : Hid (szL (t.kids.take k) + 1 + szT t.kids[k] ≤ szT t) := by
        have h1 := szL_take_succ t.kids k hlt
        have h2 := szL_take_le t.kids (k + 1)
        rw [Hid, szT_eq t]; omega
      have HSL := addL_size args (t.kids.take k) cs
      have hal1 : ∀ b, b < wr.heap.size → (wr.alloc (.cells #[.int .i64 t.kids[k].op, .int .i64 t.kids[k].num, .slice adk (t.kids[k]).kids.length capk] 54)).heap[b]? = wr.heap[b]? := fun b hb => Deep.blk_alloc_lt _ _ _ hb
      have hc1 : FdSaid args av t.kids[k] := HI.out k hlt
      have hc2 : OwnC (wr.alloc (.cells #[.int .i64 t.kids[k].op, .int .i64 t.kids[k].num, .slice adk (t.kids[k]).kids.length capk] 54)) lo (SF w S (.slice adq (addL args (t.kids.take k) cs).2.length capq)) (addL args (t.kids.take k) cs).1 gvk := HRD.out.graph.next (fun _ h _ => h) (fun b _ hb => hal1 b hb) (fun b _ hb => hal1 b hb)
      have hc3 : IntsOn (wr.alloc (.cells #[.int .i64 t.kids[k].op, .int .i64 t.kids[k].num, .slice adk (t.kids[k]).kids.length capk] 54)) T (args.map fun (a : Nat) => (a : Int)) av := HA.out.mono (fun _ h => h) (fun b hb => (hal1 b (by have := (HFT.out b hb).1; omega)).trans (HOLD.out b hb))
      have hc4 : (addL args (t.kids.take k) cs).1.length + szT t.kids[k] ≤ 500000 := by have := HSZ.out; have := HSL.2.1; omega
      have hc5 : KidsOn (wr.alloc (.cells #[.int .i64 t.kids[k].op, .int .i64 t.kids[k].num, .slice adk (t.kids[k]).kids.length capk] 54)) T (t.kids[k]).kids (.slice adk (t.kids[k]).kids.length capk) := HKC.out.mono (fun _ h => h) (fun b hb => hal1 b (by have := (HFT.out b hb).1; omega))
      have hc7 : Free T (wr.alloc (.cells #[.int .i64 t.kids[k].op, .int .i64 t.kids[k].num, .slice adk (t.kids[k]).kids.length capk] 54)) A gvk := fun b hb => by
        have h3 := HFT.out b hb
        refine ⟨by rw [Deep.nblk_alloc]; omega, fun e => ?_, h3.2.2⟩
        rcases HRD.out.gown b e with e | e
        · exact h3.2.1 e
        · omega
      have hc6 : lo ≤ (wr.alloc (.cells #[.int .i64 t.kids[k].op, .int .i64 t.kids[k].num, .slice adk (t.kids[k]).kids.length capk] 54)).heap.size := by rw [Deep.nblk_alloc]; omega
      have HCALL := hc1 gvk _ lo A xb ab _ T _ _ hc2 ((hal1 A (by omega)).trans HRD.out.arena) ((hal1 xb (by have := HXB.out.1; omega)).trans HX2.out) ((hal1 ab (by have := HAB.out.1; omega)).trans HA2.out) hc6 hc7 hc3 hc5 hc4 hal HIO.out.1 HIO.out.2 (HPT.out.kid k hlt)
      have HCALL := mkHid HCALL
      clear hc1 hc2 hc3 hc4 hc5 hc6 hc7
      go_wp2_with fail
      refine HCALL.out.mono ?_
      rintro e w2 ⟨gv', rfl, hg2, hA2, hgr2, how2⟩
      obtain ⟨nk, hnk⟩ : ∃ nk, nk = (addT args t.kids[k] (addL args (t.kids.take k) cs).1).2 := ⟨_, rfl⟩
      have HNK : Hid (nk = (addT args t.kids[k] (addL args (t.kids.take k) cs).1).2) := hnk
      have HG2 : Hid (OwnC w2 lo (fun b => SF w S (.slice adq (addL args (t.kids.take k) cs).2.length capq) b ∨ (wr.alloc (.cells #[.int .i64 t.kids[k].op, .int .i64 t.kids[k].num, .slice adk (t.kids[k]).kids.length capk] 54)).heap.size ≤ b) (addT args t.kids[k] (addL args (t.kids.take k) cs).1).1 gv') := hg2
      have HGR2 : Hid (Kept (wr.alloc (.cells #[.int .i64 t.kids[k].op, .int .i64 t.kids[k].num, .slice adk (t.kids[k]).kids.length capk] 54)) w2 A gvk.ownBlock) := hgr2
      have HAA2 : Hid (w2.heap[A]? = some (.cells #[gv'] 66)) := hA2
      have HOW2 : Hid (gv'.ownBlock = gvk.ownBlock ∨ ∃ g, gv'.ownBlock = some g ∧ (wr.alloc (.cells #[.int .i64 t.kids[k].op, .int .i64 t.kids[k].num, .slice adk (t.kids[k]).kids.length capk] 54)).heap.size ≤ g) := how2
      have HST2 : Hid (Stk (w2.alloc (.cells #[.int .i64 (nk : Int)] 3)) (w.heap.size + 1) (addL args (t.kids.take k) cs).2 (.slice adq (addL args (t.kids.take k) cs).2.length capq)) := (fd_stk HRD.out hAl _ hgr2).alloc _
      have HZ2 : Hid (w.heap.size + 1 ≤ w2.heap.size) := by have := hgr2.size; rw [Deep.nblk_alloc] at this; rw [Hid]; omega
      have HNB : Hid ((addL args (t.kids.take k) cs).2.length = k) := by rw [Hid, addL_length, List.length_take]; omega
      obtain ⟨iI, zI, hII⟩ := infoI1
      have HII : Hid (Tryz.prog.info? 3 = some iI ∧ iI.zero = some zI ∧ iI.size = 1 ∧ iI.bytes = 8 ∧ zI.cells.size = 1) := hII
      have hkm : k < 1048576 := by
        have h := HSZ.out
        rw [szL_sum, List.length_take] at h
        omega
      rw [← hnk]
      clear hII hg2 hgr2 how2 hA2 hnk hal1
      go_wp2_with (at_builtin; go_must (refine wpList_append_where _ rfl _ _ 47 rfl (w.heap.size + 1) 3 iI zI 1 8 Tryz.underlying47 HII.out.1 HII.out.2.1 HII.out.2.2.1 HII.out.2.2.2.1 HII.out.2.2.2.2 (by decide) (.slice adq (addL args (t.kids.take k) cs).2.length capq) (addL args (t.kids.take k) cs).2.length (plV (addL args (t.kids.take k) cs).2) rfl HST2.out ⟨w2.heap.size, 0, none⟩ 1 1 [.int .i64 (nk : Int)] rfl rfl (news1 w2 _) (by simp [Value.oneCell']) (by rw [HNB.out]; unfold maxLen; omega) (by rw [HNB.out]; omega) (by rw [Deep.nblk_alloc]; have := HZ2.out; omega) (by omega) ?_); go_must (intro v' w5 hown hgr5 hw5); go_must (have HST5 : Hid (Stk w5 (w.heap.size + 1) ((addL args (t.kids.take k) cs).2 ++ [nk]) v') := stk_snoc hown); go_must (have HGR5 : Hid ((w2.alloc (.cells #[.int .i64 (nk : Int)] 3)).grownBy w5 (Value.slice adq (addL args (t.kids.take k) cs).2.length capq).ownBlock) := hgr5); go_must (have HW5 : Hid (v'.ownBlock = (Value.slice adq (addL args (t.kids.take k) cs).2.length capq).ownBlock ∨ ∃ g, v'.ownBlock = some g ∧ (w2.alloc (.cells #[.int .i64 (nk : Int)] 3)).heap.size ≤ g) := hw5); clear hown hgr5 hw5)
      go_roundw
      case rel => exact ⟨k + 1, gv', by omega, by go_num, fd_push HRD.out hlt HG0.out hAl _ HG2.out HAA2.out HGR2.out HOW2.out _ (by rw [← HNK.out]; exact HST5.out) HGR5.out HW5.out⟩
      case measure => simp [intOf]; omega
    · have hke : k = t.kids.length := by omega
      subst hke
      have heb := hrd.ebx
      have o0 := cell_of_blk heb 0 _ rfl
      have o1 := cell_of_blk heb 1 _ rfl
      have o2 := cell_of_blk heb 2 _ rfl
      have htk : t.kids.take t.kids.length = t.kids := List.take_length
      have HRD2 : Hid (FdRel args t cs lo S A gv (.slice ad t.kids.length cap) w t.kids.length gvk (.slice adq (addL args t.kids cs).2.length capq) wr) := by
        have h := HRD.out
        rw [htk] at h
        exact h
      rw [htk]
      clear heb hrd HRD
      by_cases h1 : t.op = 1
      · obtain ⟨p1, p2, p3⟩ := ((allT_iff _ t).1 HPT.out).1 h1
        obtain ⟨n, hnn⟩ : ∃ n : Nat, t.num = n := ⟨t.num.toNat, by omega⟩
        have hlt2 : n < args.length := by omega
        have hc := clo_var args n xb ab T (.slice ad t.kids.length cap) (.slice adq (addL args t.kids cs).2.length capq) av wr hlt2 HX2.out (HA.out.mono (fun _ h => h) HOLD.out) hal
        rw [← hnn, ← h1] at hc
        have HCALL := mkHid hc
        have HFV : Hid (∀ e w', CloVar args[n] wr e w' → FdRes (addT args t cs) lo S gv A w e w') := fun e w' h => fd_var HRD2.out h1 p3 hnn hlt2 h
        clear hc h1 p1 p2 p3 hnn
        go_wp2_with fail
        refine HCALL.out.mono ?_
        intro e w' hr
        have HR := HFV.out e w' hr
        obtain ⟨rfl, -⟩ := hr
        have HR := mkHid HR
        go_wp2_with fail
        go_ret
        exact HR.out
      · obtain ⟨xs, hx⟩ := HRD2.out.graph.row
        rw [htk] at hx
        have hgl : (addL args t.kids cs).1.length ≤ 500000 := by
          have h := (addL_size args t.kids cs).2.1
          rw [szT_eq t] at hz
          omega
        have hc := clo_add A lo (addL args t.kids cs).1.length xb ab t.op t.num (.slice ad t.kids.length cap) gvk adq (addL args t.kids cs).2.length capq xs wr h1 HRD2.out.arena HA2.out hx (by omega) hgl
        have HCALL := mkHid hc
        have HFV : Hid (∀ e w', CloRes A lo (addL args t.kids cs).1.length t.op t.num gvk (.slice adq (addL args t.kids cs).2.length capq) xs wr e w' → FdRes (addT args t cs) lo S gv A w e w') := fun e w' h => fd_end HRD2.out h1 HG0.out hAl HT.out.1 HT.out.2 hx h
        clear hc hx htk
        go_wp2_with fail
        refine HCALL.out.mono ?_
        intro e w' hr
        have HR := HFV.out e w' hr
        obtain ⟨ob, v', w5, rfl, -⟩ := hr
        have HR := mkHid HR
        go_wp2_with fail
        go_ret
        exact HR.out
theorem fd_calls (args : List Nat) (av : Value) : ∀ t : Tr, FdSaid args av t
  | .node op n ks => fd_step args av (.node op n ks) fun i hi => fd_calls args av _
termination_by t => szT t
decreasing_by
  simp only [szT, Tr.kids_node] at *
  exact szT_lt_szL ks i hi
end Go.Proofs.YtjpjikfmdaejeaaGreatDoor
/-
  THE PROGRAM's addExpr in an arena, and arenaOf at no graph.
-/
namespace Go.Proofs.YtjpjikfmdaejeaaGreatDoor
set_option linter.unusedVariables false
set_option linter.unusedSimpArgs false
open Go.RowKit

theorem OwnC.down {w : World} {lo lo' : Nat} {S S' : Nat → Prop} {g : List Ce} {v : Value} (h : OwnC w lo S g v) (hl : lo' ≤ lo) (hS : ∀ k, S k → S' k) : OwnC w lo' S' g v := by
  obtain ⟨hi0, xs, kb, h1, h2, h3⟩ := h.next (S' := S') (fun k hk _ => hS k hk) (fun _ _ _ => rfl) (fun _ _ _ => rfl)
  refine ⟨hi0, xs, kb, ⟨h1.1, ?_⟩, h2, h3⟩
  rcases h1.2 with h | ⟨b, cap, cur, rfl, hg, r⟩
  · exact Or.inl h
  · exact Or.inr ⟨b, cap, cur, rfl, Nat.le_trans hl hg, r⟩
theorem fdRes_down {r : List Ce × Nat} {lo A : Nat} {S : Nat → Prop} {gv : Value} {w W : World} {e : Ending} {w' : World} (h : FdRes r lo S gv A W e w') (hb : Below w.heap.size w W) : FdRes r lo S gv A w e w' := by
  obtain ⟨gv', h1, h2, h3, h4, h5⟩ := h
  have hs := hb.size
  refine ⟨gv', h1, h2.next (fun b hb _ => hb.imp id fun h => by omega) (fun _ _ _ => rfl) (fun _ _ _ => rfl), h3, ⟨h4.os.trans hb.os, h4.tape.trans hb.tape, h4.output.trans hb.output, Nat.le_trans hs h4.size, fun k hk hn hne => (h4.block k (by omega) hn hne).trans (hb.block k hk)⟩, ?_⟩
  rcases h5 with e | ⟨g, e, hg⟩
  · exact Or.inl e
  · exact Or.inr ⟨g, e, by omega⟩

set_option maxRecDepth 100000 in
set_option maxHeartbeats 1600000 in
theorem ax_callsT (args : List Nat) (t : Tr) (gv c : Value) (ada : Option Addr) (na ca : Nat) (lo A : Nat) (S T : Nat → Prop) (cs : List Ce) (w : World) (hg : OwnC w lo S cs gv) (hA : w.heap[A]? = some (.cells #[gv] 66))
    (hlo : lo ≤ w.heap.size) (hT : Free T w A gv) (ha : IntsOn w T (args.map fun (a : Nat) => (a : Int)) (.slice ada na ca)) (hk : KidsOn w T t.kids c) (hz : cs.length + szT t ≤ 500000) (hal : args.length ≤ 1048576) (ho : I64 t.op) (hn : I64 t.num) (hp : AllT (VarOk args.length) t) :
    Calls Tryz.prog 91 #[.pointer (some ⟨A, 0, none⟩), .agg #[.int .i64 t.op, .int .i64 t.num, c], .slice ada na ca] w (FdRes (addT args t cs) lo S gv A w) := by
  have hAl : A < w.heap.size := (Array.getElem?_eq_some_iff.1 hA).1
  have hkeep : ∀ o1 o2 o3 b, b < w.heap.size → (((w.alloc o1).alloc o2).alloc o3).heap[b]? = w.heap[b]? := fun o1 o2 o3 b hb => (Deep.blk_alloc_lt _ _ _ (by rw [Deep.nblk_alloc, Deep.nblk_alloc]; omega)).trans ((Deep.blk_alloc_lt _ _ _ (by rw [Deep.nblk_alloc]; omega)).trans (Deep.blk_alloc_lt _ _ _ hb))
  have hbw : Below w.heap.size w (((w.alloc (.cells #[.pointer (some ⟨A, 0, none⟩)] 61)).alloc (.cells #[.int .i64 t.op, .int .i64 t.num, c] 54)).alloc (.cells #[.slice ada na ca] 47)) := (((box_below w _).alloc (by rw [Deep.nblk_alloc]; omega) _).alloc (by rw [Deep.nblk_alloc, Deep.nblk_alloc]; omega) _)
  have hc := fd_calls args (.slice ada na ca) t gv c lo A (w.heap.size + 1 + 1) w.heap.size S T cs (((w.alloc (.cells #[.pointer (some ⟨A, 0, none⟩)] 61)).alloc (.cells #[.int .i64 t.op, .int .i64 t.num, c] 54)).alloc (.cells #[.slice ada na ca] 47))
    (hg.next (fun _ h _ => h) (fun b _ hb => hkeep _ _ _ b hb) (fun b _ hb => hkeep _ _ _ b hb)) ((hkeep _ _ _ A hAl).trans hA)
    (by have h := Deep.blk_alloc_new ((w.alloc (.cells #[.pointer (some ⟨A, 0, none⟩)] 61)).alloc (.cells #[.int .i64 t.op, .int .i64 t.num, c] 54)) (.cells #[.slice ada na ca] 47); rw [Deep.nblk_alloc, Deep.nblk_alloc] at h; exact h)
    ((Deep.blk_alloc_lt _ _ _ (by rw [Deep.nblk_alloc, Deep.nblk_alloc]; omega)).trans ((Deep.blk_alloc_lt _ _ _ (by rw [Deep.nblk_alloc]; omega)).trans (Deep.blk_alloc_new _ _)))
    (by rw [Deep.nblk_alloc, Deep.nblk_alloc, Deep.nblk_alloc]; omega) (fun b hb => ⟨by have := (hT b hb).1; rw [Deep.nblk_alloc, Deep.nblk_alloc, Deep.nblk_alloc]; omega, (hT b hb).2⟩) (ha.mono (fun _ h => h) (fun b hb => hkeep _ _ _ b (hT b hb).1)) (hk.mono (fun _ h => h) (fun b hb => hkeep _ _ _ b (hT b hb).1)) hz hal ho hn hp
  have HC := mkHid (hc.mono fun e w' h => fdRes_down h hbw)
  clear hc hbw hkeep hg hA ha hk hp ho hn
  go_enter Tryz.func91, Tryz.ntmps91
  go_wp2_with fail
  refine HC.out.mono ?_
  intro e w' hr
  have HR := hr
  obtain ⟨gv', rfl, -⟩ := hr
  have HR := mkHid HR
  go_wp2_with fail
  go_ret
  exact HR.out

theorem ax_calls (args : List Nat) (t : Tr) (gv c : Value) (ada : Option Addr) (na ca : Nat) (lo A : Nat) (S : Nat → Prop) (cs : List Ce) (w : World) (hg : OwnC w lo S cs gv) (hA : w.heap[A]? = some (.cells #[gv] 66))
    (hlo : lo ≤ w.heap.size) (hlA : lo ≤ A) (ha : IntsOn w (Lt lo) (args.map fun (a : Nat) => (a : Int)) (.slice ada na ca)) (hk : KidsOn w (Lt lo) t.kids c) (hz : cs.length + szT t ≤ 500000) (hal : args.length ≤ 1048576) (ho : I64 t.op) (hn : I64 t.num) (hp : AllT (VarOk args.length) t) :
    Calls Tryz.prog 91 #[.pointer (some ⟨A, 0, none⟩), .agg #[.int .i64 t.op, .int .i64 t.num, c], .slice ada na ca] w (FdRes (addT args t cs) lo S gv A w) :=
  ax_callsT args t gv c ada na ca lo A S (Lt lo) cs w hg hA hlo (fun b hb => ⟨Nat.lt_of_lt_of_le hb hlo, fun e => by obtain ⟨ys, hy⟩ := hg.row; have := (own_some hy b e.symm).1; have h2 : b < lo := hb; omega, fun e => by have h2 : b < lo := hb; omega⟩) ha hk hz hal ho hn hp

set_option maxRecDepth 100000 in
set_option maxHeartbeats 1600000 in
theorem arena0 (w : World) : Calls Tryz.prog 27 #[.slice none 0 0] w fun e w' => e = .returned (.pointer (some ⟨w.heap.size, 0, none⟩)) ∧ w' = w.alloc (.cells #[.slice none 0 0] 66) := by
  go_enter Tryz.func27, Tryz.ntmps27
  go_wp2_with fail
  go_loopw [10] (fun i wr => i = .int .i64 0 ∧ wr = w.alloc (.cells #[.slice none 0 0] 66)) (fun i _ => 0)
  case atStart => exact ⟨rfl, rfl⟩
  case round =>
    obtain ⟨rfl, rfl⟩ := hrel
    go_wp2_with fail
    go_ret
    exact ⟨rfl, rfl⟩

end Go.Proofs.YtjpjikfmdaejeaaGreatDoor
/-
  THE MODEL's l3Copy: a copy of a graph, in new memory.
-/
namespace Go.Proofs.YtjpjikfmdaejeaaGreatDoor
set_option linter.unusedVariables false
set_option linter.unusedSimpArgs false
open Go.RowKit

/-- a copy of a graph, in rows of its own from block w.heap.size on -/
def CopyRes (g : List Ce) (w : World) (e : Ending) (w' : World) : Prop := ∃ gv, e = .returned gv ∧ OwnC w' w.heap.size (fun b => w.heap.size ≤ b) g gv ∧ Below w.heap.size w w'

/-- an empty row of places -/
theorem stk_zero {w : World} {lo b : Nat} (h : w.heap[b]? = some (.cells #[] 3)) (hb : lo ≤ b) : Stk w lo [] (.slice (some ⟨b, 0, none⟩) 0 0) :=
  ⟨rfl, Or.inr ⟨b, 0, #[], rfl, hb, h, Nat.le_refl _, by simp [maxLen], rfl, rfl⟩⟩
/-- append of places, at a step of a region that draws -/
theorem step_push {ops : Array Oper} {o : Oper} {a : Act} {w : World} {K : Act → World → Prop} {Q : Exit → Act → World → Prop} {E : Prop} (hgd : o.guard = none) (s x : Operand)
    (ho : o.op = .call { callee := .builtin .append, args := #[s, x], argTypes := #[47, 47] })
    (lo : Nat) (ws news : List Nat) (v xv : Value) (hs : a.eval s = v) (hst : Stk w lo ws v) (hxe : a.eval x = xv) {xs : List Int} (hx : IIn w xs xv) (hxs : xs = news.map fun (a : Nat) => (a : Int)) (hlo : lo ≤ w.heap.size) (hb : ws.length + news.length ≤ 1048576)
    (h : ∀ v' w', Stk w' lo (ws ++ news) v' → w.grownBy w' v.ownBlock → K (a.put o.dst v') w') : if Region.wanted o (yielded ops a.tmps) = true then Oper.wp Tryz.prog o a w K Q else E := by
  have hw : Region.wanted o (yielded ops a.tmps) = true := by simp [Region.wanted, hgd]
  rw [if_pos hw]
  obtain ⟨v', w', hrun, h2, h3⟩ := run_push w lo ws news v xv o.type hst hx hxs hlo hb
  unfold Oper.wp
  simp [execOp, ho, resolve, invoke, builtin, hs, hxe, hrun, Result.andThen]
  exact h _ _ h2 h3
/-- one cell more, with operands in a new row -/
theorem copy_push {wr w1 w3 : World} {lo : Nat} {G : List Ce} {v v' kv : Value} {ws : List Nat} {o n : Int} (h : OwnC wr lo (fun b => lo ≤ b) G v) (hlo : lo ≤ wr.heap.size) (h1 : Below wr.heap.size wr w1) (hst : Stk w1 wr.heap.size ws kv) (obj : Obj) {xs : List Value}
    (hx : (w1.alloc obj).ownsRow lo 58 3 v G.length xs) (hown : w3.ownsRow lo 58 3 v' (G.length + 1) (xs ++ [.int .i64 o, .int .i64 n, kv])) (hg : (w1.alloc obj).grownBy w3 v.ownBlock) (ho : I64 o) (hn : I64 n) :
    OwnC w3 lo (fun b => lo ≤ b) (G ++ [⟨o, n, ws.map fun (a : Nat) => (a : Int)⟩]) v' := by
  have hs1 := h1.size
  obtain ⟨ys, hy⟩ := h.row
  have h4 : OwnC (w1.alloc obj) lo (fun b => lo ≤ b ∧ b < wr.heap.size) G v := h.next (fun b hb hb2 => ⟨hb, hb2⟩) (fun b _ hb => (Deep.blk_alloc_lt _ _ _ (by omega)).trans (h1.block b hb)) (fun b _ hb => (Deep.blk_alloc_lt _ _ _ (by omega)).trans (h1.block b hb))
  obtain ⟨blk, hb1, hb3⟩ : ∃ blk, wr.heap.size ≤ blk ∧ KRowS (w1.alloc obj) (fun b => b = blk) (ws.map fun (a : Nat) => (a : Int)) blk kv := by
    obtain ⟨blk, h1, h2⟩ := stk_krow (hst.alloc obj)
    by_cases he : ws = []
    · obtain ⟨ad, cap, e, l1, l2, -⟩ := h2
      exact ⟨wr.heap.size, Nat.le_refl _, ad, cap, e, l1, l2, Or.inl (by rw [he]; rfl)⟩
    · exact ⟨blk, (own_some hst blk (h1 he)).1, h2⟩
  have h5 := h4.step (c := ⟨o, n, ws.map fun (a : Nat) => (a : Int)⟩) (v' := v') ⟨ho, hn⟩ hb3 (fun h => by have := h.2; omega) xs hx hown hg
  refine h5.next (fun b hb _ => ?_) (fun _ _ _ => rfl) (fun _ _ _ => rfl)
  rcases hb with hb | rfl
  · exact hb.1
  · omega

theorem copy_below {wr w1 : World} {o : Obj} (h : (wr.alloc o).drew.grownBy w1 (Value.slice (some ⟨wr.heap.size, 0, none⟩) 0 0).ownBlock) : Below wr.heap.size wr w1 :=
  ⟨h.os, h.tape, h.output, by have h1 : (wr.alloc o).heap.size ≤ w1.heap.size := h.size; rw [Deep.nblk_alloc] at h1; omega, fun k hk => (h.block k (by show k < (wr.alloc o).heap.size; rw [Deep.nblk_alloc]; omega) (by simp only [Value.ownBlock, ne_eq, Option.some.injEq]; omega)).trans (Deep.blk_alloc_lt _ _ _ hk)⟩
theorem stk_len2 {w : World} {lo n : Nat} {ws : List Nat} {v : Value} (h : Stk w lo ([] ++ ws) v) (hn : ws.length = n) : ∃ ad cap, v = .slice ad n cap := by
  obtain ⟨a, c, e⟩ := h.len
  exact ⟨a, c, by rw [e, List.nil_append, hn]⟩
theorem copy_own {wr w1 : World} {lo n : Nat} {v : Value} {xs : List Value} (h : wr.ownsRow lo 58 3 v n xs) (hb : Below wr.heap.size wr w1) (o : Obj) : (w1.alloc o).ownsRow lo 58 3 v n xs := by
  refine ⟨h.1, ?_⟩
  have hs := hb.size
  rcases h.2 with h' | ⟨g, cap, cur, rfl, hg, hh, r⟩
  · exact Or.inl h'
  · have hl := (Array.getElem?_eq_some_iff.1 hh).1
    exact Or.inr ⟨g, cap, cur, rfl, hg, ((Deep.blk_alloc_lt _ _ _ (by omega)).trans (hb.block g hl)).trans hh, r⟩

theorem copy_below3 {w wr w1 w3 : World} {n : Nat} {v : Value} {xs : List Value} {o : Obj} (hb : Below w.heap.size w wr) (h1 : Below wr.heap.size wr w1) (hx : wr.ownsRow w.heap.size 58 3 v n xs) (hg : (w1.alloc o).grownBy w3 v.ownBlock) : Below w.heap.size w w3 := by
  have hs := hb.size
  have hs1 := h1.size
  have hs3 := hg.size
  rw [Deep.nblk_alloc] at hs3
  exact ⟨(hg.os.trans h1.os).trans hb.os, (hg.tape.trans h1.tape).trans hb.tape, (hg.output.trans h1.output).trans hb.output, by omega, fun k hk => (((hg.block k (by rw [Deep.nblk_alloc]; omega) (fun e => by have := (own_some hx k e.symm).1; omega)).trans (Deep.blk_alloc_lt _ _ _ (by omega))).trans (h1.block k (by omega))).trans (hb.block k hk)⟩

set_option maxRecDepth 100000 in
set_option maxHeartbeats 1600000 in
theorem l3Copy_calls (g : List Ce) (v : Value) (w : World) (hk : CIn w g v) (hg : ∃ defs, graphB g defs = true) : Calls Tryz.prog 22 #[v] w (CopyRes g w) := by
  have HK : Hid (CIn w g v) := hk
  obtain ⟨defs, hg⟩ := hg
  have HG : Hid (graphB g defs = true) := hg
  obtain ⟨ad, cap, rfl, hl, hm, -⟩ := hk
  unfold maxLen at hm
  have h400 : g.length ≤ 400 := graphB_len hg
  clear hg
  go_enter Tryz.func22, Tryz.ntmps22
  go_wp2_with fail
  have HST : Hid (OwnC (w.alloc (.cells #[] 58)) w.heap.size (fun b => w.heap.size ≤ b) (g.take 0) (.slice (some ⟨w.heap.size, 0, none⟩) 0 0)) :=
    ⟨fun i h => absurd h (by simp), [], fun _ => 0, ⟨rfl, Or.inr ⟨w.heap.size, 0, #[], rfl, Nat.le_refl _, Deep.blk_alloc_new _ _, Nat.le_refl _, by simp [maxLen], rfl, rfl⟩⟩, fun j hj => absurd hj (by simp), fun i j hi _ => absurd hi (by simp)⟩
  go_loopw [3, 4] (fun out i wr => ∃ k : Nat, k ≤ g.length ∧ i = .int .i64 k ∧ OwnC wr w.heap.size (fun b => w.heap.size ≤ b) (g.take k) out ∧ Below w.heap.size w wr) (fun _ i _ => g.length - (intOf i).toNat)
  case atStart => exact ⟨0, Nat.zero_le _, rfl, HST.out, box_below _ _⟩
  case round =>
    obtain ⟨k, hk, rfl, hown, hb⟩ := hrel
    have HO : Hid (OwnC wr w.heap.size (fun b => w.heap.size ≤ b) (g.take k) u3) := hown
    have HB : Hid (Below w.heap.size w wr) := hb
    have hsz := hb.size
    by_cases hlt : k < g.length
    · obtain ⟨bl, off, r2, rfl, c0w, c1w, c2w, io, iN, hkk⟩ := HK.out.at k hlt
      have HKK : Hid (IIn wr g[k].kids r2) := hkk.next hb
      have HLW : Hid (bl < w.heap.size) := cell_lt c0w
      have c0 := (hb.cell (p := ⟨bl, off + k * 3, none⟩) HLW.out).trans c0w
      have c1 := (hb.cell (p := ⟨bl, off + k * 3 + 1, none⟩) HLW.out).trans c1w
      have c2 := (hb.cell (p := ⟨bl, off + k * 3 + 2, none⟩) HLW.out).trans c2w
      have HC : Hid (w.cell? ⟨bl, off + k * 3, none⟩ = some (.int .i64 g[k].op) ∧ w.cell? ⟨bl, off + k * 3 + 1, none⟩ = some (.int .i64 g[k].num) ∧ w.cell? ⟨bl, off + k * 3 + 2, none⟩ = some r2) := ⟨c0w, c1w, c2w⟩
      clear c0w c1w c2w
      have HIO : Hid (I64 g[k].op ∧ I64 g[k].num) := ⟨io, iN⟩
      have lg := cell_lt c0
      have HTL : Hid ((g.take k).length = k) := by rw [Hid, List.length_take]; omega
      obtain ⟨adk, capk, rfl, -, -, -⟩ := id hkk
      clear hown hb hkk io iN
      obtain ⟨xs, hx⟩ := HO.out.row
      rw [HTL.out] at hx
      have HX : Hid (wr.ownsRow w.heap.size 58 3 u3 k xs) := hx
      obtain ⟨iC, zC, hII⟩ := infoC1
      have HII : Hid (Tryz.prog.info? 58 = some iC ∧ iC.zero = some zC ∧ iC.size = 3 ∧ iC.bytes = 40 ∧ zC.cells.size = 3) := hII
      have HK3 : Hid (g[k].kids.length ≤ 3) := (kids_graph HG.out k hlt).1
      have HKN : Hid ((kidsN g k).length = g[k].kids.length) := by rw [Hid, kidsN_at k hlt]; simp
      clear hII hx
      go_wp2_with fail
      go_region_held3 (fun w' => w'.cell? ⟨bl, off + k * 3, none⟩ = some (.int .i64 g[k].op) ∧ w'.cell? ⟨bl, off + k * 3 + 1, none⟩ = some (.int .i64 g[k].num) ∧ w'.cell? ⟨bl, off + k * 3 + 2, none⟩ = some (.slice adk g[k].kids.length capk))
        (first
          | go_keep
          | exact ⟨e0, e1, e2⟩
          | exact ⟨d0, d1, d2⟩
          | exact ⟨old_cell d0 _, old_cell d1 _, old_cell d2 _⟩
          | exact ⟨old_cell c0 _, old_cell c1 _, old_cell c2 _⟩)
        (first
          | (refine step_push (by rfl) (.tmp 23) (.tmp 28) (by rfl) wr.heap.size [] (kidsN g k) (.slice (some ⟨wr.heap.size, 0, none⟩) 0 0) (.slice adk g[k].kids.length capk) (by rfl) (stk_zero (Deep.blk_alloc_new wr _) (Nat.le_refl _)) (by rfl) (HKK.out.next ((box_below wr _).drew)) (kids_back HG.out k hlt) (by show wr.heap.size ≤ (wr.alloc _).heap.size; rw [Deep.nblk_alloc]; omega) (by rw [HKN.out]; have := HK3.out; simp only [List.length_nil]; omega) ?_; intro v1 w1 hst1 hg1; have HB1 : Hid (Below wr.heap.size wr w1) := copy_below hg1; have HST1 : Hid (Stk w1 wr.heap.size (kidsN g k) v1) := hst1; obtain ⟨ad1, cap1, rfl⟩ := stk_len2 hst1 HKN.out; have d0 := (HB1.out.cell (p := ⟨bl, off + k * 3, none⟩) lg).trans c0; have d1 := (HB1.out.cell (p := ⟨bl, off + k * 3 + 1, none⟩) lg).trans c1; have d2 := (HB1.out.cell (p := ⟨bl, off + k * 3 + 2, none⟩) lg).trans c2; clear hst1 hg1)
          | (refine step_append_where (by rfl) (.tmp 12) (.tmp 31) 26 (by rfl) w.heap.size 58 iC zC 3 40 Tryz.underlying26 HII.out.1 HII.out.2.1 HII.out.2.2.1 HII.out.2.2.2.1 HII.out.2.2.2.2 (by decide) u3 k xs (by rfl) (copy_own HX.out HB1.out _) ⟨w1.heap.size, 0, none⟩ 1 1 [.int .i64 g[k].op, .int .i64 g[k].num, .slice ad1 g[k].kids.length cap1] (by rfl) (by rfl) (news3c w1 _ _ _) (by simp [Value.oneCell']) (by unfold maxLen; omega) (by omega) (by show w.heap.size ≤ (w1.alloc _).heap.size; rw [Deep.nblk_alloc]; have := HB1.out.size; omega) (by omega) ?_; intro v3 w3 hown3 hg3 hw3; have HOWN3 : Hid (w3.ownsRow w.heap.size 58 3 v3 (k + 1) (xs ++ [.int .i64 g[k].op, .int .i64 g[k].num, .slice ad1 g[k].kids.length cap1])) := hown3; have HG3 : Hid ((w1.alloc (.cells #[.int .i64 g[k].op, .int .i64 g[k].num, .slice ad1 g[k].kids.length cap1] 58)).grownBy w3 u3.ownBlock) := hg3; have HB3 : Hid (Below w.heap.size w w3) := copy_below3 HB.out HB1.out HX.out hg3; have e0 := (HB3.out.cell (p := ⟨bl, off + k * 3, none⟩) HLW.out).trans HC.out.1; have e1 := (HB3.out.cell (p := ⟨bl, off + k * 3 + 1, none⟩) HLW.out).trans HC.out.2.1; have e2 := (HB3.out.cell (p := ⟨bl, off + k * 3 + 2, none⟩) HLW.out).trans HC.out.2.2; clear hown3 hg3 hw3))
      go_wp2_with fail
      go_roundw
      case rel =>
        refine ⟨k + 1, by omega, by go_num, ?_, HB3.out⟩
        have h := copy_push (G := g.take k) (ws := kidsN g k) (o := g[k].op) (n := g[k].num) HO.out HB.out.size HB1.out HST1.out _ (by rw [HTL.out]; exact copy_own HX.out HB1.out _) (by rw [HTL.out]; exact HOWN3.out) HG3.out HIO.out.1 HIO.out.2
        rw [← kids_back HG.out k hlt] at h
        rw [List.take_succ_eq_append_getElem hlt]
        exact h
      case measure => simp [intOf]; omega
    · have hke : k = g.length := by omega
      have HE : Hid (OwnC wr w.heap.size (fun b => w.heap.size ≤ b) g u3) := by
        have h := HO.out
        rw [hke, List.take_length] at h
        exact h
      clear hown hb hke
      go_wp2_with fail
      go_ret
      exact ⟨_, rfl, HE.out, HB.out⟩
end Go.Proofs.YtjpjikfmdaejeaaGreatDoor
/-
  SMALL FACTS for the model's BuildGraph and AddExpr.
-/
namespace Go.Proofs.YtjpjikfmdaejeaaGreatDoor
set_option linter.unusedVariables false
set_option linter.unusedSimpArgs false
open Go.RowKit

theorem below_grown {w w1 w2 : World} {v : Value} (hb : Below w.heap.size w w1) (h : w1.grownBy w2 v.ownBlock) (ho : ∀ k, v.ownBlock = some k → w.heap.size ≤ k) : Below w.heap.size w w2 :=
  ⟨h.os.trans hb.os, h.tape.trans hb.tape, h.output.trans hb.output, Nat.le_trans hb.size h.size, fun k hk => (h.block k (Nat.lt_of_lt_of_le hk hb.size) fun e => by have := ho k e.symm; omega).trans (hb.block k hk)⟩
theorem validB_small {t : Tr} {vars defs : Int} (h : validB t vars defs = true) : 1 + szT t ≤ 60 ∧ shB vars defs 16 t = true ∧ 0 ≤ vars ∧ vars ≤ 4 := by
  unfold validB at h
  simp only [Bool.and_eq_true, decide_eq_true_eq] at h
  exact ⟨h.2.2, h.2.1, h.1.1, h.1.2.1⟩

end Go.Proofs.YtjpjikfmdaejeaaGreatDoor
/-
  THE MODEL's l4Call.
-/
namespace Go.Proofs.YtjpjikfmdaejeaaGreatDoor
set_option linter.unusedVariables false
set_option linter.unusedSimpArgs false
open Go.RowKit

/-- a graph and a code -/
def StG (r : List Ce × Nat) (w : World) (e : Ending) (w' : World) : Prop := ∃ v, e = .returned (.tuple #[v, .int .i64 (r.2 : Int)]) ∧ CIn w' r.1 v ∧ Below w.heap.size w w'
theorem below_grown2 {W w3 w4 : World} {S : Nat → Prop} {g : List Ce} {v : Value} (hb : Below W.heap.size W w3) (h : w3.grownBy w4 v.ownBlock) (ho : OwnC w3 W.heap.size S g v) : Below W.heap.size W w4 :=
  below_grown hb h fun k hk => by obtain ⟨ys, hy⟩ := ho.row; exact (hy.lt k hk).1
theorem own_cell {w : World} {base n cap b : Nat} {xs : List Value} (h : w.ownsRow base 58 3 (.slice (some ⟨b, 0, none⟩) n cap) n xs) (j : Nat) (hj : j < n * 3) : ∃ z, w.cell? ⟨b, j, none⟩ = some z :=
  ⟨_, (h.cellAt j hj).trans (List.getElem?_eq_getElem (by have := h.1; omega))⟩
theorem ind_i64 (k : Nat) : I64 (indTo k).op ∧ I64 (indTo k).num := by unfold I64 indTo; simp
theorem num_i64 {n : Int} (h0 : 0 ≤ n) (h1 : n ≤ 999) : I64 (numC n).op ∧ I64 (numC n).num := by unfold I64 numC; simp; omega
theorem args_snoc (g : List Ce) (xs : List Nat) (k : Nat) (hk : k < xs.length) : argsL g (xs.drop k) = argsL g (xs.drop (k + 1)) ++ [kidAt g xs[k] 1] := by
  unfold argsL
  rw [List.drop_eq_getElem_cons hk, List.map_cons, List.reverse_cons]

set_option maxRecDepth 100000 in
set_option maxHeartbeats 6400000 in
theorem l4Call_calls (ds : List Df) (g : List Ce) (at' f n : Nat) (xs : List Nat) (c v : Value) (w : World) (hd : DIn w ds c) (hk : CIn w g v) (hg : graphB g ds.length = true) (hp : progB ds = true) (ha : at' < g.length)
    (hs : spine g at' = some (f, xs)) (h3 : opAt g f = 3) (hn : numAt g f = (n : Int)) (hnl : n < ds.length) (hl : ds[n].1 = (xs.length : Int)) :
    Calls Tryz.prog 63 #[c, v, .int .i64 (at' : Int)] w (StG (callG ds g at') w) := by
  have HD : Hid (DIn w ds c) := hd
  have HK : Hid (CIn w g v) := hk
  have HG := mkHid hg
  have HP := mkHid hp
  have HS := mkHid hs
  have HCP := mkHid (call_parts hg hp ha hs hn hnl hl)
  have hok := spine_ok hg ha hs
  have hff : f < g.length := hok.1
  have HOK := mkHid hok
  have HN := mkHid hn
  obtain ⟨ad, cap, rfl, hlg, hm, -⟩ := hk
  obtain ⟨adp, capp, rfl, hlp, hmp, -⟩ := hd
  have h400 : g.length ≤ 400 := graphB_len hg
  have hx4 : xs.length ≤ 4 := HCP.out.2.2.2.2.1
  unfold maxLen at hm hmp
  clear hg hp hs hok hn hl
  go_enter Tryz.func63, Tryz.ntmps63
  go_wp2_with fail
  refine (l4Spine_calls g at' _ _ HK.out ⟨_, HG.out⟩ ha).mono ?_
  rintro e w1 ⟨xs', v1, hxs, rfl, hi1, hb1⟩
  obtain rfl : xs' = xs := hxs _ HS.out
  rw [HS.out]
  have e1 : spI (some (f, xs')) = (f : Int) := rfl
  rw [e1]
  have HB1 : Hid (Below w.heap.size w w1) := hb1
  have HI1 : Hid (IIn w1 (plI xs') v1) := hi1.inn
  obtain ⟨ad1, cap1, rfl, -, -, -⟩ := hi1
  rw [plI_length] at HI1 ⊢
  have HS0 : Hid (Stk (w1.alloc (.cells #[] 3)) w1.heap.size [] (.slice (some ⟨w1.heap.size, 0, none⟩) 0 0)) := ⟨rfl, Or.inr ⟨_, 0, _, rfl, Nat.le_refl _, Deep.blk_alloc_new _ _, Nat.le_refl _, by simp [maxLen], rfl, rfl⟩⟩
  clear hb1 hxs
  go_wp2_with fail
  go_loopw [10, 11] (fun av i wr => ∃ (k : Nat) (z : Int), k ≤ xs'.length ∧ z = (k : Int) - 1 ∧ i = .int .i64 z ∧ Stk wr w1.heap.size (argsL g (xs'.drop k)) av ∧ Below w1.heap.size w1 wr) (fun _ i _ => (intOf i + 1).toNat)
  case atStart => exact ⟨xs'.length, _, Nat.le_refl _, rfl, by simp, by simpa [argsL] using HS0.out, box_below _ _⟩
  case round =>
    obtain ⟨k, z, hk, hz, rfl, hst, hb⟩ := hrel
    have HST : Hid (Stk wr w1.heap.size (argsL g (xs'.drop k)) _) := hst
    have HB := mkHid hb
    have hll : (argsL g (xs'.drop k)).length ≤ 4 := by unfold argsL; simp; omega
    have HZ := mkHid hz
    obtain ⟨ada, capa, rfl⟩ := hst.len
    clear hst hb hz
    by_cases h0 : k = 0
    · subst h0
      have hz0 : z < 0 := by have := HZ.out; omega
      have HST2 : Hid (Stk wr w1.heap.size (argsL g xs') (.slice ada (argsL g xs').length capa)) := HST.out
      rw [List.drop_zero] at hll ⊢
      clear HST
      obtain ⟨blp, offp, rk, hep, -, p1w, p2w, p3w, -, io, iN, hkk⟩ := HD.out.at n hnl
      cases hep
      obtain ⟨blg, offg, rg, heg, -, g1w, -, -, -, -⟩ := HK.out.at f hff
      cases heg
      have hnum : g[f].num = (n : Int) := by rw [← numAt_at f hff]; exact HN.out
      rw [hnum] at g1w
      have HBR : Hid (Below w.heap.size w wr) := HB1.out.trans (HB.out.mono HB1.out.size)
      have HP1 := mkHid p1w
      have HP2 := mkHid p2w
      have HP3 := mkHid p3w
      have HG1 := mkHid g1w
      have q1 := (HBR.out.cell (p := ⟨blp, offp + n * 4 + 1, none⟩) (cell_lt p1w)).trans p1w
      have q2 := (HBR.out.cell (p := ⟨blp, offp + n * 4 + 2, none⟩) (cell_lt p2w)).trans p2w
      have q3 := (HBR.out.cell (p := ⟨blp, offp + n * 4 + 3, none⟩) (cell_lt p3w)).trans p3w
      have q4 := (HBR.out.cell (p := ⟨blg, offg + f * 3 + 1, none⟩) (cell_lt g1w)).trans g1w
      obtain ⟨adr, capr, rfl, -, -, -⟩ := id hkk
      have HKK := mkHid hkk
      have HIO := mkHid (And.intro io iN)
      clear p1w p2w p3w g1w hnum hkk io iN
      go_wp2_with fail
      go_region_held3 (fun w' => w'.cell? ⟨blp, offp + n * 4 + 1, none⟩ = some (.int .i64 ds[n].2.op) ∧ w'.cell? ⟨blp, offp + n * 4 + 2, none⟩ = some (.int .i64 ds[n].2.num) ∧ w'.cell? ⟨blp, offp + n * 4 + 3, none⟩ = some (.slice adr ds[n].2.kids.length capr) ∧ w'.cell? ⟨blg, offg + f * 3 + 1, none⟩ = some (.int .i64 (n : Int)))
        (first
          | go_keep
          | exact ⟨s1, s2, s3, s4⟩
          | exact ⟨r1, r2, r3, r4⟩
          | exact ⟨q1, q2, q3, q4⟩)
        (first
          | (go_at_call 22; refine (l3Copy_calls g _ wr.drew (HK.out.next (HBR.out.drew)) ⟨_, HG.out⟩).mono ?_; rintro en w3 ⟨gv, rfl, hog, hb3⟩; have HOG : Hid (OwnC w3 wr.heap.size (fun b => wr.heap.size ≤ b) g gv) := hog; have HB3 : Hid (Below wr.heap.size wr w3) := (Below.refl _ _).drew.trans hb3; have HBW3 : Hid (Below w.heap.size w w3) := HBR.out.trans (HB3.out.mono HBR.out.size); have r1 := (HBW3.out.cell (p := ⟨blp, offp + n * 4 + 1, none⟩) (cell_lt HP1.out)).trans HP1.out; have r2 := (HBW3.out.cell (p := ⟨blp, offp + n * 4 + 2, none⟩) (cell_lt HP2.out)).trans HP2.out; have r3 := (HBW3.out.cell (p := ⟨blp, offp + n * 4 + 3, none⟩) (cell_lt HP3.out)).trans HP3.out; have r4 := (HBW3.out.cell (p := ⟨blg, offg + f * 3 + 1, none⟩) (cell_lt HG1.out)).trans HG1.out; clear hog hb3)
          | (go_at_call 84; refine (ad_calls (argsL g xs') ds[n].2 gv (.slice ada (argsL g xs').length capa) (.slice adr ds[n].2.kids.length capr) wr.heap.size (fun b => wr.heap.size ≤ b) g w3 HOG.out HB3.out.size (HST2.out.row.inn.mono (fun _ h => h) (fun b hb => HB3.out.block b hb)) (HKK.out.mono (fun k hk => Nat.lt_of_lt_of_le hk HBR.out.size) (fun b hb => HBW3.out.block b hb)) (by have := HCP.out.2.2.2.1; omega) (by have := HCP.out.2.1; omega) HIO.out.1 HIO.out.2 (varOk_of_sh _ _ 16 _ HCP.out.2.2.1)).mono ?_; rintro en w4 ⟨gv', rfl, hog4, hg4, how4⟩; obtain ⟨ad5, cap5, rfl⟩ := hog4.form; have HO4 := mkHid hog4; have HB34 : Hid (Below wr.heap.size wr w4) := below_grown2 HB3.out hg4 HOG.out; have HBW4 : Hid (Below w.heap.size w w4) := HBR.out.trans (HB34.out.mono HBR.out.size); have s1 := (HBW4.out.cell (p := ⟨blp, offp + n * 4 + 1, none⟩) (cell_lt HP1.out)).trans HP1.out; have s2 := (HBW4.out.cell (p := ⟨blp, offp + n * 4 + 2, none⟩) (cell_lt HP2.out)).trans HP2.out; have s3 := (HBW4.out.cell (p := ⟨blp, offp + n * 4 + 3, none⟩) (cell_lt HP3.out)).trans HP3.out; have s4 := (HBW4.out.cell (p := ⟨blg, offg + f * 3 + 1, none⟩) (cell_lt HG1.out)).trans HG1.out; clear hog4 hg4 how4))
      have HSZ := mkHid (addT_size (argsL g xs') ds[n].2 g)
      clear s1 s2 s3 s4
      by_cases hle : (addT (argsL g xs') ds[n].2 g).1.length ≤ 400
      · have HV : Hid (callG ds g at' = ((addT (argsL g xs') ds[n].2 g).1.set at' (indTo (addT (argsL g xs') ds[n].2 g).2), 0)) := by
          unfold Hid callG; rw [HCP.out.1, if_pos hle]
        have hle2 : ¬ ((400 : Int) < ((addT (argsL g xs') ds[n].2 g).1.length : Int)) := by omega
        have hat : at' < (addT (argsL g xs') ds[n].2 g).1.length := by have := HSZ.out.1; omega
        clear hle
        generalize addT (argsL g xs') ds[n].2 g = R at *
        obtain ⟨ys, hys⟩ := HO4.out.row
        have hb5 : ∃ b5, ad5 = some ⟨b5, 0, none⟩ := by
          rcases hys.2 with ⟨-, h0⟩ | ⟨b5, c5, cur5, e5, -⟩
          · omega
          · simp only [Value.slice.injEq] at e5; exact ⟨b5, e5.1⟩
        obtain ⟨b5, rfl⟩ := hb5
        have hyl := hys.1
        have hys2 := World.ownsRow.alloc hys (.cells #[.int .i64 (R.2 : Int)] 3)
        obtain ⟨z0, y0⟩ := own_cell hys2 (at' * 3) (by omega)
        obtain ⟨z1, y1⟩ := own_cell hys2 (at' * 3 + 1) (by omega)
        obtain ⟨z2, y2⟩ := own_cell hys2 (at' * 3 + 2) (by omega)
        have f0 := hys2.frozenAt (at' * 3)
        have f1 := hys2.frozenAt (at' * 3 + 1)
        have f2 := hys2.frozenAt (at' * 3 + 2)
        have hatI : (at' : Int) < (R.1.length : Int) := by omega
        have hb5 : wr.heap.size ≤ b5 := (hys.lt b5 rfl).1
        have hbz : b5 < w4.heap.size := (hys.lt b5 rfl).2
        have hoa : OwnC (w4.alloc (.cells #[.int .i64 (R.2 : Int)] 3)) wr.heap.size (fun b => wr.heap.size ≤ b ∧ b < w4.heap.size) R.1 (.slice (some ⟨b5, 0, none⟩) R.1.length cap5) :=
          HO4.out.next (fun k hk hz => ⟨by rcases hk with h | h; exact h; exact Nat.le_trans HB3.out.size h, hz⟩) (fun k _ hz => Deep.blk_alloc_lt _ _ _ hz) (fun k _ hz => Deep.blk_alloc_lt _ _ _ hz)
        have hset := hoa.setc at' hat (c := indTo R.2) (kv := .slice (some ⟨w4.heap.size, 0, none⟩) 1 1) (blk := w4.heap.size) (ind_i64 R.2) (krow_one w4 R.2) (by rintro ⟨-, h⟩; omega)
        have HFIN := mkHid (hset.own (fun k hk _ => by rcases hk with h | h; exact h.1; have := HB34.out.size; omega)).inn
        have HBF : Hid (Below w.heap.size w (st3 (w4.alloc (.cells #[.int .i64 (R.2 : Int)] 3)) b5 at' 11 0 (.slice (some ⟨w4.heap.size, 0, none⟩) 1 1))) := st3_below (HBW4.out.alloc HBW4.out.size _) (Nat.le_trans HBR.out.size hb5)
        clear hys hys2 hoa hset hb5 hbz
        go_wp2_with fail
        go_ret2
        rw [HV.out]
        exact ⟨_, rfl, HFIN.out, HBF.out⟩
      · have HV : Hid (callG ds g at' = (g, 3)) := by
          unfold Hid callG; rw [HCP.out.1, if_neg hle]
        have hle2 : (400 : Int) < ((addT (argsL g xs') ds[n].2 g).1.length : Int) := by omega
        clear hle
        go_wp2_with fail
        go_ret2
        rw [HV.out]
        exact ⟨_, rfl, HK.out.next HBW4.out, HBW4.out⟩
    · obtain ⟨m, rfl⟩ : ∃ m, k = m + 1 := ⟨k - 1, by omega⟩
      obtain rfl : z = (m : Int) := by have := HZ.out; omega
      have hml : m < xs'.length := by omega
      have hmx := HOK.out.2.2.2.1 xs'[m] (List.getElem_mem hml)
      obtain ⟨am, ham⟩ : ∃ am, am = xs'[m] := ⟨_, rfl⟩
      rw [← ham] at hmx
      obtain ⟨haml, hm4⟩ := hmx
      have hpm : m < (plI xs').length := by rw [plI_length]; exact hml
      obtain ⟨gb, go, rfl, q0w⟩ := HI1.out.at m hpm
      have hpe : (plI xs')[m] = (am : Int) := by rw [ham]; simp [plI]
      rw [hpe] at q0w
      have HQ := mkHid q0w
      obtain ⟨bl, off, r, rfl, c0w, c1w, c2w, -, -, hkk⟩ := (HK.out.next HB1.out).at am haml
      have hk1 : 1 < g[am].kids.length := by
        have h1 := kids_count HG.out am haml
        have h2 := opAt_at am haml
        rw [hm4] at h2
        rw [← h2] at h1
        have e : cArity 4 = 2 := by decide
        omega
      obtain ⟨hke, hkl⟩ := kidAt_get HG.out am haml 1 hk1
      obtain ⟨ad2, cap2, rfl, -, -, -⟩ := id hkk
      obtain ⟨bl2, off2, rfl, d1w⟩ := hkk.at 1 hk1
      rw [hke] at d1w
      obtain ⟨kv, hkv⟩ : ∃ kv, kv = kidAt g am 1 := ⟨_, rfl⟩
      rw [← hkv] at d1w
      have q0 := (HB.out.cell (p := ⟨gb, go + m, none⟩) (cell_lt q0w)).trans q0w
      have c2 := (HB.out.cell (p := ⟨bl, off + am * 3 + 2, none⟩) (cell_lt c2w)).trans c2w
      have d1 := (HB.out.cell (p := ⟨bl2, off2 + 1, none⟩) (cell_lt d1w)).trans d1w
      have HSN : Hid (argsL g (xs'.drop m) = argsL g (xs'.drop (m + 1)) ++ [kv]) := by rw [hkv, ham]; exact args_snoc g xs' m hml
      have HS3 : Hid (Stk (wr.alloc (.cells #[.int .i64 (kv : Int)] 3)) w1.heap.size (argsL g (xs'.drop (m + 1))) (.slice ada (argsL g (xs'.drop (m + 1))).length capa)) := HST.out.alloc _
      have HK3 : Hid (IIn (wr.alloc (.cells #[.int .i64 (kv : Int)] 3)) [(kv : Int)] (.slice (some ⟨wr.heap.size, 0, none⟩) 1 1)) := one_in wr kv
      have HLO : Hid (w1.heap.size ≤ (wr.alloc (.cells #[.int .i64 (kv : Int)] 3)).heap.size) := by rw [Hid, Deep.nblk_alloc]; have := HB.out.size; omega
      have HOB : Hid (∀ j, (Value.slice ada (argsL g (xs'.drop (m + 1))).length capa).ownBlock = some j → w1.heap.size ≤ j) := fun j hj => own_lo HST.out hj.symm
      clear hkk hke hkl c0w c1w c2w d1w q0w hpe hkv ham hm4 hpm
      go_wp2_with (at_builtin; go_must (refine wpList_push rfl _ _ rfl _ w1.heap.size (argsL g (xs'.drop (m + 1))) [kv] (.slice ada (argsL g (xs'.drop (m + 1))).length capa) (.slice (some ⟨wr.heap.size, 0, none⟩) 1 1) rfl HS3.out rfl HK3.out rfl HLO.out (by simp; omega) ?_); go_must (intro v' w5 hst5 hg5); go_must (have HS5 : Hid (Stk w5 w1.heap.size (argsL g (xs'.drop m)) v') := by rw [HSN.out]; exact hst5); go_must (have HB5 : Hid (Below w1.heap.size w1 w5) := by have hb3 : Below w1.heap.size w1 (wr.alloc (.cells #[.int .i64 (kv : Int)] 3)) := HB.out.alloc HB.out.size _; exact ⟨by rw [hg5.os]; exact hb3.os, by rw [hg5.tape]; exact hb3.tape, by rw [hg5.output]; exact hb3.output, Nat.le_trans hb3.size hg5.size, fun j hj => (hg5.block j (by have := hb3.size; omega) (fun e => by have := HOB.out j e.symm; omega)).trans (hb3.block j hj)⟩); clear hst5 hg5 q0 c2 d1)
      go_roundw
      case rel => first | exact ⟨m, (m : Int) - 1, by omega, rfl, rfl, HS5.out, HB5.out⟩ | ((repeat apply Exists.intro); exact ⟨⟨m, (m : Int) - 1, by omega, rfl, rfl, HS5.out, HB5.out⟩, rfl⟩)
      case measure => (simp [intOf] <;> omega)
end Go.Proofs.YtjpjikfmdaejeaaGreatDoor
/-
  slices.Backward OF A LIST OF INTS: the iterator that it hands back.
-/
namespace Go.Proofs.YtjpjikfmdaejeaaGreatDoor
set_option linter.unusedVariables false
set_option linter.unusedSimpArgs false
open Go.RowKit

set_option maxHeartbeats 400000 in
theorem backward_calls (ad : Option Addr) (n cap : Nat) (w : World) :
    Calls Tryz.prog 90 #[.slice ad n cap] w fun e w' => e = .returned (.func (.func 94) #[] #[.pointer (some ⟨w.heap.size, 0, none⟩)]) ∧ w'.heap[w.heap.size]? = some (.cells #[.slice ad n cap] 47) ∧ Below w.heap.size w w' := by
  have hmf : ∀ (fn : Fn) (first cap : Array Value) (w : World), (Instr.makeFunc fn first cap).run Tryz.prog w = .ok (.func fn first cap) w := fun _ _ _ _ => rfl
  go_enter Tryz.func90, Tryz.ntmps90
  go_wp2_with fail
  go_ret
  exact ⟨rfl, Deep.blk_alloc_new _ _, box_below _ _⟩
end Go.Proofs.YtjpjikfmdaejeaaGreatDoor
/-
  A REGION THAT DRAWS ITS ORDER, IN A ROUND OF A RANGE OVER A FUNCTION: by the moves of a plain region with a condition that is kept (no operation of it defers; none enters a row).
-/
namespace Go.Proofs.YtjpjikfmdaejeaaGreatDoor
set_option linter.unusedVariables false
set_option linter.unusedSimpArgs false
open Go.RowKit

/-- no defer statement -/
def noDefer (o : Oper) : Bool := match o.op with
  | .defer _ => false
  | _ => true
theorem semAt_noDefer {o : Oper} (h : noDefer o = true) (l : Nat) (ρ : Operand → Value) : o.semAt (some l) ρ = execOp ρ o :=
  Oper.semAt_some l ρ o (fun c e => by unfold noDefer at h; rw [e] at h; cases h)
/-- a row is entered in a round as anywhere -/
theorem rows_inRound {P : Program} {row : String} {args : Array Value} {w : World} {R : Value → World → Prop} (n : Nat) (l : Nat) (h : Rows P row args w R) : RowsIn (Fence.wide.inRound l) n P row args w R := by
  intro c cs _
  obtain ⟨v, w', r, s⟩ := h c cs
  exact ⟨v, w', r, stepsIn_wide.2 s⟩
theorem wpIn_of_wp {P : Program} {o : Oper} {a : Act} {w : World} {K : Act → World → Prop} {Q : Exit → Act → World → Prop} (n l : Nat) (hd : noDefer o = true) (h : o.wp P a w K Q) : o.wpIn (Fence.wide.inRound l) n P a w K Q := by
  refine ⟨fun f _ => trivial, ?_⟩
  rw [show (Fence.wide.inRound l).round = some l from rfl, semAt_noDefer hd]
  unfold Oper.wp at h
  generalize (execOp a.eval o).run P w = r at h ⊢
  cases r with
  | ok x w' =>
    cases x with
    | value v => exact h
    | skip => exact h
    | defer d => exact h
    | enter f args => exact ⟨(fun hd => by cases hd), CallsIn.inRound l (callsIn_wide.2 h)⟩
    | row row args => exact ⟨(fun hd => by cases hd), rows_inRound _ l h⟩
    | _ => exact h.elim
  | halt x w' =>
    cases x <;> first | exact h | exact h.elim
theorem opsIn_of_ops {P : Program} {ops : Array Oper} {Q : Exit → Act → World → Prop} (n l : Nat) (hd : ∀ (i : Nat) (o : Oper), ops[i]? = some o → noDefer o = true) (hQ : ∀ a w, ¬ Q .outgrown a w) : ∀ (is : List Nat) (a : Act) (w : World), wpOps P ops Q is a w → wpOpsIn (Fence.wide.inRound l) n P ops Q is a w
  | [], _, _, h => h
  | i :: rest, a, w, h => by
    simp only [wpOps, wpOpsIn] at h ⊢
    cases ho : ops[i]? with
    | none =>
      rw [ho] at h
      exact opsIn_of_ops n l hd hQ rest a w h
    | some o =>
      rw [ho] at h
      simp only at h ⊢
      split
      · rename_i hw
        rw [if_pos hw] at h
        rcases h with h | ⟨-, a1, w1, h⟩
        · exact wpIn_of_wp n l (hd i o ho) (Oper.wp_mono (fun a w h => opsIn_of_ops n l hd hQ rest a w h) h)
        · exact absurd h (hQ a1 w1)
      · rename_i hw
        rw [if_neg hw] at h
        exact ⟨fun f _ => trivial, opsIn_of_ops n l hd hQ rest _ w h⟩
/-- the beginning -/
theorem wpIn_region_held {P : Program} {ops : Array Oper} {Q : Exit → Act → World → Prop} {S : World → Prop} {id n l : Nat} {a : Act} {w : World} (hm : P.follows .mixedOrders = true) (hd : ops.all noDefer = true) (hQ : ∀ a w, ¬ Q .outgrown a w)
    (hS : S w.drew) (h : S w.drew → wpAnyH P .any ops Q S ops.size (Array.replicate ops.size false) a w.drew) : (Code.region id ops true).wpIn (Fence.wide.inRound l) n P Q a w :=
  wpIn_region_draw fun t => by
    simp only [Region.schedule, hm, Bool.true_or, if_true]
    refine opsIn_of_ops n l (fun i o ho => ?_) hQ _ _ _ (wpAny_sound ops.size t _ a _ (wpAny_of_held _ _ _ _ (h hS)))
    rw [Array.all_eq_true] at hd
    obtain ⟨hi, rfl⟩ := Array.getElem?_eq_some_iff.1 ho
    exact hd i hi
end Go.Proofs.YtjpjikfmdaejeaaGreatDoor
/-
  slices.Backward OF A LIST OF INTS: what its iterator hands to the rounds: (place, number), from the end on; for rounds that keep the blocks of the list.
-/
namespace Go.Proofs.YtjpjikfmdaejeaaGreatDoor
set_option linter.unusedVariables false
set_option linter.unusedSimpArgs false
open Go.RowKit

attribute [local go_sem] Oper.semAt_some
/-- blocks of K stay -/
def KeepK (K : Nat → Prop) (W W' : World) : Prop := ∀ k, K k → W'.heap[k]? = W.heap[k]?
theorem KeepK.refl (K : Nat → Prop) (W : World) : KeepK K W W := fun _ _ => rfl
theorem KeepK.trans {K : Nat → Prop} {A B C : World} (h : KeepK K A B) (h2 : KeepK K B C) : KeepK K A C := fun k hk => (h2 k hk).trans (h k hk)
/-- what has come behind k rounds -/
def dnL (xs : List Int) (k : Nat) : List (Nat × Int) := (List.range k).map fun j => (xs.length - 1 - j, xs[xs.length - 1 - j]?.getD 0)
theorem dnL_succ (xs : List Int) (k : Nat) : dnL xs (k + 1) = dnL xs k ++ [(xs.length - 1 - k, xs[xs.length - 1 - k]?.getD 0)] := by unfold dnL; rw [List.range_succ, List.map_append]; rfl
theorem dnL_length (xs : List Int) (k : Nat) : (dnL xs k).length = k := by unfold dnL; simp
theorem dnL_map (xs : List Int) {α : Type} (f : Int → α) : (dnL xs xs.length).map (fun x => f x.2) = (xs.map f).reverse := by
  refine List.ext_getElem (by simp [dnL]) fun i h1 h2 => ?_
  simp only [List.length_map, dnL_length] at h1
  simp only [dnL, List.map_map, List.getElem_map, List.getElem_range, Function.comp, List.getElem_reverse, List.length_map]
  rw [List.getElem?_eq_getElem (by omega)]
  rfl

/-- what a round is handed: a place and a number of which p holds -/
abbrev Bk (p : Int → Prop) := { x : Nat × Int // p x.2 }

set_option maxRecDepth 100000 in
set_option maxHeartbeats 2000000 in
theorem back1_in (n : Nat) (hn : 1 ≤ n) (l B : Nat) (K : Nat → Prop) (p : Int → Prop) (xs : List Int) (v : Value) (J Jx : List (Bk p) → World → Prop) (hl : xs.length ≤ 1048576) (hp : ∀ x ∈ xs, p x)
    (hY : ∀ pre x W, J pre W → pre.length < xs.length → YieldAt Fence.wide (n - 1) Tryz.prog l #[.int .i64 (x.1.1 : Int), .int .i64 x.1.2] W fun e W' =>
      (e = .returned (.bool true) ∧ J (pre ++ [x]) W' ∧ KeepK K W W') ∨ (e = .returned (.bool false) ∧ Jx (pre ++ [x]) W'))
    (W : World) (hKB : K B) (hB : W.heap[B]? = some (.cells #[v] 47)) (hI : IntsOn W K xs v) (h0 : J [] W) :
    CallsIn Fence.wide n Tryz.prog 94 #[.func (.yield l) #[] #[], .pointer (some ⟨B, 0, none⟩)] W fun e W' => (∃ v, e = .returned v) ∧
      ((∃ ys : List (Bk p), ys.map (·.1) = dnL xs xs.length ∧ J ys W') ∨ (∃ pre, True ∧ Jx pre W')) := by
  obtain ⟨ad, cap, rfl, hlc, hcm, hr⟩ := id hI
  have HKI : Hid (∀ W', KeepK K W W' → W'.cell? ⟨B, 0, none⟩ = some (.slice ad xs.length cap) ∧ ∀ j (hj : j < xs.length), ∃ bl off, ad = some ⟨bl, off, none⟩ ∧ W'.cell? ⟨bl, off + j, none⟩ = some (.int .i64 xs[j])) := by
    intro W' hk
    refine ⟨cell_of_blk ((hk B hKB).trans hB) 0 _ rfl, fun j hj => ?_⟩
    rcases hr with hr | ⟨bl, off, e, hb, hr⟩
    · rw [hr] at hj; simp at hj
    · exact ⟨bl, off, e, (World.cell?_of_block (hk bl hb)).trans (hr j hj)⟩
  have hc0 := (HKI.out W (KeepK.refl _ _)).1
  have HL := mkHid hl
  unfold maxLen at hcm
  have HY := mkHid hY
  have HP := mkHid hp
  clear hB hI hr hl hY hp
  refine callsIn_of_wp Tryz.func94 rfl trivial ?_ rfl
  simp only [Tryz.ntmps94, List.size_toArray, List.length_cons, List.length_nil, Nat.reduceAdd, Nat.reduceSub, Array.replicate_succ, Array.replicate_zero, List.push_toArray, List.append_toArray, List.nil_append, List.cons_append]
  gi_wp2
  gi_loopw [3] (fun i wr => ∃ (k : Nat) (z : Int) (ys : List (Bk p)), k ≤ xs.length ∧ i = .int .i64 z ∧ Hid (z = (xs.length : Int) - 1 - k) ∧ Hid (ys.map (·.1) = dnL xs k) ∧ J ys wr ∧ KeepK K W wr)
    (fun i _ => (intOf i + 1).toNat)
  case atStart => exact ⟨0, _, [], Nat.zero_le _, rfl, by show _ = _; omega, rfl, h0, KeepK.refl _ _⟩
  case round =>
    obtain ⟨k, z, ys, hk, rfl, hz, hys, hJs, hkp⟩ := hrel
    obtain ⟨hcb, hcx⟩ := HKI.out wr hkp
    have HYL : Hid (ys.length = k) := by show _ = _; have := congrArg List.length hys.out; rw [List.length_map, dnL_length] at this; exact this
    by_cases hlt : k < xs.length
    · obtain ⟨m, hm⟩ : ∃ m, m + 1 + k = xs.length := ⟨xs.length - 1 - k, by omega⟩
      have hzm : z = (m : Int) := by have := hz.out; omega
      subst hzm
      have hml : m < xs.length := by omega
      obtain ⟨bl, off, rfl, hcm2⟩ := hcx m hml
      have HM : Hid (xs.length - 1 - k = m) := by show _ = _; omega
      have hmI : (m : Int) < (xs.length : Int) := by omega
      obtain ⟨fn, tmps, assign, body, hy, hR⟩ := HY.out _ ⟨(m, xs[m]), HP.out _ (List.getElem_mem hml)⟩ wr hJs (by rw [HYL.out]; exact hlt)
      dsimp only at hy
      have HJN : Hid ((ys ++ [(⟨(m, xs[m]), HP.out _ (List.getElem_mem hml)⟩ : Bk p)]).map (·.1) = dnL xs (k + 1)) := by
        show _ = _
        rw [List.map_append, hys.out, dnL_succ, HM.out, List.getElem?_eq_getElem hml]; rfl
      have HMK := mkHid hm
      have hm0 : 0 ≤ (m : Int) := by omega
      have hm1 : (m : Int) ≤ 1048576 := by have := HL.out; omega
      clear hm hcx hz
      gi_wp2
      refine hR.mono ?_
      rintro e W3 (⟨rfl, hJ3, hk3⟩ | ⟨rfl, hJx3⟩)
      · gi_wp2
        go_roundw
        case rel => exact ⟨k + 1, _, _, by omega, rfl, by show _ = _; have := HMK.out; omega, HJN, hJ3, hkp.trans hk3⟩
        case measure => simp [intOf]
      · gi_wp2
        refine bodyPost_ret (results_none rfl _ _ _) rfl ?_
        exact ⟨⟨_, rfl⟩, .inr ⟨_, trivial, hJx3⟩⟩
    · obtain rfl : k = xs.length := by omega
      have hzm : z = -1 := by have := hz.out; omega
      subst hzm
      clear hcx hz
      gi_wp2
      go_end0
      exact ⟨⟨_, rfl⟩, .inl ⟨_, hys.out, hJs⟩⟩
/-- the iterator of slices.Backward -/
theorem backward_stops (n : Nat) (hn : 1 ≤ n) (B : Nat) (K : Nat → Prop) (p : Int → Prop) (xs : List Int) (v : Value) (hl : xs.length ≤ 1048576) (hp : ∀ x ∈ xs, p x) (w : World) (hKB : K B) (hKl : ∀ k, K k → k < w.heap.size) (hB : w.heap[B]? = some (.cells #[v] 47)) (hI : IntsOn w K xs v) :
    SeqStopsK Fence.wide n Tryz.prog 94 #[.pointer (some ⟨B, 0, none⟩)] (fun x : Bk p => #[Value.int .i64 (x.1.1 : Int), Value.int .i64 x.1.2]) (KeepK K) (fun ys => ys.map (·.1) = dnL xs xs.length) (fun _ => True) xs.length w := fun l J Jx W hW _ _ hY h0 =>
  back1_in n hn l B K p xs v J Jx hl hp hY W hKB ((hW.block B (hKl B hKB)).trans hB) (hI.mono (fun _ h => h) (fun k hk => hW.block k (hKl k hk))) h0
end Go.Proofs.YtjpjikfmdaejeaaGreatDoor
