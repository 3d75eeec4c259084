/-
  THE PROGRAM's foldExpr with the closure of addExpr: the cells of an expression, added to an arena.
-/
import Derived.Test.YtjpjikfmdaejeaaMgExactTidyGraph8
import Derived.Test.YtjpjikfmdaejeaaMgExactTidyGraph5
import Derived.Deep.RegionHeld3
import Derived.Test.YtjpjikfmdaejeaaMgExactTidyGraph7
import Derived.Test.YtjpjikfmdaejeaaMgExactTidyGraph3
namespace Go.Proofs.Ytjpjikfmdaejeaa
set_option linter.unusedVariables false
set_option linter.unusedSimpArgs false
open Go.RowKit

/-- nothing changed but one row and block A -/
structure Kept (w w' : World) (A : Nat) (row : Option Nat) : Prop where
  os : w'.os = w.os
  tape : w'.tape = w.tape
  output : w'.output = w.output
  size : w.heap.size ≤ w'.heap.size
  block : ∀ k, k < w.heap.size → some k ≠ row → k ≠ A → w'.heap[k]? = w.heap[k]?
/-- a graph that is being built stays where its rows stay: rows of ints and the row of cells -/
theorem OwnC.next2 {w w' : World} {lo : Nat} {S S' : Nat → Prop} {g : List Ce} {v : Value} (h : OwnC w lo S g v) (hS : ∀ k, S k → k < w.heap.size → S' k) (hr : ∀ k, some k = v.ownBlock → k < w.heap.size → w'.heap[k]? = w.heap[k]?) (hb : ∀ k C, S k → k < w.heap.size → w.heap[k]? = some (.cells C 3 (0, 0)) → w'.heap[k]? = w.heap[k]?) : OwnC w' lo S' g v := by
  obtain ⟨hi0, xs, kb, h1, h2, h3⟩ := h
  refine ⟨hi0, xs, kb, ?_, fun j hj => ?_, h3⟩
  · refine ⟨h1.1, ?_⟩
    rcases h1.2 with h | ⟨b, cap, cur, rfl, hg, hh, r⟩
    · exact Or.inl h
    · exact Or.inr ⟨b, cap, cur, rfl, hg, (hr b rfl (Array.getElem?_eq_some_iff.1 hh).1).trans hh, r⟩
  · obtain ⟨kv, e0, e1, e2, e3⟩ := h2 j hj
    exact ⟨kv, e0, e1, e2, e3.keep hS fun C h1 h2 hC => hb _ C h1 h2 hC⟩

def FdRes (r : List Ce × Nat) (lo : Nat) (S : Nat → Prop) (gv : Value) (A : Nat) (w : World) (e : Ending) (w' : World) : Prop :=
  ∃ gv', e = .returned (.int .i64 (r.2 : Int)) ∧ OwnC w' lo (fun b => S b ∨ w.heap.size ≤ b) r.1 gv' ∧ w'.heap[A]? = some (.cells #[gv'] 51) ∧ Kept w w' A gv.ownBlock ∧ (gv'.ownBlock = gv.ownBlock ∨ ∃ g, gv'.ownBlock = some g ∧ w.heap.size ≤ g)
/-- blocks of T are there, and none of them is the arena or the row of its cells -/
def Free (T : Nat → Prop) (w : World) (A : Nat) (gv : Value) : Prop := ∀ b, T b → b < w.heap.size ∧ some b ≠ gv.ownBlock ∧ b ≠ A
/-- the closure, at a node that is no variable -/
def CloRes (A lo n : Nat) (o m : Int) (gv kv : Value) (xs : List Value) (w : World) (e : Ending) (w' : World) : Prop := ∃ ob, Added A lo n o m gv kv xs (w.alloc ob) e w'
/-- where the operands' rows of the graph lie while the operands of a cell are gathered in kv -/
def SF (w : World) (S : Nat → Prop) (kv : Value) : Nat → Prop := fun b => ((S b ∧ b < w.heap.size) ∨ w.heap.size + 1 ≤ b) ∧ some b ≠ kv.ownBlock
/-- what holds behind k operands -/
structure FdRel (args : List Nat) (t : Tr) (cs : List Ce) (lo : Nat) (S : Nat → Prop) (A : Nat) (gv0 ebox : Value) (w : World) (k : Nat) (gv kv : Value) (wr : World) : Prop where
  graph : OwnC wr lo (SF w S kv) (addL args (t.kids.take k) cs).1 gv
  arena : wr.heap[A]? = some (.cells #[gv] 51)
  kids : Stk wr (w.heap.size + 1) (addL args (t.kids.take k) cs).2 kv
  ebx : wr.heap[w.heap.size]? = some (.cells #[.int .i64 t.op, .int .i64 t.num, ebox] 79)
  kept : Kept w wr A gv0.ownBlock
  size : w.heap.size + 1 ≤ wr.heap.size
  own : gv.ownBlock = gv0.ownBlock ∨ ∃ g, gv.ownBlock = some g ∧ w.heap.size + 1 ≤ g
theorem FdRel.gown {args : List Nat} {t : Tr} {cs : List Ce} {lo A : Nat} {S : Nat → Prop} {gv0 ebox : Value} {w : World} {k : Nat} {gv kv : Value} {wr : World} (h : FdRel args t cs lo S A gv0 ebox w k gv kv wr) : ∀ b, some b = gv.ownBlock → some b = gv0.ownBlock ∨ w.heap.size + 1 ≤ b := by
  intro b hb
  rcases h.own with e | ⟨g, e, hg⟩
  · exact Or.inl (hb.trans e)
  · rw [e] at hb; simp only [Option.some.injEq] at hb; exact Or.inr (by omega)
/-- one operand more -/
theorem fd_push {args : List Nat} {t : Tr} {cs : List Ce} {lo A : Nat} {S : Nat → Prop} {gv0 ebox : Value} {w : World} {k : Nat} {gv kv : Value} {wr : World} (h : FdRel args t cs lo S A gv0 ebox w k gv kv wr) (hk : k < t.kids.length) (hg0 : ∀ b, gv0.ownBlock = some b → b < w.heap.size) (hA : A < w.heap.size) (o1 : Obj) {gv' : Value} {w2 : World}
    (hg : OwnC w2 lo (fun b => SF w S kv b ∨ (wr.alloc o1).heap.size ≤ b) (addT args t.kids[k] (addL args (t.kids.take k) cs).1).1 gv') (hA2 : w2.heap[A]? = some (.cells #[gv'] 51)) (hgr : Kept (wr.alloc o1) w2 A gv.ownBlock) (how : gv'.ownBlock = gv.ownBlock ∨ ∃ g, gv'.ownBlock = some g ∧ (wr.alloc o1).heap.size ≤ g) (o : Obj) {kv' : Value} {w5 : World}
    (hst : Stk w5 (w.heap.size + 1) ((addL args (t.kids.take k) cs).2 ++ [(addT args t.kids[k] (addL args (t.kids.take k) cs).1).2]) kv') (hgr5 : (w2.alloc o).grownBy w5 kv.ownBlock) (hw5 : kv'.ownBlock = kv.ownBlock ∨ ∃ g, kv'.ownBlock = some g ∧ (w2.alloc o).heap.size ≤ g) :
    FdRel args t cs lo S A gv0 ebox w (k + 1) gv' kv' w5 := by
  have hs := h.size
  have hs2 := hgr.size
  have hs5 := hgr5.size
  rw [Deep.nblk_alloc] at hs2 hs5 hw5 how hg
  have hkv : ∀ b, some b = kv.ownBlock → w.heap.size + 1 ≤ b ∧ b < wr.heap.size := fun b e => own_some h.kids b e.symm
  have k2 : ∀ b, b < wr.heap.size → some b ≠ gv.ownBlock → b ≠ A → w2.heap[b]? = wr.heap[b]? := fun b hb hn hne => (hgr.block b (by rw [Deep.nblk_alloc]; omega) hn hne).trans (Deep.blk_alloc_lt _ _ _ hb)
  have k5 : ∀ b, b < w2.heap.size → some b ≠ kv.ownBlock → w5.heap[b]? = w2.heap[b]? := fun b hb hn => (hgr5.block b (by rw [Deep.nblk_alloc]; omega) hn).trans (Deep.blk_alloc_lt _ _ _ hb)
  have q4 : Stk w2 (w.heap.size + 1) (addL args (t.kids.take k) cs).2 kv := by
    obtain ⟨ys, hy⟩ := h.graph.row
    refine ⟨h.kids.1, ?_⟩
    rcases h.kids.2 with h' | ⟨g, cap, cur, rfl, hg, hh, r⟩
    · exact Or.inl h'
    · exact Or.inr ⟨g, cap, cur, rfl, hg, (k2 g (Array.getElem?_eq_some_iff.1 hh).1 (fun e => own_ne hy h.kids g e rfl) (by omega)).trans hh, r⟩
  have e1 : addL args (t.kids.take (k + 1)) cs = _ := addL_take_succ args t.kids cs k hk
  have hkA : some A ≠ kv.ownBlock := fun e => by have := (hkv _ e).1; omega
  refine ⟨?_, ?_, ?_, ?_, ⟨?_, ?_, ?_, ?_, ?_⟩, ?_, ?_⟩
  · rw [e1]
    refine hg.next2 (fun b hb hb2 => ?_) (fun b e hb => ?_) (fun b C hS hb _ => ?_)
    · refine ⟨?_, fun e => ?_⟩
      · rcases hb with hb | hb
        · exact hb.1
        · exact Or.inr (by omega)
      · rcases hw5 with e5 | ⟨g, e5, hg5⟩
        · rw [e5] at e
          rcases hb with hb | hb
          · exact hb.2 e
          · have := (hkv b e).2; omega
        · rw [e5] at e
          simp only [Option.some.injEq] at e
          omega
    · obtain ⟨ys, hy⟩ := hg.row
      exact k5 b hb (own_ne hy q4 b e)
    · rcases hS with hS | hS
      · exact k5 b hb hS.2
      · exact k5 b hb (fun e => by have := (hkv b e).2; omega)
  · rw [k5 A (by omega) hkA]; exact hA2
  · rw [e1]; exact hst
  · rw [k5 _ (by omega) (fun e => by have := (hkv _ e).1; omega), k2 _ (by omega) (fun e => by rcases h.gown _ e with e | e; have := hg0 _ e.symm; omega; omega) (by omega)]
    exact h.ebx
  · rw [hgr5.os]; exact hgr.os.trans h.kept.os
  · rw [hgr5.tape]; exact hgr.tape.trans h.kept.tape
  · rw [hgr5.output]; exact hgr.output.trans h.kept.output
  · omega
  · intro b hb hn hne
    rw [k5 b (by omega) (fun e => by have := (hkv _ e).1; omega), k2 b (by omega) (fun e => by rcases h.gown _ e with e | e; exact hn e; omega) hne]
    exact h.kept.block b hb hn hne
  · omega
  · rcases how with e | ⟨g, e, hg⟩
    · rw [e]; exact h.own
    · exact Or.inr ⟨g, e, by omega⟩
/-- behind all operands: the cell -/
theorem fd_end {args : List Nat} {t : Tr} {cs : List Ce} {lo A : Nat} {S : Nat → Prop} {gv0 ebox : Value} {w : World} {gv kv : Value} {wr : World} (h : FdRel args t cs lo S A gv0 ebox w t.kids.length gv kv wr) (h1 : ¬ t.op = 1) (hg0 : ∀ b, gv0.ownBlock = some b → b < w.heap.size) (hA : A < w.heap.size) (ho : I64 t.op) (hn : I64 t.num) {xs : List Value}
    (hx : wr.ownsRow lo 45 3 gv (addL args t.kids cs).1.length xs) {e : Ending} {w' : World} (hr : CloRes A lo (addL args t.kids cs).1.length t.op t.num gv kv xs wr e w') : FdRes (addT args t cs) lo S gv0 A w e w' := by
  obtain ⟨ob, v', w5, rfl, hown, hg, hw, rfl⟩ := hr
  have hs := h.size
  have hG := h.graph
  have hK := h.kids
  rw [List.take_length] at hG hK
  have hz : ∀ o1 o2, ((((wr.alloc ob).alloc o1).alloc o2)).heap.size = wr.heap.size + 3 := fun o1 o2 => by rw [Deep.nblk_alloc, Deep.nblk_alloc, Deep.nblk_alloc]
  have hs5 := hg.size
  rw [hz] at hs5 hw
  have hkeep : ∀ o1 o2 b, b < wr.heap.size → (((wr.alloc ob).alloc o1).alloc o2).heap[b]? = wr.heap[b]? := fun o1 o2 b hb => (Deep.blk_alloc_lt _ _ _ (by rw [Deep.nblk_alloc, Deep.nblk_alloc]; omega)).trans ((Deep.blk_alloc_lt _ _ _ (by rw [Deep.nblk_alloc]; omega)).trans (Deep.blk_alloc_lt _ _ _ hb))
  have hG4 : OwnC (((wr.alloc ob).alloc (.cells #[.int .i64 t.op, .int .i64 t.num, kv] 45)).alloc (.cells #[.int .i64 t.op, .int .i64 t.num, kv] 45)) lo (SF w S kv) (addL args t.kids cs).1 gv := hG.next (fun _ h _ => h) (fun b _ hb => hkeep _ _ b hb) (fun b _ hb => hkeep _ _ b hb)
  obtain ⟨blk, hb1, hb2, hb3⟩ : ∃ blk, w.heap.size ≤ blk ∧ ¬ SF w S kv blk ∧ KRowS (((wr.alloc ob).alloc (.cells #[.int .i64 t.op, .int .i64 t.num, kv] 45)).alloc (.cells #[.int .i64 t.op, .int .i64 t.num, kv] 45)) (fun b => b = blk) ((addL args t.kids cs).2.map fun (a : Nat) => (a : Int)) blk kv := by
    obtain ⟨blk, h1, h2⟩ := stk_krow (((hK.alloc ob).alloc (.cells #[.int .i64 t.op, .int .i64 t.num, kv] 45)).alloc (.cells #[.int .i64 t.op, .int .i64 t.num, kv] 45))
    by_cases he : (addL args t.kids cs).2 = []
    · refine ⟨w.heap.size, Nat.le_refl _, fun h => by rcases h.1 with h | h <;> omega, ?_⟩
      obtain ⟨ad, cap, e, l1, l2, -⟩ := h2
      exact ⟨ad, cap, e, l1, l2, Or.inl (by rw [he]; rfl)⟩
    · exact ⟨blk, by have := (own_some hK blk (h1 he)).1; omega, fun h => h.2 (h1 he).symm, h2⟩
  have hx4 := own_keep hx (w' := ((wr.alloc ob).alloc (.cells #[.int .i64 t.op, .int .i64 t.num, kv] 45)).alloc (.cells #[.int .i64 t.op, .int .i64 t.num, kv] 45)) (fun b _ hb => hkeep _ _ b hb)
  have hst := hG4.step (c := ⟨t.op, t.num, (addL args t.kids cs).2.map fun (a : Nat) => (a : Int)⟩) (v' := v') ⟨ho, hn⟩ hb3 hb2 xs hx4 hown hg
  have hAg : some A ≠ gv.ownBlock := cells_ne_arena h.arena hx
  have hA5 : w5.heap[A]? = some (.cells #[gv] 51) := ((hg.block A (by rw [hz]; omega) hAg).trans (hkeep _ _ A (by omega))).trans h.arena
  have hAv : some A ≠ v'.ownBlock := cells_ne_arena hA5 hown
  rw [addT_other cs h1]
  refine ⟨v', rfl, hst.next2 (fun b hb _ => ?_) (fun b e hb => Below.heap_setCell _ _ _ _ (fun e2 => hAv (by have e3 : b = A := e2; rw [← e3]; exact e))) (fun b C hS hb hC => Below.heap_setCell _ _ _ _ (fun e2 => ?_)), ?_, ⟨?_, ?_, ?_, ?_, ?_⟩, ?_⟩
  · rcases hb with hb | rfl
    · rcases hb.1 with hb | hb
      · exact Or.inl hb.1
      · exact Or.inr (by omega)
    · exact Or.inr hb1
  · have e3 : b = A := e2
    subst e3
    rw [hA5] at hC
    simp at hC
  · simp [World.setCell, Array.getElem?_modify, hA5]
  · show w5.os = w.os
    rw [hg.os]; exact h.kept.os
  · show w5.tape = w.tape
    rw [hg.tape]; exact h.kept.tape
  · show w5.output = w.output
    rw [hg.output]; exact h.kept.output
  · rw [size_setCell]; omega
  · intro b hb hn hne
    rw [Below.heap_setCell _ _ _ _ hne, hg.block b (by rw [hz]; omega) (fun e => by rcases h.gown _ e with e | e; exact hn e; omega), hkeep _ _ b (by omega)]
    exact h.kept.block b hb hn hne
  · rcases hw with e | ⟨g, e, hg⟩
    · rw [e]
      rcases h.own with e | ⟨g, e, hg⟩
      · exact Or.inl e
      · exact Or.inr ⟨g, e, by omega⟩
    · exact Or.inr ⟨g, e, by omega⟩

theorem own_not {w : World} {lo n b : Nat} {v : Value} {xs : List Value} {C : Array Value} {T : TypeId} (hx : w.ownsRow lo 45 3 v n xs) (hb : w.heap[b]? = some (.cells C T)) (hT : ¬ 45 = T) : some b ≠ v.ownBlock := by
  intro e
  rcases hx.2 with ⟨rfl, -⟩ | ⟨g, cap, cur, rfl, -, hh, -⟩
  · simp [Value.ownBlock] at e
  · simp only [Value.ownBlock, Option.some.injEq] at e
    subst e
    rw [hh] at hb
    simp at hb
    exact hT hb.2
theorem fd_stk {args : List Nat} {t : Tr} {cs : List Ce} {lo A : Nat} {S : Nat → Prop} {gv0 ebox : Value} {w : World} {k : Nat} {gv kv : Value} {wr : World} (h : FdRel args t cs lo S A gv0 ebox w k gv kv wr) (hA : A < w.heap.size) (o1 : Obj) {w2 : World} (hgr : Kept (wr.alloc o1) w2 A gv.ownBlock) : Stk w2 (w.heap.size + 1) (addL args (t.kids.take k) cs).2 kv := by
  obtain ⟨ys, hy⟩ := h.graph.row
  refine ⟨h.kids.1, ?_⟩
  rcases h.kids.2 with h' | ⟨g, cap, cur, rfl, hg, hh, r⟩
  · exact Or.inl h'
  · have hl := (Array.getElem?_eq_some_iff.1 hh).1
    exact Or.inr ⟨g, cap, cur, rfl, hg, ((hgr.block g (by rw [Deep.nblk_alloc]; omega) (fun e => own_ne hy h.kids g e rfl) (by omega)).trans (Deep.blk_alloc_lt _ _ _ hl)).trans hh, r⟩
/-- the closure, at a variable -/
def CloVar (a : Nat) (w : World) (e : Ending) (w' : World) : Prop := e = .returned (.int .i64 (a : Int)) ∧ Below w.heap.size w w'
theorem fd_var {args : List Nat} {t : Tr} {cs : List Ce} {lo A : Nat} {S : Nat → Prop} {gv0 ebox : Value} {w : World} {gv kv : Value} {wr : World} (h : FdRel args t cs lo S A gv0 ebox w t.kids.length gv kv wr) (h1 : t.op = 1) (hk : t.kids = []) {n : Nat} (hnn : t.num = n) (hn : n < args.length) {e : Ending} {w' : World} (hr : CloVar args[n] wr e w') : FdRes (addT args t cs) lo S gv0 A w e w' := by
  obtain ⟨rfl, hb⟩ := hr
  have hs := h.size
  have hG := h.graph
  rw [List.take_length, hk] at hG
  simp only [addL] at hG
  rw [addT_var cs h1, hnn]
  have e1 : args.getD (n : Int).toNat 0 = args[n] := by simp [hn]
  rw [e1]
  have hAl := (Array.getElem?_eq_some_iff.1 h.arena).1
  refine ⟨gv, rfl, hG.next (fun b hb _ => ?_) (fun b _ hb' => hb.block b hb') (fun b _ hb' => hb.block b hb'), (hb.block A hAl).trans h.arena, ⟨hb.os.trans h.kept.os, hb.tape.trans h.kept.tape, hb.output.trans h.kept.output, by have := hb.size; omega, fun b hb' hn' hne => (hb.block b (by omega)).trans (h.kept.block b hb' hn' hne)⟩, ?_⟩
  · rcases hb.1 with hb | hb
    · exact Or.inl hb.1
    · exact Or.inr (by omega)
  · rcases h.own with e | ⟨g, e, hg⟩
    · exact Or.inl e
    · exact Or.inr ⟨g, e, by omega⟩

end Go.Proofs.Ytjpjikfmdaejeaa
/-
  THE PROGRAM's addExpr in an arena, and arenaOf at no graph.
-/
namespace Go.Proofs.Ytjpjikfmdaejeaa
set_option linter.unusedVariables false
set_option linter.unusedSimpArgs false
open Go.RowKit

theorem OwnC.down {w : World} {lo lo' : Nat} {S S' : Nat → Prop} {g : List Ce} {v : Value} (h : OwnC w lo S g v) (hl : lo' ≤ lo) (hS : ∀ k, S k → S' k) : OwnC w lo' S' g v := by
  obtain ⟨hi0, xs, kb, h1, h2, h3⟩ := h.next (S' := S') (fun k hk _ => hS k hk) (fun _ _ _ => rfl) (fun _ _ _ => rfl)
  refine ⟨hi0, xs, kb, ⟨h1.1, ?_⟩, h2, h3⟩
  rcases h1.2 with h | ⟨b, cap, cur, rfl, hg, r⟩
  · exact Or.inl h
  · exact Or.inr ⟨b, cap, cur, rfl, Nat.le_trans hl hg, r⟩
theorem fdRes_down {r : List Ce × Nat} {lo A : Nat} {S : Nat → Prop} {gv : Value} {w W : World} {e : Ending} {w' : World} (h : FdRes r lo S gv A W e w') (hb : Below w.heap.size w W) : FdRes r lo S gv A w e w' := by
  obtain ⟨gv', h1, h2, h3, h4, h5⟩ := h
  have hs := hb.size
  refine ⟨gv', h1, h2.next (fun b hb _ => hb.imp id fun h => by omega) (fun _ _ _ => rfl) (fun _ _ _ => rfl), h3, ⟨h4.os.trans hb.os, h4.tape.trans hb.tape, h4.output.trans hb.output, Nat.le_trans hs h4.size, fun k hk hn hne => (h4.block k (by omega) hn hne).trans (hb.block k hk)⟩, ?_⟩
  rcases h5 with e | ⟨g, e, hg⟩
  · exact Or.inl e
  · exact Or.inr ⟨g, e, by omega⟩

set_option maxRecDepth 100000 in
set_option maxHeartbeats 1600000 in
theorem arena0 (w : World) : Calls Try.prog 40 #[.slice none 0 0] w fun e w' => e = .returned (.pointer (some ⟨w.heap.size, 0, none⟩)) ∧ w' = w.alloc (.cells #[.slice none 0 0] 51) := by
  go_enter Try.func40, Try.ntmps40
  go_wp2_with fail
  go_loopw [10] (fun i wr => i = .int .i64 0 ∧ wr = w.alloc (.cells #[.slice none 0 0] 51)) (fun i _ => 0)
  case atStart => exact ⟨rfl, rfl⟩
  case round =>
    obtain ⟨rfl, rfl⟩ := hrel
    go_wp2_with fail
    go_ret
    exact ⟨rfl, rfl⟩

end Go.Proofs.Ytjpjikfmdaejeaa
/-
  THE PROGRAM's arenaOf: a copy of a graph's cells.
-/
namespace Go.Proofs.Ytjpjikfmdaejeaa
set_option linter.unusedVariables false
set_option linter.unusedSimpArgs false
open Go.RowKit

/-- what holds behind some cells -/
def ArRel (lo A : Nat) (w : World) (G : List Ce) (wr : World) : Prop := ∃ gv, OwnC wr lo (fun b => lo ≤ b) G gv ∧ wr.heap[A]? = some (.cells #[gv] 51) ∧ Below w.heap.size w wr
theorem arena_push {w wr w1 w' : World} {lo A : Nat} {G : List Ce} {gv kv : Value} {ws : List Nat} {o m : Int} {xs : List Value} {e : Ending} (h : OwnC wr lo (fun b => lo ≤ b) G gv) (hA : wr.heap[A]? = some (.cells #[gv] 51)) (hw : Below w.heap.size w wr) (hwl : w.heap.size ≤ lo) (hlo : lo ≤ wr.heap.size) (hlA : lo ≤ A) (hb : Below wr.heap.size wr w1) (hst : Stk w1 wr.heap.size ws kv)
    (hx : w1.ownsRow lo 45 3 gv G.length xs) (ho : I64 o) (hm : I64 m) (hr : Added A lo G.length o m gv kv xs w1 e w') : e = .returned (.int .i64 (G.length : Int)) ∧ ArRel lo A w (G ++ [⟨o, m, ws.map fun (a : Nat) => (a : Int)⟩]) w' := by
  obtain ⟨v', w5, rfl, hown, hg, hwv, rfl⟩ := hr
  have hAl : A < wr.heap.size := (Array.getElem?_eq_some_iff.1 hA).1
  have hs1 := hb.size
  have hp := copy_push h hlo (hb.alloc hs1 (.cells #[.int .i64 o, .int .i64 m, kv] 45)) (hst.alloc _) _ (own_keep (own_keep hx (fun k _ hk => Deep.blk_alloc_lt _ _ _ hk)) (fun k _ hk => Deep.blk_alloc_lt _ _ _ hk)) hown hg ho hm
  have hA1 : w1.heap[A]? = some (.cells #[gv] 51) := (hb.block A hAl).trans hA
  have hA5 : w5.heap[A]? = some (.cells #[gv] 51) := ar_keep hA1 hx hg
  have hAv : some A ≠ v'.ownBlock := cells_ne_arena hA5 hown
  have hs5 := hg.size
  rw [Deep.nblk_alloc, Deep.nblk_alloc] at hs5
  have hsw := hw.size
  refine ⟨rfl, v', hp.next2 (fun _ h _ => h) (fun b e hb => Below.heap_setCell _ _ _ _ (fun e2 => hAv (by have e3 : b = A := e2; rw [← e3]; exact e))) (fun b C hS hb hC => Below.heap_setCell _ _ _ _ (fun e2 => ?_)), ?_, ⟨?_, ?_, ?_, ?_, ?_⟩⟩
  · have e3 : b = A := e2
    subst e3
    rw [hA5] at hC
    simp at hC
  · simp [World.setCell, Array.getElem?_modify, hA5]
  · show w5.os = w.os
    exact (hg.os.trans hb.os).trans hw.os
  · show w5.tape = w.tape
    exact (hg.tape.trans hb.tape).trans hw.tape
  · show w5.output = w.output
    exact (hg.output.trans hb.output).trans hw.output
  · rw [size_setCell]; omega
  · intro k hk
    rw [Below.heap_setCell _ _ _ _ (by show k ≠ A; omega), hg.block k (by rw [Deep.nblk_alloc, Deep.nblk_alloc]; omega) (fun e => by have := (own_some hx k e.symm).1; omega), Deep.blk_alloc_lt _ _ _ (by rw [Deep.nblk_alloc]; omega), Deep.blk_alloc_lt _ _ _ (by omega), hb.block k (by omega)]
    exact hw.block k hk

theorem stk_down {w : World} {lo lo' : Nat} {ws : List Nat} {v : Value} (h : Stk w lo ws v) (hl : lo' ≤ lo) : Stk w lo' ws v := by
  refine ⟨h.1, ?_⟩
  rcases h.2 with h | ⟨g, cap, cur, rfl, hg, r⟩
  · exact Or.inl h
  · exact Or.inr ⟨g, cap, cur, rfl, Nat.le_trans hl hg, r⟩
theorem stk_len3 {w : World} {lo n : Nat} {ws : List Nat} {v : Value} (h : Stk w lo ws v) (hn : ws.length = n) : ∃ ad cap, v = .slice ad n cap := by
  obtain ⟨a, c, e⟩ := h.len
  exact ⟨a, c, by rw [e, hn]⟩
theorem added_keep {A lo n : Nat} {o m : Int} {gv kv : Value} {xs : List Value} {w : World} {e : Ending} {w' : World} (h : Added A lo n o m gv kv xs w e w') (b : Nat) (hb : b < w.heap.size) (hn : some b ≠ gv.ownBlock) (hA : b ≠ A) : w'.heap[b]? = w.heap[b]? := by
  obtain ⟨v', w5, rfl, -, hg, -, rfl⟩ := h
  rw [Below.heap_setCell _ _ _ _ hA, hg.block b (by rw [Deep.nblk_alloc, Deep.nblk_alloc]; omega) hn, Deep.blk_alloc_lt _ _ _ (by rw [Deep.nblk_alloc]; omega), Deep.blk_alloc_lt _ _ _ hb]
/-- the arena, at the caller's next block -/
def ArenaRes (g : List Ce) (w : World) (e : Ending) (w' : World) : Prop := e = .returned (.pointer (some ⟨w.heap.size, 0, none⟩)) ∧ ArRel w.heap.size w.heap.size w g w'
set_option maxRecDepth 100000 in
set_option maxHeartbeats 1600000 in
theorem arenaOf_calls (g : List Ce) (v : Value) (w : World) (hk : CIn w g v) (hg : ∃ defs, graphB g defs = true) : Calls Try.prog 40 #[v] w (ArenaRes g w) := by
  have HK : Hid (CIn w g v) := hk
  obtain ⟨defs, hg⟩ := hg
  have HG : Hid (graphB g defs = true) := hg
  obtain ⟨ad, cap, rfl, hl, hm, -⟩ := hk
  unfold maxLen at hm
  have h400 : g.length ≤ 400 := graphB_len hg
  clear hg
  have HST : Hid (ArRel w.heap.size w.heap.size w (g.take 0) (w.alloc (.cells #[.slice none 0 0] 51))) := ⟨_, OwnC.nil _ _ _, Deep.blk_alloc_new _ _, box_below _ _⟩
  go_enter Try.func40, Try.ntmps40
  go_wp2_with fail
  go_loopw [10] (fun i wr => ∃ k : Nat, k ≤ g.length ∧ i = .int .i64 k ∧ ArRel w.heap.size w.heap.size w (g.take k) wr) (fun i _ => g.length - (intOf i).toNat)
  case atStart => exact ⟨0, Nat.zero_le _, rfl, HST.out⟩
  case round =>
    obtain ⟨k, hk, rfl, hrel⟩ := hrel
    have HR : Hid (ArRel w.heap.size w.heap.size w (g.take k) wr) := hrel
    obtain ⟨gv, hog, hA, hb⟩ := hrel
    by_cases hlt : k < g.length
    · obtain ⟨bl, off, r2, rfl, c0w, c1w, c2w, io, iN, hkk⟩ := HK.out.at k hlt
      have HLW : Hid (bl < w.heap.size) := cell_lt c0w
      have c0 := (hb.cell (p := ⟨bl, off + k * 3, none⟩) HLW.out).trans c0w
      have c1 := (hb.cell (p := ⟨bl, off + k * 3 + 1, none⟩) HLW.out).trans c1w
      have c2 := (hb.cell (p := ⟨bl, off + k * 3 + 2, none⟩) HLW.out).trans c2w
      have HIO : Hid (I64 g[k].op ∧ I64 g[k].num) := ⟨io, iN⟩
      have HKK : Hid (IIn wr ((kidsN g k).map fun (a : Nat) => (a : Int)) r2) := by rw [← kids_back HG.out k hlt]; exact hkk.next hb
      have HK3 : Hid (g[k].kids.length ≤ 3) := (kids_graph HG.out k hlt).1
      have HKN : Hid ((kidsN g k).length = g[k].kids.length) := by rw [Hid, kidsN_at k hlt]; simp
      have HTL : Hid ((g.take k).length = k) := by rw [Hid, List.length_take]; omega
      obtain ⟨adk, capk, rfl, -, -, -⟩ := id hkk
      have HOG : Hid (OwnC wr w.heap.size (fun b => w.heap.size ≤ b) (g.take k) gv) := hog
      have HAA : Hid (wr.heap[w.heap.size]? = some (.cells #[gv] 51)) := hA
      have HB : Hid (Below w.heap.size w wr) := hb
      clear hkk io iN c0w c1w c2w hog hA hb
      obtain ⟨xs, hx⟩ := HOG.out.row
      have HX : Hid (wr.ownsRow w.heap.size 45 3 gv (g.take k).length xs) := hx
      have b0 := box_cell wr #[.int .i64 g[k].op, .int .i64 g[k].num, .slice adk g[k].kids.length capk] 45 0 _ rfl
      have b1 := box_cell wr #[.int .i64 g[k].op, .int .i64 g[k].num, .slice adk g[k].kids.length capk] 45 1 _ rfl
      have b2 := box_cell wr #[.int .i64 g[k].op, .int .i64 g[k].num, .slice adk g[k].kids.length capk] 45 2 _ rfl
      clear hx
      go_wp2_with fail
      go_region_held3 (fun w' => w'.cell? ⟨wr.heap.size, 0, none⟩ = some (.int .i64 g[k].op) ∧ w'.cell? ⟨wr.heap.size, 1, none⟩ = some (.int .i64 g[k].num) ∧ w'.cell? ⟨wr.heap.size, 2, none⟩ = some (.slice adk g[k].kids.length capk))
        (first
          | go_keep
          | exact ⟨e0, e1, e2⟩
          | exact ⟨d0, d1, d2⟩
          | exact ⟨b0, b1, b2⟩)
        (first
          | (go_at_call 54; refine (cloneI_calls (kidsN g k) _ ((wr.alloc (.cells #[.int .i64 g[k].op, .int .i64 g[k].num, .slice adk g[k].kids.length capk] 45)).drew) (HKK.out.next ((box_below wr _).drew)) (by rw [HKN.out]; have := HK3.out; omega)).mono ?_; rintro e w1 ⟨v1, rfl, hst1, hb1⟩; have HB1 : Hid (Below wr.heap.size wr w1) := ((box_below wr _).drew).trans (hb1.mono (by show wr.heap.size ≤ (wr.alloc _).heap.size; rw [Deep.nblk_alloc]; omega)); have HST1 : Hid (Stk w1 wr.heap.size (kidsN g k) v1) := stk_down hst1 (by show wr.heap.size ≤ (wr.alloc _).heap.size; rw [Deep.nblk_alloc]; omega); have hbx := (hb1.block wr.heap.size (by show wr.heap.size < (wr.alloc _).heap.size; rw [Deep.nblk_alloc]; omega)).trans (Deep.blk_alloc_new wr _); have HBX := mkHid hbx; have d0 := cell_of_blk hbx 0 _ rfl; have d1 := cell_of_blk hbx 1 _ rfl; have d2 := cell_of_blk hbx 2 _ rfl; obtain ⟨ad1, cap1, rfl⟩ := stk_len3 hst1 HKN.out; clear hst1 hb1 hbx)
          | (go_at_call 53; refine (add_calls w.heap.size w.heap.size (g.take k).length g[k].op g[k].num gv ad1 g[k].kids.length cap1 xs w1 ((HB1.out.block _ (cellsOf_lt HAA.out)).trans HAA.out) (own_keep HX.out (fun b _ hb => HB1.out.block b hb)) (Nat.le_trans HB.out.size HB1.out.size) (by rw [HTL.out]; omega)).mono ?_; rintro e w5 hr; have hk5 := added_keep hr wr.heap.size (cellsOf_lt HBX.out) (fun e => by have := (own_some HX.out _ e.symm).2; omega) (by have := cellsOf_lt HAA.out; omega); have hbx5 := hk5.trans HBX.out; have e0 := cell_of_blk hbx5 0 _ rfl; have e1 := cell_of_blk hbx5 1 _ rfl; have e2 := cell_of_blk hbx5 2 _ rfl; have hp := arena_push (w := w) (ws := kidsN g k) HOG.out HAA.out HB.out (Nat.le_refl _) HB.out.size (Nat.le_refl _) HB1.out HST1.out (own_keep HX.out (fun b _ hb => HB1.out.block b hb)) HIO.out.1 HIO.out.2 hr; obtain ⟨rfl, hrel5⟩ := hp; have HREL5 := mkHid hrel5; clear hr hk5 hbx5 hrel5))
      go_wp2_with fail
      go_roundw
      case rel =>
        refine ⟨k + 1, by omega, by go_num, ?_⟩
        have h := HREL5.out
        rw [← kids_back HG.out k hlt] at h
        rw [List.take_succ_eq_append_getElem hlt]
        exact h
      case measure => simp [intOf]; omega
    · have hke : k = g.length := by omega
      have HE : Hid (ArRel w.heap.size w.heap.size w g wr) := by
        have h := HR.out
        rw [hke, List.take_length] at h
        exact h
      clear hke hog hA hb
      go_wp2_with fail
      go_ret
      exact ⟨rfl, HE.out⟩
end Go.Proofs.Ytjpjikfmdaejeaa
/-
  THE PROGRAM's selectParts AND SelectGraph.
-/
namespace Go.Proofs.Ytjpjikfmdaejeaa
set_option linter.unusedVariables false
set_option linter.unusedSimpArgs false
open Go.RowKit Go.Maps

def slLen (v : Value) : Nat := match v with | .slice _ n _ => n | _ => 0
/-- how much is left to do, at most -/
def selLeft (g : List Ce) (m l : Nat) : Nat := (g.countP selB - m) * (g.length + 1) + l
/-- what holds of a round -/
structure SpR (A M lo : Nat) (g : List Ce) (w : World) (m n : Nat) (work : List Nat) (wt : Nat → List Nat) (G : List Ce) (S : Nat → Prop) (gv wv : Value) (wr : World) : Prop where
  rel : SelR g G m
  wl : WL G work wt
  mem : SpM A M lo n work wt G S gv wv wr
  bel : Below lo w wr
  num : n + selLeft g m work.length ≤ 200000
/-- what selectParts leaves -/
def SelDone (A lo : Nat) (r : List Ce × Nat) (w : World) (e : Ending) (w' : World) : Prop :=
  e = .returned (.int .i64 (r.2 : Int)) ∧ ∃ ad cap, w'.heap[A]? = some (.cells #[.slice ad r.1.length cap] 51) ∧ OwnC w' lo (fun b => lo ≤ b) r.1 (.slice ad r.1.length cap) ∧ Below lo w w'
theorem sel_le {g G : List Ce} {m : Nat} (hg : graphB g 6 = true) (h : SelR g G m) : m ≤ g.countP selB ∧ g.countP selB ≤ g.length := by
  have := (selR_inv hg h).cnt
  exact ⟨by omega, List.countP_le_length⟩
/-- one less to do: a cell is dropped, or waits -/
theorem left_drop {g : List Ce} {m n l : Nat} (h : n + selLeft g m (l + 1) ≤ 200000) : n + 1 + selLeft g m l ≤ 200000 ∧ n + selLeft g m l ≤ 200000 := by unfold selLeft at *; omega
theorem left_make {g : List Ce} {m n l l' : Nat} (h : n + selLeft g m (l + 1) ≤ 200000) (hm : m < g.countP selB) (hl : l' ≤ g.length) : n + selLeft g (m + 1) l' ≤ 200000 ∧ selLeft g (m + 1) l' < selLeft g m (l + 1) := by
  unfold selLeft at *
  have e : (g.countP selB - m) * (g.length + 1) = (g.countP selB - (m + 1)) * (g.length + 1) + (g.length + 1) := by
    rw [show g.countP selB - m = (g.countP selB - (m + 1)) + 1 by omega, Nat.succ_mul]
  omega
theorem SpR.fin {A M lo m n : Nat} {g : List Ce} {w wr : World} {wt : Nat → List Nat} {G : List Ce} {S : Nat → Prop} {gv wv : Value} (hg : graphB g 6 = true) (h : SpR A M lo g w m n [] wt G S gv wv wr) : SelDone A lo (selRes g) w (.returned (.int .i64 (m : Int))) wr := by
  have e := selRes_eq hg h.rel h.wl.fin
  rw [e]
  obtain ⟨ad, cap, rfl⟩ := h.mem.own.form
  exact ⟨rfl, ad, cap, h.mem.box, h.mem.own.next (fun k hk _ => (h.mem.sl k hk).1) (fun _ _ _ => rfl) (fun _ _ _ => rfl), h.bel⟩
/-- a cell is dropped -/
theorem SpR.dead {A M lo m n i : Nat} {g : List Ce} {w wr wr' : World} {rest : List Nat} {wt : Nat → List Nat} {G : List Ce} {S : Nat → Prop} {gv wv wv' : Value} (h : SpR A M lo g w m n (rest ++ [i]) wt G S gv wv wr) (hm : SpM A M lo n rest wt G S gv wv' wr') (hb : Below wr.heap.size wr wr')
    (hl : lo ≤ wr.heap.size) (hd : followN G G.length (kidAt G i 0) = none ∨ ∃ k, followN G G.length (kidAt G i 0) = some k ∧ opAt G k ≠ 5 ∧ ¬ isSel G k) : SpR A M lo g w m n rest wt G S gv wv' wr' :=
  ⟨h.rel, h.wl.dead hd, hm, h.bel.trans (hb.mono hl), by have := h.num; rw [List.length_append] at this; exact (left_drop this).2⟩
/-- a cell waits -/
theorem SpR.wait {A M lo m n i k : Nat} {g : List Ce} {w wr wr' : World} {rest : List Nat} {wt : Nat → List Nat} {G : List Ce} {S : Nat → Prop} {gv wv wv' : Value} (h : SpR A M lo g w m n (rest ++ [i]) wt G S gv wv wr) (hm : SpM A M lo (n + 1) rest (fun y => if y = k then wt k ++ [i] else wt y) G S gv wv' wr') (hb : Below lo wr wr')
    (hf : followN G G.length (kidAt G i 0) = some k) (hk : isSel G k) : SpR A M lo g w m (n + 1) rest (fun y => if y = k then wt k ++ [i] else wt y) G S gv wv' wr' :=
  ⟨h.rel, h.wl.wait hf hk, hm, h.bel.trans hb, by have := h.num; rw [List.length_append] at this; exact (left_drop this).1⟩
/-- a selection is made -/
theorem SpR.make {A M lo m n i k : Nat} {g : List Ce} {w wr wr' : World} {rest : List Nat} {wt : Nat → List Nat} {G : List Ce} {S S' : Nat → Prop} {gv wv wv' : Value} (hg : graphB g 6 = true) (h : SpR A M lo g w m n (rest ++ [i]) wt G S gv wv wr) (hm : SpM A M lo n (rest ++ wt i) wt (selAt G i k) S' gv wv' wr') (hb : Below lo wr wr') (he : Enabled G i k) :
    SpR A M lo g w (m + 1) n (rest ++ wt i) wt (selAt G i k) S' gv wv' wr' ∧ selLeft g (m + 1) (rest ++ wt i).length < selLeft g m (rest.length + 1) := by
  have h1 := h.wl.make he
  have h2 := (sel_le hg (h.rel.step he)).1
  have h3 := h1.len
  rw [selAt_len, (selR_inv hg h.rel).len] at h3
  have h4 := h.num
  rw [List.length_append] at h4
  obtain ⟨h5, h6⟩ := left_make h4 (by omega) h3
  exact ⟨⟨h.rel.step he, h1, hm, h.bel.trans hb, h5⟩, h6⟩
theorem grown_alloc {w w' : World} {o : Obj} {row : Option Nat} (h : (w.alloc o).grownBy w' row) : w.grownBy w' row :=
  ⟨h.os, h.tape, h.output, by have h1 := h.size; rw [Deep.nblk_alloc] at h1; omega, fun k hk hn => (h.block k (by rw [Deep.nblk_alloc]; omega) hn).trans (Deep.blk_alloc_lt _ _ _ hk)⟩
/-- a place is added to those that wait -/
theorem wpList_storeG {ops : Array Oper} {rest : List Oper} {o1 : Oper} {a : Act} {Q : Exit → Act → World → Prop} (w : World) (hg : o1.guard = none) (m x z : Operand) (hop : o1.op = Op.mapUpdate 70 m x z) {w0 : World} {M n q : Nat} {ws : List Nat} {wt : Nat → List Nat} {No : Nat → Prop} {D : DataW Unit} {v v' : Value}
    (hn : n ≤ 1048576) (hq : q ≤ 1048576) (hown : w0.ownsGroups Try.prog 3 (M + 1) 3 .i64 M n D) (hD : MapG D wt) (hst0 : Stk w0 (M + 1) (wt q) v) (hS : w0.Shuns M No) (hno : ∀ k, some k = v'.ownBlock → ¬ No k)
    (hback : w0.groupBack Try.prog 70 3 (M + 1) 3 .i64 M n D (.int .i64 (q : Int)) (.int .i64 (q : Int)) v) (hm : a.eval m = .map (some M)) (hx : a.eval x = .int .i64 (q : Int)) (hz : a.eval z = v')
    (hgr : w0.grownBy w v.ownBlock) (hst : Stk w (M + 1) ws v') (hne : ws ≠ []) (hw : ∀ y ∈ ws, y ≤ 1048576) (hw0 : ∀ y ∈ wt q, y ≤ 1048576) (hl : ws.length ≤ n + 1) (hloc : v'.ownBlock = v.ownBlock ∨ ∃ g, v'.ownBlock = some g ∧ w0.heap.size ≤ g)
    (hK : ∀ w2 (D' : DataW Unit), w2.ownsGroups Try.prog 3 (M + 1) 3 .i64 M (n + 1) D' → MapG D' (fun y => if y = q then ws else wt y) → w.grownBy w2 (some M) → w2.Shuns M No → wpList Try.prog ops Q rest (a.put o1.dst undef) w2) : wpList Try.prog ops Q (o1 :: rest) a w := by
  refine wpList_mapUpdate_back_shuns (No := No) (zs' := plI ws) w hg m x z 70 hop keyedI Try.underlying70 (keyOf_int_mk Try.underlying3 (litI_wf q hq)) hown (by unfold maxLen; omega) (ints_of hst0 hw0) hS (fun k e => hno k e.symm) hback hm hx hz hgr (ints_of hst hw) (by rw [plI_length]; exact hl) hloc ?_
  intro w2 h1 h2 h3
  exact hK w2 _ h1 (grp_put hD (grp_isMap hown) (ints_of hst hw) hne) h2 h3
/-- where selectParts begins -/
theorem sp_start {A lo : Nat} {g : List Ce} {gv wv : Value} {w w2 : World} (hA : w.heap[A]? = some (.cells #[gv] 51)) (hO : OwnC w lo (fun b => lo ≤ b) g gv) (hla : lo ≤ A) (hlo : lo ≤ w.heap.size) (hg : graphB g 6 = true)
    (hst : Stk w2 (w.alloc (.map #[] 0)).heap.size (selL g g.length) wv) (hb : Below (w.alloc (.map #[] 0)).heap.size (w.alloc (.map #[] 0)) w2) : ∃ S, SpR A w.heap.size lo g w 0 0 (selL g g.length) (fun _ => []) g S gv wv w2 := by
  have hAl := (Array.getElem?_eq_some_iff.1 hA).1
  have hz : (w.alloc (.map #[] 0)).heap.size = w.heap.size + 1 := Deep.nblk_alloc _ _
  have hs := hb.size
  have kp : ∀ k, k < w.heap.size → w2.heap[k]? = w.heap[k]? := fun k hk => (hb.block k (by omega)).trans (Deep.blk_alloc_lt _ _ _ hk)
  obtain ⟨m1, m2⟩ := (GrpW.made w).kept (No := NoG (fun k => lo ≤ k ∧ k < w.heap.size) A gv wv) (World.Shuns_made w _) (below_grown hb) (fun k e => by cases e)
  refine ⟨fun k => lo ≤ k ∧ k < w.heap.size, .zero, WL.start (selL_nodup _ _) fun i => selL_mem g i, ⟨(kp A hAl).trans hA, ?_, hst.lower (by omega), m1, fun k e hk => ?_, m2, fun k hk => ⟨hk.1, by omega⟩, hla, hlo⟩, (box_below w _).mono hlo |>.trans (hb.mono (by omega)), ?_⟩
  · exact hO.next (fun k hk hz => ⟨hk, hz⟩) (fun k _ hz => kp k hz) (fun k _ hz => kp k hz)
  · have := (own_some hst k e.symm).1
    omega
  · have h1 : g.countP selB ≤ g.length := List.countP_le_length
    have h2 := graphB_len hg
    have h3 := selL_len g g.length
    have h4 : (g.countP selB - 0) * (g.length + 1) ≤ 400 * 401 := Nat.mul_le_mul (by omega) (by omega)
    unfold selLeft
    omega
theorem SpM.noLt {A M lo n k : Nat} {work : List Nat} {wt : Nat → List Nat} {G : List Ce} {S : Nat → Prop} {gv wv : Value} {w : World} (h : SpM A M lo n work wt G S gv wv w) (hk : NoG S A gv wv k) : k < w.heap.size := by
  rcases hk with hk | rfl | hk | hk
  · exact (h.sl k hk).2
  · exact h.alt
  · exact (h.gb k hk).2.1
  · exact (h.wb k hk).2.1
/-- the row behind one place more for those that wait -/
theorem SpM.noNew {A M lo n : Nat} {work : List Nat} {wt : Nat → List Nat} {G : List Ce} {S : Nat → Prop} {gv wv v v' : Value} {w : World} {o : Obj} (h : SpM A M lo n work wt G S gv wv w) (hv : ∀ k, some k = v.ownBlock → ¬ NoG S A gv wv k) (hw : v'.ownBlock = v.ownBlock ∨ v'.ownBlock = some (w.alloc o).heap.size) :
    (∀ k, some k = v'.ownBlock → ¬ NoG S A gv wv k) ∧ (v'.ownBlock = v.ownBlock ∨ ∃ g, v'.ownBlock = some g ∧ w.heap.size ≤ g) := by
  rw [Deep.nblk_alloc] at hw
  refine ⟨fun k e => ?_, hw.imp id fun e => ⟨_, e, by omega⟩⟩
  rcases hw with hw | hw
  · exact hv k (e.trans hw)
  · rw [hw] at e
    simp only [Option.some.injEq] at e
    intro hn
    have := h.noLt hn
    omega
end Go.Proofs.Ytjpjikfmdaejeaa
/-
  THE PROGRAM's selectParts: the walk.
-/
namespace Go.Proofs.Ytjpjikfmdaejeaa
set_option linter.unusedVariables false
set_option linter.unusedSimpArgs false
open Go.RowKit Go.Maps

theorem OwnC.lower2 {w : World} {lo lo' : Nat} {S S' : Nat → Prop} {g : List Ce} {v : Value} (h : OwnC w lo S g v) (hl : lo' ≤ lo) (hS : ∀ b, S b → S' b) : OwnC w lo' S' g v := by
  obtain ⟨h0, xs, kb, h1, h2, h3⟩ := h
  refine ⟨h0, xs, kb, ⟨h1.1, ?_⟩, fun j hj => ?_, h3⟩
  · rcases h1.2 with h | ⟨b, cap, cur, rfl, hg, r⟩
    · exact Or.inl h
    · exact Or.inr ⟨b, cap, cur, rfl, Nat.le_trans hl hg, r⟩
  · obtain ⟨kv, e0, e1, e2, e3⟩ := h2 j hj
    exact ⟨kv, e0, e1, e2, e3.keep (fun k hk _ => hS k hk) fun _ _ _ _ => rfl⟩
theorem len_one_le (l : List Nat) (i : Nat) {n : Nat} (h : l.length ≤ n) (hn : n ≤ 200000) : l.length + [i].length ≤ 1048576 := by simp only [List.length_cons, List.length_nil]; omega
theorem len_one_le2 (l : List Nat) (i : Nat) {n : Nat} (h : l.length ≤ n) : (l ++ [i]).length ≤ n + 1 := by rw [List.length_append]; simp only [List.length_cons, List.length_nil]; omega
theorem snoc_ne (l : List Nat) (i : Nat) : l ++ [i] ≠ [] := by simp
set_option maxRecDepth 100000 in
set_option maxHeartbeats 25600000 in
theorem selectParts_calls (A lo : Nat) (g : List Ce) (gv0 : Value) (w : World) (hA : w.heap[A]? = some (.cells #[gv0] 51)) (hO : OwnC w lo (fun b => lo ≤ b) g gv0) (hla : lo ≤ A) (hlo : lo ≤ w.heap.size) (hg : graphB g 6 = true) :
    Calls Try.prog 41 #[.pointer (some ⟨A, 0, none⟩)] w (SelDone A lo (selRes g) w) := by
  have HG := mkHid hg
  have h400 : g.length ≤ 400 := graphB_len hg
  have hmm := @run_makeMap Try.prog
  have HA := mkHid hA
  have HO := mkHid hO
  have hA1 : (w.alloc (.map #[] 0)).heap[A]? = some (.cells #[gv0] 51) := (Deep.blk_alloc_lt _ _ _ (Array.getElem?_eq_some_iff.1 hA).1).trans hA
  have HA1 := mkHid hA1
  have HC1 := mkHid (((hO.own fun k h _ => h).inn).next (box_below w (.map #[] 0)))
  clear hA hO hg hA1
  go_enter Try.func41, Try.ntmps41
  go_wp2_with fail
  refine (selections_calls A g _ _ HA1.out HC1.out h400).mono ?_
  rintro e w2 ⟨wv0, rfl, hst, hb2⟩
  have HST := mkHid (sp_start HA.out HO.out hla hlo HG.out hst hb2)
  clear hst hb2
  go_wp2_with fail
  go_loopw [3, 5] (fun z pv wr => ∃ (m n : Nat) (work : List Nat) (wt : Nat → List Nat) (G : List Ce) (S : Nat → Prop) (gv : Value), z = .int .i64 m ∧ SpR A w.heap.size lo g w m n work wt G S gv pv wr) (fun z pv _ => selLeft g (intOf z).toNat (slLen pv))
  case atStart =>
    obtain ⟨S, h⟩ := HST.out
    exact ⟨0, 0, _, _, g, S, _, rfl, h⟩
  case round =>
    obtain ⟨m, n, work, wt, G, S, gv, rfl, hr⟩ := hrel
    have HR := mkHid hr
    have hml := sel_le HG.out hr.rel
    have HINV := mkHid (selR_inv HG.out hr.rel)
    have hwl := hr.wl.len
    have hG400 : G.length ≤ 400 := by rw [HINV.out.len]; exact h400
    have hnn : n ≤ 200000 := by have := hr.num; omega
    have HLW : Hid (lo ≤ wr.heap.size) := Nat.le_trans hlo (by have := hr.bel.size; exact this)
    by_cases hlt : 0 < work.length
    · obtain ⟨rest, i, rfl⟩ := split_last work hlt
      obtain ⟨gb, cw, rfl, hc1, hc2, dw, hp⟩ := hr.mem.pop
      have HP := mkHid hp
      obtain ⟨p1, p2, p3⟩ := hr.wl.pop_mem
      have hil := isSel_lt p1
      obtain ⟨adg, capg, rfl⟩ := hr.mem.own.form
      obtain ⟨b, rfl, -, -, -⟩ := hr.mem.own.blkW (by omega)
      have hC := (hr.mem.own.own fun k hk _ => (hr.mem.sl k hk).1).inn
      have HC := mkHid hC
      have hs67 : G[i].op = 6 ∨ G[i].op = 7 := by unfold isSel at p1; rw [opAt_at i hil] at p1; exact p1
      have HS67 := mkHid hs67
      have HP1 := mkHid p1
      have hk1 := sel_kids HINV.out.ok hil hs67
      obtain ⟨bl, off, r, e, c0, c1, c2, -, -, hkk⟩ := hC.at i hil
      cases e
      simp only [Nat.zero_add] at c0 c1 c2
      obtain ⟨hke, hkl⟩ := kidAt_get HINV.out.ok i hil 0 (by omega)
      obtain ⟨adk, capk, rfl, -, -, -⟩ := id hkk
      obtain ⟨bk, ok, rfl, d0⟩ := hkk.at 0 (by omega)
      rw [hke, Nat.add_zero] at d0
      obtain ⟨x, hx⟩ : ∃ x, x = kidAt G i 0 := ⟨_, rfl⟩
      have HX := mkHid hx
      rw [← hx] at d0 hkl
      have hk0I : (0 : Int) < (G[i].kids.length : Int) := by omega
      have hk0N : 0 < G[i].kids.length := by omega
      have hiI : (i : Int) < (G.length : Int) := by omega
      have a0 := cell_of_blk hr.mem.box 0 _ rfl
      obtain ⟨wx, hwx⟩ : ∃ wx : World, wx = wr.alloc (.cells #[.int .i64 G[i].op, .int .i64 G[i].num, .slice (some ⟨bk, ok, none⟩) G[i].kids.length capk] 45) := ⟨_, rfl⟩
      have HWX := mkHid hwx
      have hbx : Below wr.heap.size wr wx := by rw [hwx]; exact box_below _ _
      have HBX := mkHid hbx
      have HZX : Hid (wr.heap.size < wx.heap.size) := by rw [Hid, hwx, Deep.nblk_alloc]; omega
      have HXB : Hid (wx.heap[wr.heap.size]? = some (.cells #[.int .i64 G[i].op, .int .i64 G[i].num, .slice (some ⟨bk, ok, none⟩) G[i].kids.length capk] 45)) := by rw [Hid, hwx]; exact Deep.blk_alloc_new _ _
      have aa := (hbx.cell (p := ⟨A, 0, none⟩) (cell_lt a0)).trans a0
      have dd := (hbx.cell (p := ⟨bk, ok, none⟩) (cell_lt d0)).trans d0
      have x2 := cell_of_blk HXB.out 2 _ rfl
      obtain ⟨fo, hfo⟩ : ∃ fo, fo = followN G G.length x := ⟨_, rfl⟩
      have HFO := mkHid hfo
      have HCALL : Hid (Calls Try.prog 48 #[.slice (some ⟨b, 0, none⟩) G.length capg, .int .i64 (x : Int)] wx.drew (fun e w' => e = .returned (.tuple #[.int .i64 (folO fo), .bool fo.isSome]) ∧ Below wx.heap.size wx w')) := by
        rw [hfo]
        exact (standsFor_calls G x _ _ ((HC.out.next hbx).drew) ⟨6, HINV.out.ok⟩ hkl).mono fun e w' h => ⟨h.1, ((Below.refl _ _).drew).trans h.2⟩
      simp only [List.length_append, List.length_cons, List.length_nil, Nat.zero_add] at hwl hlt
      unfold maxLen at hc2
      clear hr hp p1 p2 p3 hC hs67 hkk hke hx hk1 hbx hfo
      have hwx2 := HWX.out
      clear HWX
      subst hwx2
      go_wp2_with fail
      go_region_held3 (fun w' => w'.cell? ⟨A, 0, none⟩ = some (.slice (some ⟨b, 0, none⟩) G.length capg) ∧ w'.cell? ⟨wr.heap.size, 2, none⟩ = some (.slice (some ⟨bk, ok, none⟩) G[i].kids.length capk) ∧ w'.cell? ⟨bk, ok, none⟩ = some (.int .i64 (x : Int)))
        (first
          | go_keep
          | exact ⟨e0, e1, e2⟩
          | exact ⟨aa, x2, dd⟩)
        (first
          | (go_at_call 48; refine HCALL.out.mono ?_; rintro e w3 ⟨rfl, hb3⟩; have HB3 := mkHid hb3; have e0 := (hb3.cell (p := ⟨A, 0, none⟩) (cell_lt aa)).trans aa; have e1 := (hb3.cell (p := ⟨wr.heap.size, 2, none⟩) (cell_lt x2)).trans x2; have e2 := (hb3.cell (p := ⟨bk, ok, none⟩) (cell_lt dd)).trans dd; clear hb3))
      have HB03 : Hid (Below wr.heap.size wr w3) := HBX.out.trans (HB3.out.mono HBX.out.size)
      have HX3 : Hid (w3.heap[wr.heap.size]? = some (.cells #[.int .i64 G[i].op, .int .i64 G[i].num, .slice (some ⟨bk, ok, none⟩) G[i].kids.length capk] 45)) := (HB3.out.block _ HZX.out).trans HXB.out
      clear e1 e2 aa dd x2
      cases fo with
      | none =>
        have HF : Hid (followN G G.length (kidAt G i 0) = none) := by rw [← HX.out]; exact HFO.out.symm
        have HD := mkHid (HR.out.dead (HP.out.next HB03.out) HB03.out HLW.out (Or.inl HF.out))
        have e1 : folO none = 0 := rfl
        have e2 : (none : Option Nat).isSome = false := rfl
        rw [e1, e2]
        clear e1 e2 e0
        go_wp2_with fail
        go_roundw
        case rel => exact ⟨m, n, rest, wt, G, S, _, rfl, HD.out⟩
        case measure => simp [intOf, slLen, selLeft]
      | some q =>
        have HF : Hid (followN G G.length (kidAt G i 0) = some q) := by rw [← HX.out]; exact HFO.out.symm
        have hql : q < G.length := (followN_lt HINV.out.ok _ _ _ hkl HFO.out.symm).1
        have hqI : (q : Int) < (G.length : Int) := by omega
        obtain ⟨bl, off, r3, e, q0, q1, q2, -, -, hkq⟩ := (HC.out.next HB03.out).at q hql
        cases e
        simp only [Nat.zero_add] at q0 q1 q2
        obtain ⟨adq, capq, rfl, -, -, -⟩ := id hkq
        have HKQ := mkHid hkq
        have e1 : folO (some q) = (q : Int) := rfl
        have e2 : (some q).isSome = true := rfl
        rw [e1, e2]
        clear e1 e2 hkq
        obtain ⟨w4, hw4⟩ : ∃ w4 : World, w4 = w3.alloc (.cells #[.int .i64 G[q].op, .int .i64 G[q].num, .slice adq G[q].kids.length capq] 45) := ⟨_, rfl⟩
        have HW4 := mkHid hw4
        have HB34 : Hid (Below w3.heap.size w3 w4) := by rw [hw4]; exact box_below _ _
        have HB04 : Hid (Below wr.heap.size wr w4) := HB03.out.trans (HB34.out.mono HB03.out.size)
        have HX4 : Hid (w4.heap[wr.heap.size]? = some (.cells #[.int .i64 G[i].op, .int .i64 G[i].num, .slice (some ⟨bk, ok, none⟩) G[i].kids.length capk] 45)) := (HB34.out.block _ (Array.getElem?_eq_some_iff.1 HX3.out).1).trans HX3.out
        have HQ4 : Hid (w4.heap[w3.heap.size]? = some (.cells #[.int .i64 G[q].op, .int .i64 G[q].num, .slice adq G[q].kids.length capq] 45)) := by rw [Hid, hw4]; exact Deep.blk_alloc_new _ _
        have x0 := cell_of_blk HX4.out 0 _ rfl
        have z0 := cell_of_blk HQ4.out 0 _ rfl
        have z1 := cell_of_blk HQ4.out 1 _ rfl
        have z2 := cell_of_blk HQ4.out 2 _ rfl
        clear hw4
        have hw4 := HW4.out
        clear HW4
        subst hw4
        by_cases h5 : G[q].op = 5
        · have t5 : (G[q].op == 5) = true := by simp [h5]
          have HEN : Hid (Enabled G i q) := ⟨hil, HP1.out, HF.out, by rw [opAt_at q hql]; exact h5⟩
          have HPART : Hid (∀ W, IIn W G[q].kids (.slice adq G[q].kids.length capq) → Calls Try.prog 57 #[.int .i64 G[i].op, .agg #[.int .i64 G[q].op, .int .i64 G[q].num, .slice adq G[q].kids.length capq]] W fun e w' => e = .returned (.int .i64 (partG G (opAt G i) q : Int)) ∧ Below W.heap.size W w') := fun W h => part_calls HINV.out.ok i q hil hql HS67.out h5 _ W h
          have HSA : Hid (selAt G i q = G.set i (indTo (partG G (opAt G i) q))) := rfl
          obtain ⟨pp, hpp⟩ : ∃ pp, pp = partG G (opAt G i) q := ⟨_, rfl⟩
          rw [← hpp] at HPART HSA
          clear h5 hpp
          go_wp2_with fail
          refine (HPART.out _ (HKQ.out.next HB34.out)).mono ?_
          rintro e w5 ⟨rfl, hb5⟩
          have HB05 : Hid (Below wr.heap.size wr w5) := HB04.out.trans (hb5.mono HB04.out.size)
          have HP5 := mkHid (HP.out.next HB05.out)
          have HL5 : Hid (lo ≤ w5.heap.size) := Nat.le_trans HLW.out HB05.out.size
          obtain ⟨ys, hys⟩ := HP5.out.own.row
          have HYS := mkHid hys
          clear hb5 hys e0 q0 q1 q2 x0 z0 z1 z2
          go_wp2_with fail
          refine (redirectE_calls A b G.length capg i pp lo ys w5 HP5.out.box HYS.out hil (by omega)).mono ?_
          rintro e w6 ⟨rfl, hw6⟩
          have HP6 := mkHid (HP5.out.ind rfl HL5.out i pp hil)
          have HB6 : Hid (Below lo wr w6) := by rw [← hw6]; exact st3_below ((HB05.out.mono HLW.out).alloc HL5.out _) (HP5.out.gb b rfl).1
          have HL6 : Hid (lo ≤ w6.heap.size) := by rw [← hw6, st3_size, Deep.nblk_alloc]; exact Nat.le_succ_of_le HL5.out
          rw [hw6] at HP6
          clear hw6
          go_wp2_with (first
            | (at_lookup; go_must (refine wpList_lookG _ rfl _ _ rfl w.heap.size n wt _ HP6.out.mp HP6.out.msep (by omega) rfl i (by omega) rfl ?_); intro v D hvs hvn hvo hvd hvl hvb; go_must (have HVS := mkHid hvs); have HVL := mkHid hvl; go_must (obtain ⟨adv, capv, rfl⟩ := hvs.len); clear hvs hvn hvo hvd hvl hvb)
            | (at_builtin; go_must (refine wpList_push_at rfl _ _ rfl _ lo rest (wt i) (.slice (some ⟨gb, 0, none⟩) rest.length cw) (.slice adv (wt i).length capv) rfl HP6.out.wk rfl HVS.out.pin rfl HL6.out (by have := HVL.out; omega) ?_); intro v' w7 hst7 hg7 hw7; go_must (obtain ⟨ad7, cap7, e7⟩ := hst7.len); rw [List.length_append] at e7; subst e7; go_must (have HP7 := mkHid (HP6.out.push hst7 hg7 hw7)); have HG7 := mkHid hg7; clear hst7 hg7 hw7))
          have HB7 : Hid (Below lo wr w7) := HB6.out.grown HG7.out HL6.out fun k e => (HP6.out.wb k e.symm).1
          rw [← HSA.out] at HP7
          have HMK := mkHid (HR.out.make HG.out HP7.out HB7.out HEN.out)
          go_roundw
          case rel => exact ⟨m + 1, n, rest ++ wt i, wt, selAt G i q, _, _, by go_num, HMK.out.1⟩
          case measure => have := HMK.out.2; simpa [intOf, slLen] using this
        · have t5 : (G[q].op == 5) = false := by simp [h5]
          have H5 : Hid (opAt G q ≠ 5) := by rw [Hid, opAt_at q hql]; exact h5
          clear h5
          go_wp2_with fail
          refine (isSel_calls G[q].op G[q].num adq G[q].kids.length capq G[q].kids _).mono ?_
          rintro e w5 ⟨rfl, hb5⟩
          have HB05 : Hid (Below wr.heap.size wr w5) := HB04.out.trans (hb5.mono HB04.out.size)
          have HP5 := mkHid (HP.out.next HB05.out)
          have HL5 : Hid (lo ≤ w5.heap.size) := Nat.le_trans HLW.out HB05.out.size
          clear hb5 e0 q0 q1 q2 x0 z0 z1 z2
          cases hsb : selB ⟨G[q].op, G[q].num, G[q].kids⟩ with
          | false =>
            have HNS : Hid (¬ isSel G q) := by
              rw [Hid, isSel_B, cellD_at hql]
              intro h
              have h2 : selB G[q] = false := hsb
              rw [h2] at h
              cases h
            have HD := mkHid (HR.out.dead HP5.out HB05.out HLW.out (Or.inr ⟨q, HF.out, H5.out, HNS.out⟩))
            clear hsb
            go_wp2_with fail
            go_roundw
            case rel => exact ⟨m, n, rest, wt, G, S, _, rfl, HD.out⟩
            case measure => simp [intOf, slLen, selLeft]
          | true =>
            have HSQ : Hid (isSel G q) := by rw [Hid, isSel_B, cellD_at hql]; exact hsb
            have HW0 : Hid (∀ y ∈ wt q, y ≤ 1048576) := fun y hy => by
              have := isSel_lt (HR.out.wl.wsel q HSQ.out y hy).1
              omega
            have HW1 : Hid (∀ y ∈ wt q ++ [i], y ≤ 1048576) := fun y hy => by
              rcases List.mem_append.1 hy with h | h
              · exact HW0.out y h
              · simp only [List.mem_singleton] at h; omega
            have HLO5 : Hid (w.heap.size + 1 ≤ (w5.alloc (.cells #[.int .i64 (i : Int)] 3)).heap.size) := by rw [Hid, Deep.nblk_alloc]; have := grp_lt HP5.out.mp; omega
            have hn1 : n ≤ 1048576 := by omega
            have hq1 : q ≤ 1048576 := by omega
            clear hsb
            go_wp2_with (first
              | (at_lookup; go_must (refine wpList_lookG _ rfl _ _ rfl w.heap.size n wt _ HP5.out.mp HP5.out.msep (by omega) rfl q (by omega) rfl ?_); intro v D hvs hvn hvo hvd hvl hvb; go_must (have HVS := mkHid hvs); have HVL := mkHid hvl; have HVN := mkHid hvn; have HVO := mkHid hvo; have HVD := mkHid hvd; have HVB := mkHid hvb; have HLS := mkHid (len_one_le (wt q) i hvl hnn); have HLN := mkHid (len_one_le2 (wt q) i hvl); go_must (obtain ⟨adv, capv, rfl⟩ := hvs.len); clear hvs hvn hvo hvd hvl hvb)
              | (at_builtin; go_must (refine wpList_push_at rfl _ _ rfl _ (w.heap.size + 1) (wt q) [i] (.slice adv (wt q).length capv) (.slice (some ⟨w5.heap.size, 0, none⟩) 1 1) rfl (HVS.out.alloc _) rfl (one_in w5 i) rfl HLO5.out HLS.out ?_); intro v' w7 hst7 hg7 hw7; go_must (have HST7 := mkHid hst7); go_must (have HNN := mkHid (HP5.out.noNew HVN.out hw7)); go_must (have HG7 := mkHid (grown_alloc hg7)); clear hst7 hg7 hw7)
              | (at_mapUpdate; go_must (refine wpList_storeG _ rfl _ _ _ rfl hn1 hq1 HVO.out HVD.out HVS.out HP5.out.msep HNN.out.1 HVB.out rfl rfl rfl HG7.out HST7.out (snoc_ne _ _) HW1.out HW0.out HLN.out HNN.out.2 ?_); intro w8 D' h8 hd8 hg8 hs8; have HW8 := mkHid h8; have HD8 := mkHid hd8; have HG8 := mkHid hg8; have HS8 := mkHid hs8; clear h8 hd8 hg8 hs8))
            have HP8 := mkHid (HP5.out.store (fun k e => ⟨HVN.out k e, by have := (own_some HVS.out k e.symm).1; omega⟩) HG7.out HG8.out HW8.out HD8.out HS8.out)
            have HB8 : Hid (Below lo wr w8) := ((HB05.out.mono HLW.out).grown HG7.out HL5.out fun k e => by have := (own_some HVS.out k e).1; have := HP5.out.lm; omega).grown HG8.out (Nat.le_trans HL5.out HG7.out.size) fun k e => by simp only [Option.some.injEq] at e; subst e; exact HP5.out.lm
            have HWT := mkHid (HR.out.wait HP8.out HB8.out HF.out HSQ.out)
            go_roundw
            case rel => first | exact ⟨m, n + 1, rest, _, G, S, _, rfl, HWT.out⟩ | ((repeat apply Exists.intro); exact ⟨⟨m, n + 1, rest, _, G, S, _, rfl, HWT.out⟩, rfl⟩)
            case measure =>
              show selLeft g m rest.length < selLeft g m (rest.length + 1)
              unfold selLeft
              omega
    · obtain rfl : work = [] := List.eq_nil_of_length_eq_zero (by omega)
      have HV := mkHid (SpR.fin HG.out hr)
      obtain ⟨adw, capw, rfl⟩ := Stk.nil (n := 0) hr.mem.wk
      clear hr hwl hlt
      go_wp2_with fail
      go_ret
      exact HV.out

set_option maxHeartbeats 800000 in
theorem implSelG_calls (g : List Ce) (v : Value) (w : World) (hk : CIn w g v) :
    Calls Try.prog 24 #[v] w fun e w' => ∃ gv, e = .returned (.tuple #[gv, .int .i64 ((selO g).2 : Int), .bool (graphB g 6)]) ∧ GOwn w' (List.range' w.heap.size (w'.heap.size - w.heap.size)) (selO g).1 gv ∧ Below w.heap.size w w' := by
  have HK : Hid (CIn w g v) := hk
  clear hk
  go_enter Try.func24, Try.ntmps24
  go_wp2_with fail
  refine (implGraph_calls g 6 _ _ HK.out).mono ?_
  rintro e w1 ⟨rfl, hb1⟩
  have HB1 : Hid (Below w.heap.size w w1) := hb1
  clear hb1
  cases hg : graphB g 6 with
  | false =>
    have HV := mkHid (selO_no hg)
    have HT := mkHid hg
    clear hg
    go_wp2_with fail
    go_ret3
    rw [HV.out, HT.out]
    exact ⟨_, rfl, (OwnC.nil w1 w.heap.size (fun _ => False)).own (fun _ h => h.elim), HB1.out⟩
  | true =>
    have HT := mkHid hg
    have HV := mkHid (selO_yes hg)
    clear hg
    go_wp2_with fail
    refine (arenaOf_calls g _ _ (HK.out.next HB1.out) ⟨6, HT.out⟩).mono ?_
    rintro e w2 ⟨rfl, gv, ho, hA, hb2⟩
    have HO := mkHid ho
    have HA := mkHid hA
    have HB2 := mkHid hb2
    clear ho hA hb2
    go_wp2_with fail
    refine (selectParts_calls w1.heap.size w1.heap.size g gv w2 HA.out HO.out (Nat.le_refl _) HB2.out.size HT.out).mono ?_
    rintro e w3 ⟨rfl, ad, cap, hA, ho, hb3⟩
    have a0 := cell_of_blk hA 0 _ rfl
    have HB3 : Hid (Below w.heap.size w w3) := HB1.out.trans ((HB2.out.trans hb3).mono HB1.out.size)
    have HG3 := mkHid ((ho.lower2 HB1.out.size (S' := fun b => w.heap.size ≤ b) fun b hb => Nat.le_trans HB1.out.size hb).own fun k h _ => h)
    clear hA ho hb3
    go_wp2_with fail
    go_ret3
    rw [HV.out, HT.out]
    exact ⟨_, rfl, HG3.out, HB3.out⟩
end Go.Proofs.Ytjpjikfmdaejeaa
/-
  THE PROGRAM's TidyGraph.
-/
namespace Go.Proofs.Ytjpjikfmdaejeaa
set_option linter.unusedVariables false
set_option linter.unusedSimpArgs false
open Go.RowKit

theorem root_noG2 {g : List Ce} {rs : List Int} (h : graphB g 6 = false) : rootB g rs = false := by unfold rootB; rw [h]; rfl
set_option maxHeartbeats 800000 in
theorem implTidy_calls (g : List Ce) (rs : List Int) (v rv : Value) (w : World) (hk : CIn w g v) (hr : IIn w rs rv) :
    Calls Try.prog 26 #[v, rv] w (OwnGI (tidyO g rs) (rootB g rs) w) := by
  have HK : Hid (CIn w g v) := hk
  have HR : Hid (IIn w rs rv) := hr
  clear hk hr
  go_enter Try.func26, Try.ntmps26
  go_wp2_with fail
  refine (implSelG_calls g _ _ HK.out).mono ?_
  rintro e w1 ⟨gv, rfl, ho, hb1⟩
  have HB1 : Hid (Below w.heap.size w w1) := hb1
  have HO := mkHid ho.inn
  clear hb1 ho
  cases hg : graphB g 6 with
  | false =>
    have HT := mkHid (root_noG2 (rs := rs) hg)
    have HV := mkHid (tidyO_no HT.out)
    clear hg
    go_wp2_with fail
    go_ret3
    rw [HV.out, HT.out]
    exact ⟨_, _, rfl, gi_res (lo := w1.heap.size) (OwnC.nil _ _ (fun _ => False)) (fun _ h => h.elim) (no_ints _ _ _ 0 (by simp [maxLen])) HB1.out.size (Nat.le_refl _), HB1.out⟩
  | true =>
    have HV := mkHid (tidyO_graph (rs := rs) hg)
    have HRT := mkHid (rootB_sel hg rs)
    have HSO := mkHid (selO_yes hg)
    rw [HSO.out] at HO
    clear hg
    go_wp2_with fail
    refine (implColl_calls (selRes g).1 rs _ _ _ HO.out (HR.out.next HB1.out)).mono ?_
    rintro e w2 ⟨gv2, tv2, rfl, hres, hb2⟩
    rw [HRT.out]
    have HRES := mkHid (hres.lower HB1.out.size)
    have HB2 : Hid (Below w.heap.size w w2) := HB1.out.trans (hb2.mono HB1.out.size)
    clear hres hb2
    go_wp2_with fail
    go_ret3
    rw [HV.out]
    exact ⟨_, _, rfl, HRES.out, HB2.out⟩
end Go.Proofs.Ytjpjikfmdaejeaa
/-
  A COPY OF A GRAPH, AS ROWS THAT MAY BE MARKED.
-/
namespace Go.Proofs.Ytjpjikfmdaejeaa
set_option linter.unusedVariables false
set_option linter.unusedSimpArgs false
open Go.RowKit

theorem CellRow.shape {w : World} {lo : Nat} {g : List Ce} {v : Value} (h : CellRow w lo g v) : CShape w (List.range' lo (w.heap.size - lo)) (g.map (·.kids.length)) v := by
  obtain ⟨ad, cap, e, l1, l2, h⟩ := h
  refine ⟨ad, cap, by rw [List.length_map]; exact e, by rw [List.length_map]; exact l1, l2, ?_⟩
  rcases h with rfl | ⟨b, f, rfl, hb, hr, hf⟩
  · exact Or.inl rfl
  · refine Or.inr ⟨b, f, rfl, by rw [List.mem_range'_1]; have := hr.lt; omega, hr, fun i hi => ?_⟩
    rw [List.length_map] at hi
    obtain ⟨-, -, -, -, ad2, cap2, e2, l3, l4, h2⟩ := hf i hi
    refine ⟨ad2, cap2, by rw [e2]; simp, by simpa using l3, l4, ?_⟩
    rcases h2 with h2 | ⟨b2, f2, rfl, hb2, hr2, -⟩
    · left; simp [h2]
    · exact Or.inr ⟨b2, f2, rfl, by rw [List.mem_range'_1]; have := hr2.lt; omega, hr2⟩
theorem sum_shape (g : List Ce) : sumN' (g.map (·.kids.length)) = sumK g := rfl
end Go.Proofs.Ytjpjikfmdaejeaa
