/-
  THE PROGRAM's foldExpr with the closure of addExpr: the cells of an expression, added to an arena.
-/
import Derived.Test.YtiipcgnkfhjpeaaGreatDoorMgExactEvalRun29
import Derived.Test.YtiipcgnkfhjpeaaGreatDoorMgExactEvalRun22
namespace Go.Proofs.YtiipcgnkfhjpeaaGreatDoor
set_option linter.unusedVariables false
set_option linter.unusedSimpArgs false
open Go.RowKit

/-- nothing changed but one row and block A -/
structure Kept (w w' : World) (A : Nat) (row : Option Nat) : Prop where
  os : w'.os = w.os
  tape : w'.tape = w.tape
  output : w'.output = w.output
  size : w.heap.size ≤ w'.heap.size
  block : ∀ k, k < w.heap.size → some k ≠ row → k ≠ A → w'.heap[k]? = w.heap[k]?
/-- a graph that is being built stays where its rows stay: rows of ints and the row of cells -/
theorem OwnC.next2 {w w' : World} {lo : Nat} {S S' : Nat → Prop} {g : List Ce} {v : Value} (h : OwnC w lo S g v) (hS : ∀ k, S k → k < w.heap.size → S' k) (hr : ∀ k, some k = v.ownBlock → k < w.heap.size → w'.heap[k]? = w.heap[k]?) (hb : ∀ k C, S k → k < w.heap.size → w.heap[k]? = some (.cells C 3 (0, 0)) → w'.heap[k]? = w.heap[k]?) : OwnC w' lo S' g v := by
  obtain ⟨hi0, xs, kb, h1, h2, h3⟩ := h
  refine ⟨hi0, xs, kb, ?_, fun j hj => ?_, h3⟩
  · refine ⟨h1.1, ?_⟩
    rcases h1.2 with h | ⟨b, cap, cur, rfl, hg, hh, r⟩
    · exact Or.inl h
    · exact Or.inr ⟨b, cap, cur, rfl, hg, (hr b rfl (Array.getElem?_eq_some_iff.1 hh).1).trans hh, r⟩
  · obtain ⟨kv, e0, e1, e2, e3⟩ := h2 j hj
    exact ⟨kv, e0, e1, e2, e3.keep hS fun C h1 h2 hC => hb _ C h1 h2 hC⟩

def FdRes (r : List Ce × Nat) (lo : Nat) (S : Nat → Prop) (gv : Value) (A : Nat) (w : World) (e : Ending) (w' : World) : Prop :=
  ∃ gv', e = .returned (.int .i64 (r.2 : Int)) ∧ OwnC w' lo (fun b => S b ∨ w.heap.size ≤ b) r.1 gv' ∧ w'.heap[A]? = some (.cells #[gv'] 142) ∧ Kept w w' A gv.ownBlock ∧ (gv'.ownBlock = gv.ownBlock ∨ ∃ g, gv'.ownBlock = some g ∧ w.heap.size ≤ g)
/-- blocks of T are there, and none of them is the arena or the row of its cells -/
def Free (T : Nat → Prop) (w : World) (A : Nat) (gv : Value) : Prop := ∀ b, T b → b < w.heap.size ∧ some b ≠ gv.ownBlock ∧ b ≠ A
def FdSaid (args : List Nat) (av : Value) (t : Tr) : Prop := ∀ (gv c : Value) (lo A xb ab : Nat) (S T : Nat → Prop) (cs : List Ce) (w : World), OwnC w lo S cs gv → w.heap[A]? = some (.cells #[gv] 142) → w.heap[xb]? = some (.cells #[av] 88) → w.heap[ab]? = some (.cells #[.pointer (some ⟨A, 0, none⟩)] 122) →
  lo ≤ w.heap.size → Free T w A gv → IntsOn w T (args.map fun (a : Nat) => (a : Int)) av → KidsOn w T t.kids c → cs.length + szT t ≤ 500000 → args.length ≤ 1048576 → I64 t.op → I64 t.num → AllT (VarOk args.length) t →
  Calls Tryz.prog 125 #[.agg #[.int .i64 t.op, .int .i64 t.num, c], .func (.func 126) #[] #[.pointer (some ⟨xb, 0, none⟩), .pointer (some ⟨ab, 0, none⟩)]] w (FdRes (addT args t cs) lo S gv A w)

/-- the closure, at a node that is no variable -/
def CloRes (A lo n : Nat) (o m : Int) (gv kv : Value) (xs : List Value) (w : World) (e : Ending) (w' : World) : Prop := ∃ ob, Added A lo n o m gv kv xs (w.alloc ob) e w'
set_option maxRecDepth 100000 in
set_option maxHeartbeats 1600000 in
theorem clo_add (A lo n xb ab : Nat) (o m : Int) (c gv : Value) (adk : Option Addr) (nk ck : Nat) (xs : List Value) (w : World) (h1 : ¬ o = 1) (hA : w.heap[A]? = some (.cells #[gv] 142)) (hab : w.heap[ab]? = some (.cells #[.pointer (some ⟨A, 0, none⟩)] 122)) (hx : w.ownsRow lo 93 3 gv n xs) (hlo : lo ≤ w.heap.size) (hn : n ≤ 500000) :
    Calls Tryz.prog 126 #[.agg #[.int .i64 o, .int .i64 m, c], .slice adk nk ck, .pointer (some ⟨xb, 0, none⟩), .pointer (some ⟨ab, 0, none⟩)] w (CloRes A lo n o m gv (.slice adk nk ck) xs w) := by
  have t1 : (o == 1) = false := by simpa using h1
  have HA : Hid (w.heap[A]? = some (.cells #[gv] 142)) := hA
  have HX : Hid (w.ownsRow lo 93 3 gv n xs) := hx
  have p0 := old_cell (cell_of_blk hab 0 _ rfl) (.cells #[.int .i64 o, .int .i64 m, c] 48)
  clear h1 hA hab hx
  go_enter Tryz.func126, Tryz.ntmps126
  go_wp2_with fail
  refine (add_calls A lo n o m gv adk nk ck xs _ ((Deep.blk_alloc_lt _ _ _ (Array.getElem?_eq_some_iff.1 HA.out).1).trans HA.out) (own_keep HX.out (fun k _ hk => Deep.blk_alloc_lt _ _ _ hk)) (by rw [Deep.nblk_alloc]; omega) hn).mono ?_
  rintro e w' ⟨v', w5, rfl, h1, h2, h3, rfl⟩
  have HR : Hid (CloRes A lo n o m gv (.slice adk nk ck) xs w (.returned (.int .i64 (n : Int))) (w5.setCell ⟨A, 0, none⟩ v')) := ⟨_, v', w5, rfl, h1, h2, h3, rfl⟩
  clear h1 h2 h3
  go_wp2_with fail
  go_ret
  exact HR.out

/-- where the operands' rows of the graph lie while the operands of a cell are gathered in kv -/
def SF (w : World) (S : Nat → Prop) (kv : Value) : Nat → Prop := fun b => ((S b ∧ b < w.heap.size) ∨ w.heap.size + 1 ≤ b) ∧ some b ≠ kv.ownBlock
/-- what holds behind k operands -/
structure FdRel (args : List Nat) (t : Tr) (cs : List Ce) (lo : Nat) (S : Nat → Prop) (A : Nat) (gv0 ebox : Value) (w : World) (k : Nat) (gv kv : Value) (wr : World) : Prop where
  graph : OwnC wr lo (SF w S kv) (addL args (t.kids.take k) cs).1 gv
  arena : wr.heap[A]? = some (.cells #[gv] 142)
  kids : Stk wr (w.heap.size + 1) (addL args (t.kids.take k) cs).2 kv
  ebx : wr.heap[w.heap.size]? = some (.cells #[.int .i64 t.op, .int .i64 t.num, ebox] 48)
  kept : Kept w wr A gv0.ownBlock
  size : w.heap.size + 1 ≤ wr.heap.size
  own : gv.ownBlock = gv0.ownBlock ∨ ∃ g, gv.ownBlock = some g ∧ w.heap.size + 1 ≤ g
theorem FdRel.gown {args : List Nat} {t : Tr} {cs : List Ce} {lo A : Nat} {S : Nat → Prop} {gv0 ebox : Value} {w : World} {k : Nat} {gv kv : Value} {wr : World} (h : FdRel args t cs lo S A gv0 ebox w k gv kv wr) : ∀ b, some b = gv.ownBlock → some b = gv0.ownBlock ∨ w.heap.size + 1 ≤ b := by
  intro b hb
  rcases h.own with e | ⟨g, e, hg⟩
  · exact Or.inl (hb.trans e)
  · rw [e] at hb; simp only [Option.some.injEq] at hb; exact Or.inr (by omega)
/-- one operand more -/
theorem fd_push {args : List Nat} {t : Tr} {cs : List Ce} {lo A : Nat} {S : Nat → Prop} {gv0 ebox : Value} {w : World} {k : Nat} {gv kv : Value} {wr : World} (h : FdRel args t cs lo S A gv0 ebox w k gv kv wr) (hk : k < t.kids.length) (hg0 : ∀ b, gv0.ownBlock = some b → b < w.heap.size) (hA : A < w.heap.size) (o1 : Obj) {gv' : Value} {w2 : World}
    (hg : OwnC w2 lo (fun b => SF w S kv b ∨ (wr.alloc o1).heap.size ≤ b) (addT args t.kids[k] (addL args (t.kids.take k) cs).1).1 gv') (hA2 : w2.heap[A]? = some (.cells #[gv'] 142)) (hgr : Kept (wr.alloc o1) w2 A gv.ownBlock) (how : gv'.ownBlock = gv.ownBlock ∨ ∃ g, gv'.ownBlock = some g ∧ (wr.alloc o1).heap.size ≤ g) (o : Obj) {kv' : Value} {w5 : World}
    (hst : Stk w5 (w.heap.size + 1) ((addL args (t.kids.take k) cs).2 ++ [(addT args t.kids[k] (addL args (t.kids.take k) cs).1).2]) kv') (hgr5 : (w2.alloc o).grownBy w5 kv.ownBlock) (hw5 : kv'.ownBlock = kv.ownBlock ∨ ∃ g, kv'.ownBlock = some g ∧ (w2.alloc o).heap.size ≤ g) :
    FdRel args t cs lo S A gv0 ebox w (k + 1) gv' kv' w5 := by
  have hs := h.size
  have hs2 := hgr.size
  have hs5 := hgr5.size
  rw [Deep.nblk_alloc] at hs2 hs5 hw5 how hg
  have hkv : ∀ b, some b = kv.ownBlock → w.heap.size + 1 ≤ b ∧ b < wr.heap.size := fun b e => own_some h.kids b e.symm
  have k2 : ∀ b, b < wr.heap.size → some b ≠ gv.ownBlock → b ≠ A → w2.heap[b]? = wr.heap[b]? := fun b hb hn hne => (hgr.block b (by rw [Deep.nblk_alloc]; omega) hn hne).trans (Deep.blk_alloc_lt _ _ _ hb)
  have k5 : ∀ b, b < w2.heap.size → some b ≠ kv.ownBlock → w5.heap[b]? = w2.heap[b]? := fun b hb hn => (hgr5.block b (by rw [Deep.nblk_alloc]; omega) hn).trans (Deep.blk_alloc_lt _ _ _ hb)
  have q4 : Stk w2 (w.heap.size + 1) (addL args (t.kids.take k) cs).2 kv := by
    obtain ⟨ys, hy⟩ := h.graph.row
    refine ⟨h.kids.1, ?_⟩
    rcases h.kids.2 with h' | ⟨g, cap, cur, rfl, hg, hh, r⟩
    · exact Or.inl h'
    · exact Or.inr ⟨g, cap, cur, rfl, hg, (k2 g (Array.getElem?_eq_some_iff.1 hh).1 (fun e => own_ne hy h.kids g e rfl) (by omega)).trans hh, r⟩
  have e1 : addL args (t.kids.take (k + 1)) cs = _ := addL_take_succ args t.kids cs k hk
  have hkA : some A ≠ kv.ownBlock := fun e => by have := (hkv _ e).1; omega
  refine ⟨?_, ?_, ?_, ?_, ⟨?_, ?_, ?_, ?_, ?_⟩, ?_, ?_⟩
  · rw [e1]
    refine hg.next2 (fun b hb hb2 => ?_) (fun b e hb => ?_) (fun b C hS hb _ => ?_)
    · refine ⟨?_, fun e => ?_⟩
      · rcases hb with hb | hb
        · exact hb.1
        · exact Or.inr (by omega)
      · rcases hw5 with e5 | ⟨g, e5, hg5⟩
        · rw [e5] at e
          rcases hb with hb | hb
          · exact hb.2 e
          · have := (hkv b e).2; omega
        · rw [e5] at e
          simp only [Option.some.injEq] at e
          omega
    · obtain ⟨ys, hy⟩ := hg.row
      exact k5 b hb (own_ne hy q4 b e)
    · rcases hS with hS | hS
      · exact k5 b hb hS.2
      · exact k5 b hb (fun e => by have := (hkv b e).2; omega)
  · rw [k5 A (by omega) hkA]; exact hA2
  · rw [e1]; exact hst
  · rw [k5 _ (by omega) (fun e => by have := (hkv _ e).1; omega), k2 _ (by omega) (fun e => by rcases h.gown _ e with e | e; have := hg0 _ e.symm; omega; omega) (by omega)]
    exact h.ebx
  · rw [hgr5.os]; exact hgr.os.trans h.kept.os
  · rw [hgr5.tape]; exact hgr.tape.trans h.kept.tape
  · rw [hgr5.output]; exact hgr.output.trans h.kept.output
  · omega
  · intro b hb hn hne
    rw [k5 b (by omega) (fun e => by have := (hkv _ e).1; omega), k2 b (by omega) (fun e => by rcases h.gown _ e with e | e; exact hn e; omega) hne]
    exact h.kept.block b hb hn hne
  · omega
  · rcases how with e | ⟨g, e, hg⟩
    · rw [e]; exact h.own
    · exact Or.inr ⟨g, e, by omega⟩
/-- behind all operands: the cell -/
theorem fd_end {args : List Nat} {t : Tr} {cs : List Ce} {lo A : Nat} {S : Nat → Prop} {gv0 ebox : Value} {w : World} {gv kv : Value} {wr : World} (h : FdRel args t cs lo S A gv0 ebox w t.kids.length gv kv wr) (h1 : ¬ t.op = 1) (hg0 : ∀ b, gv0.ownBlock = some b → b < w.heap.size) (hA : A < w.heap.size) (ho : I64 t.op) (hn : I64 t.num) {xs : List Value}
    (hx : wr.ownsRow lo 93 3 gv (addL args t.kids cs).1.length xs) {e : Ending} {w' : World} (hr : CloRes A lo (addL args t.kids cs).1.length t.op t.num gv kv xs wr e w') : FdRes (addT args t cs) lo S gv0 A w e w' := by
  obtain ⟨ob, v', w5, rfl, hown, hg, hw, rfl⟩ := hr
  have hs := h.size
  have hG := h.graph
  have hK := h.kids
  rw [List.take_length] at hG hK
  have hz : ∀ o1 o2, ((((wr.alloc ob).alloc o1).alloc o2)).heap.size = wr.heap.size + 3 := fun o1 o2 => by rw [Deep.nblk_alloc, Deep.nblk_alloc, Deep.nblk_alloc]
  have hs5 := hg.size
  rw [hz] at hs5 hw
  have hkeep : ∀ o1 o2 b, b < wr.heap.size → (((wr.alloc ob).alloc o1).alloc o2).heap[b]? = wr.heap[b]? := fun o1 o2 b hb => (Deep.blk_alloc_lt _ _ _ (by rw [Deep.nblk_alloc, Deep.nblk_alloc]; omega)).trans ((Deep.blk_alloc_lt _ _ _ (by rw [Deep.nblk_alloc]; omega)).trans (Deep.blk_alloc_lt _ _ _ hb))
  have hG4 : OwnC (((wr.alloc ob).alloc (.cells #[.int .i64 t.op, .int .i64 t.num, kv] 93)).alloc (.cells #[.int .i64 t.op, .int .i64 t.num, kv] 93)) lo (SF w S kv) (addL args t.kids cs).1 gv := hG.next (fun _ h _ => h) (fun b _ hb => hkeep _ _ b hb) (fun b _ hb => hkeep _ _ b hb)
  obtain ⟨blk, hb1, hb2, hb3⟩ : ∃ blk, w.heap.size ≤ blk ∧ ¬ SF w S kv blk ∧ KRowS (((wr.alloc ob).alloc (.cells #[.int .i64 t.op, .int .i64 t.num, kv] 93)).alloc (.cells #[.int .i64 t.op, .int .i64 t.num, kv] 93)) (fun b => b = blk) ((addL args t.kids cs).2.map fun (a : Nat) => (a : Int)) blk kv := by
    obtain ⟨blk, h1, h2⟩ := stk_krow (((hK.alloc ob).alloc (.cells #[.int .i64 t.op, .int .i64 t.num, kv] 93)).alloc (.cells #[.int .i64 t.op, .int .i64 t.num, kv] 93))
    by_cases he : (addL args t.kids cs).2 = []
    · refine ⟨w.heap.size, Nat.le_refl _, fun h => by rcases h.1 with h | h <;> omega, ?_⟩
      obtain ⟨ad, cap, e, l1, l2, -⟩ := h2
      exact ⟨ad, cap, e, l1, l2, Or.inl (by rw [he]; rfl)⟩
    · exact ⟨blk, by have := (own_some hK blk (h1 he)).1; omega, fun h => h.2 (h1 he).symm, h2⟩
  have hx4 := own_keep hx (w' := ((wr.alloc ob).alloc (.cells #[.int .i64 t.op, .int .i64 t.num, kv] 93)).alloc (.cells #[.int .i64 t.op, .int .i64 t.num, kv] 93)) (fun b _ hb => hkeep _ _ b hb)
  have hst := hG4.step (c := ⟨t.op, t.num, (addL args t.kids cs).2.map fun (a : Nat) => (a : Int)⟩) (v' := v') ⟨ho, hn⟩ hb3 hb2 xs hx4 hown hg
  have hAg : some A ≠ gv.ownBlock := cells_ne_arena h.arena hx
  have hA5 : w5.heap[A]? = some (.cells #[gv] 142) := ((hg.block A (by rw [hz]; omega) hAg).trans (hkeep _ _ A (by omega))).trans h.arena
  have hAv : some A ≠ v'.ownBlock := cells_ne_arena hA5 hown
  rw [addT_other cs h1]
  refine ⟨v', rfl, hst.next2 (fun b hb _ => ?_) (fun b e hb => Below.heap_setCell _ _ _ _ (fun e2 => hAv (by have e3 : b = A := e2; rw [← e3]; exact e))) (fun b C hS hb hC => Below.heap_setCell _ _ _ _ (fun e2 => ?_)), ?_, ⟨?_, ?_, ?_, ?_, ?_⟩, ?_⟩
  · rcases hb with hb | rfl
    · rcases hb.1 with hb | hb
      · exact Or.inl hb.1
      · exact Or.inr (by omega)
    · exact Or.inr hb1
  · have e3 : b = A := e2
    subst e3
    rw [hA5] at hC
    simp at hC
  · simp [World.setCell, Array.getElem?_modify, hA5]
  · show w5.os = w.os
    rw [hg.os]; exact h.kept.os
  · show w5.tape = w.tape
    rw [hg.tape]; exact h.kept.tape
  · show w5.output = w.output
    rw [hg.output]; exact h.kept.output
  · rw [size_setCell]; omega
  · intro b hb hn hne
    rw [Below.heap_setCell _ _ _ _ hne, hg.block b (by rw [hz]; omega) (fun e => by rcases h.gown _ e with e | e; exact hn e; omega), hkeep _ _ b (by omega)]
    exact h.kept.block b hb hn hne
  · rcases hw with e | ⟨g, e, hg⟩
    · rw [e]
      rcases h.own with e | ⟨g, e, hg⟩
      · exact Or.inl e
      · exact Or.inr ⟨g, e, by omega⟩
    · exact Or.inr ⟨g, e, by omega⟩

theorem own_not {w : World} {lo n b : Nat} {v : Value} {xs : List Value} {C : Array Value} {T : TypeId} (hx : w.ownsRow lo 93 3 v n xs) (hb : w.heap[b]? = some (.cells C T)) (hT : ¬ 93 = T) : some b ≠ v.ownBlock := by
  intro e
  rcases hx.2 with ⟨rfl, -⟩ | ⟨g, cap, cur, rfl, -, hh, -⟩
  · simp [Value.ownBlock] at e
  · simp only [Value.ownBlock, Option.some.injEq] at e
    subst e
    rw [hh] at hb
    simp at hb
    exact hT hb.2
theorem fd_stk {args : List Nat} {t : Tr} {cs : List Ce} {lo A : Nat} {S : Nat → Prop} {gv0 ebox : Value} {w : World} {k : Nat} {gv kv : Value} {wr : World} (h : FdRel args t cs lo S A gv0 ebox w k gv kv wr) (hA : A < w.heap.size) (o1 : Obj) {w2 : World} (hgr : Kept (wr.alloc o1) w2 A gv.ownBlock) : Stk w2 (w.heap.size + 1) (addL args (t.kids.take k) cs).2 kv := by
  obtain ⟨ys, hy⟩ := h.graph.row
  refine ⟨h.kids.1, ?_⟩
  rcases h.kids.2 with h' | ⟨g, cap, cur, rfl, hg, hh, r⟩
  · exact Or.inl h'
  · have hl := (Array.getElem?_eq_some_iff.1 hh).1
    exact Or.inr ⟨g, cap, cur, rfl, hg, ((hgr.block g (by rw [Deep.nblk_alloc]; omega) (fun e => own_ne hy h.kids g e rfl) (by omega)).trans (Deep.blk_alloc_lt _ _ _ hl)).trans hh, r⟩
/-- the closure, at a variable -/
def CloVar (a : Nat) (w : World) (e : Ending) (w' : World) : Prop := e = .returned (.int .i64 (a : Int)) ∧ Below w.heap.size w w'
set_option maxRecDepth 100000 in
set_option maxHeartbeats 1600000 in
theorem clo_var (args : List Nat) (n xb ab : Nat) (T : Nat → Prop) (c kv av : Value) (w : World) (hn : n < args.length) (hxb : w.heap[xb]? = some (.cells #[av] 88)) (ha : IntsOn w T (args.map fun (a : Nat) => (a : Int)) av) (hal : args.length ≤ 1048576) :
    Calls Tryz.prog 126 #[.agg #[.int .i64 1, .int .i64 (n : Int), c], kv, .pointer (some ⟨xb, 0, none⟩), .pointer (some ⟨ab, 0, none⟩)] w (CloVar args[n] w) := by
  obtain ⟨ada, capa, rfl, hl2, hm2, -⟩ := id ha
  unfold maxLen at hm2
  obtain ⟨bl, off, rfl, hbl, d0⟩ := IntsOn.atS ha n (by simpa using hn)
  simp only [List.getElem_map] at d0
  have d1 := old_cell d0 (.cells #[.int .i64 1, .int .i64 (n : Int), c] 48)
  have p0 := old_cell (cell_of_blk hxb 0 _ rfl) (.cells #[.int .i64 1, .int .i64 (n : Int), c] 48)
  rw [List.length_map] at *
  clear hxb ha hbl d0
  go_enter Tryz.func126, Tryz.ntmps126
  go_wp2_with fail
  go_ret
  exact ⟨rfl, box_below _ _⟩
theorem fd_var {args : List Nat} {t : Tr} {cs : List Ce} {lo A : Nat} {S : Nat → Prop} {gv0 ebox : Value} {w : World} {gv kv : Value} {wr : World} (h : FdRel args t cs lo S A gv0 ebox w t.kids.length gv kv wr) (h1 : t.op = 1) (hk : t.kids = []) {n : Nat} (hnn : t.num = n) (hn : n < args.length) {e : Ending} {w' : World} (hr : CloVar args[n] wr e w') : FdRes (addT args t cs) lo S gv0 A w e w' := by
  obtain ⟨rfl, hb⟩ := hr
  have hs := h.size
  have hG := h.graph
  rw [List.take_length, hk] at hG
  simp only [addL] at hG
  rw [addT_var cs h1, hnn]
  have e1 : args.getD (n : Int).toNat 0 = args[n] := by simp [hn]
  rw [e1]
  have hAl := (Array.getElem?_eq_some_iff.1 h.arena).1
  refine ⟨gv, rfl, hG.next (fun b hb _ => ?_) (fun b _ hb' => hb.block b hb') (fun b _ hb' => hb.block b hb'), (hb.block A hAl).trans h.arena, ⟨hb.os.trans h.kept.os, hb.tape.trans h.kept.tape, hb.output.trans h.kept.output, by have := hb.size; omega, fun b hb' hn' hne => (hb.block b (by omega)).trans (h.kept.block b hb' hn' hne)⟩, ?_⟩
  · rcases hb.1 with hb | hb
    · exact Or.inl hb.1
    · exact Or.inr (by omega)
  · rcases h.own with e | ⟨g, e, hg⟩
    · exact Or.inl e
    · exact Or.inr ⟨g, e, by omega⟩

set_option maxRecDepth 100000 in
set_option maxHeartbeats 1600000 in
theorem fd_step (args : List Nat) (av : Value) (t : Tr) (ih : ∀ i (hi : i < t.kids.length), FdSaid args av (t.kids[i])) : FdSaid args av t := by
  intro gv c lo A xb ab S T cs w hg hA hxb hab hlo hT ha hk hz hal ho hn hp
  have HFT : Hid (Free T w A gv) := hT
  have HI : Hid (∀ i (hi : i < t.kids.length), FdSaid args av (t.kids[i])) := ih
  have HG : Hid (OwnC w lo S cs gv) := hg
  have HA : Hid (IntsOn w T (args.map fun (a : Nat) => (a : Int)) av) := ha
  have HK : Hid (KidsOn w T t.kids c) := hk
  have HT : Hid (I64 t.op ∧ I64 t.num) := ⟨ho, hn⟩
  have HPT : Hid (AllT (VarOk args.length) t) := hp
  have HG0 : Hid (∀ b, gv.ownBlock = some b → b < w.heap.size) := fun b hb => by obtain ⟨ys, hy⟩ := hg.row; exact (own_some hy b hb).2
  have HBX : Hid (w.heap[A]? = some (.cells #[gv] 142) ∧ w.heap[xb]? = some (.cells #[av] 88) ∧ w.heap[ab]? = some (.cells #[.pointer (some ⟨A, 0, none⟩)] 122)) := ⟨hA, hxb, hab⟩
  have hAl : A < w.heap.size := (Array.getElem?_eq_some_iff.1 hA).1
  have HGO : Hid (∀ b, some b = gv.ownBlock → lo ≤ b) := fun b hb => by obtain ⟨ys, hy⟩ := hg.row; exact (own_some hy b hb.symm).1
  have HXB : Hid (xb < w.heap.size ∧ some xb ≠ gv.ownBlock ∧ xb ≠ A) := by
    obtain ⟨ys, hy⟩ := hg.row
    refine ⟨(Array.getElem?_eq_some_iff.1 hxb).1, own_not hy hxb (by decide), fun e => ?_⟩
    rw [e, hA] at hxb
    simp at hxb
  have HAB : Hid (ab < w.heap.size ∧ some ab ≠ gv.ownBlock ∧ ab ≠ A) := by
    obtain ⟨ys, hy⟩ := hg.row
    refine ⟨(Array.getElem?_eq_some_iff.1 hab).1, own_not hy hab (by decide), fun e => ?_⟩
    rw [e, hA] at hab
    simp at hab
  obtain ⟨ad, cap, rfl, hl, hm, -⟩ := hk
  unfold maxLen at hm
  clear ih hg ho hn hp hA hxb hab ha
  go_enter Tryz.func125, Tryz.ntmps125
  obtain ⟨wC, hwC⟩ : ∃ wC : World, wC = w.alloc (.cells #[.int .i64 t.op, .int .i64 t.num, .slice ad t.kids.length cap] 48) := ⟨_, rfl⟩
  have HWC : Hid (wC = w.alloc (.cells #[.int .i64 t.op, .int .i64 t.num, .slice ad t.kids.length cap] 48)) := hwC
  have HST : Hid (FdRel args t cs lo S A gv (.slice ad t.kids.length cap) w 0 gv (.slice none 0 0) wC) := by
    have hz2 : wC.heap.size = w.heap.size + 1 := by rw [hwC, Deep.nblk_alloc]
    have hbl : ∀ b, b < w.heap.size → wC.heap[b]? = w.heap[b]? := fun b hb => by rw [hwC, Deep.blk_alloc_lt _ _ _ hb]
    refine ⟨?_, (hbl A hAl).trans HBX.out.1, ?_, by rw [hwC]; exact Deep.blk_alloc_new _ _, ⟨by rw [hwC]; rfl, by rw [hwC]; rfl, by rw [hwC]; rfl, by omega, fun b hb _ _ => hbl b hb⟩, by omega, Or.inl rfl⟩
    · simp only [List.take_zero, addL]
      exact HG.out.next (fun b hb hb2 => ⟨Or.inl ⟨hb, hb2⟩, by simp [Value.ownBlock]⟩) (fun b _ hb => hbl b hb) (fun b _ hb => hbl b hb)
    · simp only [List.take_zero, addL]
      exact World.ownsRow_nil _ _ _ _
  clear hwC
  go_wp2_with fail
  rw [← HWC.out]
  go_loopw [5, 11] (fun kv i wr => ∃ (k : Nat) (gvk : Value), k ≤ t.kids.length ∧ i = .int .i64 k ∧ FdRel args t cs lo S A gv (.slice ad t.kids.length cap) w k gvk kv wr) (fun _ i _ => t.kids.length - (intOf i).toNat)
  case atStart => exact ⟨0, _, Nat.zero_le _, rfl, HST.out⟩
  case round =>
    obtain ⟨k, gvk, hk, rfl, hrd⟩ := hrel
    have HRD : Hid (FdRel args t cs lo S A gv (.slice ad t.kids.length cap) w k gvk u5 wr) := hrd
    have hsz := hrd.size
    have HOLD : Hid (∀ b, T b → wr.heap[b]? = w.heap[b]?) := fun b hb => hrd.kept.block b (HFT.out b hb).1 (HFT.out b hb).2.1 (HFT.out b hb).2.2
    obtain ⟨adq, capq, rfl⟩ := hrd.kids.len
    have HX2 : Hid (wr.heap[xb]? = some (.cells #[av] 88)) := (hrd.kept.block xb HXB.out.1 HXB.out.2.1 HXB.out.2.2).trans HBX.out.2.1
    have HA2 : Hid (wr.heap[ab]? = some (.cells #[.pointer (some ⟨A, 0, none⟩)] 122)) := (hrd.kept.block ab HAB.out.1 HAB.out.2.1 HAB.out.2.2).trans HBX.out.2.2
    by_cases hlt : k < t.kids.length
    · have hkk := HK.out.mono (fun _ h => h) HOLD.out
      obtain ⟨adx, capx, hxe, -, -, hr⟩ := hkk
      cases hxe
      rcases hr with hnil | ⟨bl, off, rfl, hbl, hr⟩
      · rw [hnil] at hlt; simp at hlt
      obtain ⟨p, q, r, e0, e1, e2, ht⟩ := RowOn.at t.kids off k hlt hr
      obtain ⟨rfl, rfl, io, iN, hkc⟩ := trOn_iff.1 ht
      obtain ⟨adk, capk, rfl, -, -, -⟩ := id hkc
      have HKC : Hid (KidsOn wr T (t.kids[k]).kids (.slice adk (t.kids[k]).kids.length capk)) := hkc
      have HIO : Hid (I64 (t.kids[k]).op ∧ I64 (t.kids[k]).num) := ⟨io, iN⟩
      have HSZ : Hid (szL (t.kids.take k) + 1 + szT t.kids[k] ≤ szT t) := by
        have h1 := szL_take_succ t.kids k hlt
        have h2 := szL_take_le t.kids (k + 1)
        rw [Hid, szT_eq t]; omega
      have HSL := addL_size args (t.kids.take k) cs
      have hal1 : ∀ b, b < wr.heap.size → (wr.alloc (.cells #[.int .i64 t.kids[k].op, .int .i64 t.kids[k].num, .slice adk (t.kids[k]).kids.length capk] 48)).heap[b]? = wr.heap[b]? := fun b hb => Deep.blk_alloc_lt _ _ _ hb
      have hc1 : FdSaid args av t.kids[k] := HI.out k hlt
      have hc2 : OwnC (wr.alloc (.cells #[.int .i64 t.kids[k].op, .int .i64 t.kids[k].num, .slice adk (t.kids[k]).kids.length capk] 48)) lo (SF w S (.slice adq (addL args (t.kids.take k) cs).2.length capq)) (addL args (t.kids.take k) cs).1 gvk := HRD.out.graph.next (fun _ h _ => h) (fun b _ hb => hal1 b hb) (fun b _ hb => hal1 b hb)
      have hc3 : IntsOn (wr.alloc (.cells #[.int .i64 t.kids[k].op, .int .i64 t.kids[k].num, .slice adk (t.kids[k]).kids.length capk] 48)) T (args.map fun (a : Nat) => (a : Int)) av := HA.out.mono (fun _ h => h) (fun b hb => (hal1 b (by have := (HFT.out b hb).1; omega)).trans (HOLD.out b hb))
      have hc4 : (addL args (t.kids.take k) cs).1.length + szT t.kids[k] ≤ 500000 := by have := HSZ.out; have := HSL.2.1; omega
      have hc5 : KidsOn (wr.alloc (.cells #[.int .i64 t.kids[k].op, .int .i64 t.kids[k].num, .slice adk (t.kids[k]).kids.length capk] 48)) T (t.kids[k]).kids (.slice adk (t.kids[k]).kids.length capk) := HKC.out.mono (fun _ h => h) (fun b hb => hal1 b (by have := (HFT.out b hb).1; omega))
      have hc7 : Free T (wr.alloc (.cells #[.int .i64 t.kids[k].op, .int .i64 t.kids[k].num, .slice adk (t.kids[k]).kids.length capk] 48)) A gvk := fun b hb => by
        have h3 := HFT.out b hb
        refine ⟨by rw [Deep.nblk_alloc]; omega, fun e => ?_, h3.2.2⟩
        rcases HRD.out.gown b e with e | e
        · exact h3.2.1 e
        · omega
      have hc6 : lo ≤ (wr.alloc (.cells #[.int .i64 t.kids[k].op, .int .i64 t.kids[k].num, .slice adk (t.kids[k]).kids.length capk] 48)).heap.size := by rw [Deep.nblk_alloc]; omega
      have HCALL := hc1 gvk _ lo A xb ab _ T _ _ hc2 ((hal1 A (by omega)).trans HRD.out.arena) ((hal1 xb (by have := HXB.out.1; omega)).trans HX2.out) ((hal1 ab (by have := HAB.out.1; omega)).trans HA2.out) hc6 hc7 hc3 hc5 hc4 hal HIO.out.1 HIO.out.2 (HPT.out.kid k hlt)
      have HCALL := mkHid HCALL
      clear hc1 hc2 hc3 hc4 hc5 hc6 hc7
      go_wp2_with fail
      refine HCALL.out.mono ?_
      rintro e w2 ⟨gv', rfl, hg2, hA2, hgr2, how2⟩
      obtain ⟨nk, hnk⟩ : ∃ nk, nk = (addT args t.kids[k] (addL args (t.kids.take k) cs).1).2 := ⟨_, rfl⟩
      have HNK : Hid (nk = (addT args t.kids[k] (addL args (t.kids.take k) cs).1).2) := hnk
      have HG2 : Hid (OwnC w2 lo (fun b => SF w S (.slice adq (addL args (t.kids.take k) cs).2.length capq) b ∨ (wr.alloc (.cells #[.int .i64 t.kids[k].op, .int .i64 t.kids[k].num, .slice adk (t.kids[k]).kids.length capk] 48)).heap.size ≤ b) (addT args t.kids[k] (addL args (t.kids.take k) cs).1).1 gv') := hg2
      have HGR2 : Hid (Kept (wr.alloc (.cells #[.int .i64 t.kids[k].op, .int .i64 t.kids[k].num, .slice adk (t.kids[k]).kids.length capk] 48)) w2 A gvk.ownBlock) := hgr2
      have HAA2 : Hid (w2.heap[A]? = some (.cells #[gv'] 142)) := hA2
      have HOW2 : Hid (gv'.ownBlock = gvk.ownBlock ∨ ∃ g, gv'.ownBlock = some g ∧ (wr.alloc (.cells #[.int .i64 t.kids[k].op, .int .i64 t.kids[k].num, .slice adk (t.kids[k]).kids.length capk] 48)).heap.size ≤ g) := how2
      have HST2 : Hid (Stk (w2.alloc (.cells #[.int .i64 (nk : Int)] 3)) (w.heap.size + 1) (addL args (t.kids.take k) cs).2 (.slice adq (addL args (t.kids.take k) cs).2.length capq)) := (fd_stk HRD.out hAl _ hgr2).alloc _
      have HZ2 : Hid (w.heap.size + 1 ≤ w2.heap.size) := by have := hgr2.size; rw [Deep.nblk_alloc] at this; rw [Hid]; omega
      have HNB : Hid ((addL args (t.kids.take k) cs).2.length = k) := by rw [Hid, addL_length, List.length_take]; omega
      obtain ⟨iI, zI, hII⟩ := infoI1
      have HII : Hid (Tryz.prog.info? 3 = some iI ∧ iI.zero = some zI ∧ iI.size = 1 ∧ iI.bytes = 8 ∧ zI.cells.size = 1) := hII
      have hkm : k < 1048576 := by
        have h := HSZ.out
        rw [szL_sum, List.length_take] at h
        omega
      rw [← hnk]
      clear hII hg2 hgr2 how2 hA2 hnk hal1
      go_wp2_with (at_builtin; go_must (refine wpList_append_where _ rfl _ _ 88 rfl (w.heap.size + 1) 3 iI zI 1 8 Tryz.underlying88 HII.out.1 HII.out.2.1 HII.out.2.2.1 HII.out.2.2.2.1 HII.out.2.2.2.2 (by decide) (.slice adq (addL args (t.kids.take k) cs).2.length capq) (addL args (t.kids.take k) cs).2.length (plV (addL args (t.kids.take k) cs).2) rfl HST2.out ⟨w2.heap.size, 0, none⟩ 1 1 [.int .i64 (nk : Int)] rfl rfl (news1 w2 _) (by simp [Value.oneCell']) (by rw [HNB.out]; unfold maxLen; omega) (by rw [HNB.out]; omega) (by rw [Deep.nblk_alloc]; have := HZ2.out; omega) (by omega) ?_); go_must (intro v' w5 hown hgr5 hw5); go_must (have HST5 : Hid (Stk w5 (w.heap.size + 1) ((addL args (t.kids.take k) cs).2 ++ [nk]) v') := stk_snoc hown); go_must (have HGR5 : Hid ((w2.alloc (.cells #[.int .i64 (nk : Int)] 3)).grownBy w5 (Value.slice adq (addL args (t.kids.take k) cs).2.length capq).ownBlock) := hgr5); go_must (have HW5 : Hid (v'.ownBlock = (Value.slice adq (addL args (t.kids.take k) cs).2.length capq).ownBlock ∨ ∃ g, v'.ownBlock = some g ∧ (w2.alloc (.cells #[.int .i64 (nk : Int)] 3)).heap.size ≤ g) := hw5); clear hown hgr5 hw5)
      go_roundw
      case rel => exact ⟨k + 1, gv', by omega, by go_num, fd_push HRD.out hlt HG0.out hAl _ HG2.out HAA2.out HGR2.out HOW2.out _ (by rw [← HNK.out]; exact HST5.out) HGR5.out HW5.out⟩
      case measure => simp [intOf]; omega
    · have hke : k = t.kids.length := by omega
      subst hke
      have heb := hrd.ebx
      have o0 := cell_of_blk heb 0 _ rfl
      have o1 := cell_of_blk heb 1 _ rfl
      have o2 := cell_of_blk heb 2 _ rfl
      have htk : t.kids.take t.kids.length = t.kids := List.take_length
      have HRD2 : Hid (FdRel args t cs lo S A gv (.slice ad t.kids.length cap) w t.kids.length gvk (.slice adq (addL args t.kids cs).2.length capq) wr) := by
        have h := HRD.out
        rw [htk] at h
        exact h
      rw [htk]
      clear heb hrd HRD
      by_cases h1 : t.op = 1
      · obtain ⟨p1, p2, p3⟩ := ((allT_iff _ t).1 HPT.out).1 h1
        obtain ⟨n, hnn⟩ : ∃ n : Nat, t.num = n := ⟨t.num.toNat, by omega⟩
        have hlt2 : n < args.length := by omega
        have hc := clo_var args n xb ab T (.slice ad t.kids.length cap) (.slice adq (addL args t.kids cs).2.length capq) av wr hlt2 HX2.out (HA.out.mono (fun _ h => h) HOLD.out) hal
        rw [← hnn, ← h1] at hc
        have HCALL := mkHid hc
        have HFV : Hid (∀ e w', CloVar args[n] wr e w' → FdRes (addT args t cs) lo S gv A w e w') := fun e w' h => fd_var HRD2.out h1 p3 hnn hlt2 h
        clear hc h1 p1 p2 p3 hnn
        go_wp2_with fail
        refine HCALL.out.mono ?_
        intro e w' hr
        have HR := HFV.out e w' hr
        obtain ⟨rfl, -⟩ := hr
        have HR := mkHid HR
        go_wp2_with fail
        go_ret
        exact HR.out
      · obtain ⟨xs, hx⟩ := HRD2.out.graph.row
        rw [htk] at hx
        have hgl : (addL args t.kids cs).1.length ≤ 500000 := by
          have h := (addL_size args t.kids cs).2.1
          rw [szT_eq t] at hz
          omega
        have hc := clo_add A lo (addL args t.kids cs).1.length xb ab t.op t.num (.slice ad t.kids.length cap) gvk adq (addL args t.kids cs).2.length capq xs wr h1 HRD2.out.arena HA2.out hx (by omega) hgl
        have HCALL := mkHid hc
        have HFV : Hid (∀ e w', CloRes A lo (addL args t.kids cs).1.length t.op t.num gvk (.slice adq (addL args t.kids cs).2.length capq) xs wr e w' → FdRes (addT args t cs) lo S gv A w e w') := fun e w' h => fd_end HRD2.out h1 HG0.out hAl HT.out.1 HT.out.2 hx h
        clear hc hx htk
        go_wp2_with fail
        refine HCALL.out.mono ?_
        intro e w' hr
        have HR := HFV.out e w' hr
        obtain ⟨ob, v', w5, rfl, -⟩ := hr
        have HR := mkHid HR
        go_wp2_with fail
        go_ret
        exact HR.out
theorem fd_calls (args : List Nat) (av : Value) : ∀ t : Tr, FdSaid args av t
  | .node op n ks => fd_step args av (.node op n ks) fun i hi => fd_calls args av _
termination_by t => szT t
decreasing_by
  simp only [szT, Tr.kids_node] at *
  exact szT_lt_szL ks i hi
end Go.Proofs.YtiipcgnkfhjpeaaGreatDoor
