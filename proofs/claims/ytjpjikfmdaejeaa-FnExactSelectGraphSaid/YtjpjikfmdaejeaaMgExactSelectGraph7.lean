/-
  LISTS OF TREES WITH DISTINCT BLOCKS THAT A CALL BUILDS BY append.
-/
import Derived.Test.YtjpjikfmdaejeaaMgExactSelectGraph6
import Derived.Test.YtjpjikfmdaejeaaMgExactSelectGraph2
import Derived.Test.YtjpjikfmdaejeaaMgExactSelectGraph3
import Derived.Deep.DeepCutAuto
import Derived.Deep.RegionWith
import Derived.Deep.RegionHeld3
import Derived.Deep.RegionLaw
import Derived.IntWalk
import Derived.Test.YtjpjikfmdaejeaaMgExactSelectGraph5
import Derived.Test.YtjpjikfmdaejeaaMgExactSelectGraph4
namespace Go.Proofs.Ytjpjikfmdaejeaa
set_option linter.unusedVariables false
set_option linter.unusedSimpArgs false
open Go.RowKit

/-- a list of trees that a call has built by append: the row is its own, each tree has its own blocks, all from lo on -/
def OwnF (w : World) (lo hi : Nat) (ts : List Tr) (v : Value) : Prop :=
  ∃ (xs : List Value) (fps : List (List Nat)), w.ownsRow lo 79 3 v ts.length xs ∧ fps.length = ts.length ∧
    (∀ j (hj : j < ts.length), ∃ f, fps[j]? = some f ∧ ∃ a b c, xs[j * 3]? = some a ∧ xs[j * 3 + 1]? = some b ∧ xs[j * 3 + 2]? = some c ∧ TrFp w 79 ts[j] f a b c) ∧
    fps.flatten.Nodup ∧ ∀ k ∈ fps.flatten, lo ≤ k ∧ k < hi ∧ some k ≠ v.ownBlock

theorem OwnF.nil (w : World) (lo hi : Nat) : OwnF w lo hi [] (.slice none 0 0) := ⟨[], [], World.ownsRow_nil w lo _ _, rfl, fun j hj => absurd hj (by simp), by simp, by simp⟩
theorem OwnF.next {w w' : World} {lo hi hi' : Nat} {ts : List Tr} {v : Value} (h : OwnF w lo hi ts v) (hh : hi ≤ hi') (hs : hi ≤ w.heap.size) (hb : ∀ k, lo ≤ k → k < w.heap.size → w'.heap[k]? = w.heap[k]?) : OwnF w' lo hi' ts v := by
  obtain ⟨xs, fps, h1, h2, h3, h4, h5⟩ := h
  refine ⟨xs, fps, own_keep h1 hb, h2, fun j hj => ?_, h4, fun k hk => ⟨(h5 k hk).1, Nat.lt_of_lt_of_le (h5 k hk).2.1 hh, (h5 k hk).2.2⟩⟩
  obtain ⟨f, e0, a, b, c, e1, e2, e3, e4⟩ := h3 j hj
  exact ⟨f, e0, a, b, c, e1, e2, e3, TrFp.keep _ _ _ _ _ (fun k hk => by
    have := h5 k (List.mem_flatten.2 ⟨f, List.mem_of_getElem? e0, hk⟩)
    exact hb k this.1 (Nat.lt_of_lt_of_le this.2.1 hs)) e4⟩
theorem OwnF.row {w : World} {lo hi : Nat} {ts : List Tr} {v : Value} (h : OwnF w lo hi ts v) : ∃ xs, w.ownsRow lo 79 3 v ts.length xs := by
  obtain ⟨xs, -, h1, -⟩ := h; exact ⟨xs, h1⟩
/-- one tree more -/
theorem OwnF.step {w w' : World} {lo hi : Nat} {ts : List Tr} {v v' : Value} {t : Tr} {a b c : Value} {f : List Nat} (h : OwnF w lo hi ts v) (hlo : lo ≤ hi) (hs : hi ≤ w.heap.size)
    (hn : TrFp w 79 t f a b c) (hf : f.Nodup) (hfl : ∀ k ∈ f, hi ≤ k ∧ k < w.heap.size ∧ some k ≠ v.ownBlock) (xs : List Value) (hx : w.ownsRow lo 79 3 v ts.length xs)
    (hown : w'.ownsRow lo 79 3 v' (ts.length + 1) (xs ++ [a, b, c])) (hg : w.grownBy w' v.ownBlock) (hw : v'.ownBlock = v.ownBlock ∨ ∃ g, v'.ownBlock = some g ∧ w.heap.size ≤ g) : OwnF w' lo w.heap.size (ts ++ [t]) v' := by
  obtain ⟨xs2, fps, h1, h2, h3, h4, h5⟩ := h
  -- the row's cells are the same
  have hxs : xs2 = xs := by
    rcases h1.2 with ⟨rfl, h0⟩ | ⟨g, cap, cur, rfl, hg', hh, hn', hc, hs, htk⟩
    · have a1 := h1.1
      have a2 := hx.1
      rw [h0] at a1 a2
      rw [List.eq_nil_of_length_eq_zero (by omega : xs2.length = 0), List.eq_nil_of_length_eq_zero (by omega : xs.length = 0)]
    · rcases hx.2 with ⟨e, -⟩ | ⟨g2, cap2, cur2, e, -, hh2, -, -, -, htk2⟩
      · cases e
      · cases e
        rw [hh] at hh2
        cases hh2
        rw [← htk, ← htk2]
  subst hxs
  have hlen := h1.1
  have keepB : ∀ k, lo ≤ k ∧ k < w.heap.size ∧ some k ≠ v.ownBlock → w'.heap[k]? = w.heap[k]? := fun k hk => hg.block k hk.2.1 hk.2.2
  have nb : ∀ k, k < w.heap.size → some k ≠ v.ownBlock → some k ≠ v'.ownBlock := fun k hk hkv => by
    rcases hw with hw | ⟨g, hw, hge⟩
    · rw [hw]; exact hkv
    · rw [hw]; intro e; simp only [Option.some.injEq] at e; omega
  refine ⟨xs2 ++ [a, b, c], fps ++ [f], by simpa using hown, by simp [h2], fun j hj => ?_, ?_, ?_⟩
  · by_cases hjl : j < ts.length
    · obtain ⟨f', e0, x, y, z, e1, e2, e3, e4⟩ := h3 j hjl
      refine ⟨f', ?_, x, y, z, ?_, ?_, ?_, ?_⟩
      · rw [List.getElem?_append_left (by omega)]; exact e0
      · rw [List.getElem?_append_left (by omega)]; exact e1
      · rw [List.getElem?_append_left (by omega)]; exact e2
      · rw [List.getElem?_append_left (by omega)]; exact e3
      · rw [List.getElem_append_left hjl]
        exact TrFp.keep _ _ _ _ _ (fun k hk => by
          have := h5 k (List.mem_flatten.2 ⟨f', List.mem_of_getElem? e0, hk⟩)
          exact keepB k ⟨this.1, Nat.lt_of_lt_of_le this.2.1 hs, this.2.2⟩) e4
    · have hj' : j = ts.length := by simp at hj; omega
      subst hj'
      refine ⟨f, ?_, a, b, c, ?_, ?_, ?_, ?_⟩
      · rw [List.getElem?_append_right (by omega)]; simp [h2]
      · rw [List.getElem?_append_right (by omega)]; simp [hlen]
      · rw [List.getElem?_append_right (by omega)]; simp [hlen]
      · rw [List.getElem?_append_right (by omega)]; simp [hlen]
      · simpa using TrFp.keep _ _ _ _ _ (fun k hk => keepB k ⟨Nat.le_trans hlo (hfl k hk).1, (hfl k hk).2⟩) hn
  · rw [List.flatten_append, List.nodup_append]
    refine ⟨h4, by simpa using hf, fun x hx y hy e => ?_⟩
    subst e
    have e1 := (h5 x hx).2.1
    have e2 := (hfl x (by simpa using hy)).1
    omega
  · intro k hk
    simp only [List.flatten_append, List.mem_append] at hk
    rcases hk with hk | hk
    · have := h5 k hk
      exact ⟨this.1, Nat.lt_of_lt_of_le this.2.1 hs, nb k (Nat.lt_of_lt_of_le this.2.1 hs) this.2.2⟩
    · have := hfl k (by simpa using hk)
      exact ⟨Nat.le_trans hlo this.1, this.2.1, nb k this.2.1 this.2.2⟩
/-- the list, as trees with distinct blocks -/
theorem OwnF.fresh {w : World} {lo hi : Nat} {ts : List Tr} {v : Value} (h : OwnF w lo hi ts v) : Fresh w lo ts v := by
  obtain ⟨xs, fps, h1, h2, h3, h4, h5⟩ := h
  rcases h1.2 with ⟨rfl, h0⟩ | ⟨g, cap, cur, rfl, hg, hh, hn, hc, hs, htk⟩
  · obtain rfl : ts = [] := List.eq_nil_of_length_eq_zero h0
    exact ⟨[], ⟨none, 0, rfl, Nat.le_refl _, by simp [maxLen], Or.inl ⟨rfl, rfl⟩⟩, by simp, by simp⟩
  · refine ⟨g :: fps.flatten, ⟨_, cap, rfl, hn, hc, Or.inr ⟨g, 0, cur, fps, rfl, hh, rfl, RowFp.of _ _ _ h2 fun i hi => ?_⟩⟩, ?_, ?_⟩
    · obtain ⟨f, e0, a, b, c, e1, e2, e3, e4⟩ := h3 i hi
      refine ⟨f, e0, a, b, c, ?_, ?_, ?_, e4⟩
      · rw [Nat.zero_add, h1.cellAt (i * 3) (by omega)]; exact e1
      · rw [Nat.zero_add, h1.cellAt (i * 3 + 1) (by omega)]; exact e2
      · rw [Nat.zero_add, h1.cellAt (i * 3 + 2) (by omega)]; exact e3
    · rw [List.nodup_cons]
      exact ⟨fun hm => (h5 g hm).2.2 rfl, h4⟩
    · intro k hk
      rw [List.mem_cons] at hk
      rcases hk with rfl | hk
      · exact hg
      · exact (h5 k hk).1
end Go.Proofs.Ytjpjikfmdaejeaa
/-
  ONE TREE MORE IN A LIST THAT A CALL BUILDS: behind the tree's box and its cells.
-/
namespace Go.Proofs.Ytjpjikfmdaejeaa
set_option linter.unusedVariables false
set_option linter.unusedSimpArgs false
open Go.RowKit

/-- one tree more, handed back by a call, behind its box and its cells -/
theorem rd_push {wr w2 w5 : World} {lo : Nat} {ts : List Tr} {v v' : Value} {t : Tr} {c : Value} (h : OwnF wr lo wr.heap.size ts v) (hlo : lo ≤ wr.heap.size) (hb : ∀ k, lo ≤ k → k < wr.heap.size → w2.heap[k]? = wr.heap[k]?) (hsz : wr.heap.size ≤ w2.heap.size)
    (hf : Fresh w2 wr.heap.size t.kids c) (ho : I64 t.op) (hn : I64 t.num) (o1 o2 : Obj) (xs : List Value) (hx : ((w2.alloc o1).alloc o2).ownsRow lo 79 3 v ts.length xs)
    (hown : w5.ownsRow lo 79 3 v' (ts.length + 1) (xs ++ [.int .i64 t.op, .int .i64 t.num, c])) (hg : ((w2.alloc o1).alloc o2).grownBy w5 v.ownBlock) (hw : v'.ownBlock = v.ownBlock ∨ ∃ g, v'.ownBlock = some g ∧ ((w2.alloc o1).alloc o2).heap.size ≤ g) :
    OwnF w5 lo ((w2.alloc o1).alloc o2).heap.size (ts ++ [t]) v' := by
  have hz4 : ((w2.alloc o1).alloc o2).heap.size = w2.heap.size + 2 := by rw [Deep.nblk_alloc, Deep.nblk_alloc]
  have hk4 : ∀ k, k < w2.heap.size → ((w2.alloc o1).alloc o2).heap[k]? = w2.heap[k]? := fun k hk => (Deep.blk_alloc_lt _ _ _ (by rw [Deep.nblk_alloc]; omega)).trans (Deep.blk_alloc_lt _ _ _ hk)
  have h4 : OwnF ((w2.alloc o1).alloc o2) lo wr.heap.size ts v := h.next (Nat.le_refl _) (Nat.le_refl _) fun k h1 h2 => (hk4 k (by omega)).trans (hb k h1 h2)
  have hob : ∀ k, v.ownBlock = some k → k < wr.heap.size := by
    obtain ⟨ys, fps, h1, -⟩ := h
    intro k hk
    rcases h1.2 with ⟨rfl, -⟩ | ⟨g, cap, cur, rfl, -, hh, -⟩
    · simp [Value.ownBlock] at hk
    · simp only [Value.ownBlock, Option.some.injEq] at hk
      subst hk
      exact (Array.getElem?_eq_some_iff.1 hh).1
  obtain ⟨fp, f1, f2, f3⟩ := hf
  have f4 : KidsFp ((w2.alloc o1).alloc o2) 79 t.kids fp c := f1.keep fun k hk => hk4 k (f1.lt k hk)
  exact h4.step hlo (by omega) (trFp_iff.2 ⟨rfl, rfl, ho, hn, f4⟩) f2 (fun k hk => ⟨f3 k hk, by have := f1.lt k hk; omega, fun e => by have := hob k e.symm; have := f3 k hk; omega⟩) xs hx hown hg hw
end Go.Proofs.Ytjpjikfmdaejeaa
/-
  THE PROGRAM's arena, wherever it lies: one cell more.
-/
namespace Go.Proofs.Ytjpjikfmdaejeaa
set_option linter.unusedVariables false
set_option linter.unusedSimpArgs false
open Go.RowKit

theorem row_ne_cells {w : World} {A lo n : Nat} {T : TypeId} {CC : Array Value} {gv : Value} {xs : List Value} (hT : T ≠ 45) (hA : w.heap[A]? = some (.cells CC T)) (hx : w.ownsRow lo 45 3 gv n xs) : some A ≠ gv.ownBlock := by
  intro e
  rcases hx.2 with ⟨rfl, -⟩ | ⟨b, cap, cur, rfl, -, hh, -⟩
  · simp [Value.ownBlock] at e
  · simp only [Value.ownBlock, Option.some.injEq] at e
    subst e
    rw [hh] at hA
    simp only [Option.some.injEq, Obj.cells.injEq] at hA
    exact hT hA.2.1.symm
theorem grown_drew {w w5 : World} {b : Option Nat} (h : w.drew.grownBy w5 b) : w.grownBy w5 b := ⟨h.os, h.tape, h.output, h.size, h.block⟩
theorem arp_keep {w w5 : World} {A lo n : Nat} {T : TypeId} {CC : Array Value} {gv : Value} {xs : List Value} {o1 o2 : Obj} (hT : T ≠ 45) (hA : w.heap[A]? = some (.cells CC T)) (hx : w.ownsRow lo 45 3 gv n xs) (hg : ((w.alloc o1).alloc o2).grownBy w5 gv.ownBlock) : w5.heap[A]? = some (.cells CC T) := by
  have hl : A < w.heap.size := (Array.getElem?_eq_some_iff.1 hA).1
  exact ((hg.block A (by rw [Deep.nblk_alloc, Deep.nblk_alloc]; omega) (row_ne_cells hT hA hx)).trans ((Deep.blk_alloc_lt _ _ _ (by rw [Deep.nblk_alloc]; omega)).trans (Deep.blk_alloc_lt _ _ _ hl))).trans hA

/-- what add hands back: the cell's place; its row is the arena's -/
def AddedP (A q lo n : Nat) (o m : Int) (gv kv : Value) (xs : List Value) (w : World) (e : Ending) (w' : World) : Prop :=
  ∃ v' w5, e = .returned (.int .i64 (n : Int)) ∧ w5.ownsRow lo 45 3 v' (n + 1) (xs ++ [.int .i64 o, .int .i64 m, kv]) ∧ ((w.alloc (.cells #[.int .i64 o, .int .i64 m, kv] 45)).alloc (.cells #[.int .i64 o, .int .i64 m, kv] 45)).grownBy w5 gv.ownBlock ∧ (v'.ownBlock = gv.ownBlock ∨ ∃ g, v'.ownBlock = some g ∧ ((w.alloc (.cells #[.int .i64 o, .int .i64 m, kv] 45)).alloc (.cells #[.int .i64 o, .int .i64 m, kv] 45)).heap.size ≤ g) ∧ w' = w5.setCell ⟨A, q, none⟩ v'

set_option maxRecDepth 100000 in
set_option maxHeartbeats 1600000 in
theorem addP_calls (A q : Nat) (T : TypeId) (CC : Array Value) (hT : T ≠ 45) (lo n : Nat) (o m : Int) (gv : Value) (adk : Option Addr) (nk ck : Nat) (xs : List Value) (w : World) (hA : w.heap[A]? = some (.cells CC T)) (hq : CC[q]? = some gv) (hx : w.ownsRow lo 45 3 gv n xs) (hlo : lo ≤ w.heap.size) (hn : n ≤ 500000) :
    Calls Try.prog 53 #[.pointer (some ⟨A, q, none⟩), .agg #[.int .i64 o, .int .i64 m, .slice adk nk ck]] w (AddedP A q lo n o m gv (.slice adk nk ck) xs w) := by
  have HA : Hid (w.heap[A]? = some (.cells CC T)) := hA
  have HX : Hid (w.ownsRow lo 45 3 gv n xs) := hx
  have a0 := cell_of_blk hA q _ hq
  have af := frz_of_blk hA q
  obtain ⟨ad, cap, rfl⟩ : ∃ ad cap, gv = .slice ad n cap := by
    rcases hx.2 with ⟨rfl, h0⟩ | ⟨b, cap, cur, rfl, -⟩
    · exact ⟨none, 0, by rw [h0]⟩
    · exact ⟨_, _, rfl⟩
  have HQ := mkHid hq
  clear hA hx hq
  go_enter Try.func53, Try.ntmps53
  have p0 := old_cell a0 (.cells #[.int .i64 o, .int .i64 m, .slice adk nk ck] 45)
  have p1 := old_cell p0 (.cells #[.int .i64 o, .int .i64 m, .slice adk nk ck] 45)
  have b0 := box_cell w #[.int .i64 o, .int .i64 m, .slice adk nk ck] 45 0 _ rfl
  have b1 := box_cell w #[.int .i64 o, .int .i64 m, .slice adk nk ck] 45 1 _ rfl
  have b2 := box_cell w #[.int .i64 o, .int .i64 m, .slice adk nk ck] 45 2 _ rfl
  obtain ⟨iC, zC, hII⟩ := infoC1
  have HII : Hid (Try.prog.info? 45 = some iC ∧ iC.zero = some zC ∧ iC.size = 3 ∧ iC.bytes = 40 ∧ zC.cells.size = 3) := hII
  have HX2 : Hid (((w.alloc (.cells #[.int .i64 o, .int .i64 m, .slice adk nk ck] 45)).alloc (.cells #[.int .i64 o, .int .i64 m, .slice adk nk ck] 45)).drew.ownsRow lo 45 3 (.slice ad n cap) n xs) := own_keep (own_keep (own_keep HX.out (fun k _ hk => Deep.blk_alloc_lt _ _ _ hk)) (fun k _ hk => Deep.blk_alloc_lt _ _ _ hk)) (fun _ _ _ => rfl)
  clear hII
  go_wp2_with fail
  go_region_law (refine step_append_where rfl (.tmp 9) (.tmp 11) 25 rfl lo 45 iC zC 3 40 Try.underlying25 HII.out.1 HII.out.2.1 HII.out.2.2.1 HII.out.2.2.2.1 HII.out.2.2.2.2 (by decide) (.slice ad n cap) n xs (by simp [Act.eval, Act.put]) HX2.out ⟨w.heap.size + 1, 0, none⟩ 1 1 [.int .i64 o, .int .i64 m, .slice adk nk ck] (by simp [Act.eval, Act.put]) rfl (by have h := news3c (w.alloc (.cells #[.int .i64 o, .int .i64 m, .slice adk nk ck] 45)) (.int .i64 o) (.int .i64 m) (.slice adk nk ck); rw [Deep.nblk_alloc] at h; exact h) (by simp [Value.oneCell']) (by unfold maxLen; omega) (by omega) (by show lo ≤ ((w.alloc _).alloc _).heap.size; simp only [Deep.nblk_alloc]; omega) (by omega) ?_; intro v' w5 hown hg0 hw; have hg := grown_drew hg0; clear hg0; obtain ⟨g', c', rfl, -, -, -, -⟩ := own_form hown (by omega); have s2 := cell_of_blk (arp_keep hT HA.out HX.out hg) q _ HQ.out; have sf := frz_of_blk (arp_keep hT HA.out HX.out hg) q)
  all_goals
    have hn0 : ¬ ((n : Int) + 1 - 1 < 0) := by omega
    have h64 : IntKind.i64.wrap ((n : Int) + 1 - 1) = (n : Int) := by rw [show (n : Int) + 1 - 1 = (n : Int) by omega]; exact IntWalk.i64_in _ (by omega)
    go_wp2_with fail
    go_ret
    exact ⟨_, w5, rfl, hown, hg, hw, rfl⟩
end Go.Proofs.Ytjpjikfmdaejeaa
/-
  THE PROGRAM's arena: one cell more.
-/
namespace Go.Proofs.Ytjpjikfmdaejeaa
set_option linter.unusedVariables false
set_option linter.unusedSimpArgs false
open Go.RowKit

theorem cells_ne_arena {w : World} {A lo n : Nat} {gv gv0 : Value} {xs : List Value} (hA : w.heap[A]? = some (.cells #[gv0] 51)) (hx : w.ownsRow lo 45 3 gv n xs) : some A ≠ gv.ownBlock := by
  intro e
  rcases hx.2 with ⟨rfl, -⟩ | ⟨b, cap, cur, rfl, -, hh, -⟩
  · simp [Value.ownBlock] at e
  · simp only [Value.ownBlock, Option.some.injEq] at e
    subst e
    rw [hh] at hA
    simp at hA
theorem ar_keep {w w5 : World} {A lo n : Nat} {gv : Value} {xs : List Value} {o1 o2 : Obj} (hA : w.heap[A]? = some (.cells #[gv] 51)) (hx : w.ownsRow lo 45 3 gv n xs) (hg : ((w.alloc o1).alloc o2).grownBy w5 gv.ownBlock) : w5.heap[A]? = some (.cells #[gv] 51) := by
  have hl : A < w.heap.size := (Array.getElem?_eq_some_iff.1 hA).1
  exact ((hg.block A (by rw [Deep.nblk_alloc, Deep.nblk_alloc]; omega) (cells_ne_arena hA hx)).trans ((Deep.blk_alloc_lt _ _ _ (by rw [Deep.nblk_alloc]; omega)).trans (Deep.blk_alloc_lt _ _ _ hl))).trans hA

/-- what add hands back: the cell's place; its row is the arena's -/
abbrev Added (A lo n : Nat) (o m : Int) (gv kv : Value) (xs : List Value) (w : World) (e : Ending) (w' : World) : Prop := AddedP A 0 lo n o m gv kv xs w e w'
theorem arena_not_cell : (51 : TypeId) ≠ 45 := by decide
theorem add_calls (A lo n : Nat) (o m : Int) (gv : Value) (adk : Option Addr) (nk ck : Nat) (xs : List Value) (w : World) (hA : w.heap[A]? = some (.cells #[gv] 51)) (hx : w.ownsRow lo 45 3 gv n xs) (hlo : lo ≤ w.heap.size) (hn : n ≤ 500000) :
    Calls Try.prog 53 #[.pointer (some ⟨A, 0, none⟩), .agg #[.int .i64 o, .int .i64 m, .slice adk nk ck]] w (Added A lo n o m gv (.slice adk nk ck) xs w) :=
  addP_calls A 0 51 #[gv] arena_not_cell lo n o m gv adk nk ck xs w hA rfl hx hlo hn
end Go.Proofs.Ytjpjikfmdaejeaa
/-
  THE MODEL's l3Add: the cells of an expression, added to a graph that is being built.
-/
namespace Go.Proofs.Ytjpjikfmdaejeaa
set_option linter.unusedVariables false
set_option linter.unusedSimpArgs false
open Go.RowKit

/-- what l3Add hands back: the graph with the cells, in its own rows; nothing is written but the row of the cells -/
def AddRes (r : List Ce × Nat) (lo : Nat) (S : Nat → Prop) (gv : Value) (w : World) (e : Ending) (w' : World) : Prop :=
  ∃ gv', e = .returned (.tuple #[gv', .int .i64 (r.2 : Int)]) ∧ OwnC w' lo (fun b => S b ∨ w.heap.size ≤ b) r.1 gv' ∧ w.grownBy w' gv.ownBlock ∧ (gv'.ownBlock = gv.ownBlock ∨ ∃ g, gv'.ownBlock = some g ∧ w.heap.size ≤ g)
theorem grown_box {w w1 : World} {row : Option Nat} (h : Below w.heap.size w w1) : w.grownBy w1 row := ⟨h.os, h.tape, h.output, h.size, fun k hk _ => h.block k hk⟩
/-- where the operands' rows of the graph lie while the operands of a cell are gathered in kv -/
def SK (w : World) (S : Nat → Prop) (kv : Value) : Nat → Prop := fun b => ((S b ∧ b < w.heap.size) ∨ w.heap.size + 2 ≤ b) ∧ some b ≠ kv.ownBlock
/-- what holds behind k operands -/
structure AdRel (args : List Nat) (t : Tr) (cs : List Ce) (lo : Nat) (S : Nat → Prop) (gv0 ebox : Value) (w : World) (k : Nat) (gv kv : Value) (wr : World) : Prop where
  graph : OwnC wr lo (SK w S kv) (addL args (t.kids.take k) cs).1 gv
  kids : Stk wr (w.heap.size + 2) (addL args (t.kids.take k) cs).2 kv
  box : wr.heap[w.heap.size + 1]? = some (.cells #[.int .i64 t.op, .int .i64 t.num, kv] 45)
  ebx : wr.heap[w.heap.size]? = some (.cells #[.int .i64 t.op, .int .i64 t.num, ebox] 79)
  old : ∀ b, b < w.heap.size → some b ≠ gv0.ownBlock → wr.heap[b]? = w.heap[b]?
  os : wr.os = w.os
  tape : wr.tape = w.tape
  output : wr.output = w.output
  size : w.heap.size + 2 ≤ wr.heap.size
  own : gv.ownBlock = gv0.ownBlock ∨ ∃ g, gv.ownBlock = some g ∧ w.heap.size + 2 ≤ g

theorem cell_not_int : ¬ (45 : TypeId) = 3 := by decide
/-- a row of cells is no row of ints -/
theorem own_ne {w : World} {b1 b2 n1 n2 s1 s2 : Nat} {v1 v2 : Value} {x1 x2 : List Value} (h1 : w.ownsRow b1 45 s1 v1 n1 x1) (h2 : w.ownsRow b2 3 s2 v2 n2 x2) : ∀ k, some k = v1.ownBlock → some k ≠ v2.ownBlock := by
  intro k e1 e2
  rcases h1.2 with ⟨rfl, -⟩ | ⟨g, cap, cur, rfl, -, hh, -⟩
  · simp [Value.ownBlock] at e1
  · rcases h2.2 with ⟨rfl, -⟩ | ⟨g2, cap2, cur2, rfl, -, hh2, -⟩
    · simp [Value.ownBlock] at e2
    · simp only [Value.ownBlock, Option.some.injEq] at e1 e2
      subst e1
      subst e2
      rw [hh] at hh2
      simp at hh2
theorem news1 (w : World) (n : Nat) : ∀ j u, [Value.int .i64 (n : Int)][j]? = some u → (w.alloc (.cells #[.int .i64 (n : Int)] 3)).cell? ((⟨w.heap.size, 0, none⟩ : Addr).add j) = some u := by
  intro j u hu
  have hj : j = 0 := by
    rcases Nat.lt_or_ge j 1 with h | h
    · omega
    · rw [List.getElem?_eq_none (by simpa using h)] at hu; cases hu
  subst hj
  simp only [List.getElem?_cons_zero, Option.some.injEq] at hu
  subst hu
  rw [WideShapes.add_plain]
  exact box_cell w #[.int .i64 (n : Int)] 3 0 _ rfl
theorem stk_snoc {w : World} {lo n : Nat} {ws : List Nat} {v : Value} (h : w.ownsRow lo 3 1 v (ws.length + 1) (plV ws ++ [.int .i64 (n : Int)])) : Stk w lo (ws ++ [n]) v := by
  unfold Stk
  rw [show plV (ws ++ [n]) = plV ws ++ [.int .i64 (n : Int)] by simp [plV], List.length_append]
  exact h
theorem AdRel.kept {args : List Nat} {t : Tr} {cs : List Ce} {lo : Nat} {S : Nat → Prop} {gv0 ebox : Value} {w : World} {k : Nat} {gv kv : Value} {wr : World} (h : AdRel args t cs lo S gv0 ebox w k gv kv wr) (hg0 : ∀ b, gv0.ownBlock = some b → b < w.heap.size) {w2 : World} (hgr : wr.grownBy w2 gv.ownBlock) :
    (∀ b, b < w.heap.size → some b ≠ gv0.ownBlock → w2.heap[b]? = w.heap[b]?) ∧ w2.heap[w.heap.size]? = wr.heap[w.heap.size]? ∧ w2.heap[w.heap.size + 1]? = wr.heap[w.heap.size + 1]? ∧ Stk w2 (w.heap.size + 2) (addL args (t.kids.take k) cs).2 kv := by
  have hs := h.size
  have ho : ∀ b, some b = gv.ownBlock → some b = gv0.ownBlock ∨ w.heap.size + 2 ≤ b := by
    intro b hb
    rcases h.own with e | ⟨g, e, hg⟩
    · exact Or.inl (hb.trans e)
    · rw [e] at hb; simp only [Option.some.injEq] at hb; exact Or.inr (by omega)
  refine ⟨fun b hb hn => (hgr.block b (by omega) fun e => ?_).trans (h.old b hb hn), hgr.block _ (by omega) fun e => ?_, hgr.block _ (by omega) fun e => ?_, ?_⟩
  · rcases ho b e with e | e
    · exact hn e
    · omega
  · rcases ho _ e with e | e
    · have := hg0 _ e.symm; omega
    · omega
  · rcases ho _ e with e | e
    · have := hg0 _ e.symm; omega
    · omega
  · obtain ⟨ys, hy⟩ := h.graph.row
    refine ⟨h.kids.1, ?_⟩
    rcases h.kids.2 with h' | ⟨g, cap, cur, rfl, hg, hh, r⟩
    · exact Or.inl h'
    · exact Or.inr ⟨g, cap, cur, rfl, hg, (hgr.block g (Array.getElem?_eq_some_iff.1 hh).1 fun e => own_ne hy h.kids g e rfl).trans hh, r⟩
/-- one operand more -/
theorem ad_push {args : List Nat} {t : Tr} {cs : List Ce} {lo : Nat} {S : Nat → Prop} {gv0 ebox : Value} {w : World} {k : Nat} {gv kv : Value} {wr : World} (h : AdRel args t cs lo S gv0 ebox w k gv kv wr) (hk : k < t.kids.length) (hg0 : ∀ b, gv0.ownBlock = some b → b < w.heap.size) {gv' : Value} {w2 : World}
    (hg : OwnC w2 lo (fun b => SK w S kv b ∨ wr.heap.size ≤ b) (addT args t.kids[k] (addL args (t.kids.take k) cs).1).1 gv') (hgr : wr.grownBy w2 gv.ownBlock) (how : gv'.ownBlock = gv.ownBlock ∨ ∃ g, gv'.ownBlock = some g ∧ wr.heap.size ≤ g) (o : Obj) {kv' : Value} {w5 : World}
    (hst : Stk w5 (w.heap.size + 2) ((addL args (t.kids.take k) cs).2 ++ [(addT args t.kids[k] (addL args (t.kids.take k) cs).1).2]) kv') (hgr5 : (w2.alloc o).grownBy w5 kv.ownBlock) (hw5 : kv'.ownBlock = kv.ownBlock ∨ ∃ g, kv'.ownBlock = some g ∧ (w2.alloc o).heap.size ≤ g) :
    AdRel args t cs lo S gv0 ebox w (k + 1) gv' kv' (w5.setCell ⟨w.heap.size + 1, 2, none⟩ kv') := by
  obtain ⟨q1, q2, q3, q4⟩ := h.kept hg0 hgr
  have hs := h.size
  have hs2 := hgr.size
  have hs5 := hgr5.size
  rw [Deep.nblk_alloc] at hs5 hw5
  have hkv : ∀ b, some b = kv.ownBlock → w.heap.size + 2 ≤ b ∧ b < wr.heap.size := fun b e => own_some h.kids b e.symm
  have k5 : ∀ b, b < w2.heap.size → some b ≠ kv.ownBlock → w5.heap[b]? = w2.heap[b]? := fun b hb hn => (hgr5.block b (by rw [Deep.nblk_alloc]; omega) hn).trans (Deep.blk_alloc_lt _ _ _ hb)
  have k6 : ∀ b, b < w2.heap.size → some b ≠ kv.ownBlock → b ≠ w.heap.size + 1 → (w5.setCell ⟨w.heap.size + 1, 2, none⟩ kv').heap[b]? = w2.heap[b]? := fun b hb hn hne => (Below.heap_setCell _ _ _ _ hne).trans (k5 b hb hn)
  have ho : ∀ b, some b = gv'.ownBlock → some b = gv0.ownBlock ∨ w.heap.size + 2 ≤ b := by
    intro b hb
    rcases how with e | ⟨g, e, hg⟩
    · rw [e] at hb
      rcases h.own with e | ⟨g, e, hg⟩
      · exact Or.inl (hb.trans e)
      · rw [e] at hb; simp only [Option.some.injEq] at hb; exact Or.inr (by omega)
    · rw [e] at hb; simp only [Option.some.injEq] at hb; exact Or.inr (by omega)
  have e1 : addL args (t.kids.take (k + 1)) cs = _ := addL_take_succ args t.kids cs k hk
  refine ⟨?_, ?_, ?_, ?_, ?_, ?_, ?_, ?_, ?_, ?_⟩
  · rw [e1]
    refine hg.next (fun b hb hb2 => ?_) (fun b e hb => ?_) (fun b hS hb => ?_)
    · refine ⟨?_, fun e => ?_⟩
      · rcases hb with hb | hb
        · exact hb.1
        · exact Or.inr (by omega)
      · rcases hw5 with e5 | ⟨g, e5, hg5⟩
        · rw [e5] at e
          rcases hb with hb | hb
          · exact hb.2 e
          · have := (hkv b e).2; omega
        · rw [e5] at e
          simp only [Option.some.injEq] at e
          omega
    · obtain ⟨ys, hy⟩ := hg.row
      refine k6 b hb (own_ne hy q4 b e) fun e6 => ?_
      rcases ho b e with e | e
      · have := hg0 _ e.symm; omega
      · omega
    · rcases hS with hS | hS
      · exact k6 b hb hS.2 fun e6 => by rcases hS.1 with h7 | h7 <;> omega
      · exact k6 b hb (fun e => by have := (hkv b e).2; omega) (by omega)
  · rw [e1]
    exact Stk.keep hst fun b h1 h2 => Below.heap_setCell _ _ _ _ (by show b ≠ w.heap.size + 1; omega)
  · refine box_set (a := .int .i64 t.op) (b := .int .i64 t.num) (c := kv) ?_ _
    rw [k5 _ (by omega) fun e => by have := (hkv _ e).1; omega, q3]
    exact h.box
  · rw [k6 _ (by omega) (fun e => by have := (hkv _ e).1; omega) (by omega), q2]
    exact h.ebx
  · intro b hb hn
    rw [k6 b (by omega) (fun e => by have := (hkv _ e).1; omega) (by omega)]
    exact q1 b hb hn
  · show w5.os = w.os
    rw [hgr5.os]; exact hgr.os.trans h.os
  · show w5.tape = w.tape
    rw [hgr5.tape]; exact hgr.tape.trans h.tape
  · show w5.output = w.output
    rw [hgr5.output]; exact hgr.output.trans h.output
  · rw [size_setCell]; omega
  · rcases how with e | ⟨g, e, hg⟩
    · rw [e]; exact h.own
    · exact Or.inr ⟨g, e, by omega⟩

/-- behind all operands: the cell -/
theorem ad_end {args : List Nat} {t : Tr} {cs : List Ce} {lo : Nat} {S : Nat → Prop} {gv0 ebox : Value} {w : World} {k : Nat} {gv kv : Value} {wr : World} (h : AdRel args t cs lo S gv0 ebox w k gv kv wr) (hk : k = t.kids.length) (hg0 : ∀ b, gv0.ownBlock = some b → b < w.heap.size) (ho : I64 t.op) (hn : I64 t.num) (o : Obj) {xs : List Value}
    (hx : (wr.alloc o).ownsRow lo 45 3 gv (addL args t.kids cs).1.length xs) {v' : Value} {w5 : World}
    (hown : w5.ownsRow lo 45 3 v' ((addL args t.kids cs).1.length + 1) (xs ++ [.int .i64 t.op, .int .i64 t.num, kv])) (hg : (wr.alloc o).grownBy w5 gv.ownBlock) (hw : v'.ownBlock = gv.ownBlock ∨ ∃ g, v'.ownBlock = some g ∧ (wr.alloc o).heap.size ≤ g) :
    OwnC w5 lo (fun b => S b ∨ w.heap.size ≤ b) ((addL args t.kids cs).1 ++ [⟨t.op, t.num, (addL args t.kids cs).2.map fun (a : Nat) => (a : Int)⟩]) v' ∧ w.grownBy w5 gv0.ownBlock ∧ (v'.ownBlock = gv0.ownBlock ∨ ∃ g, v'.ownBlock = some g ∧ w.heap.size ≤ g) := by
  have hs := h.size
  have hs5 := hg.size
  rw [Deep.nblk_alloc] at hs5 hw
  have e1 : t.kids.take k = t.kids := by rw [hk, List.take_length]
  have hG := h.graph
  have hK := h.kids
  rw [e1] at hG hK
  have hG4 : OwnC (wr.alloc o) lo (SK w S kv) (addL args t.kids cs).1 gv := hG.next (fun _ h _ => h) (fun b _ hb => Deep.blk_alloc_lt _ _ _ hb) (fun b _ hb => Deep.blk_alloc_lt _ _ _ hb)
  obtain ⟨blk, hb1, hb2, hb3⟩ : ∃ blk, w.heap.size ≤ blk ∧ ¬ SK w S kv blk ∧ KRowS (wr.alloc o) (fun b => b = blk) ((addL args t.kids cs).2.map fun (a : Nat) => (a : Int)) blk kv := by
    obtain ⟨blk, h1, h2⟩ := stk_krow (hK.alloc o)
    by_cases he : (addL args t.kids cs).2 = []
    · refine ⟨w.heap.size, Nat.le_refl _, fun h => by rcases h.1 with h | h <;> omega, ?_⟩
      obtain ⟨ad, cap, e, l1, l2, -⟩ := h2
      exact ⟨ad, cap, e, l1, l2, Or.inl (by rw [he]; rfl)⟩
    · exact ⟨blk, by have := (own_some hK blk (h1 he)).1; omega, fun h => h.2 (h1 he).symm, h2⟩
  have hst := hG4.step (c := ⟨t.op, t.num, (addL args t.kids cs).2.map fun (a : Nat) => (a : Int)⟩) (v' := v') ⟨ho, hn⟩ hb3 hb2 xs hx hown hg
  have hown' : ∀ b, some b = gv.ownBlock → some b = gv0.ownBlock ∨ w.heap.size + 2 ≤ b := by
    intro b hb
    rcases h.own with e | ⟨g, e, hg⟩
    · exact Or.inl (hb.trans e)
    · rw [e] at hb; simp only [Option.some.injEq] at hb; exact Or.inr (by omega)
  refine ⟨hst.next (fun b hb _ => ?_) (fun _ _ _ => rfl) (fun _ _ _ => rfl), ⟨?_, ?_, ?_, by omega, fun b hb hn => ?_⟩, ?_⟩
  · rcases hb with hb | rfl
    · rcases hb.1 with hb | hb
      · exact Or.inl hb.1
      · exact Or.inr (by omega)
    · exact Or.inr hb1
  · rw [hg.os]; exact h.os
  · rw [hg.tape]; exact h.tape
  · rw [hg.output]; exact h.output
  · refine ((hg.block b (by rw [Deep.nblk_alloc]; omega) fun e => ?_).trans (Deep.blk_alloc_lt _ _ _ (by omega))).trans (h.old b hb hn)
    rcases hown' b e with e | e
    · exact hn e
    · omega
  · rcases hw with e | ⟨g, e, hg⟩
    · rw [e]
      rcases h.own with e | ⟨g, e, hg⟩
      · exact Or.inl e
      · exact Or.inr ⟨g, e, by omega⟩
    · exact Or.inr ⟨g, e, by omega⟩

end Go.Proofs.Ytjpjikfmdaejeaa
/-
  THE PROGRAM's foldExpr with the closure of addExpr: the cells of an expression, added to an arena.
-/
namespace Go.Proofs.Ytjpjikfmdaejeaa
set_option linter.unusedVariables false
set_option linter.unusedSimpArgs false
open Go.RowKit

/-- nothing changed but one row and block A -/
structure Kept (w w' : World) (A : Nat) (row : Option Nat) : Prop where
  os : w'.os = w.os
  tape : w'.tape = w.tape
  output : w'.output = w.output
  size : w.heap.size ≤ w'.heap.size
  block : ∀ k, k < w.heap.size → some k ≠ row → k ≠ A → w'.heap[k]? = w.heap[k]?
/-- a graph that is being built stays where its rows stay: rows of ints and the row of cells -/
theorem OwnC.next2 {w w' : World} {lo : Nat} {S S' : Nat → Prop} {g : List Ce} {v : Value} (h : OwnC w lo S g v) (hS : ∀ k, S k → k < w.heap.size → S' k) (hr : ∀ k, some k = v.ownBlock → k < w.heap.size → w'.heap[k]? = w.heap[k]?) (hb : ∀ k C, S k → k < w.heap.size → w.heap[k]? = some (.cells C 3 (0, 0)) → w'.heap[k]? = w.heap[k]?) : OwnC w' lo S' g v := by
  obtain ⟨hi0, xs, kb, h1, h2, h3⟩ := h
  refine ⟨hi0, xs, kb, ?_, fun j hj => ?_, h3⟩
  · refine ⟨h1.1, ?_⟩
    rcases h1.2 with h | ⟨b, cap, cur, rfl, hg, hh, r⟩
    · exact Or.inl h
    · exact Or.inr ⟨b, cap, cur, rfl, hg, (hr b rfl (Array.getElem?_eq_some_iff.1 hh).1).trans hh, r⟩
  · obtain ⟨kv, e0, e1, e2, e3⟩ := h2 j hj
    exact ⟨kv, e0, e1, e2, e3.keep hS fun C h1 h2 hC => hb _ C h1 h2 hC⟩

def FdRes (r : List Ce × Nat) (lo : Nat) (S : Nat → Prop) (gv : Value) (A : Nat) (w : World) (e : Ending) (w' : World) : Prop :=
  ∃ gv', e = .returned (.int .i64 (r.2 : Int)) ∧ OwnC w' lo (fun b => S b ∨ w.heap.size ≤ b) r.1 gv' ∧ w'.heap[A]? = some (.cells #[gv'] 51) ∧ Kept w w' A gv.ownBlock ∧ (gv'.ownBlock = gv.ownBlock ∨ ∃ g, gv'.ownBlock = some g ∧ w.heap.size ≤ g)
/-- blocks of T are there, and none of them is the arena or the row of its cells -/
def Free (T : Nat → Prop) (w : World) (A : Nat) (gv : Value) : Prop := ∀ b, T b → b < w.heap.size ∧ some b ≠ gv.ownBlock ∧ b ≠ A
/-- the closure, at a node that is no variable -/
def CloRes (A lo n : Nat) (o m : Int) (gv kv : Value) (xs : List Value) (w : World) (e : Ending) (w' : World) : Prop := ∃ ob, Added A lo n o m gv kv xs (w.alloc ob) e w'
/-- where the operands' rows of the graph lie while the operands of a cell are gathered in kv -/
def SF (w : World) (S : Nat → Prop) (kv : Value) : Nat → Prop := fun b => ((S b ∧ b < w.heap.size) ∨ w.heap.size + 1 ≤ b) ∧ some b ≠ kv.ownBlock
/-- what holds behind k operands -/
structure FdRel (args : List Nat) (t : Tr) (cs : List Ce) (lo : Nat) (S : Nat → Prop) (A : Nat) (gv0 ebox : Value) (w : World) (k : Nat) (gv kv : Value) (wr : World) : Prop where
  graph : OwnC wr lo (SF w S kv) (addL args (t.kids.take k) cs).1 gv
  arena : wr.heap[A]? = some (.cells #[gv] 51)
  kids : Stk wr (w.heap.size + 1) (addL args (t.kids.take k) cs).2 kv
  ebx : wr.heap[w.heap.size]? = some (.cells #[.int .i64 t.op, .int .i64 t.num, ebox] 79)
  kept : Kept w wr A gv0.ownBlock
  size : w.heap.size + 1 ≤ wr.heap.size
  own : gv.ownBlock = gv0.ownBlock ∨ ∃ g, gv.ownBlock = some g ∧ w.heap.size + 1 ≤ g
theorem FdRel.gown {args : List Nat} {t : Tr} {cs : List Ce} {lo A : Nat} {S : Nat → Prop} {gv0 ebox : Value} {w : World} {k : Nat} {gv kv : Value} {wr : World} (h : FdRel args t cs lo S A gv0 ebox w k gv kv wr) : ∀ b, some b = gv.ownBlock → some b = gv0.ownBlock ∨ w.heap.size + 1 ≤ b := by
  intro b hb
  rcases h.own with e | ⟨g, e, hg⟩
  · exact Or.inl (hb.trans e)
  · rw [e] at hb; simp only [Option.some.injEq] at hb; exact Or.inr (by omega)
/-- one operand more -/
theorem fd_push {args : List Nat} {t : Tr} {cs : List Ce} {lo A : Nat} {S : Nat → Prop} {gv0 ebox : Value} {w : World} {k : Nat} {gv kv : Value} {wr : World} (h : FdRel args t cs lo S A gv0 ebox w k gv kv wr) (hk : k < t.kids.length) (hg0 : ∀ b, gv0.ownBlock = some b → b < w.heap.size) (hA : A < w.heap.size) (o1 : Obj) {gv' : Value} {w2 : World}
    (hg : OwnC w2 lo (fun b => SF w S kv b ∨ (wr.alloc o1).heap.size ≤ b) (addT args t.kids[k] (addL args (t.kids.take k) cs).1).1 gv') (hA2 : w2.heap[A]? = some (.cells #[gv'] 51)) (hgr : Kept (wr.alloc o1) w2 A gv.ownBlock) (how : gv'.ownBlock = gv.ownBlock ∨ ∃ g, gv'.ownBlock = some g ∧ (wr.alloc o1).heap.size ≤ g) (o : Obj) {kv' : Value} {w5 : World}
    (hst : Stk w5 (w.heap.size + 1) ((addL args (t.kids.take k) cs).2 ++ [(addT args t.kids[k] (addL args (t.kids.take k) cs).1).2]) kv') (hgr5 : (w2.alloc o).grownBy w5 kv.ownBlock) (hw5 : kv'.ownBlock = kv.ownBlock ∨ ∃ g, kv'.ownBlock = some g ∧ (w2.alloc o).heap.size ≤ g) :
    FdRel args t cs lo S A gv0 ebox w (k + 1) gv' kv' w5 := by
  have hs := h.size
  have hs2 := hgr.size
  have hs5 := hgr5.size
  rw [Deep.nblk_alloc] at hs2 hs5 hw5 how hg
  have hkv : ∀ b, some b = kv.ownBlock → w.heap.size + 1 ≤ b ∧ b < wr.heap.size := fun b e => own_some h.kids b e.symm
  have k2 : ∀ b, b < wr.heap.size → some b ≠ gv.ownBlock → b ≠ A → w2.heap[b]? = wr.heap[b]? := fun b hb hn hne => (hgr.block b (by rw [Deep.nblk_alloc]; omega) hn hne).trans (Deep.blk_alloc_lt _ _ _ hb)
  have k5 : ∀ b, b < w2.heap.size → some b ≠ kv.ownBlock → w5.heap[b]? = w2.heap[b]? := fun b hb hn => (hgr5.block b (by rw [Deep.nblk_alloc]; omega) hn).trans (Deep.blk_alloc_lt _ _ _ hb)
  have q4 : Stk w2 (w.heap.size + 1) (addL args (t.kids.take k) cs).2 kv := by
    obtain ⟨ys, hy⟩ := h.graph.row
    refine ⟨h.kids.1, ?_⟩
    rcases h.kids.2 with h' | ⟨g, cap, cur, rfl, hg, hh, r⟩
    · exact Or.inl h'
    · exact Or.inr ⟨g, cap, cur, rfl, hg, (k2 g (Array.getElem?_eq_some_iff.1 hh).1 (fun e => own_ne hy h.kids g e rfl) (by omega)).trans hh, r⟩
  have e1 : addL args (t.kids.take (k + 1)) cs = _ := addL_take_succ args t.kids cs k hk
  have hkA : some A ≠ kv.ownBlock := fun e => by have := (hkv _ e).1; omega
  refine ⟨?_, ?_, ?_, ?_, ⟨?_, ?_, ?_, ?_, ?_⟩, ?_, ?_⟩
  · rw [e1]
    refine hg.next2 (fun b hb hb2 => ?_) (fun b e hb => ?_) (fun b C hS hb _ => ?_)
    · refine ⟨?_, fun e => ?_⟩
      · rcases hb with hb | hb
        · exact hb.1
        · exact Or.inr (by omega)
      · rcases hw5 with e5 | ⟨g, e5, hg5⟩
        · rw [e5] at e
          rcases hb with hb | hb
          · exact hb.2 e
          · have := (hkv b e).2; omega
        · rw [e5] at e
          simp only [Option.some.injEq] at e
          omega
    · obtain ⟨ys, hy⟩ := hg.row
      exact k5 b hb (own_ne hy q4 b e)
    · rcases hS with hS | hS
      · exact k5 b hb hS.2
      · exact k5 b hb (fun e => by have := (hkv b e).2; omega)
  · rw [k5 A (by omega) hkA]; exact hA2
  · rw [e1]; exact hst
  · rw [k5 _ (by omega) (fun e => by have := (hkv _ e).1; omega), k2 _ (by omega) (fun e => by rcases h.gown _ e with e | e; have := hg0 _ e.symm; omega; omega) (by omega)]
    exact h.ebx
  · rw [hgr5.os]; exact hgr.os.trans h.kept.os
  · rw [hgr5.tape]; exact hgr.tape.trans h.kept.tape
  · rw [hgr5.output]; exact hgr.output.trans h.kept.output
  · omega
  · intro b hb hn hne
    rw [k5 b (by omega) (fun e => by have := (hkv _ e).1; omega), k2 b (by omega) (fun e => by rcases h.gown _ e with e | e; exact hn e; omega) hne]
    exact h.kept.block b hb hn hne
  · omega
  · rcases how with e | ⟨g, e, hg⟩
    · rw [e]; exact h.own
    · exact Or.inr ⟨g, e, by omega⟩
/-- behind all operands: the cell -/
theorem fd_end {args : List Nat} {t : Tr} {cs : List Ce} {lo A : Nat} {S : Nat → Prop} {gv0 ebox : Value} {w : World} {gv kv : Value} {wr : World} (h : FdRel args t cs lo S A gv0 ebox w t.kids.length gv kv wr) (h1 : ¬ t.op = 1) (hg0 : ∀ b, gv0.ownBlock = some b → b < w.heap.size) (hA : A < w.heap.size) (ho : I64 t.op) (hn : I64 t.num) {xs : List Value}
    (hx : wr.ownsRow lo 45 3 gv (addL args t.kids cs).1.length xs) {e : Ending} {w' : World} (hr : CloRes A lo (addL args t.kids cs).1.length t.op t.num gv kv xs wr e w') : FdRes (addT args t cs) lo S gv0 A w e w' := by
  obtain ⟨ob, v', w5, rfl, hown, hg, hw, rfl⟩ := hr
  have hs := h.size
  have hG := h.graph
  have hK := h.kids
  rw [List.take_length] at hG hK
  have hz : ∀ o1 o2, ((((wr.alloc ob).alloc o1).alloc o2)).heap.size = wr.heap.size + 3 := fun o1 o2 => by rw [Deep.nblk_alloc, Deep.nblk_alloc, Deep.nblk_alloc]
  have hs5 := hg.size
  rw [hz] at hs5 hw
  have hkeep : ∀ o1 o2 b, b < wr.heap.size → (((wr.alloc ob).alloc o1).alloc o2).heap[b]? = wr.heap[b]? := fun o1 o2 b hb => (Deep.blk_alloc_lt _ _ _ (by rw [Deep.nblk_alloc, Deep.nblk_alloc]; omega)).trans ((Deep.blk_alloc_lt _ _ _ (by rw [Deep.nblk_alloc]; omega)).trans (Deep.blk_alloc_lt _ _ _ hb))
  have hG4 : OwnC (((wr.alloc ob).alloc (.cells #[.int .i64 t.op, .int .i64 t.num, kv] 45)).alloc (.cells #[.int .i64 t.op, .int .i64 t.num, kv] 45)) lo (SF w S kv) (addL args t.kids cs).1 gv := hG.next (fun _ h _ => h) (fun b _ hb => hkeep _ _ b hb) (fun b _ hb => hkeep _ _ b hb)
  obtain ⟨blk, hb1, hb2, hb3⟩ : ∃ blk, w.heap.size ≤ blk ∧ ¬ SF w S kv blk ∧ KRowS (((wr.alloc ob).alloc (.cells #[.int .i64 t.op, .int .i64 t.num, kv] 45)).alloc (.cells #[.int .i64 t.op, .int .i64 t.num, kv] 45)) (fun b => b = blk) ((addL args t.kids cs).2.map fun (a : Nat) => (a : Int)) blk kv := by
    obtain ⟨blk, h1, h2⟩ := stk_krow (((hK.alloc ob).alloc (.cells #[.int .i64 t.op, .int .i64 t.num, kv] 45)).alloc (.cells #[.int .i64 t.op, .int .i64 t.num, kv] 45))
    by_cases he : (addL args t.kids cs).2 = []
    · refine ⟨w.heap.size, Nat.le_refl _, fun h => by rcases h.1 with h | h <;> omega, ?_⟩
      obtain ⟨ad, cap, e, l1, l2, -⟩ := h2
      exact ⟨ad, cap, e, l1, l2, Or.inl (by rw [he]; rfl)⟩
    · exact ⟨blk, by have := (own_some hK blk (h1 he)).1; omega, fun h => h.2 (h1 he).symm, h2⟩
  have hx4 := own_keep hx (w' := ((wr.alloc ob).alloc (.cells #[.int .i64 t.op, .int .i64 t.num, kv] 45)).alloc (.cells #[.int .i64 t.op, .int .i64 t.num, kv] 45)) (fun b _ hb => hkeep _ _ b hb)
  have hst := hG4.step (c := ⟨t.op, t.num, (addL args t.kids cs).2.map fun (a : Nat) => (a : Int)⟩) (v' := v') ⟨ho, hn⟩ hb3 hb2 xs hx4 hown hg
  have hAg : some A ≠ gv.ownBlock := cells_ne_arena h.arena hx
  have hA5 : w5.heap[A]? = some (.cells #[gv] 51) := ((hg.block A (by rw [hz]; omega) hAg).trans (hkeep _ _ A (by omega))).trans h.arena
  have hAv : some A ≠ v'.ownBlock := cells_ne_arena hA5 hown
  rw [addT_other cs h1]
  refine ⟨v', rfl, hst.next2 (fun b hb _ => ?_) (fun b e hb => Below.heap_setCell _ _ _ _ (fun e2 => hAv (by have e3 : b = A := e2; rw [← e3]; exact e))) (fun b C hS hb hC => Below.heap_setCell _ _ _ _ (fun e2 => ?_)), ?_, ⟨?_, ?_, ?_, ?_, ?_⟩, ?_⟩
  · rcases hb with hb | rfl
    · rcases hb.1 with hb | hb
      · exact Or.inl hb.1
      · exact Or.inr (by omega)
    · exact Or.inr hb1
  · have e3 : b = A := e2
    subst e3
    rw [hA5] at hC
    simp at hC
  · simp [World.setCell, Array.getElem?_modify, hA5]
  · show w5.os = w.os
    rw [hg.os]; exact h.kept.os
  · show w5.tape = w.tape
    rw [hg.tape]; exact h.kept.tape
  · show w5.output = w.output
    rw [hg.output]; exact h.kept.output
  · rw [size_setCell]; omega
  · intro b hb hn hne
    rw [Below.heap_setCell _ _ _ _ hne, hg.block b (by rw [hz]; omega) (fun e => by rcases h.gown _ e with e | e; exact hn e; omega), hkeep _ _ b (by omega)]
    exact h.kept.block b hb hn hne
  · rcases hw with e | ⟨g, e, hg⟩
    · rw [e]
      rcases h.own with e | ⟨g, e, hg⟩
      · exact Or.inl e
      · exact Or.inr ⟨g, e, by omega⟩
    · exact Or.inr ⟨g, e, by omega⟩

theorem own_not {w : World} {lo n b : Nat} {v : Value} {xs : List Value} {C : Array Value} {T : TypeId} (hx : w.ownsRow lo 45 3 v n xs) (hb : w.heap[b]? = some (.cells C T)) (hT : ¬ 45 = T) : some b ≠ v.ownBlock := by
  intro e
  rcases hx.2 with ⟨rfl, -⟩ | ⟨g, cap, cur, rfl, -, hh, -⟩
  · simp [Value.ownBlock] at e
  · simp only [Value.ownBlock, Option.some.injEq] at e
    subst e
    rw [hh] at hb
    simp at hb
    exact hT hb.2
theorem fd_stk {args : List Nat} {t : Tr} {cs : List Ce} {lo A : Nat} {S : Nat → Prop} {gv0 ebox : Value} {w : World} {k : Nat} {gv kv : Value} {wr : World} (h : FdRel args t cs lo S A gv0 ebox w k gv kv wr) (hA : A < w.heap.size) (o1 : Obj) {w2 : World} (hgr : Kept (wr.alloc o1) w2 A gv.ownBlock) : Stk w2 (w.heap.size + 1) (addL args (t.kids.take k) cs).2 kv := by
  obtain ⟨ys, hy⟩ := h.graph.row
  refine ⟨h.kids.1, ?_⟩
  rcases h.kids.2 with h' | ⟨g, cap, cur, rfl, hg, hh, r⟩
  · exact Or.inl h'
  · have hl := (Array.getElem?_eq_some_iff.1 hh).1
    exact Or.inr ⟨g, cap, cur, rfl, hg, ((hgr.block g (by rw [Deep.nblk_alloc]; omega) (fun e => own_ne hy h.kids g e rfl) (by omega)).trans (Deep.blk_alloc_lt _ _ _ hl)).trans hh, r⟩
/-- the closure, at a variable -/
def CloVar (a : Nat) (w : World) (e : Ending) (w' : World) : Prop := e = .returned (.int .i64 (a : Int)) ∧ Below w.heap.size w w'
theorem fd_var {args : List Nat} {t : Tr} {cs : List Ce} {lo A : Nat} {S : Nat → Prop} {gv0 ebox : Value} {w : World} {gv kv : Value} {wr : World} (h : FdRel args t cs lo S A gv0 ebox w t.kids.length gv kv wr) (h1 : t.op = 1) (hk : t.kids = []) {n : Nat} (hnn : t.num = n) (hn : n < args.length) {e : Ending} {w' : World} (hr : CloVar args[n] wr e w') : FdRes (addT args t cs) lo S gv0 A w e w' := by
  obtain ⟨rfl, hb⟩ := hr
  have hs := h.size
  have hG := h.graph
  rw [List.take_length, hk] at hG
  simp only [addL] at hG
  rw [addT_var cs h1, hnn]
  have e1 : args.getD (n : Int).toNat 0 = args[n] := by simp [hn]
  rw [e1]
  have hAl := (Array.getElem?_eq_some_iff.1 h.arena).1
  refine ⟨gv, rfl, hG.next (fun b hb _ => ?_) (fun b _ hb' => hb.block b hb') (fun b _ hb' => hb.block b hb'), (hb.block A hAl).trans h.arena, ⟨hb.os.trans h.kept.os, hb.tape.trans h.kept.tape, hb.output.trans h.kept.output, by have := hb.size; omega, fun b hb' hn' hne => (hb.block b (by omega)).trans (h.kept.block b hb' hn' hne)⟩, ?_⟩
  · rcases hb.1 with hb | hb
    · exact Or.inl hb.1
    · exact Or.inr (by omega)
  · rcases h.own with e | ⟨g, e, hg⟩
    · exact Or.inl e
    · exact Or.inr ⟨g, e, by omega⟩

end Go.Proofs.Ytjpjikfmdaejeaa
/-
  THE PROGRAM's addExpr in an arena, and arenaOf at no graph.
-/
namespace Go.Proofs.Ytjpjikfmdaejeaa
set_option linter.unusedVariables false
set_option linter.unusedSimpArgs false
open Go.RowKit

theorem OwnC.down {w : World} {lo lo' : Nat} {S S' : Nat → Prop} {g : List Ce} {v : Value} (h : OwnC w lo S g v) (hl : lo' ≤ lo) (hS : ∀ k, S k → S' k) : OwnC w lo' S' g v := by
  obtain ⟨hi0, xs, kb, h1, h2, h3⟩ := h.next (S' := S') (fun k hk _ => hS k hk) (fun _ _ _ => rfl) (fun _ _ _ => rfl)
  refine ⟨hi0, xs, kb, ⟨h1.1, ?_⟩, h2, h3⟩
  rcases h1.2 with h | ⟨b, cap, cur, rfl, hg, r⟩
  · exact Or.inl h
  · exact Or.inr ⟨b, cap, cur, rfl, Nat.le_trans hl hg, r⟩
theorem fdRes_down {r : List Ce × Nat} {lo A : Nat} {S : Nat → Prop} {gv : Value} {w W : World} {e : Ending} {w' : World} (h : FdRes r lo S gv A W e w') (hb : Below w.heap.size w W) : FdRes r lo S gv A w e w' := by
  obtain ⟨gv', h1, h2, h3, h4, h5⟩ := h
  have hs := hb.size
  refine ⟨gv', h1, h2.next (fun b hb _ => hb.imp id fun h => by omega) (fun _ _ _ => rfl) (fun _ _ _ => rfl), h3, ⟨h4.os.trans hb.os, h4.tape.trans hb.tape, h4.output.trans hb.output, Nat.le_trans hs h4.size, fun k hk hn hne => (h4.block k (by omega) hn hne).trans (hb.block k hk)⟩, ?_⟩
  rcases h5 with e | ⟨g, e, hg⟩
  · exact Or.inl e
  · exact Or.inr ⟨g, e, by omega⟩

set_option maxRecDepth 100000 in
set_option maxHeartbeats 1600000 in
theorem arena0 (w : World) : Calls Try.prog 40 #[.slice none 0 0] w fun e w' => e = .returned (.pointer (some ⟨w.heap.size, 0, none⟩)) ∧ w' = w.alloc (.cells #[.slice none 0 0] 51) := by
  go_enter Try.func40, Try.ntmps40
  go_wp2_with fail
  go_loopw [10] (fun i wr => i = .int .i64 0 ∧ wr = w.alloc (.cells #[.slice none 0 0] 51)) (fun i _ => 0)
  case atStart => exact ⟨rfl, rfl⟩
  case round =>
    obtain ⟨rfl, rfl⟩ := hrel
    go_wp2_with fail
    go_ret
    exact ⟨rfl, rfl⟩

end Go.Proofs.Ytjpjikfmdaejeaa
/-
  THE PROGRAM's arenaOf: a copy of a graph's cells.
-/
namespace Go.Proofs.Ytjpjikfmdaejeaa
set_option linter.unusedVariables false
set_option linter.unusedSimpArgs false
open Go.RowKit

/-- what holds behind some cells -/
def ArRel (lo A : Nat) (w : World) (G : List Ce) (wr : World) : Prop := ∃ gv, OwnC wr lo (fun b => lo ≤ b) G gv ∧ wr.heap[A]? = some (.cells #[gv] 51) ∧ Below w.heap.size w wr
theorem arena_push {w wr w1 w' : World} {lo A : Nat} {G : List Ce} {gv kv : Value} {ws : List Nat} {o m : Int} {xs : List Value} {e : Ending} (h : OwnC wr lo (fun b => lo ≤ b) G gv) (hA : wr.heap[A]? = some (.cells #[gv] 51)) (hw : Below w.heap.size w wr) (hwl : w.heap.size ≤ lo) (hlo : lo ≤ wr.heap.size) (hlA : lo ≤ A) (hb : Below wr.heap.size wr w1) (hst : Stk w1 wr.heap.size ws kv)
    (hx : w1.ownsRow lo 45 3 gv G.length xs) (ho : I64 o) (hm : I64 m) (hr : Added A lo G.length o m gv kv xs w1 e w') : e = .returned (.int .i64 (G.length : Int)) ∧ ArRel lo A w (G ++ [⟨o, m, ws.map fun (a : Nat) => (a : Int)⟩]) w' := by
  obtain ⟨v', w5, rfl, hown, hg, hwv, rfl⟩ := hr
  have hAl : A < wr.heap.size := (Array.getElem?_eq_some_iff.1 hA).1
  have hs1 := hb.size
  have hp := copy_push h hlo (hb.alloc hs1 (.cells #[.int .i64 o, .int .i64 m, kv] 45)) (hst.alloc _) _ (own_keep (own_keep hx (fun k _ hk => Deep.blk_alloc_lt _ _ _ hk)) (fun k _ hk => Deep.blk_alloc_lt _ _ _ hk)) hown hg ho hm
  have hA1 : w1.heap[A]? = some (.cells #[gv] 51) := (hb.block A hAl).trans hA
  have hA5 : w5.heap[A]? = some (.cells #[gv] 51) := ar_keep hA1 hx hg
  have hAv : some A ≠ v'.ownBlock := cells_ne_arena hA5 hown
  have hs5 := hg.size
  rw [Deep.nblk_alloc, Deep.nblk_alloc] at hs5
  have hsw := hw.size
  refine ⟨rfl, v', hp.next2 (fun _ h _ => h) (fun b e hb => Below.heap_setCell _ _ _ _ (fun e2 => hAv (by have e3 : b = A := e2; rw [← e3]; exact e))) (fun b C hS hb hC => Below.heap_setCell _ _ _ _ (fun e2 => ?_)), ?_, ⟨?_, ?_, ?_, ?_, ?_⟩⟩
  · have e3 : b = A := e2
    subst e3
    rw [hA5] at hC
    simp at hC
  · simp [World.setCell, Array.getElem?_modify, hA5]
  · show w5.os = w.os
    exact (hg.os.trans hb.os).trans hw.os
  · show w5.tape = w.tape
    exact (hg.tape.trans hb.tape).trans hw.tape
  · show w5.output = w.output
    exact (hg.output.trans hb.output).trans hw.output
  · rw [size_setCell]; omega
  · intro k hk
    rw [Below.heap_setCell _ _ _ _ (by show k ≠ A; omega), hg.block k (by rw [Deep.nblk_alloc, Deep.nblk_alloc]; omega) (fun e => by have := (own_some hx k e.symm).1; omega), Deep.blk_alloc_lt _ _ _ (by rw [Deep.nblk_alloc]; omega), Deep.blk_alloc_lt _ _ _ (by omega), hb.block k (by omega)]
    exact hw.block k hk

theorem stk_down {w : World} {lo lo' : Nat} {ws : List Nat} {v : Value} (h : Stk w lo ws v) (hl : lo' ≤ lo) : Stk w lo' ws v := by
  refine ⟨h.1, ?_⟩
  rcases h.2 with h | ⟨g, cap, cur, rfl, hg, r⟩
  · exact Or.inl h
  · exact Or.inr ⟨g, cap, cur, rfl, Nat.le_trans hl hg, r⟩
theorem stk_len3 {w : World} {lo n : Nat} {ws : List Nat} {v : Value} (h : Stk w lo ws v) (hn : ws.length = n) : ∃ ad cap, v = .slice ad n cap := by
  obtain ⟨a, c, e⟩ := h.len
  exact ⟨a, c, by rw [e, hn]⟩
theorem added_keep {A lo n : Nat} {o m : Int} {gv kv : Value} {xs : List Value} {w : World} {e : Ending} {w' : World} (h : Added A lo n o m gv kv xs w e w') (b : Nat) (hb : b < w.heap.size) (hn : some b ≠ gv.ownBlock) (hA : b ≠ A) : w'.heap[b]? = w.heap[b]? := by
  obtain ⟨v', w5, rfl, -, hg, -, rfl⟩ := h
  rw [Below.heap_setCell _ _ _ _ hA, hg.block b (by rw [Deep.nblk_alloc, Deep.nblk_alloc]; omega) hn, Deep.blk_alloc_lt _ _ _ (by rw [Deep.nblk_alloc]; omega), Deep.blk_alloc_lt _ _ _ hb]
/-- the arena, at the caller's next block -/
def ArenaRes (g : List Ce) (w : World) (e : Ending) (w' : World) : Prop := e = .returned (.pointer (some ⟨w.heap.size, 0, none⟩)) ∧ ArRel w.heap.size w.heap.size w g w'
set_option maxRecDepth 100000 in
set_option maxHeartbeats 1600000 in
theorem arenaOf_calls (g : List Ce) (v : Value) (w : World) (hk : CIn w g v) (hg : ∃ defs, graphB g defs = true) : Calls Try.prog 40 #[v] w (ArenaRes g w) := by
  have HK : Hid (CIn w g v) := hk
  obtain ⟨defs, hg⟩ := hg
  have HG : Hid (graphB g defs = true) := hg
  obtain ⟨ad, cap, rfl, hl, hm, -⟩ := hk
  unfold maxLen at hm
  have h400 : g.length ≤ 400 := graphB_len hg
  clear hg
  have HST : Hid (ArRel w.heap.size w.heap.size w (g.take 0) (w.alloc (.cells #[.slice none 0 0] 51))) := ⟨_, OwnC.nil _ _ _, Deep.blk_alloc_new _ _, box_below _ _⟩
  go_enter Try.func40, Try.ntmps40
  go_wp2_with fail
  go_loopw [10] (fun i wr => ∃ k : Nat, k ≤ g.length ∧ i = .int .i64 k ∧ ArRel w.heap.size w.heap.size w (g.take k) wr) (fun i _ => g.length - (intOf i).toNat)
  case atStart => exact ⟨0, Nat.zero_le _, rfl, HST.out⟩
  case round =>
    obtain ⟨k, hk, rfl, hrel⟩ := hrel
    have HR : Hid (ArRel w.heap.size w.heap.size w (g.take k) wr) := hrel
    obtain ⟨gv, hog, hA, hb⟩ := hrel
    by_cases hlt : k < g.length
    · obtain ⟨bl, off, r2, rfl, c0w, c1w, c2w, io, iN, hkk⟩ := HK.out.at k hlt
      have HLW : Hid (bl < w.heap.size) := cell_lt c0w
      have c0 := (hb.cell (p := ⟨bl, off + k * 3, none⟩) HLW.out).trans c0w
      have c1 := (hb.cell (p := ⟨bl, off + k * 3 + 1, none⟩) HLW.out).trans c1w
      have c2 := (hb.cell (p := ⟨bl, off + k * 3 + 2, none⟩) HLW.out).trans c2w
      have HIO : Hid (I64 g[k].op ∧ I64 g[k].num) := ⟨io, iN⟩
      have HKK : Hid (IIn wr ((kidsN g k).map fun (a : Nat) => (a : Int)) r2) := by rw [← kids_back HG.out k hlt]; exact hkk.next hb
      have HK3 : Hid (g[k].kids.length ≤ 3) := (kids_graph HG.out k hlt).1
      have HKN : Hid ((kidsN g k).length = g[k].kids.length) := by rw [Hid, kidsN_at k hlt]; simp
      have HTL : Hid ((g.take k).length = k) := by rw [Hid, List.length_take]; omega
      obtain ⟨adk, capk, rfl, -, -, -⟩ := id hkk
      have HOG : Hid (OwnC wr w.heap.size (fun b => w.heap.size ≤ b) (g.take k) gv) := hog
      have HAA : Hid (wr.heap[w.heap.size]? = some (.cells #[gv] 51)) := hA
      have HB : Hid (Below w.heap.size w wr) := hb
      clear hkk io iN c0w c1w c2w hog hA hb
      obtain ⟨xs, hx⟩ := HOG.out.row
      have HX : Hid (wr.ownsRow w.heap.size 45 3 gv (g.take k).length xs) := hx
      have b0 := box_cell wr #[.int .i64 g[k].op, .int .i64 g[k].num, .slice adk g[k].kids.length capk] 45 0 _ rfl
      have b1 := box_cell wr #[.int .i64 g[k].op, .int .i64 g[k].num, .slice adk g[k].kids.length capk] 45 1 _ rfl
      have b2 := box_cell wr #[.int .i64 g[k].op, .int .i64 g[k].num, .slice adk g[k].kids.length capk] 45 2 _ rfl
      clear hx
      go_wp2_with fail
      go_region_held3 (fun w' => w'.cell? ⟨wr.heap.size, 0, none⟩ = some (.int .i64 g[k].op) ∧ w'.cell? ⟨wr.heap.size, 1, none⟩ = some (.int .i64 g[k].num) ∧ w'.cell? ⟨wr.heap.size, 2, none⟩ = some (.slice adk g[k].kids.length capk))
        (first
          | go_keep
          | exact ⟨e0, e1, e2⟩
          | exact ⟨d0, d1, d2⟩
          | exact ⟨b0, b1, b2⟩)
        (first
          | (go_at_call 54; refine (cloneI_calls (kidsN g k) _ ((wr.alloc (.cells #[.int .i64 g[k].op, .int .i64 g[k].num, .slice adk g[k].kids.length capk] 45)).drew) (HKK.out.next ((box_below wr _).drew)) (by rw [HKN.out]; have := HK3.out; omega)).mono ?_; rintro e w1 ⟨v1, rfl, hst1, hb1⟩; have HB1 : Hid (Below wr.heap.size wr w1) := ((box_below wr _).drew).trans (hb1.mono (by show wr.heap.size ≤ (wr.alloc _).heap.size; rw [Deep.nblk_alloc]; omega)); have HST1 : Hid (Stk w1 wr.heap.size (kidsN g k) v1) := stk_down hst1 (by show wr.heap.size ≤ (wr.alloc _).heap.size; rw [Deep.nblk_alloc]; omega); have hbx := (hb1.block wr.heap.size (by show wr.heap.size < (wr.alloc _).heap.size; rw [Deep.nblk_alloc]; omega)).trans (Deep.blk_alloc_new wr _); have HBX := mkHid hbx; have d0 := cell_of_blk hbx 0 _ rfl; have d1 := cell_of_blk hbx 1 _ rfl; have d2 := cell_of_blk hbx 2 _ rfl; obtain ⟨ad1, cap1, rfl⟩ := stk_len3 hst1 HKN.out; clear hst1 hb1 hbx)
          | (go_at_call 53; refine (add_calls w.heap.size w.heap.size (g.take k).length g[k].op g[k].num gv ad1 g[k].kids.length cap1 xs w1 ((HB1.out.block _ (cellsOf_lt HAA.out)).trans HAA.out) (own_keep HX.out (fun b _ hb => HB1.out.block b hb)) (Nat.le_trans HB.out.size HB1.out.size) (by rw [HTL.out]; omega)).mono ?_; rintro e w5 hr; have hk5 := added_keep hr wr.heap.size (cellsOf_lt HBX.out) (fun e => by have := (own_some HX.out _ e.symm).2; omega) (by have := cellsOf_lt HAA.out; omega); have hbx5 := hk5.trans HBX.out; have e0 := cell_of_blk hbx5 0 _ rfl; have e1 := cell_of_blk hbx5 1 _ rfl; have e2 := cell_of_blk hbx5 2 _ rfl; have hp := arena_push (w := w) (ws := kidsN g k) HOG.out HAA.out HB.out (Nat.le_refl _) HB.out.size (Nat.le_refl _) HB1.out HST1.out (own_keep HX.out (fun b _ hb => HB1.out.block b hb)) HIO.out.1 HIO.out.2 hr; obtain ⟨rfl, hrel5⟩ := hp; have HREL5 := mkHid hrel5; clear hr hk5 hbx5 hrel5))
      go_wp2_with fail
      go_roundw
      case rel =>
        refine ⟨k + 1, by omega, by go_num, ?_⟩
        have h := HREL5.out
        rw [← kids_back HG.out k hlt] at h
        rw [List.take_succ_eq_append_getElem hlt]
        exact h
      case measure => simp [intOf]; omega
    · have hke : k = g.length := by omega
      have HE : Hid (ArRel w.heap.size w.heap.size w g wr) := by
        have h := HR.out
        rw [hke, List.take_length] at h
        exact h
      clear hke hog hA hb
      go_wp2_with fail
      go_ret
      exact ⟨rfl, HE.out⟩
end Go.Proofs.Ytjpjikfmdaejeaa
/-
  THE PROGRAM's standsFor; nothing that was there is changed.
-/
namespace Go.Proofs.Ytjpjikfmdaejeaa
set_option linter.unusedVariables false
set_option linter.unusedSimpArgs false
open Go.RowKit

/-- what standsFor answers -/
def folO (o : Option Nat) : Int := match o with | some b => (b : Int) | none => 0

set_option maxHeartbeats 800000 in
theorem standsFor_calls (g : List Ce) (a : Nat) (v : Value) (w : World) (hk : CIn w g v) (hg : ∃ defs, graphB g defs = true) (ha : a < g.length) :
    Calls Try.prog 48 #[v, .int .i64 (a : Int)] w fun e w' => e = .returned (.tuple #[.int .i64 (folO (followN g g.length a)), .bool (followN g g.length a).isSome]) ∧ Below w.heap.size w w' := by
  have HK : Hid (CIn w g v) := hk
  obtain ⟨ad, cap, rfl, hl, hm, -⟩ := hk
  unfold maxLen at hm
  obtain ⟨defs, hg⟩ := hg
  have HG : Hid (graphB g defs = true) := hg
  have h400 : g.length ≤ 400 := graphB_len hg
  clear hg
  go_enter Try.func48, Try.ntmps48
  go_wp2_with fail
  go_loopw [1, 8] (fun at' i wr => ∃ k b : Nat, k ≤ g.length ∧ i = .int .i64 k ∧ at' = .int .i64 (b : Int) ∧ b < g.length ∧ followN g g.length a = followN g (g.length - k) b ∧ Below w.heap.size w wr) (fun _ i _ => g.length - (intOf i).toNat)
  case atStart => exact ⟨0, a, Nat.zero_le _, rfl, rfl, ha, rfl, Below.refl _ _⟩
  case round =>
    obtain ⟨k, b, hk, rfl, rfl, hbl, hf, hb⟩ := hrel
    have HF : Hid (followN g g.length a = followN g (g.length - k) b) := hf
    have HB : Hid (Below w.heap.size w wr) := hb
    clear hf
    by_cases hlt : k < g.length
    · have HLT : Hid (k < g.length) := hlt
      obtain ⟨bl, off, r, rfl, c0, c1, c2, -, -, hkk⟩ := (HK.out.next hb).at b hbl
      clear hb
      by_cases ho : g[b].op = 11
      · obtain ⟨y, hy1, hy2, hy3⟩ := ind_kid HG.out b hbl ho
        have HV : Hid (followN g g.length a = followN g (g.length - (k + 1)) y) := by
          have h1 := HF.out
          rw [show g.length - k = (g.length - (k + 1)) + 1 by omega] at h1
          exact h1.trans ((followN_ind (by rw [opAt_at b hbl]; exact ho)).trans (by rw [hy3]))
        have t1 : (g[b].op != 11) = false := by simp [ho]
        obtain ⟨ad2, cap2, rfl, hl2, hm2, -⟩ := id hkk
        obtain ⟨bl2, off2, rfl, d0⟩ := hkk.at 0 (by rw [hy1]; simp)
        have hlen1 : g[b].kids.length = 1 := by rw [hy1]; rfl
        have hkid : g[b].kids[0]'(by omega) = (y : Int) := by simp [hy1]
        rw [hkid, Nat.add_zero] at d0
        rw [hlen1] at c2
        clear ho hy1 hy3 hkid hlen1 hkk hl2 hm2
        go_wp2_with fail
        go_roundw
        case rel => exact ⟨k + 1, y, by have := HLT.out; omega, by go_num, rfl, hy2, HV.out, HB.out⟩
        case measure => have := HLT.out; simp [intOf]; omega
      · have HV : Hid (followN g g.length a = some b) := by
          have h1 := HF.out
          rw [show g.length - k = (g.length - k - 1) + 1 by omega] at h1
          exact h1.trans (followN_stop (by rw [opAt_at b hbl]; exact ho))
        have t1 : (g[b].op != 11) = true := by simpa using ho
        clear ho hkk
        go_wp2_with fail
        go_ret2
        exact ⟨ret_ib (by rw [HV.out]; rfl) (by rw [HV.out]; rfl), HB.out⟩
    · have HV : Hid (followN g g.length a = none) := by
        have := HF.out
        rw [show g.length - k = 0 by omega] at this
        exact this
      clear hb
      go_wp2_with fail
      go_ret2
      exact ⟨ret_ib (by rw [HV.out]; rfl) (by rw [HV.out]; rfl), HB.out⟩

end Go.Proofs.Ytjpjikfmdaejeaa
/-
  THE PROGRAM's GraphValid (cellFits, isCell, areCells); nothing that was there is changed.
-/
namespace Go.Proofs.Ytjpjikfmdaejeaa
set_option linter.unusedVariables false
set_option linter.unusedSimpArgs false
open Go.RowKit

set_option maxHeartbeats 400000 in
theorem isCell_calls (n cap : Nat) (ad : Option Addr) (a : Int) (w : World) (hn : n ≤ 9223372036854775807) :
    Calls Try.prog 59 #[.slice ad n cap, .int .i64 a] w fun e w' => e = .returned (.bool (isAt n a)) ∧ Below w.heap.size w w' := by
  by_cases h0 : 0 ≤ a
  · by_cases h1 : a < (n : Int)
    · have HV : Hid (isAt n a = true) := isAt_in h0 h1
      go_enter Try.func59, Try.ntmps59
      go_wp2_with fail
      go_ret
      exact ⟨ret_bool HV.out.symm, Below.refl _ _⟩
    · have HV : Hid (isAt n a = false) := isAt_hi h1
      go_enter Try.func59, Try.ntmps59
      go_wp2_with fail
      go_ret
      exact ⟨ret_bool HV.out.symm, Below.refl _ _⟩
  · have HV : Hid (isAt n a = false) := isAt_lo (by omega)
    go_enter Try.func59, Try.ntmps59
    go_wp2_with fail
    go_ret
    exact ⟨ret_bool HV.out.symm, Below.refl _ _⟩

set_option maxHeartbeats 800000 in
theorem areCells_calls (n cap : Nat) (ad : Option Addr) (xs : List Int) (v : Value) (w : World) (hn : n ≤ 9223372036854775807) (hk : IIn w xs v) :
    Calls Try.prog 44 #[.slice ad n cap, v] w fun e w' => e = .returned (.bool (xs.all (isAt n))) ∧ Below w.heap.size w w' := by
  have HK : Hid (IIn w xs v) := hk
  obtain ⟨ad2, cap2, rfl, hl, hm, -⟩ := hk
  unfold maxLen at hm
  go_enter Try.func44, Try.ntmps44
  go_wp2_with fail
  go_loopw [9] (fun i wr => ∃ k : Nat, k ≤ xs.length ∧ i = .int .i64 k ∧ (xs.take k).all (isAt n) = true ∧ Below w.heap.size w wr) (fun i _ => xs.length - (intOf i).toNat)
  case atStart => exact ⟨0, Nat.zero_le _, rfl, by simp, Below.refl _ _⟩
  case round =>
    obtain ⟨k, hk, rfl, hall, hb⟩ := hrel
    have HA : Hid ((xs.take k).all (isAt n) = true) := hall
    have HB : Hid (Below w.heap.size w wr) := hb
    clear hall hb
    by_cases hlt : k < xs.length
    · obtain ⟨bl, off, rfl, d0⟩ := (HK.out.next HB.out).at k hlt
      go_wp2_with fail
      refine (isCell_calls n cap ad xs[k] _ hn).mono ?_
      rintro e w1 ⟨rfl, hb1⟩
      have HB1 : Hid (Below w.heap.size w w1) := HB.out.trans (hb1.mono HB.out.size)
      clear hb1 d0
      cases hc : isAt n xs[k] with
      | false =>
        have HV : Hid (xs.all (isAt n) = false) := allI_false_of _ _ k hlt hc
        clear hc
        go_wp2_with fail
        go_ret
        exact ⟨ret_bool HV.out.symm, HB1.out⟩
      | true =>
        have HA2 : Hid ((xs.take (k + 1)).all (isAt n) = true) := by rw [Hid, allI_take_succ _ _ _ hlt, HA.out, hc]; rfl
        clear hc
        go_wp2_with fail
        go_roundw
        case rel => exact ⟨k + 1, by omega, by go_num, HA2.out, HB1.out⟩
        case measure => simp [intOf]; omega
    · have hke : xs.length = k := by omega
      have HV : Hid (xs.all (isAt n) = true) := all_end HA.out hke
      clear hke
      go_wp2_with fail
      go_ret
      exact ⟨ret_bool HV.out.symm, HB.out⟩

/-- cellFits, for a kind with a node -/
theorem fits_node {defs op num : Int} {n : Nat} (h : op ≠ 11) : topC op num n 0 defs = (decide ((n : Int) = cArity op) && ownB op num 0 defs) := by
  unfold topC cArity; rw [if_neg h]

set_option maxRecDepth 100000 in
set_option maxHeartbeats 800000 in
theorem cellFits_node (op num defs : Int) (n cap : Nat) (ad : Option Addr) (T : TypeId) (x : Value) (K : FuncId) (ok fit : Bool) (hn : NodeAt 0 defs op num n T x K ok fit) (h11 : op ≠ 11) (hm : n ≤ 9223372036854775807) (w : World) :
    Calls Try.prog 52 #[.agg #[.int .i64 op, .int .i64 num, .slice ad n cap], .int .i64 defs] w fun e w' => e = .returned (.bool (topC op num n 0 defs)) ∧ Below w.heap.size w w' := by
  have HN : Hid (NodeAt 0 defs op num n T x K ok fit) := hn
  have HBX : Hid (Below w.heap.size w (w.alloc (.cells #[.int .i64 op, .int .i64 num, .slice ad n cap] 45))) := box_below _ _
  have hme := hn.meth
  have hen := hn.enters
  have HT : Hid ((ok && fit) = topC op num n 0 defs) := hn.top
  have t11 : (op == 11) = false := by simpa using h11
  clear hn h11
  cases hok : ok with
  | false =>
    subst hok
    have HV : Hid (topC op num n 0 defs = false) := by have := HT.out; rw [Bool.false_and] at this; exact this.symm
    clear hme hen
    go_enter Try.func52, Try.ntmps52
    go_wp2_with fail
    refine (HN.out.node _).mono ?_
    rintro e w1 ⟨rfl, hb⟩
    have HB : Hid (Below w.heap.size w w1) := HBX.out.trans (hb.mono HBX.out.size)
    clear hb
    go_wp2_with fail
    go_ret
    exact ⟨ret_bool HV.out.symm, HB.out⟩
  | true =>
    subst hok
    have HV : Hid (topC op num n 0 defs = fit) := by have := HT.out; rw [Bool.true_and] at this; exact this.symm
    go_enter Try.func52, Try.ntmps52
    go_wp2_with fail
    refine (HN.out.node _).mono ?_
    rintro e w1 ⟨rfl, hb⟩
    have HB : Hid (Below w.heap.size w w1) := HBX.out.trans (hb.mono HBX.out.size)
    clear hb
    go_wp2_with fail
    refine (HN.out.fits rfl _).mono ?_
    rintro e w2 ⟨rfl, hb⟩
    have HB2 : Hid (Below w.heap.size w w2) := HB.out.trans (hb.mono HB.out.size)
    clear hb
    go_wp2_with fail
    go_ret
    exact ⟨ret_bool HV.out.symm, HB2.out⟩

set_option maxHeartbeats 800000 in
theorem cellFits_ind (num defs : Int) (n cap : Nat) (ad : Option Addr) (hm : n ≤ 9223372036854775807) (w : World) :
    Calls Try.prog 52 #[.agg #[.int .i64 11, .int .i64 num, .slice ad n cap], .int .i64 defs] w fun e w' => e = .returned (.bool ((num == 0) && ((n : Int) == 1))) ∧ Below w.heap.size w w' := by
  have HBX : Hid (Below w.heap.size w (w.alloc (.cells #[.int .i64 11, .int .i64 num, .slice ad n cap] 45))) := box_below _ _
  cases hnum : (num == 0) with
  | false =>
    go_enter Try.func52, Try.ntmps52
    go_wp2_with fail
    go_ret
    exact ⟨rfl, HBX.out⟩
  | true =>
    go_enter Try.func52, Try.ntmps52
    go_wp2_with fail
    go_ret
    exact ⟨rfl, HBX.out⟩

theorem cellFits_calls (c : Ce) (defs : Int) (v : Value) (w : World) (hk : IIn w c.kids v) :
    Calls Try.prog 52 #[.agg #[.int .i64 c.op, .int .i64 c.num, v], .int .i64 defs] w fun e w' => e = .returned (.bool (fitsB defs c)) ∧ Below w.heap.size w w' := by
  obtain ⟨ad, cap, rfl, hl, hm, -⟩ := hk
  have hm' : c.kids.length ≤ 9223372036854775807 := by unfold maxLen at hm; omega
  by_cases h11 : c.op = 11
  · have hv : fitsB defs c = ((c.num == 0) && ((c.kids.length : Int) == 1)) := by
      unfold fitsB cArity ownB
      rw [h11, if_pos rfl, if_neg (by omega), if_neg (by omega), if_neg (by omega), Bool.and_comm]
      rfl
    rw [hv, h11]
    exact cellFits_ind _ _ _ _ _ hm' w
  have hv : fitsB defs c = topC c.op c.num c.kids.length 0 defs := (fits_node h11).symm
  rw [hv]
  by_cases e1 : c.op = 1
  · exact cellFits_node _ _ _ _ _ _ _ _ _ _ _ (nodeAt_1 0 defs c.op c.num c.kids.length e1) h11 hm' w
  by_cases e2 : c.op = 2
  · exact cellFits_node _ _ _ _ _ _ _ _ _ _ _ (nodeAt_2 0 defs c.op c.num c.kids.length e2) h11 hm' w
  by_cases e3 : c.op = 3
  · exact cellFits_node _ _ _ _ _ _ _ _ _ _ _ (nodeAt_3 0 defs c.op c.num c.kids.length e3) h11 hm' w
  exact cellFits_node _ _ _ _ _ _ _ _ _ _ _ (nodeAt_o 0 defs c.op c.num c.kids.length e1 e2 e3) h11 hm' w

theorem cellB_fits {cells defs : Int} {c : Ce} (h : fitsB defs c = false) : cellB cells defs c = false := by unfold cellB; rw [h]; rfl
theorem cellB_kids {cells defs : Int} {c : Ce} (h : fitsB defs c = true) : cellB cells defs c = c.kids.all (isAt cells) := by unfold cellB; rw [h]; rfl

set_option maxHeartbeats 800000 in
theorem implGraph_calls (g : List Ce) (defs : Int) (v : Value) (w : World) (hk : CIn w g v) :
    Calls Try.prog 39 #[v, .int .i64 defs] w fun e w' => e = .returned (.bool (graphB g defs)) ∧ Below w.heap.size w w' := by
  have HK : Hid (CIn w g v) := hk
  obtain ⟨ad, cap, rfl, hl, hm, -⟩ := hk
  unfold maxLen at hm
  by_cases hlim : (g.length : Int) ≤ 400 ∧ 0 ≤ defs ∧ defs ≤ 6
  · have HLM : Hid ((g.length : Int) ≤ 400 ∧ 0 ≤ defs ∧ defs ≤ 6) := hlim
    obtain ⟨l1, l2, l3⟩ := hlim
    go_enter Try.func39, Try.ntmps39
    go_wp2_with fail
    go_loopw [20] (fun i wr => ∃ k : Nat, k ≤ g.length ∧ i = .int .i64 k ∧ (g.take k).all (cellB g.length defs) = true ∧ Below w.heap.size w wr) (fun i _ => g.length - (intOf i).toNat)
    case atStart => exact ⟨0, Nat.zero_le _, rfl, by simp, Below.refl _ _⟩
    case round =>
      obtain ⟨k, hk, rfl, hall, hb⟩ := hrel
      have HA : Hid ((g.take k).all (cellB g.length defs) = true) := hall
      have HB : Hid (Below w.heap.size w wr) := hb
      clear hall hb
      by_cases hlt : k < g.length
      · obtain ⟨bl, off, r, rfl, c0, c1, c2, -, -, hkk⟩ := (HK.out.next HB.out).at k hlt
        obtain ⟨ad2, cap2, rfl, -, -, -⟩ := id hkk
        have HKK : Hid (IIn wr g[k].kids (.slice ad2 g[k].kids.length cap2)) := hkk
        clear hkk
        go_wp2_with fail
        refine (cellFits_calls g[k] defs _ _ (HKK.out.next (box_below _ _))).mono ?_
        rintro e w1 ⟨rfl, hb1⟩
        have HB0 : Hid (Below wr.heap.size wr w1) := (box_below _ _).trans (hb1.mono (by rw [Deep.nblk_alloc]; omega))
        have HB1 : Hid (Below w.heap.size w w1) := HB.out.trans (HB0.out.mono HB.out.size)
        have b2 := (hb1.cell (p := ⟨wr.heap.size, 2, none⟩) (by rw [Deep.nblk_alloc]; exact Nat.lt_succ_self _)).trans (box_cell wr #[.int .i64 g[k].op, .int .i64 g[k].num, .slice ad2 g[k].kids.length cap2] 45 2 _ rfl)
        clear hb1 c0 c1 c2
        cases hc : fitsB defs g[k] with
        | false =>
          have HV : Hid (graphB g defs = false) := graphB_cellNo k hlt (cellB_fits hc)
          clear hc
          go_wp2_with fail
          go_ret
          exact ⟨ret_bool HV.out.symm, HB1.out⟩
        | true =>
          have HC : Hid (cellB (g.length : Int) defs g[k] = g[k].kids.all (isAt g.length)) := cellB_kids hc
          clear hc
          go_wp2_with fail
          refine (areCells_calls g.length cap _ g[k].kids _ _ (by omega) (HKK.out.next HB0.out)).mono ?_
          rintro e w2 ⟨rfl, hb2⟩
          have HB2 : Hid (Below w.heap.size w w2) := HB1.out.trans (hb2.mono HB1.out.size)
          clear hb2 b2
          cases hc2 : g[k].kids.all (isAt (g.length : Int)) with
          | false =>
            have HV : Hid (graphB g defs = false) := graphB_cellNo k hlt (by rw [HC.out, hc2])
            clear hc2
            go_wp2_with fail
            go_ret
            exact ⟨ret_bool HV.out.symm, HB2.out⟩
          | true =>
            have HA2 : Hid ((g.take (k + 1)).all (cellB g.length defs) = true) := by rw [Hid, allI_take_succ _ _ _ hlt, HA.out, HC.out, hc2]; rfl
            clear hc2
            go_wp2_with fail
            go_roundw
            case rel => exact ⟨k + 1, by omega, by go_num, HA2.out, HB2.out⟩
            case measure => simp [intOf]; omega
      · have hke : g.length = k := by omega
        have HV : Hid (graphB g defs = true) := graphB_yes HLM.out (all_end HA.out hke)
        clear hke
        go_wp2_with fail
        go_ret
        exact ⟨ret_bool HV.out.symm, HB.out⟩
  · have HV : Hid (graphB g defs = false) := graphB_no hlim
    by_cases l1 : (g.length : Int) ≤ 400
    · by_cases l2 : 0 ≤ defs
      · have l3 : ¬ defs ≤ 6 := fun h => hlim ⟨l1, l2, h⟩
        clear hlim
        go_enter Try.func39, Try.ntmps39
        go_wp2_with fail
        go_ret
        exact ⟨ret_bool HV.out.symm, Below.refl _ _⟩
      · clear hlim
        go_enter Try.func39, Try.ntmps39
        go_wp2_with fail
        go_ret
        exact ⟨ret_bool HV.out.symm, Below.refl _ _⟩
    · clear hlim
      go_enter Try.func39, Try.ntmps39
      go_wp2_with fail
      go_ret
      exact ⟨ret_bool HV.out.symm, Below.refl _ _⟩
end Go.Proofs.Ytjpjikfmdaejeaa
/-
  THE PROGRAM's selectParts AND SelectGraph.
-/
namespace Go.Proofs.Ytjpjikfmdaejeaa
set_option linter.unusedVariables false
set_option linter.unusedSimpArgs false
open Go.RowKit Go.Maps

def slLen (v : Value) : Nat := match v with | .slice _ n _ => n | _ => 0
/-- how much is left to do, at most -/
def selLeft (g : List Ce) (m l : Nat) : Nat := (g.countP selB - m) * (g.length + 1) + l
/-- what holds of a round -/
structure SpR (A M lo : Nat) (g : List Ce) (w : World) (m n : Nat) (work : List Nat) (wt : Nat → List Nat) (G : List Ce) (S : Nat → Prop) (gv wv : Value) (wr : World) : Prop where
  rel : SelR g G m
  wl : WL G work wt
  mem : SpM A M lo n work wt G S gv wv wr
  bel : Below lo w wr
  num : n + selLeft g m work.length ≤ 200000
/-- what selectParts leaves -/
def SelDone (A lo : Nat) (r : List Ce × Nat) (w : World) (e : Ending) (w' : World) : Prop :=
  e = .returned (.int .i64 (r.2 : Int)) ∧ ∃ ad cap, w'.heap[A]? = some (.cells #[.slice ad r.1.length cap] 51) ∧ OwnC w' lo (fun b => lo ≤ b) r.1 (.slice ad r.1.length cap) ∧ Below lo w w'
theorem sel_le {g G : List Ce} {m : Nat} (hg : graphB g 6 = true) (h : SelR g G m) : m ≤ g.countP selB ∧ g.countP selB ≤ g.length := by
  have := (selR_inv hg h).cnt
  exact ⟨by omega, List.countP_le_length⟩
/-- one less to do: a cell is dropped, or waits -/
theorem left_drop {g : List Ce} {m n l : Nat} (h : n + selLeft g m (l + 1) ≤ 200000) : n + 1 + selLeft g m l ≤ 200000 ∧ n + selLeft g m l ≤ 200000 := by unfold selLeft at *; omega
theorem left_make {g : List Ce} {m n l l' : Nat} (h : n + selLeft g m (l + 1) ≤ 200000) (hm : m < g.countP selB) (hl : l' ≤ g.length) : n + selLeft g (m + 1) l' ≤ 200000 ∧ selLeft g (m + 1) l' < selLeft g m (l + 1) := by
  unfold selLeft at *
  have e : (g.countP selB - m) * (g.length + 1) = (g.countP selB - (m + 1)) * (g.length + 1) + (g.length + 1) := by
    rw [show g.countP selB - m = (g.countP selB - (m + 1)) + 1 by omega, Nat.succ_mul]
  omega
theorem SpR.fin {A M lo m n : Nat} {g : List Ce} {w wr : World} {wt : Nat → List Nat} {G : List Ce} {S : Nat → Prop} {gv wv : Value} (hg : graphB g 6 = true) (h : SpR A M lo g w m n [] wt G S gv wv wr) : SelDone A lo (selRes g) w (.returned (.int .i64 (m : Int))) wr := by
  have e := selRes_eq hg h.rel h.wl.fin
  rw [e]
  obtain ⟨ad, cap, rfl⟩ := h.mem.own.form
  exact ⟨rfl, ad, cap, h.mem.box, h.mem.own.next (fun k hk _ => (h.mem.sl k hk).1) (fun _ _ _ => rfl) (fun _ _ _ => rfl), h.bel⟩
/-- a cell is dropped -/
theorem SpR.dead {A M lo m n i : Nat} {g : List Ce} {w wr wr' : World} {rest : List Nat} {wt : Nat → List Nat} {G : List Ce} {S : Nat → Prop} {gv wv wv' : Value} (h : SpR A M lo g w m n (rest ++ [i]) wt G S gv wv wr) (hm : SpM A M lo n rest wt G S gv wv' wr') (hb : Below wr.heap.size wr wr')
    (hl : lo ≤ wr.heap.size) (hd : followN G G.length (kidAt G i 0) = none ∨ ∃ k, followN G G.length (kidAt G i 0) = some k ∧ opAt G k ≠ 5 ∧ ¬ isSel G k) : SpR A M lo g w m n rest wt G S gv wv' wr' :=
  ⟨h.rel, h.wl.dead hd, hm, h.bel.trans (hb.mono hl), by have := h.num; rw [List.length_append] at this; exact (left_drop this).2⟩
/-- a cell waits -/
theorem SpR.wait {A M lo m n i k : Nat} {g : List Ce} {w wr wr' : World} {rest : List Nat} {wt : Nat → List Nat} {G : List Ce} {S : Nat → Prop} {gv wv wv' : Value} (h : SpR A M lo g w m n (rest ++ [i]) wt G S gv wv wr) (hm : SpM A M lo (n + 1) rest (fun y => if y = k then wt k ++ [i] else wt y) G S gv wv' wr') (hb : Below lo wr wr')
    (hf : followN G G.length (kidAt G i 0) = some k) (hk : isSel G k) : SpR A M lo g w m (n + 1) rest (fun y => if y = k then wt k ++ [i] else wt y) G S gv wv' wr' :=
  ⟨h.rel, h.wl.wait hf hk, hm, h.bel.trans hb, by have := h.num; rw [List.length_append] at this; exact (left_drop this).1⟩
/-- a selection is made -/
theorem SpR.make {A M lo m n i k : Nat} {g : List Ce} {w wr wr' : World} {rest : List Nat} {wt : Nat → List Nat} {G : List Ce} {S S' : Nat → Prop} {gv wv wv' : Value} (hg : graphB g 6 = true) (h : SpR A M lo g w m n (rest ++ [i]) wt G S gv wv wr) (hm : SpM A M lo n (rest ++ wt i) wt (selAt G i k) S' gv wv' wr') (hb : Below lo wr wr') (he : Enabled G i k) :
    SpR A M lo g w (m + 1) n (rest ++ wt i) wt (selAt G i k) S' gv wv' wr' ∧ selLeft g (m + 1) (rest ++ wt i).length < selLeft g m (rest.length + 1) := by
  have h1 := h.wl.make he
  have h2 := (sel_le hg (h.rel.step he)).1
  have h3 := h1.len
  rw [selAt_len, (selR_inv hg h.rel).len] at h3
  have h4 := h.num
  rw [List.length_append] at h4
  obtain ⟨h5, h6⟩ := left_make h4 (by omega) h3
  exact ⟨⟨h.rel.step he, h1, hm, h.bel.trans hb, h5⟩, h6⟩
theorem grown_alloc {w w' : World} {o : Obj} {row : Option Nat} (h : (w.alloc o).grownBy w' row) : w.grownBy w' row :=
  ⟨h.os, h.tape, h.output, by have h1 := h.size; rw [Deep.nblk_alloc] at h1; omega, fun k hk hn => (h.block k (by rw [Deep.nblk_alloc]; omega) hn).trans (Deep.blk_alloc_lt _ _ _ hk)⟩
/-- a place is added to those that wait -/
theorem wpList_storeG {ops : Array Oper} {rest : List Oper} {o1 : Oper} {a : Act} {Q : Exit → Act → World → Prop} (w : World) (hg : o1.guard = none) (m x z : Operand) (hop : o1.op = Op.mapUpdate 70 m x z) {w0 : World} {M n q : Nat} {ws : List Nat} {wt : Nat → List Nat} {No : Nat → Prop} {D : DataW Unit} {v v' : Value}
    (hn : n ≤ 1048576) (hq : q ≤ 1048576) (hown : w0.ownsGroups Try.prog 3 (M + 1) 3 .i64 M n D) (hD : MapG D wt) (hst0 : Stk w0 (M + 1) (wt q) v) (hS : w0.Shuns M No) (hno : ∀ k, some k = v'.ownBlock → ¬ No k)
    (hback : w0.groupBack Try.prog 70 3 (M + 1) 3 .i64 M n D (.int .i64 (q : Int)) (.int .i64 (q : Int)) v) (hm : a.eval m = .map (some M)) (hx : a.eval x = .int .i64 (q : Int)) (hz : a.eval z = v')
    (hgr : w0.grownBy w v.ownBlock) (hst : Stk w (M + 1) ws v') (hne : ws ≠ []) (hw : ∀ y ∈ ws, y ≤ 1048576) (hw0 : ∀ y ∈ wt q, y ≤ 1048576) (hl : ws.length ≤ n + 1) (hloc : v'.ownBlock = v.ownBlock ∨ ∃ g, v'.ownBlock = some g ∧ w0.heap.size ≤ g)
    (hK : ∀ w2 (D' : DataW Unit), w2.ownsGroups Try.prog 3 (M + 1) 3 .i64 M (n + 1) D' → MapG D' (fun y => if y = q then ws else wt y) → w.grownBy w2 (some M) → w2.Shuns M No → wpList Try.prog ops Q rest (a.put o1.dst undef) w2) : wpList Try.prog ops Q (o1 :: rest) a w := by
  refine wpList_mapUpdate_back_shuns (No := No) (zs' := plI ws) w hg m x z 70 hop keyedI Try.underlying70 (keyOf_int_mk Try.underlying3 (litI_wf q hq)) hown (by unfold maxLen; omega) (ints_of hst0 hw0) hS (fun k e => hno k e.symm) hback hm hx hz hgr (ints_of hst hw) (by rw [plI_length]; exact hl) hloc ?_
  intro w2 h1 h2 h3
  exact hK w2 _ h1 (grp_put hD (grp_isMap hown) (ints_of hst hw) hne) h2 h3
/-- where selectParts begins -/
theorem sp_start {A lo : Nat} {g : List Ce} {gv wv : Value} {w w2 : World} (hA : w.heap[A]? = some (.cells #[gv] 51)) (hO : OwnC w lo (fun b => lo ≤ b) g gv) (hla : lo ≤ A) (hlo : lo ≤ w.heap.size) (hg : graphB g 6 = true)
    (hst : Stk w2 (w.alloc (.map #[] 0)).heap.size (selL g g.length) wv) (hb : Below (w.alloc (.map #[] 0)).heap.size (w.alloc (.map #[] 0)) w2) : ∃ S, SpR A w.heap.size lo g w 0 0 (selL g g.length) (fun _ => []) g S gv wv w2 := by
  have hAl := (Array.getElem?_eq_some_iff.1 hA).1
  have hz : (w.alloc (.map #[] 0)).heap.size = w.heap.size + 1 := Deep.nblk_alloc _ _
  have hs := hb.size
  have kp : ∀ k, k < w.heap.size → w2.heap[k]? = w.heap[k]? := fun k hk => (hb.block k (by omega)).trans (Deep.blk_alloc_lt _ _ _ hk)
  obtain ⟨m1, m2⟩ := (GrpW.made w).kept (No := NoG (fun k => lo ≤ k ∧ k < w.heap.size) A gv wv) (World.Shuns_made w _) (below_grown hb) (fun k e => by cases e)
  refine ⟨fun k => lo ≤ k ∧ k < w.heap.size, .zero, WL.start (selL_nodup _ _) fun i => selL_mem g i, ⟨(kp A hAl).trans hA, ?_, hst.lower (by omega), m1, fun k e hk => ?_, m2, fun k hk => ⟨hk.1, by omega⟩, hla, hlo⟩, (box_below w _).mono hlo |>.trans (hb.mono (by omega)), ?_⟩
  · exact hO.next (fun k hk hz => ⟨hk, hz⟩) (fun k _ hz => kp k hz) (fun k _ hz => kp k hz)
  · have := (own_some hst k e.symm).1
    omega
  · have h1 : g.countP selB ≤ g.length := List.countP_le_length
    have h2 := graphB_len hg
    have h3 := selL_len g g.length
    have h4 : (g.countP selB - 0) * (g.length + 1) ≤ 400 * 401 := Nat.mul_le_mul (by omega) (by omega)
    unfold selLeft
    omega
theorem SpM.noLt {A M lo n k : Nat} {work : List Nat} {wt : Nat → List Nat} {G : List Ce} {S : Nat → Prop} {gv wv : Value} {w : World} (h : SpM A M lo n work wt G S gv wv w) (hk : NoG S A gv wv k) : k < w.heap.size := by
  rcases hk with hk | rfl | hk | hk
  · exact (h.sl k hk).2
  · exact h.alt
  · exact (h.gb k hk).2.1
  · exact (h.wb k hk).2.1
/-- the row behind one place more for those that wait -/
theorem SpM.noNew {A M lo n : Nat} {work : List Nat} {wt : Nat → List Nat} {G : List Ce} {S : Nat → Prop} {gv wv v v' : Value} {w : World} {o : Obj} (h : SpM A M lo n work wt G S gv wv w) (hv : ∀ k, some k = v.ownBlock → ¬ NoG S A gv wv k) (hw : v'.ownBlock = v.ownBlock ∨ v'.ownBlock = some (w.alloc o).heap.size) :
    (∀ k, some k = v'.ownBlock → ¬ NoG S A gv wv k) ∧ (v'.ownBlock = v.ownBlock ∨ ∃ g, v'.ownBlock = some g ∧ w.heap.size ≤ g) := by
  rw [Deep.nblk_alloc] at hw
  refine ⟨fun k e => ?_, hw.imp id fun e => ⟨_, e, by omega⟩⟩
  rcases hw with hw | hw
  · exact hv k (e.trans hw)
  · rw [hw] at e
    simp only [Option.some.injEq] at e
    intro hn
    have := h.noLt hn
    omega
end Go.Proofs.Ytjpjikfmdaejeaa
