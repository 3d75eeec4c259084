/-
  LISTS OF TREES WITH DISTINCT BLOCKS THAT A CALL BUILDS BY append.
-/
import Derived.Test.YthknbafcnobgdaaMgExactDecompileCode2
import Derived.Test.YthknbafcnobgdaaMgExactDecompileCode1
import Derived.Laws.AppendOwn
import Derived.WalkSpells
import Derived.Deep.RegionHeld3
import Derived.Test.YthknbafcnobgdaaProg
import Derived.Deep.RegionWith
import Derived.Deep.DeepMust
import Derived.BigRegion
import Derived.Deep.QuietTactic
import Derived.BigQuiet
namespace Go.Proofs.Ythknbafcnobgdaa
set_option linter.unusedVariables false
set_option linter.unusedSimpArgs false
open Go.RowKit

/-- a list of trees that a call has built by append: the row is its own, each tree has its own blocks, all from lo on -/
def OwnF (w : World) (lo hi : Nat) (ts : List Tr) (v : Value) : Prop :=
  ∃ (xs : List Value) (fps : List (List Nat)), w.ownsRow lo 37 3 v ts.length xs ∧ fps.length = ts.length ∧
    (∀ j (hj : j < ts.length), ∃ f, fps[j]? = some f ∧ ∃ a b c, xs[j * 3]? = some a ∧ xs[j * 3 + 1]? = some b ∧ xs[j * 3 + 2]? = some c ∧ TrFp w 37 ts[j] f a b c) ∧
    fps.flatten.Nodup ∧ ∀ k ∈ fps.flatten, lo ≤ k ∧ k < hi ∧ some k ≠ v.ownBlock

theorem OwnF.nil (w : World) (lo hi : Nat) : OwnF w lo hi [] (.slice none 0 0) := ⟨[], [], World.ownsRow_nil w lo _ _, rfl, fun j hj => absurd hj (by simp), by simp, by simp⟩
theorem OwnF.next {w w' : World} {lo hi hi' : Nat} {ts : List Tr} {v : Value} (h : OwnF w lo hi ts v) (hh : hi ≤ hi') (hs : hi ≤ w.heap.size) (hb : ∀ k, lo ≤ k → k < w.heap.size → w'.heap[k]? = w.heap[k]?) : OwnF w' lo hi' ts v := by
  obtain ⟨xs, fps, h1, h2, h3, h4, h5⟩ := h
  refine ⟨xs, fps, own_keep h1 hb, h2, fun j hj => ?_, h4, fun k hk => ⟨(h5 k hk).1, Nat.lt_of_lt_of_le (h5 k hk).2.1 hh, (h5 k hk).2.2⟩⟩
  obtain ⟨f, e0, a, b, c, e1, e2, e3, e4⟩ := h3 j hj
  exact ⟨f, e0, a, b, c, e1, e2, e3, TrFp.keep _ _ _ _ _ (fun k hk => by
    have := h5 k (List.mem_flatten.2 ⟨f, List.mem_of_getElem? e0, hk⟩)
    exact hb k this.1 (Nat.lt_of_lt_of_le this.2.1 hs)) e4⟩
theorem OwnF.row {w : World} {lo hi : Nat} {ts : List Tr} {v : Value} (h : OwnF w lo hi ts v) : ∃ xs, w.ownsRow lo 37 3 v ts.length xs := by
  obtain ⟨xs, -, h1, -⟩ := h; exact ⟨xs, h1⟩
/-- one tree more -/
theorem OwnF.step {w w' : World} {lo hi : Nat} {ts : List Tr} {v v' : Value} {t : Tr} {a b c : Value} {f : List Nat} (h : OwnF w lo hi ts v) (hlo : lo ≤ hi) (hs : hi ≤ w.heap.size)
    (hn : TrFp w 37 t f a b c) (hf : f.Nodup) (hfl : ∀ k ∈ f, hi ≤ k ∧ k < w.heap.size ∧ some k ≠ v.ownBlock) (xs : List Value) (hx : w.ownsRow lo 37 3 v ts.length xs)
    (hown : w'.ownsRow lo 37 3 v' (ts.length + 1) (xs ++ [a, b, c])) (hg : w.grownBy w' v.ownBlock) (hw : v'.ownBlock = v.ownBlock ∨ ∃ g, v'.ownBlock = some g ∧ w.heap.size ≤ g) : OwnF w' lo w.heap.size (ts ++ [t]) v' := by
  obtain ⟨xs2, fps, h1, h2, h3, h4, h5⟩ := h
  -- the row's cells are the same
  have hxs : xs2 = xs := by
    rcases h1.2 with ⟨rfl, h0⟩ | ⟨g, cap, cur, rfl, hg', hh, hn', hc, hs, htk⟩
    · have a1 := h1.1
      have a2 := hx.1
      rw [h0] at a1 a2
      rw [List.eq_nil_of_length_eq_zero (by omega : xs2.length = 0), List.eq_nil_of_length_eq_zero (by omega : xs.length = 0)]
    · rcases hx.2 with ⟨e, -⟩ | ⟨g2, cap2, cur2, e, -, hh2, -, -, -, htk2⟩
      · cases e
      · cases e
        rw [hh] at hh2
        cases hh2
        rw [← htk, ← htk2]
  subst hxs
  have hlen := h1.1
  have keepB : ∀ k, lo ≤ k ∧ k < w.heap.size ∧ some k ≠ v.ownBlock → w'.heap[k]? = w.heap[k]? := fun k hk => hg.block k hk.2.1 hk.2.2
  have nb : ∀ k, k < w.heap.size → some k ≠ v.ownBlock → some k ≠ v'.ownBlock := fun k hk hkv => by
    rcases hw with hw | ⟨g, hw, hge⟩
    · rw [hw]; exact hkv
    · rw [hw]; intro e; simp only [Option.some.injEq] at e; omega
  refine ⟨xs2 ++ [a, b, c], fps ++ [f], by simpa using hown, by simp [h2], fun j hj => ?_, ?_, ?_⟩
  · by_cases hjl : j < ts.length
    · obtain ⟨f', e0, x, y, z, e1, e2, e3, e4⟩ := h3 j hjl
      refine ⟨f', ?_, x, y, z, ?_, ?_, ?_, ?_⟩
      · rw [List.getElem?_append_left (by omega)]; exact e0
      · rw [List.getElem?_append_left (by omega)]; exact e1
      · rw [List.getElem?_append_left (by omega)]; exact e2
      · rw [List.getElem?_append_left (by omega)]; exact e3
      · rw [List.getElem_append_left hjl]
        exact TrFp.keep _ _ _ _ _ (fun k hk => by
          have := h5 k (List.mem_flatten.2 ⟨f', List.mem_of_getElem? e0, hk⟩)
          exact keepB k ⟨this.1, Nat.lt_of_lt_of_le this.2.1 hs, this.2.2⟩) e4
    · have hj' : j = ts.length := by simp at hj; omega
      subst hj'
      refine ⟨f, ?_, a, b, c, ?_, ?_, ?_, ?_⟩
      · rw [List.getElem?_append_right (by omega)]; simp [h2]
      · rw [List.getElem?_append_right (by omega)]; simp [hlen]
      · rw [List.getElem?_append_right (by omega)]; simp [hlen]
      · rw [List.getElem?_append_right (by omega)]; simp [hlen]
      · simpa using TrFp.keep _ _ _ _ _ (fun k hk => keepB k ⟨Nat.le_trans hlo (hfl k hk).1, (hfl k hk).2⟩) hn
  · rw [List.flatten_append, List.nodup_append]
    refine ⟨h4, by simpa using hf, fun x hx y hy e => ?_⟩
    subst e
    have e1 := (h5 x hx).2.1
    have e2 := (hfl x (by simpa using hy)).1
    omega
  · intro k hk
    simp only [List.flatten_append, List.mem_append] at hk
    rcases hk with hk | hk
    · have := h5 k hk
      exact ⟨this.1, Nat.lt_of_lt_of_le this.2.1 hs, nb k (Nat.lt_of_lt_of_le this.2.1 hs) this.2.2⟩
    · have := hfl k (by simpa using hk)
      exact ⟨Nat.le_trans hlo this.1, this.2.1, nb k this.2.1 this.2.2⟩
/-- the list, as trees with distinct blocks -/
theorem OwnF.fresh {w : World} {lo hi : Nat} {ts : List Tr} {v : Value} (h : OwnF w lo hi ts v) : Fresh w lo ts v := by
  obtain ⟨xs, fps, h1, h2, h3, h4, h5⟩ := h
  rcases h1.2 with ⟨rfl, h0⟩ | ⟨g, cap, cur, rfl, hg, hh, hn, hc, hs, htk⟩
  · obtain rfl : ts = [] := List.eq_nil_of_length_eq_zero h0
    exact ⟨[], ⟨none, 0, rfl, Nat.le_refl _, by simp [maxLen], Or.inl ⟨rfl, rfl⟩⟩, by simp, by simp⟩
  · refine ⟨g :: fps.flatten, ⟨_, cap, rfl, hn, hc, Or.inr ⟨g, 0, cur, fps, rfl, hh, rfl, RowFp.of _ _ _ h2 fun i hi => ?_⟩⟩, ?_, ?_⟩
    · obtain ⟨f, e0, a, b, c, e1, e2, e3, e4⟩ := h3 i hi
      refine ⟨f, e0, a, b, c, ?_, ?_, ?_, e4⟩
      · rw [Nat.zero_add, h1.cellAt (i * 3) (by omega)]; exact e1
      · rw [Nat.zero_add, h1.cellAt (i * 3 + 1) (by omega)]; exact e2
      · rw [Nat.zero_add, h1.cellAt (i * 3 + 2) (by omega)]; exact e3
    · rw [List.nodup_cons]
      exact ⟨fun hm => (h5 g hm).2.2 rfl, h4⟩
    · intro k hk
      rw [List.mem_cons] at hk
      rcases hk with rfl | hk
      · exact hg
      · exact (h5 k hk).1
end Go.Proofs.Ythknbafcnobgdaa
/-
  slices.Clone of a slice of expressions: the same cells in a row of its own. A tail of a row that a call owns.
-/
namespace Go.Proofs.Ythknbafcnobgdaa
set_option linter.unusedVariables false
set_option linter.unusedSimpArgs false
open Go.RowKit

/-- a slice value of n expressions, with their cells -/
def ECells (w : World) (n : Nat) (news : List Value) (v : Value) : Prop :=
  news.length = n * 3 ∧ (∀ u ∈ news, u.oneCell' = true) ∧ ∃ ad cap, v = .slice ad n cap ∧ ((ad = none ∧ n = 0) ∨ ∃ bl off, ad = some ⟨bl, off, none⟩ ∧ bl < w.heap.size ∧ ∀ j u, news[j]? = some u → w.cell? ⟨bl, off + j, none⟩ = some u)
theorem ECells.next {w w' : World} {n : Nat} {news : List Value} {v : Value} (h : ECells w n news v) (hb : Below w.heap.size w w') : ECells w' n news v := by
  obtain ⟨h1, h2, ad, cap, e, h3⟩ := h
  refine ⟨h1, h2, ad, cap, e, h3.imp id ?_⟩
  rintro ⟨bl, off, e, hbl, hc⟩
  exact ⟨bl, off, e, Nat.lt_of_lt_of_le hbl hb.size, fun j u hj => (hb.cell (p := ⟨bl, off + j, none⟩) hbl).trans (hc j u hj)⟩
/-- the copy -/
def CloneERes (n : Nat) (news : List Value) (w : World) (e : Ending) (w' : World) : Prop := ∃ v, e = .returned v ∧ w'.ownsRow w.heap.size 37 3 v n news ∧ Below w.heap.size w w'
theorem cloneE_below {wr w1 : World} {o : Obj} (h : (wr.alloc o).grownBy w1 (Value.slice (some ⟨wr.heap.size, 0, none⟩) 0 0).ownBlock) : Below wr.heap.size wr w1 :=
  ⟨h.os, h.tape, h.output, by have h1 : (wr.alloc o).heap.size ≤ w1.heap.size := h.size; rw [Deep.nblk_alloc] at h1; omega, fun k hk => (h.block k (by show k < (wr.alloc o).heap.size; rw [Deep.nblk_alloc]; omega) (by simp only [Value.ownBlock, ne_eq, Option.some.injEq]; omega)).trans (Deep.blk_alloc_lt _ _ _ hk)⟩

set_option maxRecDepth 100000 in
set_option maxHeartbeats 1600000 in
theorem cloneE_calls (n : Nat) (news : List Value) (v : Value) (w : World) (hk : ECells w n news v) (hl : n ≤ 1048576) : Calls Try.prog 90 #[v] w (CloneERes n news w) := by
  obtain ⟨hnl, h1, ad, cap, rfl, hr⟩ := hk
  obtain ⟨iE, zE, hiE, hzE, hsE, hbE, hcE⟩ := infoE3
  rcases hr with ⟨rfl, rfl⟩ | ⟨bl, off, rfl, hbl, hc⟩
  · have hnil : news = [] := List.eq_nil_of_length_eq_zero (by omega)
    subst hnil
    have q : (binOp .eql 35 (.slice none 0 cap) (.slice none 0 0)).run Try.prog w = .ok (.bool true) w := Lib.run_eql_slice_nil w _ _ none 0 cap 0 0 Try.underlying35
    go_enter Try.func90, Try.ntmps90
    go_wp2_with fail
    go_ret
    exact ⟨_, rfl, World.ownsRow_nil _ _ _ _, Below.refl _ _⟩
  · have q : (binOp .eql 35 (.slice (some ⟨bl, off, none⟩) n cap) (.slice none 0 0)).run Try.prog w = .ok (.bool false) w := Lib.run_eql_slice_nil w _ _ (some ⟨bl, off, none⟩) n cap 0 0 Try.underlying35
    have HE : Hid (Try.prog.info? 37 = some iE ∧ iE.zero = some zE ∧ iE.size = 3 ∧ iE.bytes = 40 ∧ zE.cells.size = 3) := ⟨hiE, hzE, hsE, hbE, hcE⟩
    have HNL := mkHid hnl
    have H1 := mkHid h1
    have HN : Hid (∀ j u, news[j]? = some u → (w.alloc (.cells #[] 37)).cell? ((⟨bl, off, none⟩ : Addr).add j) = some u) := fun j u hj => by
      rw [WideShapes.add_plain]; exact old_cell (hc j u hj) _
    have HO : Hid ((w.alloc (.cells #[] 37)).ownsRow w.heap.size 37 3 (.slice (some ⟨w.heap.size, 0, none⟩) 0 0) 0 []) :=
      ⟨rfl, Or.inr ⟨w.heap.size, 0, #[], rfl, Nat.le_refl _, Deep.blk_alloc_new w (.cells #[] 37), Nat.le_refl _, by unfold maxLen; omega, rfl, rfl⟩⟩
    clear hiE hzE hsE hbE hcE hnl h1 hc hbl
    go_enter Try.func90, Try.ntmps90
    go_wp2_with (at_builtin; go_must (refine wpList_append_own _ rfl _ _ 35 rfl w.heap.size 37 iE zE 3 40 Try.underlying35 HE.out.1 HE.out.2.1 HE.out.2.2.1 HE.out.2.2.2.1 HE.out.2.2.2.2 (by decide) (.slice (some ⟨w.heap.size, 0, none⟩) 0 0) 0 [] rfl HO.out ⟨bl, off, none⟩ n cap news rfl HNL.out HN.out H1.out (by unfold maxLen; omega) (by omega) (by rw [Deep.nblk_alloc]; omega) ?_); go_must (intro v1 w1 hown1 hg1 hwh1); go_must (have HO1 : Hid (w1.ownsRow w.heap.size 37 3 v1 n news) := by have h := hown1; rw [Nat.zero_add, List.nil_append] at h; exact h); go_must (have HB1 : Hid (Below w.heap.size w w1) := cloneE_below hg1); clear hown1 hg1 hwh1)
    go_ret
    exact ⟨_, rfl, HO1.out, HB1.out⟩

/-- the first elements of an owned row -/
theorem own_take {w : World} {lo n cap : Nat} {T : TypeId} {ad : Option Addr} {xs : List Value} (h : w.ownsRow lo T 3 (.slice ad n cap) n xs) {m : Nat} (hm : m ≤ n) : w.ownsRow lo T 3 (.slice ad m cap) m (xs.take (m * 3)) := by
  have hl := h.1
  refine ⟨by rw [List.length_take]; omega, ?_⟩
  rcases h.2 with ⟨e, h0⟩ | ⟨g, c, cur, e, hg, hh, hn, hc, hs, htk⟩
  · cases e
    exact Or.inl ⟨by rw [show m = 0 by omega], by omega⟩
  · cases e
    refine Or.inr ⟨g, cap, cur, rfl, hg, hh, by omega, hc, hs, ?_⟩
    rw [← htk, List.take_take, Nat.min_eq_left (by omega)]
/-- .. and the last ones: the slice values that the walk makes of them -/
theorem own_tail {w : World} {lo n cap : Nat} {ad : Option Addr} {xs : List Value} (h : w.ownsRow lo 37 3 (.slice ad n cap) n xs) (h1 : ∀ u ∈ xs, u.oneCell' = true) {m : Nat} (hm : m ≤ n) (v : Value)
    (hv : (ad = none ∧ v = .slice none 0 0) ∨ (∃ g, ad = some ⟨g, 0, none⟩ ∧ v = .slice (if cap = m then some ⟨g, 0, none⟩ else some ⟨g, m * 3, none⟩) (n - m) (cap - m))) : ECells w (n - m) (xs.drop (m * 3)) v := by
  have hl := h.1
  refine ⟨by rw [List.length_drop, hl, Nat.sub_mul], fun u hu => h1 u (List.mem_of_mem_drop hu), ?_⟩
  rcases h.2 with ⟨e, h0⟩ | ⟨g, c, cur, e, hg, hh, hn, hc, hs, htk⟩
  · cases e
    rcases hv with ⟨-, rfl⟩ | ⟨g, e, -⟩
    · exact ⟨none, 0, by simp, Or.inl ⟨rfl, by omega⟩⟩
    · cases e
  · cases e
    have hlt := (Array.getElem?_eq_some_iff.1 hh).1
    have key : ∀ j u, (xs.drop (m * 3))[j]? = some u → w.cell? ⟨g, m * 3 + j, none⟩ = some u := by
      intro j u hj
      rw [List.getElem?_drop] at hj
      rw [h.cellAt (m * 3 + j) (by have := (List.getElem?_eq_some_iff.1 hj).1; omega)]
      exact hj
    rcases hv with ⟨e, -⟩ | ⟨g', e, rfl⟩
    · cases e
    · cases e
      by_cases hme : cap = m
      · rw [if_pos hme]
        refine ⟨_, _, rfl, Or.inr ⟨g, 0, rfl, hlt, fun j u hj => ?_⟩⟩
        have := (List.getElem?_eq_some_iff.1 hj).1
        rw [List.length_drop, hl] at this
        omega
      · rw [if_neg hme]
        exact ⟨_, _, rfl, Or.inr ⟨g, m * 3, rfl, hlt, key⟩⟩
/-- .. the first ones -/
theorem own_head {w : World} {lo n cap g : Nat} {xs : List Value} (h : w.ownsRow lo 37 3 (.slice (some ⟨g, 0, none⟩) n cap) n xs) (h1 : ∀ u ∈ xs, u.oneCell' = true) {m : Nat} (hm : m ≤ n) : ECells w m (xs.take (m * 3)) (.slice (some ⟨g, 0, none⟩) m cap) := by
  have h2 := own_take h hm
  refine ⟨h2.1, fun u hu => h1 u (List.mem_of_mem_take hu), _, _, rfl, Or.inr ⟨g, 0, rfl, (h.lt g rfl).2, fun j u hj => ?_⟩⟩
  rw [Nat.zero_add, h2.cellAt j (by have := (List.getElem?_eq_some_iff.1 hj).1; rw [h2.1] at this; exact this)]
  exact hj
theorem OwnF.one {w : World} {lo hi : Nat} {ts : List Tr} {v : Value} (h : OwnF w lo hi ts v) : ∃ xs, w.ownsRow lo 37 3 v ts.length xs ∧ ∀ u ∈ xs, u.oneCell' = true := by
  obtain ⟨xs, fps, h1, h2, h3, -, -⟩ := h
  refine ⟨xs, h1, fun u hu => ?_⟩
  obtain ⟨i, hi, rfl⟩ := List.getElem_of_mem hu
  have hl := h1.1
  have hj : i / 3 < ts.length := by omega
  obtain ⟨f, -, a, b, c, e1, e2, e3, e4⟩ := h3 (i / 3) hj
  obtain ⟨ha, hb, -, -, ad, cap, hc, -⟩ := trFp_iff.1 e4
  have hm : i % 3 = 0 ∨ i % 3 = 1 ∨ i % 3 = 2 := by omega
  rcases hm with hm | hm | hm
  · have : xs[i / 3 * 3]? = some xs[i] := by rw [show i / 3 * 3 = i by omega]; exact List.getElem?_eq_getElem hi
    rw [e1] at this; cases this; rw [ha]; rfl
  · have : xs[i / 3 * 3 + 1]? = some xs[i] := by rw [show i / 3 * 3 + 1 = i by omega]; exact List.getElem?_eq_getElem hi
    rw [e2] at this; cases this; rw [hb]; rfl
  · have : xs[i / 3 * 3 + 2]? = some xs[i] := by rw [show i / 3 * 3 + 2 = i by omega]; exact List.getElem?_eq_getElem hi
    rw [e3] at this; cases this; rw [hc]; rfl

/-- the last trees are taken from a list and put back as the operands of one -/
theorem OwnF.popK {w w5 w6 : World} {lo n cap m : Nat} {ts : List Tr} {ad : Option Addr} {v' kv : Value} {o nn : Int} {xs : List Value}
    (h : OwnF w lo w.heap.size ts (.slice ad n cap)) (hn : n = ts.length) (hm : m ≤ n) (hlo : lo ≤ w.heap.size) (hx : w.ownsRow lo 37 3 (.slice ad n cap) n xs)
    (hb : Below w.heap.size w w5) (hk : w5.ownsRow w.heap.size 37 3 kv (n - m) (xs.drop (m * 3))) (ho : I64 o) (hnn : I64 nn)
    (hown : w6.ownsRow lo 37 3 v' (m + 1) (xs.take (m * 3) ++ [.int .i64 o, .int .i64 nn, kv])) (keepB : ∀ k, k < w5.heap.size → some k ≠ (Value.slice ad m cap).ownBlock → w6.heap[k]? = w5.heap[k]?) (h6 : w5.heap.size ≤ w6.heap.size)
    (hw : v'.ownBlock = (Value.slice ad m cap).ownBlock ∨ ∃ g, v'.ownBlock = some g ∧ w5.heap.size ≤ g) :
    OwnF w6 lo w6.heap.size (ts.take m ++ [.node o nn (ts.drop m)]) v' := by
  obtain ⟨xs2, fps, h1, h2, h3, h4, h5⟩ := h
  have hxs : xs2 = xs := by
    rcases h1.2 with ⟨e, h0⟩ | ⟨g, c, cur, e, hg', hh, hn', hc, hs, htk⟩
    · have a1 := h1.1
      have a2 := hx.1
      rw [List.eq_nil_of_length_eq_zero (by omega : xs2.length = 0), List.eq_nil_of_length_eq_zero (by omega : xs.length = 0)]
    · rcases hx.2 with ⟨e2, -⟩ | ⟨g2, cap2, cur2, e2, -, hh2, -, -, -, htk2⟩
      · cases e; cases e2
      · cases e; cases e2
        rw [hh] at hh2
        cases hh2
        rw [← htk, ← htk2]
  subst hxs
  have hlen := h1.1
  have hsz := hb.size
  have hob : ∀ k, some k = (Value.slice ad m cap).ownBlock → k < w.heap.size := by
    intro k e
    rcases h1.2 with ⟨e2, -⟩ | ⟨g, c, cur, e2, hg', hh, -⟩
    · cases e2; simp [Value.ownBlock] at e
    · cases e2
      simp only [Value.ownBlock, Option.some.injEq] at e
      subst e
      exact (Array.getElem?_eq_some_iff.1 hh).1
  have hob2 : (Value.slice ad m cap).ownBlock = (Value.slice ad n cap).ownBlock := by cases ad <;> rfl
  -- what stays from the first world to the last
  have keepA : ∀ k, k < w.heap.size → some k ≠ (Value.slice ad m cap).ownBlock → w6.heap[k]? = w.heap[k]? := fun k hk hne => (keepB k (by omega) hne).trans (hb.block k hk)
  have inF : ∀ k ∈ fps.flatten, lo ≤ k ∧ k < w.heap.size ∧ some k ≠ (Value.slice ad m cap).ownBlock := fun k hk => by rw [hob2]; exact h5 k hk
  have nb : ∀ k, k < w5.heap.size → some k ≠ (Value.slice ad m cap).ownBlock → some k ≠ v'.ownBlock := fun k hk hkv => by
    rcases hw with hw | ⟨g, hw, hge⟩
    · rw [hw]; exact hkv
    · rw [hw]; intro e; simp only [Option.some.injEq] at e; omega
  have hdl : (ts.drop m).length = n - m := by simp; omega
  -- the new tree
  have hnew : ∃ f, TrFp w6 37 (.node o nn (ts.drop m)) f (.int .i64 o) (.int .i64 nn) kv ∧ (f = [] ∨ ∃ g', f = g' :: (fps.drop m).flatten ∧ w.heap.size ≤ g' ∧ g' < w5.heap.size) := by
    rcases hk.2 with ⟨rfl, h0⟩ | ⟨g', cap', cur', rfl, hg', hh', hn', hc', hs', htk'⟩
    · have hnil : ts.drop m = [] := List.eq_nil_of_length_eq_zero (by omega)
      rw [hnil]
      exact ⟨[], trFp_iff.2 ⟨rfl, rfl, ho, hnn, none, 0, rfl, Nat.le_refl _, by simp [maxLen], Or.inl ⟨rfl, rfl⟩⟩, Or.inl rfl⟩
    · have hg5 := (Array.getElem?_eq_some_iff.1 hh').1
      have hgne : some g' ≠ (Value.slice ad m cap).ownBlock := fun e => by have := hob g' e; omega
      refine ⟨g' :: (fps.drop m).flatten, trFp_iff.2 ⟨rfl, rfl, ho, hnn, some ⟨g', 0, none⟩, cap', by rw [Tr.kids_node, hdl], by rw [Tr.kids_node, hdl]; exact hn', hc', Or.inr ⟨g', 0, cur', fps.drop m, rfl, (keepB g' hg5 hgne).trans hh', rfl, RowFp.of _ _ _ ?_ fun i hi => ?_⟩⟩, Or.inr ⟨g', rfl, hg', hg5⟩⟩
      · rw [Tr.kids_node, hdl, List.length_drop, h2, hn]
      · rw [Tr.kids_node, hdl] at hi
        obtain ⟨f, e0, a, b, c, e1, e2, e3, e4⟩ := h3 (m + i) (by omega)
        have hcell : ∀ q, q < 3 → w6.cell? ⟨g', 0 + i * 3 + q, none⟩ = xs2[(m + i) * 3 + q]? := fun q hq => by
          rw [World.cell?_of_block (w := w5) (keepB g' hg5 hgne), Nat.zero_add, hk.cellAt (i * 3 + q) (by omega), List.getElem?_drop]
          congr 1
          omega
        have hh0 := hcell 0 (by omega)
        have hh1 := hcell 1 (by omega)
        have hh2 := hcell 2 (by omega)
        rw [Nat.add_zero] at hh0
        rw [Nat.add_zero] at hh0
        refine ⟨f, by rw [List.getElem?_drop]; exact e0, a, b, c, hh0.trans e1, hh1.trans e2, hh2.trans e3, ?_⟩
        have hmem : ∀ k ∈ f, k ∈ fps.flatten := fun k hk => List.mem_flatten.2 ⟨f, List.mem_of_getElem? e0, hk⟩
        simp only [Tr.kids_node, List.getElem_drop]
        exact TrFp.keep _ _ _ _ _ (fun k hk => keepA k (inF k (hmem k hk)).2.1 (inF k (hmem k hk)).2.2) e4
  obtain ⟨f, hf, hfp⟩ := hnew
  have hfl : (fps.take m).flatten ++ (fps.drop m).flatten = fps.flatten := by rw [← List.flatten_append, List.take_append_drop]
  have hnd := h4
  rw [← hfl, List.nodup_append] at hnd
  have htl : (ts.take m).length = m := by rw [List.length_take]; omega
  refine ⟨xs2.take (m * 3) ++ [.int .i64 o, .int .i64 nn, kv], fps.take m ++ [f], by rw [List.length_append, htl]; exact hown, by rw [List.length_append, List.length_append, htl, List.length_take]; simp; omega, fun j hj => ?_, ?_, fun k hkm => ?_⟩
  · rw [List.length_append, htl] at hj
    by_cases hjm : j < m
    · obtain ⟨f', e0, a, b, c, e1, e2, e3, e4⟩ := h3 j (by omega)
      have hmem : ∀ k ∈ f', k ∈ fps.flatten := fun k hk => List.mem_flatten.2 ⟨f', List.mem_of_getElem? e0, hk⟩
      have hxt : ∀ q, q < 3 → (xs2.take (m * 3) ++ [Value.int .i64 o, .int .i64 nn, kv])[j * 3 + q]? = xs2[j * 3 + q]? := fun q hq => by
        rw [List.getElem?_append_left (by rw [List.length_take]; omega), List.getElem?_take_of_lt (by omega)]
      have x0 := hxt 0 (by omega)
      rw [Nat.add_zero] at x0
      refine ⟨f', ?_, a, b, c, x0.trans e1, (hxt 1 (by omega)).trans e2, (hxt 2 (by omega)).trans e3, ?_⟩
      · rw [List.getElem?_append_left (by rw [List.length_take]; omega), List.getElem?_take_of_lt hjm]; exact e0
      · rw [List.getElem_append_left (by rw [htl]; exact hjm), List.getElem_take]
        exact TrFp.keep _ _ _ _ _ (fun k hk => keepA k (inF k (hmem k hk)).2.1 (inF k (hmem k hk)).2.2) e4
    · have hjm' : j = m := by simp at hj; omega
      subst hjm'
      have hxl : (xs2.take (j * 3)).length = j * 3 := by rw [List.length_take]; omega
      refine ⟨f, ?_, .int .i64 o, .int .i64 nn, kv, ?_, ?_, ?_, ?_⟩
      · rw [List.getElem?_append_right (by rw [List.length_take]; omega), List.length_take, show j - min j fps.length = 0 by omega]; rfl
      · rw [List.getElem?_append_right (by omega), hxl, show j * 3 - j * 3 = 0 by omega]; rfl
      · rw [List.getElem?_append_right (by omega), hxl, show j * 3 + 1 - j * 3 = 1 by omega]; rfl
      · rw [List.getElem?_append_right (by omega), hxl, show j * 3 + 2 - j * 3 = 2 by omega]; rfl
      · have e : (ts.take j ++ [Tr.node o nn (ts.drop j)])[j]'(by rw [List.length_append, htl]; simp) = Tr.node o nn (ts.drop j) := by
          rw [List.getElem_append_right (by omega)]; simp
        rw [e]
        exact hf
  · rw [List.flatten_append, List.nodup_append]
    have hlow : ∀ k ∈ (fps.take m).flatten, k < w.heap.size := fun k hk => (inF k (by rw [← hfl]; exact List.mem_append_left _ hk)).2.1
    rcases hfp with rfl | ⟨g', rfl, hg1, hg2⟩
    · exact ⟨hnd.1, by simp, fun x _ y hy => by simp at hy⟩
    · refine ⟨hnd.1, ?_, fun x hx' y hy => ?_⟩
      · simp only [List.flatten_cons, List.flatten_nil, List.append_nil, List.nodup_cons]
        refine ⟨fun hm' => ?_, hnd.2.1⟩
        have := (inF g' (by rw [← hfl]; exact List.mem_append_right _ hm')).2.1
        omega
      · simp only [List.flatten_cons, List.flatten_nil, List.append_nil, List.mem_cons] at hy
        rcases hy with rfl | hy
        · have := hlow x hx'; omega
        · exact hnd.2.2 x hx' y hy
  · rw [List.flatten_append, List.mem_append] at hkm
    rcases hkm with hkm | hkm
    · have := inF k (by rw [← hfl]; exact List.mem_append_left _ hkm)
      exact ⟨this.1, by omega, nb k (by omega) this.2.2⟩
    · rcases hfp with rfl | ⟨g', rfl, hg1, hg2⟩
      · simp at hkm
      · simp only [List.flatten_cons, List.flatten_nil, List.append_nil, List.mem_cons] at hkm
        rcases hkm with rfl | hkm
        · exact ⟨by omega, by omega, nb k hg2 (fun e => by have := hob k e; omega)⟩
        · have := inF k (by rw [← hfl]; exact List.mem_append_right _ hkm)
          exact ⟨this.1, by omega, nb k (by omega) this.2.2⟩
theorem OwnF.pop {w w5 w6 : World} {lo n cap m : Nat} {ts : List Tr} {ad : Option Addr} {v' kv : Value} {o nn : Int} {xs : List Value} {obj : Obj}
    (h : OwnF w lo w.heap.size ts (.slice ad n cap)) (hn : n = ts.length) (hm : m ≤ n) (hlo : lo ≤ w.heap.size) (hx : w.ownsRow lo 37 3 (.slice ad n cap) n xs)
    (hb : Below w.heap.size w w5) (hk : w5.ownsRow w.heap.size 37 3 kv (n - m) (xs.drop (m * 3))) (ho : I64 o) (hnn : I64 nn)
    (hown : w6.ownsRow lo 37 3 v' (m + 1) (xs.take (m * 3) ++ [.int .i64 o, .int .i64 nn, kv])) (hg : (w5.alloc obj).grownBy w6 (Value.slice ad m cap).ownBlock)
    (hw : v'.ownBlock = (Value.slice ad m cap).ownBlock ∨ ∃ g, v'.ownBlock = some g ∧ (w5.alloc obj).heap.size ≤ g) :
    OwnF w6 lo w6.heap.size (ts.take m ++ [.node o nn (ts.drop m)]) v' := by
  have hal := Deep.nblk_alloc w5 obj
  have h7 : (w5.alloc obj).heap.size ≤ w6.heap.size := hg.size
  refine OwnF.popK h hn hm hlo hx hb hk ho hnn hown (fun k hk hne => (hg.block k (by omega) hne).trans (Deep.blk_alloc_lt _ _ _ hk)) (by omega) (hw.imp id ?_)
  rintro ⟨g, e, h⟩
  exact ⟨g, e, by omega⟩
end Go.Proofs.Ythknbafcnobgdaa
/-
  append TO A FRESH EMPTY SLICE OF EXPRESSIONS, of any expressions, none too: as one step of a region that draws its order.
-/
namespace Go.Proofs.Ythknbafcnobgdaa
set_option linter.unusedVariables false
set_option linter.unusedSimpArgs false
open Go.RowKit

theorem run_append_fresh (w : World) (ty : TypeId) (G : Nat) (hG : w.heap[G]? = some (.cells #[] 37)) (n : Nat) (news : List Value) (v : Value) (hv : ECells w n news v) (hb : n ≤ 1048576) :
    ∃ v' w', (Builtin.append_ #[35, 35] ty #[.slice (some ⟨G, 0, none⟩) 0 0, v]).run Try.prog w = .ok v' w' ∧ w'.ownsRow G 37 3 v' n news ∧ w.grownBy w' (some G) ∧ (v'.ownBlock = some G ∨ ∃ g, v'.ownBlock = some g ∧ w.heap.size ≤ g) := by
  obtain ⟨hl, h1, ad, cap, rfl, hr⟩ := hv
  obtain ⟨i, z, hi, hz, hs, hby, hzs⟩ := infoE3
  have hlt := (Array.getElem?_eq_some_iff.1 hG).1
  have hown : w.ownsRow G 37 3 (.slice (some ⟨G, 0, none⟩) 0 0) 0 [] := ⟨rfl, Or.inr ⟨G, 0, #[], rfl, Nat.le_refl _, hG, Nat.le_refl _, by unfold maxLen; omega, rfl, rfl⟩⟩
  by_cases hn : n = 0
  · subst hn
    obtain rfl : news = [] := List.eq_nil_of_length_eq_zero (by omega)
    refine ⟨.slice (some ⟨G, 0, none⟩) 0 0, w, ?_, hown, ⟨rfl, rfl, rfl, Nat.le_refl _, fun _ _ _ => rfl⟩, Or.inl rfl⟩
    rcases hr with ⟨rfl, -⟩ | ⟨bl, off, rfl, hbl, -⟩
    · simp [Builtin.append_, run_underlying Try.underlying35, sizeOf, typeInfo, hi, Builtin.lenOf, Builtin.firstCells, storeCells]
    · simp [Builtin.append_, run_underlying Try.underlying35, sizeOf, typeInfo, hi, Builtin.lenOf, Builtin.firstCells, storeCells, loadCells, loadCellsFrom]
  · rcases hr with ⟨-, h0⟩ | ⟨bl, off, rfl, hbl, hc⟩
    · exact absurd h0 hn
    · obtain ⟨v', w', hrun, h2, h3, h4⟩ := run_append_where (P := Try.prog) w G 35 ty 37 i z 3 40 Try.underlying35 hi hz hs hby hzs (by decide) (.slice (some ⟨G, 0, none⟩) 0 0) 0 [] hown ⟨bl, off, none⟩ n cap news hl (fun j u hj => by rw [WideShapes.add_plain]; exact hc j u hj) h1 (by unfold maxLen; omega) (by omega) (by omega) (by omega)
      exact ⟨v', w', hrun, by rw [Nat.zero_add, List.nil_append] at h2; exact h2, h3, h4⟩
theorem step_append_fresh {ops : Array Oper} {o : Oper} {a : Act} {w : World} {K : Act → World → Prop} {Q : Exit → Act → World → Prop} {E : Prop} (hgd : o.guard = none) (s x : Operand)
    (ho : o.op = .call { callee := .builtin .append, args := #[s, x], argTypes := #[35, 35] })
    (G : Nat) (hG : w.heap[G]? = some (.cells #[] 37)) (n : Nat) (news : List Value) (v : Value) (hs : a.eval s = .slice (some ⟨G, 0, none⟩) 0 0) (hx : a.eval x = v) (hv : ECells w n news v) (hb : n ≤ 1048576)
    (h : ∀ v' w', w'.ownsRow G 37 3 v' n news → w.grownBy w' (some G) → (v'.ownBlock = some G ∨ ∃ g, v'.ownBlock = some g ∧ w.heap.size ≤ g) → K (a.put o.dst v') w') : if Region.wanted o (yielded ops a.tmps) = true then Oper.wp Try.prog o a w K Q else E := by
  have hw : Region.wanted o (yielded ops a.tmps) = true := by simp [Region.wanted, hgd]
  rw [if_pos hw]
  obtain ⟨v', w', hrun, h2, h3, h4⟩ := run_append_fresh w o.type G hG n news v hv hb
  unfold Oper.wp
  simp [execOp, ho, resolve, invoke, builtin, hs, hx, hrun, Result.andThen]
  exact h _ _ h2 h3 h4
end Go.Proofs.Ythknbafcnobgdaa
/-
  slices.Reverse AT A ROW OF EXPRESSIONS: the elements' cells, turned around; nothing else is changed.
-/
namespace Go.Proofs.Ythknbafcnobgdaa
set_option linter.unusedVariables false
set_option linter.unusedSimpArgs false
open Go.RowKit

/-- a row behind k exchanges from both ends -/
def revF (n k : Nat) (f : Nat → Value) (i : Nat) : Value := if i / 3 < n ∧ (i / 3 < k ∨ n ≤ i / 3 + k) then f ((n - 1 - i / 3) * 3 + i % 3) else f i

theorem revF_at (n k : Nat) (f : Nat → Value) (j r : Nat) (hr : r < 3) : revF n k f (j * 3 + r) = if j < n ∧ (j < k ∨ n ≤ j + k) then f ((n - 1 - j) * 3 + r) else f (j * 3 + r) := by
  unfold revF
  rw [show (j * 3 + r) / 3 = j by omega, show (j * 3 + r) % 3 = r by omega]
theorem grown_set {w w1 : World} {g : Nat} (h : w.grownBy w1 (some g)) (i : Nat) (u : Value) : w.grownBy (w1.setCell ⟨g, i, none⟩ u) (some g) :=
  ⟨h.os, h.tape, h.output, by rw [size_setCell]; exact h.size, fun k hk hne => (Below.heap_setCell _ _ _ _ (fun e => hne (by rw [e]))).trans (h.block k hk hne)⟩
theorem grown_drew_r {w w1 : World} {r : Option Nat} (h : w.grownBy w1 r) : w.grownBy w1.drew r := ⟨h.os, h.tape, h.output, h.size, h.block⟩

set_option maxRecDepth 100000 in
set_option maxHeartbeats 800000 in
theorem rev_calls (g n cap : Nat) (f : Nat → Value) (w : World) (hr : w.rowIs g 37 (cap * 3) f) (hn : n ≤ cap) (hc : cap ≤ maxLen)
    (hf : ∀ j, j < n → ∃ p q ad l c, f (j * 3) = .int .i64 p ∧ f (j * 3 + 1) = .int .i64 q ∧ f (j * 3 + 2) = .slice ad l c) :
    Calls Try.prog 88 #[.slice (some ⟨g, 0, none⟩) n cap] w fun e w' => e = .returned (.tuple #[]) ∧ (∃ f', w'.rowIs g 37 (cap * 3) f' ∧ ∀ j r, j < n → r < 3 → f' (j * 3 + r) = f ((n - 1 - j) * 3 + r)) ∧ w.grownBy w' (some g) := by
  unfold maxLen at hc
  have HR : Hid (w.rowIs g 37 (cap * 3) f) := hr
  clear hr
  go_enter Try.func88, Try.ntmps88
  go_wp2_with fail
  go_loopw [2, 3] (fun i j wr => ∃ k : Nat, 2 * k ≤ n ∧ i = .int .i64 k ∧ j = .int .i64 ((n : Int) - 1 - k) ∧ wr.rowIs g 37 (cap * 3) (revF n k f) ∧ w.grownBy wr (some g)) (fun i _ _ => n - (intOf i).toNat)
  case atStart => exact ⟨0, by omega, rfl, by simp, HR.out.congr fun i hi => by unfold revF; rw [if_neg (by omega)], rfl, rfl, rfl, Nat.le_refl _, fun _ _ _ => rfl⟩
  case round =>
    obtain ⟨k, hk, rfl, rfl, hrow, hg⟩ := hrel
    by_cases hlt : (k : Int) < (n : Int) - 1 - k
    · obtain ⟨m, hm⟩ : ∃ m : Nat, (n : Int) - 1 - k = m := ⟨n - 1 - k, by omega⟩
      rw [hm] at hlt ⊢
      have hkm : k < m := by omega
      have hmn : m < n := by omega
      have ek : ∀ r, r < 3 → revF n k f (k * 3 + r) = f (k * 3 + r) := fun r hr => by unfold revF; rw [if_neg (by intro h; omega)]
      have em : ∀ r, r < 3 → revF n k f (m * 3 + r) = f (m * 3 + r) := fun r hr => by unfold revF; rw [if_neg (by intro h; omega)]
      have a0 := hrow.cell (i := k * 3) (by omega)
      have a1 := hrow.cell (i := k * 3 + 1) (by omega)
      have a2 := hrow.cell (i := k * 3 + 2) (by omega)
      have b0 := hrow.cell (i := m * 3) (by omega)
      have b1 := hrow.cell (i := m * 3 + 1) (by omega)
      have b2 := hrow.cell (i := m * 3 + 2) (by omega)
      have fz := hrow.frozen
      have HRow : Hid (wr.rowIs g 37 (cap * 3) (revF n k f)) := hrow
      have HG : Hid (w.grownBy wr (some g)) := hg
      have HM : Hid ((n : Int) - 1 - k = m) := hm
      clear hrow hg hm
      obtain ⟨p, q, ad, l, c, e0, e1, e2⟩ := hf k (by omega)
      obtain ⟨p', q', ad', l', c', e0', e1', e2'⟩ := hf m (by omega)
      rw [show k * 3 = k * 3 + 0 from rfl, ek 0 (by omega), Nat.add_zero, e0] at a0
      rw [ek 1 (by omega), e1] at a1
      rw [ek 2 (by omega), e2] at a2
      rw [show m * 3 = m * 3 + 0 from rfl, em 0 (by omega), Nat.add_zero, e0'] at b0
      rw [em 1 (by omega), e1'] at b1
      rw [em 2 (by omega), e2'] at b2
      have HE : Hid (f (k * 3) = .int .i64 p ∧ f (k * 3 + 1) = .int .i64 q ∧ f (k * 3 + 2) = .slice ad l c ∧ f (m * 3) = .int .i64 p' ∧ f (m * 3 + 1) = .int .i64 q' ∧ f (m * 3 + 2) = .slice ad' l' c') := ⟨e0, e1, e2, e0', e1', e2'⟩
      clear ek em e0 e1 e2 e0' e1' e2' hf
      go_wp2_with fail
      go_big_region
      have HR' : Hid ((((((((wr.setCell ⟨g, k * 3, none⟩ (.int .i64 p')).setCell ⟨g, k * 3 + 1, none⟩ (.int .i64 q')).setCell ⟨g, k * 3 + 2, none⟩ (.slice ad' l' c')).setCell ⟨g, m * 3, none⟩ (.int .i64 p)).setCell ⟨g, m * 3 + 1, none⟩ (.int .i64 q)).setCell ⟨g, m * 3 + 2, none⟩ (.slice ad l c)).drew).rowIs g 37 (cap * 3) (revF n (k + 1) f)) := by
        refine ((((((HRow.out.set (k * 3) _).set (k * 3 + 1) _).set (k * 3 + 2) _).set (m * 3) _).set (m * 3 + 1) _).set (m * 3 + 2) _).drew.congr fun i hi => ?_
        obtain ⟨h0, h1, h2, h3, h4, h5⟩ := HE.out
        have hm := HM.out
        obtain ⟨j, r, hr, rfl⟩ : ∃ j r, r < 3 ∧ i = j * 3 + r := ⟨i / 3, i % 3, by omega, by omega⟩
        have e1 : n - 1 - k = m := by omega
        have e2 : n - 1 - m = k := by omega
        simp only [revF_at n _ f j r hr]
        rcases (by omega : r = 0 ∨ r = 1 ∨ r = 2) with rfl | rfl | rfl
        · by_cases hjk : j = k
          · subst hjk
            rw [if_neg (by omega), if_neg (by omega), if_neg (by omega), if_neg (by omega), if_neg (by omega), if_pos (by omega), if_pos (by omega), e1]; exact h3.symm
          by_cases hjm : j = m
          · subst hjm
            rw [if_neg (by omega), if_neg (by omega), if_pos (by omega), if_pos (by omega), e2]; exact h0.symm
          rw [if_neg (by omega), if_neg (by omega), if_neg (by omega), if_neg (by omega), if_neg (by omega), if_neg (by omega)]
          by_cases hc : j < n ∧ (j < k ∨ n ≤ j + k)
          · rw [if_pos hc, if_pos (by omega)]
          · rw [if_neg hc, if_neg (by omega)]
        · by_cases hjk : j = k
          · subst hjk
            rw [if_neg (by omega), if_neg (by omega), if_neg (by omega), if_neg (by omega), if_pos (by omega), if_pos (by omega), e1]; exact h4.symm
          by_cases hjm : j = m
          · subst hjm
            rw [if_neg (by omega), if_pos (by omega), if_pos (by omega), e2]; exact h1.symm
          rw [if_neg (by omega), if_neg (by omega), if_neg (by omega), if_neg (by omega), if_neg (by omega), if_neg (by omega)]
          by_cases hc : j < n ∧ (j < k ∨ n ≤ j + k)
          · rw [if_pos hc, if_pos (by omega)]
          · rw [if_neg hc, if_neg (by omega)]
        · by_cases hjk : j = k
          · subst hjk
            rw [if_neg (by omega), if_neg (by omega), if_neg (by omega), if_pos (by omega), if_pos (by omega), e1]; exact h5.symm
          by_cases hjm : j = m
          · subst hjm
            rw [if_pos (by omega), if_pos (by omega), e2]; exact h2.symm
          rw [if_neg (by omega), if_neg (by omega), if_neg (by omega), if_neg (by omega), if_neg (by omega), if_neg (by omega)]
          by_cases hc : j < n ∧ (j < k ∨ n ≤ j + k)
          · rw [if_pos hc, if_pos (by omega)]
          · rw [if_neg hc, if_neg (by omega)]
      have HG' : Hid (w.grownBy (((((((wr.setCell ⟨g, k * 3, none⟩ (.int .i64 p')).setCell ⟨g, k * 3 + 1, none⟩ (.int .i64 q')).setCell ⟨g, k * 3 + 2, none⟩ (.slice ad' l' c')).setCell ⟨g, m * 3, none⟩ (.int .i64 p)).setCell ⟨g, m * 3 + 1, none⟩ (.int .i64 q)).setCell ⟨g, m * 3 + 2, none⟩ (.slice ad l c)).drew) (some g)) := by
        exact grown_drew_r (grown_set (grown_set (grown_set (grown_set (grown_set (grown_set HG.out _ _) _ _) _ _) _ _) _ _) _ _)
      clear a0 a1 a2 b0 b1 b2 fz
      generalize ((((((wr.setCell ⟨g, k * 3, none⟩ (.int .i64 p')).setCell ⟨g, k * 3 + 1, none⟩ (.int .i64 q')).setCell ⟨g, k * 3 + 2, none⟩ (.slice ad' l' c')).setCell ⟨g, m * 3, none⟩ (.int .i64 p)).setCell ⟨g, m * 3 + 1, none⟩ (.int .i64 q)).setCell ⟨g, m * 3 + 2, none⟩ (.slice ad l c)).drew = wz at *
      go_wp2_with fail
      have hm := HM.out
      unfold Hid at hm
      refine ⟨⟨k + 1, by omega, by simp, ?_, HR'.out, HG'.out⟩, by simp [intOf]; omega⟩
      exact congrArg (Value.int .i64) (by push_cast; omega)
    · have HRow : Hid (wr.rowIs g 37 (cap * 3) (revF n k f)) := hrow
      have HG : Hid (w.grownBy wr (some g)) := hg
      clear hrow hg hf
      go_wp2_with fail
      go_end0
      refine ⟨rfl, ⟨_, HRow.out, fun j r hj hr => ?_⟩, HG.out⟩
      rw [revF_at _ _ _ _ _ hr]
      by_cases hc : j < k ∨ n ≤ j + k
      · rw [if_pos ⟨hj, hc⟩]
      · have e : n - 1 - j = j := by omega
        rw [if_neg (fun h => hc h.2), e]
end Go.Proofs.Ythknbafcnobgdaa
/-
  THE PROGRAM's unwind: the function of nested applications, and its arguments in order; nothing that was there is changed.
-/
namespace Go.Proofs.Ythknbafcnobgdaa
set_option linter.unusedVariables false
set_option linter.unusedSimpArgs false
open Go.RowKit

/-- a row of cards, in new memory -/
def CdRow (w : World) (lo : Nat) (l : List Cd) (v : Value) : Prop :=
  (l = [] ∧ v = .slice none 0 0) ∨ ∃ g cap f, v = .slice (some ⟨g, 0, none⟩) l.length cap ∧ lo ≤ g ∧ l.length ≤ cap ∧ cap ≤ maxLen ∧ w.rowIs g 37 (cap * 3) f ∧
    ∀ j (hj : j < l.length), f (j * 3) = l[j].2.1 ∧ f (j * 3 + 1) = l[j].2.2.1 ∧ f (j * 3 + 2) = l[j].2.2.2

theorem CdRow.keep {w w' : World} {lo lo' : Nat} {l : List Cd} {v : Value} (h : CdRow w lo l v) (hl : lo' ≤ lo) (hk : ∀ k, lo ≤ k → k < w.heap.size → w'.heap[k]? = w.heap[k]?) : CdRow w' lo' l v := by
  rcases h with h | ⟨g, cap, f, e, hg, hn, hc, hr, hv⟩
  · exact Or.inl h
  · exact Or.inr ⟨g, cap, f, e, Nat.le_trans hl hg, hn, hc, hr.of_block (hk g hg hr.lt), hv⟩
/-- cards, as cells -/
def cdCells (l : List Cd) : List Value := l.flatMap fun d => [d.2.1, d.2.2.1, d.2.2.2]
theorem cdCells_at : ∀ (l : List Cd) (j : Nat) (hj : j < l.length), (cdCells l)[j * 3]? = some l[j].2.1 ∧ (cdCells l)[j * 3 + 1]? = some l[j].2.2.1 ∧ (cdCells l)[j * 3 + 2]? = some l[j].2.2.2
  | [], j, hj => by simp at hj
  | d :: l, 0, _ => by simp [cdCells]
  | d :: l, j + 1, hj => by
    have := cdCells_at l j (by simpa using hj)
    have e : ∀ r, (cdCells (d :: l))[(j + 1) * 3 + r]? = (cdCells l)[j * 3 + r]? := fun r => by
      rw [show (j + 1) * 3 + r = 3 + (j * 3 + r) by omega]
      show ([d.2.1, d.2.2.1, d.2.2.2] ++ cdCells l)[3 + (j * 3 + r)]? = _
      rw [List.getElem?_append_right (by simp)]
      simp
    have e0 := e 0
    rw [Nat.add_zero, Nat.add_zero] at e0
    rw [e0, e 1, e 2]
    simpa using this
theorem own_cd {w : World} {base : Nat} {v : Value} {l : List Cd} (h : w.ownsRow base 37 3 v l.length (cdCells l)) : CdRow w base l v := by
  rcases h.2 with ⟨rfl, h0⟩ | ⟨g, cap, cur, rfl, hg, hh, hn, hc, hs, htk⟩
  · exact Or.inl ⟨List.eq_nil_of_length_eq_zero h0, rfl⟩
  · refine Or.inr ⟨g, cap, fun i => cur.getD i undef, rfl, hg, hn, hc, ⟨cur, hh, hs, fun i hi => ?_⟩, fun j hj => ?_⟩
    · simp [Array.getElem?_eq_getElem (hs ▸ hi : i < cur.size), Array.getD, (hs ▸ hi : i < cur.size)]
    · have hget : ∀ i v, i < l.length * 3 → (cdCells l)[i]? = some v → cur.getD i undef = v := fun i v hi hv => by
        rw [← htk, List.getElem?_take_of_lt hi, Array.getElem?_toList] at hv
        rw [Array.getD_eq_getD_getElem?, hv]; rfl
      obtain ⟨h0, h1, h2⟩ := cdCells_at l j hj
      exact ⟨hget _ _ (by omega) h0, hget _ _ (by omega) h1, hget _ _ (by omega) h2⟩

set_option maxHeartbeats 400000 in
theorem rev_nil (w : World) : Calls Try.prog 88 #[.slice none 0 0] w fun e w' => e = .returned (.tuple #[]) ∧ Below w.heap.size w w' := by
  go_enter Try.func88, Try.ntmps88
  go_wp2_with fail
  go_loopw [2, 3] (fun i j wr => i = .int .i64 0 ∧ j = .int .i64 (-1) ∧ Below w.heap.size w wr) (fun i _ _ => 0)
  case atStart => exact ⟨rfl, rfl, Below.refl _ _⟩
  case round =>
    obtain ⟨rfl, rfl, hb⟩ := hrel
    go_wp2_with fail
    go_end0
    exact ⟨rfl, hb⟩

theorem rev_cd (lo : Nat) (l : List Cd) (v : Value) (w : World) (h : CdRow w lo l v) (hf : ∀ d ∈ l, ∃ p q ad n c, d.2.1 = .int .i64 p ∧ d.2.2.1 = .int .i64 q ∧ d.2.2.2 = .slice ad n c) (hlo : lo ≤ w.heap.size) :
    Calls Try.prog 88 #[v] w fun e w' => e = .returned (.tuple #[]) ∧ CdRow w' lo l.reverse v ∧ Below lo w w' := by
  rcases h with ⟨rfl, rfl⟩ | ⟨g, cap, f, rfl, hg, hn, hc, hr, hv⟩
  · refine (rev_nil w).mono ?_
    rintro e w' ⟨rfl, hb⟩
    exact ⟨rfl, Or.inl ⟨rfl, rfl⟩, hb.mono hlo⟩
  · refine (rev_calls g l.length cap f w hr hn hc fun j hj => ?_).mono ?_
    · obtain ⟨p, q, ad, n, c, e0, e1, e2⟩ := hf l[j] (List.getElem_mem hj)
      obtain ⟨h0, h1, h2⟩ := hv j hj
      exact ⟨p, q, ad, n, c, h0.trans e0, h1.trans e1, h2.trans e2⟩
    · rintro e w' ⟨rfl, ⟨f', hr', hf'⟩, hgr⟩
      refine ⟨rfl, Or.inr ⟨g, cap, f', by simp, hg, by simpa using hn, hc, hr', fun j hj => ?_⟩, ⟨hgr.os, hgr.tape, hgr.output, hgr.size, fun k hk => hgr.block k (by omega) (by simp; omega)⟩⟩
      have hj' : j < l.length := by simpa using hj
      have a0 := hf' j 0 hj' (by omega)
      have a1 := hf' j 1 hj' (by omega)
      have a2 := hf' j 2 hj' (by omega)
      rw [Nat.add_zero, Nat.add_zero] at a0
      obtain ⟨h0, h1, h2⟩ := hv (l.length - 1 - j) (by omega)
      rw [List.getElem_reverse]
      exact ⟨a0.trans h0, a1.trans h1, a2.trans h2⟩

theorem ptrK : PKey Try.prog 115 embP PlainAt := by
  obtain ⟨j, hj, hs⟩ : ∃ j, Try.prog.info? 37 = some j ∧ j.size ≠ 0 := by
    have h : (Try.prog.info? 37).map (fun i => i.size) = some 3 := by kernel_rfl
    cases hi : Try.prog.info? 37 with
    | none => rw [hi] at h; simp at h
    | some j => rw [hi] at h; simp at h; exact ⟨j, rfl, by omega⟩
  exact ptr_key Try.underlying115 hj hs
theorem zeroBool (w : World) : (zeroValue 4).run Try.prog w = .ok (.bool false) w := by kernel_rfl

/-- how long a slice is -/
def slLen : Value → Nat
  | .slice _ n _ => n
  | _ => 0

/-- the three cells of a tree's box -/
def boxF (o n : Int) (c : Value) : Nat → Value := fun i => if i = 0 then .int .i64 o else if i = 1 then .int .i64 n else c
theorem box3 (o n : Int) (c : Value) : ∀ i, i < (#[.int .i64 o, .int .i64 n, c] : Array Value).size → (#[.int .i64 o, .int .i64 n, c] : Array Value)[i]? = some (boxF o n c i) := by
  intro i hi
  have hi' : i < 3 := hi
  rcases (by omega : i = 0 ∨ i = 1 ∨ i = 2) with rfl | rfl | rfl <;> rfl

/-- what holds on the way down -/
def URel (w : World) (a : Tr) (c : Value) (v : Value) (wr : World) : Prop :=
  ∃ (t : Tr) (ct : Value) (l : List Cd) (M : Addr → Option Value), Unw w a c t ct l ∧ wr.rowIs w.heap.size 37 3 (boxF t.op t.num ct) ∧ wr.rowIs (w.heap.size + 1) 37 3 (boxF 0 0 (.slice none 0 0)) ∧
    PMap embP wr (w.heap.size + 2) (fun x => ∃ s, LiesAt w (Pl w) x s ∧ szT t ≤ szT s) M ∧ wr.ownsRow (w.heap.size + 3) 37 3 v l.length (cdCells l) ∧ slLen v = l.length ∧ Below w.heap.size w wr

set_option maxRecDepth 100000 in
set_option maxHeartbeats 800000 in
theorem unwind_calls (a : Tr) (c : Value) (w : World) (hk : InP w a.kids c) (ha : I64 a.op ∧ I64 a.num) (hz : szT a ≤ 1099511627776) :
    Calls Try.prog 73 #[.agg #[.int .i64 a.op, .int .i64 a.num, c]] w fun e w' => ∃ (t : Tr) (ct : Value) (l : List Cd) (v : Value), e = .returned (.tuple #[.agg #[.int .i64 t.op, .int .i64 t.num, ct], v, .bool true]) ∧ Unw w a c t ct l ∧ ¬ (t.op = 4 ∧ t.kids.length = 2) ∧ CdRow w' w.heap.size l.reverse v ∧ Below w.heap.size w w' := by
  have HK : Hid (InP w a.kids c) := hk
  have HA : Hid (I64 a.op ∧ I64 a.num) := ha
  have hmm := @run_makeMap Try.prog
  obtain ⟨ad, cap, rfl, -, -, -⟩ := hk
  clear ha
  go_enter Try.func73, Try.ntmps73
  go_wp2_with fail
  clear hmm
  obtain ⟨iE, zE, hiE, hzE, hsE, hbE, hcE⟩ := infoE3
  have HE : Hid (Try.prog.info? 37 = some iE ∧ iE.zero = some zE ∧ iE.size = 3 ∧ iE.bytes = 40 ∧ zE.cells.size = 3) := ⟨hiE, hzE, hsE, hbE, hcE⟩
  clear hiE hzE hsE hbE hcE
  go_loopw [5] (fun v wr => URel w a (.slice ad a.kids.length cap) v wr) (fun v _ => szT a - slLen v)
  case atStart =>
    refine ⟨a, _, [], fun _ => none, Unw.here, ?_, ?_, ?_, ?_, rfl, ?_⟩
    · exact ((World.rowIs_alloc w #[.int .i64 a.op, .int .i64 a.num, .slice ad a.kids.length cap] 37 (boxF a.op a.num (.slice ad a.kids.length cap)) (box3 _ _ _)).alloc _).alloc _
    · have h := World.rowIs_alloc (w.alloc (.cells #[.int .i64 a.op, .int .i64 a.num, .slice ad a.kids.length cap] 37)) #[.int .i64 0, .int .i64 0, .slice none 0 0] 37 (boxF 0 0 (.slice none 0 0)) (box3 _ _ _)
      rw [Deep.nblk_alloc] at h
      exact h.alloc _
    · have h := PMap.made (emb := embP) ((w.alloc (.cells #[.int .i64 a.op, .int .i64 a.num, .slice ad a.kids.length cap] 37)).alloc (.cells #[.int .i64 0, .int .i64 0, .slice none 0 0] 37)) (fun x => ∃ s, LiesAt w (Pl w) x s ∧ szT a ≤ szT s)
      rw [Deep.nblk_alloc, Deep.nblk_alloc] at h
      exact h
    · exact World.ownsRow_nil _ _ _ _
    · exact (((Below.refl _ _).alloc (Nat.le_refl _) _).alloc (by simp) _).alloc (by simp; omega) _
  case round =>
    obtain ⟨t, ct, l, M, hu, hbox, hres, hmap, hown, hsl, hb⟩ := hrel
    have HRs : Hid (wr.rowIs (w.heap.size + 1) 37 3 (boxF 0 0 (.slice none 0 0))) := hres
    have HU : Hid (Unw w a (.slice ad a.kids.length cap) t ct l) := hu
    have HBx : Hid (wr.rowIs w.heap.size 37 3 (boxF t.op t.num ct)) := hbox
    have HB : Hid (Below w.heap.size w wr) := hb
    have HMp : Hid (PMap embP wr (w.heap.size + 2) (fun x => ∃ s, LiesAt w (Pl w) x s ∧ szT t ≤ szT s) M) := hmap
    have HO : Hid (wr.ownsRow (w.heap.size + 3) 37 3 u5 l.length (cdCells l)) := hown
    obtain ⟨hkt, hot, hnt, hlt, hsz⟩ := hu.on HK.out HA.out
    have c0 := hbox.cell (i := 0) (by omega)
    have c1 := hbox.cell (i := 1) (by omega)
    have c2 := hbox.cell (i := 2) (by omega)
    simp only [boxF, if_pos, if_neg, show (1 : Nat) ≠ 0 from by omega, show (2 : Nat) ≠ 0 from by omega, show (2 : Nat) ≠ 1 from by omega] at c0 c1 c2
    have fz := hbox.frozen
    clear hu hbox hb hmap hown hres
    obtain ⟨act, capt, rfl, hl1, hl2, -⟩ := id hkt
    unfold maxLen at hl2
    by_cases ho : t.op = 4
    · by_cases hlen : t.kids.length = 2
      · obtain ⟨f, x, hkk⟩ : ∃ f x, t.kids = [f, x] := by
          match hks : t.kids, hlen with
          | [f, x], _ => exact ⟨f, x, rfl⟩
        have HT : Hid (t.op = 4 ∧ t.kids = [f, x]) := ⟨ho, hkk⟩
        rw [hkk] at hkt
        obtain ⟨bl, off, cap', p, q, cf, u, v, r, e, -, -, hS, hrow, h0, h1, h2, h3, g0, g1, g2, g3⟩ := hkt.two
        simp only [Value.slice.injEq] at e
        obtain ⟨rfl, -, rfl⟩ := e
        obtain ⟨rfl, rfl, hfo, hfn, hkf⟩ := trOn_iff.1 h3
        obtain ⟨rfl, rfl, hxo, hxn, hkx⟩ := trOn_iff.1 g3
        obtain ⟨adf, capf, rfl, -, -, -⟩ := id hkf
        obtain ⟨adx, capx, rfl, -, -, -⟩ := id hkx
        have b0 := (HB.out.cell (p := ⟨bl, off, none⟩) hS.1).trans h0
        have b1 := (HB.out.cell (p := ⟨bl, off + 1, none⟩) hS.1).trans h1
        have b2 := (HB.out.cell (p := ⟨bl, off + 2, none⟩) hS.1).trans h2
        have b3 := (HB.out.cell (p := ⟨bl, off + 3, none⟩) hS.1).trans g0
        have b4 := (HB.out.cell (p := ⟨bl, off + 4, none⟩) hS.1).trans g1
        have b5 := (HB.out.cell (p := ⟨bl, off + 5, none⟩) hS.1).trans g2
        have HBx2 : Hid (wr.rowIs w.heap.size 37 3 (boxF t.op t.num (.slice (some ⟨bl, off, none⟩) 2 capt))) := by have := HBx.out; rw [hlen] at this; exact this
        rw [ho] at c0
        rw [hlen] at c2
        have hNf : LiesAt w (Pl w) ⟨bl, off, none⟩ f := by simpa using RowOn.liesAt (i := 0) (by simp) hS hrow
        have hpl : PlainAt wr ⟨bl, off, none⟩ := hNf.plain HB.out
        have hMn : M ⟨bl, off, none⟩ = none := by
          cases hM : M ⟨bl, off, none⟩ with
          | none => rfl
          | some y =>
            obtain ⟨s, hs, hle⟩ := HMp.out.key_of hM
            have := hs.uniq hNf
            subst this
            have e1 : szT t = szL [s, x] := by rw [szT_eq, hkk]
            simp only [szL] at e1
            omega
        have hft : szT f ≤ szT t := by
          have e1 : szT t = szL [f, x] := by rw [szT_eq, hkk]
          simp only [szL] at e1
          omega
        have HMp' : Hid (PMap embP wr (w.heap.size + 2) (fun x => ∃ s, LiesAt w (Pl w) x s ∧ szT f ≤ szT s) M) := HMp.out.keys fun y hy => by obtain ⟨s, hs, hle⟩ := hy; exact ⟨s, hs, by omega⟩
        have HN : Hid (Unw w a (.slice ad a.kids.length cap) f (.slice adf f.kids.length capf) (l ++ [(x, .int .i64 x.op, .int .i64 x.num, .slice adx x.kids.length capx)])) := by
          have h := HU.out
          rw [hlen] at h
          exact Unw.down h ho hkk rfl h2 g0 g1 g2
        have hsn := (HN.out.on HK.out HA.out).2.2.2.2
        simp only [List.length_append, List.length_cons, List.length_nil] at hsn
        clear hkt hrow h0 h1 h2 h3 g0 g1 g2 g3 ho hlen hkk
        have h1c : ∀ u ∈ [Value.int .i64 x.op, .int .i64 x.num, .slice adx x.kids.length capx], u.oneCell' = true := by
          intro u hu
          simp only [List.mem_cons, List.not_mem_nil, or_false] at hu
          rcases hu with rfl | rfl | rfl <;> rfl
        go_wp2_with (first
          | (at_lookup; refine wpList_look_p _ rfl _ _ 114 rfl 115 4 ptrK Try.underlying114 (.bool false) (zeroBool _) (w.heap.size + 2) _ M rfl HMp.out (fun y hy => by obtain ⟨s, hs, _⟩ := hy; exact hs.plain HB.out) ⟨bl, off, none⟩ rfl hpl ?_; rw [hMn])
          | (at_mapUpdate; refine wpList_store_p _ rfl _ _ _ 114 rfl 115 4 ptrK Try.underlying114 (w.heap.size + 2) _ M rfl HMp'.out (fun y hy => by obtain ⟨s, hs, _⟩ := hy; exact hs.plain HB.out) ⟨bl, off, none⟩ rfl hpl ⟨f, hNf, Nat.le_refl _⟩ (.bool true) rfl ?_; intro o' hp; obtain ⟨w1, hw1⟩ : ∃ w1, w1 = ({ wr with heap := wr.heap.setIfInBounds (w.heap.size + 2) o' } : World) := ⟨_, rfl⟩; rw [← hw1] at hp ⊢; have hX : ∀ k, k ≠ w.heap.size + 2 → w1.heap[k]? = wr.heap[k]? := (by intro k hk; rw [hw1]; exact set_other_block wr _ o' hk); have HZ1 : Hid (w1.heap.size = wr.heap.size) := (by rw [hw1]; exact set_size wr _ o'); have HP : Hid (PMap embP w1 (w.heap.size + 2) (fun x => ∃ s, LiesAt w (Pl w) x s ∧ szT f ≤ szT s) (pput M ⟨bl, off, none⟩ (.bool true))) := hp; have HB1 : Hid (Below w.heap.size w w1) := (by rw [hw1]; exact HB.out.trans (set_below wr _ o' (by omega))); have c2' := (World.cell?_of_block (a := ⟨w.heap.size, 2, none⟩) (hX _ (by show w.heap.size ≠ _; omega))).trans c2; have b0' := (World.cell?_of_block (a := ⟨bl, off, none⟩) (hX _ (by have := hS.1; show bl ≠ _; omega))).trans b0; have b1' := (World.cell?_of_block (a := ⟨bl, off + 1, none⟩) (hX _ (by have := hS.1; show bl ≠ _; omega))).trans b1; have b2' := (World.cell?_of_block (a := ⟨bl, off + 2, none⟩) (hX _ (by have := hS.1; show bl ≠ _; omega))).trans b2; have b3' := (World.cell?_of_block (a := ⟨bl, off + 3, none⟩) (hX _ (by have := hS.1; show bl ≠ _; omega))).trans b3; have b4' := (World.cell?_of_block (a := ⟨bl, off + 4, none⟩) (hX _ (by have := hS.1; show bl ≠ _; omega))).trans b4; have b5' := (World.cell?_of_block (a := ⟨bl, off + 5, none⟩) (hX _ (by have := hS.1; show bl ≠ _; omega))).trans b5; have HO1 : Hid (w1.ownsRow (w.heap.size + 3) 37 3 u5 l.length (cdCells l)) := own_keep HO.out (fun k hk _ => hX k (by omega)); have HRs1 : Hid (w1.rowIs (w.heap.size + 1) 37 3 (boxF 0 0 (.slice none 0 0))) := HRs.out.of_block (hX _ (by omega)); have HX1 : Hid (w1.rowIs w.heap.size 37 3 (boxF t.op t.num (.slice (some ⟨bl, off, none⟩) 2 capt))) := HBx2.out.of_block (hX _ (by omega)); clear hX hw1 hp c0 c1 c2 b0 b1 b2 b3 b4 b5 fz)
          | (at_builtin; refine wpList_append_own _ rfl _ _ 35 rfl (w.heap.size + 3) 37 iE zE 3 40 Try.underlying35 HE.out.1 HE.out.2.1 HE.out.2.2.1 HE.out.2.2.2.1 HE.out.2.2.2.2 (by decide) _ _ _ rfl (own_keep HO1.out (fun k _ hk => Deep.blk_alloc_lt _ _ k hk)) ⟨w1.heap.size, 0, none⟩ 1 1 [.int .i64 x.op, .int .i64 x.num, .slice adx x.kids.length capx] rfl rfl (news3 w1 _ _ _) h1c (by unfold maxLen; omega) (by omega) (by rw [Deep.nblk_alloc]; have := HP.out.lt; omega) ?_; intro v' w3 hown' hgrow hnil; have hXX : ∀ k, k < w.heap.size + 3 → w3.heap[k]? = w1.heap[k]? := (fun k hk => (hgrow.block k (by rw [Deep.nblk_alloc]; have := HP.out.lt; omega) (fun e => by have := own_block HO1.out e; omega)).trans (Deep.blk_alloc_lt _ _ k (by have := HP.out.lt; omega))); have HO3 : Hid (w3.ownsRow (w.heap.size + 3) 37 3 v' (l.length + 1) (cdCells l ++ [.int .i64 x.op, .int .i64 x.num, .slice adx x.kids.length capx])) := hown'; have HRs3 : Hid (w3.rowIs (w.heap.size + 1) 37 3 (boxF 0 0 (.slice none 0 0))) := HRs1.out.of_block (hXX _ (by omega)); have HX3 : Hid (w3.rowIs w.heap.size 37 3 (boxF t.op t.num (.slice (some ⟨bl, off, none⟩) 2 capt))) := HX1.out.of_block (hXX _ (by omega)); have HP3 : Hid (PMap embP w3 (w.heap.size + 2) (fun x => ∃ s, LiesAt w (Pl w) x s ∧ szT f ≤ szT s) (pput M ⟨bl, off, none⟩ (.bool true))) := HP.out.keep (hXX _ (by omega)); have HB3 : Hid (Below w.heap.size w w3) := (by have hb1 := HB1.out; exact ⟨by rw [hgrow.os]; exact hb1.os, by rw [hgrow.tape]; exact hb1.tape, by rw [hgrow.output]; exact hb1.output, Nat.le_trans hb1.size (by have := hgrow.size; rw [Deep.nblk_alloc] at this; omega), fun k hk => (hXX k (by omega)).trans (hb1.block k hk)⟩); have d0 := (World.cell?_of_block (a := ⟨bl, off, none⟩) (hXX _ (by have := hS.1; show bl < _; omega))).trans b0'; have d1 := (World.cell?_of_block (a := ⟨bl, off + 1, none⟩) (hXX _ (by have := hS.1; show bl < _; omega))).trans b1'; have d2 := (World.cell?_of_block (a := ⟨bl, off + 2, none⟩) (hXX _ (by have := hS.1; show bl < _; omega))).trans b2'; have e0 := HX3.out.cell (i := 0) (by omega); have e1 := HX3.out.cell (i := 1) (by omega); have e2 := HX3.out.cell (i := 2) (by omega); simp only [boxF, if_pos, if_neg, show (1 : Nat) ≠ 0 from by omega, show (2 : Nat) ≠ 0 from by omega, show (2 : Nat) ≠ 1 from by omega] at e0 e1 e2; have ef := HX3.out.frozen; have hsz3 : Hid (w.heap.size + 3 ≤ w3.heap.size) := (by have := HP3.out.lt; unfold Hid; omega); clear hXX hown' hgrow hnil c2' b0' b1' b2' b3' b4' b5')
          | go_in)
        have keep : ∀ k, k ≠ w.heap.size → (((w3.setCell ⟨w.heap.size, 0, none⟩ (.int .i64 f.op)).setCell ⟨w.heap.size, 1, none⟩ (.int .i64 f.num)).setCell ⟨w.heap.size, 2, none⟩ (.slice adf f.kids.length capf)).heap[k]? = w3.heap[k]? := fun k hk =>
          ((Below.heap_setCell _ _ _ _ hk).trans (Below.heap_setCell _ _ _ _ hk)).trans (Below.heap_setCell _ _ _ _ hk)
        have hsv : slLen v' = l.length + 1 := by
          rcases HO3.out.2 with ⟨-, h⟩ | ⟨g, c, cur, rfl, -⟩
          · omega
          · rfl
        refine ⟨⟨f, _, _, _, HN.out, ?_, HRs3.out.of_block (keep _ (by omega)), HP3.out.keep (keep _ (by omega)), ?_, ?_, ?_⟩, by omega⟩
        · refine (((HX3.out.set 0 _).set 1 _).set 2 _).congr fun i hi => ?_
          rcases (by omega : i = 0 ∨ i = 1 ∨ i = 2) with rfl | rfl | rfl <;> simp [boxF]
        · have h := own_keep HO3.out (fun k hk _ => keep k (by omega))
          simpa [cdCells] using h
        · simpa using hsv
        · exact ((HB3.out.setCell (by simp) _).setCell (by simp) _).setCell (by simp) _
      · have hstop : Hid (¬ (t.op = 4 ∧ t.kids.length = 2)) := fun h => hlen h.2
        have t2 : ((t.kids.length : Int) == 2) = false := by simp; omega
        rw [ho] at c0
        have hlr : ∀ d ∈ l, ∃ p q ad n c, d.2.1 = .int .i64 p ∧ d.2.2.1 = .int .i64 q ∧ d.2.2.2 = .slice ad n c := fun d hd => by
          obtain ⟨e1, e2, -, -, ad', c', e3, -⟩ := trOn_iff.1 (hlt d hd)
          exact ⟨_, _, _, _, _, e1, e2, e3⟩
        have hlo : w.heap.size + 3 ≤ wr.heap.size := by have := HMp.out.lt; omega
        go_wp2_with (go_at_call 88; refine (rev_cd (w.heap.size + 3) l u5 _ ?_ hlr ?_).mono ?_; exact own_cd HO.out; exact hlo; rintro e w4 ⟨rfl, hcd, hb4⟩; have HCD : Hid (CdRow w4 (w.heap.size + 3) l.reverse u5) := hcd; have HB4 : Hid (Below w.heap.size w w4) := HB.out.trans (hb4.mono (by omega)); have hn4 : w.heap.size + 3 ≤ w4.heap.size := (by have := hb4.size; omega); have d0 := (hb4.cell (p := ⟨w.heap.size, 0, none⟩) (by show w.heap.size < _; omega)).trans c0; have d1 := (hb4.cell (p := ⟨w.heap.size, 1, none⟩) (by show w.heap.size < _; omega)).trans c1; have d2 := (hb4.cell (p := ⟨w.heap.size, 2, none⟩) (by show w.heap.size < _; omega)).trans c2; have HR4 : Hid (w4.rowIs (w.heap.size + 1) 37 3 (boxF 0 0 (.slice none 0 0))) := HRs.out.of_block (hb4.block _ (by omega)); have r0 := HR4.out.cell (i := 0) (by omega); have r1 := HR4.out.cell (i := 1) (by omega); have r2 := HR4.out.cell (i := 2) (by omega); simp only [boxF, if_pos, if_neg, show (1 : Nat) ≠ 0 from by omega, show (2 : Nat) ≠ 0 from by omega, show (2 : Nat) ≠ 1 from by omega] at r0 r1 r2; have rf := HR4.out.frozen; clear hcd hb4 c0 c1 c2 fz)
        refine bodyPost_ret (v := .tuple #[.agg #[.int .i64 4, .int .i64 t.num, .slice act t.kids.length capt], u5, .bool true]) (by simp [results, Try.results73, go_sem, r0, r1, r2, rf]) rfl ⟨t, _, l, u5, by rw [ho], HU.out, hstop.out, ?_, ?_⟩
        · exact HCD.out.keep (by omega) fun k hk _ => ((Below.heap_setCell _ _ _ _ (by show k ≠ w.heap.size + 1; omega)).trans (Below.heap_setCell _ _ _ _ (by show k ≠ w.heap.size + 1; omega))).trans (Below.heap_setCell _ _ _ _ (by show k ≠ w.heap.size + 1; omega))
        · exact ((HB4.out.setCell (by simp) _).setCell (by simp) _).setCell (by simp) _
    · have hstop : Hid (¬ (t.op = 4 ∧ t.kids.length = 2)) := fun h => ho h.1
      have t1 : (t.op == 4) = false := by simpa using ho
      have hlr : ∀ d ∈ l, ∃ p q ad n c, d.2.1 = .int .i64 p ∧ d.2.2.1 = .int .i64 q ∧ d.2.2.2 = .slice ad n c := fun d hd => by
        obtain ⟨e1, e2, -, -, ad', c', e3, -⟩ := trOn_iff.1 (hlt d hd)
        exact ⟨_, _, _, _, _, e1, e2, e3⟩
      have hlo : w.heap.size + 3 ≤ wr.heap.size := by have := HMp.out.lt; omega
      go_wp2_with (go_at_call 88; refine (rev_cd (w.heap.size + 3) l u5 _ ?_ hlr ?_).mono ?_; exact own_cd HO.out; exact hlo; rintro e w4 ⟨rfl, hcd, hb4⟩; have HCD : Hid (CdRow w4 (w.heap.size + 3) l.reverse u5) := hcd; have HB4 : Hid (Below w.heap.size w w4) := HB.out.trans (hb4.mono (by omega)); have hn4 : w.heap.size + 3 ≤ w4.heap.size := (by have := hb4.size; omega); have d0 := (hb4.cell (p := ⟨w.heap.size, 0, none⟩) (by show w.heap.size < _; omega)).trans c0; have d1 := (hb4.cell (p := ⟨w.heap.size, 1, none⟩) (by show w.heap.size < _; omega)).trans c1; have d2 := (hb4.cell (p := ⟨w.heap.size, 2, none⟩) (by show w.heap.size < _; omega)).trans c2; have HR4 : Hid (w4.rowIs (w.heap.size + 1) 37 3 (boxF 0 0 (.slice none 0 0))) := HRs.out.of_block (hb4.block _ (by omega)); have r0 := HR4.out.cell (i := 0) (by omega); have r1 := HR4.out.cell (i := 1) (by omega); have r2 := HR4.out.cell (i := 2) (by omega); simp only [boxF, if_pos, if_neg, show (1 : Nat) ≠ 0 from by omega, show (2 : Nat) ≠ 0 from by omega, show (2 : Nat) ≠ 1 from by omega] at r0 r1 r2; have rf := HR4.out.frozen; clear hcd hb4 c0 c1 c2 fz)
      refine bodyPost_ret (v := .tuple #[.agg #[.int .i64 t.op, .int .i64 t.num, .slice act t.kids.length capt], u5, .bool true]) (by simp [results, Try.results73, go_sem, r0, r1, r2, rf]) rfl ⟨t, _, l, u5, rfl, HU.out, hstop.out, ?_, ?_⟩
      · exact HCD.out.keep (by omega) fun k hk _ => ((Below.heap_setCell _ _ _ _ (by show k ≠ w.heap.size + 1; omega)).trans (Below.heap_setCell _ _ _ _ (by show k ≠ w.heap.size + 1; omega))).trans (Below.heap_setCell _ _ _ _ (by show k ≠ w.heap.size + 1; omega))
      · exact ((HB4.out.setCell (by simp) _).setCell (by simp) _).setCell (by simp) _
end Go.Proofs.Ythknbafcnobgdaa
/-
  THE PROGRAM's ExprValid (opOf, nodeOf, the four kinds' fits, nodesLeft, ExprValid): which trees it takes for valid; nothing that was there is changed.
-/
namespace Go.Proofs.Ythknbafcnobgdaa
set_option linter.unusedVariables false
set_option linter.unusedSimpArgs false
open Go.RowKit

/-- how nodes of a kind with operands are written -/
def opKids (op : Int) : Int := if op = 4 then 2 else if op = 5 then 2 else if op = 6 then 1 else if op = 7 then 1 else if op = 8 then 2 else if op = 9 then 2 else if op = 10 then 3 else 0
def opMarks (op : Int) : ByteArray := if op = 4 then ⟨#[40, 32, 41]⟩ else if op = 5 then ⟨#[60, 44, 62]⟩ else if op = 6 then ⟨#[126]⟩ else if op = 7 then ⟨#[94]⟩ else if op = 8 then ⟨#[40, 43, 41]⟩ else if op = 9 then ⟨#[40, 45, 41]⟩ else if op = 10 then ⟨#[91, 63, 58, 93]⟩ else ⟨#[]⟩
def opOk (op : Int) : Bool := decide (4 ≤ op ∧ op ≤ 10)

/-- opOf has handed back the row of a kind -/
def OpRow (op : Int) (w : World) (e : Ending) (w' : World) : Prop := e = .returned (.tuple #[.agg #[.int .i64 (opKids op), .string (opMarks op)], .bool (opOk op)]) ∧ Below w.heap.size w w'

theorem opRow_4 {op : Int} (h : (op == 4) = true) : opKids op = 2 ∧ opMarks op = ⟨#[40, 32, 41]⟩ ∧ opOk op = true := by
  have e : op = 4 := by simpa using h
  subst e
  exact ⟨rfl, rfl, rfl⟩
theorem opRow_5 {op : Int} (h : (op == 5) = true) : opKids op = 2 ∧ opMarks op = ⟨#[60, 44, 62]⟩ ∧ opOk op = true := by
  have e : op = 5 := by simpa using h
  subst e
  exact ⟨rfl, rfl, rfl⟩
theorem opRow_6 {op : Int} (h : (op == 6) = true) : opKids op = 1 ∧ opMarks op = ⟨#[126]⟩ ∧ opOk op = true := by
  have e : op = 6 := by simpa using h
  subst e
  exact ⟨rfl, rfl, rfl⟩
theorem opRow_7 {op : Int} (h : (op == 7) = true) : opKids op = 1 ∧ opMarks op = ⟨#[94]⟩ ∧ opOk op = true := by
  have e : op = 7 := by simpa using h
  subst e
  exact ⟨rfl, rfl, rfl⟩
theorem opRow_8 {op : Int} (h : (op == 8) = true) : opKids op = 2 ∧ opMarks op = ⟨#[40, 43, 41]⟩ ∧ opOk op = true := by
  have e : op = 8 := by simpa using h
  subst e
  exact ⟨rfl, rfl, rfl⟩
theorem opRow_9 {op : Int} (h : (op == 9) = true) : opKids op = 2 ∧ opMarks op = ⟨#[40, 45, 41]⟩ ∧ opOk op = true := by
  have e : op = 9 := by simpa using h
  subst e
  exact ⟨rfl, rfl, rfl⟩
theorem opRow_10 {op : Int} (h : (op == 10) = true) : opKids op = 3 ∧ opMarks op = ⟨#[91, 63, 58, 93]⟩ ∧ opOk op = true := by
  have e : op = 10 := by simpa using h
  subst e
  exact ⟨rfl, rfl, rfl⟩
theorem opRow_no {op : Int} (h4 : (op == 4) = false) (h5 : (op == 5) = false) (h6 : (op == 6) = false) (h7 : (op == 7) = false) (h8 : (op == 8) = false) (h9 : (op == 9) = false) (h10 : (op == 10) = false) : opKids op = 0 ∧ opMarks op = ⟨#[]⟩ ∧ opOk op = false := by
  simp only [beq_eq_false_iff_ne] at *
  refine ⟨?_, ?_, ?_⟩
  · unfold opKids; rw [if_neg h4, if_neg h5, if_neg h6, if_neg h7, if_neg h8, if_neg h9, if_neg h10]
  · unfold opMarks; rw [if_neg h4, if_neg h5, if_neg h6, if_neg h7, if_neg h8, if_neg h9, if_neg h10]
  · unfold opOk; rw [decide_eq_false]; omega

set_option maxHeartbeats 400000 in
theorem opOf_calls (op : Int) (w : World) : Calls Try.prog 93 #[.int .i64 op] w (OpRow op w) := by
  go_enter Try.func93, Try.ntmps93
  go_wp2_with fail
  all_goals first
    | (rename (op == 4) = true => ht; obtain ⟨e1, e2, e3⟩ := opRow_4 ht; refine bodyPost_ret (v := .tuple #[.agg #[.int .i64 2, .string ⟨#[40, 32, 41]⟩], .bool true]) (by simp [results, Try.results93, go_sem]) rfl ⟨by rw [e1, e2, e3], box_below _ _⟩)
    | (rename (op == 5) = true => ht; obtain ⟨e1, e2, e3⟩ := opRow_5 ht; refine bodyPost_ret (v := .tuple #[.agg #[.int .i64 2, .string ⟨#[60, 44, 62]⟩], .bool true]) (by simp [results, Try.results93, go_sem]) rfl ⟨by rw [e1, e2, e3], box_below _ _⟩)
    | (rename (op == 6) = true => ht; obtain ⟨e1, e2, e3⟩ := opRow_6 ht; refine bodyPost_ret (v := .tuple #[.agg #[.int .i64 1, .string ⟨#[126]⟩], .bool true]) (by simp [results, Try.results93, go_sem]) rfl ⟨by rw [e1, e2, e3], box_below _ _⟩)
    | (rename (op == 7) = true => ht; obtain ⟨e1, e2, e3⟩ := opRow_7 ht; refine bodyPost_ret (v := .tuple #[.agg #[.int .i64 1, .string ⟨#[94]⟩], .bool true]) (by simp [results, Try.results93, go_sem]) rfl ⟨by rw [e1, e2, e3], box_below _ _⟩)
    | (rename (op == 8) = true => ht; obtain ⟨e1, e2, e3⟩ := opRow_8 ht; refine bodyPost_ret (v := .tuple #[.agg #[.int .i64 2, .string ⟨#[40, 43, 41]⟩], .bool true]) (by simp [results, Try.results93, go_sem]) rfl ⟨by rw [e1, e2, e3], box_below _ _⟩)
    | (rename (op == 9) = true => ht; obtain ⟨e1, e2, e3⟩ := opRow_9 ht; refine bodyPost_ret (v := .tuple #[.agg #[.int .i64 2, .string ⟨#[40, 45, 41]⟩], .bool true]) (by simp [results, Try.results93, go_sem]) rfl ⟨by rw [e1, e2, e3], box_below _ _⟩)
    | (rename (op == 10) = true => ht; obtain ⟨e1, e2, e3⟩ := opRow_10 ht; refine bodyPost_ret (v := .tuple #[.agg #[.int .i64 3, .string ⟨#[91, 63, 58, 93]⟩], .bool true]) (by simp [results, Try.results93, go_sem]) rfl ⟨by rw [e1, e2, e3], box_below _ _⟩)
    | (rename (op == 4) = false => h4; rename (op == 5) = false => h5; rename (op == 6) = false => h6; rename (op == 7) = false => h7; rename (op == 8) = false => h8; rename (op == 9) = false => h9; rename (op == 10) = false => h10; obtain ⟨e1, e2, e3⟩ := opRow_no h4 h5 h6 h7 h8 h9 h10; refine bodyPost_ret (v := .tuple #[.agg #[.int .i64 0, .string ⟨#[]⟩], .bool false]) (by simp [results, Try.results93, go_sem]) rfl ⟨by rw [e1, e2, e3], box_below _ _⟩)

set_option maxHeartbeats 400000 in
theorem nodeOf_1 (n : Int) (len : Nat) (w : World) : Calls Try.prog 92 #[.int .i64 1, .int .i64 n, .int .i64 (len : Int)] w fun e w' => e = .returned (.tuple #[.iface 133 (.int .i64 n), .bool ((len : Int) == 0)]) ∧ Below w.heap.size w w' := by
  go_enter Try.func92, Try.ntmps92
  go_wp2_with fail
  go_ret2
  exact ⟨rfl, Below.refl _ _⟩

set_option maxHeartbeats 400000 in
theorem nodeOf_2 (n : Int) (len : Nat) (w : World) : Calls Try.prog 92 #[.int .i64 2, .int .i64 n, .int .i64 (len : Int)] w fun e w' => e = .returned (.tuple #[.iface 134 (.int .i64 n), .bool ((len : Int) == 0)]) ∧ Below w.heap.size w w' := by
  go_enter Try.func92, Try.ntmps92
  go_wp2_with fail
  go_ret2
  exact ⟨rfl, Below.refl _ _⟩

set_option maxHeartbeats 400000 in
theorem nodeOf_3 (n : Int) (len : Nat) (w : World) : Calls Try.prog 92 #[.int .i64 3, .int .i64 n, .int .i64 (len : Int)] w fun e w' => e = .returned (.tuple #[.iface 135 (.int .i64 n), .bool ((len : Int) == 0)]) ∧ Below w.heap.size w w' := by
  go_enter Try.func92, Try.ntmps92
  go_wp2_with fail
  go_ret2
  exact ⟨rfl, Below.refl _ _⟩

theorem ret_node {v : Value} {a b : Bool} (h : a = b) : Ending.returned (.tuple #[v, .bool a]) = .returned (.tuple #[v, .bool b]) := by rw [h]
/-- nodeOf has handed back a node with operands -/
def OpNode (op : Int) (b : Bool) (w : World) (e : Ending) (w' : World) : Prop := e = .returned (.tuple #[.iface 129 (.agg #[.int .i64 (opKids op), .string (opMarks op)]), .bool b]) ∧ Below w.heap.size w w'
theorem opKids_range (op : Int) : 0 ≤ opKids op ∧ opKids op ≤ 3 := by
  unfold opKids
  repeat' split
  all_goals omega

set_option maxHeartbeats 800000 in
theorem nodeOf_op (op n : Int) (len : Nat) (w : World) (t1 : (op == 1) = false) (t2 : (op == 2) = false) (t3 : (op == 3) = false) :
    Calls Try.prog 92 #[.int .i64 op, .int .i64 n, .int .i64 (len : Int)] w (OpNode op (opOk op && ((n == 0) && ((len : Int) == opKids op))) w) := by
  have hkr := opKids_range op
  go_enter Try.func92, Try.ntmps92
  go_wp2_with fail
  refine (opOf_calls op _).mono ?_
  rintro e w1 ⟨rfl, hb⟩
  have HB : Hid (Below w.heap.size w w1) := hb
  have hle : w.heap.size ≤ w1.heap.size := hb.size
  clear hb
  cases hok : opOk op with
  | false =>
    have HV : Hid ((opOk op && ((n == 0) && ((len : Int) == opKids op))) = false) := by simp [Hid, hok]
    go_wp2_with fail
    have k3 := cell_regrown (box_cell w1 #[.int .i64 (opKids op), .string (opMarks op)] 129 0 _ rfl)
    have k4 := cell_regrown (box_cell w1 #[.int .i64 (opKids op), .string (opMarks op)] 129 1 _ rfl)
    refine wp_region_quiet_below (by kernel_rfl) (by kernel_rfl) ?_
    repeat (any_goals (first | go_big_quiet_step (fail) | quiet_step (fail)))
    refine wpQuiet_nil ?_
    intro _ hw'
    obtain ⟨⟨dq, osq⟩, hw''⟩ := hw'
    subst hw''
    clear k3 k4
    go_wp2_with fail
    go_ret2
    exact ⟨ret_node HV.out.symm, HB.out.trans ((box_below _ _).trans ((below_regrown _ _ _).mono (by rw [Deep.nblk_alloc]; omega)) |>.mono hle)⟩
  | true =>
    by_cases hn : n = 0
    · subst hn
      by_cases hl : (len : Int) = opKids op
      · have hl' : ((len : Int) == opKids op) = true := by simpa using hl
        have HV : Hid ((opOk op && (((0 : Int) == 0) && ((len : Int) == opKids op))) = true) := by simp [Hid, hok, hl']
        clear hl
        go_wp2_with fail
        have k3 := cell_regrown (box_cell w1 #[.int .i64 (opKids op), .string (opMarks op)] 129 0 _ rfl)
        have k4 := cell_regrown (box_cell w1 #[.int .i64 (opKids op), .string (opMarks op)] 129 1 _ rfl)
        refine wp_region_quiet_below (by kernel_rfl) (by kernel_rfl) ?_
        repeat (any_goals (first | go_big_quiet_step (fail) | quiet_step (fail)))
        refine wpQuiet_nil ?_
        intro _ hw'
        obtain ⟨⟨dq, osq⟩, hw''⟩ := hw'
        subst hw''
        clear k3 k4
        go_wp2_with fail
        go_ret2
        exact ⟨ret_node HV.out.symm, HB.out.trans ((box_below _ _).trans ((below_regrown _ _ _).mono (by rw [Deep.nblk_alloc]; omega)) |>.mono hle)⟩
      · have hl' : ((len : Int) == opKids op) = false := by simpa using hl
        have HV : Hid ((opOk op && (((0 : Int) == 0) && ((len : Int) == opKids op))) = false) := by simp [Hid, hok, hl']
        clear hl
        go_wp2_with fail
        have k3 := cell_regrown (box_cell w1 #[.int .i64 (opKids op), .string (opMarks op)] 129 0 _ rfl)
        have k4 := cell_regrown (box_cell w1 #[.int .i64 (opKids op), .string (opMarks op)] 129 1 _ rfl)
        refine wp_region_quiet_below (by kernel_rfl) (by kernel_rfl) ?_
        repeat (any_goals (first | go_big_quiet_step (fail) | quiet_step (fail)))
        refine wpQuiet_nil ?_
        intro _ hw'
        obtain ⟨⟨dq, osq⟩, hw''⟩ := hw'
        subst hw''
        clear k3 k4
        go_wp2_with fail
        go_ret2
        exact ⟨ret_node HV.out.symm, HB.out.trans ((box_below _ _).trans ((below_regrown _ _ _).mono (by rw [Deep.nblk_alloc]; omega)) |>.mono hle)⟩
    · have hn' : (n == 0) = false := by simpa using hn
      have HV : Hid ((opOk op && ((n == 0) && ((len : Int) == opKids op))) = false) := by simp [Hid, hok, hn']
      go_wp2_with fail
      have k3 := cell_regrown (box_cell w1 #[.int .i64 (opKids op), .string (opMarks op)] 129 0 _ rfl)
      have k4 := cell_regrown (box_cell w1 #[.int .i64 (opKids op), .string (opMarks op)] 129 1 _ rfl)
      refine wp_region_quiet_below (by kernel_rfl) (by kernel_rfl) ?_
      repeat (any_goals (first | go_big_quiet_step (fail) | quiet_step (fail)))
      refine wpQuiet_nil ?_
      intro _ hw'
      obtain ⟨⟨dq, osq⟩, hw''⟩ := hw'
      subst hw''
      clear k3 k4
      go_wp2_with fail
      go_ret2
      exact ⟨ret_node HV.out.symm, HB.out.trans ((box_below _ _).trans ((below_regrown _ _ _).mono (by rw [Deep.nblk_alloc]; omega)) |>.mono hle)⟩
end Go.Proofs.Ythknbafcnobgdaa
/-
  THE PROGRAM's operands, heightAfter AND StackOf.
-/
namespace Go.Proofs.Ythknbafcnobgdaa
set_option linter.unusedVariables false
set_option linter.unusedSimpArgs false
open Go.RowKit

theorem opKids_ar {op : Int} (h1 : op ≠ 1) (h2 : op ≠ 2) (h3 : op ≠ 3) : opKids op = (arN op : Int) ∧ opOk op = decide (0 ≤ arity op) := by
  unfold opOk opKids arN arity
  rw [if_neg (by omega : ¬ (op = 1 ∨ op = 2 ∨ op = 3))]
  by_cases e4 : op = 4
  · subst e4; simp
  by_cases e5 : op = 5
  · subst e5; simp
  by_cases e6 : op = 6
  · subst e6; simp
  by_cases e7 : op = 7
  · subst e7; simp
  by_cases e8 : op = 8
  · subst e8; simp
  by_cases e9 : op = 9
  · subst e9; simp
  by_cases e10 : op = 10
  · subst e10; simp
  simp only [e4, e5, e6, e7, e8, e9, e10, or_self, if_false, ↓reduceIte]
  refine ⟨by simp, ?_⟩
  simp
  omega

set_option maxHeartbeats 400000 in
theorem operands_calls (o n : Int) (w : World) : Calls Try.prog 87 #[.agg #[.int .i64 o, .int .i64 n]] w fun e w' => e = .returned (.tuple #[.int .i64 (arN o : Int), .bool (decide (0 ≤ arity o))]) ∧ Below w.heap.size w w' := by
  by_cases h1 : o = 1
  · subst h1
    go_enter Try.func87, Try.ntmps87
    go_wp2_with fail
    go_ret2
    exact ⟨rfl, box_below _ _⟩
  by_cases h2 : o = 2
  · subst h2
    go_enter Try.func87, Try.ntmps87
    go_wp2_with fail
    go_ret2
    exact ⟨rfl, box_below _ _⟩
  by_cases h3 : o = 3
  · subst h3
    go_enter Try.func87, Try.ntmps87
    go_wp2_with fail
    go_ret2
    exact ⟨rfl, box_below _ _⟩
  obtain ⟨e1, e2⟩ := opKids_ar h1 h2 h3
  have HE : Hid (opKids o = (arN o : Int) ∧ opOk o = decide (0 ≤ arity o)) := ⟨e1, e2⟩
  have h1' : (o == 1) = false := by simpa using h1
  have h2' : (o == 2) = false := by simpa using h2
  have h3' : (o == 3) = false := by simpa using h3
  clear h1 h2 h3 e1 e2
  go_enter Try.func87, Try.ntmps87
  go_wp2_with fail
  refine (opOf_calls o _).mono ?_
  rintro e w1 ⟨rfl, hb⟩
  have HB : Hid (Below w.heap.size w w1) := (box_below _ _).trans (hb.mono (by rw [Deep.nblk_alloc]; omega))
  clear hb
  go_wp2_with fail
  go_ret2
  rw [HE.out.1, HE.out.2]
  exact ⟨rfl, HB.out.trans ((box_below _ _).mono HB.out.size)⟩

set_option maxHeartbeats 400000 in
theorem height_ok (o n : Int) (h : Nat) (w : World) (h1 : 0 ≤ arity o) (h2 : arN o ≤ h) (hm : h ≤ 4611686018427387904) : Calls Try.prog 71 #[.agg #[.int .i64 o, .int .i64 n], .int .i64 (h : Int)] w fun e w' => e = .returned (.tuple #[.int .i64 ((h - arN o + 1 : Nat) : Int), .bool true]) ∧ Below w.heap.size w w' := by
  have HV : Hid (((h - arN o + 1 : Nat) : Int) = (h : Int) - arN o + 1) := by unfold Hid; omega
  have hd : decide (0 ≤ arity o) = true := decide_eq_true h1
  have ha : arN o ≤ 3 := by rcases arity_cases o with e | ⟨-, -, e⟩ <;> omega
  have hq := operands_calls o n (w.alloc (.cells #[.int .i64 o, .int .i64 n] 66))
  rw [hd] at hq
  have hle : (arN o : Int) ≤ h := by omega
  clear hd h1
  go_enter Try.func71, Try.ntmps71
  go_wp2_with fail
  refine hq.mono ?_
  rintro e w1 ⟨rfl, hb⟩
  have HB : Hid (Below w.heap.size w w1) := (box_below _ _).trans (hb.mono (by rw [Deep.nblk_alloc]; omega))
  clear hb
  go_wp2_with fail
  go_ret2
  rw [HV.out]
  exact ⟨rfl, HB.out⟩
set_option maxHeartbeats 400000 in
theorem height_no (o n : Int) (h : Nat) (w : World) (h1 : ¬ (0 ≤ arity o ∧ arN o ≤ h)) (hm : h ≤ 4611686018427387904) : Calls Try.prog 71 #[.agg #[.int .i64 o, .int .i64 n], .int .i64 (h : Int)] w fun e w' => (∃ z : Int, e = .returned (.tuple #[.int .i64 z, .bool false])) ∧ Below w.heap.size w w' := by
  have ha : arN o ≤ 3 := by
    rcases arity_cases o with e | ⟨-, -, e⟩
    · unfold arN; rw [e]; decide
    · exact e
  have hq := operands_calls o n (w.alloc (.cells #[.int .i64 o, .int .i64 n] 66))
  by_cases h2 : 0 ≤ arity o
  · have hd : decide (0 ≤ arity o) = true := decide_eq_true h2
    rw [hd] at hq
    have HLE : Hid (decide (arN o ≤ h) = false) := decide_eq_false (by omega)
    clear hd h1 h2
    go_enter Try.func71, Try.ntmps71
    go_wp2_with fail
    refine hq.mono ?_
    rintro e w1 ⟨rfl, hb⟩
    have HB : Hid (Below w.heap.size w w1) := (box_below _ _).trans (hb.mono (by rw [Deep.nblk_alloc]; omega))
    clear hb
    go_wp2_with fail
    go_ret2
    exact ⟨⟨(h : Int) - (arN o : Int) + 1, by rw [HLE.out]; rfl⟩, HB.out⟩
  · have hd : decide (0 ≤ arity o) = false := decide_eq_false h2
    rw [hd] at hq
    clear hd h1 h2
    go_enter Try.func71, Try.ntmps71
    go_wp2_with fail
    refine hq.mono ?_
    rintro e w1 ⟨rfl, hb⟩
    have HB : Hid (Below w.heap.size w w1) := (box_below _ _).trans (hb.mono (by rw [Deep.nblk_alloc]; omega))
    clear hb
    go_wp2_with fail
    go_ret2
    exact ⟨⟨_, rfl⟩, HB.out⟩

theorem dsC_take {cs : List Ins} {ds : List Nat} {k : Nat} (h : dsC [] (cs.take k) = some ds) (hk : k ≤ cs.length) : topH ds ≤ k ∧ ds.length = k := by
  have h1 := height_le h
  have h2 := dsC_len h
  rw [List.length_take, Nat.min_eq_left hk] at h1 h2
  simp [topH] at h1 h2 ⊢
  omega
theorem dsC_some {cs : List Ins} {ds : List Nat} {k : Nat} (h : dsC [] (cs.take k) = some ds) (hk : k < cs.length) (h1 : 0 ≤ arity cs[k].op) (h2 : arN cs[k].op ≤ topH ds) : dsC [] (cs.take (k + 1)) = some (ds ++ [topH ds - arN cs[k].op + 1]) := by
  rw [dsC_succ _ _ _ hk, h]
  simp [dstp, hstp, h1, h2]
theorem dsC_no {cs : List Ins} {ds : List Nat} {k : Nat} (h : dsC [] (cs.take k) = some ds) (hk : k < cs.length) (h1 : ¬ (0 ≤ arity cs[k].op ∧ arN cs[k].op ≤ topH ds)) : dsC [] cs = none := by
  refine dsC_stop (k := k + 1) ?_
  rw [dsC_succ _ _ _ hk, h]
  simp [dstp, hstp, h1]

set_option maxRecDepth 100000 in
set_option maxHeartbeats 1600000 in
theorem implStack_calls (cs : List Ins) (c : Value) (w : World) (hk : InsIn w cs c) (hl : cs.length ≤ 1048576) : Calls Try.prog 36 #[c] w fun e w' => e = .returned (.int .i64 (stackO cs : Int)) ∧ Below w.heap.size w w' := by
  have HK : Hid (InsIn w cs c) := hk
  obtain ⟨ad, cap, rfl, -, -, -⟩ := hk
  go_enter Try.func36, Try.ntmps36
  go_wp2_with fail
  go_loopw [3, 4, 10] (fun h m i wr => ∃ (k : Nat) (ds : List Nat), k ≤ cs.length ∧ i = .int .i64 k ∧ Hid (dsC [] (cs.take k) = some ds) ∧ h = .int .i64 (topH ds : Int) ∧ m = .int .i64 (mxL ds : Int) ∧ Below w.heap.size w wr) (fun _ _ i _ => cs.length - (intOf i).toNat)
  case atStart => exact ⟨0, [], Nat.zero_le _, rfl, rfl, rfl, rfl, Below.refl _ _⟩
  case round =>
    obtain ⟨k, ds, hk, rfl, HD, rfl, rfl, hb⟩ := hrel
    have htk := (dsC_take HD.out hk).1
    by_cases hlt : k < cs.length
    · obtain ⟨bl, off, rfl, -, c0, c1⟩ := (HK.out.next hb).at k hlt
      have HB : Hid (Below w.heap.size w wr) := hb
      clear hb
      by_cases hok : 0 ≤ arity cs[k].op ∧ arN cs[k].op ≤ topH ds
      · have HN := mkHid (dsC_some HD.out hlt hok.1 hok.2)
        obtain ⟨hok1, hok2⟩ := hok
        have hq := height_ok cs[k].op cs[k].num (topH ds) (wr.alloc (.cells #[.int .i64 cs[k].op, .int .i64 cs[k].num] 66)) hok1 hok2 (by omega)
        have HM := mkHid (mxL_snoc ds (topH ds - arN cs[k].op + 1))
        have HT := mkHid (topH_snoc ds (topH ds - arN cs[k].op + 1))
        clear hok1 hok2
        obtain ⟨h', hh'⟩ : ∃ h' : Nat, h' = topH ds - arN cs[k].op + 1 := ⟨_, rfl⟩
        rw [← hh'] at hq HN HM HT
        clear hh'
        go_wp2_with fail
        refine hq.mono ?_
        rintro e w1 ⟨rfl, hb1⟩
        have HB1 : Hid (Below w.heap.size w w1) := HB.out.trans (((box_below _ _).trans (hb1.mono (by rw [Deep.nblk_alloc]; omega))).mono HB.out.size)
        clear hb1
        go_wp2_with fail
        go_roundw
        case rel => exact ⟨k + 1, _, by omega, by go_num, HN, by rw [HT.out], congrArg (Value.int .i64) (by rw [HM.out]; split <;> omega), HB1.out⟩
        case measure => simp [intOf]; omega
      · have hq := height_no cs[k].op cs[k].num (topH ds) (wr.alloc (.cells #[.int .i64 cs[k].op, .int .i64 cs[k].num] 66)) hok (by omega)
        have HV : Hid (stackO cs = 0) := by unfold Hid stackO; rw [dsC_no HD.out hlt hok]
        clear hok
        go_wp2_with fail
        refine hq.mono ?_
        rintro e w1 ⟨⟨z, rfl⟩, hb1⟩
        have HB1 : Hid (Below w.heap.size w w1) := HB.out.trans (((box_below _ _).trans (hb1.mono (by rw [Deep.nblk_alloc]; omega))).mono HB.out.size)
        clear hb1
        go_wp2_with fail
        go_ret
        rw [HV.out]
        exact ⟨rfl, HB1.out⟩
    · have hke : k = cs.length := by omega
      have HV : Hid (stackO cs = mxL ds) := by
        have := HD.out
        rw [hke, List.take_length] at this
        unfold Hid stackO; rw [this]
      have HB : Hid (Below w.heap.size w wr) := hb
      clear hke hb
      go_wp2_with fail
      go_ret
      rw [HV.out]
      exact ⟨rfl, HB.out⟩
end Go.Proofs.Ythknbafcnobgdaa
