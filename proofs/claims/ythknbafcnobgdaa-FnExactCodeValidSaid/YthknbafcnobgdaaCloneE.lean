/-
  slices.Clone of a slice of expressions: the same cells in a row of its own. A tail of a row that a call owns.
-/
import Derived.Test.YthknbafcnobgdaaOwnF
import Derived.Test.YthknbafcnobgdaaRow3
import Derived.Test.YthknbafcnobgdaaCodeT
import Derived.Laws.AppendOwn
import Derived.WalkSpells
import Derived.Deep.RegionHeld3
namespace Go.Proofs.Ythknbafcnobgdaa
set_option linter.unusedVariables false
set_option linter.unusedSimpArgs false
open Go.RowKit

/-- a slice value of n expressions, with their cells -/
def ECells (w : World) (n : Nat) (news : List Value) (v : Value) : Prop :=
  news.length = n * 3 ∧ (∀ u ∈ news, u.oneCell' = true) ∧ ∃ ad cap, v = .slice ad n cap ∧ ((ad = none ∧ n = 0) ∨ ∃ bl off, ad = some ⟨bl, off, none⟩ ∧ bl < w.heap.size ∧ ∀ j u, news[j]? = some u → w.cell? ⟨bl, off + j, none⟩ = some u)
theorem ECells.next {w w' : World} {n : Nat} {news : List Value} {v : Value} (h : ECells w n news v) (hb : Below w.heap.size w w') : ECells w' n news v := by
  obtain ⟨h1, h2, ad, cap, e, h3⟩ := h
  refine ⟨h1, h2, ad, cap, e, h3.imp id ?_⟩
  rintro ⟨bl, off, e, hbl, hc⟩
  exact ⟨bl, off, e, Nat.lt_of_lt_of_le hbl hb.size, fun j u hj => (hb.cell (p := ⟨bl, off + j, none⟩) hbl).trans (hc j u hj)⟩
/-- the copy -/
def CloneERes (n : Nat) (news : List Value) (w : World) (e : Ending) (w' : World) : Prop := ∃ v, e = .returned v ∧ w'.ownsRow w.heap.size 37 3 v n news ∧ Below w.heap.size w w'
theorem cloneE_below {wr w1 : World} {o : Obj} (h : (wr.alloc o).grownBy w1 (Value.slice (some ⟨wr.heap.size, 0, none⟩) 0 0).ownBlock) : Below wr.heap.size wr w1 :=
  ⟨h.os, h.tape, h.output, by have h1 : (wr.alloc o).heap.size ≤ w1.heap.size := h.size; rw [Deep.nblk_alloc] at h1; omega, fun k hk => (h.block k (by show k < (wr.alloc o).heap.size; rw [Deep.nblk_alloc]; omega) (by simp only [Value.ownBlock, ne_eq, Option.some.injEq]; omega)).trans (Deep.blk_alloc_lt _ _ _ hk)⟩

set_option maxRecDepth 100000 in
set_option maxHeartbeats 1600000 in
theorem cloneE_calls (n : Nat) (news : List Value) (v : Value) (w : World) (hk : ECells w n news v) (hl : n ≤ 1048576) : Calls Try.prog 90 #[v] w (CloneERes n news w) := by
  obtain ⟨hnl, h1, ad, cap, rfl, hr⟩ := hk
  obtain ⟨iE, zE, hiE, hzE, hsE, hbE, hcE⟩ := infoE3
  rcases hr with ⟨rfl, rfl⟩ | ⟨bl, off, rfl, hbl, hc⟩
  · have hnil : news = [] := List.eq_nil_of_length_eq_zero (by omega)
    subst hnil
    have q : (binOp .eql 35 (.slice none 0 cap) (.slice none 0 0)).run Try.prog w = .ok (.bool true) w := Lib.run_eql_slice_nil w _ _ none 0 cap 0 0 Try.underlying35
    go_enter Try.func90, Try.ntmps90
    go_wp2_with fail
    go_ret
    exact ⟨_, rfl, World.ownsRow_nil _ _ _ _, Below.refl _ _⟩
  · have q : (binOp .eql 35 (.slice (some ⟨bl, off, none⟩) n cap) (.slice none 0 0)).run Try.prog w = .ok (.bool false) w := Lib.run_eql_slice_nil w _ _ (some ⟨bl, off, none⟩) n cap 0 0 Try.underlying35
    have HE : Hid (Try.prog.info? 37 = some iE ∧ iE.zero = some zE ∧ iE.size = 3 ∧ iE.bytes = 40 ∧ zE.cells.size = 3) := ⟨hiE, hzE, hsE, hbE, hcE⟩
    have HNL := mkHid hnl
    have H1 := mkHid h1
    have HN : Hid (∀ j u, news[j]? = some u → (w.alloc (.cells #[] 37)).cell? ((⟨bl, off, none⟩ : Addr).add j) = some u) := fun j u hj => by
      rw [WideShapes.add_plain]; exact old_cell (hc j u hj) _
    have HO : Hid ((w.alloc (.cells #[] 37)).ownsRow w.heap.size 37 3 (.slice (some ⟨w.heap.size, 0, none⟩) 0 0) 0 []) :=
      ⟨rfl, Or.inr ⟨w.heap.size, 0, #[], rfl, Nat.le_refl _, Deep.blk_alloc_new w (.cells #[] 37), Nat.le_refl _, by unfold maxLen; omega, rfl, rfl⟩⟩
    clear hiE hzE hsE hbE hcE hnl h1 hc hbl
    go_enter Try.func90, Try.ntmps90
    go_wp2_with (at_builtin; go_must (refine wpList_append_own _ rfl _ _ 35 rfl w.heap.size 37 iE zE 3 40 Try.underlying35 HE.out.1 HE.out.2.1 HE.out.2.2.1 HE.out.2.2.2.1 HE.out.2.2.2.2 (by decide) (.slice (some ⟨w.heap.size, 0, none⟩) 0 0) 0 [] rfl HO.out ⟨bl, off, none⟩ n cap news rfl HNL.out HN.out H1.out (by unfold maxLen; omega) (by omega) (by rw [Deep.nblk_alloc]; omega) ?_); go_must (intro v1 w1 hown1 hg1 hwh1); go_must (have HO1 : Hid (w1.ownsRow w.heap.size 37 3 v1 n news) := by have h := hown1; rw [Nat.zero_add, List.nil_append] at h; exact h); go_must (have HB1 : Hid (Below w.heap.size w w1) := cloneE_below hg1); clear hown1 hg1 hwh1)
    go_ret
    exact ⟨_, rfl, HO1.out, HB1.out⟩

/-- the first elements of an owned row -/
theorem own_take {w : World} {lo n cap : Nat} {T : TypeId} {ad : Option Addr} {xs : List Value} (h : w.ownsRow lo T 3 (.slice ad n cap) n xs) {m : Nat} (hm : m ≤ n) : w.ownsRow lo T 3 (.slice ad m cap) m (xs.take (m * 3)) := by
  have hl := h.1
  refine ⟨by rw [List.length_take]; omega, ?_⟩
  rcases h.2 with ⟨e, h0⟩ | ⟨g, c, cur, e, hg, hh, hn, hc, hs, htk⟩
  · cases e
    exact Or.inl ⟨by rw [show m = 0 by omega], by omega⟩
  · cases e
    refine Or.inr ⟨g, cap, cur, rfl, hg, hh, by omega, hc, hs, ?_⟩
    rw [← htk, List.take_take, Nat.min_eq_left (by omega)]
/-- .. and the last ones: the slice values that the walk makes of them -/
theorem own_tail {w : World} {lo n cap : Nat} {ad : Option Addr} {xs : List Value} (h : w.ownsRow lo 37 3 (.slice ad n cap) n xs) (h1 : ∀ u ∈ xs, u.oneCell' = true) {m : Nat} (hm : m ≤ n) (v : Value)
    (hv : (ad = none ∧ v = .slice none 0 0) ∨ (∃ g, ad = some ⟨g, 0, none⟩ ∧ v = .slice (if cap = m then some ⟨g, 0, none⟩ else some ⟨g, m * 3, none⟩) (n - m) (cap - m))) : ECells w (n - m) (xs.drop (m * 3)) v := by
  have hl := h.1
  refine ⟨by rw [List.length_drop, hl, Nat.sub_mul], fun u hu => h1 u (List.mem_of_mem_drop hu), ?_⟩
  rcases h.2 with ⟨e, h0⟩ | ⟨g, c, cur, e, hg, hh, hn, hc, hs, htk⟩
  · cases e
    rcases hv with ⟨-, rfl⟩ | ⟨g, e, -⟩
    · exact ⟨none, 0, by simp, Or.inl ⟨rfl, by omega⟩⟩
    · cases e
  · cases e
    have hlt := (Array.getElem?_eq_some_iff.1 hh).1
    have key : ∀ j u, (xs.drop (m * 3))[j]? = some u → w.cell? ⟨g, m * 3 + j, none⟩ = some u := by
      intro j u hj
      rw [List.getElem?_drop] at hj
      rw [h.cellAt (m * 3 + j) (by have := (List.getElem?_eq_some_iff.1 hj).1; omega)]
      exact hj
    rcases hv with ⟨e, -⟩ | ⟨g', e, rfl⟩
    · cases e
    · cases e
      by_cases hme : cap = m
      · rw [if_pos hme]
        refine ⟨_, _, rfl, Or.inr ⟨g, 0, rfl, hlt, fun j u hj => ?_⟩⟩
        have := (List.getElem?_eq_some_iff.1 hj).1
        rw [List.length_drop, hl] at this
        omega
      · rw [if_neg hme]
        exact ⟨_, _, rfl, Or.inr ⟨g, m * 3, rfl, hlt, key⟩⟩
/-- .. the first ones -/
theorem own_head {w : World} {lo n cap g : Nat} {xs : List Value} (h : w.ownsRow lo 37 3 (.slice (some ⟨g, 0, none⟩) n cap) n xs) (h1 : ∀ u ∈ xs, u.oneCell' = true) {m : Nat} (hm : m ≤ n) : ECells w m (xs.take (m * 3)) (.slice (some ⟨g, 0, none⟩) m cap) := by
  have h2 := own_take h hm
  refine ⟨h2.1, fun u hu => h1 u (List.mem_of_mem_take hu), _, _, rfl, Or.inr ⟨g, 0, rfl, (h.lt g rfl).2, fun j u hj => ?_⟩⟩
  rw [Nat.zero_add, h2.cellAt j (by have := (List.getElem?_eq_some_iff.1 hj).1; rw [h2.1] at this; exact this)]
  exact hj
theorem OwnF.one {w : World} {lo hi : Nat} {ts : List Tr} {v : Value} (h : OwnF w lo hi ts v) : ∃ xs, w.ownsRow lo 37 3 v ts.length xs ∧ ∀ u ∈ xs, u.oneCell' = true := by
  obtain ⟨xs, fps, h1, h2, h3, -, -⟩ := h
  refine ⟨xs, h1, fun u hu => ?_⟩
  obtain ⟨i, hi, rfl⟩ := List.getElem_of_mem hu
  have hl := h1.1
  have hj : i / 3 < ts.length := by omega
  obtain ⟨f, -, a, b, c, e1, e2, e3, e4⟩ := h3 (i / 3) hj
  obtain ⟨ha, hb, -, -, ad, cap, hc, -⟩ := trFp_iff.1 e4
  have hm : i % 3 = 0 ∨ i % 3 = 1 ∨ i % 3 = 2 := by omega
  rcases hm with hm | hm | hm
  · have : xs[i / 3 * 3]? = some xs[i] := by rw [show i / 3 * 3 = i by omega]; exact List.getElem?_eq_getElem hi
    rw [e1] at this; cases this; rw [ha]; rfl
  · have : xs[i / 3 * 3 + 1]? = some xs[i] := by rw [show i / 3 * 3 + 1 = i by omega]; exact List.getElem?_eq_getElem hi
    rw [e2] at this; cases this; rw [hb]; rfl
  · have : xs[i / 3 * 3 + 2]? = some xs[i] := by rw [show i / 3 * 3 + 2 = i by omega]; exact List.getElem?_eq_getElem hi
    rw [e3] at this; cases this; rw [hc]; rfl

/-- the last trees are taken from a list and put back as the operands of one -/
theorem OwnF.popK {w w5 w6 : World} {lo n cap m : Nat} {ts : List Tr} {ad : Option Addr} {v' kv : Value} {o nn : Int} {xs : List Value}
    (h : OwnF w lo w.heap.size ts (.slice ad n cap)) (hn : n = ts.length) (hm : m ≤ n) (hlo : lo ≤ w.heap.size) (hx : w.ownsRow lo 37 3 (.slice ad n cap) n xs)
    (hb : Below w.heap.size w w5) (hk : w5.ownsRow w.heap.size 37 3 kv (n - m) (xs.drop (m * 3))) (ho : I64 o) (hnn : I64 nn)
    (hown : w6.ownsRow lo 37 3 v' (m + 1) (xs.take (m * 3) ++ [.int .i64 o, .int .i64 nn, kv])) (keepB : ∀ k, k < w5.heap.size → some k ≠ (Value.slice ad m cap).ownBlock → w6.heap[k]? = w5.heap[k]?) (h6 : w5.heap.size ≤ w6.heap.size)
    (hw : v'.ownBlock = (Value.slice ad m cap).ownBlock ∨ ∃ g, v'.ownBlock = some g ∧ w5.heap.size ≤ g) :
    OwnF w6 lo w6.heap.size (ts.take m ++ [.node o nn (ts.drop m)]) v' := by
  obtain ⟨xs2, fps, h1, h2, h3, h4, h5⟩ := h
  have hxs : xs2 = xs := by
    rcases h1.2 with ⟨e, h0⟩ | ⟨g, c, cur, e, hg', hh, hn', hc, hs, htk⟩
    · have a1 := h1.1
      have a2 := hx.1
      rw [List.eq_nil_of_length_eq_zero (by omega : xs2.length = 0), List.eq_nil_of_length_eq_zero (by omega : xs.length = 0)]
    · rcases hx.2 with ⟨e2, -⟩ | ⟨g2, cap2, cur2, e2, -, hh2, -, -, -, htk2⟩
      · cases e; cases e2
      · cases e; cases e2
        rw [hh] at hh2
        cases hh2
        rw [← htk, ← htk2]
  subst hxs
  have hlen := h1.1
  have hsz := hb.size
  have hob : ∀ k, some k = (Value.slice ad m cap).ownBlock → k < w.heap.size := by
    intro k e
    rcases h1.2 with ⟨e2, -⟩ | ⟨g, c, cur, e2, hg', hh, -⟩
    · cases e2; simp [Value.ownBlock] at e
    · cases e2
      simp only [Value.ownBlock, Option.some.injEq] at e
      subst e
      exact (Array.getElem?_eq_some_iff.1 hh).1
  have hob2 : (Value.slice ad m cap).ownBlock = (Value.slice ad n cap).ownBlock := by cases ad <;> rfl
  -- what stays from the first world to the last
  have keepA : ∀ k, k < w.heap.size → some k ≠ (Value.slice ad m cap).ownBlock → w6.heap[k]? = w.heap[k]? := fun k hk hne => (keepB k (by omega) hne).trans (hb.block k hk)
  have inF : ∀ k ∈ fps.flatten, lo ≤ k ∧ k < w.heap.size ∧ some k ≠ (Value.slice ad m cap).ownBlock := fun k hk => by rw [hob2]; exact h5 k hk
  have nb : ∀ k, k < w5.heap.size → some k ≠ (Value.slice ad m cap).ownBlock → some k ≠ v'.ownBlock := fun k hk hkv => by
    rcases hw with hw | ⟨g, hw, hge⟩
    · rw [hw]; exact hkv
    · rw [hw]; intro e; simp only [Option.some.injEq] at e; omega
  have hdl : (ts.drop m).length = n - m := by simp; omega
  -- the new tree
  have hnew : ∃ f, TrFp w6 37 (.node o nn (ts.drop m)) f (.int .i64 o) (.int .i64 nn) kv ∧ (f = [] ∨ ∃ g', f = g' :: (fps.drop m).flatten ∧ w.heap.size ≤ g' ∧ g' < w5.heap.size) := by
    rcases hk.2 with ⟨rfl, h0⟩ | ⟨g', cap', cur', rfl, hg', hh', hn', hc', hs', htk'⟩
    · have hnil : ts.drop m = [] := List.eq_nil_of_length_eq_zero (by omega)
      rw [hnil]
      exact ⟨[], trFp_iff.2 ⟨rfl, rfl, ho, hnn, none, 0, rfl, Nat.le_refl _, by simp [maxLen], Or.inl ⟨rfl, rfl⟩⟩, Or.inl rfl⟩
    · have hg5 := (Array.getElem?_eq_some_iff.1 hh').1
      have hgne : some g' ≠ (Value.slice ad m cap).ownBlock := fun e => by have := hob g' e; omega
      refine ⟨g' :: (fps.drop m).flatten, trFp_iff.2 ⟨rfl, rfl, ho, hnn, some ⟨g', 0, none⟩, cap', by rw [Tr.kids_node, hdl], by rw [Tr.kids_node, hdl]; exact hn', hc', Or.inr ⟨g', 0, cur', fps.drop m, rfl, (keepB g' hg5 hgne).trans hh', rfl, RowFp.of _ _ _ ?_ fun i hi => ?_⟩⟩, Or.inr ⟨g', rfl, hg', hg5⟩⟩
      · rw [Tr.kids_node, hdl, List.length_drop, h2, hn]
      · rw [Tr.kids_node, hdl] at hi
        obtain ⟨f, e0, a, b, c, e1, e2, e3, e4⟩ := h3 (m + i) (by omega)
        have hcell : ∀ q, q < 3 → w6.cell? ⟨g', 0 + i * 3 + q, none⟩ = xs2[(m + i) * 3 + q]? := fun q hq => by
          rw [World.cell?_of_block (w := w5) (keepB g' hg5 hgne), Nat.zero_add, hk.cellAt (i * 3 + q) (by omega), List.getElem?_drop]
          congr 1
          omega
        have hh0 := hcell 0 (by omega)
        have hh1 := hcell 1 (by omega)
        have hh2 := hcell 2 (by omega)
        rw [Nat.add_zero] at hh0
        rw [Nat.add_zero] at hh0
        refine ⟨f, by rw [List.getElem?_drop]; exact e0, a, b, c, hh0.trans e1, hh1.trans e2, hh2.trans e3, ?_⟩
        have hmem : ∀ k ∈ f, k ∈ fps.flatten := fun k hk => List.mem_flatten.2 ⟨f, List.mem_of_getElem? e0, hk⟩
        simp only [Tr.kids_node, List.getElem_drop]
        exact TrFp.keep _ _ _ _ _ (fun k hk => keepA k (inF k (hmem k hk)).2.1 (inF k (hmem k hk)).2.2) e4
  obtain ⟨f, hf, hfp⟩ := hnew
  have hfl : (fps.take m).flatten ++ (fps.drop m).flatten = fps.flatten := by rw [← List.flatten_append, List.take_append_drop]
  have hnd := h4
  rw [← hfl, List.nodup_append] at hnd
  have htl : (ts.take m).length = m := by rw [List.length_take]; omega
  refine ⟨xs2.take (m * 3) ++ [.int .i64 o, .int .i64 nn, kv], fps.take m ++ [f], by rw [List.length_append, htl]; exact hown, by rw [List.length_append, List.length_append, htl, List.length_take]; simp; omega, fun j hj => ?_, ?_, fun k hkm => ?_⟩
  · rw [List.length_append, htl] at hj
    by_cases hjm : j < m
    · obtain ⟨f', e0, a, b, c, e1, e2, e3, e4⟩ := h3 j (by omega)
      have hmem : ∀ k ∈ f', k ∈ fps.flatten := fun k hk => List.mem_flatten.2 ⟨f', List.mem_of_getElem? e0, hk⟩
      have hxt : ∀ q, q < 3 → (xs2.take (m * 3) ++ [Value.int .i64 o, .int .i64 nn, kv])[j * 3 + q]? = xs2[j * 3 + q]? := fun q hq => by
        rw [List.getElem?_append_left (by rw [List.length_take]; omega), List.getElem?_take_of_lt (by omega)]
      have x0 := hxt 0 (by omega)
      rw [Nat.add_zero] at x0
      refine ⟨f', ?_, a, b, c, x0.trans e1, (hxt 1 (by omega)).trans e2, (hxt 2 (by omega)).trans e3, ?_⟩
      · rw [List.getElem?_append_left (by rw [List.length_take]; omega), List.getElem?_take_of_lt hjm]; exact e0
      · rw [List.getElem_append_left (by rw [htl]; exact hjm), List.getElem_take]
        exact TrFp.keep _ _ _ _ _ (fun k hk => keepA k (inF k (hmem k hk)).2.1 (inF k (hmem k hk)).2.2) e4
    · have hjm' : j = m := by simp at hj; omega
      subst hjm'
      have hxl : (xs2.take (j * 3)).length = j * 3 := by rw [List.length_take]; omega
      refine ⟨f, ?_, .int .i64 o, .int .i64 nn, kv, ?_, ?_, ?_, ?_⟩
      · rw [List.getElem?_append_right (by rw [List.length_take]; omega), List.length_take, show j - min j fps.length = 0 by omega]; rfl
      · rw [List.getElem?_append_right (by omega), hxl, show j * 3 - j * 3 = 0 by omega]; rfl
      · rw [List.getElem?_append_right (by omega), hxl, show j * 3 + 1 - j * 3 = 1 by omega]; rfl
      · rw [List.getElem?_append_right (by omega), hxl, show j * 3 + 2 - j * 3 = 2 by omega]; rfl
      · have e : (ts.take j ++ [Tr.node o nn (ts.drop j)])[j]'(by rw [List.length_append, htl]; simp) = Tr.node o nn (ts.drop j) := by
          rw [List.getElem_append_right (by omega)]; simp
        rw [e]
        exact hf
  · rw [List.flatten_append, List.nodup_append]
    have hlow : ∀ k ∈ (fps.take m).flatten, k < w.heap.size := fun k hk => (inF k (by rw [← hfl]; exact List.mem_append_left _ hk)).2.1
    rcases hfp with rfl | ⟨g', rfl, hg1, hg2⟩
    · exact ⟨hnd.1, by simp, fun x _ y hy => by simp at hy⟩
    · refine ⟨hnd.1, ?_, fun x hx' y hy => ?_⟩
      · simp only [List.flatten_cons, List.flatten_nil, List.append_nil, List.nodup_cons]
        refine ⟨fun hm' => ?_, hnd.2.1⟩
        have := (inF g' (by rw [← hfl]; exact List.mem_append_right _ hm')).2.1
        omega
      · simp only [List.flatten_cons, List.flatten_nil, List.append_nil, List.mem_cons] at hy
        rcases hy with rfl | hy
        · have := hlow x hx'; omega
        · exact hnd.2.2 x hx' y hy
  · rw [List.flatten_append, List.mem_append] at hkm
    rcases hkm with hkm | hkm
    · have := inF k (by rw [← hfl]; exact List.mem_append_left _ hkm)
      exact ⟨this.1, by omega, nb k (by omega) this.2.2⟩
    · rcases hfp with rfl | ⟨g', rfl, hg1, hg2⟩
      · simp at hkm
      · simp only [List.flatten_cons, List.flatten_nil, List.append_nil, List.mem_cons] at hkm
        rcases hkm with rfl | hkm
        · exact ⟨by omega, by omega, nb k hg2 (fun e => by have := hob k e; omega)⟩
        · have := inF k (by rw [← hfl]; exact List.mem_append_right _ hkm)
          exact ⟨this.1, by omega, nb k (by omega) this.2.2⟩
theorem OwnF.pop {w w5 w6 : World} {lo n cap m : Nat} {ts : List Tr} {ad : Option Addr} {v' kv : Value} {o nn : Int} {xs : List Value} {obj : Obj}
    (h : OwnF w lo w.heap.size ts (.slice ad n cap)) (hn : n = ts.length) (hm : m ≤ n) (hlo : lo ≤ w.heap.size) (hx : w.ownsRow lo 37 3 (.slice ad n cap) n xs)
    (hb : Below w.heap.size w w5) (hk : w5.ownsRow w.heap.size 37 3 kv (n - m) (xs.drop (m * 3))) (ho : I64 o) (hnn : I64 nn)
    (hown : w6.ownsRow lo 37 3 v' (m + 1) (xs.take (m * 3) ++ [.int .i64 o, .int .i64 nn, kv])) (hg : (w5.alloc obj).grownBy w6 (Value.slice ad m cap).ownBlock)
    (hw : v'.ownBlock = (Value.slice ad m cap).ownBlock ∨ ∃ g, v'.ownBlock = some g ∧ (w5.alloc obj).heap.size ≤ g) :
    OwnF w6 lo w6.heap.size (ts.take m ++ [.node o nn (ts.drop m)]) v' := by
  have hal := Deep.nblk_alloc w5 obj
  have h7 : (w5.alloc obj).heap.size ≤ w6.heap.size := hg.size
  refine OwnF.popK h hn hm hlo hx hb hk ho hnn hown (fun k hk hne => (hg.block k (by omega) hne).trans (Deep.blk_alloc_lt _ _ _ hk)) (by omega) (hw.imp id ?_)
  rintro ⟨g, e, h⟩
  exact ⟨g, e, by omega⟩
end Go.Proofs.Ythknbafcnobgdaa
