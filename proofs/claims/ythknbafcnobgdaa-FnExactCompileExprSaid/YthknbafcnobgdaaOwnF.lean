/-
  LISTS OF TREES WITH DISTINCT BLOCKS THAT A CALL BUILDS BY append.
-/
import Derived.Test.YthknbafcnobgdaaFresh
import Derived.Test.YthknbafcnobgdaaAppW
import Derived.Test.YthknbafcnobgdaaOwn
namespace Go.Proofs.Ythknbafcnobgdaa
set_option linter.unusedVariables false
set_option linter.unusedSimpArgs false
open Go.RowKit

/-- a list of trees that a call has built by append: the row is its own, each tree has its own blocks, all from lo on -/
def OwnF (w : World) (lo hi : Nat) (ts : List Tr) (v : Value) : Prop :=
  ∃ (xs : List Value) (fps : List (List Nat)), w.ownsRow lo 37 3 v ts.length xs ∧ fps.length = ts.length ∧
    (∀ j (hj : j < ts.length), ∃ f, fps[j]? = some f ∧ ∃ a b c, xs[j * 3]? = some a ∧ xs[j * 3 + 1]? = some b ∧ xs[j * 3 + 2]? = some c ∧ TrFp w 37 ts[j] f a b c) ∧
    fps.flatten.Nodup ∧ ∀ k ∈ fps.flatten, lo ≤ k ∧ k < hi ∧ some k ≠ v.ownBlock

theorem OwnF.nil (w : World) (lo hi : Nat) : OwnF w lo hi [] (.slice none 0 0) := ⟨[], [], World.ownsRow_nil w lo _ _, rfl, fun j hj => absurd hj (by simp), by simp, by simp⟩
theorem OwnF.next {w w' : World} {lo hi hi' : Nat} {ts : List Tr} {v : Value} (h : OwnF w lo hi ts v) (hh : hi ≤ hi') (hs : hi ≤ w.heap.size) (hb : ∀ k, lo ≤ k → k < w.heap.size → w'.heap[k]? = w.heap[k]?) : OwnF w' lo hi' ts v := by
  obtain ⟨xs, fps, h1, h2, h3, h4, h5⟩ := h
  refine ⟨xs, fps, own_keep h1 hb, h2, fun j hj => ?_, h4, fun k hk => ⟨(h5 k hk).1, Nat.lt_of_lt_of_le (h5 k hk).2.1 hh, (h5 k hk).2.2⟩⟩
  obtain ⟨f, e0, a, b, c, e1, e2, e3, e4⟩ := h3 j hj
  exact ⟨f, e0, a, b, c, e1, e2, e3, TrFp.keep _ _ _ _ _ (fun k hk => by
    have := h5 k (List.mem_flatten.2 ⟨f, List.mem_of_getElem? e0, hk⟩)
    exact hb k this.1 (Nat.lt_of_lt_of_le this.2.1 hs)) e4⟩
theorem OwnF.row {w : World} {lo hi : Nat} {ts : List Tr} {v : Value} (h : OwnF w lo hi ts v) : ∃ xs, w.ownsRow lo 37 3 v ts.length xs := by
  obtain ⟨xs, -, h1, -⟩ := h; exact ⟨xs, h1⟩
/-- one tree more -/
theorem OwnF.step {w w' : World} {lo hi : Nat} {ts : List Tr} {v v' : Value} {t : Tr} {a b c : Value} {f : List Nat} (h : OwnF w lo hi ts v) (hlo : lo ≤ hi) (hs : hi ≤ w.heap.size)
    (hn : TrFp w 37 t f a b c) (hf : f.Nodup) (hfl : ∀ k ∈ f, hi ≤ k ∧ k < w.heap.size ∧ some k ≠ v.ownBlock) (xs : List Value) (hx : w.ownsRow lo 37 3 v ts.length xs)
    (hown : w'.ownsRow lo 37 3 v' (ts.length + 1) (xs ++ [a, b, c])) (hg : w.grownBy w' v.ownBlock) (hw : v'.ownBlock = v.ownBlock ∨ ∃ g, v'.ownBlock = some g ∧ w.heap.size ≤ g) : OwnF w' lo w.heap.size (ts ++ [t]) v' := by
  obtain ⟨xs2, fps, h1, h2, h3, h4, h5⟩ := h
  -- the row's cells are the same
  have hxs : xs2 = xs := by
    rcases h1.2 with ⟨rfl, h0⟩ | ⟨g, cap, cur, rfl, hg', hh, hn', hc, hs, htk⟩
    · have a1 := h1.1
      have a2 := hx.1
      rw [h0] at a1 a2
      rw [List.eq_nil_of_length_eq_zero (by omega : xs2.length = 0), List.eq_nil_of_length_eq_zero (by omega : xs.length = 0)]
    · rcases hx.2 with ⟨e, -⟩ | ⟨g2, cap2, cur2, e, -, hh2, -, -, -, htk2⟩
      · cases e
      · cases e
        rw [hh] at hh2
        cases hh2
        rw [← htk, ← htk2]
  subst hxs
  have hlen := h1.1
  have keepB : ∀ k, lo ≤ k ∧ k < w.heap.size ∧ some k ≠ v.ownBlock → w'.heap[k]? = w.heap[k]? := fun k hk => hg.block k hk.2.1 hk.2.2
  have nb : ∀ k, k < w.heap.size → some k ≠ v.ownBlock → some k ≠ v'.ownBlock := fun k hk hkv => by
    rcases hw with hw | ⟨g, hw, hge⟩
    · rw [hw]; exact hkv
    · rw [hw]; intro e; simp only [Option.some.injEq] at e; omega
  refine ⟨xs2 ++ [a, b, c], fps ++ [f], by simpa using hown, by simp [h2], fun j hj => ?_, ?_, ?_⟩
  · by_cases hjl : j < ts.length
    · obtain ⟨f', e0, x, y, z, e1, e2, e3, e4⟩ := h3 j hjl
      refine ⟨f', ?_, x, y, z, ?_, ?_, ?_, ?_⟩
      · rw [List.getElem?_append_left (by omega)]; exact e0
      · rw [List.getElem?_append_left (by omega)]; exact e1
      · rw [List.getElem?_append_left (by omega)]; exact e2
      · rw [List.getElem?_append_left (by omega)]; exact e3
      · rw [List.getElem_append_left hjl]
        exact TrFp.keep _ _ _ _ _ (fun k hk => by
          have := h5 k (List.mem_flatten.2 ⟨f', List.mem_of_getElem? e0, hk⟩)
          exact keepB k ⟨this.1, Nat.lt_of_lt_of_le this.2.1 hs, this.2.2⟩) e4
    · have hj' : j = ts.length := by simp at hj; omega
      subst hj'
      refine ⟨f, ?_, a, b, c, ?_, ?_, ?_, ?_⟩
      · rw [List.getElem?_append_right (by omega)]; simp [h2]
      · rw [List.getElem?_append_right (by omega)]; simp [hlen]
      · rw [List.getElem?_append_right (by omega)]; simp [hlen]
      · rw [List.getElem?_append_right (by omega)]; simp [hlen]
      · simpa using TrFp.keep _ _ _ _ _ (fun k hk => keepB k ⟨Nat.le_trans hlo (hfl k hk).1, (hfl k hk).2⟩) hn
  · rw [List.flatten_append, List.nodup_append]
    refine ⟨h4, by simpa using hf, fun x hx y hy e => ?_⟩
    subst e
    have e1 := (h5 x hx).2.1
    have e2 := (hfl x (by simpa using hy)).1
    omega
  · intro k hk
    simp only [List.flatten_append, List.mem_append] at hk
    rcases hk with hk | hk
    · have := h5 k hk
      exact ⟨this.1, Nat.lt_of_lt_of_le this.2.1 hs, nb k (Nat.lt_of_lt_of_le this.2.1 hs) this.2.2⟩
    · have := hfl k (by simpa using hk)
      exact ⟨Nat.le_trans hlo this.1, this.2.1, nb k this.2.1 this.2.2⟩
/-- the list, as trees with distinct blocks -/
theorem OwnF.fresh {w : World} {lo hi : Nat} {ts : List Tr} {v : Value} (h : OwnF w lo hi ts v) : Fresh w lo ts v := by
  obtain ⟨xs, fps, h1, h2, h3, h4, h5⟩ := h
  rcases h1.2 with ⟨rfl, h0⟩ | ⟨g, cap, cur, rfl, hg, hh, hn, hc, hs, htk⟩
  · obtain rfl : ts = [] := List.eq_nil_of_length_eq_zero h0
    exact ⟨[], ⟨none, 0, rfl, Nat.le_refl _, by simp [maxLen], Or.inl ⟨rfl, rfl⟩⟩, by simp, by simp⟩
  · refine ⟨g :: fps.flatten, ⟨_, cap, rfl, hn, hc, Or.inr ⟨g, 0, cur, fps, rfl, hh, rfl, RowFp.of _ _ _ h2 fun i hi => ?_⟩⟩, ?_, ?_⟩
    · obtain ⟨f, e0, a, b, c, e1, e2, e3, e4⟩ := h3 i hi
      refine ⟨f, e0, a, b, c, ?_, ?_, ?_, e4⟩
      · rw [Nat.zero_add, h1.cellAt (i * 3) (by omega)]; exact e1
      · rw [Nat.zero_add, h1.cellAt (i * 3 + 1) (by omega)]; exact e2
      · rw [Nat.zero_add, h1.cellAt (i * 3 + 2) (by omega)]; exact e3
    · rw [List.nodup_cons]
      exact ⟨fun hm => (h5 g hm).2.2 rfl, h4⟩
    · intro k hk
      rw [List.mem_cons] at hk
      rcases hk with rfl | hk
      · exact hg
      · exact (h5 k hk).1
end Go.Proofs.Ythknbafcnobgdaa
