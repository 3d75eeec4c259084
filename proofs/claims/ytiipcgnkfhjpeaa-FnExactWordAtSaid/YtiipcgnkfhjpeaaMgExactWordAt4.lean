/-
  THE LAWS' OWN MARKING OF TREES (markExprS, markExpr): a list of trees whose blocks are all distinct bears its numbers in order afterwards; no other block is changed.
-/
import Derived.Test.YtiipcgnkfhjpeaaMgExactWordAt3
import Derived.Test.YtiipcgnkfhjpeaaMgExactWordAt2
import Derived.Deep.DeepMust
import Derived.Deep.RegionLaw
import Derived.Deep.RegionLawGrows
import Derived.Deep.DeepCutAuto
import Derived.Deep.RegionWith
import Derived.Test.YtiipcgnkfhjpeaaMgExactWordAt1
import Derived.IntWalk
import Derived.WalkSpells
import Derived.Test.YtiipcgnkfhjpeaaProg
import Derived.Deep.QuietTactic
import Derived.BigQuiet
namespace Go.Proofs.Ytiipcgnkfhjpeaa
set_option linter.unusedVariables false
set_option linter.unusedSimpArgs false
open Go.RowKit


mutual
theorem TrFp.lt {w : World} {T : TypeId} : ∀ (t : Tr) (fp : List Nat) (a b c : Value), TrFp w T t fp a b c → ∀ k ∈ fp, k < w.heap.size
  | .node op n ks, fp, a, b, c, h, k, hk => by
    simp only [TrFp] at h
    obtain ⟨-, -, -, -, ad, cap, e, l1, l2, h5⟩ := h
    rcases h5 with ⟨-, rfl⟩ | ⟨bl, off, C, fps, e, hb, rfl, r⟩
    · simp at hk
    · simp only [List.mem_cons, List.mem_flatten] at hk
      rcases hk with rfl | ⟨f, hf, hk⟩
      · exact cellsOf_lt hb
      · exact RowFp.lt bl off ks fps r f hf k hk
theorem RowFp.lt {w : World} {T : TypeId} (bl off : Nat) : ∀ (ks : List Tr) (fps : List (List Nat)), RowFp w T bl off ks fps → ∀ f ∈ fps, ∀ k ∈ f, k < w.heap.size
  | [], fps, h, f, hf, k, hk => by simp only [RowFp] at h; subst h; simp at hf
  | t :: ts, fps, h, f, hf, k, hk => by
    simp only [RowFp] at h
    obtain ⟨g, gs, rfl, ⟨a, b, c, -, -, -, ht⟩, hr⟩ := h
    simp only [List.mem_cons] at hf
    rcases hf with rfl | hf
    · exact TrFp.lt t f a b c ht k hk
    · exact RowFp.lt bl (off + 3) ts gs hr f hf k hk
end
theorem KidsFp.lt {w : World} {T : TypeId} {ks : List Tr} {fp : List Nat} {c : Value} (h : KidsFp w T ks fp c) : ∀ k ∈ fp, k < w.heap.size := by
  obtain ⟨ad, cap, e, l1, l2, h5⟩ := h
  intro k hk
  rcases h5 with ⟨-, rfl⟩ | ⟨bl, off, C, fps, e, hb, rfl, r⟩
  · simp at hk
  · simp only [List.mem_cons, List.mem_flatten] at hk
    rcases hk with rfl | ⟨f, hf, hk⟩
    · exact cellsOf_lt hb
    · exact RowFp.lt bl off ks fps r f hf k hk

end Go.Proofs.Ytiipcgnkfhjpeaa
/-
  THE LAWS' OWN COPY OF AN ARGUMENT (toExpr, toExprS), ITS BLOCKS ALL DISTINCT: the same trees, in new memory; nothing that was there is changed.
-/
namespace Go.Proofs.Ytiipcgnkfhjpeaa
set_option linter.unusedVariables false
set_option linter.unusedSimpArgs false
open Go.RowKit

/-- trees whose blocks are distinct, from lo on -/
def Fresh (w : World) (lo : Nat) (ks : List Tr) (c : Value) : Prop := ∃ fp, KidsFp w 91 ks fp c ∧ fp.Nodup ∧ ∀ k ∈ fp, lo ≤ k
theorem Fresh.on {w : World} {lo : Nat} {ks : List Tr} {c : Value} (h : Fresh w lo ks c) : KidsOn w (Btw lo w.heap.size) ks c := by
  obtain ⟨fp, h1, h2, h3⟩ := h
  exact h1.on fun k hk => ⟨h3 k hk, h1.lt k hk⟩
theorem Fresh.mono {w w' : World} {lo lo' : Nat} {ks : List Tr} {c : Value} (h : Fresh w lo ks c) (hl : lo' ≤ lo) (hw : ∀ k, lo ≤ k → k < w.heap.size → w'.heap[k]? = w.heap[k]?) : Fresh w' lo' ks c := by
  obtain ⟨fp, h1, h2, h3⟩ := h
  exact ⟨fp, h1.keep fun k hk => hw k (h3 k hk) (h1.lt k hk), h2, fun k hk => Nat.le_trans hl (h3 k hk)⟩
theorem Fresh.next {w w' : World} {lo : Nat} {ks : List Tr} {c : Value} (h : Fresh w lo ks c) (hb : Below w.heap.size w w') : Fresh w' lo ks c := h.mono (Nat.le_refl _) fun k _ hk => hb.block k hk
theorem Fresh.setCell {w : World} {lo : Nat} {ks : List Tr} {c : Value} (h : Fresh w lo ks c) {a : Addr} (ha : a.block < lo) (u : Value) : Fresh (w.setCell a u) lo ks c :=
  h.mono (Nat.le_refl _) fun k hk _ => Below.heap_setCell _ _ _ _ (by omega)

end Go.Proofs.Ytiipcgnkfhjpeaa
/-
  TREES WHOSE BLOCKS ARE DISTINCT LIE IN PLAIN BLOCKS.
-/
namespace Go.Proofs.Ytiipcgnkfhjpeaa
set_option linter.unusedVariables false
set_option linter.unusedSimpArgs false
open Go.RowKit

end Go.Proofs.Ytiipcgnkfhjpeaa
/-
  SMALL FACTS ON ROWS OF EXPRESSIONS' CELLS: the element type's row of the table; a new block's cells.
-/
namespace Go.Proofs.Ytiipcgnkfhjpeaa
set_option linter.unusedVariables false
set_option linter.unusedSimpArgs false
open Go.RowKit

end Go.Proofs.Ytiipcgnkfhjpeaa
/-
  LISTS OF TREES THAT A CALL BUILDS BY append: the row that it owns, and the trees elsewhere; append as one step of a region that draws its order, with where the new row lies.
-/
namespace Go.Proofs.Ytiipcgnkfhjpeaa
set_option linter.unusedVariables false
set_option linter.unusedSimpArgs false
open Go.RowKit

/-- a list of trees that a call has built by append: the row is its own, the trees lie elsewhere, all from lo on -/
def OwnTr (w : World) (lo : Nat) (ts : List Tr) (v : Value) : Prop :=
  ∃ xs, w.ownsRow lo 91 3 v ts.length xs ∧ ∀ j (hj : j < ts.length), ∃ a b c, xs[j * 3]? = some a ∧ xs[j * 3 + 1]? = some b ∧ xs[j * 3 + 2]? = some c ∧ TrOn w (fun k => lo ≤ k ∧ k < w.heap.size ∧ some k ≠ v.ownBlock) ts[j] a b c

theorem OwnTr.nil (w : World) (lo : Nat) : OwnTr w lo [] (.slice none 0 0) := ⟨[], World.ownsRow_nil w lo _ _, fun j hj => absurd hj (by simp)⟩

/-- it stays where all blocks from lo on stay -/
theorem OwnTr.next {w w' : World} {lo : Nat} {ts : List Tr} {v : Value} (h : OwnTr w lo ts v) (hsz : w.heap.size ≤ w'.heap.size) (hb : ∀ k, lo ≤ k → k < w.heap.size → w'.heap[k]? = w.heap[k]?) : OwnTr w' lo ts v := by
  obtain ⟨xs, h1, h2⟩ := h
  refine ⟨xs, ⟨h1.1, ?_⟩, fun j hj => ?_⟩
  · rcases h1.2 with h | ⟨g, cap, cur, rfl, hg, hh, r⟩
    · exact Or.inl h
    · exact Or.inr ⟨g, cap, cur, rfl, hg, (hb g hg (Array.getElem?_eq_some_iff.1 hh).1).trans hh, r⟩
  · obtain ⟨a, b, c, e1, e2, e3, e4⟩ := h2 j hj
    exact ⟨a, b, c, e1, e2, e3, e4.mono (fun k hk => ⟨hk.1, Nat.lt_of_lt_of_le hk.2.1 hsz, hk.2.2⟩) (fun k hk => hb k hk.1 hk.2.1)⟩

/-- one tree more -/
theorem OwnTr.step {w w' : World} {lo : Nat} {ts : List Tr} {v v' : Value} {t : Tr} {a b c : Value} (h : OwnTr w lo ts v) (xs : List Value) (hx : w.ownsRow lo 91 3 v ts.length xs) (hlo : lo ≤ w.heap.size)
    (ht : ∀ j (hj : j < ts.length), ∃ a b c, xs[j * 3]? = some a ∧ xs[j * 3 + 1]? = some b ∧ xs[j * 3 + 2]? = some c ∧ TrOn w (fun k => lo ≤ k ∧ k < w.heap.size ∧ some k ≠ v.ownBlock) ts[j] a b c)
    (hn : TrOn w (fun k => lo ≤ k ∧ k < w.heap.size ∧ some k ≠ v.ownBlock) t a b c)
    (hown : w'.ownsRow lo 91 3 v' (ts.length + 1) (xs ++ [a, b, c])) (hg : w.grownBy w' v.ownBlock) (hw : v'.ownBlock = v.ownBlock ∨ ∃ g, v'.ownBlock = some g ∧ w.heap.size ≤ g) : OwnTr w' lo (ts ++ [t]) v' := by
  have hlen := hx.1
  have keep : ∀ (s : Tr) (x y z : Value), TrOn w (fun k => lo ≤ k ∧ k < w.heap.size ∧ some k ≠ v.ownBlock) s x y z → TrOn w' (fun k => lo ≤ k ∧ k < w'.heap.size ∧ some k ≠ v'.ownBlock) s x y z := by
    intro s x y z hs
    refine hs.mono (fun k hk => ⟨hk.1, Nat.lt_of_lt_of_le hk.2.1 hg.size, ?_⟩) (fun k hk => hg.block k hk.2.1 hk.2.2)
    rcases hw with hw | ⟨g, hw, hge⟩
    · rw [hw]; exact hk.2.2
    · rw [hw]; intro e; simp only [Option.some.injEq] at e; have := hk.2.1; omega
  refine ⟨xs ++ [a, b, c], by simpa using hown, fun j hj => ?_⟩
  by_cases hjl : j < ts.length
  · obtain ⟨x, y, z, e1, e2, e3, e4⟩ := ht j hjl
    have l1 : j * 3 + 2 < xs.length := by omega
    refine ⟨x, y, z, ?_, ?_, ?_, ?_⟩
    · rw [List.getElem?_append_left (by omega)]; exact e1
    · rw [List.getElem?_append_left (by omega)]; exact e2
    · rw [List.getElem?_append_left (by omega)]; exact e3
    · rw [List.getElem_append_left hjl]; exact keep _ _ _ _ e4
  · have hj' : j = ts.length := by simp at hj; omega
    subst hj'
    refine ⟨a, b, c, ?_, ?_, ?_, ?_⟩
    · rw [List.getElem?_append_right (by omega)]; simp [hlen]
    · rw [List.getElem?_append_right (by omega)]; simp [hlen]
    · rw [List.getElem?_append_right (by omega)]; simp [hlen]
    · simpa using keep _ _ _ _ hn

/-- the list, as trees in memory -/
theorem OwnTr.kids {w : World} {lo : Nat} {ts : List Tr} {v : Value} (h : OwnTr w lo ts v) : KidsOn w (Btw lo w.heap.size) ts v := by
  obtain ⟨xs, h1, h2⟩ := h
  rcases h1.2 with ⟨rfl, h0⟩ | ⟨g, cap, cur, rfl, hg, hh, hn, hc, hs, htk⟩
  · obtain rfl : ts = [] := List.eq_nil_of_length_eq_zero h0
    exact ⟨none, 0, rfl, Nat.le_refl _, by simp [maxLen], Or.inl rfl⟩
  · refine ⟨_, cap, rfl, hn, hc, Or.inr ⟨g, 0, rfl, ⟨hg, (Array.getElem?_eq_some_iff.1 hh).1⟩, RowOn.of _ _ fun i hi => ?_⟩⟩
    obtain ⟨a, b, c, e1, e2, e3, e4⟩ := h2 i hi
    refine ⟨a, b, c, ?_, ?_, ?_, e4.mono (fun k hk => ⟨hk.1, hk.2.1⟩) (fun _ _ => rfl)⟩
    · rw [Nat.zero_add, h1.cellAt (i * 3) (by omega)]; exact e1
    · rw [Nat.zero_add, h1.cellAt (i * 3 + 1) (by omega)]; exact e2
    · rw [Nat.zero_add, h1.cellAt (i * 3 + 2) (by omega)]; exact e3
end Go.Proofs.Ytiipcgnkfhjpeaa
/-
  LISTS OF TREES WITH DISTINCT BLOCKS THAT A CALL BUILDS BY append.
-/
namespace Go.Proofs.Ytiipcgnkfhjpeaa
set_option linter.unusedVariables false
set_option linter.unusedSimpArgs false
open Go.RowKit

/-- a list of trees that a call has built by append: the row is its own, each tree has its own blocks, all from lo on -/
def OwnF (w : World) (lo hi : Nat) (ts : List Tr) (v : Value) : Prop :=
  ∃ (xs : List Value) (fps : List (List Nat)), w.ownsRow lo 91 3 v ts.length xs ∧ fps.length = ts.length ∧
    (∀ j (hj : j < ts.length), ∃ f, fps[j]? = some f ∧ ∃ a b c, xs[j * 3]? = some a ∧ xs[j * 3 + 1]? = some b ∧ xs[j * 3 + 2]? = some c ∧ TrFp w 91 ts[j] f a b c) ∧
    fps.flatten.Nodup ∧ ∀ k ∈ fps.flatten, lo ≤ k ∧ k < hi ∧ some k ≠ v.ownBlock

theorem OwnF.nil (w : World) (lo hi : Nat) : OwnF w lo hi [] (.slice none 0 0) := ⟨[], [], World.ownsRow_nil w lo _ _, rfl, fun j hj => absurd hj (by simp), by simp, by simp⟩
theorem OwnF.next {w w' : World} {lo hi hi' : Nat} {ts : List Tr} {v : Value} (h : OwnF w lo hi ts v) (hh : hi ≤ hi') (hs : hi ≤ w.heap.size) (hb : ∀ k, lo ≤ k → k < w.heap.size → w'.heap[k]? = w.heap[k]?) : OwnF w' lo hi' ts v := by
  obtain ⟨xs, fps, h1, h2, h3, h4, h5⟩ := h
  refine ⟨xs, fps, own_keep h1 hb, h2, fun j hj => ?_, h4, fun k hk => ⟨(h5 k hk).1, Nat.lt_of_lt_of_le (h5 k hk).2.1 hh, (h5 k hk).2.2⟩⟩
  obtain ⟨f, e0, a, b, c, e1, e2, e3, e4⟩ := h3 j hj
  exact ⟨f, e0, a, b, c, e1, e2, e3, TrFp.keep _ _ _ _ _ (fun k hk => by
    have := h5 k (List.mem_flatten.2 ⟨f, List.mem_of_getElem? e0, hk⟩)
    exact hb k this.1 (Nat.lt_of_lt_of_le this.2.1 hs)) e4⟩
theorem OwnF.row {w : World} {lo hi : Nat} {ts : List Tr} {v : Value} (h : OwnF w lo hi ts v) : ∃ xs, w.ownsRow lo 91 3 v ts.length xs := by
  obtain ⟨xs, -, h1, -⟩ := h; exact ⟨xs, h1⟩
/-- one tree more -/
theorem OwnF.step {w w' : World} {lo hi : Nat} {ts : List Tr} {v v' : Value} {t : Tr} {a b c : Value} {f : List Nat} (h : OwnF w lo hi ts v) (hlo : lo ≤ hi) (hs : hi ≤ w.heap.size)
    (hn : TrFp w 91 t f a b c) (hf : f.Nodup) (hfl : ∀ k ∈ f, hi ≤ k ∧ k < w.heap.size ∧ some k ≠ v.ownBlock) (xs : List Value) (hx : w.ownsRow lo 91 3 v ts.length xs)
    (hown : w'.ownsRow lo 91 3 v' (ts.length + 1) (xs ++ [a, b, c])) (hg : w.grownBy w' v.ownBlock) (hw : v'.ownBlock = v.ownBlock ∨ ∃ g, v'.ownBlock = some g ∧ w.heap.size ≤ g) : OwnF w' lo w.heap.size (ts ++ [t]) v' := by
  obtain ⟨xs2, fps, h1, h2, h3, h4, h5⟩ := h
  -- the row's cells are the same
  have hxs : xs2 = xs := by
    rcases h1.2 with ⟨rfl, h0⟩ | ⟨g, cap, cur, rfl, hg', hh, hn', hc, hs, htk⟩
    · have a1 := h1.1
      have a2 := hx.1
      rw [h0] at a1 a2
      rw [List.eq_nil_of_length_eq_zero (by omega : xs2.length = 0), List.eq_nil_of_length_eq_zero (by omega : xs.length = 0)]
    · rcases hx.2 with ⟨e, -⟩ | ⟨g2, cap2, cur2, e, -, hh2, -, -, -, htk2⟩
      · cases e
      · cases e
        rw [hh] at hh2
        cases hh2
        rw [← htk, ← htk2]
  subst hxs
  have hlen := h1.1
  have keepB : ∀ k, lo ≤ k ∧ k < w.heap.size ∧ some k ≠ v.ownBlock → w'.heap[k]? = w.heap[k]? := fun k hk => hg.block k hk.2.1 hk.2.2
  have nb : ∀ k, k < w.heap.size → some k ≠ v.ownBlock → some k ≠ v'.ownBlock := fun k hk hkv => by
    rcases hw with hw | ⟨g, hw, hge⟩
    · rw [hw]; exact hkv
    · rw [hw]; intro e; simp only [Option.some.injEq] at e; omega
  refine ⟨xs2 ++ [a, b, c], fps ++ [f], by simpa using hown, by simp [h2], fun j hj => ?_, ?_, ?_⟩
  · by_cases hjl : j < ts.length
    · obtain ⟨f', e0, x, y, z, e1, e2, e3, e4⟩ := h3 j hjl
      refine ⟨f', ?_, x, y, z, ?_, ?_, ?_, ?_⟩
      · rw [List.getElem?_append_left (by omega)]; exact e0
      · rw [List.getElem?_append_left (by omega)]; exact e1
      · rw [List.getElem?_append_left (by omega)]; exact e2
      · rw [List.getElem?_append_left (by omega)]; exact e3
      · rw [List.getElem_append_left hjl]
        exact TrFp.keep _ _ _ _ _ (fun k hk => by
          have := h5 k (List.mem_flatten.2 ⟨f', List.mem_of_getElem? e0, hk⟩)
          exact keepB k ⟨this.1, Nat.lt_of_lt_of_le this.2.1 hs, this.2.2⟩) e4
    · have hj' : j = ts.length := by simp at hj; omega
      subst hj'
      refine ⟨f, ?_, a, b, c, ?_, ?_, ?_, ?_⟩
      · rw [List.getElem?_append_right (by omega)]; simp [h2]
      · rw [List.getElem?_append_right (by omega)]; simp [hlen]
      · rw [List.getElem?_append_right (by omega)]; simp [hlen]
      · rw [List.getElem?_append_right (by omega)]; simp [hlen]
      · simpa using TrFp.keep _ _ _ _ _ (fun k hk => keepB k ⟨Nat.le_trans hlo (hfl k hk).1, (hfl k hk).2⟩) hn
  · rw [List.flatten_append, List.nodup_append]
    refine ⟨h4, by simpa using hf, fun x hx y hy e => ?_⟩
    subst e
    have e1 := (h5 x hx).2.1
    have e2 := (hfl x (by simpa using hy)).1
    omega
  · intro k hk
    simp only [List.flatten_append, List.mem_append] at hk
    rcases hk with hk | hk
    · have := h5 k hk
      exact ⟨this.1, Nat.lt_of_lt_of_le this.2.1 hs, nb k (Nat.lt_of_lt_of_le this.2.1 hs) this.2.2⟩
    · have := hfl k (by simpa using hk)
      exact ⟨Nat.le_trans hlo this.1, this.2.1, nb k this.2.1 this.2.2⟩
end Go.Proofs.Ytiipcgnkfhjpeaa
/-
  THE BLOCK OF A ROW THAT A CALL OWNS; three cells of a box.
-/
namespace Go.Proofs.Ytiipcgnkfhjpeaa
set_option linter.unusedVariables false
set_option linter.unusedSimpArgs false
open Go.RowKit

end Go.Proofs.Ytiipcgnkfhjpeaa
/-
  ONE TREE MORE IN A LIST THAT A CALL BUILDS: behind the tree's box and its cells.
-/
namespace Go.Proofs.Ytiipcgnkfhjpeaa
set_option linter.unusedVariables false
set_option linter.unusedSimpArgs false
open Go.RowKit

end Go.Proofs.Ytiipcgnkfhjpeaa
/-
  THE MODEL's l3Add: the cells of an expression, added to a graph that is being built.
-/
namespace Go.Proofs.Ytiipcgnkfhjpeaa
set_option linter.unusedVariables false
set_option linter.unusedSimpArgs false
open Go.RowKit

end Go.Proofs.Ytiipcgnkfhjpeaa
/-
  SMALL FACTS for the model's BuildGraph and AddExpr.
-/
namespace Go.Proofs.Ytiipcgnkfhjpeaa
set_option linter.unusedVariables false
set_option linter.unusedSimpArgs false
open Go.RowKit

theorem below_grown {w w1 w2 : World} {v : Value} (hb : Below w.heap.size w w1) (h : w1.grownBy w2 v.ownBlock) (ho : ∀ k, v.ownBlock = some k → w.heap.size ≤ k) : Below w.heap.size w w2 :=
  ⟨h.os.trans hb.os, h.tape.trans hb.tape, h.output.trans hb.output, Nat.le_trans hb.size h.size, fun k hk => (h.block k (Nat.lt_of_lt_of_le hk hb.size) fun e => by have := ho k e.symm; omega).trans (hb.block k hk)⟩
end Go.Proofs.Ytiipcgnkfhjpeaa
/-
  THE MODEL's l7Unpack, UnpackWords, AddressesOf.
-/
namespace Go.Proofs.Ytiipcgnkfhjpeaa
set_option linter.unusedVariables false
set_option linter.unusedSimpArgs false
open Go.RowKit


/-- a graph, addresses, and whether there are any -/
def GotUnp (r : List Ce × List Int × Bool) (w : World) (e : Ending) (w' : World) : Prop := ∃ gv t, e = .returned (.tuple #[gv, t, .bool r.2.2]) ∧ CIn w' r.1 gv ∧ IIn w' r.2.1 t ∧ Below w.heap.size w w'
theorem oc_form {w : World} {lo : Nat} {S : Nat → Prop} {g : List Ce} {v : Value} (h : OwnC w lo S g v) : ∃ ad n cap, v = .slice ad n cap := by obtain ⟨ad, cap, e⟩ := h.form; exact ⟨ad, _, cap, e⟩
theorem cin_nil (w : World) (ad : Option Addr) (cap : Nat) (h : cap ≤ maxLen) : CIn w [] (.slice ad 0 cap) := ⟨ad, cap, rfl, Nat.zero_le _, h, Or.inl rfl⟩
theorem cellW_64 {ws : List Int} {a : Nat} (hw : ∀ x ∈ ws, I64 x) (ha : a < ws.length) (he : a + wLen (opW ws a) ≤ ws.length) (hc : wLen (opW ws a) ≠ 0) : I64 (cellW ws a).op ∧ I64 (cellW ws a).num := by
  have h2 := wLen_pos hc
  refine ⟨by rw [cellW_op, opW_at ha]; exact hw _ (List.getElem_mem ha), ?_⟩
  cases h : isNumOp (opW ws a) with
  | true => rw [cellW_num h]; show I64 (opW ws (a + 1)); rw [opW_at (by omega)]; exact hw _ (List.getElem_mem _)
  | false => rw [cellW_kid h]; unfold I64; simp
set_option maxRecDepth 100000 in
set_option maxHeartbeats 1600000 in
theorem l7Unpack_calls (ws : List Int) (v : Value) (w : World) (hk : IIn w ws v) (hw : ∀ x ∈ ws, I64 x) (hl : ws.length ≤ 1048576) :
    Calls Try.prog 40 #[v] w (GotUnp (unpO ws) w) := by
  have HK := mkHid hk
  have HW := mkHid hw
  obtain ⟨ad, cap, rfl, hlc, hm, -⟩ := hk
  unfold maxLen at hm
  clear hw
  go_enter Try.func40, Try.ntmps40
  by_cases hbig : ws.length ≤ 1600
  case neg =>
    have HV := mkHid (unpO_long hbig)
    have hb' : (1600 : Int) < (ws.length : Int) := by omega
    clear hbig
    go_wp2_with fail
    refine bodyPost_ret (v := .tuple #[.slice (some ⟨w.heap.size, 0, none⟩) 0 0, .slice (some ⟨w.heap.size + 1, 0, none⟩) 0 0, .bool false]) (by simp [results, Try.results40, go_sem]) rfl ?_
    rw [HV.out]
    exact ⟨_, _, rfl, cin_nil _ _ _ (by simp [maxLen]), (no_ints _ 0 _ _ (by simp [maxLen])).inn, (box_below _ _).alloc (by rw [Deep.nblk_alloc]; omega) _⟩
  go_wp2_with fail
  refine (l7Starts_calls ws _ w HK.out hl).mono ?_
  rintro e w2 ⟨sv, rfl, hsv, hb2⟩
  have HB2 := mkHid hb2
  have HSV := mkHid hsv
  clear hsv hb2
  obtain ⟨bs, hbs⟩ : ∃ bs, bs = (startsW ws 0).isSome := ⟨_, rfl⟩
  rw [← hbs]
  cases hst : startsW ws 0 with
  | none =>
    have HV := mkHid (unpO_none hst)
    rw [hst] at HSV
    obtain rfl : bs = false := by rw [hbs, hst]; rfl
    clear hst hbs
    have HSV' : Hid (IntRow w2 w.heap.size [] sv) := HSV.out
    obtain ⟨ads, caps, rfl, -, -, -⟩ := id HSV'.out
    go_wp2_with fail
    go_loopw [7, 8] (fun o i wr => (∃ q cp, o = .slice q 0 cp) ∧ i = .int .i64 0 ∧ Below w.heap.size w wr) (fun _ i _ => 0)
    case atStart => exact ⟨⟨_, _, rfl⟩, rfl, HB2.out.alloc HB2.out.size _⟩
    case round =>
      obtain ⟨⟨q, cp, rfl⟩, rfl, hb⟩ := hrel
      have HB := mkHid hb
      clear hb
      go_wp2_with fail
      refine bodyPost_ret (v := .tuple #[.slice (some ⟨wr.heap.size, 0, none⟩) 0 0, .slice (some ⟨wr.heap.size + 1, 0, none⟩) 0 0, .bool false]) (by simp [results, Try.results40, go_sem]) rfl ?_
      rw [HV.out]
      exact ⟨_, _, rfl, cin_nil _ _ _ (by simp [maxLen]), (no_ints _ 0 _ _ (by simp [maxLen])).inn, (HB.out.alloc HB.out.size _).alloc (by rw [Deep.nblk_alloc]; have := HB.out.size; omega) _⟩
  | some st =>
    rw [hst] at HSV
    obtain rfl : bs = true := by rw [hbs, hst]; rfl
    clear hbs
    have HST := mkHid hst
    have HSO := mkHid (starts_sorted hst)
    have hsm := starts_small hst
    have HSC : Hid (∀ x ∈ st, CellAt ws x) := fun x hx => starts_cell HST.out hx
    clear hst
    have HSI : Hid (IIn w2 st sv) := (show IntRow w2 w.heap.size st sv from HSV.out).inn
    obtain ⟨ads, caps, rfl, -, -, -⟩ := id HSI.out
    obtain ⟨iC, zC, hII⟩ := infoC1
    have HII := mkHid hII
    clear hII
    go_wp2_with fail
    go_loopw [7, 8] (fun o i wr => ∃ j : Nat, j ≤ st.length ∧ i = .int .i64 j ∧ OwnC wr w2.heap.size (fun b => w2.heap.size ≤ b ∧ b < wr.heap.size) (graphTo ws st j) o ∧ Below w2.heap.size w2 wr) (fun _ i _ => st.length - (intOf i).toNat)
    case atStart => exact ⟨0, Nat.zero_le _, rfl, by rw [graphTo_zero]; exact OwnC.zeroB _, box_below _ _⟩
    case round =>
      obtain ⟨j, hj, rfl, hown, hb⟩ := hrel
      obtain ⟨wo, rfl⟩ : ∃ wo : World, wo = wr := ⟨_, rfl⟩
      obtain ⟨ado, capo, rfl⟩ := hown.form
      rw [graphTo_len hj] at hown ⊢
      have HO := mkHid hown
      have HB := mkHid hb
      by_cases hlt : j < st.length
      · obtain ⟨b0, o0, rfl, d0w⟩ := HSI.out.at j hlt
        obtain ⟨a, hae, ha, hc, he⟩ := HSC.out _ (List.getElem_mem hlt)
        rw [hae] at d0w
        have d0 := (hb.cell (p := ⟨b0, o0 + j, none⟩) (cell_lt d0w)).trans d0w
        have HSN := mkHid (graphTo_snoc (ws := ws) hlt hae)
        rw [← opW_at ha] at hc he
        have H64 := mkHid (cellW_64 HW.out ha he hc)
        clear hown hb d0w hae
        go_wp2_with fail
        refine (l7Cell_calls ws a _ wo (HK.out.next (HB2.out.trans (HB.out.mono HB2.out.size))) ha hc he hl).mono ?_
        rintro e w5 ⟨kv, rfl, hkv, hb5⟩
        obtain ⟨c, hcw⟩ : ∃ c, c = cellW ws a := ⟨_, rfl⟩
        have HKL : Hid (c.kids.length ≤ 3) := by
          rw [hcw, Hid]
          have h4 := wLen_le (opW ws a)
          cases hnum : isNumOp (opW ws a) with
          | true => rw [cellW_num hnum]; simp
          | false => rw [cellW_kid hnum, List.length_take]; omega
        rw [← hcw] at HSN H64 hkv ⊢
        have HKV : Hid (StkI w5 wo.heap.size (kkW st c.kids 0) kv) := by rw [kkW_zero]; exact hkv
        obtain ⟨adk, capk, rfl⟩ := hkv.len
        have HB5 := mkHid hb5
        clear hcw hkv hb5 d0 hc he ha
        obtain ⟨w6, hw6⟩ : ∃ w6 : World, w6 = w5.alloc (.cells #[.int .i64 c.op, .int .i64 c.num, .slice adk c.kids.length capk] 40) := ⟨_, rfl⟩
        have HX6 : Hid (w6.heap[w5.heap.size]? = some (.cells #[.int .i64 c.op, .int .i64 c.num, .slice adk c.kids.length capk] 40)) := by rw [hw6]; exact Deep.blk_alloc_new _ _
        have HB6 : Hid (Below wo.heap.size wo w6) := by rw [hw6]; exact HB5.out.alloc HB5.out.size _
        have HK6 : Hid (StkI w6 wo.heap.size (kkW st c.kids 0) (.slice adk c.kids.length capk)) := by rw [hw6]; exact StkI.alloc HKV.out _
        go_wp2_with fail
        rw [← hw6]
        clear hw6
        go_loopw [10] (fun i wr => ∃ q : Nat, q ≤ c.kids.length ∧ i = .int .i64 q ∧ wr.heap[w5.heap.size]? = some (.cells #[.int .i64 c.op, .int .i64 c.num, .slice adk c.kids.length capk] 40) ∧ StkI wr wo.heap.size (kkW st c.kids q) (.slice adk c.kids.length capk) ∧ Below wo.heap.size wo wr) (fun i _ => c.kids.length - (intOf i).toNat)
        case atStart => exact ⟨0, Nat.zero_le _, rfl, HX6.out, HK6.out, HB6.out⟩
        case round =>
          obtain ⟨q, hq, rfl, hbx, hkq, hbq⟩ := hrel
          obtain ⟨wq, rfl⟩ : ∃ wq : World, wq = wr := ⟨_, rfl⟩
          have HXQ := mkHid hbx
          have HKQ := mkHid hkq
          have HBQ := mkHid hbq
          have x2 := cell_of_blk hbx 2 _ rfl
          have fx := frz_of_blk hbx
          by_cases hqt : q < c.kids.length
          · obtain ⟨g, cp, cur, he2, hg1, hg2, hg3⟩ := stki_at hkq q (by rw [kkW_length]; exact hqt)
            rw [kkW_length] at he2
            simp only [Value.slice.injEq, true_and] at he2
            obtain ⟨rfl, rfl⟩ := he2
            have hkg : (kkW st c.kids q)[q]'(by rw [kkW_length]; exact hqt) = c.kids[q] := by
              have h := kkW_get (st := st) hqt
              rw [List.getElem?_eq_getElem (by rw [kkW_length]; exact hqt)] at h
              simpa using h
            rw [hkg] at hg3
            obtain ⟨y, hy⟩ : ∃ y, y = c.kids[q] := ⟨_, rfl⟩
            have HSET : Hid (∀ W : World, (∀ k, W.heap[k]? = wq.heap[k]?) → StkI (W.setCell ⟨g, q, none⟩ (.int .i64 (idxI st y))) wo.heap.size (kkW st c.kids (q + 1)) (.slice (some ⟨g, 0, none⟩) c.kids.length capk)) := fun W hW => by
              have h := stki_set (i := q) (y := idxI st y) (StkI.keep HKQ.out (w' := W) fun k _ _ => hW k)
              rw [hy, kkW_set hqt] at h
              rw [hy]
              exact h
            have hgne : g ≠ w5.heap.size := fun e5 => by
              have h7 := HXQ.out
              rw [← e5, hg2] at h7
              simp at h7
            have HGB : Hid (wo.heap.size ≤ g ∧ g ≠ w5.heap.size) := ⟨hg1, hgne⟩
            have fk := frz_of_blk hg2
            rw [← hy] at hg3
            have x2d : wq.drew.cell? ⟨w5.heap.size, 2, none⟩ = some (.slice (some ⟨g, 0, none⟩) c.kids.length capk) := x2
            have hg3d : wq.drew.cell? ⟨g, q, none⟩ = some (.int .i64 y) := hg3
            have HSQ : Hid (IIn wq st (.slice (some ⟨b0, o0, none⟩) st.length caps)) := HSI.out.next (HB.out.trans (HBQ.out.mono HB.out.size))
            have hqI : (q : Int) < (c.kids.length : Int) := by omega
            have hk3 := HKL.out
            have HSL : Hid (st.length ≤ 1048576) := by unfold Hid; omega
            clear hbx hkq hbq hkg hy hg1 hg2 hgne
            go_wp2_with fail
            go_region_with (first
              | (go_at_call 42; refine (l7Index_calls st y _ _ (HSQ.out.drew) HSO.out HSL.out).mono ?_; rintro e w7 ⟨rfl, rfl⟩))
            all_goals
              go_wp2_with fail
              go_roundw
              case rel => exact ⟨q + 1, by omega, by go_num, (Below.heap_setCell _ _ _ _ HGB.out.2.symm).trans HXQ.out, StkI.drew (HSET.out wq fun _ => rfl), (HBQ.out.setCell HGB.out.1 _).drew⟩
              case measure => simp [intOf]; omega
          · have hqe : q = c.kids.length := by omega
            have HKA : Hid (StkI wq wo.heap.size (cellP st c).kids (.slice adk c.kids.length capk)) := by
              have h := HKQ.out
              rw [hqe, kkW_all] at h
              exact h
            have x0 := cell_of_blk HXQ.out 0 _ rfl
            have x1 := cell_of_blk HXQ.out 1 _ rfl
            have HOA : Hid (OwnC (wq.alloc (.cells #[.int .i64 c.op, .int .i64 c.num, .slice adk c.kids.length capk] 40)) w2.heap.size (fun b => w2.heap.size ≤ b ∧ b < wo.heap.size) (graphTo ws st j) (.slice ado j capo)) := (HO.out.keepB HBQ.out).next (fun _ h _ => h) (fun b _ hb => Deep.blk_alloc_lt _ _ _ hb) (fun b _ hb => Deep.blk_alloc_lt _ _ _ hb)
            obtain ⟨xs, hx⟩ := HOA.out.row
            rw [graphTo_len hj] at hx
            have HX := mkHid hx
            have hj9 : j ≤ 800 := by omega
            have HSZ : Hid (w2.heap.size ≤ wo.heap.size ∧ wo.heap.size ≤ wq.heap.size) := ⟨HB.out.size, HBQ.out.size⟩
            clear hbx hkq hbq hqe hx fx
            go_wp2_with (at_builtin; go_must (refine wpList_append_where _ rfl _ _ 27 rfl w2.heap.size 40 iC zC 3 40 Try.underlying27 HII.out.1 HII.out.2.1 HII.out.2.2.1 HII.out.2.2.2.1 HII.out.2.2.2.2 (by decide) (.slice ado j capo) j xs rfl HX.out ⟨wq.heap.size, 0, none⟩ 1 1 [.int .i64 c.op, .int .i64 c.num, .slice adk c.kids.length capk] rfl rfl (news3c wq _ _ _) (by simp [Value.oneCell']) (by unfold maxLen; omega) (by omega) (by rw [Deep.nblk_alloc]; have := HSZ.out; omega) (by omega) ?_); go_must (intro v' w8 hown hg5 hw5); go_must (have HB8 : Hid (Below w2.heap.size w2 w8) := below_grown ((HB.out.trans (HBQ.out.mono HB.out.size)).alloc (by have := HSZ.out; omega) _) hg5 (fun k hk => own_lo HX.out hk.symm)); go_must (have HO8 : Hid (OwnC w8 w2.heap.size (fun b => w2.heap.size ≤ b ∧ b < w8.heap.size) (graphTo ws st (j + 1)) v') := by rw [HSN.out]; exact OwnC.push (c := cellP st c) HOA.out (StkI.alloc HKA.out _) HSZ.out.1 (by rw [Deep.nblk_alloc]; have := HSZ.out; omega) H64.out (by rw [graphTo_len hj]; exact HX.out) (by rw [graphTo_len hj]; exact hown) hg5); go_must (obtain ⟨ad8, n8, cap8, rfl⟩ := oc_form HO8.out); clear hown hg5 hw5 x0 x1 x2)
            go_roundw
            case rel => first | exact ⟨j + 1, by omega, by go_num, HO8.out, HB8.out⟩ | ((repeat apply Exists.intro); exact ⟨⟨j + 1, by omega, by go_num, HO8.out, HB8.out⟩, rfl⟩)
            case measure => simp [intOf]; omega
      · have hje : j = st.length := by omega
        have HOG : Hid (OwnC wo w2.heap.size (fun b => w2.heap.size ≤ b ∧ b < wo.heap.size) (graphW ws st) (.slice ado j capo)) := by
          have h := HO.out
          rw [hje, graphTo_all] at h
          rw [hje]; exact h
        have HCI : Hid (CIn wo (graphW ws st) (.slice ado j capo)) := HOG.out.inn fun k h _ => h.1
        have HBW : Hid (Below w.heap.size w wo) := HB2.out.trans (HB.out.mono HB2.out.size)
        have HS9 : Hid (IIn wo st (.slice ads st.length caps)) := HSI.out.next HB.out
        clear hown hb hje
        go_wp2_with fail
        refine (specGraph_calls (graphW ws st) 6 _ _ HCI.out).mono ?_
        rintro e w7 ⟨rfl, hb7⟩
        have HB7 : Hid (Below w.heap.size w w7) := HBW.out.trans (hb7.mono HBW.out.size)
        have HC7 := mkHid (HCI.out.next hb7)
        have HS7 := mkHid (HS9.out.next hb7)
        clear hb7
        cases hg : graphB (graphW ws st) 6 with
        | false =>
          have HV := mkHid (unpO_bad HST.out hg)
          clear hg
          go_wp2_with fail
          refine bodyPost_ret (v := .tuple #[.slice (some ⟨w7.heap.size, 0, none⟩) 0 0, .slice (some ⟨w7.heap.size + 1, 0, none⟩) 0 0, .bool false]) (by simp [results, Try.results40, go_sem]) rfl ?_
          rw [HV.out]
          exact ⟨_, _, rfl, cin_nil _ _ _ (by simp [maxLen]), (no_ints _ 0 _ _ (by simp [maxLen])).inn, (HB7.out.alloc HB7.out.size _).alloc (by rw [Deep.nblk_alloc]; have := HB7.out.size; omega) _⟩
        | true =>
          have HV := mkHid (unpO_yes hbig HST.out hg)
          clear hg
          go_wp2_with fail
          refine bodyPost_ret (v := .tuple #[.slice ado j capo, .slice ads st.length caps, .bool true]) (by simp [results, Try.results40, go_sem]) rfl ?_
          rw [HV.out]
          exact ⟨_, _, rfl, HC7.out, HS7.out, HB7.out⟩

end Go.Proofs.Ytiipcgnkfhjpeaa
/-
  PLAIN FACTS: the cell at an address; the model's WordAt.
-/
namespace Go.Proofs.Ytiipcgnkfhjpeaa
set_option linter.unusedVariables false
set_option linter.unusedSimpArgs false
open Go.RowKit


/-- the answer of WordAt: a cell, and whether there is one -/
def wordO (ws : List Int) (x : Int) : Ce × Bool := if (unpO ws).2.2 = true ∧ x ∈ (unpO ws).2.1 then (cellW ws x.toNat, true) else (⟨0, 0, []⟩, false)
theorem wordO_no {ws : List Int} {x : Int} (h : ¬ ((unpO ws).2.2 = true ∧ x ∈ (unpO ws).2.1)) : wordO ws x = (⟨0, 0, []⟩, false) := by unfold wordO; rw [if_neg h]
theorem wordO_yes {ws : List Int} {x : Int} (h : (unpO ws).2.2 = true ∧ x ∈ (unpO ws).2.1) : wordO ws x = (cellW ws x.toNat, true) := by unfold wordO; rw [if_pos h]
theorem unpO_ok {ws : List Int} (h : (unpO ws).2.2 = true) : ws.length ≤ 1600 ∧ ∃ st, startsW ws 0 = some st ∧ graphB (graphW ws st) 6 = true ∧ unpO ws = (graphW ws st, st, true) := by
  by_cases hb : ws.length ≤ 1600
  · refine ⟨hb, ?_⟩
    cases hs : startsW ws 0 with
    | none => rw [unpO_none hs] at h; cases h
    | some st =>
      cases hg : graphB (graphW ws st) 6 with
      | false => rw [unpO_bad hs hg] at h; cases h
      | true => exact ⟨st, rfl, hg, unpO_yes hb hs hg⟩
  · rw [unpO_long hb] at h; cases h
theorem unpO_sorted (ws : List Int) : (unpO ws).2.1.Pairwise (· < ·) := by
  cases h : (unpO ws).2.2 with
  | true =>
    obtain ⟨-, st, h1, -, h2⟩ := unpO_ok h
    rw [h2]; exact starts_sorted h1
  | false =>
    by_cases hb : ws.length ≤ 1600
    · cases hs : startsW ws 0 with
      | none => rw [unpO_none hs]; exact List.Pairwise.nil
      | some st =>
        cases hg : graphB (graphW ws st) 6 with
        | false => rw [unpO_bad hs hg]; exact List.Pairwise.nil
        | true => rw [unpO_yes hb hs hg] at h; cases h
    · rw [unpO_long hb]; exact List.Pairwise.nil
theorem unpO_len (ws : List Int) : (unpO ws).2.1.length ≤ 1048576 := by
  cases h : (unpO ws).2.2 with
  | true =>
    obtain ⟨h0, st, h1, -, h2⟩ := unpO_ok h
    have := starts_small h1
    rw [h2]; show st.length ≤ 1048576; omega
  | false =>
    by_cases hb : ws.length ≤ 1600
    · cases hs : startsW ws 0 with
      | none => rw [unpO_none hs]; simp
      | some st =>
        cases hg : graphB (graphW ws st) 6 with
        | false => rw [unpO_bad hs hg]; simp
        | true => rw [unpO_yes hb hs hg] at h; cases h
    · rw [unpO_long hb]; simp
theorem unpO_cell {ws : List Int} {x : Int} (h : (unpO ws).2.2 = true) (hx : x ∈ (unpO ws).2.1) : ∃ a : Nat, x = (a : Int) ∧ ∃ h : a < ws.length, wLen (opW ws a) ≠ 0 ∧ a + wLen (opW ws a) ≤ ws.length := by
  obtain ⟨-, st, h1, -, h2⟩ := unpO_ok h
  rw [h2] at hx
  obtain ⟨a, e, ha, h3, h4⟩ := starts_cell h1 hx
  refine ⟨a, e, ha, ?_⟩
  rw [opW_at ha]
  exact ⟨h3, h4⟩
/-- a cell by value in new memory, and whether -/
def NewWord (r : Ce × Bool) (w : World) (e : Ending) (w' : World) : Prop := ∃ v, e = .returned (.tuple #[.agg #[.int .i64 r.1.op, .int .i64 r.1.num, v], .bool r.2]) ∧ StkI w' w.heap.size r.1.kids v ∧ Below w.heap.size w w'
set_option maxHeartbeats 800000 in
theorem specWord_calls (ws : List Int) (x : Int) (v : Value) (w : World) (hk : IIn w ws v) (hw : ∀ y ∈ ws, I64 y) (hl : ws.length ≤ 1048576) :
    Calls Try.prog 24 #[v, .int .i64 x] w (NewWord (wordO ws x) w) := by
  have HK := mkHid hk
  obtain ⟨ad, cap, rfl, -, -, -⟩ := hk
  obtain ⟨W, hW⟩ : ∃ W, W = w.alloc (.cells #[.int .i64 0, .int .i64 0, .slice none 0 0] 40) := ⟨_, rfl⟩
  have HB : Hid (Below w.heap.size w W) := by rw [hW]; exact box_below _ _
  have HX : Hid (W.heap[w.heap.size]? = some (.cells #[.int .i64 0, .int .i64 0, .slice none 0 0] 40)) := by rw [hW]; exact Deep.blk_alloc_new _ _
  have HL : Hid (W.heap.size = w.heap.size + 1) := by rw [hW, Hid, Deep.nblk_alloc]
  go_enter Try.func24, Try.ntmps24
  go_wp2_with fail
  rw [← hW]
  clear hW
  refine (l7Unpack_calls ws _ W (HK.out.next HB.out) hw hl).mono ?_
  rintro e w1 ⟨gv, tv, rfl, -, ht, hb1⟩
  obtain ⟨st, hst⟩ : ∃ st, st = (unpO ws).2.1 := ⟨_, rfl⟩
  obtain ⟨ok, hok⟩ : ∃ ok, ok = (unpO ws).2.2 := ⟨_, rfl⟩
  have HSO : Hid (st.Pairwise (· < ·)) := by rw [hst]; exact unpO_sorted ws
  have HSL : Hid (st.length ≤ 1048576) := by rw [hst]; exact unpO_len ws
  rw [← hst] at ht
  rw [← hok]
  have HT := mkHid ht
  have HB1 : Hid (Below w.heap.size w w1) := HB.out.trans (hb1.mono HB.out.size)
  have HX1 := mkHid ((hb1.block _ (Array.getElem?_eq_some_iff.1 HX.out).1).trans HX.out)
  have HL1 : Hid (w.heap.size + 1 ≤ w1.heap.size) := by have := hb1.size; have := HL.out; unfold Hid; omega
  obtain ⟨adt, capt, rfl, -, -, -⟩ := id ht
  have HST := mkHid hst
  have HOK := mkHid hok
  have x0 := cell_of_blk HX1.out 0 _ rfl
  have x1 := cell_of_blk HX1.out 1 _ rfl
  have x2 := cell_of_blk HX1.out 2 _ rfl
  have fx := frz_of_blk HX1.out
  have HNO : Hid (¬ ((unpO ws).2.2 = true ∧ x ∈ (unpO ws).2.1) → ∀ w', w'.heap[w.heap.size]? = some (.cells #[.int .i64 0, .int .i64 0, .slice none 0 0] 40) → Below w.heap.size w w' → NewWord (wordO ws x) w (.returned (.tuple #[.agg #[.int .i64 0, .int .i64 0, .slice none 0 0], .bool false])) w') := fun h w' _ hb => by
    rw [wordO_no h]; exact ⟨_, rfl, StkI.none _ _, hb⟩
  clear ht hb1 hst hok
  cases hok : ok with
  | false =>
    have HN : Hid (¬ ((unpO ws).2.2 = true ∧ x ∈ (unpO ws).2.1)) := fun h => by rw [← HOK.out, hok] at h; cases h.1
    clear hok
    go_wp2_with fail
    have hb := s3_blk (b0 := .int .i64 0) (b1 := .int .i64 0) (b2 := .slice none 0 0) HX1.out
    refine bodyPost_ret (v := .tuple #[.agg #[.int .i64 0, .int .i64 0, .slice none 0 0], .bool false]) (by simp [results, Try.results24, go_sem, cell_of_blk hb 0 _ rfl, cell_of_blk hb 1 _ rfl, cell_of_blk hb 2 _ rfl]) rfl ?_
    exact HNO.out HN.out _ hb (s3_below HB1.out (Nat.le_refl _))
  | true =>
    have HOT : Hid ((unpO ws).2.2 = true) := by rw [← HOK.out]; exact hok
    clear hok
    go_wp2_with fail
    refine (l7Index_calls st x _ w1 HT.out HSO.out HSL.out).mono ?_
    rintro e w2 ⟨rfl, rfl⟩
    by_cases hi : idxI st x < 0
    · have HN : Hid (¬ ((unpO ws).2.2 = true ∧ x ∈ (unpO ws).2.1)) := fun h => by
        have := idxI_mem.2 h.2
        rw [← HST.out] at this
        omega
      go_wp2_with fail
      have hb := s3_blk (b0 := .int .i64 0) (b1 := .int .i64 0) (b2 := .slice none 0 0) HX1.out
      refine bodyPost_ret (v := .tuple #[.agg #[.int .i64 0, .int .i64 0, .slice none 0 0], .bool false]) (by simp [results, Try.results24, go_sem, cell_of_blk hb 0 _ rfl, cell_of_blk hb 1 _ rfl, cell_of_blk hb 2 _ rfl]) rfl ?_
      exact HNO.out HN.out _ hb (s3_below HB1.out (Nat.le_refl _))
    · have HIN : Hid (x ∈ (unpO ws).2.1) := by rw [← HST.out]; exact idxI_mem.1 (by omega)
      obtain ⟨a, rfl, ha, hc, he⟩ := unpO_cell HOT.out HIN.out
      have HV : Hid (wordO ws (a : Int) = (cellW ws a, true)) := by rw [Hid, wordO_yes ⟨HOT.out, HIN.out⟩, Int.toNat_natCast]
      have HC := mkHid (And.intro hc he)
      clear hc he
      go_wp2_with fail
      refine (l7Cell_calls ws a _ w1 (HK.out.next HB1.out) ha HC.out.1 HC.out.2 hl).mono ?_
      rintro e w3 ⟨kv, rfl, hkv, hb3⟩
      have HX3 := mkHid ((hb3.block _ (by have := HL1.out; omega)).trans HX1.out)
      have HB3 : Hid (Below w.heap.size w w3) := HB1.out.trans (hb3.mono HB1.out.size)
      have HKV := mkHid hkv
      obtain ⟨adk, nk, capk, rfl⟩ := hkv.form
      obtain ⟨c, hcw⟩ : ∃ c, c = cellW ws a := ⟨_, rfl⟩
      rw [← hcw] at HKV HV ⊢
      clear hkv hb3 x0 x1 x2 fx hcw
      have x0 := cell_of_blk HX3.out 0 _ rfl
      have x1 := cell_of_blk HX3.out 1 _ rfl
      have x2 := cell_of_blk HX3.out 2 _ rfl
      have fx := frz_of_blk HX3.out
      go_wp2_with fail
      have hb := s3_blk (b0 := .int .i64 c.op) (b1 := .int .i64 c.num) (b2 := .slice adk nk capk) HX3.out
      refine bodyPost_ret (v := .tuple #[.agg #[.int .i64 c.op, .int .i64 c.num, .slice adk nk capk], .bool true]) (by simp [results, Try.results24, go_sem, cell_of_blk hb 0 _ rfl, cell_of_blk hb 1 _ rfl, cell_of_blk hb 2 _ rfl]) rfl ?_
      rw [HV.out]
      exact ⟨_, rfl, (HKV.out.keep fun k hk _ => s3_far (by have := HL1.out; omega)).lower (by have := HL1.out; omega), s3_below HB3.out (Nat.le_refl _)⟩
end Go.Proofs.Ytiipcgnkfhjpeaa
/-
  slices.BinarySearch AND slices.Clone, of ints.
-/
namespace Go.Proofs.Ytiipcgnkfhjpeaa
set_option linter.unusedVariables false
set_option linter.unusedSimpArgs false
open Go.RowKit


theorem isNaN_calls (x : Int) (w : World) : Calls Try.prog 79 #[.int .i64 x] w fun e w' => e = .returned (.bool false) ∧ w = w' := by
  have t1 : (x != x) = false := by simp
  go_enter Try.func79, Try.ntmps79
  go_wp2_with fail
  go_ret
  exact ⟨rfl, rfl⟩
theorem isNaNc_calls (x : Int) (w : World) : Calls Try.prog 80 #[.int .i64 x] w fun e w' => e = .returned (.bool false) ∧ w = w' := by
  have t1 : (x != x) = false := by simp
  go_enter Try.func80, Try.ntmps80
  go_wp2_with fail
  go_ret
  exact ⟨rfl, rfl⟩
theorem less_calls (x y : Int) (w : World) : Calls Try.prog 78 #[.int .i64 x, .int .i64 y] w fun e w' => e = .returned (.bool (decide (x < y))) ∧ w = w' := by
  go_enter Try.func78, Try.ntmps78
  go_wp2_with (first
    | (go_at_call 80; refine (isNaNc_calls _ _).mono ?_; rintro e w1 ⟨rfl, rfl⟩))
  go_ret
  exact ⟨rfl, rfl⟩
set_option maxHeartbeats 800000 in
theorem search_calls (xs : List Int) (a : Int) (v : Value) (w : World) (hk : IIn w xs v) (hs : xs.Pairwise (· < ·)) (hl : xs.length ≤ 1048576) :
    Calls Try.prog 75 #[v, .int .i64 a] w fun e w' => ∃ i : Int, e = .returned (.tuple #[.int .i64 i, .bool (decide (0 ≤ idxI xs a))]) ∧ (0 ≤ idxI xs a → i = idxI xs a) ∧ w = w' := by
  have HK := mkHid hk
  have HS := mkHid hs
  obtain ⟨ad, cap, rfl, hlc, hm, -⟩ := hk
  unfold maxLen at hm
  clear hs
  go_enter Try.func75, Try.ntmps75
  go_wp2_with fail
  go_loopw [7, 8] (fun l h wr => ∃ lo hi : Nat, l = .int .i64 lo ∧ h = .int .i64 hi ∧ Bis xs a lo hi ∧ wr = w) (fun l h _ => (intOf h).toNat - (intOf l).toNat)
  case atStart => exact ⟨0, xs.length, rfl, rfl, Bis.start _ _, rfl⟩
  case round =>
    obtain ⟨lo, hi, rfl, rfl, hbis, rfl⟩ := hrel
    have HBI := mkHid hbis
    have hb1 := hbis.1
    have hb2 := hbis.2.1
    clear hbis
    by_cases hlt : lo < hi
    · have hm1 : lo ≤ (lo + hi) / 2 ∧ (lo + hi) / 2 < hi := by omega
      have hmx : (lo + hi) / 2 < xs.length := by omega
      have hmi : ((lo : Int) + hi) / 2 = (((lo + hi) / 2 : Nat) : Int) := by omega
      obtain ⟨bl, off, rfl, d0⟩ := HK.out.at ((lo + hi) / 2) hmx
      have HMX := mkHid (And.intro hm1 hmi)
      clear hmi
      go_wp2_with fail
      refine (less_calls _ _ _).mono ?_
      rintro e w1 ⟨rfl, rfl⟩
      by_cases hc : xs[(lo + hi) / 2] < a
      · have hc' : decide (xs[(lo + hi) / 2] < a) = true := by simpa using hc
        rw [hc']
        go_wp2_with fail
        go_roundw
        case rel => exact ⟨(lo + hi) / 2 + 1, hi, by rw [HMX.out.2]; go_num, rfl, HBI.out.up HS.out hm1.2 hmx hc, by first | rfl | trivial⟩
        case measure => have := HMX.out.2; simp [intOf]; omega
      · have hc' : decide (xs[(lo + hi) / 2] < a) = false := by simpa using hc
        rw [hc']
        go_wp2_with fail
        go_roundw
        case rel => exact ⟨lo, (lo + hi) / 2, rfl, by rw [HMX.out.2], HBI.out.down HS.out hm1.2 hm1.1 hmx (by omega), by first | rfl | trivial⟩
        case measure => have := HMX.out.2; simp [intOf]; omega
    · obtain rfl : lo = hi := by omega
      by_cases hl2 : lo < xs.length
      · obtain ⟨bl, off, rfl, d0⟩ := HK.out.at lo hl2
        by_cases he : xs[lo] = a
        · have HV : Hid (idxI xs a = (lo : Int)) := idxI_found HS.out hl2 he
          have he' : (xs[lo] == a) = true := by simpa using he
          clear he
          go_wp2_with (first
            | (go_at_call 79; refine (isNaN_calls _ _).mono ?_; rintro e w1 ⟨rfl, rfl⟩))
          refine bodyPost_ret (v := .tuple #[.int .i64 lo, .bool true]) (by simp [results, Try.results75, go_sem]) rfl ?_
          exact ⟨(lo : Int), by rw [HV.out]; simp, fun _ => HV.out.symm, rfl⟩
        · have HV : Hid (idxI xs a = -1) := HBI.out.none (fun _ => he) HS.out
          have he' : (xs[lo] == a) = false := by simpa using he
          go_wp2_with (first
            | (go_at_call 79; refine (isNaN_calls _ _).mono ?_; rintro e w1 ⟨rfl, rfl⟩))
          refine bodyPost_ret (v := .tuple #[.int .i64 lo, .bool false]) (by simp [results, Try.results75, go_sem]) rfl ?_
          exact ⟨(lo : Int), by rw [HV.out]; rfl, fun h => by have := HV.out; omega, rfl⟩
      · have HV : Hid (idxI xs a = -1) := HBI.out.none (fun h => absurd h hl2) HS.out
        go_wp2_with fail
        refine bodyPost_ret (v := .tuple #[.int .i64 lo, .bool false]) (by simp [results, Try.results75, go_sem]) rfl ?_
        exact ⟨(lo : Int), by rw [HV.out]; rfl, fun h => by have := HV.out; omega, rfl⟩

theorem clone_belowI {wr w1 : World} {o : Obj} (h : (wr.alloc o).grownBy w1 (Value.slice (some ⟨wr.heap.size, 0, none⟩) 0 0).ownBlock) : Below wr.heap.size wr w1 :=
  ⟨h.os, h.tape, h.output, by have h1 : (wr.alloc o).heap.size ≤ w1.heap.size := h.size; rw [Deep.nblk_alloc] at h1; omega, fun k hk => (h.block k (by show k < (wr.alloc o).heap.size; rw [Deep.nblk_alloc]; omega) (by simp only [Value.ownBlock, ne_eq, Option.some.injEq]; omega)).trans (Deep.blk_alloc_lt _ _ _ hk)⟩
/-- a copy, in a row of its own -/
def CloneW (xs : List Int) (w : World) (e : Ending) (w' : World) : Prop := ∃ v, e = .returned v ∧ StkI w' w.heap.size xs v ∧ Below w.heap.size w w'
set_option maxRecDepth 100000 in
set_option maxHeartbeats 800000 in
theorem cloneW_calls (xs : List Int) (v : Value) (w : World) (hk : IIn w xs v) (hl : xs.length ≤ 1048576) : Calls Try.prog 47 #[v] w (CloneW xs w) := by
  have HK : Hid (IIn w xs v) := hk
  obtain ⟨ad, cap, rfl, hlc, hm, hr⟩ := hk
  unfold maxLen at hm
  rcases ad with _ | ad
  · have hnil : xs = [] := by
      rcases hr with h | ⟨_, _, h, -⟩
      · exact h
      · simp at h
    subst hnil
    clear hr HK
    have q : (binOp .eql 24 (.slice none 0 cap) (.slice none 0 0)).run Try.prog w = .ok (.bool true) w := Lib.run_eql_slice_nil w _ _ none 0 cap 0 0 Try.underlying24
    go_enter Try.func47, Try.ntmps47
    go_wp2_with fail
    go_ret
    exact ⟨_, rfl, StkI.none _ _, Below.refl _ _⟩
  · clear hr
    have q : (binOp .eql 24 (.slice (some ad) xs.length cap) (.slice none 0 0)).run Try.prog w = .ok (.bool false) w := Lib.run_eql_slice_nil w _ _ (some ad) xs.length cap 0 0 Try.underlying24
    go_enter Try.func47, Try.ntmps47
    go_wp2_with (at_builtin; go_must (refine wpList_pushI rfl _ _ rfl _ w.heap.size [] xs (.slice (some ⟨w.heap.size, 0, none⟩) 0 0) (.slice (some ad) xs.length cap) rfl (StkI.nil w _ (Nat.le_refl _)) rfl (HK.out.next (box_below w _)) (by rw [Deep.nblk_alloc]; omega) (by simp only [List.length_nil]; omega) ?_); go_must (intro v1 w1 hst1 hg1); go_must (have HST1 : Hid (StkI w1 w.heap.size xs v1) := hst1); go_must (have HB1 : Hid (Below w.heap.size w w1) := clone_belowI hg1); clear hst1 hg1)
    go_ret
    exact ⟨_, rfl, HST1.out, HB1.out⟩
end Go.Proofs.Ytiipcgnkfhjpeaa
/-
  THE PROGRAM's ExprValid (opOf, nodeOf, the four kinds' fits, nodesLeft, ExprValid): which trees it takes for valid; nothing that was there is changed.
-/
namespace Go.Proofs.Ytiipcgnkfhjpeaa
set_option linter.unusedVariables false
set_option linter.unusedSimpArgs false
open Go.RowKit

/-- how nodes of a kind with operands are written -/
def opKids (op : Int) : Int := if op = 4 then 2 else if op = 5 then 2 else if op = 6 then 1 else if op = 7 then 1 else if op = 8 then 2 else if op = 9 then 2 else if op = 10 then 3 else 0
def opMarks (op : Int) : ByteArray := if op = 4 then ⟨#[40, 32, 41]⟩ else if op = 5 then ⟨#[60, 44, 62]⟩ else if op = 6 then ⟨#[126]⟩ else if op = 7 then ⟨#[94]⟩ else if op = 8 then ⟨#[40, 43, 41]⟩ else if op = 9 then ⟨#[40, 45, 41]⟩ else if op = 10 then ⟨#[91, 63, 58, 93]⟩ else ⟨#[]⟩
def opOk (op : Int) : Bool := decide (4 ≤ op ∧ op ≤ 10)

/-- opOf has handed back the row of a kind -/
def OpRow (op : Int) (w : World) (e : Ending) (w' : World) : Prop := e = .returned (.tuple #[.agg #[.int .i64 (opKids op), .string (opMarks op)], .bool (opOk op)]) ∧ Below w.heap.size w w'

theorem opRow_4 {op : Int} (h : (op == 4) = true) : opKids op = 2 ∧ opMarks op = ⟨#[40, 32, 41]⟩ ∧ opOk op = true := by
  have e : op = 4 := by simpa using h
  subst e
  exact ⟨rfl, rfl, rfl⟩
theorem opRow_5 {op : Int} (h : (op == 5) = true) : opKids op = 2 ∧ opMarks op = ⟨#[60, 44, 62]⟩ ∧ opOk op = true := by
  have e : op = 5 := by simpa using h
  subst e
  exact ⟨rfl, rfl, rfl⟩
theorem opRow_6 {op : Int} (h : (op == 6) = true) : opKids op = 1 ∧ opMarks op = ⟨#[126]⟩ ∧ opOk op = true := by
  have e : op = 6 := by simpa using h
  subst e
  exact ⟨rfl, rfl, rfl⟩
theorem opRow_7 {op : Int} (h : (op == 7) = true) : opKids op = 1 ∧ opMarks op = ⟨#[94]⟩ ∧ opOk op = true := by
  have e : op = 7 := by simpa using h
  subst e
  exact ⟨rfl, rfl, rfl⟩
theorem opRow_8 {op : Int} (h : (op == 8) = true) : opKids op = 2 ∧ opMarks op = ⟨#[40, 43, 41]⟩ ∧ opOk op = true := by
  have e : op = 8 := by simpa using h
  subst e
  exact ⟨rfl, rfl, rfl⟩
theorem opRow_9 {op : Int} (h : (op == 9) = true) : opKids op = 2 ∧ opMarks op = ⟨#[40, 45, 41]⟩ ∧ opOk op = true := by
  have e : op = 9 := by simpa using h
  subst e
  exact ⟨rfl, rfl, rfl⟩
theorem opRow_10 {op : Int} (h : (op == 10) = true) : opKids op = 3 ∧ opMarks op = ⟨#[91, 63, 58, 93]⟩ ∧ opOk op = true := by
  have e : op = 10 := by simpa using h
  subst e
  exact ⟨rfl, rfl, rfl⟩
theorem opRow_no {op : Int} (h4 : (op == 4) = false) (h5 : (op == 5) = false) (h6 : (op == 6) = false) (h7 : (op == 7) = false) (h8 : (op == 8) = false) (h9 : (op == 9) = false) (h10 : (op == 10) = false) : opKids op = 0 ∧ opMarks op = ⟨#[]⟩ ∧ opOk op = false := by
  simp only [beq_eq_false_iff_ne] at *
  refine ⟨?_, ?_, ?_⟩
  · unfold opKids; rw [if_neg h4, if_neg h5, if_neg h6, if_neg h7, if_neg h8, if_neg h9, if_neg h10]
  · unfold opMarks; rw [if_neg h4, if_neg h5, if_neg h6, if_neg h7, if_neg h8, if_neg h9, if_neg h10]
  · unfold opOk; rw [decide_eq_false]; omega

set_option maxHeartbeats 400000 in
theorem opOf_calls (op : Int) (w : World) : Calls Try.prog 62 #[.int .i64 op] w (OpRow op w) := by
  go_enter Try.func62, Try.ntmps62
  go_wp2_with fail
  all_goals first
    | (rename (op == 4) = true => ht; obtain ⟨e1, e2, e3⟩ := opRow_4 ht; refine bodyPost_ret (v := .tuple #[.agg #[.int .i64 2, .string ⟨#[40, 32, 41]⟩], .bool true]) (by simp [results, Try.results62, go_sem]) rfl ⟨by rw [e1, e2, e3], box_below _ _⟩)
    | (rename (op == 5) = true => ht; obtain ⟨e1, e2, e3⟩ := opRow_5 ht; refine bodyPost_ret (v := .tuple #[.agg #[.int .i64 2, .string ⟨#[60, 44, 62]⟩], .bool true]) (by simp [results, Try.results62, go_sem]) rfl ⟨by rw [e1, e2, e3], box_below _ _⟩)
    | (rename (op == 6) = true => ht; obtain ⟨e1, e2, e3⟩ := opRow_6 ht; refine bodyPost_ret (v := .tuple #[.agg #[.int .i64 1, .string ⟨#[126]⟩], .bool true]) (by simp [results, Try.results62, go_sem]) rfl ⟨by rw [e1, e2, e3], box_below _ _⟩)
    | (rename (op == 7) = true => ht; obtain ⟨e1, e2, e3⟩ := opRow_7 ht; refine bodyPost_ret (v := .tuple #[.agg #[.int .i64 1, .string ⟨#[94]⟩], .bool true]) (by simp [results, Try.results62, go_sem]) rfl ⟨by rw [e1, e2, e3], box_below _ _⟩)
    | (rename (op == 8) = true => ht; obtain ⟨e1, e2, e3⟩ := opRow_8 ht; refine bodyPost_ret (v := .tuple #[.agg #[.int .i64 2, .string ⟨#[40, 43, 41]⟩], .bool true]) (by simp [results, Try.results62, go_sem]) rfl ⟨by rw [e1, e2, e3], box_below _ _⟩)
    | (rename (op == 9) = true => ht; obtain ⟨e1, e2, e3⟩ := opRow_9 ht; refine bodyPost_ret (v := .tuple #[.agg #[.int .i64 2, .string ⟨#[40, 45, 41]⟩], .bool true]) (by simp [results, Try.results62, go_sem]) rfl ⟨by rw [e1, e2, e3], box_below _ _⟩)
    | (rename (op == 10) = true => ht; obtain ⟨e1, e2, e3⟩ := opRow_10 ht; refine bodyPost_ret (v := .tuple #[.agg #[.int .i64 3, .string ⟨#[91, 63, 58, 93]⟩], .bool true]) (by simp [results, Try.results62, go_sem]) rfl ⟨by rw [e1, e2, e3], box_below _ _⟩)
    | (rename (op == 4) = false => h4; rename (op == 5) = false => h5; rename (op == 6) = false => h6; rename (op == 7) = false => h7; rename (op == 8) = false => h8; rename (op == 9) = false => h9; rename (op == 10) = false => h10; obtain ⟨e1, e2, e3⟩ := opRow_no h4 h5 h6 h7 h8 h9 h10; refine bodyPost_ret (v := .tuple #[.agg #[.int .i64 0, .string ⟨#[]⟩], .bool false]) (by simp [results, Try.results62, go_sem]) rfl ⟨by rw [e1, e2, e3], box_below _ _⟩)

set_option maxHeartbeats 400000 in
theorem nodeOf_1 (n : Int) (len : Nat) (w : World) : Calls Try.prog 73 #[.int .i64 1, .int .i64 n, .int .i64 (len : Int)] w fun e w' => e = .returned (.tuple #[.iface 99 (.int .i64 n), .bool ((len : Int) == 0)]) ∧ Below w.heap.size w w' := by
  go_enter Try.func73, Try.ntmps73
  go_wp2_with fail
  go_ret2
  exact ⟨rfl, Below.refl _ _⟩

set_option maxHeartbeats 400000 in
theorem nodeOf_2 (n : Int) (len : Nat) (w : World) : Calls Try.prog 73 #[.int .i64 2, .int .i64 n, .int .i64 (len : Int)] w fun e w' => e = .returned (.tuple #[.iface 100 (.int .i64 n), .bool ((len : Int) == 0)]) ∧ Below w.heap.size w w' := by
  go_enter Try.func73, Try.ntmps73
  go_wp2_with fail
  go_ret2
  exact ⟨rfl, Below.refl _ _⟩

set_option maxHeartbeats 400000 in
theorem nodeOf_3 (n : Int) (len : Nat) (w : World) : Calls Try.prog 73 #[.int .i64 3, .int .i64 n, .int .i64 (len : Int)] w fun e w' => e = .returned (.tuple #[.iface 101 (.int .i64 n), .bool ((len : Int) == 0)]) ∧ Below w.heap.size w w' := by
  go_enter Try.func73, Try.ntmps73
  go_wp2_with fail
  go_ret2
  exact ⟨rfl, Below.refl _ _⟩

theorem ret_node {v : Value} {a b : Bool} (h : a = b) : Ending.returned (.tuple #[v, .bool a]) = .returned (.tuple #[v, .bool b]) := by rw [h]
/-- nodeOf has handed back a node with operands -/
def OpNode (op : Int) (b : Bool) (w : World) (e : Ending) (w' : World) : Prop := e = .returned (.tuple #[.iface 82 (.agg #[.int .i64 (opKids op), .string (opMarks op)]), .bool b]) ∧ Below w.heap.size w w'
theorem opKids_range (op : Int) : 0 ≤ opKids op ∧ opKids op ≤ 3 := by
  unfold opKids
  repeat' split
  all_goals omega

set_option maxHeartbeats 800000 in
theorem nodeOf_op (op n : Int) (len : Nat) (w : World) (t1 : (op == 1) = false) (t2 : (op == 2) = false) (t3 : (op == 3) = false) :
    Calls Try.prog 73 #[.int .i64 op, .int .i64 n, .int .i64 (len : Int)] w (OpNode op (opOk op && ((n == 0) && ((len : Int) == opKids op))) w) := by
  have hkr := opKids_range op
  go_enter Try.func73, Try.ntmps73
  go_wp2_with fail
  refine (opOf_calls op _).mono ?_
  rintro e w1 ⟨rfl, hb⟩
  have HB : Hid (Below w.heap.size w w1) := hb
  have hle : w.heap.size ≤ w1.heap.size := hb.size
  clear hb
  cases hok : opOk op with
  | false =>
    have HV : Hid ((opOk op && ((n == 0) && ((len : Int) == opKids op))) = false) := by simp [Hid, hok]
    go_wp2_with fail
    have k3 := cell_regrown (box_cell w1 #[.int .i64 (opKids op), .string (opMarks op)] 82 0 _ rfl)
    have k4 := cell_regrown (box_cell w1 #[.int .i64 (opKids op), .string (opMarks op)] 82 1 _ rfl)
    refine wp_region_quiet_below (by kernel_rfl) (by kernel_rfl) ?_
    repeat (any_goals (first | go_big_quiet_step (fail) | quiet_step (fail)))
    refine wpQuiet_nil ?_
    intro _ hw'
    obtain ⟨⟨dq, osq⟩, hw''⟩ := hw'
    subst hw''
    clear k3 k4
    go_wp2_with fail
    go_ret2
    exact ⟨ret_node HV.out.symm, HB.out.trans ((box_below _ _).trans ((below_regrown _ _ _).mono (by rw [Deep.nblk_alloc]; omega)) |>.mono hle)⟩
  | true =>
    by_cases hn : n = 0
    · subst hn
      by_cases hl : (len : Int) = opKids op
      · have hl' : ((len : Int) == opKids op) = true := by simpa using hl
        have HV : Hid ((opOk op && (((0 : Int) == 0) && ((len : Int) == opKids op))) = true) := by simp [Hid, hok, hl']
        clear hl
        go_wp2_with fail
        have k3 := cell_regrown (box_cell w1 #[.int .i64 (opKids op), .string (opMarks op)] 82 0 _ rfl)
        have k4 := cell_regrown (box_cell w1 #[.int .i64 (opKids op), .string (opMarks op)] 82 1 _ rfl)
        refine wp_region_quiet_below (by kernel_rfl) (by kernel_rfl) ?_
        repeat (any_goals (first | go_big_quiet_step (fail) | quiet_step (fail)))
        refine wpQuiet_nil ?_
        intro _ hw'
        obtain ⟨⟨dq, osq⟩, hw''⟩ := hw'
        subst hw''
        clear k3 k4
        go_wp2_with fail
        go_ret2
        exact ⟨ret_node HV.out.symm, HB.out.trans ((box_below _ _).trans ((below_regrown _ _ _).mono (by rw [Deep.nblk_alloc]; omega)) |>.mono hle)⟩
      · have hl' : ((len : Int) == opKids op) = false := by simpa using hl
        have HV : Hid ((opOk op && (((0 : Int) == 0) && ((len : Int) == opKids op))) = false) := by simp [Hid, hok, hl']
        clear hl
        go_wp2_with fail
        have k3 := cell_regrown (box_cell w1 #[.int .i64 (opKids op), .string (opMarks op)] 82 0 _ rfl)
        have k4 := cell_regrown (box_cell w1 #[.int .i64 (opKids op), .string (opMarks op)] 82 1 _ rfl)
        refine wp_region_quiet_below (by kernel_rfl) (by kernel_rfl) ?_
        repeat (any_goals (first | go_big_quiet_step (fail) | quiet_step (fail)))
        refine wpQuiet_nil ?_
        intro _ hw'
        obtain ⟨⟨dq, osq⟩, hw''⟩ := hw'
        subst hw''
        clear k3 k4
        go_wp2_with fail
        go_ret2
        exact ⟨ret_node HV.out.symm, HB.out.trans ((box_below _ _).trans ((below_regrown _ _ _).mono (by rw [Deep.nblk_alloc]; omega)) |>.mono hle)⟩
    · have hn' : (n == 0) = false := by simpa using hn
      have HV : Hid ((opOk op && ((n == 0) && ((len : Int) == opKids op))) = false) := by simp [Hid, hok, hn']
      go_wp2_with fail
      have k3 := cell_regrown (box_cell w1 #[.int .i64 (opKids op), .string (opMarks op)] 82 0 _ rfl)
      have k4 := cell_regrown (box_cell w1 #[.int .i64 (opKids op), .string (opMarks op)] 82 1 _ rfl)
      refine wp_region_quiet_below (by kernel_rfl) (by kernel_rfl) ?_
      repeat (any_goals (first | go_big_quiet_step (fail) | quiet_step (fail)))
      refine wpQuiet_nil ?_
      intro _ hw'
      obtain ⟨⟨dq, osq⟩, hw''⟩ := hw'
      subst hw''
      clear k3 k4
      go_wp2_with fail
      go_ret2
      exact ⟨ret_node HV.out.symm, HB.out.trans ((box_below _ _).trans ((below_regrown _ _ _).mono (by rw [Deep.nblk_alloc]; omega)) |>.mono hle)⟩
end Go.Proofs.Ytiipcgnkfhjpeaa
/-
  THE PROGRAM's hasNumber AND sizeOfKind.
-/
namespace Go.Proofs.Ytiipcgnkfhjpeaa
set_option linter.unusedVariables false
set_option linter.unusedSimpArgs false
open Go.RowKit


theorem hasNumber_calls (op : Int) (w : World) : Calls Try.prog 39 #[.int .i64 op] w fun e w' => e = .returned (.bool (isNumOp op)) ∧ w = w' := by
  by_cases h2 : op = 2
  · subst h2
    go_enter Try.func39, Try.ntmps39
    go_wp2_with fail
    go_ret
    exact ⟨rfl, rfl⟩
  by_cases h3 : op = 3
  · subst h3
    go_enter Try.func39, Try.ntmps39
    go_wp2_with fail
    go_ret
    exact ⟨rfl, rfl⟩
  have hv : isNumOp op = false := by unfold isNumOp; simp; omega
  have h2' : (op == 2) = false := by simpa using h2
  have h3' : (op == 3) = false := by simpa using h3
  rw [hv]
  clear h2 h3 hv
  go_enter Try.func39, Try.ntmps39
  go_wp2_with fail
  go_ret
  exact ⟨rfl, rfl⟩

/-- what sizeOfKind answers as a size -/
def sizeV (op : Int) : Int := if wLen op = 0 then 1 else wLen op
theorem sizeV_ok {op : Int} (h : wLen op ≠ 0) : sizeV op = (wLen op : Int) := by unfold sizeV; rw [if_neg h]
def sizeOk (op : Int) : Bool := decide (wLen op ≠ 0)
theorem sizeV_op {op : Int} (h2 : op ≠ 2) (h3 : op ≠ 3) (h11 : op ≠ 11) : opOk op = sizeOk op ∧ 1 + opKids op = sizeV op := by
  unfold sizeOk opOk sizeV opKids wLen
  repeat' split
  all_goals (try omega)
  all_goals (refine ⟨?_, ?_⟩ <;> simp at * <;> omega)

set_option maxHeartbeats 400000 in
theorem sizeOfKind_calls (op : Int) (w : World) : Calls Try.prog 38 #[.int .i64 op] w fun e w' => e = .returned (.tuple #[.int .i64 (sizeV op), .bool (sizeOk op)]) ∧ Below w.heap.size w w' := by
  by_cases h2 : op = 2
  · subst h2
    go_enter Try.func38, Try.ntmps38
    go_wp2_with fail
    go_ret2
    exact ⟨rfl, Below.refl _ _⟩
  by_cases h3 : op = 3
  · subst h3
    go_enter Try.func38, Try.ntmps38
    go_wp2_with fail
    go_ret2
    exact ⟨rfl, Below.refl _ _⟩
  by_cases h11 : op = 11
  · subst h11
    go_enter Try.func38, Try.ntmps38
    go_wp2_with fail
    go_ret2
    exact ⟨rfl, Below.refl _ _⟩
  obtain ⟨e1, e2⟩ := sizeV_op h2 h3 h11
  have h2' : (op == 2) = false := by simpa using h2
  have h3' : (op == 3) = false := by simpa using h3
  have h11' : (op == 11) = false := by simpa using h11
  have HV := mkHid (And.intro e1 e2)
  have hkb : 0 ≤ opKids op ∧ opKids op ≤ 3 := by unfold opKids; repeat' split
                                                 all_goals omega
  clear h2 h3 h11 e1 e2
  go_enter Try.func38, Try.ntmps38
  go_wp2_with fail
  refine (opOf_calls op _).mono ?_
  rintro e w1 ⟨rfl, hb1⟩
  have HB1 := mkHid hb1
  obtain ⟨k, hk⟩ : ∃ k, k = opKids op := ⟨_, rfl⟩
  have HKE := mkHid hk
  rw [← hk] at hkb ⊢
  clear hb1 hk
  go_wp2_with fail
  refine bodyPost_ret (v := .tuple #[.int .i64 (1 + k), .bool (opOk op)]) (by simp [results, Try.results38, go_sem]) rfl ?_
  exact ⟨by rw [HV.out.1, HKE.out, HV.out.2], HB1.out.alloc HB1.out.size _⟩
end Go.Proofs.Ytiipcgnkfhjpeaa
