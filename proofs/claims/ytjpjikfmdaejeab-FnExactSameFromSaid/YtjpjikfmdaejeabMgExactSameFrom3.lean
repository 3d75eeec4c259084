/-
  A GRAPH IN ROWS OF ITS OWN, all distinct: the laws' marks (markCellS) and their re-reading (heldCellS), with what stands there.
-/
import Derived.Test.YtjpjikfmdaejeabMgExactSameFrom2
import Derived.Test.YtjpjikfmdaejeabMgExactSameFrom1
import Derived.Deep.DeepCutAuto
import Derived.Deep.RegionWith
import Derived.Deep.RegionHeld3
import Derived.Laws.OwnMore
import Derived.Maps.OwnSet
namespace Go.Proofs.Ytjpjikfmdaejeab
set_option linter.unusedVariables false
set_option linter.unusedSimpArgs false
open Go.RowKit

/-- the operands of a cell, in the row blk -/
def KRow (w : World) (fp : List Nat) (xs : List Int) (blk : Nat) (v : Value) : Prop :=
  ∃ ad cap, v = .slice ad xs.length cap ∧ xs.length ≤ cap ∧ cap ≤ maxLen ∧ (xs = [] ∨ ∃ f, ad = some ⟨blk, 0, none⟩ ∧ blk ∈ fp ∧ w.rowIs blk 3 cap f ∧ ∀ i (h : i < xs.length), f i = .int .i64 xs[i])
/-- the cells, in the row b; the operands of cell i in the row kb i -/
def GRow (w : World) (fp : List Nat) (b cap : Nat) (kb : Nat → Nat) (g : List Ce) : Prop :=
  ∃ f, w.rowIs b 60 (cap * 3) f ∧ ∀ i (h : i < g.length), f (i * 3) = .int .i64 g[i].op ∧ f (i * 3 + 1) = .int .i64 g[i].num ∧ KRow w fp g[i].kids (kb i) (f (i * 3 + 2))
/-- two rows of operands are two blocks -/
def Dist (kb : Nat → Nat) (g : List Ce) : Prop := ∀ i j (hi : i < g.length) (hj : j < g.length), i ≠ j → g[i].kids ≠ [] → g[j].kids ≠ [] → kb i ≠ kb j
/-- a slice value that holds a graph in rows of its own -/
def GOwn (w : World) (fp : List Nat) (g : List Ce) (v : Value) : Prop :=
  (∀ i (h : i < g.length), I64 g[i].op ∧ I64 g[i].num) ∧ ∃ ad cap, v = .slice ad g.length cap ∧ g.length ≤ cap ∧ cap ≤ maxLen ∧ (g = [] ∨ ∃ b kb, ad = some ⟨b, 0, none⟩ ∧ b ∈ fp ∧ GRow w fp b cap kb g ∧ Dist kb g)

theorem KRow.keep {w w' : World} {fp fp' : List Nat} {xs : List Int} {blk : Nat} {v : Value} (h : KRow w fp xs blk v) (hf : xs ≠ [] → blk ∈ fp → blk ∈ fp') (hb : xs ≠ [] → blk ∈ fp → w'.heap[blk]? = w.heap[blk]?) : KRow w' fp' xs blk v := by
  obtain ⟨ad, cap, e, l1, l2, h⟩ := h
  refine ⟨ad, cap, e, l1, l2, ?_⟩
  by_cases hx : xs = []
  · exact Or.inl hx
  · rcases h with h | ⟨f, rfl, h1, h2, h3⟩
    · exact absurd h hx
    · exact Or.inr ⟨f, rfl, hf hx h1, h2.of_block (hb hx h1), h3⟩
theorem GOwn.keep {w w' : World} {fp : List Nat} {g : List Ce} {v : Value} (h : GOwn w fp g v) (hb : ∀ k ∈ fp, k < w.heap.size → w'.heap[k]? = w.heap[k]?) : GOwn w' fp g v := by
  obtain ⟨hi, ad, cap, e, l1, l2, h⟩ := h
  refine ⟨hi, ad, cap, e, l1, l2, h.imp id ?_⟩
  rintro ⟨b, kb, rfl, h1, ⟨f, hr, hf⟩, hd⟩
  refine ⟨b, kb, rfl, h1, ⟨f, hr.of_block (hb b h1 hr.lt), fun i h => ?_⟩, hd⟩
  obtain ⟨e0, e1, e2⟩ := hf i h
  refine ⟨e0, e1, e2.keep (fun _ h => h) fun hx hm => ?_⟩
  obtain ⟨_, _, _, _, _, h5⟩ := e2
  rcases h5 with h5 | ⟨f5, -, -, h6, -⟩
  · exact absurd h5 hx
  · exact hb _ hm h6.lt
/-- .. as cells that lie in a world -/
theorem GOwn.inn {w : World} {fp : List Nat} {g : List Ce} {v : Value} (h : GOwn w fp g v) : CIn w g v := by
  obtain ⟨hi, ad, cap, e, l1, l2, h⟩ := h
  refine ⟨ad, cap, e, l1, l2, h.imp id ?_⟩
  rintro ⟨b, kb, rfl, h1, ⟨f, hr, hf⟩, hd⟩
  refine ⟨b, 0, rfl, hr.lt, fun i h => ?_⟩
  obtain ⟨e0, e1, e2⟩ := hf i h
  refine ⟨f (i * 3 + 2), ?_, ?_, ?_, (hi i h).1, (hi i h).2, ?_⟩
  · rw [Nat.zero_add, hr.cell (by omega), e0]
  · rw [Nat.zero_add, hr.cell (by omega), e1]
  · rw [Nat.zero_add, hr.cell (by omega)]
  · obtain ⟨ad2, cap2, e3, l3, l4, h5⟩ := e2
    refine ⟨ad2, cap2, e3, l3, l4, h5.imp id ?_⟩
    rintro ⟨f5, rfl, -, h6, h7⟩
    exact ⟨_, 0, rfl, h6.lt, fun j hj => by rw [Nat.zero_add, h6.cell (by omega), h7 j hj]⟩

/-! ### The labels -/
/-- the number that stands at cell i -/
def cLab (g : List Ce) (k : Int) (i : Nat) : Int := k + 2 * (i : Int) + (sumK (g.take i) : Int)
theorem cLab_zero (g : List Ce) (k : Int) : cLab g k 0 = k := by simp [cLab, sumK]
theorem cLab_succ (g : List Ce) (k : Int) (i : Nat) (hi : i < g.length) : cLab g k (i + 1) = cLab g k i + 2 + (g[i].kids.length : Int) := by
  unfold cLab; rw [sumK_take_succ g i hi]; push_cast; omega
theorem cLab_le (g : List Ce) (k : Int) (i : Nat) (hi : i ≤ g.length) : k ≤ cLab g k i ∧ cLab g k i ≤ k + 2 * (g.length : Int) + (sumK g : Int) := by
  have := sumK_take_le g i
  unfold cLab; omega
theorem cLab_end (g : List Ce) (k : Int) : cLab g k g.length = k + 2 * (g.length : Int) + (sumK g : Int) := by simp [cLab]
/-- a marked cell -/
def markedC (l : Int) (n : Nat) : Ce := ⟨l, l + 1, upFrom (l + 2) n⟩
def labC (g : List Ce) (k : Int) : List Ce := (List.range g.length).map fun i => markedC (cLab g k i) ((g.getD i ⟨0, 0, []⟩).kids.length)
theorem labC_length (g : List Ce) (k : Int) : (labC g k).length = g.length := by simp [labC]
theorem labC_get (g : List Ce) (k : Int) (i : Nat) (hi : i < g.length) (hj : i < (labC g k).length) : (labC g k)[i] = markedC (cLab g k i) g[i].kids.length := by
  simp [labC, hi]
/-- a graph of which the first j cells are marked -/
def HalfC (g : List Ce) (k : Int) (j : Nat) (ms : List Ce) : Prop := ms.length = g.length ∧ ∀ i (hi : i < g.length) (hm : i < ms.length), ms[i] = if i < j then markedC (cLab g k i) g[i].kids.length else g[i]
theorem HalfC.zero (g : List Ce) (k : Int) : HalfC g k 0 g := ⟨rfl, fun i hi hm => by simp⟩
theorem HalfC.step {g ms : List Ce} {k : Int} {j : Nat} (h : HalfC g k j ms) (hj : j < g.length) : HalfC g k (j + 1) (ms.set j (markedC (cLab g k j) g[j].kids.length)) := by
  refine ⟨by rw [List.length_set]; exact h.1, fun i hi hm => ?_⟩
  rw [List.getElem_set]
  by_cases hij : j = i
  · subst hij; simp
  · rw [if_neg hij, h.2 i hi (by rw [h.1]; exact hi)]
    by_cases hlt : i < j
    · rw [if_pos hlt, if_pos (by omega)]
    · rw [if_neg hlt, if_neg (by omega)]
theorem HalfC.done {g ms : List Ce} {k : Int} (h : HalfC g k g.length ms) : ms = labC g k := by
  refine List.ext_getElem (by rw [h.1, labC_length]) fun i h1 h2 => ?_
  have hi : i < g.length := by rw [← h.1]; exact h1
  rw [h.2 i hi h1, if_pos hi, labC_get g k i hi]
theorem HalfC.at {g ms : List Ce} {k : Int} {j : Nat} (h : HalfC g k j ms) (hj : j < g.length) (hm : j < ms.length) : ms[j] = g[j] := by rw [h.2 j hj hm, if_neg (by omega)]
theorem HalfC.kids {g ms : List Ce} {k : Int} {j : Nat} (h : HalfC g k j ms) (i : Nat) (hi : i < g.length) (hm : i < ms.length) : ms[i].kids.length = g[i].kids.length := by
  rw [h.2 i hi hm]
  split
  · simp [markedC, upFrom_length]
  · rfl

/-- a store into the row of cells, not at an operand -/
theorem GRow.store {w : World} {fp : List Nat} {b cap : Nat} {kb : Nat → Nat} {g : List Ce} (h : GRow w fp b cap kb g) (j : Nat) (hj : j < g.length) (l : Int) :
    GRow ((w.setCell ⟨b, j * 3, none⟩ (.int .i64 l)).setCell ⟨b, j * 3 + 1, none⟩ (.int .i64 (l + 1))) fp b cap kb (g.set j ⟨l, l + 1, g[j].kids⟩) := by
  obtain ⟨f, hr, hf⟩ := h
  refine ⟨_, (hr.set (j * 3) _).set (j * 3 + 1) _, fun i hi => ?_⟩
  rw [List.length_set] at hi
  obtain ⟨e0, e1, e2⟩ := hf i hi
  have hk : KRow ((w.setCell ⟨b, j * 3, none⟩ (.int .i64 l)).setCell ⟨b, j * 3 + 1, none⟩ (.int .i64 (l + 1))) fp g[i].kids (kb i) (f (i * 3 + 2)) := by
    refine e2.keep (fun _ h => h) fun hx hm => ?_
    obtain ⟨_, _, _, _, _, h5⟩ := e2
    rcases h5 with h5 | ⟨f5, -, -, h6, -⟩
    · exact absurd h5 hx
    · have hne := rows_part hr h6
      rw [setCell_other _ _ _ hne.symm, setCell_other _ _ _ hne.symm]
  have n1 : ¬ (i * 3 + 2 = j * 3 + 1) := by omega
  have n2 : ¬ (i * 3 + 2 = j * 3) := by omega
  by_cases hij : i = j
  · subst hij
    simp only [List.getElem_set_self]
    refine ⟨by simp, by simp, ?_⟩
    simp only [if_neg n1, if_neg n2]
    exact hk
  · rw [List.getElem_set_ne (by omega)]
    have n3 : ¬ (i * 3 = j * 3 + 1) := by omega
    have n4 : ¬ (i * 3 = j * 3) := by omega
    have n5 : ¬ (i * 3 + 1 = j * 3 + 1) := by omega
    have n6 : ¬ (i * 3 + 1 = j * 3) := by omega
    refine ⟨?_, ?_, ?_⟩
    · simp only [if_neg n3, if_neg n4]; exact e0
    · simp only [if_neg n5, if_neg n6]; exact e1
    · simp only [if_neg n1, if_neg n2]; exact hk
/-- .. and the operands of that cell marked -/
theorem GRow.marked {w w' : World} {fp : List Nat} {b cap : Nat} {kb : Nat → Nat} {g : List Ce} {j : Nat} {l : Int} (hj : j < g.length) (hcap : g.length ≤ cap) (h : GRow w fp b cap kb (g.set j ⟨l, l + 1, g[j].kids⟩)) (hd : Dist kb g) {f : Nat → Value} (hr : w.rowIs b 60 (cap * 3) f)
    (hk : KRow w' fp (upFrom (l + 2) g[j].kids.length) (kb j) (f (j * 3 + 2))) (hb : ButL [kb j] w w') (hn : g[j].kids = [] → ∀ b : Nat, w'.heap[b]? = w.heap[b]?) : GRow w' fp b cap kb (g.set j (markedC l g[j].kids.length)) := by
  obtain ⟨f', hr', hf⟩ := h
  -- the two functions agree on the row
  have agree : ∀ i, i < cap * 3 → f' i = f i := by
    intro i hi
    have e1 := hr'.cell hi
    have e2 := hr.cell hi
    rw [e1] at e2
    exact Option.some.inj e2
  have hblk : ∀ x, x < w.heap.size → (x = kb j → g[j].kids = []) → w'.heap[x]? = w.heap[x]? := by
    intro x hx hxj
    by_cases e : g[j].kids = []
    · exact hn e x
    · exact hb.block x hx (by simp; intro h; exact e (hxj h))
  have hrow : w'.rowIs b 60 (cap * 3) f' := by
    refine hr'.of_block (hblk b hr'.lt fun e => ?_)
    have hjj := (hf j (by rw [List.length_set]; exact hj)).2.2
    rw [List.getElem_set_self] at hjj
    obtain ⟨_, _, _, _, _, h5⟩ := hjj
    rcases h5 with h5 | ⟨f5, -, -, h6, -⟩
    · exact h5
    · exact absurd e (rows_part hr' h6)
  refine ⟨f', hrow, fun i hi => ?_⟩
  rw [List.length_set] at hi
  have hfi := hf i (by rw [List.length_set]; exact hi)
  by_cases hij : i = j
  · subst hij
    rw [List.getElem_set_self] at hfi ⊢
    refine ⟨hfi.1, hfi.2.1, ?_⟩
    have hlt : i * 3 + 2 < cap * 3 := by omega
    rw [agree _ hlt]
    exact hk
  · rw [List.getElem_set_ne (by omega)] at hfi ⊢
    refine ⟨hfi.1, hfi.2.1, hfi.2.2.keep (fun _ h => h) fun hx hm => ?_⟩
    obtain ⟨_, _, _, _, _, h5⟩ := hfi.2.2
    rcases h5 with h5 | ⟨f5, -, -, h6, -⟩
    · exact absurd h5 hx
    · refine hblk _ h6.lt fun e => ?_
      by_cases e2 : g[j].kids = []
      · exact e2
      · exact absurd e (hd i j hi hj hij hx e2)

theorem HalfC.dist {g ms : List Ce} {k : Int} {j : Nat} {kb : Nat → Nat} (h : HalfC g k j ms) (hd : Dist kb g) : Dist kb ms := by
  intro x y hx hy hne ex ey
  have hl := h.1
  refine hd x y (by omega) (by omega) hne ?_ ?_
  · intro e
    have h1 := h.kids x (by omega) hx
    rw [e] at h1
    exact ex (List.eq_nil_of_length_eq_zero h1)
  · intro e
    have h1 := h.kids y (by omega) hy
    rw [e] at h1
    exact ey (List.eq_nil_of_length_eq_zero h1)

end Go.Proofs.Ytjpjikfmdaejeab
/-
  A GRAPH THAT CALLS BUILD BY append: the row of cells is owned, the operands lie in rows of their own.
-/
namespace Go.Proofs.Ytjpjikfmdaejeab
set_option linter.unusedVariables false
set_option linter.unusedSimpArgs false
open Go.RowKit

theorem infoC1 : ∃ i z, Try.prog.info? 60 = some i ∧ i.zero = some z ∧ i.size = 3 ∧ i.bytes = 40 ∧ z.cells.size = 3 := by
  obtain ⟨i, hi, hzz⟩ := Option.map_eq_some_iff.1 infoC
  simp only [Prod.mk.injEq] at hzz
  obtain ⟨hz, hs, hb⟩ := hzz
  exact ⟨i, _, hi, hz, hs, hb, rfl⟩
/-- the operands of a cell, in the row blk, a block of S -/
def KRowS (w : World) (S : Nat → Prop) (xs : List Int) (blk : Nat) (v : Value) : Prop :=
  ∃ ad cap, v = .slice ad xs.length cap ∧ xs.length ≤ cap ∧ cap ≤ maxLen ∧ (xs = [] ∨ ∃ f, ad = some ⟨blk, 0, none⟩ ∧ S blk ∧ w.rowIs blk 3 cap f ∧ ∀ i (h : i < xs.length), f i = .int .i64 xs[i])
theorem KRowS.keep {w w' : World} {S S' : Nat → Prop} {xs : List Int} {blk : Nat} {v : Value} (h : KRowS w S xs blk v) (hS : ∀ k, S k → k < w.heap.size → S' k) (hb : ∀ C, S blk → blk < w.heap.size → w.heap[blk]? = some (.cells C 3 (0, 0)) → w'.heap[blk]? = w.heap[blk]?) : KRowS w' S' xs blk v := by
  obtain ⟨ad, cap, e, l1, l2, h⟩ := h
  refine ⟨ad, cap, e, l1, l2, h.imp id ?_⟩
  rintro ⟨f, rfl, h1, h3, h4⟩
  obtain ⟨C, hC, -⟩ := id h3
  exact ⟨f, rfl, hS _ h1 h3.lt, h3.of_block (hb C h1 h3.lt hC), h4⟩
/-- a slice value that holds a graph that is being built: the row of cells is owned, from block lo on; the operands lie in blocks of S -/
def OwnC (w : World) (lo : Nat) (S : Nat → Prop) (g : List Ce) (v : Value) : Prop :=
  (∀ i (h : i < g.length), I64 g[i].op ∧ I64 g[i].num) ∧ ∃ (xs : List Value) (kb : Nat → Nat), w.ownsRow lo 60 3 v g.length xs ∧
    (∀ j (hj : j < g.length), ∃ kv, xs[j * 3]? = some (.int .i64 g[j].op) ∧ xs[j * 3 + 1]? = some (.int .i64 g[j].num) ∧ xs[j * 3 + 2]? = some kv ∧ KRowS w S g[j].kids (kb j) kv) ∧ Dist kb g
theorem OwnC.nil (w : World) (lo : Nat) (S : Nat → Prop) : OwnC w lo S [] (.slice none 0 0) := ⟨fun i h => absurd h (by simp), [], fun _ => 0, World.ownsRow_nil w lo _ _, fun j hj => absurd hj (by simp), fun i j hi _ => absurd hi (by simp)⟩
/-- it stays where the row of cells and all rows of ints in S stay -/
theorem OwnC.next {w w' : World} {lo : Nat} {S S' : Nat → Prop} {g : List Ce} {v : Value} (h : OwnC w lo S g v) (hS : ∀ k, S k → k < w.heap.size → S' k) (hr : ∀ k, some k = v.ownBlock → k < w.heap.size → w'.heap[k]? = w.heap[k]?) (hb : ∀ k, S k → k < w.heap.size → w'.heap[k]? = w.heap[k]?) : OwnC w' lo S' g v := by
  obtain ⟨hi0, xs, kb, h1, h2, h3⟩ := h
  refine ⟨hi0, xs, kb, ?_, fun j hj => ?_, h3⟩
  · refine ⟨h1.1, ?_⟩
    rcases h1.2 with h | ⟨b, cap, cur, rfl, hg, hh, r⟩
    · exact Or.inl h
    · exact Or.inr ⟨b, cap, cur, rfl, hg, (hr b rfl (Array.getElem?_eq_some_iff.1 hh).1).trans hh, r⟩
  · obtain ⟨kv, e0, e1, e2, e3⟩ := h2 j hj
    exact ⟨kv, e0, e1, e2, e3.keep hS fun C h1 h2 _ => hb _ h1 h2⟩
theorem OwnC.row {w : World} {lo : Nat} {S : Nat → Prop} {g : List Ce} {v : Value} (h : OwnC w lo S g v) : ∃ xs, w.ownsRow lo 60 3 v g.length xs := by
  obtain ⟨-, xs, kb, h1, -⟩ := h; exact ⟨xs, h1⟩
theorem OwnC.form {w : World} {lo : Nat} {S : Nat → Prop} {g : List Ce} {v : Value} (h : OwnC w lo S g v) : ∃ ad cap, v = .slice ad g.length cap := by
  obtain ⟨xs, h1⟩ := h.row
  rcases h1.2 with ⟨rfl, h0⟩ | ⟨b, cap, cur, rfl, -⟩
  · exact ⟨none, 0, by rw [h0]⟩
  · exact ⟨_, _, rfl⟩
/-- one cell more -/
theorem OwnC.step {w w' : World} {lo : Nat} {S : Nat → Prop} {g : List Ce} {v v' : Value} {c : Ce} {kv : Value} {blk : Nat} (h : OwnC w lo S g v)
    (hc : I64 c.op ∧ I64 c.num) (hk : KRowS w (fun b => b = blk) c.kids blk kv) (hS : ¬ S blk) (xs : List Value) (hx : w.ownsRow lo 60 3 v g.length xs)
    (hown : w'.ownsRow lo 60 3 v' (g.length + 1) (xs ++ [.int .i64 c.op, .int .i64 c.num, kv])) (hg : w.grownBy w' v.ownBlock) : OwnC w' lo (fun b => S b ∨ b = blk) (g ++ [c]) v' := by
  obtain ⟨hi0, xs2, kb, h1, h2, h3⟩ := h
  have hxs : xs2 = xs := by
    rcases h1.2 with ⟨rfl, h0⟩ | ⟨b, cap, cur, rfl, hg', hh, hn', hc', hs', htk⟩
    · have a1 := h1.1
      have a2 := hx.1
      rw [h0] at a1 a2
      rw [List.eq_nil_of_length_eq_zero (by omega : xs2.length = 0), List.eq_nil_of_length_eq_zero (by omega : xs.length = 0)]
    · rcases hx.2 with ⟨e, -⟩ | ⟨b2, cap2, cur2, e, -, hh2, -, -, -, htk2⟩
      · cases e
      · cases e
        rw [hh] at hh2
        cases hh2
        rw [← htk, ← htk2]
  subst hxs
  have hlen := h1.1
  -- a row of ints is not the row of cells
  have keep : ∀ (C : Array Value) (b : Nat), b < w.heap.size → w.heap[b]? = some (.cells C 3 (0, 0)) → w'.heap[b]? = w.heap[b]? := by
    intro C b hb hC
    refine hg.block b hb fun e => ?_
    rcases h1.2 with ⟨rfl, -⟩ | ⟨b2, cap, cur, rfl, -, hh, -⟩
    · simp [Value.ownBlock] at e
    · simp only [Value.ownBlock, Option.some.injEq] at e
      subst e
      rw [hh] at hC
      simp at hC
  refine ⟨fun i hi' => ?_, xs2 ++ [.int .i64 c.op, .int .i64 c.num, kv], fun j => if j = g.length then blk else kb j, by simpa using hown, fun j hj => ?_, ?_⟩
  · by_cases hil : i < g.length
    · rw [List.getElem_append_left hil]; exact hi0 i hil
    · have : i = g.length := by simp at hi'; omega
      subst this
      simpa using hc
  · by_cases hjl : j < g.length
    · obtain ⟨kv', e0, e1, e2, e3⟩ := h2 j hjl
      refine ⟨kv', ?_, ?_, ?_, ?_⟩
      · rw [List.getElem?_append_left (by omega), List.getElem_append_left hjl]; exact e0
      · rw [List.getElem?_append_left (by omega), List.getElem_append_left hjl]; exact e1
      · rw [List.getElem?_append_left (by omega)]; exact e2
      · simp only [if_neg (show ¬ j = g.length by omega)]
        rw [List.getElem_append_left hjl]
        exact e3.keep (fun k hk _ => Or.inl hk) fun C _ h5 hC => keep C _ h5 hC
    · have hj' : j = g.length := by simp at hj; omega
      subst hj'
      refine ⟨kv, ?_, ?_, ?_, ?_⟩
      · rw [List.getElem?_append_right (by omega)]; simp [hlen]
      · rw [List.getElem?_append_right (by omega)]; simp [hlen]
      · rw [List.getElem?_append_right (by omega)]; simp [hlen]
      · simp only [List.getElem_concat_length, if_pos]
        exact hk.keep (fun k hk _ => Or.inr hk) fun C _ h5 hC => keep C _ h5 hC
  · -- distinct
    have ne : ∀ i (hi' : i < g.length), g[i].kids ≠ [] → kb i ≠ blk := by
      intro i hi' hne e
      obtain ⟨kv', -, -, -, _, _, _, _, _, h5⟩ := h2 i hi'
      rcases h5 with h5 | ⟨f5, -, h6, -⟩
      · exact hne h5
      · exact hS (e ▸ h6)
    intro i j hi' hj' hij ei ej
    simp only [List.length_append, List.length_cons, List.length_nil] at hi' hj'
    by_cases il : i < g.length
    · rw [List.getElem_append_left il] at ei
      by_cases jl : j < g.length
      · rw [List.getElem_append_left jl] at ej
        simp only [if_neg (show ¬ i = g.length by omega), if_neg (show ¬ j = g.length by omega)]
        exact h3 i j il jl hij ei ej
      · have : j = g.length := by omega
        subst this
        simp only [if_neg (show ¬ i = g.length by omega), if_pos]
        exact ne i il ei
    · have : i = g.length := by omega
      subst this
      have jl : j < g.length := by omega
      rw [List.getElem_append_left jl] at ej
      simp only [if_neg (show ¬ j = g.length by omega), if_pos]
      exact (ne j jl ej).symm
/-- the graph, in rows of its own -/
theorem OwnC.own {w : World} {lo : Nat} {S : Nat → Prop} {g : List Ce} {v : Value} (h : OwnC w lo S g v) (hS : ∀ k, S k → k < w.heap.size → lo ≤ k) : GOwn w (List.range' lo (w.heap.size - lo)) g v := by
  obtain ⟨hi0, xs, kb, h1, h2, h3⟩ := h
  refine ⟨hi0, ?_⟩
  rcases h1.2 with ⟨rfl, h0⟩ | ⟨b, cap, cur, rfl, hg, hh2, hn, hc, hs, htk⟩
  · obtain rfl : g = [] := List.eq_nil_of_length_eq_zero h0
    exact ⟨none, 0, rfl, Nat.le_refl _, by simp [maxLen], Or.inl rfl⟩
  · have hbl : b < w.heap.size := (Array.getElem?_eq_some_iff.1 hh2).1
    refine ⟨_, cap, rfl, hn, hc, Or.inr ⟨b, kb, rfl, by rw [List.mem_range'_1]; omega, ⟨fun i => cur.getD i undef, ⟨cur, hh2, hs, fun i hi => by simp [Array.getD, show i < cur.size by omega]⟩, fun i hi => ?_⟩, h3⟩⟩
    obtain ⟨kv, e0, e1, e2, e3⟩ := h2 i hi
    have get : ∀ m u, m < g.length * 3 → xs[m]? = some u → cur.getD m undef = u := by
      intro m u hm hu
      rw [← htk, List.getElem?_take_of_lt hm] at hu
      have hmc : m < cur.size := by omega
      simp [hmc] at hu
      simp [Array.getD, hmc, hu]
    refine ⟨get _ _ (by omega) e0, get _ _ (by omega) e1, ?_⟩
    simp only []
    rw [get _ _ (by omega) e2]
    obtain ⟨ad2, cap2, e4, l1, l2, h5⟩ := e3
    refine ⟨ad2, cap2, e4, l1, l2, h5.imp id ?_⟩
    rintro ⟨f, rfl, h6, h8, h9⟩
    exact ⟨f, rfl, by rw [List.mem_range'_1]; have := h8.lt; have := hS _ h6 h8.lt; omega, h8, h9⟩
/-- a list of operands that a call has built by append -/
theorem stk_krow {w : World} {lo : Nat} {ws : List Nat} {v : Value} (h : Stk w lo ws v) : ∃ blk, (ws ≠ [] → v.ownBlock = some blk) ∧ KRowS w (fun b => b = blk) (ws.map fun (a : Nat) => (a : Int)) blk v := by
  obtain ⟨ad, cap, e, l1, l2, h5⟩ := h.row
  rcases h5 with h5 | ⟨g, f, rfl, h6, h7, h8⟩
  · have hw : ws = [] := by simpa using h5
    exact ⟨0, fun hx => absurd hw hx, ad, cap, e, l1, l2, Or.inl h5⟩
  · exact ⟨g, fun _ => by rw [e]; rfl, _, cap, e, l1, l2, Or.inr ⟨f, rfl, rfl, h7, h8⟩⟩
theorem news3c (w : World) (a b c : Value) (j : Nat) (u : Value) (h : [a, b, c][j]? = some u) : (w.alloc (.cells #[a, b, c] 60)).cell? ((⟨w.heap.size, 0, none⟩ : Addr).add j) = some u := by
  rw [WideShapes.add_plain, Nat.zero_add]
  exact box_cell w #[a, b, c] _ j u (by simpa using h)
theorem stk_form {w : World} {lo k : Nat} {ws : List Nat} {n : Nat} {v : Value} (h : Stk w lo (ws ++ [n]) v) (hk : ws.length = k) : ∃ ad cap, v = .slice ad (k + 1) cap := by
  obtain ⟨a, c, e⟩ := h.len
  exact ⟨a, c, by rw [e, List.length_append, hk]; rfl⟩
end Go.Proofs.Ytjpjikfmdaejeab
/-
  THE MODEL's l3Copy: a copy of a graph, in new memory.
-/
namespace Go.Proofs.Ytjpjikfmdaejeab
set_option linter.unusedVariables false
set_option linter.unusedSimpArgs false
open Go.RowKit

/-- a copy of a graph, in rows of its own from block w.heap.size on -/
def CopyRes (g : List Ce) (w : World) (e : Ending) (w' : World) : Prop := ∃ gv, e = .returned gv ∧ OwnC w' w.heap.size (fun b => w.heap.size ≤ b) g gv ∧ Below w.heap.size w w'

/-- one cell more, with operands in a new row -/
theorem copy_push {wr w1 w3 : World} {lo : Nat} {G : List Ce} {v v' kv : Value} {ws : List Nat} {o n : Int} (h : OwnC wr lo (fun b => lo ≤ b) G v) (hlo : lo ≤ wr.heap.size) (h1 : Below wr.heap.size wr w1) (hst : Stk w1 wr.heap.size ws kv) (obj : Obj) {xs : List Value}
    (hx : (w1.alloc obj).ownsRow lo 60 3 v G.length xs) (hown : w3.ownsRow lo 60 3 v' (G.length + 1) (xs ++ [.int .i64 o, .int .i64 n, kv])) (hg : (w1.alloc obj).grownBy w3 v.ownBlock) (ho : I64 o) (hn : I64 n) :
    OwnC w3 lo (fun b => lo ≤ b) (G ++ [⟨o, n, ws.map fun (a : Nat) => (a : Int)⟩]) v' := by
  have hs1 := h1.size
  obtain ⟨ys, hy⟩ := h.row
  have h4 : OwnC (w1.alloc obj) lo (fun b => lo ≤ b ∧ b < wr.heap.size) G v := h.next (fun b hb hb2 => ⟨hb, hb2⟩) (fun b _ hb => (Deep.blk_alloc_lt _ _ _ (by omega)).trans (h1.block b hb)) (fun b _ hb => (Deep.blk_alloc_lt _ _ _ (by omega)).trans (h1.block b hb))
  obtain ⟨blk, hb1, hb3⟩ : ∃ blk, wr.heap.size ≤ blk ∧ KRowS (w1.alloc obj) (fun b => b = blk) (ws.map fun (a : Nat) => (a : Int)) blk kv := by
    obtain ⟨blk, h1, h2⟩ := stk_krow (hst.alloc obj)
    by_cases he : ws = []
    · obtain ⟨ad, cap, e, l1, l2, -⟩ := h2
      exact ⟨wr.heap.size, Nat.le_refl _, ad, cap, e, l1, l2, Or.inl (by rw [he]; rfl)⟩
    · exact ⟨blk, (own_some hst blk (h1 he)).1, h2⟩
  have h5 := h4.step (c := ⟨o, n, ws.map fun (a : Nat) => (a : Int)⟩) (v' := v') ⟨ho, hn⟩ hb3 (fun h => by have := h.2; omega) xs hx hown hg
  refine h5.next (fun b hb _ => ?_) (fun _ _ _ => rfl) (fun _ _ _ => rfl)
  rcases hb with hb | rfl
  · exact hb.1
  · omega

theorem copy_below {wr w1 : World} {o : Obj} (h : (wr.alloc o).drew.grownBy w1 (Value.slice (some ⟨wr.heap.size, 0, none⟩) 0 0).ownBlock) : Below wr.heap.size wr w1 :=
  ⟨h.os, h.tape, h.output, by have h1 : (wr.alloc o).heap.size ≤ w1.heap.size := h.size; rw [Deep.nblk_alloc] at h1; omega, fun k hk => (h.block k (by show k < (wr.alloc o).heap.size; rw [Deep.nblk_alloc]; omega) (by simp only [Value.ownBlock, ne_eq, Option.some.injEq]; omega)).trans (Deep.blk_alloc_lt _ _ _ hk)⟩
theorem copy_own {wr w1 : World} {lo n : Nat} {v : Value} {xs : List Value} (h : wr.ownsRow lo 60 3 v n xs) (hb : Below wr.heap.size wr w1) (o : Obj) : (w1.alloc o).ownsRow lo 60 3 v n xs := by
  refine ⟨h.1, ?_⟩
  have hs := hb.size
  rcases h.2 with h' | ⟨g, cap, cur, rfl, hg, hh, r⟩
  · exact Or.inl h'
  · have hl := (Array.getElem?_eq_some_iff.1 hh).1
    exact Or.inr ⟨g, cap, cur, rfl, hg, ((Deep.blk_alloc_lt _ _ _ (by omega)).trans (hb.block g hl)).trans hh, r⟩

theorem copy_below3 {w wr w1 w3 : World} {n : Nat} {v : Value} {xs : List Value} {o : Obj} (hb : Below w.heap.size w wr) (h1 : Below wr.heap.size wr w1) (hx : wr.ownsRow w.heap.size 60 3 v n xs) (hg : (w1.alloc o).grownBy w3 v.ownBlock) : Below w.heap.size w w3 := by
  have hs := hb.size
  have hs1 := h1.size
  have hs3 := hg.size
  rw [Deep.nblk_alloc] at hs3
  exact ⟨(hg.os.trans h1.os).trans hb.os, (hg.tape.trans h1.tape).trans hb.tape, (hg.output.trans h1.output).trans hb.output, by omega, fun k hk => (((hg.block k (by rw [Deep.nblk_alloc]; omega) (fun e => by have := (own_some hx k e.symm).1; omega)).trans (Deep.blk_alloc_lt _ _ _ (by omega))).trans (h1.block k (by omega))).trans (hb.block k hk)⟩

end Go.Proofs.Ytjpjikfmdaejeab
/-
  PLAIN: what CopyGraph, CopyOrder and CollectGraph answer. No program is named here.
-/
namespace Go.Proofs.Ytjpjikfmdaejeab
set_option linter.unusedVariables false
set_option linter.unusedSimpArgs false

theorem order_closed {g : List Ce} {roots : List Nat} (hg : graphB g 6 = true) (hr : ∀ x ∈ roots, x < g.length) : ∀ a ∈ orderG g roots, ∀ k ∈ kidsN g a, k ∈ orderG g roots := by
  obtain ⟨i, h, hi⟩ := order_rel hg hr
  intro a ha k hk
  obtain ⟨j, hj, rfl⟩ := List.getElem_of_mem ha
  refine h.cl j (by omega) k ?_
  rw [getD_at _ _ _ hj]; exact hk
theorem order_cs {g : List Ce} {roots : List Nat} (hg : graphB g 6 = true) (hr : ∀ x ∈ roots, x < g.length) : Cs g.length (orderG g roots) := by
  obtain ⟨i, h, hi⟩ := order_rel hg hr
  exact h.cs
theorem order_root {g : List Ce} {roots : List Nat} (hg : graphB g 6 = true) (hr : ∀ x ∈ roots, x < g.length) : ∀ x ∈ roots, x ∈ orderG g roots := by
  obtain ⟨i, h, hi⟩ := order_rel hg hr
  exact h.rt
/-- what CopyGraph answers, but for whether -/
def copyO (g : List Ce) (rs : List Int) : List Ce × List Nat := if rootB g rs = true then (copyG g (natL rs), topsG g (natL rs)) else ([], [])
theorem copyO_no {g : List Ce} {rs : List Int} (h : rootB g rs = false) : copyO g rs = ([], []) := by unfold copyO; rw [if_neg (by rw [h]; simp)]
theorem copyO_yes {g : List Ce} {rs : List Int} (h : rootB g rs = true) : copyO g rs = (copyG g (natL rs), topsG g (natL rs)) := by unfold copyO; rw [if_pos h]
/-- what CopyOrder answers -/
def orderO (g : List Ce) (rs : List Int) : List Nat := if rootB g rs = true then orderG g (natL rs) else []
theorem orderO_no {g : List Ce} {rs : List Int} (h : rootB g rs = false) : orderO g rs = [] := by unfold orderO; rw [if_neg (by rw [h]; simp)]
theorem orderO_yes {g : List Ce} {rs : List Int} (h : rootB g rs = true) : orderO g rs = orderG g (natL rs) := by unfold orderO; rw [if_pos h]

/-! ### Past indirections -/
def skipN (g : List Ce) (a : Nat) : Nat := (followN g g.length a).getD a
def shortC (g : List Ce) (c : Ce) : Ce := ⟨c.op, c.num, (c.kids.map Int.toNat).map fun k => (skipN g k : Int)⟩
def shortG (g : List Ce) : List Ce := g.map (shortC g)
theorem skip_lt {g : List Ce} {defs : Int} (h : graphB g defs = true) {a : Nat} (ha : a < g.length) : skipN g a < g.length := by
  unfold skipN
  cases hf : followN g g.length a with
  | none => exact ha
  | some b => exact (followN_lt h _ a b ha hf).1
theorem shortG_len (g : List Ce) : (shortG g).length = g.length := by simp [shortG]
theorem shortG_at (g : List Ce) (i : Nat) (h : i < g.length) : (shortG g)[i]'(by rw [shortG_len]; exact h) = shortC g g[i] := by simp [shortG]
theorem shortG_valid {g : List Ce} {defs : Int} (h : graphB g defs = true) : graphB (shortG g) defs = true := by
  have h' := h
  unfold graphB at h ⊢
  simp only [Bool.and_eq_true, List.all_eq_true, decide_eq_true_eq] at h ⊢
  rw [shortG_len]
  refine ⟨h.1, fun c hc => ?_⟩
  obtain ⟨i, hi, rfl⟩ := List.getElem_of_mem hc
  rw [shortG_len] at hi
  rw [shortG_at g i hi]
  have hc := graphB_cell h' i hi
  unfold cellB fitsB shortC at *
  simp only [Bool.and_eq_true, decide_eq_true_eq, List.length_map] at hc ⊢
  refine ⟨hc.1, ?_⟩
  rw [List.all_eq_true]
  intro x hx
  simp only [List.mem_map] at hx
  obtain ⟨k, ⟨y, hy, rfl⟩, rfl⟩ := hx
  have hy2 := (kids_graph h' i hi).2 y hy
  have := skip_lt h' (a := y.toNat) (by omega)
  simp only [isAt, decide_eq_true_eq]
  omega
/-- what CollectGraph answers -/
def collO (g : List Ce) (rs : List Int) : List Ce × List Nat := if rootB g rs = true then (copyG (shortG g) ((natL rs).map (skipN g)), topsG (shortG g) ((natL rs).map (skipN g))) else ([], [])
theorem collO_no {g : List Ce} {rs : List Int} (h : rootB g rs = false) : collO g rs = ([], []) := by unfold collO; rw [if_neg (by rw [h]; simp)]
theorem collO_yes {g : List Ce} {rs : List Int} (h : rootB g rs = true) : collO g rs = (copyG (shortG g) ((natL rs).map (skipN g)), topsG (shortG g) ((natL rs).map (skipN g))) := by unfold collO; rw [if_pos h]
theorem coll_lt {g : List Ce} {rs : List Int} (h : rootB g rs = true) : ∀ x ∈ (natL rs).map (skipN g), x < (shortG g).length := by
  intro x hx
  simp only [List.mem_map] at hx
  obtain ⟨a, ha, rfl⟩ := hx
  rw [shortG_len]
  exact skip_lt (rootB_iff.1 h).1 (root_lt h a ha)

/-! ### How large -/
theorem kidsSum_le3 : ∀ (g : List Ce), (∀ c ∈ g, c.kids.length ≤ 3) → sumK g ≤ 3 * g.length
  | [], _ => by simp [sumK]
  | c :: g, h => by
    have h1 := h c (List.mem_cons_self ..)
    have h2 := kidsSum_le3 g fun d hd => h d (List.mem_cons_of_mem _ hd)
    have h3 : sumK (c :: g) = c.kids.length + sumK g := by simp [sumK]
    rw [h3]
    simp only [List.length_cons]
    omega
theorem copyG_small {g : List Ce} {roots : List Nat} (hg : graphB g 6 = true) (hr : ∀ x ∈ roots, x < g.length) : (copyG g roots).length + sumK (copyG g roots) ≤ 2000 := by
  have hl := (order_cs hg hr).len
  have h4 := graphB_len hg
  have h3 : sumK (copyG g roots) ≤ 3 * (copyG g roots).length := by
    refine kidsSum_le3 _ fun c hc => ?_
    unfold copyG at hc
    simp only [List.mem_map] at hc
    obtain ⟨a, ha, rfl⟩ := hc
    simp only [cpCell, List.length_map]
    exact kidsN_len hg a ((order_cs hg hr).2 a ha)
  rw [copyG_len] at h3 ⊢
  omega
theorem copyO_small (g : List Ce) (rs : List Int) : (copyO g rs).1.length + sumK (copyO g rs).1 ≤ 2000 ∧ (copyO g rs).2.length ≤ 2000 := by
  cases h : rootB g rs with
  | false => rw [copyO_no h]; simp [sumK]
  | true =>
    rw [copyO_yes h]
    refine ⟨copyG_small (rootB_iff.1 h).1 (root_lt h), ?_⟩
    have := (rootB_iff.1 h).2.1
    simp only [topsG, List.length_map, natL_len]; omega
theorem orderO_small (g : List Ce) (rs : List Int) : (orderO g rs).length ≤ 2000 := by
  cases h : rootB g rs with
  | false => rw [orderO_no h]; simp
  | true =>
    rw [orderO_yes h]
    have := (order_cs (rootB_iff.1 h).1 (root_lt h)).len
    have := graphB_len (rootB_iff.1 h).1
    omega
theorem collO_small (g : List Ce) (rs : List Int) : (collO g rs).1.length + sumK (collO g rs).1 ≤ 2000 ∧ (collO g rs).2.length ≤ 2000 := by
  cases h : rootB g rs with
  | false => rw [collO_no h]; simp [sumK]
  | true =>
    rw [collO_yes h]
    refine ⟨copyG_small (shortG_valid (rootB_iff.1 h).1) (coll_lt h), ?_⟩
    have := (rootB_iff.1 h).2.1
    simp only [topsG, List.length_map, natL_len]; omega
end Go.Proofs.Ytjpjikfmdaejeab
/-
  THE MODEL's l5Copy: a copy of the cells in their order.
-/
namespace Go.Proofs.Ytjpjikfmdaejeab
set_option linter.unusedVariables false
set_option linter.unusedSimpArgs false
open Go.RowKit

theorem OwnC.lower {w : World} {lo lo' : Nat} {S S' : Nat → Prop} {g : List Ce} {v : Value} (h : OwnC w lo S g v) (hl : lo' ≤ lo) (hS : ∀ b, S b → S' b) : OwnC w lo' S' g v := by
  obtain ⟨h0, xs, kb, h1, h2, h3⟩ := h
  refine ⟨h0, xs, kb, ⟨h1.1, ?_⟩, fun j hj => ?_, h3⟩
  · rcases h1.2 with h | ⟨b, cap, cur, rfl, hg, r⟩
    · exact Or.inl h
    · exact Or.inr ⟨b, cap, cur, rfl, Nat.le_trans hl hg, r⟩
  · obtain ⟨kv, e0, e1, e2, e3⟩ := h2 j hj
    exact ⟨kv, e0, e1, e2, e3.keep (fun k hk _ => hS k hk) fun _ _ _ _ => rfl⟩
/-- a copied graph and the places of its roots, in new rows -/
def NewGI (g : List Ce) (ts : List Nat) (w : World) (e : Ending) (w' : World) : Prop :=
  ∃ gv tv, e = .returned (.tuple #[gv, tv]) ∧ OwnC w' w.heap.size (fun b => w.heap.size ≤ b) g gv ∧ Stk w' w.heap.size ts tv ∧ Below w.heap.size w w'
/-- the box of a copy while its operands are gathered in kv -/
structure CpRel (wo : World) (o n : Int) (ws : List Nat) (kv : Value) (wr : World) : Prop where
  box : wr.heap[wo.heap.size]? = some (.cells #[.int .i64 o, .int .i64 n, kv] 60)
  kids : Stk wr (wo.heap.size + 1) ws kv
  bel : Below wo.heap.size wo wr

theorem push_keep {w w5 : World} {B : Nat} {ws : List Nat} {v : Value} (hst : Stk w (B + 1) ws v) (hg : w.grownBy w5 v.ownBlock) {b : Nat} (hb : b ≤ B) (hl : b < w.heap.size) : w5.heap[b]? = w.heap[b]? :=
  hg.block b hl fun e => by have := own_lo hst e; omega
theorem cell_push {w w5 : World} {B : Nat} {ws : List Nat} {v : Value} {p : Addr} {u : Value} (h : w.cell? p = some u) (hst : Stk w (B + 1) ws v) (hg : w.grownBy w5 v.ownBlock) (hb : p.block ≤ B) : w5.cell? p = some u :=
  (World.cell?_of_block (push_keep hst hg hb (cell_lt h))).trans h
theorem frz_push {w w5 : World} {B : Nat} {ws : List Nat} {v : Value} {b : Nat} {C : Array Value} {T : TypeId} (h : w.heap[b]? = some (.cells C T)) (hst : Stk w (B + 1) ws v) (hg : w.grownBy w5 v.ownBlock) (hb : b ≤ B) (i : Nat) : w5.frozen? ⟨b, i, none⟩ = false :=
  frz_of_blk ((push_keep hst hg hb (Array.getElem?_eq_some_iff.1 h).1).trans h) i

theorem cp_step {wo wr w5 : World} {o n : Int} {ws : List Nat} {kv kv' : Value} {m : Nat} {obj : Obj} (h : CpRel wo o n ws kv wr) (hst : Stk w5 (wo.heap.size + 1) (ws ++ [m]) kv') (hg : (wr.alloc obj).drew.grownBy w5 kv.ownBlock) :
    CpRel wo o n (ws ++ [m]) kv' (w5.setCell ⟨wo.heap.size, 2, none⟩ kv') := by
  have hl := (Array.getElem?_eq_some_iff.1 h.box).1
  have hk : Stk (wr.alloc obj).drew (wo.heap.size + 1) ws kv := h.kids.alloc obj
  have hb : Below wo.heap.size wo (wr.alloc obj).drew := (h.bel.alloc h.bel.size obj).drew
  refine ⟨box_set (c := kv) ?_ _, hst.keep fun b h1 h2 => Below.heap_setCell _ _ _ _ (by show b ≠ wo.heap.size; omega), (push_below hk hb (Nat.le_succ _) hg (Nat.le_refl _)).setCell (Nat.le_refl _) _⟩
  refine (push_keep hk hg (Nat.le_refl _) (by show wo.heap.size < (wr.alloc obj).heap.size; rw [Deep.nblk_alloc]; omega)).trans ((Deep.blk_alloc_lt _ _ _ hl).trans h.box)

set_option maxRecDepth 100000 in
set_option maxHeartbeats 3200000 in
theorem l5Copy_calls (g : List Ce) (rs : List Nat) (v rv : Value) (w : World) (hk : CIn w g v) (hr : IIn w (plI rs) rv) (hg : graphB g 6 = true) (hlt : ∀ x ∈ rs, x < g.length) (h20 : rs.length ≤ 20) :
    Calls Try.prog 33 #[v, rv] w (NewGI (copyG g rs) (topsG g rs) w) := by
  have HK : Hid (CIn w g v) := hk
  have HR : Hid (IIn w (plI rs) rv) := hr
  have HG : Hid (graphB g 6 = true) := hg
  have HLT : Hid (∀ x ∈ rs, x < g.length) := hlt
  have h400 : g.length ≤ 400 := graphB_len hg
  have HVC : Hid (copyG g rs = (orderG g rs).map (cpCell g (orderG g rs))) := rfl
  have HVT : Hid (topsG g rs = rs.map (posN (orderG g rs))) := rfl
  obtain ⟨o, hoo⟩ : ∃ o, o = orderG g rs := ⟨_, rfl⟩
  have HOO : Hid (o = orderG g rs) := hoo
  have HCS : Hid (Cs g.length o) := by rw [hoo]; exact order_cs hg hlt
  have HCL : Hid (∀ a ∈ o, ∀ k ∈ kidsN g a, k ∈ o) := by rw [hoo]; exact order_closed hg hlt
  have HRT : Hid (∀ x ∈ rs, x ∈ o) := by rw [hoo]; exact order_root hg hlt
  have hol : o.length ≤ g.length := HCS.out.len
  obtain ⟨ad, cap, rfl, hl, hm, -⟩ := hk
  obtain ⟨adr, capr, rfl, hlr, hmr⟩ := pl_form hr
  unfold maxLen at hm hmr
  clear hg hlt hr hoo
  go_enter Try.func33, Try.ntmps33
  go_wp2_with fail
  refine (l5Order_calls g rs _ _ _ HK.out HR.out HG.out HLT.out h20).mono ?_
  rintro e w1 ⟨ov, rfl, hst, hb1⟩
  rw [← HOO.out] at hst
  have HS1 : Hid (IIn w1 (plI o) ov) := hst.pin
  have HB1 : Hid (Below w.heap.size w w1) := hb1
  obtain ⟨ado, capo, rfl, hlo, hmo⟩ := pl_form hst.pin
  unfold maxLen at hmo
  clear hst hb1
  go_wp2_with fail
  refine (l5Places_calls g.length o _ _ HS1.out HCS.out h400).mono ?_
  rintro e w2 ⟨bp, rfl, hbp, hpl, hb2⟩
  have HPL : Hid (PlW w2 bp g.length o) := hpl
  have hbpl : bp < w2.heap.size := hpl.lt
  have HS2 : Hid (IIn w2 (plI o) (.slice ado o.length capo)) := HS1.out.next hb2
  have HB2 : Hid (Below w.heap.size w w2) := HB1.out.trans (hb2.mono HB1.out.size)
  have HSTA : Hid (OwnC (w2.alloc (.cells #[] 60)) w2.heap.size (fun b => w2.heap.size ≤ b) ((o.take 0).map (cpCell g o)) (.slice (some ⟨w2.heap.size, 0, none⟩) 0 0)) :=
    ⟨fun i h => absurd h (by simp), [], fun _ => 0, ⟨rfl, Or.inr ⟨w2.heap.size, 0, #[], rfl, Nat.le_refl _, Deep.blk_alloc_new _ _, Nat.le_refl _, by simp [maxLen], rfl, rfl⟩⟩, fun j hj => absurd hj (by simp), fun i j hi _ => absurd hi (by simp)⟩
  clear hpl hb2
  go_wp2_with fail
  go_loopw [8, 9] (fun out i wr => ∃ k : Nat, k ≤ o.length ∧ i = .int .i64 k ∧ OwnC wr w2.heap.size (fun b => w2.heap.size ≤ b) ((o.take k).map (cpCell g o)) out ∧ Below w2.heap.size w2 wr) (fun _ i _ => o.length - (intOf i).toNat)
  case atStart => exact ⟨0, Nat.zero_le _, rfl, HSTA.out, box_below _ _⟩
  case round =>
    obtain ⟨k, hk, rfl, hown, hb⟩ := hrel
    obtain ⟨wo, rfl⟩ : ∃ wo : World, wo = wr := ⟨_, rfl⟩
    have HO : Hid (OwnC wo w2.heap.size (fun b => w2.heap.size ≤ b) ((o.take k).map (cpCell g o)) u8) := hown
    have HB : Hid (Below w2.heap.size w2 wo) := hb
    have hsz := hb.size
    have HTL : Hid (((o.take k).map (cpCell g o)).length = k) := by rw [Hid, List.length_map, List.length_take]; omega
    obtain ⟨ad8, cap8, rfl⟩ := hown.form
    rw [HTL.out]
    by_cases hlt : k < o.length
    · obtain ⟨blo, offo, a, rfl, hblo, ha, ham, dow⟩ := pl_at HS2.out k hlt
      have hal := HCS.out.2 a ham
      obtain ⟨bl, off, r2, rfl, c0w, c1w, c2w, io, iN, hkk⟩ := (HK.out.next HB2.out).at a hal
      have HLW : Hid (bl < w2.heap.size) := cell_lt c0w
      have c0 := (hb.cell (p := ⟨bl, off + a * 3, none⟩) HLW.out).trans c0w
      have c1 := (hb.cell (p := ⟨bl, off + a * 3 + 1, none⟩) HLW.out).trans c1w
      have co := (hb.cell (p := ⟨blo, offo + k, none⟩) hblo).trans dow
      have HC2 : Hid (w2.cell? ⟨bl, off + a * 3 + 2, none⟩ = some r2) := c2w
      have HD : Hid (w2.cell? ⟨blo, offo + k, none⟩ = some (.int .i64 (a : Int))) := dow
      have HKK : Hid (IIn w2 (plI (kidsN g a)) r2) := kids_pl HG.out hal hkk
      have HIO : Hid (I64 g[a].op ∧ I64 g[a].num) := ⟨io, iN⟩
      clear c0w c1w c2w dow hkk hown hb io iN
      have lo1 := cell_lt co
      have lg1 := cell_lt c0
      go_wp2_with fail
      go_region_held3 (fun w' => w'.cell? ⟨blo, offo + k, none⟩ = some (.int .i64 (a : Int)) ∧ w'.cell? ⟨bl, off + a * 3, none⟩ = some (.int .i64 g[a].op) ∧ w'.cell? ⟨bl, off + a * 3 + 1, none⟩ = some (.int .i64 g[a].num))
        (first
          | go_keep
          | exact ⟨co, c0, c1⟩
          | exact ⟨old_cell co _, old_cell c0 _, old_cell c1 _⟩)
        (first
          | fail)
      obtain ⟨ks, hks⟩ : ∃ ks, ks = kidsN g a := ⟨_, rfl⟩
      rw [← hks] at HKK
      have HKS : Hid (ks = kidsN g a) := hks
      obtain ⟨adk, capk, rfl, hlk, hmk⟩ := pl_form HKK.out
      unfold maxLen at hmk
      have hk3 : ks.length ≤ 3 := by rw [hks]; exact kidsN_len HG.out a hal
      have HKL : Hid (∀ x ∈ ks, x < g.length ∧ x ∈ o) := by rw [hks]; exact fun x hx => ⟨kidsN_lt HG.out a hal x hx, HCL.out a ham x hx⟩
      have HCP0 : Hid (CpRel wo g[a].op g[a].num ((ks.take 0).map (posN o)) (.slice none 0 0) ((wo.alloc (.cells #[.int .i64 g[a].op, .int .i64 g[a].num, .slice none 0 0] 60)).drew)) :=
        ⟨Deep.blk_alloc_new wo _, World.ownsRow_nil _ _ _ _, (box_below wo _).drew⟩
      have HA : Hid (o[k]? = some a) := ha
      clear co c0 c1 hks ha
      go_wp2_with fail
      go_loopw [11] (fun z wr => ∃ (q : Nat) (kv : Value), q ≤ ks.length ∧ z = .int .i64 q ∧ CpRel wo g[a].op g[a].num ((ks.take q).map (posN o)) kv wr) (fun z _ => ks.length - (intOf z).toNat)
      case atStart => exact ⟨0, _, Nat.zero_le _, rfl, HCP0.out⟩
      case round =>
        obtain ⟨q, kv, hq, rfl, hcp⟩ := hrel
        have HCP : Hid (CpRel wo g[a].op g[a].num ((ks.take q).map (posN o)) kv wr) := hcp
        have HBW : Hid (Below w2.heap.size w2 wr) := HB.out.trans (hcp.bel.mono hsz)
        have hsw := hcp.bel.size
        have hbl := hcp.box
        have hblt : wo.heap.size < wr.heap.size := (Array.getElem?_eq_some_iff.1 hbl).1
        have b2 := cell_of_blk hbl 2 _ rfl
        have co := (HBW.out.cell (p := ⟨blo, offo + k, none⟩) hblo).trans HD.out
        have c2 := (HBW.out.cell (p := ⟨bl, off + a * 3 + 2, none⟩) HLW.out).trans HC2.out
        have hkl : ((ks.take q).map (posN o)).length = q := by rw [List.length_map, List.length_take]; omega
        have HLQ : Hid (((ks.take q).map (posN o)).length = q) := hkl
        have HKV : Hid (Stk wr (wo.heap.size + 1) ((ks.take q).map (posN o)) kv) := hcp.kids
        obtain ⟨adv, capv, rfl⟩ : ∃ adv capv, kv = .slice adv q capv := by obtain ⟨x, y, e⟩ := hcp.kids.len; rw [hkl] at e; exact ⟨x, y, e⟩
        have HBX : Hid (wr.heap[wo.heap.size]? = some (.cells #[.int .i64 g[a].op, .int .i64 g[a].num, .slice adv q capv] 60)) := hbl
        clear hcp hbl hkl
        by_cases hltq : q < ks.length
        · obtain ⟨blk, offk, x, rfl, hblk, hx, hxm, dkw⟩ := pl_at HKK.out q hltq
          obtain ⟨hxl, hxo⟩ := HKL.out x hxm
          have dk := (HBW.out.cell (p := ⟨blk, offk + q, none⟩) hblk).trans dkw
          have dpw := HPL.out.cell (i := x) hxl
          have dp := (HBW.out.cell (p := ⟨bp, x, none⟩) hbpl).trans dpw
          rw [placeV_in hxo] at dp
          have HX : Hid (ks[q]? = some x) := hx
          obtain ⟨m, hm2⟩ : ∃ m, m = posN o x := ⟨_, rfl⟩
          have HM : Hid (m = posN o x) := hm2
          rw [← hm2] at dp
          have l1 := cell_lt co
          have l2 := cell_lt c2
          have l3 := cell_lt dk
          have l4 := cell_lt dp
          have b2a := old_cell b2 (.cells #[.int .i64 (m : Int)] 3)
          have HBX1 : Hid ((wr.alloc (.cells #[.int .i64 (m : Int)] 3)).drew.heap[wo.heap.size]? = some (.cells #[.int .i64 g[a].op, .int .i64 g[a].num, .slice adv q capv] 60)) := (Deep.blk_alloc_lt _ _ _ hblt).trans HBX.out
          have HKV1 : Hid (Stk (wr.alloc (.cells #[.int .i64 (m : Int)] 3)).drew (wo.heap.size + 1) ((ks.take q).map (posN o)) (.slice adv q capv)) := HKV.out.alloc _
          have HK1 : Hid (IIn (wr.alloc (.cells #[.int .i64 (m : Int)] 3)).drew [(m : Int)] (.slice (some ⟨wr.heap.size, 0, none⟩) 1 1)) := one_in wr m
          have HLO1 : Hid (wo.heap.size + 1 ≤ (wr.alloc (.cells #[.int .i64 (m : Int)] 3)).drew.heap.size) := by show _ ≤ (wr.alloc _).heap.size; rw [Deep.nblk_alloc]; omega
          have b2b : (wr.alloc (.cells #[.int .i64 (m : Int)] 3)).drew.cell? ⟨wo.heap.size, 2, none⟩ = _ := b2a
          have co1 : (wr.alloc (.cells #[.int .i64 (m : Int)] 3)).drew.cell? ⟨blo, offo + k, none⟩ = _ := old_cell co (.cells #[.int .i64 (m : Int)] 3)
          have c21 : (wr.alloc (.cells #[.int .i64 (m : Int)] 3)).drew.cell? ⟨bl, off + a * 3 + 2, none⟩ = _ := old_cell c2 (.cells #[.int .i64 (m : Int)] 3)
          have dk1 : (wr.alloc (.cells #[.int .i64 (m : Int)] 3)).drew.cell? ⟨blk, offk + q, none⟩ = _ := old_cell dk (.cells #[.int .i64 (m : Int)] 3)
          have dp1 : (wr.alloc (.cells #[.int .i64 (m : Int)] 3)).drew.cell? ⟨bp, x, none⟩ = _ := old_cell dp (.cells #[.int .i64 (m : Int)] 3)
          have HSS := mkHid (And.intro b2b (And.intro co1 (And.intro c21 (And.intro dk1 dp1))))
          have b2c : wr.drew.cell? ⟨wo.heap.size, 2, none⟩ = _ := b2
          clear hx hxm dkw dpw hm2
          go_wp2_with fail
          go_region_law (first
              | (refine step_push (by rfl) (.tmp 59) (.tmp 74) (by rfl) (wo.heap.size + 1) ((ks.take q).map (posN o)) [m] (.slice adv q capv) (.slice (some ⟨wr.heap.size, 0, none⟩) 1 1) (by rfl) HKV1.out (by rfl) HK1.out rfl HLO1.out (by rw [HLQ.out]; simp; omega) ?_; intro v5 w5 hst5 hg5; go_must (obtain ⟨ad6, cap6, rfl⟩ := stk_form hst5 HLQ.out); have HST5 := mkHid hst5; have HG5 := mkHid hg5; go_must (have s5 := cell_push HSS.out.1 HKV1.out hg5 (Nat.le_refl _); have s1 := cell_push HSS.out.2.1 HKV1.out hg5 (by show blo ≤ _; omega); have s2 := cell_push HSS.out.2.2.1 HKV1.out hg5 (by show bl ≤ _; omega); have s3 := cell_push HSS.out.2.2.2.1 HKV1.out hg5 (by show blk ≤ _; omega); have s4 := cell_push HSS.out.2.2.2.2 HKV1.out hg5 (by show bp ≤ _; omega); have sf := frz_push HBX1.out HKV1.out hg5 (Nat.le_refl _) 2); clear hst5 hg5))
          all_goals
            have HCP2 : Hid (CpRel wo g[a].op g[a].num ((ks.take (q + 1)).map (posN o)) (.slice ad6 (q + 1) cap6) (w5.setCell ⟨wo.heap.size, 2, none⟩ (.slice ad6 (q + 1) cap6))) := by
              rw [Hid, take_snoc HX.out, List.map_append, List.map_singleton, ← HM.out]
              exact cp_step HCP.out HST5.out HG5.out
            clear s1 s2 s3 s4 s5 sf
            go_wp2_with fail
            go_roundw
            case rel => exact ⟨q + 1, _, by omega, by go_num, HCP2.out⟩
            case measure => simp [intOf]; omega
        · have hqe : q = ks.length := by omega
          have HWS : Hid ((ks.take q).map (posN o) = (kidsN g a).map (posN o)) := by rw [Hid, hqe, List.take_length, HKS.out]
          have r0 := cell_of_blk HBX.out 0 _ rfl
          have r1 := cell_of_blk HBX.out 1 _ rfl
          obtain ⟨xs, hx⟩ := HO.out.row
          rw [HTL.out] at hx
          have HX : Hid (wo.ownsRow w2.heap.size 60 3 (.slice ad8 k cap8) k xs) := hx
          have HX1 : Hid ((wr.alloc (.cells #[.int .i64 g[a].op, .int .i64 g[a].num, .slice adv q capv] 60)).ownsRow w2.heap.size 60 3 (.slice ad8 k cap8) k xs) := copy_own hx HCP.out.bel _
          obtain ⟨iC, zC, hII⟩ := infoC1
          have HII : Hid (Try.prog.info? 60 = some iC ∧ iC.zero = some zC ∧ iC.size = 3 ∧ iC.bytes = 40 ∧ zC.cells.size = 3) := hII
          have HBO := HCP.out.bel
          clear hx hII hqe
          go_wp2_with (at_builtin; go_must (refine wpList_append_where _ rfl _ _ 25 rfl w2.heap.size 60 iC zC 3 40 Try.underlying25 HII.out.1 HII.out.2.1 HII.out.2.2.1 HII.out.2.2.2.1 HII.out.2.2.2.2 (by decide) (.slice ad8 k cap8) k xs rfl HX1.out ⟨wr.heap.size, 0, none⟩ 1 1 [.int .i64 g[a].op, .int .i64 g[a].num, .slice adv q capv] rfl rfl (news3c wr _ _ _) (by simp [Value.oneCell']) (by unfold maxLen; omega) (by omega) (by rw [Deep.nblk_alloc]; omega) (by omega) ?_); go_must (intro v' w5 hown hg5 hw5); go_must (have HOWN := mkHid hown); go_must (have HG5 := mkHid hg5); clear hown hg5 hw5)
          have HNEW : Hid (OwnC w5 w2.heap.size (fun b => w2.heap.size ≤ b) ((o.take (k + 1)).map (cpCell g o)) v') := by
            have h := copy_push (G := (o.take k).map (cpCell g o)) (ws := (ks.take q).map (posN o)) (o := g[a].op) (n := g[a].num) HO.out hsz HBO (HCP.out.kids.lower (Nat.le_succ _)) (.cells #[.int .i64 g[a].op, .int .i64 g[a].num, .slice adv q capv] 60) (by rw [HTL.out]; exact HX1.out) (by rw [HTL.out]; exact HOWN.out) (by rw [HTL.out]; exact HG5.out) HIO.out.1 HIO.out.2
            rw [Hid, take_snoc HA.out, List.map_append, List.map_singleton]
            have e : cpCell g o a = ⟨g[a].op, g[a].num, ((ks.take q).map (posN o)).map fun (x : Nat) => (x : Int)⟩ := by
              rw [HWS.out, List.map_map]
              unfold cpCell opAt numAt
              rw [getD_at _ _ _ hal]
              rfl
            rw [e]; exact h
          have HB5 : Hid (Below w2.heap.size w2 w5) := copy_below3 HB.out HBO HX.out HG5.out
          obtain ⟨adn, capn, rfl⟩ := HNEW.out.form
          go_roundw
          case rel => exact ⟨k + 1, by omega, by go_num, HNEW.out, HB5.out⟩
          case measure => simp [intOf]; omega
    · have hke : k = o.length := by omega
      have HF : Hid (OwnC wo w2.heap.size (fun b => w2.heap.size ≤ b) (o.map (cpCell g o)) (.slice ad8 k cap8)) := by
        have h := HO.out
        rw [HTL.out, hke, List.take_length] at h
        rw [Hid, hke]; exact h
      have HS0 : Hid (Stk (wo.alloc (.cells #[] 3)) wo.heap.size ((rs.take 0).map (posN o)) (.slice (some ⟨wo.heap.size, 0, none⟩) 0 0)) := stk_zero (Deep.blk_alloc_new wo _) (Nat.le_refl _)
      clear hown hb hke
      go_wp2_with fail
      go_loopw [12, 13] (fun top i wr => ∃ j : Nat, j ≤ rs.length ∧ i = .int .i64 j ∧ Stk wr wo.heap.size ((rs.take j).map (posN o)) top ∧ Below wo.heap.size wo wr) (fun _ i _ => rs.length - (intOf i).toNat)
      case atStart => exact ⟨0, Nat.zero_le _, rfl, HS0.out, box_below _ _⟩
      case round =>
        obtain ⟨j, hj, rfl, hst, hb⟩ := hrel
        have HB3 : Hid (Below wo.heap.size wo wr) := hb
        have HBW : Hid (Below w2.heap.size w2 wr) := HB.out.trans (hb.mono hsz)
        have hsw := hb.size
        have hjl : ((rs.take j).map (posN o)).length = j := by rw [List.length_map, List.length_take]; omega
        have HJL : Hid (((rs.take j).map (posN o)).length = j) := hjl
        have HS : Hid (Stk wr wo.heap.size ((rs.take j).map (posN o)) u12) := hst
        obtain ⟨adt, capt, rfl⟩ : ∃ ad cap, u12 = .slice ad j cap := by obtain ⟨x, y, e⟩ := hst.len; rw [hjl] at e; exact ⟨x, y, e⟩
        clear hst hb hjl
        by_cases hltj : j < rs.length
        · obtain ⟨bl, off, x, rfl, hbl, hx, hxm, d0w⟩ := pl_at (HR.out.next HB2.out) j hltj
          have hxl := HLT.out x hxm
          have d0 := (HBW.out.cell (p := ⟨bl, off + j, none⟩) hbl).trans d0w
          have dpw := HPL.out.cell (i := x) hxl
          have dp := (HBW.out.cell (p := ⟨bp, x, none⟩) hbpl).trans dpw
          rw [placeV_in (HRT.out x hxm)] at dp
          have HX : Hid (rs[j]? = some x) := hx
          obtain ⟨m, hm2⟩ : ∃ m, m = posN o x := ⟨_, rfl⟩
          have HM : Hid (m = posN o x) := hm2
          rw [← hm2] at dp
          have HS3 : Hid (Stk (wr.alloc (.cells #[.int .i64 (m : Int)] 3)) wo.heap.size ((rs.take j).map (posN o)) (.slice adt j capt)) := HS.out.alloc _
          have HK3 : Hid (IIn (wr.alloc (.cells #[.int .i64 (m : Int)] 3)) [(m : Int)] (.slice (some ⟨wr.heap.size, 0, none⟩) 1 1)) := one_in wr m
          have HLO : Hid (wo.heap.size ≤ (wr.alloc (.cells #[.int .i64 (m : Int)] 3)).heap.size) := by rw [Hid, Deep.nblk_alloc]; omega
          clear hx hxm d0w dpw hm2
          go_wp2_with (at_builtin; go_must (refine wpList_push rfl _ _ rfl _ wo.heap.size ((rs.take j).map (posN o)) [m] (.slice adt j capt) (.slice (some ⟨wr.heap.size, 0, none⟩) 1 1) rfl HS3.out rfl HK3.out rfl HLO.out (by rw [HJL.out]; simp; omega) ?_); go_must (intro v' w5 hst5 hg5); go_must (have HS5 := mkHid hst5); go_must (have HB5 : Hid (Below wo.heap.size wo w5) := push_below HS3.out (HB3.out.alloc hsw _) (Nat.le_refl _) hg5 (Nat.le_refl _)); clear hst5 hg5 d0 dp)
          have HS6 : Hid (Stk w5 wo.heap.size ((rs.take (j + 1)).map (posN o)) v') := by
            rw [Hid, take_snoc HX.out, List.map_append, List.map_singleton, ← HM.out]; exact HS5.out
          go_roundw
          case rel => first | exact ⟨j + 1, by omega, by go_num, HS6.out, HB5.out⟩ | ((repeat apply Exists.intro); exact ⟨⟨j + 1, by omega, by go_num, HS6.out, HB5.out⟩, rfl⟩)
          case measure => simp [intOf]; omega
        · have hje : j = rs.length := by omega
          have HT : Hid (Stk wr wo.heap.size (rs.map (posN o)) (.slice adt j capt)) := by
            have h := HS.out
            rw [hje, List.take_length] at h
            rw [hje]; exact h
          have HG2 : Hid (OwnC wr w2.heap.size (fun b => w2.heap.size ≤ b) (o.map (cpCell g o)) (.slice ad8 k cap8)) := HF.out.next (fun _ h _ => h) (fun b _ hb => HB3.out.block b hb) (fun b _ hb => HB3.out.block b hb)
          clear hje
          go_wp2_with fail
          go_ret2
          rw [HVC.out, HVT.out, ← HOO.out]
          exact ⟨_, _, rfl, HG2.out.lower HB2.out.size fun b hb => Nat.le_trans HB2.out.size hb, HT.out.lower (Nat.le_trans HB2.out.size hsz), HB2.out.trans (HBW.out.mono HB2.out.size)⟩
end Go.Proofs.Ytjpjikfmdaejeab
/-
  THE MODEL's l5Right: a graph and some of its cells.
-/
namespace Go.Proofs.Ytjpjikfmdaejeab
set_option linter.unusedVariables false
set_option linter.unusedSimpArgs false
open Go.RowKit

theorem root_noG {g : List Ce} {rs : List Int} (h : graphB g 6 = false) : rootB g rs = false := by unfold rootB; rw [h]; rfl
theorem root_noL {g : List Ce} {rs : List Int} (h : 20 < rs.length) : rootB g rs = false := by
  unfold rootB; rw [decide_eq_false (by omega)]; simp
theorem root_noA {g : List Ce} {rs : List Int} (h : rs.all (isAt g.length) = false) : rootB g rs = false := by
  unfold rootB; rw [h]; simp

set_option maxHeartbeats 800000 in
theorem l5Right_calls (g : List Ce) (rs : List Int) (v rv : Value) (w : World) (hk : CIn w g v) (hr : IIn w rs rv) :
    Calls Try.prog 32 #[v, rv] w fun e w' => e = .returned (.bool (rootB g rs)) ∧ Below w.heap.size w w' := by
  have HK : Hid (CIn w g v) := hk
  have HR : Hid (IIn w rs rv) := hr
  obtain ⟨ad, cap, rfl, hl, hm, -⟩ := hk
  obtain ⟨adr, capr, rfl, hlr, hmr, -⟩ := hr
  unfold maxLen at hm hmr
  go_enter Try.func32, Try.ntmps32
  go_wp2_with fail
  refine (specGraph_calls g 6 _ _ HK.out).mono ?_
  rintro e w1 ⟨rfl, hb1⟩
  have HB1 : Hid (Below w.heap.size w w1) := hb1
  clear hb1
  cases hg : graphB g 6 with
  | false =>
    have HV : Hid (rootB g rs = false) := root_noG hg
    clear hg
    go_wp2_with fail
    go_ret
    exact ⟨ret_bool HV.out.symm, HB1.out⟩
  | true =>
    have HG : Hid (graphB g 6 = true) := hg
    clear hg
    by_cases h20 : (20 : Int) < rs.length
    · have HV : Hid (rootB g rs = false) := root_noL (by omega)
      go_wp2_with fail
      go_ret
      exact ⟨ret_bool HV.out.symm, HB1.out⟩
    have H20 : Hid (rs.length ≤ 20) := by unfold Hid; omega
    go_wp2_with fail
    go_loopw [5] (fun i wr => ∃ k : Nat, k ≤ rs.length ∧ i = .int .i64 k ∧ (rs.take k).all (isAt g.length) = true ∧ Below w.heap.size w wr) (fun i _ => rs.length - (intOf i).toNat)
    case atStart => exact ⟨0, Nat.zero_le _, rfl, by simp, HB1.out⟩
    case round =>
      obtain ⟨k, hk, rfl, hall, hb⟩ := hrel
      have HA : Hid ((rs.take k).all (isAt g.length) = true) := hall
      have HB : Hid (Below w.heap.size w wr) := hb
      clear hall hb
      by_cases hlt : k < rs.length
      · obtain ⟨bl, off, rfl, d0⟩ := (HR.out.next HB.out).at k hlt
        by_cases h0 : rs[k] < 0
        · have HV : Hid (rootB g rs = false) := root_noA (allI_false_of _ _ k hlt (isAt_lo h0))
          go_wp2_with fail
          go_ret
          exact ⟨ret_bool HV.out.symm, HB.out⟩
        by_cases h1 : (g.length : Int) ≤ rs[k]
        · have HV : Hid (rootB g rs = false) := root_noA (allI_false_of _ _ k hlt (isAt_hi (by omega)))
          go_wp2_with fail
          go_ret
          exact ⟨ret_bool HV.out.symm, HB.out⟩
        have HA2 : Hid ((rs.take (k + 1)).all (isAt g.length) = true) := by rw [Hid, allI_take_succ _ _ _ hlt, HA.out, isAt_in (by omega) (by omega)]; rfl
        go_wp2_with fail
        go_roundw
        case rel => exact ⟨k + 1, by omega, by go_num, HA2.out, HB.out⟩
        case measure => simp [intOf]; omega
      · have hke : rs.length = k := by omega
        have HV : Hid (rootB g rs = true) := rootB_iff.2 ⟨HG.out, H20.out, all_end HA.out hke⟩
        clear hke
        go_wp2_with fail
        go_ret
        exact ⟨ret_bool HV.out.symm, HB.out⟩
end Go.Proofs.Ytjpjikfmdaejeab
/-
  THE MODEL's CopyOrder AND CopyGraph.
-/
namespace Go.Proofs.Ytjpjikfmdaejeab
set_option linter.unusedVariables false
set_option linter.unusedSimpArgs false
open Go.RowKit

/-- a graph and ints, somewhere in memory, and whether -/
def GotGI (r : List Ce × List Nat) (ok : Bool) (w : World) (e : Ending) (w' : World) : Prop :=
  ∃ gv tv, e = .returned (.tuple #[gv, tv, .bool ok]) ∧ CIn w' r.1 gv ∧ IIn w' (plI r.2) tv ∧ Below w.heap.size w w'
theorem cin_nil (w : World) (ad : Option Addr) (cap : Nat) (h : cap ≤ maxLen) : CIn w [] (.slice ad 0 cap) := ⟨ad, cap, rfl, Nat.zero_le _, h, Or.inl rfl⟩
theorem iin_nil (w : World) (ad : Option Addr) (cap : Nat) (h : cap ≤ maxLen) : IIn w [] (.slice ad 0 cap) := ⟨ad, cap, rfl, Nat.zero_le _, h, Or.inl rfl⟩
theorem OwnC.cin {w : World} {lo : Nat} {S : Nat → Prop} {g : List Ce} {v : Value} (h : OwnC w lo S g v) (hS : ∀ k, S k → k < w.heap.size → lo ≤ k) : CIn w g v := (h.own hS).inn

end Go.Proofs.Ytjpjikfmdaejeab
/-
  PLAIN: two lists, compared element by element. No program is named here.
-/
namespace Go.Proofs.Ytjpjikfmdaejeab
set_option linter.unusedVariables false
set_option linter.unusedSimpArgs false

def sameL {α : Type} (p : α → α → Bool) : List α → List α → Bool
  | [], [] => true
  | a :: xs, b :: ys => p a b && sameL p xs ys
  | _, _ => false
theorem sameL_len {α : Type} (p : α → α → Bool) : ∀ (a b : List α), a.length ≠ b.length → sameL p a b = false
  | [], [], h => by simp at h
  | [], _ :: _, _ => rfl
  | _ :: _, [], _ => rfl
  | a :: xs, b :: ys, h => by rw [sameL, sameL_len p xs ys (by simpa using h), Bool.and_false]
theorem sameL_no {α : Type} (p : α → α → Bool) : ∀ (a b : List α) (k : Nat) (h : k < a.length) (h' : k < b.length), p a[k] b[k] = false → sameL p a b = false
  | [], _, _, h, _, _ => by simp at h
  | _ :: _, [], _, _, h, _ => by simp at h
  | a :: xs, b :: ys, 0, _, _, e => by rw [sameL]; have : p a b = false := e; rw [this]; rfl
  | a :: xs, b :: ys, k + 1, h, h', e => by rw [sameL, sameL_no p xs ys k (by simpa using h) (by simpa using h') (by simpa using e), Bool.and_false]
theorem sameL_yes {α : Type} (p : α → α → Bool) : ∀ (a b : List α), a.length = b.length → (∀ k (h : k < a.length) (h' : k < b.length), p a[k] b[k] = true) → sameL p a b = true
  | [], [], _, _ => rfl
  | [], _ :: _, h, _ => by simp at h
  | _ :: _, [], h, _ => by simp at h
  | a :: xs, b :: ys, h, hp => by
    have h0 : p a b = true := hp 0 (by simp) (by simp)
    rw [sameL, h0, sameL_yes p xs ys (by simpa using h) fun k h1 h2 => hp (k + 1) (by simpa using h1) (by simpa using h2)]
    rfl
def sameI (a b : Int) : Bool := a == b
def sameC (a b : Ce) : Bool := (a.op == b.op) && ((a.num == b.num) && sameL sameI a.kids b.kids)
def sameG (a b : List Ce) : Bool := sameL sameC a b
theorem sameC_op {a b : Ce} (h : ¬ a.op = b.op) : sameC a b = false := by
  have e : (a.op == b.op) = false := by simpa using h
  unfold sameC; rw [e]; rfl
theorem sameC_num {a b : Ce} (h : ¬ a.num = b.num) : sameC a b = false := by
  have e : (a.num == b.num) = false := by simpa using h
  unfold sameC; rw [e]; simp
theorem sameC_kids {a b : Ce} (h : a.op = b.op) (h' : a.num = b.num) : sameC a b = sameL sameI a.kids b.kids := by unfold sameC; rw [h, h']; simp
end Go.Proofs.Ytjpjikfmdaejeab
/-
  THE MODEL's GraphSame; nothing that was there is changed.
-/
namespace Go.Proofs.Ytjpjikfmdaejeab
set_option linter.unusedVariables false
set_option linter.unusedSimpArgs false
open Go.RowKit

set_option maxRecDepth 100000 in
set_option maxHeartbeats 3200000 in
theorem specSameG_calls (a b : List Ce) (u v : Value) (w : World) (hu : CIn w a u) (hv : CIn w b v) :
    Calls Try.prog 34 #[u, v] w fun e w' => e = .returned (.bool (sameG a b)) ∧ Below w.heap.size w w' := by
  have HU : Hid (CIn w a u) := hu
  have HV : Hid (CIn w b v) := hv
  obtain ⟨ad, cap, rfl, hl, hm, -⟩ := hu
  obtain ⟨ad', cap', rfl, hl', hm', -⟩ := hv
  unfold maxLen at hm hm'
  by_cases hlen : a.length = b.length
  · have t1 : ((a.length : Int) != b.length) = false := by simp [hlen]
    have HL : Hid (a.length = b.length) := hlen
    clear hlen
    go_enter Try.func34, Try.ntmps34
    go_wp2_with fail
    go_loopw [5] (fun i wr => ∃ k : Nat, k ≤ a.length ∧ i = .int .i64 k ∧ (∀ j (h : j < a.length) (h' : j < b.length), j < k → sameC a[j] b[j] = true) ∧ ∃ n, wr = w.drewN n) (fun i _ => a.length - (intOf i).toNat)
    case atStart => exact ⟨0, Nat.zero_le _, rfl, fun j _ _ h => absurd h (by omega), 0, rfl⟩
    case round =>
      obtain ⟨k, hk, rfl, hall, n, rfl⟩ := hrel
      have HA : Hid (∀ j (h : j < a.length) (h' : j < b.length), j < k → sameC a[j] b[j] = true) := hall
      clear hall
      by_cases hlt : k < a.length
      · have hlt2 : k < b.length := by have := HL.out; omega
        obtain ⟨bl, off, r, rfl, c0, c1, c2, -, -, hkk⟩ := HU.out.at k hlt
        obtain ⟨bl', off', r', rfl, d0, d1, d2, -, -, hkk'⟩ := HV.out.at k hlt2
        obtain ⟨ad2, cap2, rfl, hl2, hm2, -⟩ := id hkk
        obtain ⟨ad3, cap3, rfl, hl3, hm3, -⟩ := id hkk'
        unfold maxLen at hm2 hm3
        have HK1 : Hid (IIn w a[k].kids (.slice ad2 a[k].kids.length cap2)) := hkk
        have HK2 : Hid (IIn w b[k].kids (.slice ad3 b[k].kids.length cap3)) := hkk'
        clear hkk hkk'
        by_cases ho : a[k].op = b[k].op
        · by_cases hn : a[k].num = b[k].num
          · by_cases hkl : a[k].kids.length = b[k].kids.length
            · have s1 : (a[k].op != b[k].op) = false := by simpa using ho
              have s2 : (a[k].num != b[k].num) = false := by simpa using hn
              have s3 : ((a[k].kids.length : Int) != b[k].kids.length) = false := by simp [hkl]
              have HS : Hid (sameC a[k] b[k] = sameL sameI a[k].kids b[k].kids) := sameC_kids ho hn
              have HKL : Hid (a[k].kids.length = b[k].kids.length) := hkl
              clear ho hn hkl
              go_wp2_with fail
              go_quiet (fail)
              go_wp2_with fail
              go_loopw [6] (fun i wr => ∃ j : Nat, j ≤ a[k].kids.length ∧ i = .int .i64 j ∧ (∀ i (h : i < a[k].kids.length) (h' : i < b[k].kids.length), i < j → sameI a[k].kids[i] b[k].kids[i] = true) ∧ ∃ n, wr = w.drewN n) (fun i _ => a[k].kids.length - (intOf i).toNat)
              case atStart => exact ⟨0, Nat.zero_le _, rfl, fun j _ _ h => absurd h (by omega), n + nq, by rw [World.drewN_drewN]⟩
              case round =>
                obtain ⟨j, hj, rfl, hall, m, rfl⟩ := hrel
                have HA3 : Hid (∀ i (h : i < a[k].kids.length) (h' : i < b[k].kids.length), i < j → sameI a[k].kids[i] b[k].kids[i] = true) := hall
                clear hall
                by_cases hjt : j < a[k].kids.length
                · have hjt2 : j < b[k].kids.length := by have := HKL.out; omega
                  obtain ⟨bl3, off3, rfl, e0⟩ := HK1.out.at j hjt
                  obtain ⟨bl4, off4, rfl, f0⟩ := HK2.out.at j hjt2
                  by_cases hx : a[k].kids[j] = b[k].kids[j]
                  · have s4 : (a[k].kids[j] != b[k].kids[j]) = false := by simp [hx]
                    have HA4 : Hid (∀ i (h : i < a[k].kids.length) (h' : i < b[k].kids.length), i < j + 1 → sameI a[k].kids[i] b[k].kids[i] = true) := by
                      intro i h h' hi
                      by_cases e : i = j
                      · subst e; unfold sameI; simpa using hx
                      · exact HA3.out i h h' (by omega)
                    clear hx
                    go_wp2_with fail
                    go_quiet (fail)
                    go_wp2_with fail
                    go_roundw
                    case rel => exact ⟨j + 1, by omega, by go_num, HA4.out, _, rfl⟩
                    case measure => simp [intOf]; omega
                  · have s4 : (a[k].kids[j] != b[k].kids[j]) = true := by simpa using hx
                    have HV2 : Hid (sameG a b = false) := sameL_no _ _ _ k hlt hlt2 (by rw [HS.out]; exact sameL_no _ _ _ j hjt hjt2 (by unfold sameI; simpa using hx))
                    clear hx
                    go_wp2_with fail
                    go_quiet (fail)
                    go_wp2_with fail
                    go_ret
                    exact ⟨ret_bool HV2.out.symm, below_drewN (below_drewN (Below.refl _ _) _) _⟩
                · have HA2 : Hid (∀ j (h : j < a.length) (h' : j < b.length), j < k + 1 → sameC a[j] b[j] = true) := by
                    intro i h h' hi
                    by_cases e : i = k
                    · subst e; rw [HS.out]; exact sameL_yes _ _ _ HKL.out fun i h h' => HA3.out i h h' (by omega)
                    · exact HA.out i h h' (by omega)
                  go_wp2_with fail
                  go_roundw
                  case rel => exact ⟨k + 1, by omega, by go_num, HA2.out, _, rfl⟩
                  case measure => simp [intOf]; omega
            · have s1 : (a[k].op != b[k].op) = false := by simpa using ho
              have s2 : (a[k].num != b[k].num) = false := by simpa using hn
              have s3 : ((a[k].kids.length : Int) != b[k].kids.length) = true := by simp; omega
              have HV2 : Hid (sameG a b = false) := sameL_no _ _ _ k hlt hlt2 (by rw [sameC_kids ho hn]; exact sameL_len _ _ _ hkl)
              clear ho hn hkl
              go_wp2_with fail
              go_quiet (fail)
              go_wp2_with fail
              go_ret
              exact ⟨ret_bool HV2.out.symm, below_drewN (below_drewN (Below.refl _ _) _) _⟩
          · have s1 : (a[k].op != b[k].op) = false := by simpa using ho
            have s2 : (a[k].num != b[k].num) = true := by simpa using hn
            have HV2 : Hid (sameG a b = false) := sameL_no _ _ _ k hlt hlt2 (sameC_num hn)
            clear ho hn
            go_wp2_with fail
            go_quiet (fail)
            go_wp2_with fail
            go_ret
            exact ⟨ret_bool HV2.out.symm, below_drewN (below_drewN (Below.refl _ _) _) _⟩
        · have s1 : (a[k].op != b[k].op) = true := by simpa using ho
          have HV2 : Hid (sameG a b = false) := sameL_no _ _ _ k hlt hlt2 (sameC_op ho)
          clear ho
          go_wp2_with fail
          go_quiet (fail)
          go_wp2_with fail
          go_ret
          exact ⟨ret_bool HV2.out.symm, below_drewN (below_drewN (Below.refl _ _) _) _⟩
      · have HV2 : Hid (sameG a b = true) := sameL_yes _ _ _ HL.out fun j h h' => HA.out j h h' (by omega)
        go_wp2_with fail
        go_ret
        exact ⟨ret_bool HV2.out.symm, below_drewN (Below.refl _ _) _⟩
  · have t1 : ((a.length : Int) != b.length) = true := by simp; omega
    have HV2 : Hid (sameG a b = false) := sameL_len _ _ _ hlen
    clear hlen
    go_enter Try.func34, Try.ntmps34
    go_wp2_with fail
    go_ret
    exact ⟨ret_bool HV2.out.symm, Below.refl _ _⟩
end Go.Proofs.Ytjpjikfmdaejeab
/-
  PLAIN: what LiveCells and SameFrom answer. No program is named here.
-/
namespace Go.Proofs.Ytjpjikfmdaejeab
set_option linter.unusedVariables false
set_option linter.unusedSimpArgs false

def liveL (g : List Ce) (o : List Nat) : Nat := o.countP fun a => opAt g a != 11
/-- what LiveCells answers, but for whether -/
def liveO (g : List Ce) (rs : List Int) : Int := if rootB g rs = true then (liveL g (orderG g (natL rs)) : Int) else 0
theorem liveO_no {g : List Ce} {rs : List Int} (h : rootB g rs = false) : liveO g rs = 0 := by unfold liveO; rw [if_neg (by rw [h]; simp)]
theorem liveO_yes {g : List Ce} {rs : List Int} (h : rootB g rs = true) : liveO g rs = (liveL g (orderG g (natL rs)) : Int) := by unfold liveO; rw [if_pos h]
theorem liveL_snoc (g : List Ce) (o : List Nat) (a : Nat) : liveL g (o ++ [a]) = liveL g o + (if opAt g a != 11 then 1 else 0) := by
  unfold liveL; rw [List.countP_append, List.countP_singleton]
theorem liveL_le (g : List Ce) (o : List Nat) : liveL g o ≤ o.length := List.countP_le_length
def liveC (G : List Ce) : Nat := G.countP fun c => c.op != 11
theorem liveC_snoc (G : List Ce) (c : Ce) : liveC (G ++ [c]) = liveC G + (if c.op != 11 then 1 else 0) := by
  unfold liveC; rw [List.countP_append, List.countP_singleton]
theorem liveC_le (G : List Ce) : liveC G ≤ G.length := List.countP_le_length
theorem liveC_copy (g : List Ce) (rs : List Nat) : liveC (copyG g rs) = liveL g (orderG g rs) := by
  unfold liveC liveL copyG; rw [List.countP_map]; rfl
theorem take_snocC {α : Type} {l : List α} {k : Nat} (h : k < l.length) : l.take (k + 1) = l.take k ++ [l[k]] := List.take_succ_eq_append_getElem h

/-! ### Shapes -/
theorem root_one (g : List Ce) (x : Int) : rootB g [x] = (graphB g 6 && isAt g.length x) := by unfold rootB; simp
theorem nat_one (x : Int) : natL [x] = [x.toNat] := rfl
/-- what SameFrom answers -/
def sameO (a : List Ce) (x : Int) (b : List Ce) (y : Int) : Bool := rootB a [x] && (rootB b [y] && sameG (copyG a (natL [x])) (copyG b (natL [y])))
theorem sameO_no1 {a b : List Ce} {x y : Int} (h : rootB a [x] = false) : sameO a x b y = false := by unfold sameO; rw [h]; rfl
theorem sameO_no2 {a b : List Ce} {x y : Int} (h : rootB b [y] = false) : sameO a x b y = false := by unfold sameO; rw [h]; simp
theorem sameO_yes {a b : List Ce} {x y : Int} (h : rootB a [x] = true) (h' : rootB b [y] = true) : sameO a x b y = sameG (copyG a (natL [x])) (copyG b (natL [y])) := by unfold sameO; rw [h, h']; rfl
end Go.Proofs.Ytjpjikfmdaejeab
/-
  A ROW OF ONE NUMBER, just laid.
-/
namespace Go.Proofs.Ytjpjikfmdaejeab
set_option linter.unusedVariables false
set_option linter.unusedSimpArgs false
open Go.RowKit

theorem one_inI (w : World) (a : Int) : IIn (w.alloc (.cells #[.int .i64 a] 3)) [a] (.slice (some ⟨w.heap.size, 0, none⟩) 1 1) := by
  refine ⟨_, 1, rfl, Nat.le_refl _, by simp [maxLen], Or.inr ⟨_, 0, rfl, by show w.heap.size < _; rw [Deep.nblk_alloc]; omega, fun i hi => ?_⟩⟩
  obtain rfl : i = 0 := by simp at hi; omega
  exact box_cell w #[.int .i64 a] 3 0 _ rfl
end Go.Proofs.Ytjpjikfmdaejeab
/-
  THE MODEL's SameFrom.
-/
namespace Go.Proofs.Ytjpjikfmdaejeab
set_option linter.unusedVariables false
set_option linter.unusedSimpArgs false
open Go.RowKit

/-- a root that is one of the cells -/
theorem root_nat {g : List Ce} {x : Int} (h : rootB g [x] = true) : ∃ n : Nat, x = (n : Int) ∧ n < g.length := by
  rw [root_one, Bool.and_eq_true] at h
  have h2 := h.2
  simp only [isAt, decide_eq_true_eq] at h2
  exact ⟨x.toNat, by omega, by omega⟩

set_option maxHeartbeats 1600000 in
theorem specSF_calls (a : List Ce) (x : Int) (b : List Ce) (y : Int) (u v : Value) (w : World) (hu : CIn w a u) (hv : CIn w b v) :
    Calls Try.prog 9 #[u, .int .i64 x, v, .int .i64 y] w fun e w' => e = .returned (.bool (sameO a x b y)) ∧ Below w.heap.size w w' := by
  have HU : Hid (CIn w a u) := hu
  have HW : Hid (CIn w b v) := hv
  have HBX : Hid (∀ (W : World) (n : Int), Below W.heap.size W (W.alloc (.cells #[.int .i64 n] 3))) := fun W n => box_below _ _
  clear hu hv
  go_enter Try.func9, Try.ntmps9
  go_wp2_with fail
  refine (l5Right_calls a [x] _ _ _ (HU.out.next (box_below _ _)) (one_inI w x)).mono ?_
  rintro e w1 ⟨rfl, hb1⟩
  have HB1 : Hid (Below w.heap.size w w1) := (HBX.out w x).trans (hb1.mono (HBX.out w x).size)
  clear hb1
  cases hg : rootB a [x] with
  | false =>
    have HV := mkHid (sameO_no1 (b := b) (y := y) hg)
    clear hg
    go_wp2_with fail
    go_ret
    exact ⟨ret_bool HV.out.symm, HB1.out⟩
  | true =>
    have HT := mkHid hg
    clear hg
    go_wp2_with fail
    refine (l5Right_calls b [y] _ _ _ (HW.out.next (HB1.out.trans ((box_below _ _).mono HB1.out.size))) (one_inI w1 y)).mono ?_
    rintro e w2 ⟨rfl, hb2⟩
    have HB2 : Hid (Below w.heap.size w w2) := HB1.out.trans (((HBX.out w1 y).trans (hb2.mono (HBX.out w1 y).size)).mono HB1.out.size)
    clear hb2
    cases hg2 : rootB b [y] with
    | false =>
      have HV := mkHid (sameO_no2 (a := a) (x := x) hg2)
      clear hg2
      go_wp2_with fail
      go_ret
      exact ⟨ret_bool HV.out.symm, HB2.out⟩
    | true =>
      have HT2 := mkHid hg2
      have HV := mkHid (sameO_yes HT.out hg2)
      obtain ⟨n, rfl, -⟩ := root_nat HT.out
      obtain ⟨m, rfl, -⟩ := root_nat hg2
      clear hg2
      go_wp2_with fail
      refine (l5Copy_calls a (natL [(n : Int)]) _ _ _ (HU.out.next (HB2.out.trans ((box_below _ _).mono HB2.out.size))) (by have h := one_inI w2 (n : Int); rw [root_back HT.out] at h; exact h) (rootB_iff.1 HT.out).1 (root_lt HT.out) (by simp [natL])).mono ?_
      rintro e w3 ⟨gv, tv, rfl, ho, -, hb3⟩
      have HO := mkHid (ho.cin fun k h _ => h)
      have HB3 : Hid (Below w.heap.size w w3) := HB2.out.trans (((HBX.out w2 n).trans (hb3.mono (HBX.out w2 n).size)).mono HB2.out.size)
      clear ho hb3
      go_wp2_with fail
      refine (l5Copy_calls b (natL [(m : Int)]) _ _ _ (HW.out.next (HB3.out.trans ((box_below _ _).mono HB3.out.size))) (by have h := one_inI w3 (m : Int); rw [root_back HT2.out] at h; exact h) (rootB_iff.1 HT2.out).1 (root_lt HT2.out) (by simp [natL])).mono ?_
      rintro e w4 ⟨gv2, tv2, rfl, ho, -, hb4⟩
      have HO2 := mkHid (ho.cin fun k h _ => h)
      have HO1 := mkHid ((HO.out.next (HBX.out w3 m)).next hb4)
      have HB4 : Hid (Below w.heap.size w w4) := HB3.out.trans (((HBX.out w3 m).trans (hb4.mono (HBX.out w3 m).size)).mono HB3.out.size)
      clear ho hb4
      go_wp2_with fail
      refine (specSameG_calls _ _ _ _ _ HO1.out HO2.out).mono ?_
      rintro e w5 ⟨rfl, hb5⟩
      have HB5 : Hid (Below w.heap.size w w5) := HB4.out.trans (hb5.mono HB4.out.size)
      clear hb5
      go_wp2_with fail
      go_ret
      exact ⟨ret_bool HV.out.symm, HB5.out⟩
end Go.Proofs.Ytjpjikfmdaejeab
/-
  THE CELLS OF A COPIER: the first ones are scanned, the others still have the operands of the old space.
-/
namespace Go.Proofs.Ytjpjikfmdaejeab
set_option linter.unusedVariables false
set_option linter.unusedSimpArgs false
open Go.RowKit

/-- all blocks but those of a set are as they were -/
structure ButP (U : Nat → Prop) (w w' : World) : Prop where
  os : w'.os = w.os
  tape : w'.tape = w.tape
  output : w'.output = w.output
  size : w.heap.size ≤ w'.heap.size
  block : ∀ k, k < w.heap.size → ¬ U k → w'.heap[k]? = w.heap[k]?
theorem ButP.refl (U : Nat → Prop) (w : World) : ButP U w w := ⟨rfl, rfl, rfl, Nat.le_refl _, fun _ _ _ => rfl⟩
theorem ButP.trans {U V : Nat → Prop} {a c d : World} (h : ButP U a c) (k : ButP V c d) (hV : ∀ x, V x → x < a.heap.size → U x) : ButP U a d :=
  ⟨k.os.trans h.os, k.tape.trans h.tape, k.output.trans h.output, Nat.le_trans h.size k.size, fun i hi hb => (k.block i (Nat.lt_of_lt_of_le hi h.size) (fun e => hb (hV i e hi))).trans (h.block i hi hb)⟩
theorem ButP.mono {U V : Nat → Prop} {w w' : World} (h : ButP U w w') (hs : ∀ k, U k → k < w.heap.size → V k) : ButP V w w' := ⟨h.os, h.tape, h.output, h.size, fun k hk hb => h.block k hk fun e => hb (hs k e hk)⟩
theorem ButP.of_below {U : Nat → Prop} {w w' : World} (h : Below w.heap.size w w') : ButP U w w' := ⟨h.os, h.tape, h.output, h.size, fun k hk _ => h.block k hk⟩
theorem ButP.below {U : Nat → Prop} {lo : Nat} {w w' : World} (h : ButP U w w') (hU : ∀ k, U k → lo ≤ k) (hl : lo ≤ w.heap.size) : Below lo w w' := ⟨h.os, h.tape, h.output, h.size, fun k hk => h.block k (Nat.lt_of_lt_of_le hk hl) fun e => by have := hU k e; omega⟩
theorem ButP.of_grown {U : Nat → Prop} {w w' : World} {r : Option Nat} (h : w.grownBy w' r) (hU : ∀ k, some k = r → U k) : ButP U w w' := ⟨h.os, h.tape, h.output, h.size, fun k hk hb => h.block k hk fun e => hb (hU k e)⟩
theorem ButP.of_set {U : Nat → Prop} {w : World} {a : Addr} {u : Value} (hU : U a.block) : ButP U w (w.setCell a u) := ⟨rfl, rfl, rfl, by rw [size_setCell]; exact Nat.le_refl _, fun k hk hb => Below.heap_setCell _ _ _ _ fun e => hb (by rw [e]; exact hU)⟩

theorem own_uniq {w : World} {lo lo' n s : Nat} {T : TypeId} {v : Value} {xs ys : List Value} (h : w.ownsRow lo T s v n xs) (h' : w.ownsRow lo' T s v n ys) : xs = ys := by
  have a1 := h.1
  have a2 := h'.1
  rcases h.2 with ⟨rfl, h0⟩ | ⟨b, cap, cur, rfl, hg, hh, hn', hc', hs', htk⟩
  · rw [h0] at a1 a2
    rw [List.eq_nil_of_length_eq_zero (by omega : xs.length = 0), List.eq_nil_of_length_eq_zero (by omega : ys.length = 0)]
  · rcases h'.2 with ⟨e, -⟩ | ⟨b2, cap2, cur2, e, -, hh2, -, -, -, htk2⟩
    · cases e
    · cases e
      rw [hh] at hh2
      cases hh2
      rw [← htk, ← htk2]
/-- a row of cells is no row of ints -/
theorem cellrow_ne {w : World} {lo n : Nat} {v : Value} {xs : List Value} (h : w.ownsRow lo 60 3 v n xs) {C : Array Value} {k : Nat} (hC : w.heap[k]? = some (.cells C 3 (0, 0))) : some k ≠ v.ownBlock := by
  intro e
  rcases h.2 with ⟨rfl, -⟩ | ⟨b2, cap, cur, rfl, -, hh, -⟩
  · simp [Value.ownBlock] at e
  · simp only [Value.ownBlock, Option.some.injEq] at e
    subst e
    rw [hh] at hC
    simp at hC

/-- the operands of copy j, in the row blk once it is scanned -/
def CpK (w : World) (lo : Nat) (S : Nat → Prop) (g : List Ce) (o : List Nat) (i j blk : Nat) (kv : Value) : Prop :=
  (j < i → KRowS w S ((kidsN g (o.getD j 0)).map fun k => (posN o k : Int)) blk kv) ∧ (¬ j < i → IntsOn w (Lt lo) (plI (kidsN g (o.getD j 0))) kv)
/-- the copies of the cells o, the first i of them scanned -/
def CpG (w : World) (lo : Nat) (S : Nat → Prop) (g : List Ce) (o : List Nat) (i : Nat) (v : Value) : Prop :=
  ∃ (xs : List Value) (kb : Nat → Nat), w.ownsRow lo 60 3 v o.length xs ∧
    (∀ j, j < o.length → I64 (opAt g (o.getD j 0)) ∧ I64 (numAt g (o.getD j 0)) ∧ ∃ kv, xs[j * 3]? = some (.int .i64 (opAt g (o.getD j 0))) ∧ xs[j * 3 + 1]? = some (.int .i64 (numAt g (o.getD j 0))) ∧ xs[j * 3 + 2]? = some kv ∧ CpK w lo S g o i j (kb j) kv) ∧
    ∀ a b, a < i → b < i → a < o.length → b < o.length → a ≠ b → kidsN g (o.getD a 0) ≠ [] → kidsN g (o.getD b 0) ≠ [] → kb a ≠ kb b
theorem CpG.nil (w : World) (lo : Nat) (S : Nat → Prop) (g : List Ce) : CpG w lo S g [] 0 (.slice none 0 0) :=
  ⟨[], fun _ => 0, World.ownsRow_nil w lo _ _, fun j hj => absurd hj (by simp), fun a b ha => absurd ha (by omega)⟩
theorem CpG.row {w : World} {lo : Nat} {S : Nat → Prop} {g : List Ce} {o : List Nat} {i : Nat} {v : Value} (h : CpG w lo S g o i v) : ∃ xs, w.ownsRow lo 60 3 v o.length xs := by
  obtain ⟨xs, kb, h1, -⟩ := h; exact ⟨xs, h1⟩
theorem CpG.form {w : World} {lo : Nat} {S : Nat → Prop} {g : List Ce} {o : List Nat} {i : Nat} {v : Value} (h : CpG w lo S g o i v) : ∃ ad cap, v = .slice ad o.length cap := by
  obtain ⟨xs, h1⟩ := h.row
  rcases h1.2 with ⟨rfl, h0⟩ | ⟨b, cap, cur, rfl, -⟩
  · exact ⟨none, 0, by rw [h0]⟩
  · exact ⟨_, _, rfl⟩
theorem CpK.keep {w w' : World} {lo : Nat} {S S' : Nat → Prop} {g : List Ce} {o o' : List Nat} {i j blk : Nat} {kv : Value} (h : CpK w lo S g o i j blk kv) (hS : ∀ k, S k → k < w.heap.size → S' k) (hb : ∀ k C, S k → k < w.heap.size → w.heap[k]? = some (.cells C 3 (0, 0)) → w'.heap[k]? = w.heap[k]?) (hl : ∀ k, k < lo → w'.heap[k]? = w.heap[k]?)
    (ho : o'.getD j 0 = o.getD j 0) (hp : j < i → ∀ k ∈ kidsN g (o.getD j 0), posN o' k = posN o k) : CpK w' lo S' g o' i j blk kv := by
  refine ⟨fun hj => ?_, fun hj => ?_⟩
  · rw [ho]
    have e : (kidsN g (o.getD j 0)).map (fun k => (posN o' k : Int)) = (kidsN g (o.getD j 0)).map (fun k => (posN o k : Int)) := List.map_congr_left fun k hk => by rw [hp hj k hk]
    rw [e]
    exact (h.1 hj).keep hS fun C h1 h2 h3 => hb _ C h1 h2 h3
  · rw [ho]
    exact (h.2 hj).mono (fun _ hk => hk) fun k hk => hl k hk
theorem CpG.next {w w' : World} {lo : Nat} {S S' : Nat → Prop} {g : List Ce} {o : List Nat} {i : Nat} {v : Value} (h : CpG w lo S g o i v) (hS : ∀ k, S k → k < w.heap.size → S' k) (hr : ∀ k, some k = v.ownBlock → k < w.heap.size → w'.heap[k]? = w.heap[k]?) (hb : ∀ k C, S k → k < w.heap.size → w.heap[k]? = some (.cells C 3 (0, 0)) → w'.heap[k]? = w.heap[k]?) (hl : ∀ k, k < lo → w'.heap[k]? = w.heap[k]?) : CpG w' lo S' g o i v := by
  obtain ⟨xs, kb, h1, h2, h3⟩ := h
  refine ⟨xs, kb, ⟨h1.1, ?_⟩, fun j hj => ?_, h3⟩
  · rcases h1.2 with h | ⟨b, cap, cur, rfl, hg, hh, r⟩
    · exact Or.inl h
    · exact Or.inr ⟨b, cap, cur, rfl, hg, (hr b rfl (Array.getElem?_eq_some_iff.1 hh).1).trans hh, r⟩
  · obtain ⟨i1, i2, kv, e0, e1, e2, e3⟩ := h2 j hj
    exact ⟨i1, i2, kv, e0, e1, e2, e3.keep hS hb hl rfl fun _ _ _ => rfl⟩
theorem getD_snoc {o : List Nat} {a j : Nat} (h : j < o.length) : (o ++ [a]).getD j 0 = o.getD j 0 := by
  rw [List.getD_eq_getElem?_getD, List.getD_eq_getElem?_getD, List.getElem?_append_left h]
theorem getD_last (o : List Nat) (a : Nat) : (o ++ [a]).getD o.length 0 = a := by simp
/-- one copy more -/
theorem CpG.grow {w w' : World} {lo : Nat} {S : Nat → Prop} {g : List Ce} {o : List Nat} {i a : Nat} {v v' kv : Value} {xs : List Value} (h : CpG w lo S g o i v) (hi : i ≤ o.length) (hcl : ∀ j, j < i → ∀ k ∈ kidsN g (o.getD j 0), k ∈ o)
    (h64 : I64 (opAt g a) ∧ I64 (numAt g a)) (hk : IntsOn w' (Lt lo) (plI (kidsN g a)) kv) (hx : w.ownsRow lo 60 3 v o.length xs) (hown : w'.ownsRow lo 60 3 v' (o.length + 1) (xs ++ [.int .i64 (opAt g a), .int .i64 (numAt g a), kv]))
    (hb : ∀ k C, S k → k < w.heap.size → w.heap[k]? = some (.cells C 3 (0, 0)) → w'.heap[k]? = w.heap[k]?) (hl : ∀ k, k < lo → w'.heap[k]? = w.heap[k]?) : CpG w' lo S g (o ++ [a]) i v' := by
  obtain ⟨xs2, kb, h1, h2, h3⟩ := h
  obtain rfl := own_uniq hx h1
  have hlen := hx.1
  refine ⟨xs ++ [.int .i64 (opAt g a), .int .i64 (numAt g a), kv], kb, by simpa using hown, fun j hj => ?_, fun x y hx1 hy1 _ _ hne ex ey => ?_⟩
  · by_cases hjl : j < o.length
    · obtain ⟨i1, i2, kv', e0, e1, e2, e3⟩ := h2 j hjl
      rw [getD_snoc hjl]
      refine ⟨i1, i2, kv', ?_, ?_, ?_, ?_⟩
      · rw [List.getElem?_append_left (by omega)]; exact e0
      · rw [List.getElem?_append_left (by omega)]; exact e1
      · rw [List.getElem?_append_left (by omega)]; exact e2
      · exact e3.keep (fun _ h _ => h) hb hl (getD_snoc hjl) fun hji k hk => posN_app _ _ _ (hcl j hji k hk)
    · have hj' : j = o.length := by simp at hj; omega
      subst hj'
      rw [getD_last]
      refine ⟨h64.1, h64.2, kv, ?_, ?_, ?_, fun hj => absurd hj (by omega), fun _ => by rw [getD_last]; exact hk⟩
      · rw [List.getElem?_append_right (by omega)]; simp [hlen]
      · rw [List.getElem?_append_right (by omega)]; simp [hlen]
      · rw [List.getElem?_append_right (by omega)]; simp [hlen]
  · rw [getD_snoc (by omega)] at ex ey
    exact h3 x y hx1 hy1 (by omega) (by omega) hne ex ey
/-- copy i is scanned -/
theorem CpG.scan {w : World} {lo : Nat} {S : Nat → Prop} {g : List Ce} {o : List Nat} {i b cap blk : Nat} {kv : Value} (h : CpG w lo S g o i (.slice (some ⟨b, 0, none⟩) o.length cap)) (hi : i < o.length)
    (hk : KRowS w (fun x => x = blk) ((kidsN g (o.getD i 0)).map fun k => (posN o k : Int)) blk kv) (hS : ¬ S blk) : CpG (w.setCell ⟨b, i * 3 + 2, none⟩ kv) lo (fun x => S x ∨ x = blk) g o (i + 1) (.slice (some ⟨b, 0, none⟩) o.length cap) := by
  obtain ⟨xs, kb, h1, h2, h3⟩ := h
  have hx1 := (h1.stored (i * 3 + 2) kv).1
  have hlen := h1.1
  have hbl : lo ≤ b := own_block h1 rfl
  have keep : ∀ (k : Nat) (C : Array Value), w.heap[k]? = some (.cells C 3 (0, 0)) → (w.setCell ⟨b, i * 3 + 2, none⟩ kv).heap[k]? = w.heap[k]? := fun k C hC => Below.heap_setCell _ _ _ _ fun e => cellrow_ne h1 hC (by simp only [Value.ownBlock, Option.some.injEq]; exact e)
  have keepl : ∀ k, k < lo → (w.setCell ⟨b, i * 3 + 2, none⟩ kv).heap[k]? = w.heap[k]? := fun k hk => Below.heap_setCell _ _ _ _ (by show k ≠ b; omega)
  refine ⟨xs.set (i * 3 + 2) kv, fun j => if j = i then blk else kb j, hx1, fun j hj => ?_, fun x y hx1 hy1 hxl hyl hne ex ey => ?_⟩
  · obtain ⟨i1, i2, kv', e0, e1, e2, e3⟩ := h2 j hj
    by_cases hji : j = i
    · subst hji
      refine ⟨i1, i2, kv, ?_, ?_, ?_, fun _ => ?_, fun hn => absurd hn (by omega)⟩
      · rw [List.getElem?_set_ne (by omega)]; exact e0
      · rw [List.getElem?_set_ne (by omega)]; exact e1
      · rw [List.getElem?_set_self (by omega)]
      · simp only [if_pos]
        exact hk.keep (fun k hk _ => Or.inr hk) fun C _ _ hC => keep _ C hC
    · refine ⟨i1, i2, kv', ?_, ?_, ?_, ?_⟩
      · rw [List.getElem?_set_ne (by omega)]; exact e0
      · rw [List.getElem?_set_ne (by omega)]; exact e1
      · rw [List.getElem?_set_ne (by omega)]; exact e2
      · simp only [if_neg hji]
        have h4 : CpK (w.setCell ⟨b, i * 3 + 2, none⟩ kv) lo (fun x => S x ∨ x = blk) g o i j (kb j) kv' := e3.keep (fun k hk _ => Or.inl hk) (fun k C _ _ hC => keep k C hC) keepl rfl fun _ _ _ => rfl
        exact ⟨fun hj => h4.1 (by omega), fun hj => h4.2 (by omega)⟩
  · have ne : ∀ q, q < i → q < o.length → kidsN g (o.getD q 0) ≠ [] → kb q ≠ blk := by
      intro q hq hql hne e
      obtain ⟨-, -, kv', -, -, -, e3⟩ := h2 q hql
      obtain ⟨_, _, _, _, _, h5⟩ := e3.1 hq
      rcases h5 with h5 | ⟨f5, -, h6, -⟩
      · exact hne (by simpa using h5)
      · exact hS (e ▸ h6)
    by_cases hxi : x = i
    · have hyi : ¬ y = i := by omega
      simp only [if_pos hxi, if_neg hyi]
      exact (ne y (by omega) hyl ey).symm
    · by_cases hyi : y = i
      · simp only [if_neg hxi, if_pos hyi]
        exact ne x (by omega) hxl ex
      · simp only [if_neg hxi, if_neg hyi]
        exact h3 x y (by omega) (by omega) hxl hyl hne ex ey
/-- all are scanned -/
theorem CpG.done {w : World} {lo : Nat} {S : Nat → Prop} {g : List Ce} {o : List Nat} {i : Nat} {v : Value} (h : CpG w lo S g o i v) (hi : o.length ≤ i) : OwnC w lo S (o.map (cpCell g o)) v := by
  obtain ⟨xs, kb, h1, h2, h3⟩ := h
  have hat : ∀ j (hj : j < (o.map (cpCell g o)).length), (o.map (cpCell g o))[j] = cpCell g o (o.getD j 0) := fun j hj => by
    rw [List.length_map] at hj
    rw [List.getElem_map, getD_at _ _ _ hj]
  refine ⟨fun j hj => ?_, xs, kb, by rw [List.length_map]; exact h1, fun j hj => ?_, fun a b ha hb hne ea eb => ?_⟩
  · rw [hat j hj]
    rw [List.length_map] at hj
    obtain ⟨i1, i2, -⟩ := h2 j hj
    exact ⟨i1, i2⟩
  · rw [hat j hj]
    rw [List.length_map] at hj
    obtain ⟨i1, i2, kv, e0, e1, e2, e3⟩ := h2 j hj
    exact ⟨kv, e0, e1, e2, e3.1 (by omega)⟩
  · rw [hat a ha] at ea
    rw [hat b hb] at eb
    rw [List.length_map] at ha hb
    exact h3 a b (by omega) (by omega) ha hb hne (by simpa [cpCell] using ea) (by simpa [cpCell] using eb)
end Go.Proofs.Ytjpjikfmdaejeab
/-
  A MAP FROM PLACES TO PLACES: the places of a list.
-/
namespace Go.Proofs.Ytjpjikfmdaejeab
set_option linter.unusedVariables false
set_option linter.unusedSimpArgs false
open Go.RowKit Go.Maps

theorem keyedI : Keyed Try.prog 3 := int_keyed Try.underlying3
theorem zeroI (w : World) : (zeroValue 3).run Try.prog w = .ok (.int .i64 0) w := by kernel_rfl
theorem litI_wf (x : Nat) (h : x ≤ 1048576) : (Lit.int .i64 (x : Int)).wf = true := by
  simp only [Lit.wf, IntKind.min, IntKind.max, IntKind.signed, IntKind.bits, Bool.and_eq_true, decide_eq_true_eq, if_true]
  omega
theorem litI_ne {a b : Nat} (h : a ≠ b) : Lit.int .i64 (a : Int) ≠ Lit.int .i64 (b : Int) := by
  intro e
  simp only [Lit.int.injEq] at e
  omega
/-- block M is a map that holds the place of each cell of a list, and nothing else -/
def MapN (w : World) (M : Nat) (o : List Nat) : Prop :=
  ∃ (n : Nat) (D : DataW Unit), w.ownsMap Try.prog 3 (plainElem Try.prog 3) M n D ∧ n ≤ o.length ∧ ∀ x : Nat, x ≤ 1048576 → has D (.int .i64 (x : Int)) = memB o x ∧ (x ∈ o → D.atKey (.int .i64 (x : Int)) (.lit (.int .i64 0)) = .lit (.int .i64 (posN o x : Int)))
theorem MapN.made (w : World) : MapN (w.alloc (.map #[] 0)) w.heap.size [] := ⟨0, _, World.ownsMap_made w _ _ _, Nat.le_refl _, fun x _ => ⟨by simp [has, memB], fun h => by simp at h⟩⟩
theorem MapN.lt {w : World} {M : Nat} {o : List Nat} (h : MapN w M o) : M < w.heap.size := by obtain ⟨n, D, h1, -⟩ := h; exact h1.lt
theorem MapN.of_block {w w' : World} {M : Nat} {o : List Nat} (h : MapN w M o) (hb : w'.heap[M]? = w.heap[M]?) : MapN w' M o := by
  obtain ⟨n, D, ⟨es, clock, h1, h2⟩, h3⟩ := h
  exact ⟨n, D, ⟨es, clock, hb.trans h1, h2⟩, h3⟩
/-- it is no row -/
theorem MapN.ne_row {w : World} {M : Nat} {o : List Nat} (h : MapN w M o) {b : Nat} {C : Array Value} {T : TypeId} (hb : w.heap[b]? = some (.cells C T)) : b ≠ M := by
  intro e
  subst e
  obtain ⟨n, D, ⟨es, clock, h1, h2⟩, h3⟩ := h
  rw [h1] at hb
  cases hb
theorem keyLitI (x : Nat) : WideAt.IsKeyLit (Lit.int .i64 (x : Int)) := by simp [WideAt.IsKeyLit]
theorem mapN_put {w : World} {M n : Nat} {o : List Nat} {D : DataW Unit} {x : Nat} (h : w.ownsMap Try.prog 3 (plainElem Try.prog 3) M (n + 1) (D.put (.int .i64 (x : Int)) (.lit (.int .i64 (o.length : Int))))) (hm : IsMap D) (hn : n ≤ o.length)
    (hs : ∀ x : Nat, x ≤ 1048576 → has D (.int .i64 (x : Int)) = memB o x ∧ (x ∈ o → D.atKey (.int .i64 (x : Int)) (.lit (.int .i64 0)) = .lit (.int .i64 (posN o x : Int)))) (hx : x ∉ o) : MapN w M (o ++ [x]) := by
  refine ⟨n + 1, _, h, by simp; omega, fun y hy => ?_⟩
  by_cases e : y = x
  · subst e
    refine ⟨?_, fun _ => ?_⟩
    · rw [has_put_same hm (keyLitI y)]; simp [memB]
    · rw [atKey_put_same hm (keyLitI y), posN_snoc o y hx]
  · have hne : Lit.int .i64 (y : Int) ≠ Lit.int .i64 (x : Int) := litI_ne e
    refine ⟨?_, fun hy2 => ?_⟩
    · rw [has_put_other hne, (hs y hy).1]; simp [memB, e]
    · have hyo : y ∈ o := by
        rcases List.mem_append.1 hy2 with h | h
        · exact h
        · exact absurd (by simpa using h) e
      rw [atKey_put_other hne, (hs y hy).2 hyo, posN_app _ _ _ hyo]
end Go.Proofs.Ytjpjikfmdaejeab
