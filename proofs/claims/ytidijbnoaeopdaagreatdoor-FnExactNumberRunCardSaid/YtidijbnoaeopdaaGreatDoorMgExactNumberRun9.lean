/-
  A GRAPH IN ROWS OF ITS OWN, all distinct: the laws' marks (markCellS) and their re-reading (heldCellS), with what stands there.
-/
import Derived.Test.YtidijbnoaeopdaaGreatDoorMgExactNumberRun8
import Derived.Test.YtidijbnoaeopdaaGreatDoorMgExactNumberRun5
import Derived.Test.YtidijbnoaeopdaaGreatDoorMgExactNumberRun1
import Derived.Test.YtidijbnoaeopdaaGreatDoorProg
import Derived.Deep.RegionLaw
import Derived.Deep.RegionLawGrows
import Derived.Deep.DeepMust
import Derived.Test.YtidijbnoaeopdaaGreatDoorMgExactNumberRun4
import Derived.Laws.AppendOwn
import Derived.Laws.AppendOwnNone
namespace Go.Proofs.YtidijbnoaeopdaaGreatDoor
set_option linter.unusedVariables false
set_option linter.unusedSimpArgs false
open Go.RowKit

/-- the operands of a cell, in the row blk -/
def KRow (w : World) (fp : List Nat) (xs : List Int) (blk : Nat) (v : Value) : Prop :=
  ∃ ad cap, v = .slice ad xs.length cap ∧ xs.length ≤ cap ∧ cap ≤ maxLen ∧ (xs = [] ∨ ∃ f, ad = some ⟨blk, 0, none⟩ ∧ blk ∈ fp ∧ w.rowIs blk 3 cap f ∧ ∀ i (h : i < xs.length), f i = .int .i64 xs[i])
/-- the cells, in the row b; the operands of cell i in the row kb i -/
def GRow (w : World) (fp : List Nat) (b cap : Nat) (kb : Nat → Nat) (g : List Ce) : Prop :=
  ∃ f, w.rowIs b 93 (cap * 3) f ∧ ∀ i (h : i < g.length), f (i * 3) = .int .i64 g[i].op ∧ f (i * 3 + 1) = .int .i64 g[i].num ∧ KRow w fp g[i].kids (kb i) (f (i * 3 + 2))
/-- two rows of operands are two blocks -/
def Dist (kb : Nat → Nat) (g : List Ce) : Prop := ∀ i j (hi : i < g.length) (hj : j < g.length), i ≠ j → g[i].kids ≠ [] → g[j].kids ≠ [] → kb i ≠ kb j
/-- a slice value that holds a graph in rows of its own -/
def GOwn (w : World) (fp : List Nat) (g : List Ce) (v : Value) : Prop :=
  (∀ i (h : i < g.length), I64 g[i].op ∧ I64 g[i].num) ∧ ∃ ad cap, v = .slice ad g.length cap ∧ g.length ≤ cap ∧ cap ≤ maxLen ∧ (g = [] ∨ ∃ b kb, ad = some ⟨b, 0, none⟩ ∧ b ∈ fp ∧ GRow w fp b cap kb g ∧ Dist kb g)

theorem KRow.keep {w w' : World} {fp fp' : List Nat} {xs : List Int} {blk : Nat} {v : Value} (h : KRow w fp xs blk v) (hf : xs ≠ [] → blk ∈ fp → blk ∈ fp') (hb : xs ≠ [] → blk ∈ fp → w'.heap[blk]? = w.heap[blk]?) : KRow w' fp' xs blk v := by
  obtain ⟨ad, cap, e, l1, l2, h⟩ := h
  refine ⟨ad, cap, e, l1, l2, ?_⟩
  by_cases hx : xs = []
  · exact Or.inl hx
  · rcases h with h | ⟨f, rfl, h1, h2, h3⟩
    · exact absurd h hx
    · exact Or.inr ⟨f, rfl, hf hx h1, h2.of_block (hb hx h1), h3⟩
theorem GOwn.keep {w w' : World} {fp : List Nat} {g : List Ce} {v : Value} (h : GOwn w fp g v) (hb : ∀ k ∈ fp, k < w.heap.size → w'.heap[k]? = w.heap[k]?) : GOwn w' fp g v := by
  obtain ⟨hi, ad, cap, e, l1, l2, h⟩ := h
  refine ⟨hi, ad, cap, e, l1, l2, h.imp id ?_⟩
  rintro ⟨b, kb, rfl, h1, ⟨f, hr, hf⟩, hd⟩
  refine ⟨b, kb, rfl, h1, ⟨f, hr.of_block (hb b h1 hr.lt), fun i h => ?_⟩, hd⟩
  obtain ⟨e0, e1, e2⟩ := hf i h
  refine ⟨e0, e1, e2.keep (fun _ h => h) fun hx hm => ?_⟩
  obtain ⟨_, _, _, _, _, h5⟩ := e2
  rcases h5 with h5 | ⟨f5, -, -, h6, -⟩
  · exact absurd h5 hx
  · exact hb _ hm h6.lt
/-- .. as cells that lie in a world -/
theorem GOwn.inn {w : World} {fp : List Nat} {g : List Ce} {v : Value} (h : GOwn w fp g v) : CIn w g v := by
  obtain ⟨hi, ad, cap, e, l1, l2, h⟩ := h
  refine ⟨ad, cap, e, l1, l2, h.imp id ?_⟩
  rintro ⟨b, kb, rfl, h1, ⟨f, hr, hf⟩, hd⟩
  refine ⟨b, 0, rfl, hr.lt, fun i h => ?_⟩
  obtain ⟨e0, e1, e2⟩ := hf i h
  refine ⟨f (i * 3 + 2), ?_, ?_, ?_, (hi i h).1, (hi i h).2, ?_⟩
  · rw [Nat.zero_add, hr.cell (by omega), e0]
  · rw [Nat.zero_add, hr.cell (by omega), e1]
  · rw [Nat.zero_add, hr.cell (by omega)]
  · obtain ⟨ad2, cap2, e3, l3, l4, h5⟩ := e2
    refine ⟨ad2, cap2, e3, l3, l4, h5.imp id ?_⟩
    rintro ⟨f5, rfl, -, h6, h7⟩
    exact ⟨_, 0, rfl, h6.lt, fun j hj => by rw [Nat.zero_add, h6.cell (by omega), h7 j hj]⟩

/-- .. in the blocks of a set -/
theorem GOwn.onS {w : World} {fp : List Nat} {g : List Ce} {v : Value} (h : GOwn w fp g v) {S : Nat → Prop} (hS : ∀ k ∈ fp, k < w.heap.size → S k) : CellsOn w S g v := by
  obtain ⟨hi, ad, cap, e, l1, l2, h⟩ := h
  refine ⟨ad, cap, e, l1, l2, h.imp id ?_⟩
  rintro ⟨b, kb, rfl, h1, ⟨f, hr, hf⟩, hd⟩
  refine ⟨b, 0, rfl, hS b h1 hr.lt, fun i h => ?_⟩
  obtain ⟨e0, e1, e2⟩ := hf i h
  refine ⟨f (i * 3 + 2), ?_, ?_, ?_, (hi i h).1, (hi i h).2, ?_⟩
  · rw [Nat.zero_add, hr.cell (by omega), e0]
  · rw [Nat.zero_add, hr.cell (by omega), e1]
  · rw [Nat.zero_add, hr.cell (by omega)]
  · obtain ⟨ad2, cap2, e3, l3, l4, h5⟩ := e2
    refine ⟨ad2, cap2, e3, l3, l4, h5.imp id ?_⟩
    rintro ⟨f5, rfl, h55, h6, h7⟩
    exact ⟨_, 0, rfl, hS _ h55 h6.lt, fun j hj => by rw [Nat.zero_add, h6.cell (by omega), h7 j hj]⟩

/-! ### The labels -/
/-- the number that stands at cell i -/
def cLab (g : List Ce) (k : Int) (i : Nat) : Int := k + 2 * (i : Int) + (sumK (g.take i) : Int)
/-- a marked cell -/
def markedC (l : Int) (n : Nat) : Ce := ⟨l, l + 1, upFrom (l + 2) n⟩
def labC (g : List Ce) (k : Int) : List Ce := (List.range g.length).map fun i => markedC (cLab g k i) ((g.getD i ⟨0, 0, []⟩).kids.length)
theorem labC_length (g : List Ce) (k : Int) : (labC g k).length = g.length := by simp [labC]
theorem labC_get (g : List Ce) (k : Int) (i : Nat) (hi : i < g.length) (hj : i < (labC g k).length) : (labC g k)[i] = markedC (cLab g k i) g[i].kids.length := by
  simp [labC, hi]
/-- a graph of which the first j cells are marked -/
def HalfC (g : List Ce) (k : Int) (j : Nat) (ms : List Ce) : Prop := ms.length = g.length ∧ ∀ i (hi : i < g.length) (hm : i < ms.length), ms[i] = if i < j then markedC (cLab g k i) g[i].kids.length else g[i]
theorem HalfC.zero (g : List Ce) (k : Int) : HalfC g k 0 g := ⟨rfl, fun i hi hm => by simp⟩
theorem HalfC.step {g ms : List Ce} {k : Int} {j : Nat} (h : HalfC g k j ms) (hj : j < g.length) : HalfC g k (j + 1) (ms.set j (markedC (cLab g k j) g[j].kids.length)) := by
  refine ⟨by rw [List.length_set]; exact h.1, fun i hi hm => ?_⟩
  rw [List.getElem_set]
  by_cases hij : j = i
  · subst hij; simp
  · rw [if_neg hij, h.2 i hi (by rw [h.1]; exact hi)]
    by_cases hlt : i < j
    · rw [if_pos hlt, if_pos (by omega)]
    · rw [if_neg hlt, if_neg (by omega)]
theorem HalfC.done {g ms : List Ce} {k : Int} (h : HalfC g k g.length ms) : ms = labC g k := by
  refine List.ext_getElem (by rw [h.1, labC_length]) fun i h1 h2 => ?_
  have hi : i < g.length := by rw [← h.1]; exact h1
  rw [h.2 i hi h1, if_pos hi, labC_get g k i hi]
theorem HalfC.at {g ms : List Ce} {k : Int} {j : Nat} (h : HalfC g k j ms) (hj : j < g.length) (hm : j < ms.length) : ms[j] = g[j] := by rw [h.2 j hj hm, if_neg (by omega)]
theorem HalfC.kids {g ms : List Ce} {k : Int} {j : Nat} (h : HalfC g k j ms) (i : Nat) (hi : i < g.length) (hm : i < ms.length) : ms[i].kids.length = g[i].kids.length := by
  rw [h.2 i hi hm]
  split
  · simp [markedC, upFrom_length]
  · rfl

/-- a store into the row of cells, not at an operand -/
theorem GRow.store {w : World} {fp : List Nat} {b cap : Nat} {kb : Nat → Nat} {g : List Ce} (h : GRow w fp b cap kb g) (j : Nat) (hj : j < g.length) (l : Int) :
    GRow ((w.setCell ⟨b, j * 3, none⟩ (.int .i64 l)).setCell ⟨b, j * 3 + 1, none⟩ (.int .i64 (l + 1))) fp b cap kb (g.set j ⟨l, l + 1, g[j].kids⟩) := by
  obtain ⟨f, hr, hf⟩ := h
  refine ⟨_, (hr.set (j * 3) _).set (j * 3 + 1) _, fun i hi => ?_⟩
  rw [List.length_set] at hi
  obtain ⟨e0, e1, e2⟩ := hf i hi
  have hk : KRow ((w.setCell ⟨b, j * 3, none⟩ (.int .i64 l)).setCell ⟨b, j * 3 + 1, none⟩ (.int .i64 (l + 1))) fp g[i].kids (kb i) (f (i * 3 + 2)) := by
    refine e2.keep (fun _ h => h) fun hx hm => ?_
    obtain ⟨_, _, _, _, _, h5⟩ := e2
    rcases h5 with h5 | ⟨f5, -, -, h6, -⟩
    · exact absurd h5 hx
    · have hne := rows_part hr h6
      rw [setCell_other _ _ _ hne.symm, setCell_other _ _ _ hne.symm]
  have n1 : ¬ (i * 3 + 2 = j * 3 + 1) := by omega
  have n2 : ¬ (i * 3 + 2 = j * 3) := by omega
  by_cases hij : i = j
  · subst hij
    simp only [List.getElem_set_self]
    refine ⟨by simp, by simp, ?_⟩
    simp only [if_neg n1, if_neg n2]
    exact hk
  · rw [List.getElem_set_ne (by omega)]
    have n3 : ¬ (i * 3 = j * 3 + 1) := by omega
    have n4 : ¬ (i * 3 = j * 3) := by omega
    have n5 : ¬ (i * 3 + 1 = j * 3 + 1) := by omega
    have n6 : ¬ (i * 3 + 1 = j * 3) := by omega
    refine ⟨?_, ?_, ?_⟩
    · simp only [if_neg n3, if_neg n4]; exact e0
    · simp only [if_neg n5, if_neg n6]; exact e1
    · simp only [if_neg n1, if_neg n2]; exact hk
end Go.Proofs.YtidijbnoaeopdaaGreatDoor
/-
  PLAIN: the cells of an expression, added to a graph. No program is named here.
-/
namespace Go.Proofs.YtidijbnoaeopdaaGreatDoor
set_option linter.unusedVariables false
set_option linter.unusedSimpArgs false

mutual
/-- the graph with the cells of a tree, and the tree's cell -/
def addT (args : List Nat) : Tr → List Ce → List Ce × Nat
  | .node op n ks, g => if op = 1 then (g, args.getD n.toNat 0) else ((addL args ks g).1 ++ [⟨op, n, (addL args ks g).2.map fun (a : Nat) => (a : Int)⟩], (addL args ks g).1.length)
/-- .. of the trees of a list, one behind the other -/
def addL (args : List Nat) : List Tr → List Ce → List Ce × List Nat
  | [], g => (g, [])
  | t :: ts, g => ((addL args ts (addT args t g).1).1, (addT args t g).2 :: (addL args ts (addT args t g).1).2)
end
theorem addT_var {args : List Nat} {t : Tr} (g : List Ce) (h : t.op = 1) : addT args t g = (g, args.getD t.num.toNat 0) := by
  cases t with
  | node op n ks => simp only [Tr.op_node] at h; simp [addT, h]
theorem addT_other {args : List Nat} {t : Tr} (g : List Ce) (h : ¬ t.op = 1) : addT args t g = ((addL args t.kids g).1 ++ [⟨t.op, t.num, (addL args t.kids g).2.map fun (a : Nat) => (a : Int)⟩], (addL args t.kids g).1.length) := by
  cases t with
  | node op n ks => simp only [Tr.op_node] at h; simp [addT, h]
theorem addL_snoc (args : List Nat) : ∀ (ts : List Tr) (t : Tr) (g : List Ce), addL args (ts ++ [t]) g = ((addT args t (addL args ts g).1).1, (addL args ts g).2 ++ [(addT args t (addL args ts g).1).2])
  | [], t, g => by simp [addL]
  | x :: ts, t, g => by
    have := addL_snoc args ts t (addT args x g).1
    simp only [List.cons_append, addL, this]
theorem addL_length (args : List Nat) : ∀ (ts : List Tr) (g : List Ce), (addL args ts g).2.length = ts.length
  | [], g => by simp [addL]
  | x :: ts, g => by simp [addL, addL_length args ts]
theorem addL_take_succ (args : List Nat) (ts : List Tr) (g : List Ce) (k : Nat) (hk : k < ts.length) : addL args (ts.take (k + 1)) g = ((addT args ts[k] (addL args (ts.take k) g).1).1, (addL args (ts.take k) g).2 ++ [(addT args ts[k] (addL args (ts.take k) g).1).2]) := by
  rw [List.take_succ_eq_append_getElem hk, addL_snoc]
theorem sumK_one (c : Ce) : sumK [c] = c.kids.length := by simp [sumK]
mutual
theorem addT_size (args : List Nat) : ∀ (t : Tr) (g : List Ce), g.length ≤ (addT args t g).1.length ∧ (addT args t g).1.length ≤ g.length + 1 + szT t ∧ sumK (addT args t g).1 ≤ sumK g + szT t
  | .node op n ks, g => by
    have h := addL_size args ks g
    have hl := addL_length args ks g
    unfold addT
    split
    · simp only [szT]; omega
    · have e : sumK ((addL args ks g).1 ++ [⟨op, n, (addL args ks g).2.map fun (a : Nat) => (a : Int)⟩]) = sumK (addL args ks g).1 + ks.length := by
        rw [sumK_append, sumK_one]; simp [hl]
      have e2 : szL ks = ks.length + sumT ks := szL_sum ks
      simp only [List.length_append, List.length_cons, List.length_nil, szT, e]
      have h3 := h.2.2
      omega
theorem addL_size (args : List Nat) : ∀ (ts : List Tr) (g : List Ce), g.length ≤ (addL args ts g).1.length ∧ (addL args ts g).1.length ≤ g.length + szL ts ∧ sumK (addL args ts g).1 ≤ sumK g + sumT ts
  | [], g => by simp [addL, szL, sumT]
  | t :: ts, g => by
    have h1 := addT_size args t g
    have h2 := addL_size args ts (addT args t g).1
    simp only [addL, szL, sumT_cons]
    omega
end
end Go.Proofs.YtidijbnoaeopdaaGreatDoor
/-
  ROWS THAT A CALL OWNS: append, with where the new row lies.
-/
namespace Go.Proofs.YtidijbnoaeopdaaGreatDoor
set_option linter.unusedVariables false
set_option linter.unusedSimpArgs false
open Go.RowKit

theorem cell_of_blk {w : World} {b : Nat} {C : Array Value} {T : TypeId} (h : w.heap[b]? = some (.cells C T)) (i : Nat) (v : Value) (hv : C[i]? = some v) : w.cell? ⟨b, i, none⟩ = some v := by
  simp only [World.cell?, h]; exact hv
theorem frz_of_blk {w : World} {b : Nat} {C : Array Value} {T : TypeId} (h : w.heap[b]? = some (.cells C T)) (i : Nat) : w.frozen? ⟨b, i, none⟩ = false := by
  simp [World.frozen?, h]
theorem own_keep {w w' : World} {base n size : Nat} {e : TypeId} {v : Value} {xs : List Value} (h : w.ownsRow base e size v n xs) (hk : ∀ k, base ≤ k → k < w.heap.size → w'.heap[k]? = w.heap[k]?) : w'.ownsRow base e size v n xs := by
  refine ⟨h.1, ?_⟩
  rcases h.2 with h | ⟨g, cap, cur, rfl, hg, hh, r⟩
  · exact Or.inl h
  · exact Or.inr ⟨g, cap, cur, rfl, hg, (hk g hg (Array.getElem?_eq_some_iff.1 hh).1).trans hh, r⟩
theorem own_block {w : World} {base n size : Nat} {e : TypeId} {v : Value} {xs : List Value} (h : w.ownsRow base e size v n xs) {k : Nat} (hk : some k = v.ownBlock) : base ≤ k := by
  rcases h.2 with ⟨rfl, -⟩ | ⟨g, cap, cur, rfl, hg, -⟩
  · simp [Value.ownBlock] at hk
  · simp only [Value.ownBlock, Option.some.injEq] at hk
    omega
/-- a parameter's box behind a call -/
theorem box_after {w w1 : World} {a b c : Value} {T : TypeId} (hb : Below (w.alloc (.cells #[a, b, c] T)).heap.size (w.alloc (.cells #[a, b, c] T)) w1) :
    w1.cell? ⟨w.heap.size, 0, none⟩ = some a ∧ w1.cell? ⟨w.heap.size, 1, none⟩ = some b ∧ w1.cell? ⟨w.heap.size, 2, none⟩ = some c ∧ w.heap.size < w1.heap.size ∧ Below w.heap.size w w1 := by
  have hz : w.heap.size < (w.alloc (.cells #[a, b, c] T)).heap.size := by rw [Deep.nblk_alloc]; omega
  refine ⟨(hb.cell (p := ⟨w.heap.size, 0, none⟩) hz).trans (box_cell w #[a, b, c] T 0 _ rfl), (hb.cell (p := ⟨w.heap.size, 1, none⟩) hz).trans (box_cell w #[a, b, c] T 1 _ rfl), (hb.cell (p := ⟨w.heap.size, 2, none⟩) hz).trans (box_cell w #[a, b, c] T 2 _ rfl), Nat.lt_of_lt_of_le hz hb.size, (box_below _ _).trans (hb.mono (Nat.le_of_lt hz))⟩
/-- append to an owned row: it stays in its block, or lies in a new one -/
theorem run_append_where {P : Program} (w : World) (base : Nat) (t ty e : TypeId) (i : TypeInfo) (z : Value) (size bytes : Nat) (ht : P.underlying t = some (.slice e)) (hi : P.info? e = some i) (hz : i.zero = some z)
    (hsize : i.size = size) (hby : i.bytes = bytes) (hzs : z.cells.size = size) (hsz : 0 < size)
    (v : Value) (n : Nat) (xs : List Value) (hown : w.ownsRow base e size v n xs)
    (a : Addr) (m c : Nat) (news : List Value) (hl : news.length = m * size) (hnews : ∀ j u, news[j]? = some u → w.cell? (a.add j) = some u) (h1 : ∀ u ∈ news, u.oneCell' = true)
    (h63 : n + m ≤ maxLen) (hbytes : (n + m) * bytes ≤ 140737488355328) (hbase : base ≤ w.heap.size) (hm : 0 < m) :
    ∃ v' w', (Builtin.append_ #[t, t] ty #[v, .slice (some a) m c]).run P w = .ok v' w' ∧ w'.ownsRow base e size v' (n + m) (xs ++ news) ∧ w.grownBy w' v.ownBlock ∧
      (v'.ownBlock = v.ownBlock ∨ ∃ g, v'.ownBlock = some g ∧ w.heap.size ≤ g) := by
  obtain ⟨v', w', hrun, hown', hgr, -⟩ := run_append_own (P := P) w base t ty e i z size bytes ht hi hz hsize hby hzs hsz v n xs hown a m c news hl hnews h1 h63 hbytes hbase
  refine ⟨v', w', hrun, hown', hgr, ?_⟩
  have hform := hown
  rcases hform.2 with ⟨rfl, rfl⟩ | ⟨g, cap, cur, rfl, hb, hh, hn, hc, hs, htk⟩
  · right
    obtain rfl : xs = [] := List.eq_nil_of_length_eq_zero (by simpa using hform.1)
    obtain ⟨v2, w2, hrun2, hown2, -, -⟩ := run_append_own (P := P) w w.heap.size t ty e i z size bytes ht hi hz hsize hby hzs hsz (.slice none 0 0) 0 [] (World.ownsRow_nil w _ e size) a m c news hl hnews h1 h63 hbytes (Nat.le_refl _)
    rw [hrun] at hrun2
    cases hrun2
    rcases hown2.2 with ⟨rfl, h0⟩ | ⟨g, cap, cur, rfl, hb, _⟩
    · omega
    · exact ⟨g, rfl, hb⟩
  · by_cases hroom : n + m ≤ cap
    · left
      have hcell : ∀ j, j < news.length → w.cell? ⟨g, 0 + n * i.size + j, none⟩ = cur[n * size + j]? := fun j hj => by
        rw [Nat.zero_add, hsize]; simp [World.cell?, hh]
      have hin : ∀ j, j < news.length → n * size + j < cur.size := fun j hj => by
        have h2 : (n + m) * size ≤ cap * size := Nat.mul_le_mul_right _ hroom
        rw [Nat.add_mul] at h2
        omega
      have hrun2 := run_append_room_cells (P := P) w t ty e i ht hi g 0 n cap a m c news (by rw [hsize]; exact hl) hnews h1 hroom
        (fun j hj => by rw [hcell j hj, Array.getElem?_eq_getElem (hin j hj)]; rfl) (fun j hj => by simp [World.frozen?, hh])
      rw [hrun] at hrun2
      cases hrun2
      rfl
    · right
      obtain ⟨v2, w2, hrun2, hown2, -⟩ := run_append_arg_grows (P := P) w t ty e i z size bytes ht hi hz hsize hby hzs hsz ⟨g, 0, none⟩ n cap xs hform.1
        (fun j u hu => hform.cells rfl j u hu) a m c news hl hnews (by omega) h63 hbytes
      rw [hrun] at hrun2
      cases hrun2
      rcases hown2.2 with ⟨rfl, h0⟩ | ⟨g2, cap2, cur2, rfl, hb2, _⟩
      · omega
      · exact ⟨g2, rfl, hb2⟩

/-- .. as one step of a region that draws its order -/
theorem step_append_where {P : Program} {ops : Array Oper} {o : Oper} {a : Act} {w : World} {K : Act → World → Prop} {Q : Exit → Act → World → Prop} {E : Prop}
    (hg : o.guard = none) (s x : Operand) (t : TypeId) (hop : o.op = Op.call { callee := Callee.builtin Builtin.append, args := #[s, x], argTypes := #[t, t] })
    (base : Nat) (e : TypeId) (i : TypeInfo) (z : Value) (size bytes : Nat) (ht : P.underlying t = some (.slice e)) (hi : P.info? e = some i) (hz : i.zero = some z)
    (hsize : i.size = size) (hby : i.bytes = bytes) (hzs : z.cells.size = size) (hsz : 0 < size)
    (v : Value) (n : Nat) (xs : List Value) (hs : a.eval s = v) (hown : w.ownsRow base e size v n xs)
    (ad : Addr) (m c : Nat) (news : List Value) (hx : a.eval x = .slice (some ad) m c) (hl : news.length = m * size) (hnews : ∀ j u, news[j]? = some u → w.cell? (ad.add j) = some u) (h1 : ∀ u ∈ news, u.oneCell' = true)
    (h63 : n + m ≤ maxLen) (hbytes : (n + m) * bytes ≤ 140737488355328) (hbase : base ≤ w.heap.size) (hm : 0 < m)
    (hK : ∀ v' w', w'.ownsRow base e size v' (n + m) (xs ++ news) → w.grownBy w' v.ownBlock → (v'.ownBlock = v.ownBlock ∨ ∃ g, v'.ownBlock = some g ∧ w.heap.size ≤ g) → K (a.put o.dst v') w') :
    if Region.wanted o (yielded ops a.tmps) = true then Oper.wp P o a w K Q else E := by
  have hw : Region.wanted o (yielded ops a.tmps) = true := by simp [Region.wanted, hg]
  rw [if_pos hw]
  obtain ⟨v', w', hrun, r1, r2, r3⟩ := run_append_where (P := P) w base t o.type e i z size bytes ht hi hz hsize hby hzs hsz v n xs hown ad m c news hl hnews h1 h63 hbytes hbase hm
  unfold Oper.wp
  simp [execOp, hop, resolve, invoke, builtin, hs, hx, hrun, Result.andThen]
  exact hK v' w' r1 r2 r3

end Go.Proofs.YtidijbnoaeopdaaGreatDoor
/-
  append AS A STEP OF THE WALK, WITH WHERE THE NEW ROW LIES.
-/
namespace Go.Proofs.YtidijbnoaeopdaaGreatDoor
set_option linter.unusedVariables false
set_option linter.unusedSimpArgs false
open Go.RowKit

theorem wpList_append_where {P : Program} (w : World) {ops : Array Oper} {rest : List Oper} {o : Oper} {a : Act} {Q : Exit → Act → World → Prop}
    (hg : o.guard = none) (s x : Operand) (t : TypeId) (hop : o.op = Op.call { callee := Callee.builtin Builtin.append, args := #[s, x], argTypes := #[t, t] })
    (base : Nat) (e : TypeId) (i : TypeInfo) (z : Value) (size bytes : Nat) (ht : P.underlying t = some (.slice e)) (hi : P.info? e = some i) (hz : i.zero = some z)
    (hsize : i.size = size) (hby : i.bytes = bytes) (hzs : z.cells.size = size) (hsz : 0 < size)
    (v : Value) (n : Nat) (xs : List Value) (hs : a.eval s = v) (hown : w.ownsRow base e size v n xs)
    (ad : Addr) (m c : Nat) (news : List Value) (hx : a.eval x = .slice (some ad) m c) (hl : news.length = m * size) (hnews : ∀ j u, news[j]? = some u → w.cell? (ad.add j) = some u) (h1 : ∀ u ∈ news, u.oneCell' = true)
    (h63 : n + m ≤ maxLen) (hbytes : (n + m) * bytes ≤ 140737488355328) (hbase : base ≤ w.heap.size) (hm : 0 < m)
    (hK : ∀ v' w', w'.ownsRow base e size v' (n + m) (xs ++ news) → w.grownBy w' v.ownBlock → (v'.ownBlock = v.ownBlock ∨ ∃ g, v'.ownBlock = some g ∧ w.heap.size ≤ g) → wpList P ops Q rest (a.put o.dst v') w') :
    wpList P ops Q (o :: rest) a w := by
  refine wpList_plain hg fun K' hK' => ?_
  obtain ⟨v', w', hrun, r1, r2, r3⟩ := run_append_where (P := P) w base t o.type e i z size bytes ht hi hz hsize hby hzs hsz v n xs hown ad m c news hl hnews h1 h63 hbytes hbase hm
  unfold Oper.wp
  simp [execOp, hop, resolve, invoke, builtin, hs, hx, hrun, Result.andThen]
  exact hK' _ _ (hK v' w' r1 r2 r3)

/-- an owned row that is not empty lies somewhere -/
theorem own_form {w : World} {base n size : Nat} {e : TypeId} {v : Value} {xs : List Value} (h : w.ownsRow base e size v n xs) (hn : 0 < n) : ∃ g cap, v = .slice (some ⟨g, 0, none⟩) n cap ∧ base ≤ g ∧ g < w.heap.size ∧ n ≤ cap ∧ cap ≤ maxLen := by
  rcases h.2 with ⟨-, h0⟩ | ⟨g, cap, cur, rfl, hg, hh, hn', hc, -⟩
  · omega
  · exact ⟨g, cap, rfl, hg, (Array.getElem?_eq_some_iff.1 hh).1, hn', hc⟩
/-- a block of two cells -/
theorem box2_cell (w : World) (C : Array Value) (t : TypeId) (i : Nat) (v : Value) (h : C[i]? = some v) : (w.alloc (.cells C t)).cell? ((⟨w.heap.size, 0, none⟩ : Addr).add i) = some v := by
  rw [WideShapes.add_plain, Nat.zero_add]
  exact box_cell w C t i v h
end Go.Proofs.YtidijbnoaeopdaaGreatDoor
/-
  A STACK OF PLACES (a slice of ints that a call owns) AND MARKS (a row of bools).
-/
namespace Go.Proofs.YtidijbnoaeopdaaGreatDoor
set_option linter.unusedVariables false
set_option linter.unusedSimpArgs false
open Go.RowKit

theorem infoI1 : ∃ i z, Tryz.prog.info? 3 = some i ∧ i.zero = some z ∧ i.size = 1 ∧ i.bytes = 8 ∧ z.cells.size = 1 := by
  obtain ⟨i, hi, hzz⟩ := Option.map_eq_some_iff.1 infoI
  simp only [Prod.mk.injEq] at hzz
  obtain ⟨hz, hs, hb⟩ := hzz
  exact ⟨i, _, hi, hz, hs, hb, rfl⟩
/-- places, as numbers -/
def plI (ws : List Nat) : List Int := ws.map fun (a : Nat) => (a : Int)
theorem plI_length (ws : List Nat) : (plI ws).length = ws.length := by simp [plI]
/-- places, as values -/
def plV (ws : List Nat) : List Value := ws.map fun (a : Nat) => Value.int .i64 (a : Int)
theorem plV_length (ws : List Nat) : (plV ws).length = ws.length := by simp [plV]
theorem plV_one (ws : List Nat) : ∀ u ∈ plV ws, u.oneCell' = true := by
  intro u hu
  simp only [plV, List.mem_map] at hu
  obtain ⟨a, -, rfl⟩ := hu
  rfl
def Stk (w : World) (lo : Nat) (ws : List Nat) (v : Value) : Prop := w.ownsRow lo 3 1 v ws.length (plV ws)
theorem Stk.keep {w w' : World} {lo : Nat} {ws : List Nat} {v : Value} (h : Stk w lo ws v) (hk : ∀ k, lo ≤ k → k < w.heap.size → w'.heap[k]? = w.heap[k]?) : Stk w' lo ws v := by
  refine ⟨h.1, ?_⟩
  rcases h.2 with h | ⟨g, cap, cur, rfl, hg, hh, r⟩
  · exact Or.inl h
  · exact Or.inr ⟨g, cap, cur, rfl, hg, (hk g hg (Array.getElem?_eq_some_iff.1 hh).1).trans hh, r⟩
theorem Stk.top {w : World} {lo : Nat} {ws : List Nat} {a : Nat} {v : Value} (h : Stk w lo (ws ++ [a]) v) :
    ∃ g cap, v = .slice (some ⟨g, 0, none⟩) (ws.length + 1) cap ∧ lo ≤ g ∧ g < w.heap.size ∧ ws.length + 1 ≤ cap ∧ cap ≤ maxLen ∧ w.cell? ⟨g, ws.length, none⟩ = some (.int .i64 (a : Int)) ∧ Stk w lo ws (.slice (some ⟨g, 0, none⟩) ws.length cap) := by
  obtain ⟨h1, h2⟩ := h
  rcases h2 with ⟨-, h0⟩ | ⟨g, cap, cur, hv, hg, hh, hn, hc, hs, htk⟩
  · simp at h0
  · simp only [List.length_append, List.length_cons, List.length_nil, Nat.zero_add] at hv hn htk
    simp only [Nat.mul_one] at hs htk
    have hlt : ws.length < cur.size := by omega
    have e1 : (cur.toList.take (ws.length + 1))[ws.length]? = (plV (ws ++ [a]))[ws.length]? := by rw [htk]
    have e2 : cur.toList.take ws.length = plV ws := by
      have := congrArg (List.take ws.length) htk
      rw [List.take_take, Nat.min_eq_left (by omega)] at this
      rw [this]
      simp [plV]
    refine ⟨g, cap, hv, hg, (Array.getElem?_eq_some_iff.1 hh).1, hn, hc, ?_, by rw [plV_length]; omega, Or.inr ⟨g, cap, cur, rfl, hg, hh, by omega, hc, by omega, by rw [Nat.mul_one]; exact e2⟩⟩
    simp only [World.cell?, hh]
    rw [List.getElem?_take_of_lt (by omega)] at e1
    have e3 : (plV (ws ++ [a]))[ws.length]? = some (.int .i64 (a : Int)) := by simp [plV]
    rw [e3] at e1
    simpa using e1
theorem own_lo {w : World} {base n size : Nat} {e : TypeId} {v : Value} {xs : List Value} (h : w.ownsRow base e size v n xs) {k : Nat} (hk : some k = v.ownBlock) : base ≤ k := by
  rcases h.2 with ⟨rfl, -⟩ | ⟨g, cap, cur, rfl, hg, -⟩
  · simp [Value.ownBlock] at hk
  · simp only [Value.ownBlock, Option.some.injEq] at hk
    omega
theorem Stk.nil {w : World} {lo : Nat} {v : Value} {n : Nat} (h : Stk w lo [] v) : ∃ ad cap, v = .slice ad 0 cap := by
  rcases h.2 with ⟨rfl, -⟩ | ⟨g, cap, cur, rfl, -⟩
  · exact ⟨_, _, rfl⟩
  · exact ⟨_, _, rfl⟩
theorem Stk.len {w : World} {lo : Nat} {ws : List Nat} {v : Value} (h : Stk w lo ws v) : ∃ ad cap, v = .slice ad ws.length cap := by
  rcases h.2 with ⟨rfl, h0⟩ | ⟨g, cap, cur, rfl, -⟩
  · exact ⟨none, 0, by rw [h0]⟩
  · exact ⟨_, _, rfl⟩
/-- a new row of one place -/
theorem Stk.one (w : World) (lo : Nat) (a : Nat) (h : lo ≤ w.heap.size) : Stk (w.alloc (.cells #[.int .i64 (a : Int)] 3)) lo [a] (.slice (some ⟨w.heap.size, 0, none⟩) 1 1) :=
  ⟨rfl, Or.inr ⟨w.heap.size, 1, _, rfl, h, Deep.blk_alloc_new _ _, Nat.le_refl _, by simp [maxLen], rfl, rfl⟩⟩

theorem Stk.row {w : World} {lo : Nat} {ws : List Nat} {v : Value} (h : Stk w lo ws v) : IntRow w lo (ws.map fun (a : Nat) => (a : Int)) v := by
  rcases h.2 with ⟨rfl, h0⟩ | ⟨g, cap, cur, rfl, hg, hh, hn, hc, hs, htk⟩
  · obtain rfl : ws = [] := List.eq_nil_of_length_eq_zero h0
    exact IntRow.none _ _
  · rw [Nat.mul_one] at hs htk
    refine ⟨_, cap, by rw [List.length_map], by rw [List.length_map]; exact hn, hc, Or.inr ⟨g, fun i => cur.getD i undef, rfl, hg, ⟨cur, hh, hs, fun i hi => ?_⟩, fun i hi => ?_⟩⟩
    · have hi' : i < cur.size := by omega
      simp [Array.getD, hi']
    · rw [List.length_map] at hi
      have hi' : i < cur.size := by omega
      have e1 : (cur.toList.take ws.length)[i]? = (plV ws)[i]? := by rw [htk]
      rw [List.getElem?_take_of_lt hi] at e1
      have e2 : (plV ws)[i]? = some (.int .i64 (ws[i] : Int)) := by simp [plV, hi]
      rw [e2] at e1
      simp [Array.getD, hi'] at e1 ⊢
      exact e1
/-- one place in a new block, as a slice that is appended -/
theorem one_in (w : World) (a : Nat) : IIn (w.alloc (.cells #[.int .i64 (a : Int)] 3)) [(a : Int)] (.slice (some ⟨w.heap.size, 0, none⟩) 1 1) := by
  refine ⟨_, 1, rfl, Nat.le_refl _, by simp [maxLen], Or.inr ⟨_, 0, rfl, by show w.heap.size < _; rw [Deep.nblk_alloc]; omega, fun i hi => ?_⟩⟩
  obtain rfl : i = 0 := by simp at hi; omega
  exact box_cell w #[.int .i64 (a : Int)] 3 0 _ rfl
theorem Stk.alloc {w : World} {lo : Nat} {ws : List Nat} {v : Value} (h : Stk w lo ws v) (o : Obj) : Stk (w.alloc o) lo ws v := h.keep fun k _ hk => Deep.blk_alloc_lt _ _ _ hk

/-- the operands of a cell, as values -/
theorem ints_news {w : World} {xs : List Int} {ws : List Nat} {ad : Addr} {n cap : Nat} (h : IIn w xs (.slice (some ad) n cap)) (hx : xs = ws.map fun (a : Nat) => (a : Int)) : ∀ j u, (plV ws)[j]? = some u → w.cell? (ad.add j) = some u := by
  intro j u hu
  subst hx
  obtain ⟨ad', cap', he, -, -, hr⟩ := h
  simp only [Value.slice.injEq, Option.some.injEq] at he
  obtain ⟨rfl, -, -⟩ := he
  have hj : j < ws.length := by
    rcases Nat.lt_or_ge j ws.length with h | h
    · exact h
    · rw [List.getElem?_eq_none (by rw [plV_length]; exact h)] at hu; cases hu
  rcases hr with hnil | ⟨bl, off, e, -, hr⟩
  · simp at hnil; subst hnil; simp at hj
  · simp only [Option.some.injEq] at e
    subst e
    rw [WideShapes.add_plain]
    have := hr j (by simpa using hj)
    rw [this]
    simp [plV, hj] at hu
    simpa using hu
theorem kids_back {g : List Ce} {defs : Int} (h : graphB g defs = true) (a : Nat) (ha : a < g.length) : g[a].kids = (kidsN g a).map fun (a : Nat) => (a : Int) := by
  rw [kidsN_at a ha, List.map_map]
  refine List.ext_getElem (by simp) fun i h1 h2 => ?_
  have := (kids_graph h a ha).2 _ (List.getElem_mem h1)
  simp
  omega
theorem split_last {α : Type} (l : List α) (h : 0 < l.length) : ∃ r a, l = r ++ [a] := by
  have hne : l ≠ [] := by intro e; subst e; simp at h
  exact ⟨l.dropLast, l.getLast hne, (List.dropLast_concat_getLast hne).symm⟩

/-- append of places to a stack, out of any slice of ints -/
theorem run_push (w : World) (lo : Nat) (ws news : List Nat) (v x : Value) (ty : TypeId) (hst : Stk w lo ws v) {xs : List Int} (hx : IIn w xs x) (hxs : xs = news.map fun (a : Nat) => (a : Int)) (hlo : lo ≤ w.heap.size) (hb : ws.length + news.length ≤ 1048576) :
    ∃ v' w', (Builtin.append_ #[91, 91] ty #[v, x]).run Tryz.prog w = .ok v' w' ∧ Stk w' lo (ws ++ news) v' ∧ w.grownBy w' v.ownBlock := by
  obtain ⟨i, z, hi, hz, hs, hby, hzs⟩ := infoI1
  have hlen : xs.length = news.length := by rw [hxs]; simp
  have hx2 := hx
  obtain ⟨ad, cap, rfl, -, -, hr⟩ := hx2
  rcases ad with _ | ad
  · have hnil : news = [] := by
      rcases hr with h | ⟨_, _, h, -⟩
      · rw [h] at hlen; exact List.eq_nil_of_length_eq_zero hlen.symm
      · simp at h
    subst hnil
    rw [hlen]
    refine ⟨v, w, ?_, by simpa using hst, ⟨rfl, rfl, rfl, Nat.le_refl _, fun _ _ _ => rfl⟩⟩
    rcases hst.2 with ⟨rfl, h0⟩ | ⟨g, cap, cur, rfl, _, _, hnc, _⟩
    · simp [Builtin.append_, run_underlying Tryz.underlying91, sizeOf, typeInfo, hi, Builtin.lenOf, Builtin.firstCells]
    · simp [Builtin.append_, run_underlying Tryz.underlying91, sizeOf, typeInfo, hi, Builtin.lenOf, Builtin.firstCells, hnc, storeCells]
  · obtain ⟨v', w', hrun, hown, hg, -⟩ := run_append_own (P := Tryz.prog) w lo 91 ty 3 i z 1 8 Tryz.underlying91 hi hz hs hby hzs (by decide) v ws.length (plV ws) hst ad news.length cap (plV news) (by rw [plV_length, Nat.mul_one]) (ints_news hx hxs) (plV_one _) (by unfold maxLen; omega) (by omega) hlo
    rw [← hlen] at hrun
    refine ⟨v', w', hrun, ?_, hg⟩
    unfold Stk
    have e : plV (ws ++ news) = plV ws ++ plV news := by simp [plV]
    rw [e, List.length_append]
    exact hown
theorem wpList_push {ops : Array Oper} {rest : List Oper} {o : Oper} {a : Act} {Q : Exit → Act → World → Prop} (hgd : o.guard = none) (s x : Operand)
    (ho : o.op = .call { callee := .builtin .append, args := #[s, x], argTypes := #[91, 91] })
    (w : World) (lo : Nat) (ws news : List Nat) (v xv : Value) (hs : a.eval s = v) (hst : Stk w lo ws v) (hxe : a.eval x = xv) {xs : List Int} (hx : IIn w xs xv) (hxs : xs = news.map fun (a : Nat) => (a : Int)) (hlo : lo ≤ w.heap.size) (hb : ws.length + news.length ≤ 1048576)
    (h : ∀ v' w', Stk w' lo (ws ++ news) v' → w.grownBy w' v.ownBlock → wpList Tryz.prog ops Q rest (a.put o.dst v') w') : wpList Tryz.prog ops Q (o :: rest) a w := by
  refine wpList_plain hgd fun K hK => ?_
  obtain ⟨v', w', hrun, h2, h3⟩ := run_push w lo ws news v xv o.type hst hx hxs hlo hb
  unfold Oper.wp
  simp [execOp, ho, resolve, invoke, builtin, hs, hxe, hrun, Result.andThen]
  exact hK _ _ (h v' w' h2 h3)

/-- no numbers, in whatever block -/
theorem no_ints (w : World) (lo : Nat) (ad : Option Addr) (cap : Nat) (h : cap ≤ maxLen) : IntRow w lo [] (.slice ad 0 cap) := ⟨ad, cap, rfl, Nat.zero_le _, h, Or.inl rfl⟩
end Go.Proofs.YtidijbnoaeopdaaGreatDoor
