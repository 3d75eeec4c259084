/-
  THE MARKS IN SLICES OF INTS: the laws' markIntS and heldIntS.
-/
import Derived.Test.YtidijbnoaeopdaaMgExactRunValid4
import Derived.Test.YtidijbnoaeopdaaMgExactRunValid10
import Derived.Test.YtidijbnoaeopdaaMgExactRunValid6
import Derived.Test.YtidijbnoaeopdaaMgExactRunValid1
import Derived.Test.YtidijbnoaeopdaaProg
import Derived.Deep.RegionLaw
import Derived.Deep.RegionLawGrows
import Derived.Deep.DeepMust
import Derived.Laws.AppendOwn
import Derived.Laws.AppendOwnNone
namespace Go.Proofs.Ytidijbnoaeopdaa
set_option linter.unusedVariables false
set_option linter.unusedSimpArgs false
open Go.RowKit

/-- the numbers from k on -/
def upFrom (k : Int) : Nat → List Int
  | 0 => []
  | n + 1 => k :: upFrom (k + 1) n
theorem upFrom_length : ∀ (n : Nat) (k : Int), (upFrom k n).length = n
  | 0, _ => rfl
  | n + 1, k => by simp [upFrom, upFrom_length n]
theorem upFrom_get : ∀ (n : Nat) (k : Int) (i : Nat) (h : i < (upFrom k n).length), (upFrom k n)[i] = k + i
  | 0, _, _, h => by simp [upFrom] at h
  | n + 1, k, 0, _ => by simp [upFrom]
  | n + 1, k, i + 1, h => by
    have := upFrom_get n (k + 1) i (by simpa [upFrom] using h)
    simp only [upFrom, List.getElem_cons_succ, this]
    push_cast
    omega

/-- what holds behind j rounds of the marking -/
def IMRel (w : World) (lo : Nat) (xs : List Int) (k : Int) (ad : Option Addr) (cap j : Nat) (wr : World) : Prop :=
  Below lo w wr ∧ (xs = [] ∨ ∃ g f, ad = some ⟨g, 0, none⟩ ∧ lo ≤ g ∧ wr.rowIs g 3 cap f ∧ xs.length ≤ cap ∧ ∀ i, i < j → f i = .int .i64 (k + (i : Int)))
theorem IMRel.start {w : World} {lo : Nat} {xs : List Int} {k : Int} {ad : Option Addr} {cap : Nat} (h : IntRow w lo xs (.slice ad xs.length cap)) : IMRel w lo xs k ad cap 0 w := by
  obtain ⟨_, _, he, l1, -, h⟩ := h
  cases he
  refine ⟨Below.refl _ _, h.imp id ?_⟩
  rintro ⟨g, f, rfl, hg, hr, -⟩
  exact ⟨g, f, rfl, hg, hr, l1, fun i hi => absurd hi (by omega)⟩
theorem IMRel.step {w wr : World} {lo : Nat} {xs : List Int} {k : Int} {g cap j : Nat} (h : IMRel w lo xs k (some ⟨g, 0, none⟩) cap j wr) (hj : j < xs.length) : IMRel w lo xs k (some ⟨g, 0, none⟩) cap (j + 1) (wr.setCell ⟨g, j, none⟩ (.int .i64 (k + (j : Int)))) := by
  obtain ⟨hb, h⟩ := h
  rcases h with rfl | ⟨g', f, e, hg, hr, hl, hf⟩
  · simp at hj
  · simp only [Option.some.injEq, Addr.mk.injEq, and_true] at e
    subst e
    refine ⟨hb.setCell hg _, Or.inr ⟨g, _, rfl, hg, hr.set j _, hl, fun i hi => ?_⟩⟩
    by_cases hij : i = j
    · subst hij; simp
    · simp [hij, hf i (by omega)]
theorem IMRel.done {w wr : World} {lo : Nat} {xs : List Int} {k : Int} {ad : Option Addr} {cap : Nat} (h : IMRel w lo xs k ad cap xs.length wr) (hm : cap ≤ maxLen) (hl : xs.length ≤ cap) : IntRow wr lo (upFrom k xs.length) (.slice ad xs.length cap) ∧ Below lo w wr := by
  obtain ⟨hb, h⟩ := h
  refine ⟨⟨ad, cap, by rw [upFrom_length], by rw [upFrom_length]; exact hl, hm, ?_⟩, hb⟩
  rcases h with rfl | ⟨g, f, rfl, hg, hr, -, hf⟩
  · exact Or.inl rfl
  · refine Or.inr ⟨g, f, rfl, hg, hr, fun i hi => ?_⟩
    rw [upFrom_get]
    rw [upFrom_length] at hi
    exact hf i hi

end Go.Proofs.Ytidijbnoaeopdaa
/-
  A GRAPH IN ROWS OF ITS OWN, all distinct: the laws' marks (markCellS) and their re-reading (heldCellS), with what stands there.
-/
namespace Go.Proofs.Ytidijbnoaeopdaa
set_option linter.unusedVariables false
set_option linter.unusedSimpArgs false
open Go.RowKit

/-- the operands of a cell, in the row blk -/
def KRow (w : World) (fp : List Nat) (xs : List Int) (blk : Nat) (v : Value) : Prop :=
  ∃ ad cap, v = .slice ad xs.length cap ∧ xs.length ≤ cap ∧ cap ≤ maxLen ∧ (xs = [] ∨ ∃ f, ad = some ⟨blk, 0, none⟩ ∧ blk ∈ fp ∧ w.rowIs blk 3 cap f ∧ ∀ i (h : i < xs.length), f i = .int .i64 xs[i])
/-- the cells, in the row b; the operands of cell i in the row kb i -/
def GRow (w : World) (fp : List Nat) (b cap : Nat) (kb : Nat → Nat) (g : List Ce) : Prop :=
  ∃ f, w.rowIs b 86 (cap * 3) f ∧ ∀ i (h : i < g.length), f (i * 3) = .int .i64 g[i].op ∧ f (i * 3 + 1) = .int .i64 g[i].num ∧ KRow w fp g[i].kids (kb i) (f (i * 3 + 2))
/-- two rows of operands are two blocks -/
def Dist (kb : Nat → Nat) (g : List Ce) : Prop := ∀ i j (hi : i < g.length) (hj : j < g.length), i ≠ j → g[i].kids ≠ [] → g[j].kids ≠ [] → kb i ≠ kb j
/-- a slice value that holds a graph in rows of its own -/
def GOwn (w : World) (fp : List Nat) (g : List Ce) (v : Value) : Prop :=
  (∀ i (h : i < g.length), I64 g[i].op ∧ I64 g[i].num) ∧ ∃ ad cap, v = .slice ad g.length cap ∧ g.length ≤ cap ∧ cap ≤ maxLen ∧ (g = [] ∨ ∃ b kb, ad = some ⟨b, 0, none⟩ ∧ b ∈ fp ∧ GRow w fp b cap kb g ∧ Dist kb g)

theorem KRow.keep {w w' : World} {fp fp' : List Nat} {xs : List Int} {blk : Nat} {v : Value} (h : KRow w fp xs blk v) (hf : xs ≠ [] → blk ∈ fp → blk ∈ fp') (hb : xs ≠ [] → blk ∈ fp → w'.heap[blk]? = w.heap[blk]?) : KRow w' fp' xs blk v := by
  obtain ⟨ad, cap, e, l1, l2, h⟩ := h
  refine ⟨ad, cap, e, l1, l2, ?_⟩
  by_cases hx : xs = []
  · exact Or.inl hx
  · rcases h with h | ⟨f, rfl, h1, h2, h3⟩
    · exact absurd h hx
    · exact Or.inr ⟨f, rfl, hf hx h1, h2.of_block (hb hx h1), h3⟩
theorem GOwn.keep {w w' : World} {fp : List Nat} {g : List Ce} {v : Value} (h : GOwn w fp g v) (hb : ∀ k ∈ fp, k < w.heap.size → w'.heap[k]? = w.heap[k]?) : GOwn w' fp g v := by
  obtain ⟨hi, ad, cap, e, l1, l2, h⟩ := h
  refine ⟨hi, ad, cap, e, l1, l2, h.imp id ?_⟩
  rintro ⟨b, kb, rfl, h1, ⟨f, hr, hf⟩, hd⟩
  refine ⟨b, kb, rfl, h1, ⟨f, hr.of_block (hb b h1 hr.lt), fun i h => ?_⟩, hd⟩
  obtain ⟨e0, e1, e2⟩ := hf i h
  refine ⟨e0, e1, e2.keep (fun _ h => h) fun hx hm => ?_⟩
  obtain ⟨_, _, _, _, _, h5⟩ := e2
  rcases h5 with h5 | ⟨f5, -, -, h6, -⟩
  · exact absurd h5 hx
  · exact hb _ hm h6.lt
/-- .. as cells that lie in a world -/
theorem GOwn.inn {w : World} {fp : List Nat} {g : List Ce} {v : Value} (h : GOwn w fp g v) : CIn w g v := by
  obtain ⟨hi, ad, cap, e, l1, l2, h⟩ := h
  refine ⟨ad, cap, e, l1, l2, h.imp id ?_⟩
  rintro ⟨b, kb, rfl, h1, ⟨f, hr, hf⟩, hd⟩
  refine ⟨b, 0, rfl, hr.lt, fun i h => ?_⟩
  obtain ⟨e0, e1, e2⟩ := hf i h
  refine ⟨f (i * 3 + 2), ?_, ?_, ?_, (hi i h).1, (hi i h).2, ?_⟩
  · rw [Nat.zero_add, hr.cell (by omega), e0]
  · rw [Nat.zero_add, hr.cell (by omega), e1]
  · rw [Nat.zero_add, hr.cell (by omega)]
  · obtain ⟨ad2, cap2, e3, l3, l4, h5⟩ := e2
    refine ⟨ad2, cap2, e3, l3, l4, h5.imp id ?_⟩
    rintro ⟨f5, rfl, -, h6, h7⟩
    exact ⟨_, 0, rfl, h6.lt, fun j hj => by rw [Nat.zero_add, h6.cell (by omega), h7 j hj]⟩

/-! ### The labels -/
/-- the number that stands at cell i -/
def cLab (g : List Ce) (k : Int) (i : Nat) : Int := k + 2 * (i : Int) + (sumK (g.take i) : Int)
/-- a marked cell -/
def markedC (l : Int) (n : Nat) : Ce := ⟨l, l + 1, upFrom (l + 2) n⟩
def labC (g : List Ce) (k : Int) : List Ce := (List.range g.length).map fun i => markedC (cLab g k i) ((g.getD i ⟨0, 0, []⟩).kids.length)
theorem labC_length (g : List Ce) (k : Int) : (labC g k).length = g.length := by simp [labC]
theorem labC_get (g : List Ce) (k : Int) (i : Nat) (hi : i < g.length) (hj : i < (labC g k).length) : (labC g k)[i] = markedC (cLab g k i) g[i].kids.length := by
  simp [labC, hi]
/-- a graph of which the first j cells are marked -/
def HalfC (g : List Ce) (k : Int) (j : Nat) (ms : List Ce) : Prop := ms.length = g.length ∧ ∀ i (hi : i < g.length) (hm : i < ms.length), ms[i] = if i < j then markedC (cLab g k i) g[i].kids.length else g[i]
theorem HalfC.zero (g : List Ce) (k : Int) : HalfC g k 0 g := ⟨rfl, fun i hi hm => by simp⟩
theorem HalfC.step {g ms : List Ce} {k : Int} {j : Nat} (h : HalfC g k j ms) (hj : j < g.length) : HalfC g k (j + 1) (ms.set j (markedC (cLab g k j) g[j].kids.length)) := by
  refine ⟨by rw [List.length_set]; exact h.1, fun i hi hm => ?_⟩
  rw [List.getElem_set]
  by_cases hij : j = i
  · subst hij; simp
  · rw [if_neg hij, h.2 i hi (by rw [h.1]; exact hi)]
    by_cases hlt : i < j
    · rw [if_pos hlt, if_pos (by omega)]
    · rw [if_neg hlt, if_neg (by omega)]
theorem HalfC.done {g ms : List Ce} {k : Int} (h : HalfC g k g.length ms) : ms = labC g k := by
  refine List.ext_getElem (by rw [h.1, labC_length]) fun i h1 h2 => ?_
  have hi : i < g.length := by rw [← h.1]; exact h1
  rw [h.2 i hi h1, if_pos hi, labC_get g k i hi]
theorem HalfC.at {g ms : List Ce} {k : Int} {j : Nat} (h : HalfC g k j ms) (hj : j < g.length) (hm : j < ms.length) : ms[j] = g[j] := by rw [h.2 j hj hm, if_neg (by omega)]
theorem HalfC.kids {g ms : List Ce} {k : Int} {j : Nat} (h : HalfC g k j ms) (i : Nat) (hi : i < g.length) (hm : i < ms.length) : ms[i].kids.length = g[i].kids.length := by
  rw [h.2 i hi hm]
  split
  · simp [markedC, upFrom_length]
  · rfl

end Go.Proofs.Ytidijbnoaeopdaa
/-
  PLAIN: the cells of an expression, added to a graph. No program is named here.
-/
namespace Go.Proofs.Ytidijbnoaeopdaa
set_option linter.unusedVariables false
set_option linter.unusedSimpArgs false

mutual
/-- the graph with the cells of a tree, and the tree's cell -/
def addT (args : List Nat) : Tr → List Ce → List Ce × Nat
  | .node op n ks, g => if op = 1 then (g, args.getD n.toNat 0) else ((addL args ks g).1 ++ [⟨op, n, (addL args ks g).2.map fun (a : Nat) => (a : Int)⟩], (addL args ks g).1.length)
/-- .. of the trees of a list, one behind the other -/
def addL (args : List Nat) : List Tr → List Ce → List Ce × List Nat
  | [], g => (g, [])
  | t :: ts, g => ((addL args ts (addT args t g).1).1, (addT args t g).2 :: (addL args ts (addT args t g).1).2)
end
theorem addT_var {args : List Nat} {t : Tr} (g : List Ce) (h : t.op = 1) : addT args t g = (g, args.getD t.num.toNat 0) := by
  cases t with
  | node op n ks => simp only [Tr.op_node] at h; simp [addT, h]
theorem addT_other {args : List Nat} {t : Tr} (g : List Ce) (h : ¬ t.op = 1) : addT args t g = ((addL args t.kids g).1 ++ [⟨t.op, t.num, (addL args t.kids g).2.map fun (a : Nat) => (a : Int)⟩], (addL args t.kids g).1.length) := by
  cases t with
  | node op n ks => simp only [Tr.op_node] at h; simp [addT, h]
theorem addL_length (args : List Nat) : ∀ (ts : List Tr) (g : List Ce), (addL args ts g).2.length = ts.length
  | [], g => by simp [addL]
  | x :: ts, g => by simp [addL, addL_length args ts]
theorem sumK_one (c : Ce) : sumK [c] = c.kids.length := by simp [sumK]
mutual
theorem addT_size (args : List Nat) : ∀ (t : Tr) (g : List Ce), g.length ≤ (addT args t g).1.length ∧ (addT args t g).1.length ≤ g.length + 1 + szT t ∧ sumK (addT args t g).1 ≤ sumK g + szT t
  | .node op n ks, g => by
    have h := addL_size args ks g
    have hl := addL_length args ks g
    unfold addT
    split
    · simp only [szT]; omega
    · have e : sumK ((addL args ks g).1 ++ [⟨op, n, (addL args ks g).2.map fun (a : Nat) => (a : Int)⟩]) = sumK (addL args ks g).1 + ks.length := by
        rw [sumK_append, sumK_one]; simp [hl]
      have e2 : szL ks = ks.length + sumT ks := szL_sum ks
      simp only [List.length_append, List.length_cons, List.length_nil, szT, e]
      have h3 := h.2.2
      omega
theorem addL_size (args : List Nat) : ∀ (ts : List Tr) (g : List Ce), g.length ≤ (addL args ts g).1.length ∧ (addL args ts g).1.length ≤ g.length + szL ts ∧ sumK (addL args ts g).1 ≤ sumK g + sumT ts
  | [], g => by simp [addL, szL, sumT]
  | t :: ts, g => by
    have h1 := addT_size args t g
    have h2 := addL_size args ts (addT args t g).1
    simp only [addL, szL, sumT_cons]
    omega
end
end Go.Proofs.Ytidijbnoaeopdaa
/-
  ROWS THAT A CALL OWNS: append, with where the new row lies.
-/
namespace Go.Proofs.Ytidijbnoaeopdaa
set_option linter.unusedVariables false
set_option linter.unusedSimpArgs false
open Go.RowKit

theorem cell_of_blk {w : World} {b : Nat} {C : Array Value} {T : TypeId} (h : w.heap[b]? = some (.cells C T)) (i : Nat) (v : Value) (hv : C[i]? = some v) : w.cell? ⟨b, i, none⟩ = some v := by
  simp only [World.cell?, h]; exact hv
theorem frz_of_blk {w : World} {b : Nat} {C : Array Value} {T : TypeId} (h : w.heap[b]? = some (.cells C T)) (i : Nat) : w.frozen? ⟨b, i, none⟩ = false := by
  simp [World.frozen?, h]
theorem own_keep {w w' : World} {base n size : Nat} {e : TypeId} {v : Value} {xs : List Value} (h : w.ownsRow base e size v n xs) (hk : ∀ k, base ≤ k → k < w.heap.size → w'.heap[k]? = w.heap[k]?) : w'.ownsRow base e size v n xs := by
  refine ⟨h.1, ?_⟩
  rcases h.2 with h | ⟨g, cap, cur, rfl, hg, hh, r⟩
  · exact Or.inl h
  · exact Or.inr ⟨g, cap, cur, rfl, hg, (hk g hg (Array.getElem?_eq_some_iff.1 hh).1).trans hh, r⟩
end Go.Proofs.Ytidijbnoaeopdaa
/-
  append AS A STEP OF THE WALK, WITH WHERE THE NEW ROW LIES.
-/
namespace Go.Proofs.Ytidijbnoaeopdaa
set_option linter.unusedVariables false
set_option linter.unusedSimpArgs false
open Go.RowKit

end Go.Proofs.Ytidijbnoaeopdaa
/-
  A STACK OF PLACES (a slice of ints that a call owns) AND MARKS (a row of bools).
-/
namespace Go.Proofs.Ytidijbnoaeopdaa
set_option linter.unusedVariables false
set_option linter.unusedSimpArgs false
open Go.RowKit

/-- places, as values -/
def plV (ws : List Nat) : List Value := ws.map fun (a : Nat) => Value.int .i64 (a : Int)
theorem plV_length (ws : List Nat) : (plV ws).length = ws.length := by simp [plV]
def Stk (w : World) (lo : Nat) (ws : List Nat) (v : Value) : Prop := w.ownsRow lo 3 1 v ws.length (plV ws)
theorem Stk.keep {w w' : World} {lo : Nat} {ws : List Nat} {v : Value} (h : Stk w lo ws v) (hk : ∀ k, lo ≤ k → k < w.heap.size → w'.heap[k]? = w.heap[k]?) : Stk w' lo ws v := by
  refine ⟨h.1, ?_⟩
  rcases h.2 with h | ⟨g, cap, cur, rfl, hg, hh, r⟩
  · exact Or.inl h
  · exact Or.inr ⟨g, cap, cur, rfl, hg, (hk g hg (Array.getElem?_eq_some_iff.1 hh).1).trans hh, r⟩
theorem Stk.top {w : World} {lo : Nat} {ws : List Nat} {a : Nat} {v : Value} (h : Stk w lo (ws ++ [a]) v) :
    ∃ g cap, v = .slice (some ⟨g, 0, none⟩) (ws.length + 1) cap ∧ lo ≤ g ∧ g < w.heap.size ∧ ws.length + 1 ≤ cap ∧ cap ≤ maxLen ∧ w.cell? ⟨g, ws.length, none⟩ = some (.int .i64 (a : Int)) ∧ Stk w lo ws (.slice (some ⟨g, 0, none⟩) ws.length cap) := by
  obtain ⟨h1, h2⟩ := h
  rcases h2 with ⟨-, h0⟩ | ⟨g, cap, cur, hv, hg, hh, hn, hc, hs, htk⟩
  · simp at h0
  · simp only [List.length_append, List.length_cons, List.length_nil, Nat.zero_add] at hv hn htk
    simp only [Nat.mul_one] at hs htk
    have hlt : ws.length < cur.size := by omega
    have e1 : (cur.toList.take (ws.length + 1))[ws.length]? = (plV (ws ++ [a]))[ws.length]? := by rw [htk]
    have e2 : cur.toList.take ws.length = plV ws := by
      have := congrArg (List.take ws.length) htk
      rw [List.take_take, Nat.min_eq_left (by omega)] at this
      rw [this]
      simp [plV]
    refine ⟨g, cap, hv, hg, (Array.getElem?_eq_some_iff.1 hh).1, hn, hc, ?_, by rw [plV_length]; omega, Or.inr ⟨g, cap, cur, rfl, hg, hh, by omega, hc, by omega, by rw [Nat.mul_one]; exact e2⟩⟩
    simp only [World.cell?, hh]
    rw [List.getElem?_take_of_lt (by omega)] at e1
    have e3 : (plV (ws ++ [a]))[ws.length]? = some (.int .i64 (a : Int)) := by simp [plV]
    rw [e3] at e1
    simpa using e1
theorem Stk.nil {w : World} {lo : Nat} {v : Value} {n : Nat} (h : Stk w lo [] v) : ∃ ad cap, v = .slice ad 0 cap := by
  rcases h.2 with ⟨rfl, -⟩ | ⟨g, cap, cur, rfl, -⟩
  · exact ⟨_, _, rfl⟩
  · exact ⟨_, _, rfl⟩
theorem Stk.len {w : World} {lo : Nat} {ws : List Nat} {v : Value} (h : Stk w lo ws v) : ∃ ad cap, v = .slice ad ws.length cap := by
  rcases h.2 with ⟨rfl, h0⟩ | ⟨g, cap, cur, rfl, -⟩
  · exact ⟨none, 0, by rw [h0]⟩
  · exact ⟨_, _, rfl⟩
theorem Stk.row {w : World} {lo : Nat} {ws : List Nat} {v : Value} (h : Stk w lo ws v) : IntRow w lo (ws.map fun (a : Nat) => (a : Int)) v := by
  rcases h.2 with ⟨rfl, h0⟩ | ⟨g, cap, cur, rfl, hg, hh, hn, hc, hs, htk⟩
  · obtain rfl : ws = [] := List.eq_nil_of_length_eq_zero h0
    exact IntRow.none _ _
  · rw [Nat.mul_one] at hs htk
    refine ⟨_, cap, by rw [List.length_map], by rw [List.length_map]; exact hn, hc, Or.inr ⟨g, fun i => cur.getD i undef, rfl, hg, ⟨cur, hh, hs, fun i hi => ?_⟩, fun i hi => ?_⟩⟩
    · have hi' : i < cur.size := by omega
      simp [Array.getD, hi']
    · rw [List.length_map] at hi
      have hi' : i < cur.size := by omega
      have e1 : (cur.toList.take ws.length)[i]? = (plV ws)[i]? := by rw [htk]
      rw [List.getElem?_take_of_lt hi] at e1
      have e2 : (plV ws)[i]? = some (.int .i64 (ws[i] : Int)) := by simp [plV, hi]
      rw [e2] at e1
      simp [Array.getD, hi'] at e1 ⊢
      exact e1
theorem Stk.alloc {w : World} {lo : Nat} {ws : List Nat} {v : Value} (h : Stk w lo ws v) (o : Obj) : Stk (w.alloc o) lo ws v := h.keep fun k _ hk => Deep.blk_alloc_lt _ _ _ hk

end Go.Proofs.Ytidijbnoaeopdaa
/-
  A GRAPH THAT CALLS BUILD BY append: the row of cells is owned, the operands lie in rows of their own.
-/
namespace Go.Proofs.Ytidijbnoaeopdaa
set_option linter.unusedVariables false
set_option linter.unusedSimpArgs false
open Go.RowKit

/-- the operands of a cell, in the row blk, a block of S -/
def KRowS (w : World) (S : Nat → Prop) (xs : List Int) (blk : Nat) (v : Value) : Prop :=
  ∃ ad cap, v = .slice ad xs.length cap ∧ xs.length ≤ cap ∧ cap ≤ maxLen ∧ (xs = [] ∨ ∃ f, ad = some ⟨blk, 0, none⟩ ∧ S blk ∧ w.rowIs blk 3 cap f ∧ ∀ i (h : i < xs.length), f i = .int .i64 xs[i])
theorem KRowS.keep {w w' : World} {S S' : Nat → Prop} {xs : List Int} {blk : Nat} {v : Value} (h : KRowS w S xs blk v) (hS : ∀ k, S k → k < w.heap.size → S' k) (hb : ∀ C, S blk → blk < w.heap.size → w.heap[blk]? = some (.cells C 3 (0, 0)) → w'.heap[blk]? = w.heap[blk]?) : KRowS w' S' xs blk v := by
  obtain ⟨ad, cap, e, l1, l2, h⟩ := h
  refine ⟨ad, cap, e, l1, l2, h.imp id ?_⟩
  rintro ⟨f, rfl, h1, h3, h4⟩
  obtain ⟨C, hC, -⟩ := id h3
  exact ⟨f, rfl, hS _ h1 h3.lt, h3.of_block (hb C h1 h3.lt hC), h4⟩
/-- a slice value that holds a graph that is being built: the row of cells is owned, from block lo on; the operands lie in blocks of S -/
def OwnC (w : World) (lo : Nat) (S : Nat → Prop) (g : List Ce) (v : Value) : Prop :=
  (∀ i (h : i < g.length), I64 g[i].op ∧ I64 g[i].num) ∧ ∃ (xs : List Value) (kb : Nat → Nat), w.ownsRow lo 86 3 v g.length xs ∧
    (∀ j (hj : j < g.length), ∃ kv, xs[j * 3]? = some (.int .i64 g[j].op) ∧ xs[j * 3 + 1]? = some (.int .i64 g[j].num) ∧ xs[j * 3 + 2]? = some kv ∧ KRowS w S g[j].kids (kb j) kv) ∧ Dist kb g
theorem OwnC.nil (w : World) (lo : Nat) (S : Nat → Prop) : OwnC w lo S [] (.slice none 0 0) := ⟨fun i h => absurd h (by simp), [], fun _ => 0, World.ownsRow_nil w lo _ _, fun j hj => absurd hj (by simp), fun i j hi _ => absurd hi (by simp)⟩
/-- it stays where the row of cells and all rows of ints in S stay -/
theorem OwnC.next {w w' : World} {lo : Nat} {S S' : Nat → Prop} {g : List Ce} {v : Value} (h : OwnC w lo S g v) (hS : ∀ k, S k → k < w.heap.size → S' k) (hr : ∀ k, some k = v.ownBlock → k < w.heap.size → w'.heap[k]? = w.heap[k]?) (hb : ∀ k, S k → k < w.heap.size → w'.heap[k]? = w.heap[k]?) : OwnC w' lo S' g v := by
  obtain ⟨hi0, xs, kb, h1, h2, h3⟩ := h
  refine ⟨hi0, xs, kb, ?_, fun j hj => ?_, h3⟩
  · refine ⟨h1.1, ?_⟩
    rcases h1.2 with h | ⟨b, cap, cur, rfl, hg, hh, r⟩
    · exact Or.inl h
    · exact Or.inr ⟨b, cap, cur, rfl, hg, (hr b rfl (Array.getElem?_eq_some_iff.1 hh).1).trans hh, r⟩
  · obtain ⟨kv, e0, e1, e2, e3⟩ := h2 j hj
    exact ⟨kv, e0, e1, e2, e3.keep hS fun C h1 h2 _ => hb _ h1 h2⟩
theorem OwnC.row {w : World} {lo : Nat} {S : Nat → Prop} {g : List Ce} {v : Value} (h : OwnC w lo S g v) : ∃ xs, w.ownsRow lo 86 3 v g.length xs := by
  obtain ⟨-, xs, kb, h1, -⟩ := h; exact ⟨xs, h1⟩
/-- one cell more -/
theorem OwnC.step {w w' : World} {lo : Nat} {S : Nat → Prop} {g : List Ce} {v v' : Value} {c : Ce} {kv : Value} {blk : Nat} (h : OwnC w lo S g v)
    (hc : I64 c.op ∧ I64 c.num) (hk : KRowS w (fun b => b = blk) c.kids blk kv) (hS : ¬ S blk) (xs : List Value) (hx : w.ownsRow lo 86 3 v g.length xs)
    (hown : w'.ownsRow lo 86 3 v' (g.length + 1) (xs ++ [.int .i64 c.op, .int .i64 c.num, kv])) (hg : w.grownBy w' v.ownBlock) : OwnC w' lo (fun b => S b ∨ b = blk) (g ++ [c]) v' := by
  obtain ⟨hi0, xs2, kb, h1, h2, h3⟩ := h
  have hxs : xs2 = xs := by
    rcases h1.2 with ⟨rfl, h0⟩ | ⟨b, cap, cur, rfl, hg', hh, hn', hc', hs', htk⟩
    · have a1 := h1.1
      have a2 := hx.1
      rw [h0] at a1 a2
      rw [List.eq_nil_of_length_eq_zero (by omega : xs2.length = 0), List.eq_nil_of_length_eq_zero (by omega : xs.length = 0)]
    · rcases hx.2 with ⟨e, -⟩ | ⟨b2, cap2, cur2, e, -, hh2, -, -, -, htk2⟩
      · cases e
      · cases e
        rw [hh] at hh2
        cases hh2
        rw [← htk, ← htk2]
  subst hxs
  have hlen := h1.1
  -- a row of ints is not the row of cells
  have keep : ∀ (C : Array Value) (b : Nat), b < w.heap.size → w.heap[b]? = some (.cells C 3 (0, 0)) → w'.heap[b]? = w.heap[b]? := by
    intro C b hb hC
    refine hg.block b hb fun e => ?_
    rcases h1.2 with ⟨rfl, -⟩ | ⟨b2, cap, cur, rfl, -, hh, -⟩
    · simp [Value.ownBlock] at e
    · simp only [Value.ownBlock, Option.some.injEq] at e
      subst e
      rw [hh] at hC
      simp at hC
  refine ⟨fun i hi' => ?_, xs2 ++ [.int .i64 c.op, .int .i64 c.num, kv], fun j => if j = g.length then blk else kb j, by simpa using hown, fun j hj => ?_, ?_⟩
  · by_cases hil : i < g.length
    · rw [List.getElem_append_left hil]; exact hi0 i hil
    · have : i = g.length := by simp at hi'; omega
      subst this
      simpa using hc
  · by_cases hjl : j < g.length
    · obtain ⟨kv', e0, e1, e2, e3⟩ := h2 j hjl
      refine ⟨kv', ?_, ?_, ?_, ?_⟩
      · rw [List.getElem?_append_left (by omega), List.getElem_append_left hjl]; exact e0
      · rw [List.getElem?_append_left (by omega), List.getElem_append_left hjl]; exact e1
      · rw [List.getElem?_append_left (by omega)]; exact e2
      · simp only [if_neg (show ¬ j = g.length by omega)]
        rw [List.getElem_append_left hjl]
        exact e3.keep (fun k hk _ => Or.inl hk) fun C _ h5 hC => keep C _ h5 hC
    · have hj' : j = g.length := by simp at hj; omega
      subst hj'
      refine ⟨kv, ?_, ?_, ?_, ?_⟩
      · rw [List.getElem?_append_right (by omega)]; simp [hlen]
      · rw [List.getElem?_append_right (by omega)]; simp [hlen]
      · rw [List.getElem?_append_right (by omega)]; simp [hlen]
      · simp only [List.getElem_concat_length, if_pos]
        exact hk.keep (fun k hk _ => Or.inr hk) fun C _ h5 hC => keep C _ h5 hC
  · -- distinct
    have ne : ∀ i (hi' : i < g.length), g[i].kids ≠ [] → kb i ≠ blk := by
      intro i hi' hne e
      obtain ⟨kv', -, -, -, _, _, _, _, _, h5⟩ := h2 i hi'
      rcases h5 with h5 | ⟨f5, -, h6, -⟩
      · exact hne h5
      · exact hS (e ▸ h6)
    intro i j hi' hj' hij ei ej
    simp only [List.length_append, List.length_cons, List.length_nil] at hi' hj'
    by_cases il : i < g.length
    · rw [List.getElem_append_left il] at ei
      by_cases jl : j < g.length
      · rw [List.getElem_append_left jl] at ej
        simp only [if_neg (show ¬ i = g.length by omega), if_neg (show ¬ j = g.length by omega)]
        exact h3 i j il jl hij ei ej
      · have : j = g.length := by omega
        subst this
        simp only [if_neg (show ¬ i = g.length by omega), if_pos]
        exact ne i il ei
    · have : i = g.length := by omega
      subst this
      have jl : j < g.length := by omega
      rw [List.getElem_append_left jl] at ej
      simp only [if_neg (show ¬ j = g.length by omega), if_pos]
      exact (ne j jl ej).symm
/-- the graph, in rows of its own -/
theorem OwnC.own {w : World} {lo : Nat} {S : Nat → Prop} {g : List Ce} {v : Value} (h : OwnC w lo S g v) (hS : ∀ k, S k → k < w.heap.size → lo ≤ k) : GOwn w (List.range' lo (w.heap.size - lo)) g v := by
  obtain ⟨hi0, xs, kb, h1, h2, h3⟩ := h
  refine ⟨hi0, ?_⟩
  rcases h1.2 with ⟨rfl, h0⟩ | ⟨b, cap, cur, rfl, hg, hh2, hn, hc, hs, htk⟩
  · obtain rfl : g = [] := List.eq_nil_of_length_eq_zero h0
    exact ⟨none, 0, rfl, Nat.le_refl _, by simp [maxLen], Or.inl rfl⟩
  · have hbl : b < w.heap.size := (Array.getElem?_eq_some_iff.1 hh2).1
    refine ⟨_, cap, rfl, hn, hc, Or.inr ⟨b, kb, rfl, by rw [List.mem_range'_1]; omega, ⟨fun i => cur.getD i undef, ⟨cur, hh2, hs, fun i hi => by simp [Array.getD, show i < cur.size by omega]⟩, fun i hi => ?_⟩, h3⟩⟩
    obtain ⟨kv, e0, e1, e2, e3⟩ := h2 i hi
    have get : ∀ m u, m < g.length * 3 → xs[m]? = some u → cur.getD m undef = u := by
      intro m u hm hu
      rw [← htk, List.getElem?_take_of_lt hm] at hu
      have hmc : m < cur.size := by omega
      simp [hmc] at hu
      simp [Array.getD, hmc, hu]
    refine ⟨get _ _ (by omega) e0, get _ _ (by omega) e1, ?_⟩
    simp only []
    rw [get _ _ (by omega) e2]
    obtain ⟨ad2, cap2, e4, l1, l2, h5⟩ := e3
    refine ⟨ad2, cap2, e4, l1, l2, h5.imp id ?_⟩
    rintro ⟨f, rfl, h6, h8, h9⟩
    exact ⟨f, rfl, by rw [List.mem_range'_1]; have := h8.lt; have := hS _ h6 h8.lt; omega, h8, h9⟩
end Go.Proofs.Ytidijbnoaeopdaa
