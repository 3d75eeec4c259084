/-
  NEEDS IN ROWS OF THEIR OWN: a list that grows by append, its rows in blocks that are all distinct.
-/
import Derived.Test.YtocnkjicmchbdaaNeeds
import Derived.Test.YtocnkjicmchbdaaRunApp
import Derived.Test.YtocnkjicmchbdaaArgs
import Derived.Test.YtocnkjicmchbdaaDefs
namespace Go.Proofs.Ytocnkjicmchbdaa
set_option linter.unusedVariables false
set_option linter.unusedSimpArgs false
open Go.RowKit

/-- the truth values of a row, in the first cells of a block -/
def RowAt (w : World) (b cap : Nat) (r : List Bool) : Prop := r.length ≤ cap ∧ cap ≤ maxLen ∧ ∃ f, w.rowIs b 4 cap f ∧ ∀ j (h : j < r.length), f j = .bool r[j]
theorem RowAt.blk {w w' : World} {b cap : Nat} {r : List Bool} (h : RowAt w b cap r) (hk : w'.heap[b]? = w.heap[b]?) : RowAt w' b cap r := by
  obtain ⟨h1, h2, f, hr, hf⟩ := h
  exact ⟨h1, h2, f, hr.of_block hk, hf⟩
theorem RowAt.lt {w : World} {b cap : Nat} {r : List Bool} (h : RowAt w b cap r) : b < w.heap.size := by obtain ⟨-, -, f, hr, -⟩ := h; exact hr.lt
theorem RowAt.row {w : World} {b cap lo : Nat} {r : List Bool} (h : RowAt w b cap r) (hl : lo ≤ b) : BoolRow w lo r (.slice (some ⟨b, 0, none⟩) r.length cap) := by
  obtain ⟨h1, h2, f, hr, hf⟩ := h
  exact ⟨_, _, rfl, h1, h2, Or.inr ⟨b, f, rfl, hl, hr, hf⟩⟩
theorem RowAt.set {w : World} {b cap : Nat} {r : List Bool} (h : RowAt w b cap r) (v : Nat) (x : Bool) : RowAt (w.setCell ⟨b, v, none⟩ (.bool x)) b cap (r.set v x) := by
  obtain ⟨h1, h2, f, hr, hf⟩ := h
  refine ⟨by rw [List.length_set]; exact h1, h2, _, hr.set v _, fun j hj => ?_⟩
  rw [List.length_set] at hj
  by_cases e : j = v
  · subst e; simp
  · simp only [if_neg e, hf j hj]
    rw [List.getElem_set_ne (fun h => e h.symm)]
theorem RowAt.no {w : World} {b cap : Nat} {r : List Bool} (h : RowAt w b cap r) {C : Array Value} {q : Nat × Nat} (hh : w.heap[b]? = some (.cells C 74 q)) : False := by
  obtain ⟨-, -, f, ⟨c, hc, -⟩, -⟩ := h
  rw [hc] at hh
  simp at hh
/-- the cells of the list -/
def cellsN (g : List (List Bool)) (bs : List (Nat × Nat)) : List Value := (g.zip bs).map fun p => .slice (some ⟨p.2.1, 0, none⟩) p.1.length p.2.2
/-- a list in a row of its own, its rows in blocks of their own -/
def NOwn (w : World) (lo : Nat) (g : List (List Bool)) (v : Value) : Prop :=
  ∃ bs : List (Nat × Nat), bs.length = g.length ∧ (bs.map (·.1)).Nodup ∧ w.ownsRow lo 74 1 v g.length (cellsN g bs) ∧ ∀ i (h1 : i < g.length) (h2 : i < bs.length), lo ≤ bs[i].1 ∧ RowAt w bs[i].1 bs[i].2 g[i]
theorem cellsN_at {g : List (List Bool)} {bs : List (Nat × Nat)} (i : Nat) (h1 : i < g.length) (h2 : i < bs.length) : (cellsN g bs)[i]? = some (.slice (some ⟨bs[i].1, 0, none⟩) g[i].length bs[i].2) := by
  unfold cellsN
  rw [List.getElem?_map, List.getElem?_eq_getElem (by simp; omega)]
  simp
theorem NOwn.nil (w : World) (lo : Nat) : NOwn w lo [] (.slice none 0 0) := ⟨[], rfl, by simp, ⟨rfl, Or.inl ⟨rfl, rfl⟩⟩, fun i h => by simp at h⟩
theorem NOwn.nil_of {w : World} {lo : Nat} {v : Value} (h : w.ownsRow lo 74 1 v 0 []) : NOwn w lo [] v := ⟨[], rfl, by simp, h, fun i h => by simp at h⟩
theorem NOwn.keep {w w' : World} {lo : Nat} {g : List (List Bool)} {v : Value} (h : NOwn w lo g v) (hk : ∀ k, lo ≤ k → k < w.heap.size → w'.heap[k]? = w.heap[k]?) : NOwn w' lo g v := by
  obtain ⟨bs, h1, h2, h3, h4⟩ := h
  exact ⟨bs, h1, h2, own_keep h3 hk, fun i a b => ⟨(h4 i a b).1, (h4 i a b).2.blk (hk _ (h4 i a b).1 (h4 i a b).2.lt)⟩⟩
theorem NOwn.next {w w' : World} {lo : Nat} {g : List (List Bool)} {v : Value} (h : NOwn w lo g v) (hb : Below w.heap.size w w') : NOwn w' lo g v := h.keep fun k _ hk => hb.block k hk
theorem NOwn.down {w : World} {lo lo' : Nat} {g : List (List Bool)} {v : Value} (h : NOwn w lo g v) (hl : lo' ≤ lo) : NOwn w lo' g v := by
  obtain ⟨bs, h1, h2, h3, h4⟩ := h
  refine ⟨bs, h1, h2, ⟨h3.1, ?_⟩, fun i a b => ⟨Nat.le_trans hl (h4 i a b).1, (h4 i a b).2⟩⟩
  rcases h3.2 with h | ⟨b, cap, cur, e, hb, r⟩
  · exact Or.inl h
  · exact Or.inr ⟨b, cap, cur, e, Nat.le_trans hl hb, r⟩
theorem NOwn.form {w : World} {lo : Nat} {g : List (List Bool)} {v : Value} (h : NOwn w lo g v) : ∃ ad cap, v = .slice ad g.length cap ∧ g.length ≤ cap ∧ cap ≤ maxLen := by
  obtain ⟨bs, -, -, h3, -⟩ := h
  rcases h3.2 with ⟨rfl, h⟩ | ⟨b, cap, cur, rfl, -, -, hn, hc, -⟩
  · exact ⟨_, _, by rw [h], by omega, by simp [maxLen]⟩
  · exact ⟨_, _, rfl, hn, hc⟩
/-- it can be read -/
theorem NOwn.nin {w : World} {lo : Nat} {g : List (List Bool)} {v : Value} (h : NOwn w lo g v) : NIn w g v := by
  obtain ⟨bs, h1, h2, h3, h4⟩ := h
  rcases h3.2 with ⟨rfl, h⟩ | ⟨b, cap, cur, rfl, hb, hh, hn, hc, hs, ht⟩
  · exact ⟨_, _, by rw [h], by omega, by simp [maxLen], Or.inl (List.eq_nil_of_length_eq_zero h)⟩
  · refine ⟨_, _, rfl, hn, hc, Or.inr ⟨b, 0, rfl, (Array.getElem?_eq_some_iff.1 hh).1, fun i hi => ?_⟩⟩
    have hi2 : i < bs.length := by omega
    refine ⟨_, ?_, ((h4 i hi hi2).2.row (h4 i hi hi2).1).inn⟩
    have := own_cells (w := w) (base := lo) (n := g.length) (size := 1) (g := b) (cap := cap) h3 i _ (cellsN_at i hi hi2)
    rw [WideShapes.add_plain] at this
    exact this
/-- a row, opened for a store -/
theorem NOwn.at {w : World} {lo : Nat} {g : List (List Bool)} {ad : Option Addr} {n cap : Nat} (h : NOwn w lo g (.slice ad n cap)) (i : Nat) (hi : i < g.length) :
    ∃ b rb rc, ad = some ⟨b, 0, none⟩ ∧ b < w.heap.size ∧ lo ≤ rb ∧ w.cell? ⟨b, i, none⟩ = some (.slice (some ⟨rb, 0, none⟩) g[i].length rc) ∧ RowAt w rb rc g[i] ∧
      ∀ (v : Nat) (x : Bool), NOwn (w.setCell ⟨rb, v, none⟩ (.bool x)) lo (g.set i (g[i].set v x)) (.slice ad n cap) := by
  obtain ⟨bs, h1, h2, h3, h4⟩ := h
  have hi2 : i < bs.length := by omega
  rcases id h3.2 with ⟨e, h⟩ | ⟨b, cap', cur, e, hb, hh, hn, hc, hs, ht⟩
  · omega
  simp only [Value.slice.injEq] at e
  obtain ⟨rfl, rfl, rfl⟩ := e
  have hc0 := own_cells h3 i _ (cellsN_at i hi hi2)
  rw [WideShapes.add_plain, Nat.zero_add] at hc0
  obtain ⟨hlo, hra⟩ := h4 i hi hi2
  have hne : b ≠ bs[i].1 := by
    rintro rfl
    exact hra.no hh
  refine ⟨b, _, _, rfl, (Array.getElem?_eq_some_iff.1 hh).1, hlo, hc0, hra, fun v x => ⟨bs, by rw [List.length_set]; exact h1, h2, ?_, fun j hj hj2 => ?_⟩⟩
  · have e : cellsN (g.set i (g[i].set v x)) bs = cellsN g bs := by
      apply List.ext_getElem?
      intro k
      by_cases hk : k < g.length
      · rw [cellsN_at k hk (by omega), cellsN_at k (by rw [List.length_set]; exact hk) (by omega)]
        congr 2
        rw [List.getElem_set]
        split
        · rename_i e; subst e; rw [List.length_set]
        · rfl
      · unfold cellsN
        rw [List.getElem?_eq_none (by simp; omega), List.getElem?_eq_none (by simp; omega)]
    rw [e, List.length_set]
    refine ⟨h3.1, Or.inr ⟨b, cap, cur, rfl, hb, (Below.heap_setCell _ _ _ _ hne).trans hh, hn, hc, hs, ht⟩⟩
  · rw [List.length_set] at hj
    refine ⟨(h4 j hj hj2).1, ?_⟩
    by_cases e : i = j
    · subst e
      simp only [List.getElem_set_self]
      exact hra.set v x
    · rw [List.getElem_set_ne e]
      have hne2 : bs[j].1 ≠ bs[i].1 := by
        intro hbb
        have hp := List.pairwise_iff_getElem.1 h2
        rcases Nat.lt_or_gt_of_ne e with h | h
        · exact hp i j (by simpa using hi2) (by simpa using hj2) h (by simpa using hbb.symm)
        · exact hp j i (by simpa using hj2) (by simpa using hi2) h (by simpa using hbb)
      exact (h4 j hj hj2).2.blk (Below.heap_setCell _ _ _ _ hne2)
/-- a row more -/
theorem NOwn.push {w w1 w3 : World} {lo b cap : Nat} {g : List (List Bool)} {r : List Bool} {v v' : Value} {bs : List (Nat × Nat)} (h1 : bs.length = g.length) (h2 : (bs.map (·.1)).Nodup) (h3 : w.ownsRow lo 74 1 v g.length (cellsN g bs)) (h4 : ∀ i (h1 : i < g.length) (h2 : i < bs.length), lo ≤ bs[i].1 ∧ RowAt w bs[i].1 bs[i].2 g[i]) (hk : ∀ k, lo ≤ k → k < w.heap.size → w1.heap[k]? = w.heap[k]?) (hb : w.heap.size ≤ b) (hlo : lo ≤ b) (hr : RowAt w1 b cap r)
    (hown : w3.ownsRow lo 74 1 v' (g.length + 1) (cellsN g bs ++ [.slice (some ⟨b, 0, none⟩) r.length cap])) (hg : ∀ k, k < w1.heap.size → some k ≠ v.ownBlock → w3.heap[k]? = w1.heap[k]?) (hsz : w.heap.size ≤ w1.heap.size) : NOwn w3 lo (g ++ [r]) v' := by
  have hvb : ∀ k C q, some k = v.ownBlock → w1.heap[k]? = some (.cells C 4 q) → False := by
    intro k C q hk2 hh
    rcases h3.2 with ⟨rfl, -⟩ | ⟨b', c', cur, rfl, hb', hh', -⟩
    · simp [Value.ownBlock] at hk2
    · simp only [Value.ownBlock, Option.some.injEq] at hk2
      subst hk2
      rw [hk _ hb' (Array.getElem?_eq_some_iff.1 hh').1, hh'] at hh
      simp at hh
  have hrow : ∀ {k c r}, RowAt w1 k c r → RowAt w3 k c r := by
    intro k c r hr
    refine hr.blk (hg k hr.lt fun e => ?_)
    obtain ⟨-, -, f, ⟨cc, hc, -⟩, -⟩ := hr
    exact hvb k _ _ e hc
  refine ⟨bs ++ [(b, cap)], by simp [h1], ?_, ?_, fun i hi hi2 => ?_⟩
  · rw [List.map_append, List.nodup_append]
    refine ⟨h2, by simp, ?_⟩
    intro x hx y hy hxy
    simp only [List.map_cons, List.map_nil, List.mem_singleton] at hy
    obtain ⟨i, hi, rfl⟩ := List.getElem_of_mem hx
    have hi2 : i < bs.length := by simpa using hi
    have := (h4 i (by omega) hi2).2.lt
    simp only [List.getElem_map] at hxy
    omega
  · have := hown
    rw [List.length_append]
    have e : cellsN (g ++ [r]) (bs ++ [(b, cap)]) = cellsN g bs ++ [.slice (some ⟨b, 0, none⟩) r.length cap] := by
      unfold cellsN
      rw [List.zip_append h1.symm]
      simp
    rw [e]
    exact this
  · simp only [List.length_append, List.length_singleton] at hi
    by_cases e : i < g.length
    · have hi3 : i < bs.length := by omega
      rw [List.getElem_append_left e, List.getElem_append_left hi3]
      obtain ⟨ha, hra⟩ := h4 i e hi3
      exact ⟨ha, hrow (hra.blk (hk _ ha hra.lt))⟩
    · obtain rfl : i = g.length := by omega
      rw [List.getElem_append_right (by omega), List.getElem_append_right (by omega)]
      simp only [h1, Nat.sub_self, List.getElem_cons_zero]
      exact ⟨hlo, hrow hr⟩
/-- an answer: needs in new memory -/
def NewN (g : List (List Bool)) (w : World) (e : Ending) (w' : World) : Prop := ∃ v, e = .returned v ∧ NOwn w' w.heap.size g v ∧ Below w.heap.size w w'
theorem infoE1 : ∃ i z, Try.prog.info? 74 = some i ∧ i.zero = some z ∧ i.size = 1 ∧ i.bytes = 24 ∧ z.cells.size = 1 := by
  obtain ⟨i, hi, hzz⟩ := Option.map_eq_some_iff.1 infoBB
  simp only [Prod.mk.injEq] at hzz
  obtain ⟨hz, hs, hb⟩ := hzz
  exact ⟨i, _, hi, hz, hs, hb, rfl⟩
/-- the row under way, in a block that was laid for it -/
theorem rowAt_start (w : World) (n : Nat) (h : n ≤ 1048576) : RowAt (w.alloc (.cells (madeCells #[.bool false] n) 4)) w.heap.size n (List.replicate n false) :=
  ⟨by simp, by unfold maxLen; omega, _, false_row w n, fun j hj => by simp⟩

/-- how many arguments function i has -/
def arN (ds : List Df) (i : Nat) : Nat := ((ds[i]?.map fun d => d.1.toNat)).getD 0
/-- what is said of each argument of each function -/
def gridN (ds : List Df) (f : Nat → Nat → Bool) : List (List Bool) := (List.range ds.length).map fun i => (List.range (arN ds i)).map (f i)
def gridK (ds : List Df) (f : Nat → Nat → Bool) (k : Nat) : List (List Bool) := (List.range k).map fun i => (List.range (arN ds i)).map (f i)
theorem gridK_succ (ds : List Df) (f : Nat → Nat → Bool) (k : Nat) : gridK ds f (k + 1) = gridK ds f k ++ [(List.range (arN ds k)).map (f k)] := by simp [gridK, List.range_succ]
theorem gridK_length (ds : List Df) (f : Nat → Nat → Bool) (k : Nat) : (gridK ds f k).length = k := by simp [gridK]
/-- a row half made -/
def halfR (n : Nat) (f : Nat → Bool) (q : Nat) : List Bool := (List.range n).map fun v => decide (v < q) && f v
theorem halfR_zero (n : Nat) (f : Nat → Bool) : halfR n f 0 = List.replicate n false := by
  refine List.ext_getElem (by simp [halfR]) fun i h1 h2 => by simp [halfR]
theorem halfR_succ (n : Nat) (f : Nat → Bool) (q : Nat) : (halfR n f q).set q (f q) = halfR n f (q + 1) := by
  refine List.ext_getElem (by simp [halfR]) fun i h1 h2 => ?_
  rw [List.getElem_set]
  split
  · rename_i e; subst e; simp [halfR]
  · rename_i e
    have : decide (i < q + 1) = decide (i < q) := decide_eq_decide.2 (by omega)
    simp [halfR, this]
theorem halfR_end (n : Nat) (f : Nat → Bool) : halfR n f n = (List.range n).map f := by
  refine List.ext_getElem (by simp [halfR]) fun i h1 h2 => ?_
  have : i < n := by simpa [halfR] using h1
  simp [halfR, this]
theorem halfR_length (n : Nat) (f : Nat → Bool) (q : Nat) : (halfR n f q).length = n := by simp [halfR]
end Go.Proofs.Ytocnkjicmchbdaa
