/-
  A GRAPH IN ROWS OF ITS OWN, all distinct: the laws' marks (markCellS) and their re-reading (heldCellS), with what stands there.
-/
import Derived.Test.YtiipcgnkfhjpeaaMgExactCopyWords2
import Derived.Test.YtiipcgnkfhjpeaaMgExactCopyWords1
import Derived.Test.YtiipcgnkfhjpeaaProg
import Derived.Deep.RegionLaw
import Derived.Deep.RegionLawGrows
import Derived.Deep.DeepMust
import Derived.Maps.AppendAt
namespace Go.Proofs.Ytiipcgnkfhjpeaa
set_option linter.unusedVariables false
set_option linter.unusedSimpArgs false
open Go.RowKit

/-- the operands of a cell, in the row blk -/
def KRow (w : World) (fp : List Nat) (xs : List Int) (blk : Nat) (v : Value) : Prop :=
  ∃ ad cap, v = .slice ad xs.length cap ∧ xs.length ≤ cap ∧ cap ≤ maxLen ∧ (xs = [] ∨ ∃ f, ad = some ⟨blk, 0, none⟩ ∧ blk ∈ fp ∧ w.rowIs blk 3 cap f ∧ ∀ i (h : i < xs.length), f i = .int .i64 xs[i])
/-- the cells, in the row b; the operands of cell i in the row kb i -/
def GRow (w : World) (fp : List Nat) (b cap : Nat) (kb : Nat → Nat) (g : List Ce) : Prop :=
  ∃ f, w.rowIs b 40 (cap * 3) f ∧ ∀ i (h : i < g.length), f (i * 3) = .int .i64 g[i].op ∧ f (i * 3 + 1) = .int .i64 g[i].num ∧ KRow w fp g[i].kids (kb i) (f (i * 3 + 2))
/-- two rows of operands are two blocks -/
def Dist (kb : Nat → Nat) (g : List Ce) : Prop := ∀ i j (hi : i < g.length) (hj : j < g.length), i ≠ j → g[i].kids ≠ [] → g[j].kids ≠ [] → kb i ≠ kb j
/-- a slice value that holds a graph in rows of its own -/
def GOwn (w : World) (fp : List Nat) (g : List Ce) (v : Value) : Prop :=
  (∀ i (h : i < g.length), I64 g[i].op ∧ I64 g[i].num) ∧ ∃ ad cap, v = .slice ad g.length cap ∧ g.length ≤ cap ∧ cap ≤ maxLen ∧ (g = [] ∨ ∃ b kb, ad = some ⟨b, 0, none⟩ ∧ b ∈ fp ∧ GRow w fp b cap kb g ∧ Dist kb g)

theorem KRow.keep {w w' : World} {fp fp' : List Nat} {xs : List Int} {blk : Nat} {v : Value} (h : KRow w fp xs blk v) (hf : xs ≠ [] → blk ∈ fp → blk ∈ fp') (hb : xs ≠ [] → blk ∈ fp → w'.heap[blk]? = w.heap[blk]?) : KRow w' fp' xs blk v := by
  obtain ⟨ad, cap, e, l1, l2, h⟩ := h
  refine ⟨ad, cap, e, l1, l2, ?_⟩
  by_cases hx : xs = []
  · exact Or.inl hx
  · rcases h with h | ⟨f, rfl, h1, h2, h3⟩
    · exact absurd h hx
    · exact Or.inr ⟨f, rfl, hf hx h1, h2.of_block (hb hx h1), h3⟩
theorem GOwn.keep {w w' : World} {fp : List Nat} {g : List Ce} {v : Value} (h : GOwn w fp g v) (hb : ∀ k ∈ fp, k < w.heap.size → w'.heap[k]? = w.heap[k]?) : GOwn w' fp g v := by
  obtain ⟨hi, ad, cap, e, l1, l2, h⟩ := h
  refine ⟨hi, ad, cap, e, l1, l2, h.imp id ?_⟩
  rintro ⟨b, kb, rfl, h1, ⟨f, hr, hf⟩, hd⟩
  refine ⟨b, kb, rfl, h1, ⟨f, hr.of_block (hb b h1 hr.lt), fun i h => ?_⟩, hd⟩
  obtain ⟨e0, e1, e2⟩ := hf i h
  refine ⟨e0, e1, e2.keep (fun _ h => h) fun hx hm => ?_⟩
  obtain ⟨_, _, _, _, _, h5⟩ := e2
  rcases h5 with h5 | ⟨f5, -, -, h6, -⟩
  · exact absurd h5 hx
  · exact hb _ hm h6.lt
/-- .. as cells that lie in a world -/
theorem GOwn.inn {w : World} {fp : List Nat} {g : List Ce} {v : Value} (h : GOwn w fp g v) : CIn w g v := by
  obtain ⟨hi, ad, cap, e, l1, l2, h⟩ := h
  refine ⟨ad, cap, e, l1, l2, h.imp id ?_⟩
  rintro ⟨b, kb, rfl, h1, ⟨f, hr, hf⟩, hd⟩
  refine ⟨b, 0, rfl, hr.lt, fun i h => ?_⟩
  obtain ⟨e0, e1, e2⟩ := hf i h
  refine ⟨f (i * 3 + 2), ?_, ?_, ?_, (hi i h).1, (hi i h).2, ?_⟩
  · rw [Nat.zero_add, hr.cell (by omega), e0]
  · rw [Nat.zero_add, hr.cell (by omega), e1]
  · rw [Nat.zero_add, hr.cell (by omega)]
  · obtain ⟨ad2, cap2, e3, l3, l4, h5⟩ := e2
    refine ⟨ad2, cap2, e3, l3, l4, h5.imp id ?_⟩
    rintro ⟨f5, rfl, -, h6, h7⟩
    exact ⟨_, 0, rfl, h6.lt, fun j hj => by rw [Nat.zero_add, h6.cell (by omega), h7 j hj]⟩

/-! ### The labels -/
/-- the number that stands at cell i -/
def cLab (g : List Ce) (k : Int) (i : Nat) : Int := k + 2 * (i : Int) + (sumK (g.take i) : Int)
/-- a marked cell -/
def markedC (l : Int) (n : Nat) : Ce := ⟨l, l + 1, upFrom (l + 2) n⟩
/-- a graph of which the first j cells are marked -/
def HalfC (g : List Ce) (k : Int) (j : Nat) (ms : List Ce) : Prop := ms.length = g.length ∧ ∀ i (hi : i < g.length) (hm : i < ms.length), ms[i] = if i < j then markedC (cLab g k i) g[i].kids.length else g[i]
theorem HalfC.zero (g : List Ce) (k : Int) : HalfC g k 0 g := ⟨rfl, fun i hi hm => by simp⟩
theorem HalfC.step {g ms : List Ce} {k : Int} {j : Nat} (h : HalfC g k j ms) (hj : j < g.length) : HalfC g k (j + 1) (ms.set j (markedC (cLab g k j) g[j].kids.length)) := by
  refine ⟨by rw [List.length_set]; exact h.1, fun i hi hm => ?_⟩
  rw [List.getElem_set]
  by_cases hij : j = i
  · subst hij; simp
  · rw [if_neg hij, h.2 i hi (by rw [h.1]; exact hi)]
    by_cases hlt : i < j
    · rw [if_pos hlt, if_pos (by omega)]
    · rw [if_neg hlt, if_neg (by omega)]
theorem HalfC.at {g ms : List Ce} {k : Int} {j : Nat} (h : HalfC g k j ms) (hj : j < g.length) (hm : j < ms.length) : ms[j] = g[j] := by rw [h.2 j hj hm, if_neg (by omega)]
theorem HalfC.kids {g ms : List Ce} {k : Int} {j : Nat} (h : HalfC g k j ms) (i : Nat) (hi : i < g.length) (hm : i < ms.length) : ms[i].kids.length = g[i].kids.length := by
  rw [h.2 i hi hm]
  split
  · simp [markedC, upFrom_length]
  · rfl

/-! ### Marked -/
set_option maxHeartbeats 400000 in
/-- markIntS, over a row of operands -/
theorem markK_calls (xs : List Int) (fp : List Nat) (blk : Nat) (v : Value) (k : Int) (w : World) (hc : KRow w fp xs blk v) (h0 : 0 ≤ k) (h1 : k + (xs.length : Int) ≤ 1152921504606846976) :
    Calls Try.prog 16 #[v, .int .i64 k] w fun e w' => e = .returned (.int .i64 (k + (xs.length : Int))) ∧ KRow w' fp (upFrom k xs.length) blk v ∧ ButL [blk] w w' ∧ (xs = [] → ∀ b : Nat, w'.heap[b]? = w.heap[b]?) := by
  have HC : Hid (KRow w fp xs blk v) := hc
  obtain ⟨ad, cap, rfl, hl, hm, -⟩ := hc
  unfold maxLen at hm
  go_enter Try.func16, Try.ntmps16
  go_wp2_with fail
  go_loopw [1, 5] (fun q i wr => ∃ j : Nat, j ≤ xs.length ∧ i = .int .i64 j ∧ q = .int .i64 (k + j) ∧ ButL [blk] w wr ∧ (xs = [] → ∀ b : Nat, wr.heap[b]? = w.heap[b]?) ∧ (xs ≠ [] → ∃ f, ad = some ⟨blk, 0, none⟩ ∧ blk ∈ fp ∧ wr.rowIs blk 3 cap f ∧ ∀ i, i < j → f i = .int .i64 (k + (i : Int)))) (fun _ i _ => xs.length - (intOf i).toNat)
  case atStart =>
    refine ⟨0, Nat.zero_le _, rfl, by simp, ButL.refl _ _, fun _ _ => rfl, fun hx => ?_⟩
    obtain ⟨_, _, he, -, -, hr⟩ := HC.out
    cases he
    rcases hr with hr | ⟨f, rfl, h1, h2, -⟩
    · exact absurd hr hx
    · exact ⟨f, rfl, h1, h2, fun i hi => absurd hi (by omega)⟩
  case round =>
    obtain ⟨j, hj, rfl, rfl, hb, hnil, hrow⟩ := hrel
    have HB : Hid (ButL [blk] w wr) := hb
    have HN : Hid (xs = [] → ∀ b : Nat, wr.heap[b]? = w.heap[b]?) := hnil
    have HRW : Hid (xs ≠ [] → ∃ f, ad = some ⟨blk, 0, none⟩ ∧ blk ∈ fp ∧ wr.rowIs blk 3 cap f ∧ ∀ i, i < j → f i = .int .i64 (k + (i : Int))) := hrow
    clear hb hnil hrow
    by_cases hlt : j < xs.length
    · have hx : xs ≠ [] := by intro h; rw [h] at hlt; simp at hlt
      obtain ⟨f, rfl, hbm, hr, hf⟩ := HRW.out hx
      have c0 := hr.cell (i := j) (by omega)
      have f0 := hr.frozen j
      have HR2 : Hid ((wr.setCell ⟨blk, j, none⟩ (.int .i64 (k + (j : Int)))).rowIs blk 3 cap (fun i => if i = j then .int .i64 (k + (j : Int)) else f i)) := hr.set j _
      have HF2 : Hid (∀ i, i < j → f i = .int .i64 (k + (i : Int))) := hf
      have HX : Hid (xs ≠ []) := hx
      have HBM : Hid (blk ∈ fp) := hbm
      clear hr hf hx hbm
      go_wp2_with fail
      go_roundw
      case rel =>
        refine ⟨j + 1, by omega, by go_num, congrArg (Value.int .i64) (by push_cast; omega), HB.out.trans (ButL.setCell _ _ _ (by simp) _), fun h => absurd h HX.out, fun _ => ⟨_, by first | rfl | trivial, HBM.out, HR2.out, fun i hi => ?_⟩⟩
        by_cases e : i = j
        · subst e; simp
        · rw [if_neg e]; exact HF2.out i (by omega)
      case measure => simp [intOf]; omega
    · have hje : j = xs.length := by omega
      have HV : Hid (KRow wr fp (upFrom k xs.length) blk (.slice ad xs.length cap)) := by
        refine ⟨ad, cap, by rw [upFrom_length], by rw [upFrom_length]; exact hl, by unfold maxLen; exact hm, ?_⟩
        by_cases hx : xs = []
        · left; rw [hx]; rfl
        · obtain ⟨f, h1, h2, h3, h4⟩ := HRW.out hx
          refine Or.inr ⟨f, h1, h2, h3, fun i hi => ?_⟩
          rw [upFrom_get]
          rw [upFrom_length] at hi
          exact h4 i (by omega)
      have HJ : Hid (k + (xs.length : Int) = k + (j : Int)) := by rw [hje]; rfl
      clear hje
      go_wp2_with fail
      go_ret
      exact ⟨ret_int HJ.out.symm, HV.out, HB.out, HN.out⟩

/-- .. and the operands of that cell marked -/
theorem GRow.marked {w w' : World} {fp : List Nat} {b cap : Nat} {kb : Nat → Nat} {g : List Ce} {j : Nat} {l : Int} (hj : j < g.length) (hcap : g.length ≤ cap) (h : GRow w fp b cap kb (g.set j ⟨l, l + 1, g[j].kids⟩)) (hd : Dist kb g) {f : Nat → Value} (hr : w.rowIs b 40 (cap * 3) f)
    (hk : KRow w' fp (upFrom (l + 2) g[j].kids.length) (kb j) (f (j * 3 + 2))) (hb : ButL [kb j] w w') (hn : g[j].kids = [] → ∀ b : Nat, w'.heap[b]? = w.heap[b]?) : GRow w' fp b cap kb (g.set j (markedC l g[j].kids.length)) := by
  obtain ⟨f', hr', hf⟩ := h
  -- the two functions agree on the row
  have agree : ∀ i, i < cap * 3 → f' i = f i := by
    intro i hi
    have e1 := hr'.cell hi
    have e2 := hr.cell hi
    rw [e1] at e2
    exact Option.some.inj e2
  have hblk : ∀ x, x < w.heap.size → (x = kb j → g[j].kids = []) → w'.heap[x]? = w.heap[x]? := by
    intro x hx hxj
    by_cases e : g[j].kids = []
    · exact hn e x
    · exact hb.block x hx (by simp; intro h; exact e (hxj h))
  have hrow : w'.rowIs b 40 (cap * 3) f' := by
    refine hr'.of_block (hblk b hr'.lt fun e => ?_)
    have hjj := (hf j (by rw [List.length_set]; exact hj)).2.2
    rw [List.getElem_set_self] at hjj
    obtain ⟨_, _, _, _, _, h5⟩ := hjj
    rcases h5 with h5 | ⟨f5, -, -, h6, -⟩
    · exact h5
    · exact absurd e (rows_part hr' h6)
  refine ⟨f', hrow, fun i hi => ?_⟩
  rw [List.length_set] at hi
  have hfi := hf i (by rw [List.length_set]; exact hi)
  by_cases hij : i = j
  · subst hij
    rw [List.getElem_set_self] at hfi ⊢
    refine ⟨hfi.1, hfi.2.1, ?_⟩
    have hlt : i * 3 + 2 < cap * 3 := by omega
    rw [agree _ hlt]
    exact hk
  · rw [List.getElem_set_ne (by omega)] at hfi ⊢
    refine ⟨hfi.1, hfi.2.1, hfi.2.2.keep (fun _ h => h) fun hx hm => ?_⟩
    obtain ⟨_, _, _, _, _, h5⟩ := hfi.2.2
    rcases h5 with h5 | ⟨f5, -, -, h6, -⟩
    · exact absurd h5 hx
    · refine hblk _ h6.lt fun e => ?_
      by_cases e2 : g[j].kids = []
      · exact e2
      · exact absurd e (hd i j hi hj hij hx e2)

end Go.Proofs.Ytiipcgnkfhjpeaa
/-
  ROWS THAT A CALL OWNS: append, with where the new row lies.
-/
namespace Go.Proofs.Ytiipcgnkfhjpeaa
set_option linter.unusedVariables false
set_option linter.unusedSimpArgs false
open Go.RowKit

theorem cell_of_blk {w : World} {b : Nat} {C : Array Value} {T : TypeId} (h : w.heap[b]? = some (.cells C T)) (i : Nat) (v : Value) (hv : C[i]? = some v) : w.cell? ⟨b, i, none⟩ = some v := by
  simp only [World.cell?, h]; exact hv
theorem frz_of_blk {w : World} {b : Nat} {C : Array Value} {T : TypeId} (h : w.heap[b]? = some (.cells C T)) (i : Nat) : w.frozen? ⟨b, i, none⟩ = false := by
  simp [World.frozen?, h]
theorem own_keep {w w' : World} {base n size : Nat} {e : TypeId} {v : Value} {xs : List Value} (h : w.ownsRow base e size v n xs) (hk : ∀ k, base ≤ k → k < w.heap.size → w'.heap[k]? = w.heap[k]?) : w'.ownsRow base e size v n xs := by
  refine ⟨h.1, ?_⟩
  rcases h.2 with h | ⟨g, cap, cur, rfl, hg, hh, r⟩
  · exact Or.inl h
  · exact Or.inr ⟨g, cap, cur, rfl, hg, (hk g hg (Array.getElem?_eq_some_iff.1 hh).1).trans hh, r⟩
/-- append to an owned row: it stays in its block, or lies in a new one -/
theorem run_append_where {P : Program} (w : World) (base : Nat) (t ty e : TypeId) (i : TypeInfo) (z : Value) (size bytes : Nat) (ht : P.underlying t = some (.slice e)) (hi : P.info? e = some i) (hz : i.zero = some z)
    (hsize : i.size = size) (hby : i.bytes = bytes) (hzs : z.cells.size = size) (hsz : 0 < size)
    (v : Value) (n : Nat) (xs : List Value) (hown : w.ownsRow base e size v n xs)
    (a : Addr) (m c : Nat) (news : List Value) (hl : news.length = m * size) (hnews : ∀ j u, news[j]? = some u → w.cell? (a.add j) = some u) (h1 : ∀ u ∈ news, u.oneCell' = true)
    (h63 : n + m ≤ maxLen) (hbytes : (n + m) * bytes ≤ 140737488355328) (hbase : base ≤ w.heap.size) (hm : 0 < m) :
    ∃ v' w', (Builtin.append_ #[t, t] ty #[v, .slice (some a) m c]).run P w = .ok v' w' ∧ w'.ownsRow base e size v' (n + m) (xs ++ news) ∧ w.grownBy w' v.ownBlock ∧
      (v'.ownBlock = v.ownBlock ∨ ∃ g, v'.ownBlock = some g ∧ w.heap.size ≤ g) := by
  obtain ⟨v', w', hrun, hown', hgr, -⟩ := run_append_own (P := P) w base t ty e i z size bytes ht hi hz hsize hby hzs hsz v n xs hown a m c news hl hnews h1 h63 hbytes hbase
  refine ⟨v', w', hrun, hown', hgr, ?_⟩
  have hform := hown
  rcases hform.2 with ⟨rfl, rfl⟩ | ⟨g, cap, cur, rfl, hb, hh, hn, hc, hs, htk⟩
  · right
    obtain rfl : xs = [] := List.eq_nil_of_length_eq_zero (by simpa using hform.1)
    obtain ⟨v2, w2, hrun2, hown2, -, -⟩ := run_append_own (P := P) w w.heap.size t ty e i z size bytes ht hi hz hsize hby hzs hsz (.slice none 0 0) 0 [] (World.ownsRow_nil w _ e size) a m c news hl hnews h1 h63 hbytes (Nat.le_refl _)
    rw [hrun] at hrun2
    cases hrun2
    rcases hown2.2 with ⟨rfl, h0⟩ | ⟨g, cap, cur, rfl, hb, _⟩
    · omega
    · exact ⟨g, rfl, hb⟩
  · by_cases hroom : n + m ≤ cap
    · left
      have hcell : ∀ j, j < news.length → w.cell? ⟨g, 0 + n * i.size + j, none⟩ = cur[n * size + j]? := fun j hj => by
        rw [Nat.zero_add, hsize]; simp [World.cell?, hh]
      have hin : ∀ j, j < news.length → n * size + j < cur.size := fun j hj => by
        have h2 : (n + m) * size ≤ cap * size := Nat.mul_le_mul_right _ hroom
        rw [Nat.add_mul] at h2
        omega
      have hrun2 := run_append_room_cells (P := P) w t ty e i ht hi g 0 n cap a m c news (by rw [hsize]; exact hl) hnews h1 hroom
        (fun j hj => by rw [hcell j hj, Array.getElem?_eq_getElem (hin j hj)]; rfl) (fun j hj => by simp [World.frozen?, hh])
      rw [hrun] at hrun2
      cases hrun2
      rfl
    · right
      obtain ⟨v2, w2, hrun2, hown2, -⟩ := run_append_arg_grows (P := P) w t ty e i z size bytes ht hi hz hsize hby hzs hsz ⟨g, 0, none⟩ n cap xs hform.1
        (fun j u hu => hform.cells rfl j u hu) a m c news hl hnews (by omega) h63 hbytes
      rw [hrun] at hrun2
      cases hrun2
      rcases hown2.2 with ⟨rfl, h0⟩ | ⟨g2, cap2, cur2, rfl, hb2, _⟩
      · omega
      · exact ⟨g2, rfl, hb2⟩

end Go.Proofs.Ytiipcgnkfhjpeaa
/-
  append AS A STEP OF THE WALK, WITH WHERE THE NEW ROW LIES.
-/
namespace Go.Proofs.Ytiipcgnkfhjpeaa
set_option linter.unusedVariables false
set_option linter.unusedSimpArgs false
open Go.RowKit

theorem wpList_append_where {P : Program} (w : World) {ops : Array Oper} {rest : List Oper} {o : Oper} {a : Act} {Q : Exit → Act → World → Prop}
    (hg : o.guard = none) (s x : Operand) (t : TypeId) (hop : o.op = Op.call { callee := Callee.builtin Builtin.append, args := #[s, x], argTypes := #[t, t] })
    (base : Nat) (e : TypeId) (i : TypeInfo) (z : Value) (size bytes : Nat) (ht : P.underlying t = some (.slice e)) (hi : P.info? e = some i) (hz : i.zero = some z)
    (hsize : i.size = size) (hby : i.bytes = bytes) (hzs : z.cells.size = size) (hsz : 0 < size)
    (v : Value) (n : Nat) (xs : List Value) (hs : a.eval s = v) (hown : w.ownsRow base e size v n xs)
    (ad : Addr) (m c : Nat) (news : List Value) (hx : a.eval x = .slice (some ad) m c) (hl : news.length = m * size) (hnews : ∀ j u, news[j]? = some u → w.cell? (ad.add j) = some u) (h1 : ∀ u ∈ news, u.oneCell' = true)
    (h63 : n + m ≤ maxLen) (hbytes : (n + m) * bytes ≤ 140737488355328) (hbase : base ≤ w.heap.size) (hm : 0 < m)
    (hK : ∀ v' w', w'.ownsRow base e size v' (n + m) (xs ++ news) → w.grownBy w' v.ownBlock → (v'.ownBlock = v.ownBlock ∨ ∃ g, v'.ownBlock = some g ∧ w.heap.size ≤ g) → wpList P ops Q rest (a.put o.dst v') w') :
    wpList P ops Q (o :: rest) a w := by
  refine wpList_plain hg fun K' hK' => ?_
  obtain ⟨v', w', hrun, r1, r2, r3⟩ := run_append_where (P := P) w base t o.type e i z size bytes ht hi hz hsize hby hzs hsz v n xs hown ad m c news hl hnews h1 h63 hbytes hbase hm
  unfold Oper.wp
  simp [execOp, hop, resolve, invoke, builtin, hs, hx, hrun, Result.andThen]
  exact hK' _ _ (hK v' w' r1 r2 r3)

end Go.Proofs.Ytiipcgnkfhjpeaa
/-
  A GRAPH THAT CALLS BUILD BY append: the row of cells is owned, the operands lie in rows of their own.
-/
namespace Go.Proofs.Ytiipcgnkfhjpeaa
set_option linter.unusedVariables false
set_option linter.unusedSimpArgs false
open Go.RowKit

theorem infoC1 : ∃ i z, Try.prog.info? 40 = some i ∧ i.zero = some z ∧ i.size = 3 ∧ i.bytes = 40 ∧ z.cells.size = 3 := by
  obtain ⟨i, hi, hzz⟩ := Option.map_eq_some_iff.1 infoC
  simp only [Prod.mk.injEq] at hzz
  obtain ⟨hz, hs, hb⟩ := hzz
  exact ⟨i, _, hi, hz, hs, hb, rfl⟩
/-- the operands of a cell, in the row blk, a block of S -/
def KRowS (w : World) (S : Nat → Prop) (xs : List Int) (blk : Nat) (v : Value) : Prop :=
  ∃ ad cap, v = .slice ad xs.length cap ∧ xs.length ≤ cap ∧ cap ≤ maxLen ∧ (xs = [] ∨ ∃ f, ad = some ⟨blk, 0, none⟩ ∧ S blk ∧ w.rowIs blk 3 cap f ∧ ∀ i (h : i < xs.length), f i = .int .i64 xs[i])
theorem KRowS.keep {w w' : World} {S S' : Nat → Prop} {xs : List Int} {blk : Nat} {v : Value} (h : KRowS w S xs blk v) (hS : ∀ k, S k → k < w.heap.size → S' k) (hb : ∀ C, S blk → blk < w.heap.size → w.heap[blk]? = some (.cells C 3 (0, 0)) → w'.heap[blk]? = w.heap[blk]?) : KRowS w' S' xs blk v := by
  obtain ⟨ad, cap, e, l1, l2, h⟩ := h
  refine ⟨ad, cap, e, l1, l2, h.imp id ?_⟩
  rintro ⟨f, rfl, h1, h3, h4⟩
  obtain ⟨C, hC, -⟩ := id h3
  exact ⟨f, rfl, hS _ h1 h3.lt, h3.of_block (hb C h1 h3.lt hC), h4⟩
/-- a slice value that holds a graph that is being built: the row of cells is owned, from block lo on; the operands lie in blocks of S -/
def OwnC (w : World) (lo : Nat) (S : Nat → Prop) (g : List Ce) (v : Value) : Prop :=
  (∀ i (h : i < g.length), I64 g[i].op ∧ I64 g[i].num) ∧ ∃ (xs : List Value) (kb : Nat → Nat), w.ownsRow lo 40 3 v g.length xs ∧
    (∀ j (hj : j < g.length), ∃ kv, xs[j * 3]? = some (.int .i64 g[j].op) ∧ xs[j * 3 + 1]? = some (.int .i64 g[j].num) ∧ xs[j * 3 + 2]? = some kv ∧ KRowS w S g[j].kids (kb j) kv) ∧ Dist kb g
theorem OwnC.nil (w : World) (lo : Nat) (S : Nat → Prop) : OwnC w lo S [] (.slice none 0 0) := ⟨fun i h => absurd h (by simp), [], fun _ => 0, World.ownsRow_nil w lo _ _, fun j hj => absurd hj (by simp), fun i j hi _ => absurd hi (by simp)⟩
/-- it stays where the row of cells and all rows of ints in S stay -/
theorem OwnC.next {w w' : World} {lo : Nat} {S S' : Nat → Prop} {g : List Ce} {v : Value} (h : OwnC w lo S g v) (hS : ∀ k, S k → k < w.heap.size → S' k) (hr : ∀ k, some k = v.ownBlock → k < w.heap.size → w'.heap[k]? = w.heap[k]?) (hb : ∀ k, S k → k < w.heap.size → w'.heap[k]? = w.heap[k]?) : OwnC w' lo S' g v := by
  obtain ⟨hi0, xs, kb, h1, h2, h3⟩ := h
  refine ⟨hi0, xs, kb, ?_, fun j hj => ?_, h3⟩
  · refine ⟨h1.1, ?_⟩
    rcases h1.2 with h | ⟨b, cap, cur, rfl, hg, hh, r⟩
    · exact Or.inl h
    · exact Or.inr ⟨b, cap, cur, rfl, hg, (hr b rfl (Array.getElem?_eq_some_iff.1 hh).1).trans hh, r⟩
  · obtain ⟨kv, e0, e1, e2, e3⟩ := h2 j hj
    exact ⟨kv, e0, e1, e2, e3.keep hS fun C h1 h2 _ => hb _ h1 h2⟩
theorem OwnC.row {w : World} {lo : Nat} {S : Nat → Prop} {g : List Ce} {v : Value} (h : OwnC w lo S g v) : ∃ xs, w.ownsRow lo 40 3 v g.length xs := by
  obtain ⟨-, xs, kb, h1, -⟩ := h; exact ⟨xs, h1⟩
theorem OwnC.form {w : World} {lo : Nat} {S : Nat → Prop} {g : List Ce} {v : Value} (h : OwnC w lo S g v) : ∃ ad cap, v = .slice ad g.length cap := by
  obtain ⟨xs, h1⟩ := h.row
  rcases h1.2 with ⟨rfl, h0⟩ | ⟨b, cap, cur, rfl, -⟩
  · exact ⟨none, 0, by rw [h0]⟩
  · exact ⟨_, _, rfl⟩
/-- one cell more -/
theorem OwnC.step {w w' : World} {lo : Nat} {S : Nat → Prop} {g : List Ce} {v v' : Value} {c : Ce} {kv : Value} {blk : Nat} (h : OwnC w lo S g v)
    (hc : I64 c.op ∧ I64 c.num) (hk : KRowS w (fun b => b = blk) c.kids blk kv) (hS : ¬ S blk) (xs : List Value) (hx : w.ownsRow lo 40 3 v g.length xs)
    (hown : w'.ownsRow lo 40 3 v' (g.length + 1) (xs ++ [.int .i64 c.op, .int .i64 c.num, kv])) (hg : w.grownBy w' v.ownBlock) : OwnC w' lo (fun b => S b ∨ b = blk) (g ++ [c]) v' := by
  obtain ⟨hi0, xs2, kb, h1, h2, h3⟩ := h
  have hxs : xs2 = xs := by
    rcases h1.2 with ⟨rfl, h0⟩ | ⟨b, cap, cur, rfl, hg', hh, hn', hc', hs', htk⟩
    · have a1 := h1.1
      have a2 := hx.1
      rw [h0] at a1 a2
      rw [List.eq_nil_of_length_eq_zero (by omega : xs2.length = 0), List.eq_nil_of_length_eq_zero (by omega : xs.length = 0)]
    · rcases hx.2 with ⟨e, -⟩ | ⟨b2, cap2, cur2, e, -, hh2, -, -, -, htk2⟩
      · cases e
      · cases e
        rw [hh] at hh2
        cases hh2
        rw [← htk, ← htk2]
  subst hxs
  have hlen := h1.1
  -- a row of ints is not the row of cells
  have keep : ∀ (C : Array Value) (b : Nat), b < w.heap.size → w.heap[b]? = some (.cells C 3 (0, 0)) → w'.heap[b]? = w.heap[b]? := by
    intro C b hb hC
    refine hg.block b hb fun e => ?_
    rcases h1.2 with ⟨rfl, -⟩ | ⟨b2, cap, cur, rfl, -, hh, -⟩
    · simp [Value.ownBlock] at e
    · simp only [Value.ownBlock, Option.some.injEq] at e
      subst e
      rw [hh] at hC
      simp at hC
  refine ⟨fun i hi' => ?_, xs2 ++ [.int .i64 c.op, .int .i64 c.num, kv], fun j => if j = g.length then blk else kb j, by simpa using hown, fun j hj => ?_, ?_⟩
  · by_cases hil : i < g.length
    · rw [List.getElem_append_left hil]; exact hi0 i hil
    · have : i = g.length := by simp at hi'; omega
      subst this
      simpa using hc
  · by_cases hjl : j < g.length
    · obtain ⟨kv', e0, e1, e2, e3⟩ := h2 j hjl
      refine ⟨kv', ?_, ?_, ?_, ?_⟩
      · rw [List.getElem?_append_left (by omega), List.getElem_append_left hjl]; exact e0
      · rw [List.getElem?_append_left (by omega), List.getElem_append_left hjl]; exact e1
      · rw [List.getElem?_append_left (by omega)]; exact e2
      · simp only [if_neg (show ¬ j = g.length by omega)]
        rw [List.getElem_append_left hjl]
        exact e3.keep (fun k hk _ => Or.inl hk) fun C _ h5 hC => keep C _ h5 hC
    · have hj' : j = g.length := by simp at hj; omega
      subst hj'
      refine ⟨kv, ?_, ?_, ?_, ?_⟩
      · rw [List.getElem?_append_right (by omega)]; simp [hlen]
      · rw [List.getElem?_append_right (by omega)]; simp [hlen]
      · rw [List.getElem?_append_right (by omega)]; simp [hlen]
      · simp only [List.getElem_concat_length, if_pos]
        exact hk.keep (fun k hk _ => Or.inr hk) fun C _ h5 hC => keep C _ h5 hC
  · -- distinct
    have ne : ∀ i (hi' : i < g.length), g[i].kids ≠ [] → kb i ≠ blk := by
      intro i hi' hne e
      obtain ⟨kv', -, -, -, _, _, _, _, _, h5⟩ := h2 i hi'
      rcases h5 with h5 | ⟨f5, -, h6, -⟩
      · exact hne h5
      · exact hS (e ▸ h6)
    intro i j hi' hj' hij ei ej
    simp only [List.length_append, List.length_cons, List.length_nil] at hi' hj'
    by_cases il : i < g.length
    · rw [List.getElem_append_left il] at ei
      by_cases jl : j < g.length
      · rw [List.getElem_append_left jl] at ej
        simp only [if_neg (show ¬ i = g.length by omega), if_neg (show ¬ j = g.length by omega)]
        exact h3 i j il jl hij ei ej
      · have : j = g.length := by omega
        subst this
        simp only [if_neg (show ¬ i = g.length by omega), if_pos]
        exact ne i il ei
    · have : i = g.length := by omega
      subst this
      have jl : j < g.length := by omega
      rw [List.getElem_append_left jl] at ej
      simp only [if_neg (show ¬ j = g.length by omega), if_pos]
      exact (ne j jl ej).symm
/-- the graph, in rows of its own -/
theorem OwnC.own {w : World} {lo : Nat} {S : Nat → Prop} {g : List Ce} {v : Value} (h : OwnC w lo S g v) (hS : ∀ k, S k → k < w.heap.size → lo ≤ k) : GOwn w (List.range' lo (w.heap.size - lo)) g v := by
  obtain ⟨hi0, xs, kb, h1, h2, h3⟩ := h
  refine ⟨hi0, ?_⟩
  rcases h1.2 with ⟨rfl, h0⟩ | ⟨b, cap, cur, rfl, hg, hh2, hn, hc, hs, htk⟩
  · obtain rfl : g = [] := List.eq_nil_of_length_eq_zero h0
    exact ⟨none, 0, rfl, Nat.le_refl _, by simp [maxLen], Or.inl rfl⟩
  · have hbl : b < w.heap.size := (Array.getElem?_eq_some_iff.1 hh2).1
    refine ⟨_, cap, rfl, hn, hc, Or.inr ⟨b, kb, rfl, by rw [List.mem_range'_1]; omega, ⟨fun i => cur.getD i undef, ⟨cur, hh2, hs, fun i hi => by simp [Array.getD, show i < cur.size by omega]⟩, fun i hi => ?_⟩, h3⟩⟩
    obtain ⟨kv, e0, e1, e2, e3⟩ := h2 i hi
    have get : ∀ m u, m < g.length * 3 → xs[m]? = some u → cur.getD m undef = u := by
      intro m u hm hu
      rw [← htk, List.getElem?_take_of_lt hm] at hu
      have hmc : m < cur.size := by omega
      simp [hmc] at hu
      simp [Array.getD, hmc, hu]
    refine ⟨get _ _ (by omega) e0, get _ _ (by omega) e1, ?_⟩
    simp only []
    rw [get _ _ (by omega) e2]
    obtain ⟨ad2, cap2, e4, l1, l2, h5⟩ := e3
    refine ⟨ad2, cap2, e4, l1, l2, h5.imp id ?_⟩
    rintro ⟨f, rfl, h6, h8, h9⟩
    exact ⟨f, rfl, by rw [List.mem_range'_1]; have := h8.lt; have := hS _ h6 h8.lt; omega, h8, h9⟩
theorem news3c (w : World) (a b c : Value) (j : Nat) (u : Value) (h : [a, b, c][j]? = some u) : (w.alloc (.cells #[a, b, c] 40)).cell? ((⟨w.heap.size, 0, none⟩ : Addr).add j) = some u := by
  rw [WideShapes.add_plain, Nat.zero_add]
  exact box_cell w #[a, b, c] _ j u (by simpa using h)
end Go.Proofs.Ytiipcgnkfhjpeaa
/-
  A GRAPH THAT IS BUILT CELL BY CELL, the operands in rows that the call owns.
-/
namespace Go.Proofs.Ytiipcgnkfhjpeaa
set_option linter.unusedVariables false
set_option linter.unusedSimpArgs false
open Go.RowKit

/-- operands, the first ones turned into places -/
def kkW (st ks : List Int) (q : Nat) : List Int := (ks.take q).map (idxI st) ++ ks.drop q
theorem kkW_zero (st ks : List Int) : kkW st ks 0 = ks := by simp [kkW]
theorem kkW_all (st ks : List Int) : kkW st ks ks.length = ks.map (idxI st) := by simp [kkW]
theorem kkW_length (st ks : List Int) (q : Nat) : (kkW st ks q).length = ks.length := by simp [kkW]; omega
theorem kkW_get {st ks : List Int} {q : Nat} (h : q < ks.length) : (kkW st ks q)[q]? = some ks[q] := by
  unfold kkW
  rw [List.getElem?_append_right (by simp; omega)]
  simp [Nat.min_eq_left (Nat.le_of_lt h), h]
theorem kkW_set {st ks : List Int} {q : Nat} (h : q < ks.length) : (kkW st ks q).set q (idxI st ks[q]) = kkW st ks (q + 1) := by
  unfold kkW
  rw [List.set_append_right _ _ (by simp; omega), List.take_succ_eq_append_getElem h, List.map_append, List.append_assoc]
  congr 1
  have e : q - ((ks.take q).map (idxI st)).length = 0 := by simp; omega
  rw [e, List.drop_eq_getElem_cons h]
  rfl

theorem stki_set {w : World} {lo n cap g i : Nat} {xs : List Int} {y : Int} (h : StkI w lo xs (.slice (some ⟨g, 0, none⟩) n cap)) : StkI (w.setCell ⟨g, i, none⟩ (.int .i64 y)) lo (xs.set i y) (.slice (some ⟨g, 0, none⟩) n cap) := by
  obtain rfl := h.eq_len
  unfold StkI at h ⊢
  have hx : inV (xs.set i y) = (inV xs).set i (.int .i64 y) := by simp [inV, List.map_set]
  rw [hx, List.length_set]
  have hl : (inV xs).length = xs.length * 1 := by rw [inV_length, Nat.mul_one]
  refine ⟨by rw [List.length_set, hl], ?_⟩
  rcases h.2 with ⟨h', _⟩ | ⟨g', cap', cur, h', hb, hg, hnc, hcm, hcs, htake⟩
  · simp at h'
  · simp only [Value.slice.injEq, Option.some.injEq, Addr.mk.injEq, and_true, true_and] at h'
    obtain ⟨rfl, rfl⟩ := h'
    refine .inr ⟨g, cap, cur.setIfInBounds i (.int .i64 y), rfl, hb, ?_, hnc, hcm, by simpa using hcs, ?_⟩
    · simp [World.setCell, Array.getElem?_modify, hg]
    · rw [Array.toList_setIfInBounds, ← htake, List.take_set]
theorem stki_at {w : World} {lo : Nat} {xs : List Int} {v : Value} (h : StkI w lo xs v) (i : Nat) (hi : i < xs.length) :
    ∃ g cap cur, v = .slice (some ⟨g, 0, none⟩) xs.length cap ∧ lo ≤ g ∧ w.heap[g]? = some (.cells cur 3) ∧ w.cell? ⟨g, i, none⟩ = some (.int .i64 xs[i]) := by
  rcases h.2 with ⟨h', h0⟩ | ⟨g, cap, cur, h', hb, hg, hnc, hcm, hcs, htk⟩
  · omega
  · rw [Nat.mul_one] at hcs htk
    refine ⟨g, cap, cur, h', hb, hg, ?_⟩
    have hi' : i < cur.size := by omega
    have e1 : (cur.toList.take xs.length)[i]? = (inV xs)[i]? := by rw [htk]
    rw [List.getElem?_take_of_lt hi] at e1
    have e2 : (inV xs)[i]? = some (.int .i64 xs[i]) := by simp [inV, hi]
    rw [e2] at e1
    simp only [World.cell?, hg]
    simpa using e1
theorem stki_krow {w : World} {lo : Nat} {xs : List Int} {v : Value} (h : StkI w lo xs v) (hl : lo ≤ w.heap.size) : ∃ blk, lo ≤ blk ∧ KRowS w (fun b => b = blk) xs blk v := by
  obtain ⟨ad, cap, e, l1, l2, h5⟩ := h.row
  rcases h5 with h5 | ⟨g, f, rfl, h6, h7, h8⟩
  · exact ⟨w.heap.size, hl, ad, cap, e, l1, l2, Or.inl h5⟩
  · exact ⟨g, h6, _, cap, e, l1, l2, Or.inr ⟨f, rfl, rfl, h7, h8⟩⟩
/-- one cell more -/
theorem OwnC.push {wa w' : World} {lo m : Nat} {g : List Ce} {v v' kv : Value} {c : Ce} {xs : List Value} (h : OwnC wa lo (fun b => lo ≤ b ∧ b < m) g v) (hk : StkI wa m c.kids kv) (hm : lo ≤ m) (hm2 : m ≤ wa.heap.size) (hc : I64 c.op ∧ I64 c.num)
    (hx : wa.ownsRow lo 40 3 v g.length xs) (hown : w'.ownsRow lo 40 3 v' (g.length + 1) (xs ++ [.int .i64 c.op, .int .i64 c.num, kv])) (hg : wa.grownBy w' v.ownBlock) : OwnC w' lo (fun b => lo ≤ b ∧ b < w'.heap.size) (g ++ [c]) v' := by
  obtain ⟨blk, hb, hkr⟩ := stki_krow hk hm2
  refine (h.step hc hkr (fun h2 => by have := h2.2; omega) xs hx hown hg).next (fun k hk hz => ?_) (fun _ _ _ => rfl) (fun _ _ _ => rfl)
  rcases hk with hk | hk
  · exact ⟨hk.1, hz⟩
  · exact ⟨by omega, hz⟩
theorem OwnC.inn {w : World} {lo : Nat} {S : Nat → Prop} {g : List Ce} {v : Value} (h : OwnC w lo S g v) (hS : ∀ k, S k → k < w.heap.size → lo ≤ k) : CIn w g v := (h.own hS).inn
/-- what the row of cells' block is -/
theorem OwnC.keepB {w w' : World} {lo : Nat} {g : List Ce} {v : Value} (h : OwnC w lo (fun b => lo ≤ b ∧ b < w.heap.size) g v) (hb : Below w.heap.size w w') : OwnC w' lo (fun b => lo ≤ b ∧ b < w.heap.size) g v :=
  h.next (fun _ h _ => h) (fun k _ hk => hb.block k hk) (fun k _ hk => hb.block k hk)
/-- no cells yet, in a new block -/
theorem OwnC.zeroB (w : World) : OwnC (w.alloc (.cells #[] 40)) w.heap.size (fun b => w.heap.size ≤ b ∧ b < (w.alloc (.cells #[] 40)).heap.size) [] (.slice (some ⟨w.heap.size, 0, none⟩) 0 0) :=
  ⟨fun i h => absurd h (by simp), [], fun _ => 0, ⟨rfl, Or.inr ⟨w.heap.size, 0, _, rfl, Nat.le_refl _, Deep.blk_alloc_new _ _, Nat.le_refl _, by simp [maxLen], rfl, rfl⟩⟩, fun j hj => absurd hj (by simp), fun i j hi _ => absurd hi (by simp)⟩
end Go.Proofs.Ytiipcgnkfhjpeaa
/-
  THE MODEL's l7Forward AND l7Scan.
-/
namespace Go.Proofs.Ytiipcgnkfhjpeaa
set_option linter.unusedVariables false
set_option linter.unusedSimpArgs false
open Go.RowKit


/-- two heaps of words in rows of a call's own: the old one in the block fb below m, the new one from m on -/
structure FTm (w : World) (lo m fb n capf : Nat) (F T : List Int) (tv : Value) : Prop where
  old : StkI w lo F (.slice (some ⟨fb, 0, none⟩) n capf)
  new : StkI w m T tv
  fbm : fb < m
  sz : m ≤ w.heap.size
/-- nothing below m but the block fb is written -/
structure KeepM (m fb : Nat) (w w' : World) : Prop where
  os : w'.os = w.os
  tape : w'.tape = w.tape
  output : w'.output = w.output
  size : w.heap.size ≤ w'.heap.size
  block : ∀ k, k < m → k ≠ fb → w'.heap[k]? = w.heap[k]?
theorem KeepM.refl (m fb : Nat) (w : World) : KeepM m fb w w := ⟨rfl, rfl, rfl, Nat.le_refl _, fun _ _ _ => rfl⟩
theorem KeepM.trans {m fb : Nat} {a b c : World} (h : KeepM m fb a b) (k : KeepM m fb b c) : KeepM m fb a c := ⟨k.os.trans h.os, k.tape.trans h.tape, k.output.trans h.output, Nat.le_trans h.size k.size, fun i h1 h2 => (k.block i h1 h2).trans (h.block i h1 h2)⟩
theorem stki_drewN {w : World} {lo : Nat} {xs : List Int} {v : Value} (h : StkI w lo xs v) (k : Nat) : StkI (w.drewN k) lo xs v := h.keep fun _ _ _ => rfl
theorem FTm.drewN {w : World} {lo m fb n capf : Nat} {F T : List Int} {tv : Value} (h : FTm w lo m fb n capf F T tv) (k : Nat) : FTm (w.drewN k) lo m fb n capf F T tv := ⟨stki_drewN h.old k, stki_drewN h.new k, h.fbm, h.sz⟩
theorem KeepM.drewN (m fb : Nat) (w : World) (k : Nat) : KeepM m fb w (w.drewN k) := ⟨rfl, rfl, rfl, Nat.le_refl _, fun _ _ _ => rfl⟩
theorem FTm.cell {w : World} {lo m fb n capf : Nat} {F T : List Int} {tv : Value} (h : FTm w lo m fb n capf F T tv) {a : Nat} (ha : a < F.length) : w.cell? ⟨fb, a, none⟩ = some (.int .i64 (opW F a)) := by
  obtain ⟨g, cp, cur, he, -, -, hc⟩ := stki_at h.old a ha
  simp only [Value.slice.injEq, Option.some.injEq, Addr.mk.injEq, and_true] at he
  obtain ⟨rfl, -, -⟩ := he
  rw [opW_at ha]; exact hc
theorem FTm.seg {w : World} {lo m fb n capf : Nat} {F T : List Int} {tv : Value} (h : FTm w lo m fb n capf F T tv) {a : Nat} (hw : WholeAt F a) : IIn w (segW F a) (.slice (some ⟨fb, a, none⟩) (wLen (opW F a)) (capf - a)) := by
  have hl := segW_len hw
  have hn := h.old.eq_len
  obtain ⟨_, cap2, he, h1, h2, -⟩ := h.old.row
  simp only [Value.slice.injEq] at he
  obtain ⟨-, -, rfl⟩ := he
  have hfit := hw.2
  refine ⟨_, _, by rw [hl], by rw [hl]; omega, by unfold maxLen at *; omega, Or.inr ⟨fb, a, rfl, Nat.lt_of_lt_of_le h.fbm h.sz, fun i hi => ?_⟩⟩
  rw [hl] at hi
  rw [h.cell (by omega)]
  congr 2
  unfold segW opW
  rw [List.getD_eq_getElem?_getD, List.getElem?_eq_getElem (by omega)]
  simp
theorem FTm.block {w : World} {lo m fb n capf : Nat} {F T : List Int} {tv : Value} (h : FTm w lo m fb n capf F T tv) : ∃ cur, w.heap[fb]? = some (.cells cur 3) := by
  rcases h.old.2 with ⟨h', _⟩ | ⟨g, cap, cur, h', hb, hg, -⟩
  · simp at h'
  · simp only [Value.slice.injEq, Option.some.injEq, Addr.mk.injEq, and_true] at h'
    obtain ⟨rfl, -⟩ := h'
    exact ⟨cur, hg⟩
theorem stki_cell {w : World} {lo fb n cap : Nat} {F : List Int} (h : StkI w lo F (.slice (some ⟨fb, 0, none⟩) n cap)) {a : Nat} (ha : a < F.length) : w.cell? ⟨fb, a, none⟩ = some (.int .i64 (opW F a)) ∧ ∃ cur, w.heap[fb]? = some (.cells cur 3) := by
  obtain ⟨g, cp, cur, he, -, hh, hc⟩ := stki_at h a ha
  simp only [Value.slice.injEq, Option.some.injEq, Addr.mk.injEq, and_true] at he
  obtain ⟨rfl, -, -⟩ := he
  rw [opW_at ha]; exact ⟨hc, cur, hh⟩
theorem stki_blk {w w' : World} {lo fb n cap : Nat} {xs : List Int} (h : StkI w lo xs (.slice (some ⟨fb, 0, none⟩) n cap)) (hb : w'.heap[fb]? = w.heap[fb]?) : StkI w' lo xs (.slice (some ⟨fb, 0, none⟩) n cap) := by
  refine ⟨h.1, ?_⟩
  rcases h.2 with ⟨h', _⟩ | ⟨g, cap', cur, h', hg, hh, r⟩
  · simp at h'
  · simp only [Value.slice.injEq, Option.some.injEq, Addr.mk.injEq, and_true] at h'
    obtain ⟨rfl, h2⟩ := h'
    exact Or.inr ⟨fb, cap', cur, by rw [h2.1, h2.2], hg, hb.trans hh, r⟩
theorem stki_cellAt {w : World} {lo : Nat} {xs : List Int} {v : Value} (h : StkI w lo xs v) {a : Nat} (ha : a < xs.length) : ∃ g cap cur, v = .slice (some ⟨g, 0, none⟩) xs.length cap ∧ lo ≤ g ∧ w.cell? ⟨g, a, none⟩ = some (.int .i64 (opW xs a)) ∧ w.heap[g]? = some (.cells cur 3) ∧ xs.length ≤ cap ∧ cap ≤ 9223372036854775807 := by
  obtain ⟨g, cap, cur, he, h1, h2, h3⟩ := stki_at h a ha
  obtain ⟨_, cap2, he2, h4, h5, -⟩ := h.row
  rw [he] at he2
  simp only [Value.slice.injEq] at he2
  obtain ⟨-, -, rfl⟩ := he2
  exact ⟨g, cap, cur, he, h1, by rw [opW_at ha]; exact h3, h2, h4, by unfold maxLen at h5; omega⟩
end Go.Proofs.Ytiipcgnkfhjpeaa
/-
  AN APPEND TO A ROW OF ONE's OWN, AND WHERE THE NEW ROW LIES.
-/
namespace Go.Proofs.Ytiipcgnkfhjpeaa
set_option linter.unusedVariables false
set_option linter.unusedSimpArgs false
open Go.RowKit

/-- append of numbers, out of any slice of ints -/
theorem run_pushA (w : World) (lo : Nat) (xs news : List Int) (v x : Value) (ty : TypeId) (hst : StkI w lo xs v) (hx : IIn w news x) (hlo : lo ≤ w.heap.size) (hb : xs.length + news.length ≤ 1048576) :
    ∃ v' w', (Builtin.append_ #[24, 24] ty #[v, x]).run Try.prog w = .ok v' w' ∧ StkI w' lo (xs ++ news) v' ∧ w.grownBy w' v.ownBlock ∧ (v'.ownBlock = v.ownBlock ∨ v'.ownBlock = some w.heap.size) := by
  obtain ⟨i, z, hi, hz, hs, hby, hzs⟩ := infoI1
  have hx2 := hx
  obtain ⟨ad, cap, rfl, -, -, hr⟩ := hx2
  rcases ad with _ | ad
  · have hnil : news = [] := by
      rcases hr with h | ⟨_, _, h, -⟩
      · exact h
      · simp at h
    subst hnil
    refine ⟨v, w, ?_, by simpa using hst, ⟨rfl, rfl, rfl, Nat.le_refl _, fun _ _ _ => rfl⟩, Or.inl rfl⟩
    rcases hst.2 with ⟨rfl, h0⟩ | ⟨g, cap, cur, rfl, _, _, hnc, _⟩
    · simp [Builtin.append_, run_underlying Try.underlying24, sizeOf, typeInfo, hi, Builtin.lenOf, Builtin.firstCells]
    · simp [Builtin.append_, run_underlying Try.underlying24, sizeOf, typeInfo, hi, Builtin.lenOf, Builtin.firstCells, hnc, storeCells]
  · obtain ⟨v', w', hrun, hown, hg, -, hat⟩ := run_append_own_at (P := Try.prog) w lo 24 ty 3 i z 1 8 Try.underlying24 hi hz hs hby hzs (by decide) v xs.length (inV xs) hst ad news.length cap (inV news) (by rw [inV_length, Nat.mul_one]) (ints_newsI hx) (inV_one _) (by unfold maxLen; omega) (by omega) hlo
    refine ⟨v', w', hrun, ?_, hg, hat⟩
    unfold StkI
    rw [inV_append, List.length_append]
    exact hown
theorem wpList_pushA {ops : Array Oper} {rest : List Oper} {o : Oper} {a : Act} {Q : Exit → Act → World → Prop} (hgd : o.guard = none) (s x : Operand)
    (ho : o.op = .call { callee := .builtin .append, args := #[s, x], argTypes := #[24, 24] })
    (w : World) (lo : Nat) (xs news : List Int) (v xv : Value) (hs : a.eval s = v) (hst : StkI w lo xs v) (hxe : a.eval x = xv) (hx : IIn w news xv) (hlo : lo ≤ w.heap.size) (hb : xs.length + news.length ≤ 1048576)
    (h : ∀ v' w', StkI w' lo (xs ++ news) v' → w.grownBy w' v.ownBlock → (v'.ownBlock = v.ownBlock ∨ v'.ownBlock = some w.heap.size) → wpList Try.prog ops Q rest (a.put o.dst v') w') : wpList Try.prog ops Q (o :: rest) a w := by
  refine wpList_plain hgd fun K hK => ?_
  obtain ⟨v', w', hrun, h2, h3, h4⟩ := run_pushA w lo xs news v xv o.type hst hx hlo hb
  unfold Oper.wp
  simp [execOp, ho, resolve, invoke, builtin, hs, hxe, hrun, Result.andThen]
  exact hK _ _ (h v' w' h2 h3 h4)
end Go.Proofs.Ytiipcgnkfhjpeaa
/-
  THE MODEL's l7Forward AND l7Scan, WITH A FRAME BY BLOCKS.
-/
namespace Go.Proofs.Ytiipcgnkfhjpeaa
set_option linter.unusedVariables false
set_option linter.unusedSimpArgs false
open Go.RowKit

/-- of the old blocks only fb and the slice's own one are written, and the new slice lies in the old one's block or in a new one -/
structure KeepA (fb : Nat) (tv tv' : Value) (w w' : World) : Prop where
  block : ∀ k, k < w.heap.size → k ≠ fb → some k ≠ tv.ownBlock → w'.heap[k]? = w.heap[k]?
  own : tv'.ownBlock = tv.ownBlock ∨ ∃ k, tv'.ownBlock = some k ∧ w.heap.size ≤ k
  size : w.heap.size ≤ w'.heap.size
theorem KeepA.refl (fb : Nat) (tv : Value) (w : World) : KeepA fb tv tv w w := ⟨fun _ _ _ _ => rfl, Or.inl rfl, Nat.le_refl _⟩
theorem KeepA.drewN (fb : Nat) (tv : Value) (w : World) (k : Nat) : KeepA fb tv tv w (w.drewN k) := ⟨fun _ _ _ _ => rfl, Or.inl rfl, Nat.le_refl _⟩
theorem KeepA.trans {fb : Nat} {a b c : Value} {w w1 w2 : World} (h : KeepA fb a b w w1) (k : KeepA fb b c w1 w2) : KeepA fb a c w w2 := by
  refine ⟨fun j h0 h1 h2 => (k.block j (Nat.lt_of_lt_of_le h0 h.size) h1 (fun e => ?_)).trans (h.block j h0 h1 h2), ?_, Nat.le_trans h.size k.size⟩
  · rcases h.own with h3 | ⟨i, h3, h4⟩
    · exact h2 (e.trans h3)
    · rw [h3] at e
      have := Option.some.inj e; omega
  · rcases k.own with h3 | ⟨i, h3, h4⟩
    · rw [h3]; exact h.own
    · exact Or.inr ⟨i, h3, Nat.le_trans h.size h4⟩
theorem KeepA.setOwn {fb g n c : Nat} {a : Value} {w w' : World} (h : KeepA fb a (.slice (some ⟨g, 0, none⟩) n c) w w') (i : Nat) (v : Value) : KeepA fb a (.slice (some ⟨g, 0, none⟩) n c) w (w'.setCell ⟨g, i, none⟩ v) := by
  refine ⟨fun j h0 h1 h2 => (Below.heap_setCell _ _ _ _ ?_).trans (h.block j h0 h1 h2), h.own, by rw [size_setCell]; exact h.size⟩
  show j ≠ g
  intro e
  subst e
  have e0 : (Value.slice (some ⟨j, 0, none⟩) n c).ownBlock = some j := by simp [Value.ownBlock]
  rcases h.own with h3 | ⟨i, h3, h4⟩
  · rw [e0] at h3; exact h2 h3
  · rw [e0] at h3
    have := Option.some.inj h3; omega
set_option maxRecDepth 100000 in
set_option maxHeartbeats 800000 in
theorem l7ForwardA_calls (F T : List Int) (x lo m fb n capf : Nat) (tv : Value) (w : World) (h : FTm w lo m fb n capf F T tv) (hc : CanF F (x : Int)) (hF : F.length ≤ 800000) (hT : T.length ≤ 800000) :
    Calls Try.prog 43 #[.slice (some ⟨fb, 0, none⟩) n capf, tv, .int .i64 (x : Int)] w fun e w' => ∃ tv', e = .returned (.tuple #[tv', .int .i64 (fwd F T x).2.2]) ∧ FTm w' lo m fb n capf (fwd F T x).1 (fwd F T x).2.1 tv' ∧ KeepM m fb w w' ∧ KeepA fb tv tv' w w' := by
  have H := mkHid h
  obtain rfl := h.old.eq_len
  obtain ⟨-, hlt, hcc⟩ := hc
  rw [Int.toNat_natCast] at hcc
  have hxl : x < F.length := by omega
  have d0 := h.cell hxl
  obtain ⟨adt, nt, capt, rfl⟩ := h.new.form
  have hnt := h.new.eq_len
  obtain ⟨_, _, he9, hcp1, hcp2, -⟩ := h.old.row
  simp only [Value.slice.injEq] at he9
  obtain ⟨-, -, rfl⟩ := he9
  unfold maxLen at hcp2
  obtain ⟨op, hop⟩ : ∃ op, op = opW F x := ⟨_, rfl⟩
  have HOP := mkHid hop
  rw [← hop] at d0 hcc
  by_cases hn : op < 0
  · have HV := mkHid (fwd_old (F := F) (T := T) (a := x) (by rw [← hop]; exact hn))
    have hlo : -1000000 ≤ op := by
      rcases hcc with hcc | hcc
      · exact hcc.2
      · exact absurd (wLen_neg (by rw [← hop]; exact hn)) hcc.1
    rw [HV.out, ← HOP.out]
    clear h hop hcc hnt
    go_enter Try.func43, Try.ntmps43
    go_wp2_with fail
    go_quiet (fail)
    go_wp2_with fail
    refine bodyPost_ret (v := .tuple #[.slice adt nt capt, .int .i64 (-op - 1)]) (by simp [results, Try.results43, go_sem]) rfl ?_
    exact ⟨_, rfl, H.out.drewN _, KeepM.drewN _ _ _ _, KeepA.drewN _ _ _ _⟩
  · have hw : WholeAt F x := by
      rcases hcc with hcc | hcc
      · exact absurd hcc.1 hn
      · exact hcc
    have HV := mkHid (fwd_new (F := F) (T := T) (a := x) (by rw [← hop]; exact hn))
    have HSG := mkHid (h.seg hw)
    have hsl := segW_len hw
    have hfit := hw.2
    have h4 := wLen_le op
    have h2 := wLen_pos hw.1
    rw [← hop] at hfit hsl h2 HSG
    obtain ⟨k, hk⟩ : ∃ k : Nat, k = wLen op := ⟨_, rfl⟩
    have HKK := mkHid hk
    rw [← hk] at hfit hsl h4 h2 HSG
    have HSL := mkHid hsl
    rw [HV.out]
    have hsz := h.sz
    subst hnt
    have hop0 : ¬ op < 0 := hn
    clear h hop hcc hw hk hsl
    go_enter Try.func43, Try.ntmps43
    go_wp2_with fail
    refine (l7Length_calls op w).mono ?_
    rintro e w1 ⟨rfl, rfl⟩
    rw [← HKK.out]
    have HSG2 : Hid (IIn w (segW F x) (.slice (some ⟨fb, x, none⟩) (x + k - x) (capf - x))) := by rw [Nat.add_sub_cancel_left]; exact HSG.out
    go_wp2_with (at_builtin; go_must (refine wpList_pushA rfl _ _ rfl _ m T (segW F x) (.slice adt T.length capt) (.slice (some ⟨fb, x, none⟩) (x + k - x) (capf - x)) rfl H.out.new rfl HSG2.out hsz (by rw [HSL.out]; omega) ?_); go_must (intro v1 w5 hst5 hg5 ho5); go_must (have HOO := mkHid ho5); go_must (have HT5 := mkHid hst5); go_must (have HG5 := mkHid hg5); go_must (obtain ⟨ad5, n5, cap5, rfl⟩ := hst5.form); go_must (have HO5 : Hid (StkI w5 lo F (.slice (some ⟨fb, 0, none⟩) F.length capf)) := stki_blk H.out.old (StkI.far H.out.new hg5 (by have := H.out.fbm; have := H.out.sz; omega) H.out.fbm)); go_must (have c5 := (stki_cell HO5.out hxl).1); go_must (have f5 := (stki_cell HO5.out hxl).2.elim fun cur h => frz_of_blk h x); clear hst5 hg5 ho5)
    have HFIN : Hid (FTm (w5.setCell ⟨fb, x, none⟩ (.int .i64 (-(T.length : Int) - 1))) lo m fb F.length capf (F.set x (-(T.length : Int) - 1)) (T ++ segW F x) (.slice ad5 n5 cap5) ∧ KeepM m fb w (w5.setCell ⟨fb, x, none⟩ (.int .i64 (-(T.length : Int) - 1)))) := by
      have hg := HG5.out
      have hm := H.out.sz
      have hfb := H.out.fbm
      refine ⟨⟨stki_set HO5.out, HT5.out.keep fun j hj _ => Below.heap_setCell _ _ _ _ (by show j ≠ fb; omega), hfb, by rw [size_setCell]; exact Nat.le_trans hm hg.size⟩, ⟨hg.os, hg.tape, hg.output, by rw [size_setCell]; exact hg.size, fun k h1 h2 => ?_⟩⟩
      exact (Below.heap_setCell _ _ _ _ h2).trans (StkI.far H.out.new hg (by omega) h1)
    refine bodyPost_ret (v := .tuple #[.slice ad5 n5 cap5, .int .i64 (T.length : Int)]) (by simp [results, Try.results43, go_sem]) rfl ?_
    exact ⟨_, rfl, HFIN.out.1, HFIN.out.2, ⟨fun k h1 h2 h3 => (Below.heap_setCell _ _ _ _ h2).trans (HG5.out.block k h1 h3), (by rcases HOO.out with h | h; exact Or.inl h; exact Or.inr ⟨_, h, Nat.le_refl _⟩), by rw [size_setCell]; exact HG5.out.size⟩⟩

set_option maxRecDepth 100000 in
set_option maxHeartbeats 800000 in
theorem l7ScanA_calls (F T : List Int) (scan lo m fb n capf : Nat) (tv : Value) (w : World) (h : FTm w lo m fb n capf F T tv) (hw : WholeAt T scan) (hf : FitsF F T scan (kidsN7 (opW T scan) + 1)) (hF : F.length ≤ 700000) (hT : T.length ≤ 700000) :
    Calls Try.prog 44 #[.slice (some ⟨fb, 0, none⟩) n capf, tv, .int .i64 (scan : Int)] w fun e w' => ∃ tv', e = .returned (.tuple #[tv', .int .i64 ((scan + wLen (opW T scan) : Nat) : Int)]) ∧ FTm w' lo m fb n capf (scanC F T scan).1 (scanC F T scan).2 tv' ∧ KeepM m fb w w' ∧ KeepA fb tv tv' w w' := by
  have H := mkHid h
  have h2 := wLen_pos hw.1
  have h4 := wLen_le (opW T scan)
  have hfit := hw.2
  obtain ⟨g, capt, cur, rfl, -, d0, -, hc1, hc2⟩ := stki_cellAt h.new (show scan < T.length by omega)
  have HSC : Hid (scanC F T scan = scanN F T scan (kidsN7 (opW T scan))) := rfl
  rw [HSC.out]
  obtain ⟨op, hop⟩ : ∃ op, op = opW T scan := ⟨_, rfl⟩
  rw [← hop] at d0 h2 h4 hfit hf ⊢
  obtain ⟨k, hk⟩ : ∃ k : Nat, k = wLen op := ⟨_, rfl⟩
  have HK := mkHid hk
  rw [← hk] at h2 h4 hfit ⊢
  clear h hw hop
  go_enter Try.func44, Try.ntmps44
  go_wp2_with fail
  refine (l7Length_calls op w).mono ?_
  rintro e w1 ⟨rfl, rfl⟩
  rw [← HK.out]
  cases hnum : isNumOp op with
  | true =>
    have HN : Hid (kidsN7 op = 0) := by unfold kidsN7; rw [if_pos hnum]; rfl
    have hop : op = 2 ∨ op = 3 := by unfold isNumOp at hnum; simpa using hnum
    clear hk hnum d0 hf
    rcases hop with rfl | rfl
    · go_wp2_with fail
      refine bodyPost_ret (v := .tuple #[.slice (some ⟨g, 0, none⟩) T.length capt, .int .i64 ((scan + k : Nat) : Int)]) (by simp [results, Try.results44, go_sem]) rfl ?_
      rw [HN.out]
      exact ⟨_, rfl, H.out, KeepM.refl _ _ _, KeepA.refl _ _ _⟩
    · go_wp2_with fail
      refine bodyPost_ret (v := .tuple #[.slice (some ⟨g, 0, none⟩) T.length capt, .int .i64 ((scan + k : Nat) : Int)]) (by simp [results, Try.results44, go_sem]) rfl ?_
      rw [HN.out]
      exact ⟨_, rfl, H.out, KeepM.refl _ _ _, KeepA.refl _ _ _⟩
  | false =>
    have HN : Hid (kidsN7 op = k - 1) := by unfold kidsN7; rw [if_neg (by rw [hnum]; simp), hk]; rfl
    have hop2 : (op == 2) = false := by unfold isNumOp at hnum; simp at hnum; simp; omega
    have hop3 : (op == 3) = false := by unfold isNumOp at hnum; simp at hnum; simp; omega
    have HF : Hid (FitsF F T scan k) := by have h := hf; rw [HN.out] at h; rw [show k = k - 1 + 1 by omega]; exact h
    have HI : Hid (∀ j, j < k → ScanI F T scan k j (scanN F T scan j)) := fun j hj => scanN_inv HF.out h4 hfit (by omega) j hj
    clear hk hnum d0 hf
    go_wp2_with fail
    go_loopw [1, 10] (fun o i wr => ∃ j : Nat, 1 ≤ j ∧ j ≤ k ∧ i = .int .i64 j ∧ FTm wr lo m fb n capf (scanN F T scan (j - 1)).1 (scanN F T scan (j - 1)).2 o ∧ KeepM m fb w wr ∧ KeepA fb (.slice (some ⟨g, 0, none⟩) T.length capt) o w wr) (fun _ i _ => k - (intOf i).toNat)
    case atStart => exact ⟨1, Nat.le_refl _, by omega, rfl, H.out, KeepM.refl _ _ _, KeepA.refl _ _ _⟩
    case round =>
      obtain ⟨j, hj1, hj2, rfl, hft, hkm, hka⟩ := hrel
      obtain ⟨wo, rfl⟩ : ∃ wo : World, wo = wr := ⟨_, rfl⟩
      have hi := HI.out (j - 1) (by omega)
      have hlF := hi.lenF
      have hlT := hi.lenT
      have HKM := mkHid hkm
      have HKA := mkHid hka
      by_cases hlt : j < k
      · have hcan := hi.can (HF.out j hj1 hlt)
        rw [← hi.rest j (by omega) hlt] at hcan
        have HST : Hid (scanN F T scan (j + 1 - 1) = scanS scan j (scanN F T scan (j - 1))) := by
          rw [Hid, show j + 1 - 1 = (j - 1) + 1 by omega, scanN, show j - 1 + 1 = j by omega]
        unfold scanS at HST
        obtain ⟨Fi, hFi⟩ : ∃ Fi, Fi = (scanN F T scan (j - 1)).1 := ⟨_, rfl⟩
        obtain ⟨Ti, hTi⟩ : ∃ Ti, Ti = (scanN F T scan (j - 1)).2 := ⟨_, rfl⟩
        rw [← hFi] at hft hcan HST hlF
        rw [← hTi] at hft hcan HST hlT
        obtain ⟨g1, c1, cur1, rfl, hg1, e1, -, hc11, hc12⟩ := stki_cellAt hft.new (show scan + j < Ti.length by omega)
        obtain ⟨x, hx⟩ : ∃ x : Nat, opW Ti (scan + j) = (x : Int) := ⟨(opW Ti (scan + j)).toNat, by have := hcan.1; omega⟩
        rw [hx] at e1 hcan HST
        rw [Int.toNat_natCast] at HST
        have HFT := mkHid hft
        have HCAN := mkHid hcan
        have hlTl := fwd_lenT (T := Ti) hcan
        rw [Int.toNat_natCast] at hlTl
        have HLN : Hid (Fi.length ≤ 800000 ∧ Ti.length ≤ 800000) := ⟨by omega, by omega⟩
        have hsj : scan + j < Ti.length := by omega
        clear hi hft hkm hka hx hFi hTi hcan
        go_wp2_with fail
        refine (l7ForwardA_calls Fi Ti x lo m fb n capf _ wo HFT.out HCAN.out HLN.out.1 HLN.out.2).mono ?_
        rintro e w5 ⟨tv5, rfl, hft5, hkm5, hka5⟩
        obtain ⟨R, hR⟩ : ∃ R, R = fwd Fi Ti x := ⟨_, rfl⟩
        rw [← hR] at hft5 HST hlTl ⊢
        obtain ⟨g5, c5, cur5, rfl, hg5, e5, hb5, hc51, hc52⟩ := stki_cellAt hft5.new (show scan + j < R.2.1.length by omega)
        have f5 := frz_of_blk hb5
        have hsj5 : scan + j < R.2.1.length := by omega
        have HFT5 := mkHid hft5
        have HKM5 : Hid (KeepM m fb w w5) := HKM.out.trans hkm5
        have HKA5 := mkHid (HKA.out.trans hka5)
        have HG5 := mkHid hg5
        obtain ⟨pl, hpl⟩ : ∃ pl, pl = R.2.2 := ⟨_, rfl⟩
        rw [← hpl] at HST ⊢
        clear hft5 hkm5 hka5 e1 hR hg5 hb5 hpl
        go_wp2_with fail
        go_roundw
        case rel =>
          have hgf := HFT5.out.fbm
          have hgg := HG5.out
          have hfin : FTm (w5.setCell ⟨g5, scan + j, none⟩ (.int .i64 pl)) lo m fb n capf (scanN F T scan (j + 1 - 1)).1 (scanN F T scan (j + 1 - 1)).2 (.slice (some ⟨g5, 0, none⟩) R.2.1.length c5) := by
            rw [HST.out]
            exact ⟨stki_blk HFT5.out.old (Below.heap_setCell _ _ _ _ (by show fb ≠ g5; omega)), stki_set HFT5.out.new, hgf, by rw [size_setCell]; exact HFT5.out.sz⟩
          have hkp : KeepM m fb w (w5.setCell ⟨g5, scan + j, none⟩ (.int .i64 pl)) := HKM5.out.trans ⟨rfl, rfl, rfl, by rw [size_setCell]; exact Nat.le_refl _, fun k h1 _ => Below.heap_setCell _ _ _ _ (by show k ≠ g5; omega)⟩
          have hka9 := HKA5.out.setOwn (scan + j) (.int .i64 pl)
          first
          | exact ⟨j + 1, by omega, by omega, by go_num, hfin, hkp, hka9⟩
          | ((repeat apply Exists.intro); exact ⟨⟨j + 1, by omega, by omega, by go_num, hfin, hkp, hka9⟩, rfl⟩)
        case measure => simp [intOf]; omega
      · have hje : j = k := by omega
        obtain ⟨ado, no, capo, rfl⟩ := hft.new.form
        have HFT : Hid (FTm wo lo m fb n capf (scanN F T scan (k - 1)).1 (scanN F T scan (k - 1)).2 (.slice ado no capo)) := by rw [← hje]; exact hft
        clear hi hlF hlT hft hkm hka hje
        go_wp2_with fail
        refine bodyPost_ret (v := .tuple #[.slice ado no capo, .int .i64 ((scan + k : Nat) : Int)]) (by simp [results, Try.results44, go_sem]) rfl ?_
        rw [HN.out]
        exact ⟨_, rfl, HFT.out, HKM.out, HKA.out⟩
end Go.Proofs.Ytiipcgnkfhjpeaa

