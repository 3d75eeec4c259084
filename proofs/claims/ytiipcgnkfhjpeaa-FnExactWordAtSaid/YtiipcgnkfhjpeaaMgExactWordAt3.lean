/-
  A GRAPH IN ROWS OF ITS OWN, all distinct: the laws' marks (markCellS) and their re-reading (heldCellS), with what stands there.
-/
import Derived.Test.YtiipcgnkfhjpeaaMgExactWordAt2
import Derived.Test.YtiipcgnkfhjpeaaMgExactWordAt1
import Derived.Maps.Own
import Derived.Maps.OwnOps
import Derived.LaidEqlPtr
import Derived.Test.YtiipcgnkfhjpeaaProg
namespace Go.Proofs.Ytiipcgnkfhjpeaa
set_option linter.unusedVariables false
set_option linter.unusedSimpArgs false
open Go.RowKit

/-- the operands of a cell, in the row blk -/
def KRow (w : World) (fp : List Nat) (xs : List Int) (blk : Nat) (v : Value) : Prop :=
  ∃ ad cap, v = .slice ad xs.length cap ∧ xs.length ≤ cap ∧ cap ≤ maxLen ∧ (xs = [] ∨ ∃ f, ad = some ⟨blk, 0, none⟩ ∧ blk ∈ fp ∧ w.rowIs blk 3 cap f ∧ ∀ i (h : i < xs.length), f i = .int .i64 xs[i])
/-- the cells, in the row b; the operands of cell i in the row kb i -/
def GRow (w : World) (fp : List Nat) (b cap : Nat) (kb : Nat → Nat) (g : List Ce) : Prop :=
  ∃ f, w.rowIs b 40 (cap * 3) f ∧ ∀ i (h : i < g.length), f (i * 3) = .int .i64 g[i].op ∧ f (i * 3 + 1) = .int .i64 g[i].num ∧ KRow w fp g[i].kids (kb i) (f (i * 3 + 2))
/-- two rows of operands are two blocks -/
def Dist (kb : Nat → Nat) (g : List Ce) : Prop := ∀ i j (hi : i < g.length) (hj : j < g.length), i ≠ j → g[i].kids ≠ [] → g[j].kids ≠ [] → kb i ≠ kb j
/-- a slice value that holds a graph in rows of its own -/
def GOwn (w : World) (fp : List Nat) (g : List Ce) (v : Value) : Prop :=
  (∀ i (h : i < g.length), I64 g[i].op ∧ I64 g[i].num) ∧ ∃ ad cap, v = .slice ad g.length cap ∧ g.length ≤ cap ∧ cap ≤ maxLen ∧ (g = [] ∨ ∃ b kb, ad = some ⟨b, 0, none⟩ ∧ b ∈ fp ∧ GRow w fp b cap kb g ∧ Dist kb g)

theorem KRow.keep {w w' : World} {fp fp' : List Nat} {xs : List Int} {blk : Nat} {v : Value} (h : KRow w fp xs blk v) (hf : xs ≠ [] → blk ∈ fp → blk ∈ fp') (hb : xs ≠ [] → blk ∈ fp → w'.heap[blk]? = w.heap[blk]?) : KRow w' fp' xs blk v := by
  obtain ⟨ad, cap, e, l1, l2, h⟩ := h
  refine ⟨ad, cap, e, l1, l2, ?_⟩
  by_cases hx : xs = []
  · exact Or.inl hx
  · rcases h with h | ⟨f, rfl, h1, h2, h3⟩
    · exact absurd h hx
    · exact Or.inr ⟨f, rfl, hf hx h1, h2.of_block (hb hx h1), h3⟩
theorem GOwn.keep {w w' : World} {fp : List Nat} {g : List Ce} {v : Value} (h : GOwn w fp g v) (hb : ∀ k ∈ fp, k < w.heap.size → w'.heap[k]? = w.heap[k]?) : GOwn w' fp g v := by
  obtain ⟨hi, ad, cap, e, l1, l2, h⟩ := h
  refine ⟨hi, ad, cap, e, l1, l2, h.imp id ?_⟩
  rintro ⟨b, kb, rfl, h1, ⟨f, hr, hf⟩, hd⟩
  refine ⟨b, kb, rfl, h1, ⟨f, hr.of_block (hb b h1 hr.lt), fun i h => ?_⟩, hd⟩
  obtain ⟨e0, e1, e2⟩ := hf i h
  refine ⟨e0, e1, e2.keep (fun _ h => h) fun hx hm => ?_⟩
  obtain ⟨_, _, _, _, _, h5⟩ := e2
  rcases h5 with h5 | ⟨f5, -, -, h6, -⟩
  · exact absurd h5 hx
  · exact hb _ hm h6.lt
/-- .. as cells that lie in a world -/
theorem GOwn.inn {w : World} {fp : List Nat} {g : List Ce} {v : Value} (h : GOwn w fp g v) : CIn w g v := by
  obtain ⟨hi, ad, cap, e, l1, l2, h⟩ := h
  refine ⟨ad, cap, e, l1, l2, h.imp id ?_⟩
  rintro ⟨b, kb, rfl, h1, ⟨f, hr, hf⟩, hd⟩
  refine ⟨b, 0, rfl, hr.lt, fun i h => ?_⟩
  obtain ⟨e0, e1, e2⟩ := hf i h
  refine ⟨f (i * 3 + 2), ?_, ?_, ?_, (hi i h).1, (hi i h).2, ?_⟩
  · rw [Nat.zero_add, hr.cell (by omega), e0]
  · rw [Nat.zero_add, hr.cell (by omega), e1]
  · rw [Nat.zero_add, hr.cell (by omega)]
  · obtain ⟨ad2, cap2, e3, l3, l4, h5⟩ := e2
    refine ⟨ad2, cap2, e3, l3, l4, h5.imp id ?_⟩
    rintro ⟨f5, rfl, -, h6, h7⟩
    exact ⟨_, 0, rfl, h6.lt, fun j hj => by rw [Nat.zero_add, h6.cell (by omega), h7 j hj]⟩

/-! ### The labels -/
/-- the number that stands at cell i -/
def cLab (g : List Ce) (k : Int) (i : Nat) : Int := k + 2 * (i : Int) + (sumK (g.take i) : Int)
/-- a marked cell -/
def markedC (l : Int) (n : Nat) : Ce := ⟨l, l + 1, upFrom (l + 2) n⟩
/-- a graph of which the first j cells are marked -/
def HalfC (g : List Ce) (k : Int) (j : Nat) (ms : List Ce) : Prop := ms.length = g.length ∧ ∀ i (hi : i < g.length) (hm : i < ms.length), ms[i] = if i < j then markedC (cLab g k i) g[i].kids.length else g[i]
theorem HalfC.zero (g : List Ce) (k : Int) : HalfC g k 0 g := ⟨rfl, fun i hi hm => by simp⟩
theorem HalfC.step {g ms : List Ce} {k : Int} {j : Nat} (h : HalfC g k j ms) (hj : j < g.length) : HalfC g k (j + 1) (ms.set j (markedC (cLab g k j) g[j].kids.length)) := by
  refine ⟨by rw [List.length_set]; exact h.1, fun i hi hm => ?_⟩
  rw [List.getElem_set]
  by_cases hij : j = i
  · subst hij; simp
  · rw [if_neg hij, h.2 i hi (by rw [h.1]; exact hi)]
    by_cases hlt : i < j
    · rw [if_pos hlt, if_pos (by omega)]
    · rw [if_neg hlt, if_neg (by omega)]
theorem HalfC.at {g ms : List Ce} {k : Int} {j : Nat} (h : HalfC g k j ms) (hj : j < g.length) (hm : j < ms.length) : ms[j] = g[j] := by rw [h.2 j hj hm, if_neg (by omega)]
theorem HalfC.kids {g ms : List Ce} {k : Int} {j : Nat} (h : HalfC g k j ms) (i : Nat) (hi : i < g.length) (hm : i < ms.length) : ms[i].kids.length = g[i].kids.length := by
  rw [h.2 i hi hm]
  split
  · simp [markedC, upFrom_length]
  · rfl

/-! ### Marked -/
set_option maxHeartbeats 400000 in
/-- markIntS, over a row of operands -/
theorem markK_calls (xs : List Int) (fp : List Nat) (blk : Nat) (v : Value) (k : Int) (w : World) (hc : KRow w fp xs blk v) (h0 : 0 ≤ k) (h1 : k + (xs.length : Int) ≤ 1152921504606846976) :
    Calls Try.prog 16 #[v, .int .i64 k] w fun e w' => e = .returned (.int .i64 (k + (xs.length : Int))) ∧ KRow w' fp (upFrom k xs.length) blk v ∧ ButL [blk] w w' ∧ (xs = [] → ∀ b : Nat, w'.heap[b]? = w.heap[b]?) := by
  have HC : Hid (KRow w fp xs blk v) := hc
  obtain ⟨ad, cap, rfl, hl, hm, -⟩ := hc
  unfold maxLen at hm
  go_enter Try.func16, Try.ntmps16
  go_wp2_with fail
  go_loopw [1, 5] (fun q i wr => ∃ j : Nat, j ≤ xs.length ∧ i = .int .i64 j ∧ q = .int .i64 (k + j) ∧ ButL [blk] w wr ∧ (xs = [] → ∀ b : Nat, wr.heap[b]? = w.heap[b]?) ∧ (xs ≠ [] → ∃ f, ad = some ⟨blk, 0, none⟩ ∧ blk ∈ fp ∧ wr.rowIs blk 3 cap f ∧ ∀ i, i < j → f i = .int .i64 (k + (i : Int)))) (fun _ i _ => xs.length - (intOf i).toNat)
  case atStart =>
    refine ⟨0, Nat.zero_le _, rfl, by simp, ButL.refl _ _, fun _ _ => rfl, fun hx => ?_⟩
    obtain ⟨_, _, he, -, -, hr⟩ := HC.out
    cases he
    rcases hr with hr | ⟨f, rfl, h1, h2, -⟩
    · exact absurd hr hx
    · exact ⟨f, rfl, h1, h2, fun i hi => absurd hi (by omega)⟩
  case round =>
    obtain ⟨j, hj, rfl, rfl, hb, hnil, hrow⟩ := hrel
    have HB : Hid (ButL [blk] w wr) := hb
    have HN : Hid (xs = [] → ∀ b : Nat, wr.heap[b]? = w.heap[b]?) := hnil
    have HRW : Hid (xs ≠ [] → ∃ f, ad = some ⟨blk, 0, none⟩ ∧ blk ∈ fp ∧ wr.rowIs blk 3 cap f ∧ ∀ i, i < j → f i = .int .i64 (k + (i : Int))) := hrow
    clear hb hnil hrow
    by_cases hlt : j < xs.length
    · have hx : xs ≠ [] := by intro h; rw [h] at hlt; simp at hlt
      obtain ⟨f, rfl, hbm, hr, hf⟩ := HRW.out hx
      have c0 := hr.cell (i := j) (by omega)
      have f0 := hr.frozen j
      have HR2 : Hid ((wr.setCell ⟨blk, j, none⟩ (.int .i64 (k + (j : Int)))).rowIs blk 3 cap (fun i => if i = j then .int .i64 (k + (j : Int)) else f i)) := hr.set j _
      have HF2 : Hid (∀ i, i < j → f i = .int .i64 (k + (i : Int))) := hf
      have HX : Hid (xs ≠ []) := hx
      have HBM : Hid (blk ∈ fp) := hbm
      clear hr hf hx hbm
      go_wp2_with fail
      go_roundw
      case rel =>
        refine ⟨j + 1, by omega, by go_num, congrArg (Value.int .i64) (by push_cast; omega), HB.out.trans (ButL.setCell _ _ _ (by simp) _), fun h => absurd h HX.out, fun _ => ⟨_, by first | rfl | trivial, HBM.out, HR2.out, fun i hi => ?_⟩⟩
        by_cases e : i = j
        · subst e; simp
        · rw [if_neg e]; exact HF2.out i (by omega)
      case measure => simp [intOf]; omega
    · have hje : j = xs.length := by omega
      have HV : Hid (KRow wr fp (upFrom k xs.length) blk (.slice ad xs.length cap)) := by
        refine ⟨ad, cap, by rw [upFrom_length], by rw [upFrom_length]; exact hl, by unfold maxLen; exact hm, ?_⟩
        by_cases hx : xs = []
        · left; rw [hx]; rfl
        · obtain ⟨f, h1, h2, h3, h4⟩ := HRW.out hx
          refine Or.inr ⟨f, h1, h2, h3, fun i hi => ?_⟩
          rw [upFrom_get]
          rw [upFrom_length] at hi
          exact h4 i (by omega)
      have HJ : Hid (k + (xs.length : Int) = k + (j : Int)) := by rw [hje]; rfl
      clear hje
      go_wp2_with fail
      go_ret
      exact ⟨ret_int HJ.out.symm, HV.out, HB.out, HN.out⟩

/-- .. and the operands of that cell marked -/
theorem GRow.marked {w w' : World} {fp : List Nat} {b cap : Nat} {kb : Nat → Nat} {g : List Ce} {j : Nat} {l : Int} (hj : j < g.length) (hcap : g.length ≤ cap) (h : GRow w fp b cap kb (g.set j ⟨l, l + 1, g[j].kids⟩)) (hd : Dist kb g) {f : Nat → Value} (hr : w.rowIs b 40 (cap * 3) f)
    (hk : KRow w' fp (upFrom (l + 2) g[j].kids.length) (kb j) (f (j * 3 + 2))) (hb : ButL [kb j] w w') (hn : g[j].kids = [] → ∀ b : Nat, w'.heap[b]? = w.heap[b]?) : GRow w' fp b cap kb (g.set j (markedC l g[j].kids.length)) := by
  obtain ⟨f', hr', hf⟩ := h
  -- the two functions agree on the row
  have agree : ∀ i, i < cap * 3 → f' i = f i := by
    intro i hi
    have e1 := hr'.cell hi
    have e2 := hr.cell hi
    rw [e1] at e2
    exact Option.some.inj e2
  have hblk : ∀ x, x < w.heap.size → (x = kb j → g[j].kids = []) → w'.heap[x]? = w.heap[x]? := by
    intro x hx hxj
    by_cases e : g[j].kids = []
    · exact hn e x
    · exact hb.block x hx (by simp; intro h; exact e (hxj h))
  have hrow : w'.rowIs b 40 (cap * 3) f' := by
    refine hr'.of_block (hblk b hr'.lt fun e => ?_)
    have hjj := (hf j (by rw [List.length_set]; exact hj)).2.2
    rw [List.getElem_set_self] at hjj
    obtain ⟨_, _, _, _, _, h5⟩ := hjj
    rcases h5 with h5 | ⟨f5, -, -, h6, -⟩
    · exact h5
    · exact absurd e (rows_part hr' h6)
  refine ⟨f', hrow, fun i hi => ?_⟩
  rw [List.length_set] at hi
  have hfi := hf i (by rw [List.length_set]; exact hi)
  by_cases hij : i = j
  · subst hij
    rw [List.getElem_set_self] at hfi ⊢
    refine ⟨hfi.1, hfi.2.1, ?_⟩
    have hlt : i * 3 + 2 < cap * 3 := by omega
    rw [agree _ hlt]
    exact hk
  · rw [List.getElem_set_ne (by omega)] at hfi ⊢
    refine ⟨hfi.1, hfi.2.1, hfi.2.2.keep (fun _ h => h) fun hx hm => ?_⟩
    obtain ⟨_, _, _, _, _, h5⟩ := hfi.2.2
    rcases h5 with h5 | ⟨f5, -, -, h6, -⟩
    · exact absurd h5 hx
    · refine hblk _ h6.lt fun e => ?_
      by_cases e2 : g[j].kids = []
      · exact e2
      · exact absurd e (hd i j hi hj hij hx e2)

end Go.Proofs.Ytiipcgnkfhjpeaa
/-
  append AS A STEP OF THE WALK, WITH WHERE THE NEW ROW LIES.
-/
namespace Go.Proofs.Ytiipcgnkfhjpeaa
set_option linter.unusedVariables false
set_option linter.unusedSimpArgs false
open Go.RowKit

theorem wpList_append_where {P : Program} (w : World) {ops : Array Oper} {rest : List Oper} {o : Oper} {a : Act} {Q : Exit → Act → World → Prop}
    (hg : o.guard = none) (s x : Operand) (t : TypeId) (hop : o.op = Op.call { callee := Callee.builtin Builtin.append, args := #[s, x], argTypes := #[t, t] })
    (base : Nat) (e : TypeId) (i : TypeInfo) (z : Value) (size bytes : Nat) (ht : P.underlying t = some (.slice e)) (hi : P.info? e = some i) (hz : i.zero = some z)
    (hsize : i.size = size) (hby : i.bytes = bytes) (hzs : z.cells.size = size) (hsz : 0 < size)
    (v : Value) (n : Nat) (xs : List Value) (hs : a.eval s = v) (hown : w.ownsRow base e size v n xs)
    (ad : Addr) (m c : Nat) (news : List Value) (hx : a.eval x = .slice (some ad) m c) (hl : news.length = m * size) (hnews : ∀ j u, news[j]? = some u → w.cell? (ad.add j) = some u) (h1 : ∀ u ∈ news, u.oneCell' = true)
    (h63 : n + m ≤ maxLen) (hbytes : (n + m) * bytes ≤ 140737488355328) (hbase : base ≤ w.heap.size) (hm : 0 < m)
    (hK : ∀ v' w', w'.ownsRow base e size v' (n + m) (xs ++ news) → w.grownBy w' v.ownBlock → (v'.ownBlock = v.ownBlock ∨ ∃ g, v'.ownBlock = some g ∧ w.heap.size ≤ g) → wpList P ops Q rest (a.put o.dst v') w') :
    wpList P ops Q (o :: rest) a w := by
  refine wpList_plain hg fun K' hK' => ?_
  obtain ⟨v', w', hrun, r1, r2, r3⟩ := run_append_where (P := P) w base t o.type e i z size bytes ht hi hz hsize hby hzs hsz v n xs hown ad m c news hl hnews h1 h63 hbytes hbase hm
  unfold Oper.wp
  simp [execOp, hop, resolve, invoke, builtin, hs, hx, hrun, Result.andThen]
  exact hK' _ _ (hK v' w' r1 r2 r3)

end Go.Proofs.Ytiipcgnkfhjpeaa
/-
  A GRAPH THAT CALLS BUILD BY append: the row of cells is owned, the operands lie in rows of their own.
-/
namespace Go.Proofs.Ytiipcgnkfhjpeaa
set_option linter.unusedVariables false
set_option linter.unusedSimpArgs false
open Go.RowKit

theorem infoC1 : ∃ i z, Try.prog.info? 40 = some i ∧ i.zero = some z ∧ i.size = 3 ∧ i.bytes = 40 ∧ z.cells.size = 3 := by
  obtain ⟨i, hi, hzz⟩ := Option.map_eq_some_iff.1 infoC
  simp only [Prod.mk.injEq] at hzz
  obtain ⟨hz, hs, hb⟩ := hzz
  exact ⟨i, _, hi, hz, hs, hb, rfl⟩
/-- the operands of a cell, in the row blk, a block of S -/
def KRowS (w : World) (S : Nat → Prop) (xs : List Int) (blk : Nat) (v : Value) : Prop :=
  ∃ ad cap, v = .slice ad xs.length cap ∧ xs.length ≤ cap ∧ cap ≤ maxLen ∧ (xs = [] ∨ ∃ f, ad = some ⟨blk, 0, none⟩ ∧ S blk ∧ w.rowIs blk 3 cap f ∧ ∀ i (h : i < xs.length), f i = .int .i64 xs[i])
theorem KRowS.keep {w w' : World} {S S' : Nat → Prop} {xs : List Int} {blk : Nat} {v : Value} (h : KRowS w S xs blk v) (hS : ∀ k, S k → k < w.heap.size → S' k) (hb : ∀ C, S blk → blk < w.heap.size → w.heap[blk]? = some (.cells C 3 (0, 0)) → w'.heap[blk]? = w.heap[blk]?) : KRowS w' S' xs blk v := by
  obtain ⟨ad, cap, e, l1, l2, h⟩ := h
  refine ⟨ad, cap, e, l1, l2, h.imp id ?_⟩
  rintro ⟨f, rfl, h1, h3, h4⟩
  obtain ⟨C, hC, -⟩ := id h3
  exact ⟨f, rfl, hS _ h1 h3.lt, h3.of_block (hb C h1 h3.lt hC), h4⟩
/-- a slice value that holds a graph that is being built: the row of cells is owned, from block lo on; the operands lie in blocks of S -/
def OwnC (w : World) (lo : Nat) (S : Nat → Prop) (g : List Ce) (v : Value) : Prop :=
  (∀ i (h : i < g.length), I64 g[i].op ∧ I64 g[i].num) ∧ ∃ (xs : List Value) (kb : Nat → Nat), w.ownsRow lo 40 3 v g.length xs ∧
    (∀ j (hj : j < g.length), ∃ kv, xs[j * 3]? = some (.int .i64 g[j].op) ∧ xs[j * 3 + 1]? = some (.int .i64 g[j].num) ∧ xs[j * 3 + 2]? = some kv ∧ KRowS w S g[j].kids (kb j) kv) ∧ Dist kb g
theorem OwnC.nil (w : World) (lo : Nat) (S : Nat → Prop) : OwnC w lo S [] (.slice none 0 0) := ⟨fun i h => absurd h (by simp), [], fun _ => 0, World.ownsRow_nil w lo _ _, fun j hj => absurd hj (by simp), fun i j hi _ => absurd hi (by simp)⟩
/-- it stays where the row of cells and all rows of ints in S stay -/
theorem OwnC.next {w w' : World} {lo : Nat} {S S' : Nat → Prop} {g : List Ce} {v : Value} (h : OwnC w lo S g v) (hS : ∀ k, S k → k < w.heap.size → S' k) (hr : ∀ k, some k = v.ownBlock → k < w.heap.size → w'.heap[k]? = w.heap[k]?) (hb : ∀ k, S k → k < w.heap.size → w'.heap[k]? = w.heap[k]?) : OwnC w' lo S' g v := by
  obtain ⟨hi0, xs, kb, h1, h2, h3⟩ := h
  refine ⟨hi0, xs, kb, ?_, fun j hj => ?_, h3⟩
  · refine ⟨h1.1, ?_⟩
    rcases h1.2 with h | ⟨b, cap, cur, rfl, hg, hh, r⟩
    · exact Or.inl h
    · exact Or.inr ⟨b, cap, cur, rfl, hg, (hr b rfl (Array.getElem?_eq_some_iff.1 hh).1).trans hh, r⟩
  · obtain ⟨kv, e0, e1, e2, e3⟩ := h2 j hj
    exact ⟨kv, e0, e1, e2, e3.keep hS fun C h1 h2 _ => hb _ h1 h2⟩
theorem OwnC.row {w : World} {lo : Nat} {S : Nat → Prop} {g : List Ce} {v : Value} (h : OwnC w lo S g v) : ∃ xs, w.ownsRow lo 40 3 v g.length xs := by
  obtain ⟨-, xs, kb, h1, -⟩ := h; exact ⟨xs, h1⟩
theorem OwnC.form {w : World} {lo : Nat} {S : Nat → Prop} {g : List Ce} {v : Value} (h : OwnC w lo S g v) : ∃ ad cap, v = .slice ad g.length cap := by
  obtain ⟨xs, h1⟩ := h.row
  rcases h1.2 with ⟨rfl, h0⟩ | ⟨b, cap, cur, rfl, -⟩
  · exact ⟨none, 0, by rw [h0]⟩
  · exact ⟨_, _, rfl⟩
/-- one cell more -/
theorem OwnC.step {w w' : World} {lo : Nat} {S : Nat → Prop} {g : List Ce} {v v' : Value} {c : Ce} {kv : Value} {blk : Nat} (h : OwnC w lo S g v)
    (hc : I64 c.op ∧ I64 c.num) (hk : KRowS w (fun b => b = blk) c.kids blk kv) (hS : ¬ S blk) (xs : List Value) (hx : w.ownsRow lo 40 3 v g.length xs)
    (hown : w'.ownsRow lo 40 3 v' (g.length + 1) (xs ++ [.int .i64 c.op, .int .i64 c.num, kv])) (hg : w.grownBy w' v.ownBlock) : OwnC w' lo (fun b => S b ∨ b = blk) (g ++ [c]) v' := by
  obtain ⟨hi0, xs2, kb, h1, h2, h3⟩ := h
  have hxs : xs2 = xs := by
    rcases h1.2 with ⟨rfl, h0⟩ | ⟨b, cap, cur, rfl, hg', hh, hn', hc', hs', htk⟩
    · have a1 := h1.1
      have a2 := hx.1
      rw [h0] at a1 a2
      rw [List.eq_nil_of_length_eq_zero (by omega : xs2.length = 0), List.eq_nil_of_length_eq_zero (by omega : xs.length = 0)]
    · rcases hx.2 with ⟨e, -⟩ | ⟨b2, cap2, cur2, e, -, hh2, -, -, -, htk2⟩
      · cases e
      · cases e
        rw [hh] at hh2
        cases hh2
        rw [← htk, ← htk2]
  subst hxs
  have hlen := h1.1
  -- a row of ints is not the row of cells
  have keep : ∀ (C : Array Value) (b : Nat), b < w.heap.size → w.heap[b]? = some (.cells C 3 (0, 0)) → w'.heap[b]? = w.heap[b]? := by
    intro C b hb hC
    refine hg.block b hb fun e => ?_
    rcases h1.2 with ⟨rfl, -⟩ | ⟨b2, cap, cur, rfl, -, hh, -⟩
    · simp [Value.ownBlock] at e
    · simp only [Value.ownBlock, Option.some.injEq] at e
      subst e
      rw [hh] at hC
      simp at hC
  refine ⟨fun i hi' => ?_, xs2 ++ [.int .i64 c.op, .int .i64 c.num, kv], fun j => if j = g.length then blk else kb j, by simpa using hown, fun j hj => ?_, ?_⟩
  · by_cases hil : i < g.length
    · rw [List.getElem_append_left hil]; exact hi0 i hil
    · have : i = g.length := by simp at hi'; omega
      subst this
      simpa using hc
  · by_cases hjl : j < g.length
    · obtain ⟨kv', e0, e1, e2, e3⟩ := h2 j hjl
      refine ⟨kv', ?_, ?_, ?_, ?_⟩
      · rw [List.getElem?_append_left (by omega), List.getElem_append_left hjl]; exact e0
      · rw [List.getElem?_append_left (by omega), List.getElem_append_left hjl]; exact e1
      · rw [List.getElem?_append_left (by omega)]; exact e2
      · simp only [if_neg (show ¬ j = g.length by omega)]
        rw [List.getElem_append_left hjl]
        exact e3.keep (fun k hk _ => Or.inl hk) fun C _ h5 hC => keep C _ h5 hC
    · have hj' : j = g.length := by simp at hj; omega
      subst hj'
      refine ⟨kv, ?_, ?_, ?_, ?_⟩
      · rw [List.getElem?_append_right (by omega)]; simp [hlen]
      · rw [List.getElem?_append_right (by omega)]; simp [hlen]
      · rw [List.getElem?_append_right (by omega)]; simp [hlen]
      · simp only [List.getElem_concat_length, if_pos]
        exact hk.keep (fun k hk _ => Or.inr hk) fun C _ h5 hC => keep C _ h5 hC
  · -- distinct
    have ne : ∀ i (hi' : i < g.length), g[i].kids ≠ [] → kb i ≠ blk := by
      intro i hi' hne e
      obtain ⟨kv', -, -, -, _, _, _, _, _, h5⟩ := h2 i hi'
      rcases h5 with h5 | ⟨f5, -, h6, -⟩
      · exact hne h5
      · exact hS (e ▸ h6)
    intro i j hi' hj' hij ei ej
    simp only [List.length_append, List.length_cons, List.length_nil] at hi' hj'
    by_cases il : i < g.length
    · rw [List.getElem_append_left il] at ei
      by_cases jl : j < g.length
      · rw [List.getElem_append_left jl] at ej
        simp only [if_neg (show ¬ i = g.length by omega), if_neg (show ¬ j = g.length by omega)]
        exact h3 i j il jl hij ei ej
      · have : j = g.length := by omega
        subst this
        simp only [if_neg (show ¬ i = g.length by omega), if_pos]
        exact ne i il ei
    · have : i = g.length := by omega
      subst this
      have jl : j < g.length := by omega
      rw [List.getElem_append_left jl] at ej
      simp only [if_neg (show ¬ j = g.length by omega), if_pos]
      exact (ne j jl ej).symm
/-- the graph, in rows of its own -/
theorem OwnC.own {w : World} {lo : Nat} {S : Nat → Prop} {g : List Ce} {v : Value} (h : OwnC w lo S g v) (hS : ∀ k, S k → k < w.heap.size → lo ≤ k) : GOwn w (List.range' lo (w.heap.size - lo)) g v := by
  obtain ⟨hi0, xs, kb, h1, h2, h3⟩ := h
  refine ⟨hi0, ?_⟩
  rcases h1.2 with ⟨rfl, h0⟩ | ⟨b, cap, cur, rfl, hg, hh2, hn, hc, hs, htk⟩
  · obtain rfl : g = [] := List.eq_nil_of_length_eq_zero h0
    exact ⟨none, 0, rfl, Nat.le_refl _, by simp [maxLen], Or.inl rfl⟩
  · have hbl : b < w.heap.size := (Array.getElem?_eq_some_iff.1 hh2).1
    refine ⟨_, cap, rfl, hn, hc, Or.inr ⟨b, kb, rfl, by rw [List.mem_range'_1]; omega, ⟨fun i => cur.getD i undef, ⟨cur, hh2, hs, fun i hi => by simp [Array.getD, show i < cur.size by omega]⟩, fun i hi => ?_⟩, h3⟩⟩
    obtain ⟨kv, e0, e1, e2, e3⟩ := h2 i hi
    have get : ∀ m u, m < g.length * 3 → xs[m]? = some u → cur.getD m undef = u := by
      intro m u hm hu
      rw [← htk, List.getElem?_take_of_lt hm] at hu
      have hmc : m < cur.size := by omega
      simp [hmc] at hu
      simp [Array.getD, hmc, hu]
    refine ⟨get _ _ (by omega) e0, get _ _ (by omega) e1, ?_⟩
    simp only []
    rw [get _ _ (by omega) e2]
    obtain ⟨ad2, cap2, e4, l1, l2, h5⟩ := e3
    refine ⟨ad2, cap2, e4, l1, l2, h5.imp id ?_⟩
    rintro ⟨f, rfl, h6, h8, h9⟩
    exact ⟨f, rfl, by rw [List.mem_range'_1]; have := h8.lt; have := hS _ h6 h8.lt; omega, h8, h9⟩
theorem news3c (w : World) (a b c : Value) (j : Nat) (u : Value) (h : [a, b, c][j]? = some u) : (w.alloc (.cells #[a, b, c] 40)).cell? ((⟨w.heap.size, 0, none⟩ : Addr).add j) = some u := by
  rw [WideShapes.add_plain, Nat.zero_add]
  exact box_cell w #[a, b, c] _ j u (by simpa using h)
end Go.Proofs.Ytiipcgnkfhjpeaa
/-
  A GRAPH THAT IS BUILT CELL BY CELL, the operands in rows that the call owns.
-/
namespace Go.Proofs.Ytiipcgnkfhjpeaa
set_option linter.unusedVariables false
set_option linter.unusedSimpArgs false
open Go.RowKit

/-- operands, the first ones turned into places -/
def kkW (st ks : List Int) (q : Nat) : List Int := (ks.take q).map (idxI st) ++ ks.drop q
theorem kkW_zero (st ks : List Int) : kkW st ks 0 = ks := by simp [kkW]
theorem kkW_all (st ks : List Int) : kkW st ks ks.length = ks.map (idxI st) := by simp [kkW]
theorem kkW_length (st ks : List Int) (q : Nat) : (kkW st ks q).length = ks.length := by simp [kkW]; omega
theorem kkW_get {st ks : List Int} {q : Nat} (h : q < ks.length) : (kkW st ks q)[q]? = some ks[q] := by
  unfold kkW
  rw [List.getElem?_append_right (by simp; omega)]
  simp [Nat.min_eq_left (Nat.le_of_lt h), h]
theorem kkW_set {st ks : List Int} {q : Nat} (h : q < ks.length) : (kkW st ks q).set q (idxI st ks[q]) = kkW st ks (q + 1) := by
  unfold kkW
  rw [List.set_append_right _ _ (by simp; omega), List.take_succ_eq_append_getElem h, List.map_append, List.append_assoc]
  congr 1
  have e : q - ((ks.take q).map (idxI st)).length = 0 := by simp; omega
  rw [e, List.drop_eq_getElem_cons h]
  rfl

theorem stki_set {w : World} {lo n cap g i : Nat} {xs : List Int} {y : Int} (h : StkI w lo xs (.slice (some ⟨g, 0, none⟩) n cap)) : StkI (w.setCell ⟨g, i, none⟩ (.int .i64 y)) lo (xs.set i y) (.slice (some ⟨g, 0, none⟩) n cap) := by
  obtain rfl := h.eq_len
  unfold StkI at h ⊢
  have hx : inV (xs.set i y) = (inV xs).set i (.int .i64 y) := by simp [inV, List.map_set]
  rw [hx, List.length_set]
  have hl : (inV xs).length = xs.length * 1 := by rw [inV_length, Nat.mul_one]
  refine ⟨by rw [List.length_set, hl], ?_⟩
  rcases h.2 with ⟨h', _⟩ | ⟨g', cap', cur, h', hb, hg, hnc, hcm, hcs, htake⟩
  · simp at h'
  · simp only [Value.slice.injEq, Option.some.injEq, Addr.mk.injEq, and_true, true_and] at h'
    obtain ⟨rfl, rfl⟩ := h'
    refine .inr ⟨g, cap, cur.setIfInBounds i (.int .i64 y), rfl, hb, ?_, hnc, hcm, by simpa using hcs, ?_⟩
    · simp [World.setCell, Array.getElem?_modify, hg]
    · rw [Array.toList_setIfInBounds, ← htake, List.take_set]
theorem stki_at {w : World} {lo : Nat} {xs : List Int} {v : Value} (h : StkI w lo xs v) (i : Nat) (hi : i < xs.length) :
    ∃ g cap cur, v = .slice (some ⟨g, 0, none⟩) xs.length cap ∧ lo ≤ g ∧ w.heap[g]? = some (.cells cur 3) ∧ w.cell? ⟨g, i, none⟩ = some (.int .i64 xs[i]) := by
  rcases h.2 with ⟨h', h0⟩ | ⟨g, cap, cur, h', hb, hg, hnc, hcm, hcs, htk⟩
  · omega
  · rw [Nat.mul_one] at hcs htk
    refine ⟨g, cap, cur, h', hb, hg, ?_⟩
    have hi' : i < cur.size := by omega
    have e1 : (cur.toList.take xs.length)[i]? = (inV xs)[i]? := by rw [htk]
    rw [List.getElem?_take_of_lt hi] at e1
    have e2 : (inV xs)[i]? = some (.int .i64 xs[i]) := by simp [inV, hi]
    rw [e2] at e1
    simp only [World.cell?, hg]
    simpa using e1
theorem stki_krow {w : World} {lo : Nat} {xs : List Int} {v : Value} (h : StkI w lo xs v) (hl : lo ≤ w.heap.size) : ∃ blk, lo ≤ blk ∧ KRowS w (fun b => b = blk) xs blk v := by
  obtain ⟨ad, cap, e, l1, l2, h5⟩ := h.row
  rcases h5 with h5 | ⟨g, f, rfl, h6, h7, h8⟩
  · exact ⟨w.heap.size, hl, ad, cap, e, l1, l2, Or.inl h5⟩
  · exact ⟨g, h6, _, cap, e, l1, l2, Or.inr ⟨f, rfl, rfl, h7, h8⟩⟩
/-- one cell more -/
theorem OwnC.push {wa w' : World} {lo m : Nat} {g : List Ce} {v v' kv : Value} {c : Ce} {xs : List Value} (h : OwnC wa lo (fun b => lo ≤ b ∧ b < m) g v) (hk : StkI wa m c.kids kv) (hm : lo ≤ m) (hm2 : m ≤ wa.heap.size) (hc : I64 c.op ∧ I64 c.num)
    (hx : wa.ownsRow lo 40 3 v g.length xs) (hown : w'.ownsRow lo 40 3 v' (g.length + 1) (xs ++ [.int .i64 c.op, .int .i64 c.num, kv])) (hg : wa.grownBy w' v.ownBlock) : OwnC w' lo (fun b => lo ≤ b ∧ b < w'.heap.size) (g ++ [c]) v' := by
  obtain ⟨blk, hb, hkr⟩ := stki_krow hk hm2
  refine (h.step hc hkr (fun h2 => by have := h2.2; omega) xs hx hown hg).next (fun k hk hz => ?_) (fun _ _ _ => rfl) (fun _ _ _ => rfl)
  rcases hk with hk | hk
  · exact ⟨hk.1, hz⟩
  · exact ⟨by omega, hz⟩
theorem OwnC.inn {w : World} {lo : Nat} {S : Nat → Prop} {g : List Ce} {v : Value} (h : OwnC w lo S g v) (hS : ∀ k, S k → k < w.heap.size → lo ≤ k) : CIn w g v := (h.own hS).inn
/-- what the row of cells' block is -/
theorem OwnC.keepB {w w' : World} {lo : Nat} {g : List Ce} {v : Value} (h : OwnC w lo (fun b => lo ≤ b ∧ b < w.heap.size) g v) (hb : Below w.heap.size w w') : OwnC w' lo (fun b => lo ≤ b ∧ b < w.heap.size) g v :=
  h.next (fun _ h _ => h) (fun k _ hk => hb.block k hk) (fun k _ hk => hb.block k hk)
/-- no cells yet, in a new block -/
theorem OwnC.zeroB (w : World) : OwnC (w.alloc (.cells #[] 40)) w.heap.size (fun b => w.heap.size ≤ b ∧ b < (w.alloc (.cells #[] 40)).heap.size) [] (.slice (some ⟨w.heap.size, 0, none⟩) 0 0) :=
  ⟨fun i h => absurd h (by simp), [], fun _ => 0, ⟨rfl, Or.inr ⟨w.heap.size, 0, _, rfl, Nat.le_refl _, Deep.blk_alloc_new _ _, Nat.le_refl _, by simp [maxLen], rfl, rfl⟩⟩, fun j hj => absurd hj (by simp), fun i j hi _ => absurd hi (by simp)⟩
end Go.Proofs.Ytiipcgnkfhjpeaa
/-
  PLAIN: the cells of an expression, added to a graph. No program is named here.
-/
namespace Go.Proofs.Ytiipcgnkfhjpeaa
set_option linter.unusedVariables false
set_option linter.unusedSimpArgs false

end Go.Proofs.Ytiipcgnkfhjpeaa
/-
  MAPS KEYED BY ADDRESSES (pointers, or structs of them): what a look-up finds and what a store leaves, the map seen as a function from keys to values.
-/
namespace Go.Proofs.Ytiipcgnkfhjpeaa
set_option linter.unusedVariables false
set_option linter.unusedSimpArgs false
open Go.RowKit Go.MapKept

section
variable {κ : Type} [DecidableEq κ]

/-- where a key stands in a list, and its value -/
def pfind (c : κ) : List (κ × Value) → Nat → Option (Nat × Value)
  | [], _ => none
  | x :: xs, i => if c = x.1 then some (i, x.2) else pfind c xs (i + 1)

/-- block b is a map, its keys of K, seen as the function M -/
def PMap (emb : κ → Value) (w : World) (b : Nat) (K : κ → Prop) (M : κ → Option Value) : Prop :=
  ∃ es clock L, w.heap[b]? = some (.map es clock) ∧ es.toList.map (fun e => (e.key, e.val)) = L.map (fun x : κ × Value => (emb x.1, x.2)) ∧ (∀ x ∈ L, K x.1) ∧ ∀ c, M c = (pfind c L 0).map (·.2)

/-- a function changed at one place -/
def pput (M : κ → Option Value) (a : κ) (v : Value) : κ → Option Value := fun c => if c = a then some v else M c
@[simp] theorem pput_same (M : κ → Option Value) (a : κ) (v : Value) : pput M a v a = some v := by simp [pput]
theorem pput_other (M : κ → Option Value) {a c : κ} (v : Value) (h : c ≠ a) : pput M a v c = M c := by simp [pput, h]

variable {P : Program} {kt et mt : TypeId} {emb : κ → Value} {ok : World → κ → Prop} {w : World} {b : Nat} {K : κ → Prop} {M : κ → Option Value}

theorem PMap.keep {w' : World} (h : PMap emb w b K M) (hb : w'.heap[b]? = w.heap[b]?) : PMap emb w' b K M := by
  obtain ⟨es, clock, L, h1, h2⟩ := h
  exact ⟨es, clock, L, hb.trans h1, h2⟩
theorem PMap.lt (h : PMap emb w b K M) : b < w.heap.size := by
  obtain ⟨es, clock, L, h1, h2⟩ := h
  exact (Array.getElem?_eq_some_iff.1 h1).1
end

/-! ### The operations, for the walk -/
section
variable {κ : Type} [DecidableEq κ] {P : Program} {emb : κ → Value} {ok : World → κ → Prop}
end

end Go.Proofs.Ytiipcgnkfhjpeaa
/-
  AN ADDRESS HOLDS ONE TREE; blocks of plain cells; trees that lie in such blocks; the way down nested applications.
-/
namespace Go.Proofs.Ytiipcgnkfhjpeaa
set_option linter.unusedVariables false
set_option linter.unusedSimpArgs false
open Go.RowKit

mutual
theorem TrOn.uniq {w : World} {S S' : Nat → Prop} : ∀ (t t' : Tr) (a b c : Value), TrOn w S t a b c → TrOn w S' t' a b c → t = t'
  | .node o n ks, .node o' n' ks', a, b, c, h, h' => by
    simp only [TrOn] at h h'
    obtain ⟨rfl, rfl, -, -, ad, cap, rfl, -, -, h⟩ := h
    obtain ⟨e1, e2, -, -, ad', cap', e3, -, -, h'⟩ := h'
    simp only [Value.int.injEq, true_and] at e1 e2
    simp only [Value.slice.injEq] at e3
    obtain ⟨rfl, hl, rfl⟩ := e3
    subst e1
    subst e2
    congr 1
    rcases h with rfl | ⟨bl, off, rfl, -, hr⟩
    · exact (List.eq_nil_of_length_eq_zero (by simpa using hl.symm)).symm
    · rcases h' with rfl | ⟨bl', off', e, -, hr'⟩
      · exact List.eq_nil_of_length_eq_zero (by simpa using hl)
      · simp only [Option.some.injEq, Addr.mk.injEq] at e
        obtain ⟨rfl, rfl, -⟩ := e
        exact RowOn.uniq bl off ks ks' hl hr hr'
theorem RowOn.uniq {w : World} {S S' : Nat → Prop} (bl off : Nat) : ∀ (ks ks' : List Tr), ks.length = ks'.length → RowOn w S bl off ks → RowOn w S' bl off ks' → ks = ks'
  | [], [], _, _, _ => rfl
  | [], _ :: _, hl, _, _ => by simp at hl
  | _ :: _, [], hl, _, _ => by simp at hl
  | t :: ts, t' :: ts', hl, h, h' => by
    simp only [RowOn] at h h'
    obtain ⟨⟨a, b, c, ha, hb, hc, ht⟩, hr⟩ := h
    obtain ⟨⟨a', b', c', ha', hb', hc', ht'⟩, hr'⟩ := h'
    rw [ha] at ha'
    rw [hb] at hb'
    rw [hc] at hc'
    cases ha'
    cases hb'
    cases hc'
    rw [TrOn.uniq t t' a b c ht ht', RowOn.uniq bl (off + 3) ts ts' (by simpa using hl) hr hr']
end

/-- plain blocks of cells -/
def Pl (w : World) : Nat → Prop := fun k => k < w.heap.size ∧ ∃ C T, w.heap[k]? = some (.cells C T (0, 0))
theorem Pl.next {w w' : World} (hb : Below w.heap.size w w') {k : Nat} (h : Pl w k) : Pl w' k :=
  ⟨Nat.lt_of_lt_of_le h.1 hb.size, by obtain ⟨C, T, e⟩ := h.2; exact ⟨C, T, (hb.block k h.1).trans e⟩⟩
/-- a tree that lies at an address -/
def LiesAt (w : World) (S : Nat → Prop) (a : Addr) (t : Tr) : Prop :=
  ∃ bl off x y z, a = ⟨bl, off, none⟩ ∧ S bl ∧ w.cell? ⟨bl, off, none⟩ = some x ∧ w.cell? ⟨bl, off + 1, none⟩ = some y ∧ w.cell? ⟨bl, off + 2, none⟩ = some z ∧ TrOn w S t x y z
theorem LiesAt.uniq {w : World} {S S' : Nat → Prop} {a : Addr} {t t' : Tr} (h : LiesAt w S a t) (h' : LiesAt w S' a t') : t = t' := by
  obtain ⟨bl, off, x, y, z, rfl, -, hx, hy, hz, ht⟩ := h
  obtain ⟨bl', off', x', y', z', e, -, hx', hy', hz', ht'⟩ := h'
  simp only [Addr.mk.injEq] at e
  obtain ⟨rfl, rfl, -⟩ := e
  rw [hx] at hx'
  rw [hy] at hy'
  rw [hz] at hz'
  cases hx'
  cases hy'
  cases hz'
  exact TrOn.uniq t t' x y z ht ht'
/-- element i of a row, as a node -/
theorem RowOn.liesAt {w : World} {S : Nat → Prop} {bl off i : Nat} {ks : List Tr} (hi : i < ks.length) (hS : S bl) (h : RowOn w S bl off ks) : LiesAt w S ⟨bl, off + i * 3, none⟩ ks[i] := by
  obtain ⟨a, b, c, ha, hb, hc, ht⟩ := RowOn.at ks off i hi h
  exact ⟨bl, off + i * 3, a, b, c, rfl, hS, ha, hb, hc, ht⟩

/-- an argument with its three cells -/
abbrev Cd := Tr × Value × Value × Value
/-- the way down nested applications, from a tree and its operands' slice: where it stands, and the arguments met, in order -/
inductive Unw (w : World) (a : Tr) (c : Value) : Tr → Value → List Cd → Prop
  | here : Unw w a c a c []
  | down {t f x : Tr} {ct cf u v r : Value} {l : List Cd} {bl off cap : Nat} : Unw w a c t ct l → t.op = 4 → t.kids = [f, x] → ct = .slice (some ⟨bl, off, none⟩) 2 cap →
      w.cell? ⟨bl, off + 2, none⟩ = some cf → w.cell? ⟨bl, off + 3, none⟩ = some u → w.cell? ⟨bl, off + 4, none⟩ = some v → w.cell? ⟨bl, off + 5, none⟩ = some r → Unw w a c f cf (l ++ [(x, u, v, r)])

/-- two operands, in their cells -/
theorem KidsOn.two {w : World} {S : Nat → Prop} {f x : Tr} {c : Value} (h : KidsOn w S [f, x] c) : ∃ bl off cap a b cf u v r, c = .slice (some ⟨bl, off, none⟩) 2 cap ∧ 2 ≤ cap ∧ cap ≤ maxLen ∧ S bl ∧ RowOn w S bl off [f, x] ∧
    w.cell? ⟨bl, off, none⟩ = some a ∧ w.cell? ⟨bl, off + 1, none⟩ = some b ∧ w.cell? ⟨bl, off + 2, none⟩ = some cf ∧ TrOn w S f a b cf ∧
    w.cell? ⟨bl, off + 3, none⟩ = some u ∧ w.cell? ⟨bl, off + 4, none⟩ = some v ∧ w.cell? ⟨bl, off + 5, none⟩ = some r ∧ TrOn w S x u v r := by
  obtain ⟨ad, cap, rfl, l1, l2, h⟩ := h
  rcases h with h | ⟨bl, off, rfl, hs, hr⟩
  · simp at h
  obtain ⟨a, b, cf, h0, h1, h2, h3⟩ := RowOn.at _ off 0 (by simp) hr
  obtain ⟨u, v, r, g0, g1, g2, g3⟩ := RowOn.at _ off 1 (by simp) hr
  simp only [Nat.zero_mul, Nat.add_zero, Nat.one_mul, List.getElem_cons_zero, List.getElem_cons_succ, Nat.add_assoc] at h0 h1 h2 h3 g0 g1 g2 g3
  exact ⟨bl, off, cap, a, b, cf, u, v, r, rfl, l1, l2, hs, hr, h0, h1, h2, h3, g0, g1, g2, g3⟩

theorem Unw.on {w : World} {S : Nat → Prop} {a t : Tr} {c ct : Value} {l : List Cd} (h : Unw w a c t ct l) (hc : KidsOn w S a.kids c) (ha : I64 a.op ∧ I64 a.num) :
    KidsOn w S t.kids ct ∧ I64 t.op ∧ I64 t.num ∧ (∀ d ∈ l, TrOn w S d.1 d.2.1 d.2.2.1 d.2.2.2) ∧ szT t + l.length ≤ szT a := by
  induction h with
  | here => exact ⟨hc, ha.1, ha.2, by simp, by simp⟩
  | @down t f x ct cf u v r l bl off cap h ho hk hct hcf hu hv hr ih =>
    obtain ⟨i1, i2, i3, i4, i5⟩ := ih
    rw [hk] at i1
    obtain ⟨bl', off', cap', p, q, cf', u', v', r', e, -, -, -, -, h0, h1, h2, h3, g0, g1, g2, g3⟩ := i1.two
    rw [hct] at e
    simp only [Value.slice.injEq, Option.some.injEq, Addr.mk.injEq] at e
    obtain ⟨⟨rfl, rfl, -⟩, -, rfl⟩ := e
    rw [hcf] at h2
    rw [hu] at g0
    rw [hv] at g1
    rw [hr] at g2
    cases h2
    cases g0
    cases g1
    cases g2
    have h4 := trOn_iff.1 h3
    refine ⟨h4.2.2.2.2, h4.2.2.1, h4.2.2.2.1, fun d hd => ?_, ?_⟩
    · simp only [List.mem_append, List.mem_singleton] at hd
      rcases hd with hd | rfl
      · exact i4 d hd
      · exact g3
    · have e1 : szT t = szL [f, x] := by rw [szT_eq, hk]
      simp only [szL, List.length_append, List.length_cons, List.length_nil] at e1 ⊢
      omega
end Go.Proofs.Ytiipcgnkfhjpeaa
/-
  PAIRS OF PLACES: what a list of pairs still to be compared, and the pairs seen, say of two trees. No program is named here.
-/
namespace Go.Proofs.Ytiipcgnkfhjpeaa
set_option linter.unusedVariables false
set_option linter.unusedSimpArgs false
open Go.RowKit

/-- the place of operand i of the tree at a place -/
def KidAt (w : World) (x : Addr) (i : Nat) (z : Addr) : Prop :=
  ∃ bl off kb ko n cap, x = ⟨bl, off, none⟩ ∧ w.cell? ⟨bl, off + 2, none⟩ = some (.slice (some ⟨kb, ko, none⟩) n cap) ∧ z = ⟨kb, ko + i * 3, none⟩
theorem KidAt.uniq {w : World} {x z z' : Addr} {i : Nat} (h : KidAt w x i z) (h' : KidAt w x i z') : z = z' := by
  obtain ⟨bl, off, kb, ko, n, cap, rfl, hc, rfl⟩ := h
  obtain ⟨bl', off', kb', ko', n', cap', e, hc', rfl⟩ := h'
  simp only [Addr.mk.injEq] at e
  obtain ⟨rfl, rfl, -⟩ := e
  rw [hc] at hc'
  simp only [Option.some.injEq, Value.slice.injEq, Addr.mk.injEq] at hc'
  obtain ⟨⟨rfl, rfl, -⟩, -⟩ := hc'
  rfl
theorem LiesAt.kid {w : World} {S : Nat → Prop} {x : Addr} {s : Tr} (h : LiesAt w S x s) (i : Nat) (hi : i < s.kids.length) : ∃ z, KidAt w x i z ∧ LiesAt w S z s.kids[i] := by
  obtain ⟨bl, off, a, b, c, rfl, hs, h0, h1, h2, ht⟩ := h
  obtain ⟨-, -, -, -, ad, cap, rfl, -, -, hr⟩ := trOn_iff.1 ht
  rcases hr with hr | ⟨kb, ko, rfl, hk, hr⟩
  · rw [hr] at hi; simp at hi
  · exact ⟨_, ⟨bl, off, kb, ko, _, _, rfl, h2, rfl⟩, RowOn.liesAt hi hk hr⟩
/-- two places and their trees -/
structure Wk where
  x : Addr
  y : Addr
  s : Tr
  t : Tr
def Wk.key (e : Wk) : Addr × Addr := (e.x, e.y)
def WkOk (w : World) (S : Nat → Prop) (Q : Prop) (e : Wk) : Prop := LiesAt w S e.x e.s ∧ LiesAt w S e.y e.t ∧ (Q → e.s = e.t)
abbrev Mp := Addr × Addr → Option Value
/-- the first operands of both are at one place, or have been seen -/
def KidsSeen (w : World) (M : Mp) (k : Addr × Addr) (m : Nat) : Prop := ∀ i, i < m → ∀ z z', KidAt w k.1 i z → KidAt w k.2 i z' → z = z' ∨ (M (z, z')).isSome = true
def Done (w : World) (S : Nat → Prop) (M : Mp) (k : Addr × Addr) : Prop := ∀ s t, LiesAt w S k.1 s → LiesAt w S k.2 t → s.op = t.op ∧ s.num = t.num ∧ s.kids.length = t.kids.length ∧ KidsSeen w M k s.kids.length
def Seen (root : Addr × Addr) (M : Mp) (k : Addr × Addr) : Prop := k = root ∨ (M k).isSome = true
def Inv (w : World) (S : Nat → Prop) (root : Addr × Addr) (M : Mp) (l : List Wk) (cur : Option (Addr × Addr)) : Prop :=
  ∀ k, Seen root M k → cur = some k ∨ (∃ e ∈ l, e.key = k) ∨ Done w S M k

theorem pput_some {κ : Type} [DecidableEq κ] {M : κ → Option Value} {a : κ} {v : Value} {k : κ} (h : (M k).isSome = true) : (pput M a v k).isSome = true := by
  unfold pput; split <;> simp_all
theorem KidsSeen.put {w : World} {M : Mp} {k a : Addr × Addr} {m : Nat} {v : Value} (h : KidsSeen w M k m) : KidsSeen w (pput M a v) k m :=
  fun i hi z z' hz hz' => (h i hi z z' hz hz').imp id pput_some
theorem Done.put {w : World} {S : Nat → Prop} {M : Mp} {k a : Addr × Addr} {v : Value} (h : Done w S M k) : Done w S (pput M a v) k :=
  fun s t hs ht => by
    obtain ⟨h1, h2, h3, h4⟩ := h s t hs ht
    exact ⟨h1, h2, h3, h4.put⟩

theorem Inv.start (w : World) (S : Nat → Prop) (e : Wk) : Inv w S e.key (fun _ => none) [e] none := by
  intro k hk
  rcases hk with rfl | hk
  · exact Or.inr (Or.inl ⟨e, by simp, rfl⟩)
  · simp at hk
theorem Inv.push {w : World} {S : Nat → Prop} {root : Addr × Addr} {M : Mp} {l : List Wk} {cur : Option (Addr × Addr)} (h : Inv w S root M l cur) (e : Wk) (v : Value) : Inv w S root (pput M e.key v) (l ++ [e]) cur := by
  intro k hk
  by_cases hke : k = e.key
  · exact Or.inr (Or.inl ⟨e, by simp, hke.symm⟩)
  · have hk' : Seen root M k := by
      rcases hk with hk | hk
      · exact Or.inl hk
      · rw [pput_other _ _ hke] at hk; exact Or.inr hk
    rcases h k hk' with h | ⟨d, hd, hdk⟩ | h
    · exact Or.inl h
    · exact Or.inr (Or.inl ⟨d, by simp [hd], hdk⟩)
    · exact Or.inr (Or.inr h.put)
theorem KidsSeen.zero (w : World) (M : Mp) (k : Addr × Addr) : KidsSeen w M k 0 := fun i hi => absurd hi (by omega)
theorem KidsSeen.succ {w : World} {M : Mp} {k : Addr × Addr} {m : Nat} {z z' : Addr} (h : KidsSeen w M k m) (hz : KidAt w k.1 m z) (hz' : KidAt w k.2 m z') (hs : z = z' ∨ (M (z, z')).isSome = true) : KidsSeen w M k (m + 1) := by
  intro i hi y y' hy hy'
  by_cases e : i = m
  · subst e
    rw [hy.uniq hz, hy'.uniq hz']
    exact hs
  · exact h i (by omega) y y' hy hy'
theorem Done.of {w : World} {S : Nat → Prop} {M : Mp} {e : Wk} {Q : Prop} (he : WkOk w S Q e) (h1 : e.s.op = e.t.op) (h2 : e.s.num = e.t.num) (h3 : e.s.kids.length = e.t.kids.length) (h4 : KidsSeen w M e.key e.s.kids.length) : Done w S M e.key := by
  intro s t hs ht
  rw [LiesAt.uniq hs he.1, LiesAt.uniq ht he.2.1]
  exact ⟨h1, h2, h3, h4⟩

end Go.Proofs.Ytiipcgnkfhjpeaa
/-
  COUNTING NODES: a path of nodes that are being counted, and the counts that are known; what they say of a tree. No program is named here.
-/
namespace Go.Proofs.Ytiipcgnkfhjpeaa
set_option linter.unusedVariables false
set_option linter.unusedSimpArgs false
open Go.RowKit

mutual
/-- how many nodes of a tree are wanted -/
def cntT (p : Tr → Bool) : Tr → Nat
  | .node o n ks => (if p (.node o n ks) then 1 else 0) + cntL p ks
/-- .. of a list of trees -/
def cntL (p : Tr → Bool) : List Tr → Nat
  | [] => 0
  | t :: ts => cntT p t + cntL p ts
end
/-- a node that is being counted: where, its tree, the operands counted, the sum so far -/
structure Fr where
  x : Addr
  t : Tr
  nx : Nat
  sm : Nat
abbrev Mc := Addr → Option Value
/-- the place of operand i, as a function -/
def kidAddr (w : World) (x : Addr) (i : Nat) : Addr :=
  match w.cell? ⟨x.block, x.off + 2, none⟩ with
  | some (.slice (some a) _ _) => ⟨a.block, a.off + i * 3, none⟩
  | _ => x
theorem KidAt.addr {w : World} {x z : Addr} {i : Nat} (h : KidAt w x i z) : kidAddr w x i = z := by
  obtain ⟨bl, off, kb, ko, n, cap, rfl, hc, rfl⟩ := h
  simp [kidAddr, hc]
def FrOk (w : World) (S : Nat → Prop) (p : Tr → Bool) (f : Fr) : Prop :=
  LiesAt w S f.x f.t ∧ f.nx ≤ f.t.kids.length ∧ f.sm = (if p f.t then 1 else 0) + cntL p (f.t.kids.take f.nx)
/-- the nodes lie in one another, the last one innermost -/
def Nest : List Fr → Prop
  | [] => True
  | f :: fs => (∀ g ∈ fs, szT g.t < szT f.t) ∧ Nest fs
theorem Nest.snoc : ∀ {l : List Fr} {f : Fr}, Nest l → (∀ g ∈ l, szT f.t < szT g.t) → Nest (l ++ [f])
  | [], f, _, _ => by simp [Nest]
  | g :: l, f, h, hf => by
    simp only [List.cons_append, Nest] at h ⊢
    refine ⟨fun d hd => ?_, Nest.snoc h.2 fun d hd => hf d (by simp [hd])⟩
    rw [List.mem_append] at hd
    rcases hd with hd | hd
    · exact h.1 d hd
    · rw [List.mem_singleton] at hd; subst hd; exact hf g (by simp)
theorem Nest.init : ∀ {l : List Fr} {f : Fr}, Nest (l ++ [f]) → Nest l ∧ ∀ g ∈ l, szT f.t < szT g.t
  | [], f, _ => by simp [Nest]
  | g :: l, f, h => by
    simp only [List.cons_append, Nest] at h ⊢
    obtain ⟨h1, h2⟩ := Nest.init h.2
    refine ⟨⟨fun d hd => h.1 d (by simp [hd]), h1⟩, fun d hd => ?_⟩
    rw [List.mem_cons] at hd
    rcases hd with rfl | hd
    · exact h.1 f (by simp)
    · exact h2 d hd
/-- what is known: a count, or that the node is on the path -/
def Known (w : World) (S : Nat → Prop) (p : Tr → Bool) (l : List Fr) (k : Addr) (v : Value) : Prop :=
  ∃ t, LiesAt w S k t ∧ (v = .int .i64 (cntT p t) ∨ (v = .int .i64 (-1) ∧ ∃ f ∈ l, f.x = k))
def TInv (w : World) (S : Nat → Prop) (p : Tr → Bool) (M : Mc) (l : List Fr) : Prop :=
  (∀ f ∈ l, FrOk w S p f) ∧ Nest l ∧ ∀ k v, M k = some v → Known w S p l k v

/-- what is still to be done -/
def wtOf (M : Mc) (k : Addr) (t : Tr) : Nat := if (M k).isSome then 1 else 3 * (1 + szT t)
def remL (w : World) (M : Mc) (x : Addr) : Nat → List Tr → Nat
  | _, [] => 0
  | i, k :: ks => wtOf M (kidAddr w x i) k + remL w M x (i + 1) ks
def remF (w : World) (M : Mc) (f : Fr) : Nat := remL w M f.x f.nx (f.t.kids.drop f.nx)
def remP (w : World) (M : Mc) (l : List Fr) : Nat := (l.map (remF w M)).sum + l.length
theorem wtOf_put (M : Mc) (a k : Addr) (v : Value) (t : Tr) : wtOf (pput M a v) k t ≤ wtOf M k t := by
  unfold wtOf
  by_cases h : (M k).isSome = true
  · rw [if_pos h, if_pos (pput_some h)]; exact Nat.le_refl _
  · rw [if_neg h]; split <;> omega
theorem remL_put (w : World) (M : Mc) (a x : Addr) (v : Value) : ∀ (l : List Tr) (i : Nat), remL w (pput M a v) x i l ≤ remL w M x i l
  | [], _ => by simp [remL]
  | k :: ks, i => by
    have := remL_put w M a x v ks (i + 1)
    have := wtOf_put M a (kidAddr w x i) v k
    simp only [remL]
    omega
theorem remP_put (w : World) (M : Mc) (a : Addr) (v : Value) : ∀ (l : List Fr), (l.map (remF w (pput M a v))).sum ≤ (l.map (remF w M)).sum
  | [] => by simp
  | f :: l => by
    have := remP_put w M a v l
    have := remL_put w M a f.x v (f.t.kids.drop f.nx) f.nx
    simp only [List.map_cons, List.sum_cons, remF] at this ⊢
    omega
theorem remL_le (w : World) (M : Mc) (x : Addr) : ∀ (l : List Tr) (i : Nat), remL w M x i l ≤ 3 * szL l
  | [], _ => by simp [remL, szL]
  | k :: ks, i => by
    have := remL_le w M x ks (i + 1)
    have : wtOf M (kidAddr w x i) k ≤ 3 * (1 + szT k) := by unfold wtOf; split <;> omega
    simp only [remL, szL]
    omega
theorem remF_at (w : World) (M : Mc) (f : Fr) (h : f.nx < f.t.kids.length) : remF w M f = wtOf M (kidAddr w f.x f.nx) f.t.kids[f.nx] + remL w M f.x (f.nx + 1) (f.t.kids.drop (f.nx + 1)) := by
  unfold remF
  rw [List.drop_eq_getElem_cons h]
  rfl
theorem remP_snoc (w : World) (M : Mc) (l : List Fr) (f : Fr) : remP w M (l ++ [f]) = (l.map (remF w M)).sum + l.length + (remF w M f + 1) := by
  simp [remP]; omega

/-- an operand that is new: it goes onto the path -/
theorem TInv.push {w : World} {S : Nat → Prop} {p : Tr → Bool} {M : Mc} {l : List Fr} {f : Fr} (h : TInv w S p M (l ++ [f])) (hf : f.nx < f.t.kids.length) (hv : M (kidAddr w f.x f.nx) = none) :
    TInv w S p (pput M (kidAddr w f.x f.nx) (.int .i64 (-1))) (l ++ [f] ++ [⟨kidAddr w f.x f.nx, f.t.kids[f.nx], 0, if p f.t.kids[f.nx] then 1 else 0⟩]) ∧
      remP w (pput M (kidAddr w f.x f.nx) (.int .i64 (-1))) (l ++ [f] ++ [⟨kidAddr w f.x f.nx, f.t.kids[f.nx], 0, if p f.t.kids[f.nx] then 1 else 0⟩]) < remP w M (l ++ [f]) := by
  obtain ⟨h1, h2, h3⟩ := h
  obtain ⟨f1, f2, f3⟩ := h1 f (by simp)
  obtain ⟨n1, n2⟩ := h2.init
  obtain ⟨z, hz, hl⟩ := f1.kid f.nx hf
  have hza := hz.addr
  have hlt := szT_lt_szL f.t.kids f.nx hf
  rw [← szT_eq] at hlt
  refine ⟨⟨fun g hg => ?_, ?_, fun k u hk => ?_⟩, ?_⟩
  · rw [List.mem_append] at hg
    rcases hg with hg | hg
    · exact h1 g hg
    · rw [List.mem_singleton] at hg
      subst hg
      exact ⟨by rw [hza]; exact hl, Nat.zero_le _, by simp [cntL]⟩
  · refine Nest.snoc h2 fun g hg => ?_
    rw [List.mem_append] at hg
    rcases hg with hg | hg
    · have := n2 g hg
      show szT f.t.kids[f.nx] < _
      omega
    · rw [List.mem_singleton] at hg; subst hg; exact hlt
  · by_cases e : k = kidAddr w f.x f.nx
    · subst e
      rw [pput_same] at hk
      cases hk
      exact ⟨_, by rw [hza]; exact hl, Or.inr ⟨rfl, _, List.mem_append_right _ (List.mem_singleton.2 rfl), rfl⟩⟩
    · rw [pput_other _ _ e] at hk
      obtain ⟨t, ht, hv'⟩ := h3 k u hk
      exact ⟨t, ht, hv'.imp id fun ⟨e1, g, hg, hgx⟩ => ⟨e1, g, List.mem_append_left _ hg, hgx⟩⟩
  · rw [remP_snoc, remP_snoc, List.map_append, List.sum_append]
    have a1 := remP_put w M (kidAddr w f.x f.nx) (.int .i64 (-1)) l
    have a2 := remF_at w M f hf
    have a3 := remF_at w (pput M (kidAddr w f.x f.nx) (.int .i64 (-1))) f hf
    have a4 := remL_put w M (kidAddr w f.x f.nx) f.x (.int .i64 (-1)) (f.t.kids.drop (f.nx + 1)) (f.nx + 1)
    have b1 : wtOf M (kidAddr w f.x f.nx) f.t.kids[f.nx] = 3 * (1 + szT f.t.kids[f.nx]) := by unfold wtOf; rw [hv]; simp
    have b2 : wtOf (pput M (kidAddr w f.x f.nx) (.int .i64 (-1))) (kidAddr w f.x f.nx) f.t.kids[f.nx] = 1 := by unfold wtOf; rw [pput_same]; rfl
    have a5 : remF w (pput M (kidAddr w f.x f.nx) (.int .i64 (-1))) ⟨kidAddr w f.x f.nx, f.t.kids[f.nx], 0, if p f.t.kids[f.nx] then 1 else 0⟩ ≤ 3 * szT f.t.kids[f.nx] := by
      have := remL_le w (pput M (kidAddr w f.x f.nx) (.int .i64 (-1))) (kidAddr w f.x f.nx) (f.t.kids[f.nx]).kids 0
      rw [← szT_eq] at this
      simpa [remF] using this
    rw [b1] at a2
    rw [b2] at a3
    simp only [List.map_cons, List.map_nil, List.sum_cons, List.sum_nil, List.length_append, List.length_cons, List.length_nil]
    omega
theorem TInv.start {w : World} {S : Nat → Prop} {x : Addr} {t : Tr} (h : LiesAt w S x t) (p : Tr → Bool) : TInv w S p (fun _ => none) [⟨x, t, 0, if p t then 1 else 0⟩] := by
  refine ⟨fun f hf => ?_, by simp [Nest], fun k v hk => by simp at hk⟩
  rw [List.mem_singleton] at hf
  subst hf
  exact ⟨h, Nat.zero_le _, by simp [cntL]⟩
/-- how long the path is, how great a sum -/
theorem Nest.len : ∀ {l : List Fr} {n : Nat}, Nest l → (∀ f ∈ l, szT f.t < n) → l.length ≤ n
  | [], n, _, _ => by simp
  | f :: l, n, h, hb => by
    have h1 := hb f (by simp)
    have := Nest.len h.2 h.1
    simp only [List.length_cons]
    omega
/-- the first node -/
def HeadIs (a : Tr) (l : List Fr) : Prop := ∃ g r, l = g :: r ∧ g.t = a
theorem HeadIs.snoc {a : Tr} {l : List Fr} (h : HeadIs a l) (f : Fr) : HeadIs a (l ++ [f]) := by
  obtain ⟨g, r, rfl, h⟩ := h
  exact ⟨g, r ++ [f], by simp, h⟩
theorem HeadIs.init {a : Tr} {l : List Fr} {f : Fr} (h : HeadIs a (l ++ [f])) (hl : l ≠ []) : HeadIs a l := by
  obtain ⟨g, r, e, h⟩ := h
  cases l with
  | nil => exact absurd rfl hl
  | cons d l =>
    simp only [List.cons_append, List.cons.injEq] at e
    exact ⟨d, l, rfl, by rw [e.1]; exact h⟩
end Go.Proofs.Ytiipcgnkfhjpeaa
/-
  REPLACING VARIABLES, plainly: the tree, its size, its variables. No program is named here.
-/
namespace Go.Proofs.Ytiipcgnkfhjpeaa
set_option linter.unusedVariables false
set_option linter.unusedSimpArgs false
open Go.RowKit

mutual
def AllT (P : Tr → Prop) : Tr → Prop
  | .node o n ks => P (.node o n ks) ∧ AllL P ks
def AllL (P : Tr → Prop) : List Tr → Prop
  | [] => True
  | t :: ts => AllT P t ∧ AllL P ts
end
theorem allT_iff (P : Tr → Prop) (t : Tr) : AllT P t ↔ P t ∧ AllL P t.kids := by cases t; simp [AllT]
theorem allL_iff (P : Tr → Prop) : ∀ l : List Tr, AllL P l ↔ ∀ t ∈ l, AllT P t
  | [] => by simp [AllL]
  | t :: ts => by simp [AllL, allL_iff P ts]
theorem AllT.kid {P : Tr → Prop} {t : Tr} (h : AllT P t) (i : Nat) (hi : i < t.kids.length) : AllT P t.kids[i] := (allL_iff P _).1 ((allT_iff P t).1 h).2 _ (List.getElem_mem hi)
end Go.Proofs.Ytiipcgnkfhjpeaa
/-
  WHAT AddExpr AND BuildGraph HAND BACK.
-/
namespace Go.Proofs.Ytiipcgnkfhjpeaa
set_option linter.unusedVariables false
set_option linter.unusedSimpArgs false
open Go.RowKit

theorem OwnC.zero {w : World} {lo b : Nat} {S : Nat → Prop} (h : w.heap[b]? = some (.cells #[] 40)) (hb : lo ≤ b) : OwnC w lo S [] (.slice (some ⟨b, 0, none⟩) 0 0) :=
  ⟨fun i h => absurd h (by simp), [], fun _ => 0, ⟨rfl, Or.inr ⟨b, 0, #[], rfl, hb, h, Nat.le_refl _, by simp [maxLen], rfl, rfl⟩⟩, fun j hj => absurd hj (by simp), fun i j hi _ => absurd hi (by simp)⟩
end Go.Proofs.Ytiipcgnkfhjpeaa
/-
  ELEMENTS OF ROWS OUT OF A SET OF BLOCKS.
-/
namespace Go.Proofs.Ytiipcgnkfhjpeaa
set_option linter.unusedVariables false
set_option linter.unusedSimpArgs false
open Go.RowKit

end Go.Proofs.Ytiipcgnkfhjpeaa
/-
  THE LAWS' OWN COPY OF AN ARGUMENT (toExpr, toExprS): the same trees, in new memory; nothing that was there is changed.
-/
namespace Go.Proofs.Ytiipcgnkfhjpeaa
set_option linter.unusedVariables false
set_option linter.unusedSimpArgs false
open Go.RowKit

/-- blocks from lo on, below hi -/
def Btw (lo hi : Nat) : Nat → Prop := fun k => lo ≤ k ∧ k < hi
end Go.Proofs.Ytiipcgnkfhjpeaa
/-
  TREES WHOSE BLOCKS ARE ALL DISTINCT: a footprint, the list of the blocks of a tree's rows; what a write into them leaves.
-/
namespace Go.Proofs.Ytiipcgnkfhjpeaa
set_option linter.unusedVariables false
set_option linter.unusedSimpArgs false
open Go.RowKit

mutual
/-- the three cells of a tree, its rows in the blocks fp -/
def TrFp (w : World) (T : TypeId) : Tr → List Nat → Value → Value → Value → Prop
  | .node op n ks, fp, a, b, c => a = .int .i64 op ∧ b = .int .i64 n ∧ I64 op ∧ I64 n ∧
      ∃ ad cap, c = .slice ad ks.length cap ∧ ks.length ≤ cap ∧ cap ≤ maxLen ∧
        ((ks = [] ∧ fp = []) ∨ ∃ bl off C fps, ad = some ⟨bl, off, none⟩ ∧ w.heap[bl]? = some (.cells C T) ∧ fp = bl :: fps.flatten ∧ RowFp w T bl off ks fps)
/-- the trees of a row, each with its own blocks -/
def RowFp (w : World) (T : TypeId) (bl off : Nat) : List Tr → List (List Nat) → Prop
  | [], fps => fps = []
  | t :: ts, fps => ∃ f fs, fps = f :: fs ∧ (∃ a b c, w.cell? ⟨bl, off, none⟩ = some a ∧ w.cell? ⟨bl, off + 1, none⟩ = some b ∧ w.cell? ⟨bl, off + 2, none⟩ = some c ∧ TrFp w T t f a b c) ∧ RowFp w T bl (off + 3) ts fs
end

/-- a slice value that holds these trees, in the blocks fp -/
def KidsFp (w : World) (T : TypeId) (ks : List Tr) (fp : List Nat) (c : Value) : Prop :=
  ∃ ad cap, c = .slice ad ks.length cap ∧ ks.length ≤ cap ∧ cap ≤ maxLen ∧
    ((ks = [] ∧ fp = []) ∨ ∃ bl off C fps, ad = some ⟨bl, off, none⟩ ∧ w.heap[bl]? = some (.cells C T) ∧ fp = bl :: fps.flatten ∧ RowFp w T bl off ks fps)

mutual
theorem TrFp.keep {w w' : World} {T : TypeId} : ∀ (t : Tr) (fp : List Nat) (a b c : Value), (∀ k ∈ fp, w'.heap[k]? = w.heap[k]?) → TrFp w T t fp a b c → TrFp w' T t fp a b c
  | .node op n ks, fp, a, b, c, hw, h => by
    simp only [TrFp] at h ⊢
    obtain ⟨h1, h2, h3, h4, ad, cap, e, l1, l2, h5⟩ := h
    refine ⟨h1, h2, h3, h4, ad, cap, e, l1, l2, ?_⟩
    rcases h5 with h5 | ⟨bl, off, C, fps, e, hb, rfl, r⟩
    · exact Or.inl h5
    · exact Or.inr ⟨bl, off, C, fps, e, (hw bl (by simp)).trans hb, rfl, RowFp.keep bl off ks fps (hw bl (by simp)) (fun f hf k hk => hw k (by simp only [List.mem_cons, List.mem_flatten]; exact Or.inr ⟨f, hf, hk⟩)) r⟩
theorem RowFp.keep {w w' : World} {T : TypeId} (bl off : Nat) : ∀ (ks : List Tr) (fps : List (List Nat)), w'.heap[bl]? = w.heap[bl]? → (∀ f ∈ fps, ∀ k ∈ f, w'.heap[k]? = w.heap[k]?) → RowFp w T bl off ks fps → RowFp w' T bl off ks fps
  | [], fps, _, _, h => by simpa [RowFp] using h
  | t :: ts, fps, hb, hw, h => by
    simp only [RowFp] at h ⊢
    obtain ⟨f, fs, rfl, ⟨a, b, c, ha, hbb, hc, ht⟩, hr⟩ := h
    refine ⟨f, fs, rfl, ⟨a, b, c, ?_, ?_, ?_, TrFp.keep t f a b c (hw f (by simp)) ht⟩, RowFp.keep bl (off + 3) ts fs hb (fun g hg => hw g (by simp [hg])) hr⟩
    · rw [World.cell?_of_block (w := w) hb]; exact ha
    · rw [World.cell?_of_block (w := w) hb]; exact hbb
    · rw [World.cell?_of_block (w := w) hb]; exact hc
end
theorem KidsFp.keep {w w' : World} {T : TypeId} {ks : List Tr} {fp : List Nat} {c : Value} (h : KidsFp w T ks fp c) (hw : ∀ k ∈ fp, w'.heap[k]? = w.heap[k]?) : KidsFp w' T ks fp c := by
  obtain ⟨ad, cap, e, l1, l2, h5⟩ := h
  refine ⟨ad, cap, e, l1, l2, ?_⟩
  rcases h5 with h5 | ⟨bl, off, C, fps, e, hb, rfl, r⟩
  · exact Or.inl h5
  · exact Or.inr ⟨bl, off, C, fps, e, (hw bl (by simp)).trans hb, rfl, RowFp.keep bl off ks fps (hw bl (by simp)) (fun f hf k hk => hw k (by simp only [List.mem_cons, List.mem_flatten]; exact Or.inr ⟨f, hf, hk⟩)) r⟩

/-- the blocks lie in the heap -/
theorem cellsOf_lt {w : World} {b : Nat} {o : Obj} (h : w.heap[b]? = some o) : b < w.heap.size := (Array.getElem?_eq_some_iff.1 h).1
mutual
theorem TrFp.on {w : World} {T : TypeId} {S : Nat → Prop} : ∀ (t : Tr) (fp : List Nat) (a b c : Value), (∀ k ∈ fp, S k) → TrFp w T t fp a b c → TrOn w S t a b c
  | .node op n ks, fp, a, b, c, hS, h => by
    simp only [TrFp] at h
    simp only [TrOn]
    obtain ⟨h1, h2, h3, h4, ad, cap, e, l1, l2, h5⟩ := h
    refine ⟨h1, h2, h3, h4, ad, cap, e, l1, l2, ?_⟩
    rcases h5 with ⟨h5, _⟩ | ⟨bl, off, C, fps, e, hb, rfl, r⟩
    · exact Or.inl h5
    · exact Or.inr ⟨bl, off, e, hS bl (by simp), RowFp.on bl off ks fps (fun f hf k hk => hS k (by simp only [List.mem_cons, List.mem_flatten]; exact Or.inr ⟨f, hf, hk⟩)) r⟩
theorem RowFp.on {w : World} {T : TypeId} {S : Nat → Prop} (bl off : Nat) : ∀ (ks : List Tr) (fps : List (List Nat)), (∀ f ∈ fps, ∀ k ∈ f, S k) → RowFp w T bl off ks fps → RowOn w S bl off ks
  | [], fps, _, h => by simp [RowOn]
  | t :: ts, fps, hS, h => by
    simp only [RowFp] at h
    simp only [RowOn]
    obtain ⟨f, fs, rfl, ⟨a, b, c, ha, hbb, hc, ht⟩, hr⟩ := h
    exact ⟨⟨a, b, c, ha, hbb, hc, TrFp.on t f a b c (hS f (by simp)) ht⟩, RowFp.on bl (off + 3) ts fs (fun g hg => hS g (by simp [hg])) hr⟩
end
theorem KidsFp.on {w : World} {T : TypeId} {S : Nat → Prop} {ks : List Tr} {fp : List Nat} {c : Value} (h : KidsFp w T ks fp c) (hS : ∀ k ∈ fp, S k) : KidsOn w S ks c := by
  obtain ⟨ad, cap, e, l1, l2, h5⟩ := h
  refine ⟨ad, cap, e, l1, l2, ?_⟩
  rcases h5 with ⟨h5, _⟩ | ⟨bl, off, C, fps, e, hb, rfl, r⟩
  · exact Or.inl h5
  · exact Or.inr ⟨bl, off, e, hS bl (by simp), RowFp.on bl off ks fps (fun f hf k hk => hS k (by simp only [List.mem_cons, List.mem_flatten]; exact Or.inr ⟨f, hf, hk⟩)) r⟩

/-- element i of a row -/
theorem RowFp.at {w : World} {T : TypeId} {bl : Nat} : ∀ (ks : List Tr) (fps : List (List Nat)) (off i : Nat) (hi : i < ks.length), RowFp w T bl off ks fps →
    fps.length = ks.length ∧ ∃ f, fps[i]? = some f ∧ ∃ a b c, w.cell? ⟨bl, off + i * 3, none⟩ = some a ∧ w.cell? ⟨bl, off + i * 3 + 1, none⟩ = some b ∧ w.cell? ⟨bl, off + i * 3 + 2, none⟩ = some c ∧ TrFp w T ks[i] f a b c
  | [], _, _, _, hi, _ => by simp at hi
  | t :: ts, fps, off, 0, _, h => by
    simp only [RowFp] at h
    obtain ⟨f, fs, rfl, h1, h2⟩ := h
    refine ⟨?_, f, rfl, by simpa using h1⟩
    cases ts with
    | nil => simp only [RowFp] at h2; simp [h2]
    | cons u us => simp [(RowFp.at (u :: us) fs (off + 3) 0 (by simp) h2).1]
  | t :: ts, fps, off, i + 1, hi, h => by
    simp only [RowFp] at h
    obtain ⟨f, fs, rfl, h1, h2⟩ := h
    have := RowFp.at ts fs (off + 3) i (by simpa using hi) h2
    have e : off + 3 + i * 3 = off + (i + 1) * 3 := by omega
    rw [e] at this
    exact ⟨by simp [this.1], by simpa using this.2⟩

/-- a row from its elements -/
theorem RowFp.of {w : World} {T : TypeId} {bl : Nat} : ∀ (ks : List Tr) (fps : List (List Nat)) (off : Nat), fps.length = ks.length →
    (∀ i (hi : i < ks.length), ∃ f, fps[i]? = some f ∧ ∃ a b c, w.cell? ⟨bl, off + i * 3, none⟩ = some a ∧ w.cell? ⟨bl, off + i * 3 + 1, none⟩ = some b ∧ w.cell? ⟨bl, off + i * 3 + 2, none⟩ = some c ∧ TrFp w T ks[i] f a b c) → RowFp w T bl off ks fps
  | [], fps, _, hl, _ => by simpa [RowFp] using hl
  | t :: ts, [], _, hl, _ => by simp at hl
  | t :: ts, f :: fs, off, hl, h => by
    simp only [RowFp]
    refine ⟨f, fs, rfl, ?_, RowFp.of ts fs (off + 3) (by simpa using hl) fun i hi => ?_⟩
    · obtain ⟨f', hf, a, b, c, h1⟩ := h 0 (by simp)
      simp only [List.getElem?_cons_zero, Option.some.injEq] at hf
      subst hf
      simp only [Nat.zero_mul, Nat.add_zero, List.getElem_cons_zero] at h1
      exact ⟨a, b, c, h1⟩
    · have := h (i + 1) (by simpa using hi)
      have e : off + (i + 1) * 3 = off + 3 + i * 3 := by omega
      rw [e] at this
      simpa using this

end Go.Proofs.Ytiipcgnkfhjpeaa
/-
  THE NUMBERS THAT MARKED TREES BEAR, element by element.
-/
namespace Go.Proofs.Ytiipcgnkfhjpeaa
set_option linter.unusedVariables false
set_option linter.unusedSimpArgs false
open Go.RowKit

end Go.Proofs.Ytiipcgnkfhjpeaa
