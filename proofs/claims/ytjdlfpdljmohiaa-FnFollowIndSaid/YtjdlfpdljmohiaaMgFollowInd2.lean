/-
  A STACK OF PLACES (a slice of ints that a call owns) AND MARKS (a row of bools).
-/
import Derived.Test.YtjdlfpdljmohiaaMgFollowInd1
import Derived.Laws.AppendOwn
import Derived.Laws.AppendOwnNone
import Derived.Deep.DeepCutAuto
import Derived.Deep.RegionWith
import Derived.Deep.RegionHeld3
import Derived.Maps.Own
import Derived.Maps.OwnOps
import Derived.LaidEqlPtr
import Derived.Test.YtjdlfpdljmohiaaProg
import Derived.WalkSmall
namespace Go.Proofs.Ytjdlfpdljmohiaa
set_option linter.unusedVariables false
set_option linter.unusedSimpArgs false
open Go.RowKit

theorem infoI1 : ∃ i z, Try.prog.info? 3 = some i ∧ i.zero = some z ∧ i.size = 1 ∧ i.bytes = 8 ∧ z.cells.size = 1 := by
  obtain ⟨i, hi, hzz⟩ := Option.map_eq_some_iff.1 infoI
  simp only [Prod.mk.injEq] at hzz
  obtain ⟨hz, hs, hb⟩ := hzz
  exact ⟨i, _, hi, hz, hs, hb, rfl⟩
/-- places, as values -/
def plV (ws : List Nat) : List Value := ws.map fun (a : Nat) => Value.int .i64 (a : Int)
theorem plV_length (ws : List Nat) : (plV ws).length = ws.length := by simp [plV]
theorem plV_one (ws : List Nat) : ∀ u ∈ plV ws, u.oneCell' = true := by
  intro u hu
  simp only [plV, List.mem_map] at hu
  obtain ⟨a, -, rfl⟩ := hu
  rfl
def Stk (w : World) (lo : Nat) (ws : List Nat) (v : Value) : Prop := w.ownsRow lo 3 1 v ws.length (plV ws)
theorem Stk.keep {w w' : World} {lo : Nat} {ws : List Nat} {v : Value} (h : Stk w lo ws v) (hk : ∀ k, lo ≤ k → k < w.heap.size → w'.heap[k]? = w.heap[k]?) : Stk w' lo ws v := by
  refine ⟨h.1, ?_⟩
  rcases h.2 with h | ⟨g, cap, cur, rfl, hg, hh, r⟩
  · exact Or.inl h
  · exact Or.inr ⟨g, cap, cur, rfl, hg, (hk g hg (Array.getElem?_eq_some_iff.1 hh).1).trans hh, r⟩
theorem Stk.top {w : World} {lo : Nat} {ws : List Nat} {a : Nat} {v : Value} (h : Stk w lo (ws ++ [a]) v) :
    ∃ g cap, v = .slice (some ⟨g, 0, none⟩) (ws.length + 1) cap ∧ lo ≤ g ∧ g < w.heap.size ∧ ws.length + 1 ≤ cap ∧ cap ≤ maxLen ∧ w.cell? ⟨g, ws.length, none⟩ = some (.int .i64 (a : Int)) ∧ Stk w lo ws (.slice (some ⟨g, 0, none⟩) ws.length cap) := by
  obtain ⟨h1, h2⟩ := h
  rcases h2 with ⟨-, h0⟩ | ⟨g, cap, cur, hv, hg, hh, hn, hc, hs, htk⟩
  · simp at h0
  · simp only [List.length_append, List.length_cons, List.length_nil, Nat.zero_add] at hv hn htk
    simp only [Nat.mul_one] at hs htk
    have hlt : ws.length < cur.size := by omega
    have e1 : (cur.toList.take (ws.length + 1))[ws.length]? = (plV (ws ++ [a]))[ws.length]? := by rw [htk]
    have e2 : cur.toList.take ws.length = plV ws := by
      have := congrArg (List.take ws.length) htk
      rw [List.take_take, Nat.min_eq_left (by omega)] at this
      rw [this]
      simp [plV]
    refine ⟨g, cap, hv, hg, (Array.getElem?_eq_some_iff.1 hh).1, hn, hc, ?_, by rw [plV_length]; omega, Or.inr ⟨g, cap, cur, rfl, hg, hh, by omega, hc, by omega, by rw [Nat.mul_one]; exact e2⟩⟩
    simp only [World.cell?, hh]
    rw [List.getElem?_take_of_lt (by omega)] at e1
    have e3 : (plV (ws ++ [a]))[ws.length]? = some (.int .i64 (a : Int)) := by simp [plV]
    rw [e3] at e1
    simpa using e1
theorem own_lo {w : World} {base n size : Nat} {e : TypeId} {v : Value} {xs : List Value} (h : w.ownsRow base e size v n xs) {k : Nat} (hk : some k = v.ownBlock) : base ≤ k := by
  rcases h.2 with ⟨rfl, -⟩ | ⟨g, cap, cur, rfl, hg, -⟩
  · simp [Value.ownBlock] at hk
  · simp only [Value.ownBlock, Option.some.injEq] at hk
    omega
theorem Stk.nil {w : World} {lo : Nat} {v : Value} {n : Nat} (h : Stk w lo [] v) : ∃ ad cap, v = .slice ad 0 cap := by
  rcases h.2 with ⟨rfl, -⟩ | ⟨g, cap, cur, rfl, -⟩
  · exact ⟨_, _, rfl⟩
  · exact ⟨_, _, rfl⟩
theorem Stk.len {w : World} {lo : Nat} {ws : List Nat} {v : Value} (h : Stk w lo ws v) : ∃ ad cap, v = .slice ad ws.length cap := by
  rcases h.2 with ⟨rfl, h0⟩ | ⟨g, cap, cur, rfl, -⟩
  · exact ⟨none, 0, by rw [h0]⟩
  · exact ⟨_, _, rfl⟩
/-- a new row of one place -/
theorem Stk.one (w : World) (lo : Nat) (a : Nat) (h : lo ≤ w.heap.size) : Stk (w.alloc (.cells #[.int .i64 (a : Int)] 3)) lo [a] (.slice (some ⟨w.heap.size, 0, none⟩) 1 1) :=
  ⟨rfl, Or.inr ⟨w.heap.size, 1, _, rfl, h, Deep.blk_alloc_new _ _, Nat.le_refl _, by simp [maxLen], rfl, rfl⟩⟩

theorem Stk.row {w : World} {lo : Nat} {ws : List Nat} {v : Value} (h : Stk w lo ws v) : IntRow w lo (ws.map fun (a : Nat) => (a : Int)) v := by
  rcases h.2 with ⟨rfl, h0⟩ | ⟨g, cap, cur, rfl, hg, hh, hn, hc, hs, htk⟩
  · obtain rfl : ws = [] := List.eq_nil_of_length_eq_zero h0
    exact IntRow.none _ _
  · rw [Nat.mul_one] at hs htk
    refine ⟨_, cap, by rw [List.length_map], by rw [List.length_map]; exact hn, hc, Or.inr ⟨g, fun i => cur.getD i undef, rfl, hg, ⟨cur, hh, hs, fun i hi => ?_⟩, fun i hi => ?_⟩⟩
    · have hi' : i < cur.size := by omega
      simp [Array.getD, hi']
    · rw [List.length_map] at hi
      have hi' : i < cur.size := by omega
      have e1 : (cur.toList.take ws.length)[i]? = (plV ws)[i]? := by rw [htk]
      rw [List.getElem?_take_of_lt hi] at e1
      have e2 : (plV ws)[i]? = some (.int .i64 (ws[i] : Int)) := by simp [plV, hi]
      rw [e2] at e1
      simp [Array.getD, hi'] at e1 ⊢
      exact e1
/-- one place in a new block, as a slice that is appended -/
theorem one_in (w : World) (a : Nat) : IIn (w.alloc (.cells #[.int .i64 (a : Int)] 3)) [(a : Int)] (.slice (some ⟨w.heap.size, 0, none⟩) 1 1) := by
  refine ⟨_, 1, rfl, Nat.le_refl _, by simp [maxLen], Or.inr ⟨_, 0, rfl, by show w.heap.size < _; rw [Deep.nblk_alloc]; omega, fun i hi => ?_⟩⟩
  obtain rfl : i = 0 := by simp at hi; omega
  exact box_cell w #[.int .i64 (a : Int)] 3 0 _ rfl
theorem Stk.alloc {w : World} {lo : Nat} {ws : List Nat} {v : Value} (h : Stk w lo ws v) (o : Obj) : Stk (w.alloc o) lo ws v := h.keep fun k _ hk => Deep.blk_alloc_lt _ _ _ hk

/-- the operands of a cell, as values -/
theorem ints_news {w : World} {xs : List Int} {ws : List Nat} {ad : Addr} {n cap : Nat} (h : IIn w xs (.slice (some ad) n cap)) (hx : xs = ws.map fun (a : Nat) => (a : Int)) : ∀ j u, (plV ws)[j]? = some u → w.cell? (ad.add j) = some u := by
  intro j u hu
  subst hx
  obtain ⟨ad', cap', he, -, -, hr⟩ := h
  simp only [Value.slice.injEq, Option.some.injEq] at he
  obtain ⟨rfl, -, -⟩ := he
  have hj : j < ws.length := by
    rcases Nat.lt_or_ge j ws.length with h | h
    · exact h
    · rw [List.getElem?_eq_none (by rw [plV_length]; exact h)] at hu; cases hu
  rcases hr with hnil | ⟨bl, off, e, -, hr⟩
  · simp at hnil; subst hnil; simp at hj
  · simp only [Option.some.injEq] at e
    subst e
    rw [WideShapes.add_plain]
    have := hr j (by simpa using hj)
    rw [this]
    simp [plV, hj] at hu
    simpa using hu
theorem kids_back {g : List Ce} {defs : Int} (h : graphB g defs = true) (a : Nat) (ha : a < g.length) : g[a].kids = (kidsN g a).map fun (a : Nat) => (a : Int) := by
  rw [kidsN_at a ha, List.map_map]
  refine List.ext_getElem (by simp) fun i h1 h2 => ?_
  have := (kids_graph h a ha).2 _ (List.getElem_mem h1)
  simp
  omega
theorem split_last {α : Type} (l : List α) (h : 0 < l.length) : ∃ r a, l = r ++ [a] := by
  have hne : l ≠ [] := by intro e; subst e; simp at h
  exact ⟨l.dropLast, l.getLast hne, (List.dropLast_concat_getLast hne).symm⟩

/-- append of places to a stack, out of any slice of ints -/
theorem run_push (w : World) (lo : Nat) (ws news : List Nat) (v x : Value) (ty : TypeId) (hst : Stk w lo ws v) {xs : List Int} (hx : IIn w xs x) (hxs : xs = news.map fun (a : Nat) => (a : Int)) (hlo : lo ≤ w.heap.size) (hb : ws.length + news.length ≤ 1048576) :
    ∃ v' w', (Builtin.append_ #[33, 33] ty #[v, x]).run Try.prog w = .ok v' w' ∧ Stk w' lo (ws ++ news) v' ∧ w.grownBy w' v.ownBlock := by
  obtain ⟨i, z, hi, hz, hs, hby, hzs⟩ := infoI1
  have hlen : xs.length = news.length := by rw [hxs]; simp
  have hx2 := hx
  obtain ⟨ad, cap, rfl, -, -, hr⟩ := hx2
  rcases ad with _ | ad
  · have hnil : news = [] := by
      rcases hr with h | ⟨_, _, h, -⟩
      · rw [h] at hlen; exact List.eq_nil_of_length_eq_zero hlen.symm
      · simp at h
    subst hnil
    rw [hlen]
    refine ⟨v, w, ?_, by simpa using hst, ⟨rfl, rfl, rfl, Nat.le_refl _, fun _ _ _ => rfl⟩⟩
    rcases hst.2 with ⟨rfl, h0⟩ | ⟨g, cap, cur, rfl, _, _, hnc, _⟩
    · simp [Builtin.append_, run_underlying Try.underlying33, sizeOf, typeInfo, hi, Builtin.lenOf, Builtin.firstCells]
    · simp [Builtin.append_, run_underlying Try.underlying33, sizeOf, typeInfo, hi, Builtin.lenOf, Builtin.firstCells, hnc, storeCells]
  · obtain ⟨v', w', hrun, hown, hg, -⟩ := run_append_own (P := Try.prog) w lo 33 ty 3 i z 1 8 Try.underlying33 hi hz hs hby hzs (by decide) v ws.length (plV ws) hst ad news.length cap (plV news) (by rw [plV_length, Nat.mul_one]) (ints_news hx hxs) (plV_one _) (by unfold maxLen; omega) (by omega) hlo
    rw [← hlen] at hrun
    refine ⟨v', w', hrun, ?_, hg⟩
    unfold Stk
    have e : plV (ws ++ news) = plV ws ++ plV news := by simp [plV]
    rw [e, List.length_append]
    exact hown
theorem wpList_push {ops : Array Oper} {rest : List Oper} {o : Oper} {a : Act} {Q : Exit → Act → World → Prop} (hgd : o.guard = none) (s x : Operand)
    (ho : o.op = .call { callee := .builtin .append, args := #[s, x], argTypes := #[33, 33] })
    (w : World) (lo : Nat) (ws news : List Nat) (v xv : Value) (hs : a.eval s = v) (hst : Stk w lo ws v) (hxe : a.eval x = xv) {xs : List Int} (hx : IIn w xs xv) (hxs : xs = news.map fun (a : Nat) => (a : Int)) (hlo : lo ≤ w.heap.size) (hb : ws.length + news.length ≤ 1048576)
    (h : ∀ v' w', Stk w' lo (ws ++ news) v' → w.grownBy w' v.ownBlock → wpList Try.prog ops Q rest (a.put o.dst v') w') : wpList Try.prog ops Q (o :: rest) a w := by
  refine wpList_plain hgd fun K hK => ?_
  obtain ⟨v', w', hrun, h2, h3⟩ := run_push w lo ws news v xv o.type hst hx hxs hlo hb
  unfold Oper.wp
  simp [execOp, ho, resolve, invoke, builtin, hs, hxe, hrun, Result.andThen]
  exact hK _ _ (h v' w' h2 h3)

/-- no numbers, in whatever block -/
theorem no_ints (w : World) (lo : Nat) (ad : Option Addr) (cap : Nat) (h : cap ≤ maxLen) : IntRow w lo [] (.slice ad 0 cap) := ⟨ad, cap, rfl, Nat.zero_le _, h, Or.inl rfl⟩
end Go.Proofs.Ytjdlfpdljmohiaa
/-
  A GRAPH THAT CALLS BUILD BY append: the row of cells is owned, the operands lie in rows of their own.
-/
namespace Go.Proofs.Ytjdlfpdljmohiaa
set_option linter.unusedVariables false
set_option linter.unusedSimpArgs false
open Go.RowKit

theorem infoC1 : ∃ i z, Try.prog.info? 35 = some i ∧ i.zero = some z ∧ i.size = 3 ∧ i.bytes = 40 ∧ z.cells.size = 3 := by
  obtain ⟨i, hi, hzz⟩ := Option.map_eq_some_iff.1 infoC
  simp only [Prod.mk.injEq] at hzz
  obtain ⟨hz, hs, hb⟩ := hzz
  exact ⟨i, _, hi, hz, hs, hb, rfl⟩
/-- the operands of a cell, in the row blk, a block of S -/
def KRowS (w : World) (S : Nat → Prop) (xs : List Int) (blk : Nat) (v : Value) : Prop :=
  ∃ ad cap, v = .slice ad xs.length cap ∧ xs.length ≤ cap ∧ cap ≤ maxLen ∧ (xs = [] ∨ ∃ f, ad = some ⟨blk, 0, none⟩ ∧ S blk ∧ w.rowIs blk 3 cap f ∧ ∀ i (h : i < xs.length), f i = .int .i64 xs[i])
theorem KRowS.keep {w w' : World} {S S' : Nat → Prop} {xs : List Int} {blk : Nat} {v : Value} (h : KRowS w S xs blk v) (hS : ∀ k, S k → k < w.heap.size → S' k) (hb : ∀ C, S blk → blk < w.heap.size → w.heap[blk]? = some (.cells C 3 (0, 0)) → w'.heap[blk]? = w.heap[blk]?) : KRowS w' S' xs blk v := by
  obtain ⟨ad, cap, e, l1, l2, h⟩ := h
  refine ⟨ad, cap, e, l1, l2, h.imp id ?_⟩
  rintro ⟨f, rfl, h1, h3, h4⟩
  obtain ⟨C, hC, -⟩ := id h3
  exact ⟨f, rfl, hS _ h1 h3.lt, h3.of_block (hb C h1 h3.lt hC), h4⟩
/-- a slice value that holds a graph that is being built: the row of cells is owned, from block lo on; the operands lie in blocks of S -/
def OwnC (w : World) (lo : Nat) (S : Nat → Prop) (g : List Ce) (v : Value) : Prop :=
  (∀ i (h : i < g.length), I64 g[i].op ∧ I64 g[i].num) ∧ ∃ (xs : List Value) (kb : Nat → Nat), w.ownsRow lo 35 3 v g.length xs ∧
    (∀ j (hj : j < g.length), ∃ kv, xs[j * 3]? = some (.int .i64 g[j].op) ∧ xs[j * 3 + 1]? = some (.int .i64 g[j].num) ∧ xs[j * 3 + 2]? = some kv ∧ KRowS w S g[j].kids (kb j) kv) ∧ Dist kb g
theorem OwnC.nil (w : World) (lo : Nat) (S : Nat → Prop) : OwnC w lo S [] (.slice none 0 0) := ⟨fun i h => absurd h (by simp), [], fun _ => 0, World.ownsRow_nil w lo _ _, fun j hj => absurd hj (by simp), fun i j hi _ => absurd hi (by simp)⟩
/-- it stays where the row of cells and all rows of ints in S stay -/
theorem OwnC.next {w w' : World} {lo : Nat} {S S' : Nat → Prop} {g : List Ce} {v : Value} (h : OwnC w lo S g v) (hS : ∀ k, S k → k < w.heap.size → S' k) (hr : ∀ k, some k = v.ownBlock → k < w.heap.size → w'.heap[k]? = w.heap[k]?) (hb : ∀ k, S k → k < w.heap.size → w'.heap[k]? = w.heap[k]?) : OwnC w' lo S' g v := by
  obtain ⟨hi0, xs, kb, h1, h2, h3⟩ := h
  refine ⟨hi0, xs, kb, ?_, fun j hj => ?_, h3⟩
  · refine ⟨h1.1, ?_⟩
    rcases h1.2 with h | ⟨b, cap, cur, rfl, hg, hh, r⟩
    · exact Or.inl h
    · exact Or.inr ⟨b, cap, cur, rfl, hg, (hr b rfl (Array.getElem?_eq_some_iff.1 hh).1).trans hh, r⟩
  · obtain ⟨kv, e0, e1, e2, e3⟩ := h2 j hj
    exact ⟨kv, e0, e1, e2, e3.keep hS fun C h1 h2 _ => hb _ h1 h2⟩
theorem OwnC.row {w : World} {lo : Nat} {S : Nat → Prop} {g : List Ce} {v : Value} (h : OwnC w lo S g v) : ∃ xs, w.ownsRow lo 35 3 v g.length xs := by
  obtain ⟨-, xs, kb, h1, -⟩ := h; exact ⟨xs, h1⟩
theorem OwnC.form {w : World} {lo : Nat} {S : Nat → Prop} {g : List Ce} {v : Value} (h : OwnC w lo S g v) : ∃ ad cap, v = .slice ad g.length cap := by
  obtain ⟨xs, h1⟩ := h.row
  rcases h1.2 with ⟨rfl, h0⟩ | ⟨b, cap, cur, rfl, -⟩
  · exact ⟨none, 0, by rw [h0]⟩
  · exact ⟨_, _, rfl⟩
/-- one cell more -/
theorem OwnC.step {w w' : World} {lo : Nat} {S : Nat → Prop} {g : List Ce} {v v' : Value} {c : Ce} {kv : Value} {blk : Nat} (h : OwnC w lo S g v)
    (hc : I64 c.op ∧ I64 c.num) (hk : KRowS w (fun b => b = blk) c.kids blk kv) (hS : ¬ S blk) (xs : List Value) (hx : w.ownsRow lo 35 3 v g.length xs)
    (hown : w'.ownsRow lo 35 3 v' (g.length + 1) (xs ++ [.int .i64 c.op, .int .i64 c.num, kv])) (hg : w.grownBy w' v.ownBlock) : OwnC w' lo (fun b => S b ∨ b = blk) (g ++ [c]) v' := by
  obtain ⟨hi0, xs2, kb, h1, h2, h3⟩ := h
  have hxs : xs2 = xs := by
    rcases h1.2 with ⟨rfl, h0⟩ | ⟨b, cap, cur, rfl, hg', hh, hn', hc', hs', htk⟩
    · have a1 := h1.1
      have a2 := hx.1
      rw [h0] at a1 a2
      rw [List.eq_nil_of_length_eq_zero (by omega : xs2.length = 0), List.eq_nil_of_length_eq_zero (by omega : xs.length = 0)]
    · rcases hx.2 with ⟨e, -⟩ | ⟨b2, cap2, cur2, e, -, hh2, -, -, -, htk2⟩
      · cases e
      · cases e
        rw [hh] at hh2
        cases hh2
        rw [← htk, ← htk2]
  subst hxs
  have hlen := h1.1
  -- a row of ints is not the row of cells
  have keep : ∀ (C : Array Value) (b : Nat), b < w.heap.size → w.heap[b]? = some (.cells C 3 (0, 0)) → w'.heap[b]? = w.heap[b]? := by
    intro C b hb hC
    refine hg.block b hb fun e => ?_
    rcases h1.2 with ⟨rfl, -⟩ | ⟨b2, cap, cur, rfl, -, hh, -⟩
    · simp [Value.ownBlock] at e
    · simp only [Value.ownBlock, Option.some.injEq] at e
      subst e
      rw [hh] at hC
      simp at hC
  refine ⟨fun i hi' => ?_, xs2 ++ [.int .i64 c.op, .int .i64 c.num, kv], fun j => if j = g.length then blk else kb j, by simpa using hown, fun j hj => ?_, ?_⟩
  · by_cases hil : i < g.length
    · rw [List.getElem_append_left hil]; exact hi0 i hil
    · have : i = g.length := by simp at hi'; omega
      subst this
      simpa using hc
  · by_cases hjl : j < g.length
    · obtain ⟨kv', e0, e1, e2, e3⟩ := h2 j hjl
      refine ⟨kv', ?_, ?_, ?_, ?_⟩
      · rw [List.getElem?_append_left (by omega), List.getElem_append_left hjl]; exact e0
      · rw [List.getElem?_append_left (by omega), List.getElem_append_left hjl]; exact e1
      · rw [List.getElem?_append_left (by omega)]; exact e2
      · simp only [if_neg (show ¬ j = g.length by omega)]
        rw [List.getElem_append_left hjl]
        exact e3.keep (fun k hk _ => Or.inl hk) fun C _ h5 hC => keep C _ h5 hC
    · have hj' : j = g.length := by simp at hj; omega
      subst hj'
      refine ⟨kv, ?_, ?_, ?_, ?_⟩
      · rw [List.getElem?_append_right (by omega)]; simp [hlen]
      · rw [List.getElem?_append_right (by omega)]; simp [hlen]
      · rw [List.getElem?_append_right (by omega)]; simp [hlen]
      · simp only [List.getElem_concat_length, if_pos]
        exact hk.keep (fun k hk _ => Or.inr hk) fun C _ h5 hC => keep C _ h5 hC
  · -- distinct
    have ne : ∀ i (hi' : i < g.length), g[i].kids ≠ [] → kb i ≠ blk := by
      intro i hi' hne e
      obtain ⟨kv', -, -, -, _, _, _, _, _, h5⟩ := h2 i hi'
      rcases h5 with h5 | ⟨f5, -, h6, -⟩
      · exact hne h5
      · exact hS (e ▸ h6)
    intro i j hi' hj' hij ei ej
    simp only [List.length_append, List.length_cons, List.length_nil] at hi' hj'
    by_cases il : i < g.length
    · rw [List.getElem_append_left il] at ei
      by_cases jl : j < g.length
      · rw [List.getElem_append_left jl] at ej
        simp only [if_neg (show ¬ i = g.length by omega), if_neg (show ¬ j = g.length by omega)]
        exact h3 i j il jl hij ei ej
      · have : j = g.length := by omega
        subst this
        simp only [if_neg (show ¬ i = g.length by omega), if_pos]
        exact ne i il ei
    · have : i = g.length := by omega
      subst this
      have jl : j < g.length := by omega
      rw [List.getElem_append_left jl] at ej
      simp only [if_neg (show ¬ j = g.length by omega), if_pos]
      exact (ne j jl ej).symm
/-- the graph, in rows of its own -/
theorem OwnC.own {w : World} {lo : Nat} {S : Nat → Prop} {g : List Ce} {v : Value} (h : OwnC w lo S g v) (hS : ∀ k, S k → k < w.heap.size → lo ≤ k) : GOwn w (List.range' lo (w.heap.size - lo)) g v := by
  obtain ⟨hi0, xs, kb, h1, h2, h3⟩ := h
  refine ⟨hi0, ?_⟩
  rcases h1.2 with ⟨rfl, h0⟩ | ⟨b, cap, cur, rfl, hg, hh2, hn, hc, hs, htk⟩
  · obtain rfl : g = [] := List.eq_nil_of_length_eq_zero h0
    exact ⟨none, 0, rfl, Nat.le_refl _, by simp [maxLen], Or.inl rfl⟩
  · have hbl : b < w.heap.size := (Array.getElem?_eq_some_iff.1 hh2).1
    refine ⟨_, cap, rfl, hn, hc, Or.inr ⟨b, kb, rfl, by rw [List.mem_range'_1]; omega, ⟨fun i => cur.getD i undef, ⟨cur, hh2, hs, fun i hi => by simp [Array.getD, show i < cur.size by omega]⟩, fun i hi => ?_⟩, h3⟩⟩
    obtain ⟨kv, e0, e1, e2, e3⟩ := h2 i hi
    have get : ∀ m u, m < g.length * 3 → xs[m]? = some u → cur.getD m undef = u := by
      intro m u hm hu
      rw [← htk, List.getElem?_take_of_lt hm] at hu
      have hmc : m < cur.size := by omega
      simp [hmc] at hu
      simp [Array.getD, hmc, hu]
    refine ⟨get _ _ (by omega) e0, get _ _ (by omega) e1, ?_⟩
    simp only []
    rw [get _ _ (by omega) e2]
    obtain ⟨ad2, cap2, e4, l1, l2, h5⟩ := e3
    refine ⟨ad2, cap2, e4, l1, l2, h5.imp id ?_⟩
    rintro ⟨f, rfl, h6, h8, h9⟩
    exact ⟨f, rfl, by rw [List.mem_range'_1]; have := h8.lt; have := hS _ h6 h8.lt; omega, h8, h9⟩
/-- a list of operands that a call has built by append -/
theorem stk_krow {w : World} {lo : Nat} {ws : List Nat} {v : Value} (h : Stk w lo ws v) : ∃ blk, (ws ≠ [] → v.ownBlock = some blk) ∧ KRowS w (fun b => b = blk) (ws.map fun (a : Nat) => (a : Int)) blk v := by
  obtain ⟨ad, cap, e, l1, l2, h5⟩ := h.row
  rcases h5 with h5 | ⟨g, f, rfl, h6, h7, h8⟩
  · have hw : ws = [] := by simpa using h5
    exact ⟨0, fun hx => absurd hw hx, ad, cap, e, l1, l2, Or.inl h5⟩
  · exact ⟨g, fun _ => by rw [e]; rfl, _, cap, e, l1, l2, Or.inr ⟨f, rfl, rfl, h7, h8⟩⟩
theorem news3c (w : World) (a b c : Value) (j : Nat) (u : Value) (h : [a, b, c][j]? = some u) : (w.alloc (.cells #[a, b, c] 35)).cell? ((⟨w.heap.size, 0, none⟩ : Addr).add j) = some u := by
  rw [WideShapes.add_plain, Nat.zero_add]
  exact box_cell w #[a, b, c] _ j u (by simpa using h)
theorem stk_form {w : World} {lo k : Nat} {ws : List Nat} {n : Nat} {v : Value} (h : Stk w lo (ws ++ [n]) v) (hk : ws.length = k) : ∃ ad cap, v = .slice ad (k + 1) cap := by
  obtain ⟨a, c, e⟩ := h.len
  exact ⟨a, c, by rw [e, List.length_append, hk]; rfl⟩
end Go.Proofs.Ytjdlfpdljmohiaa
/-
  ELEMENTS OF ROWS OUT OF A SET OF BLOCKS.
-/
namespace Go.Proofs.Ytjdlfpdljmohiaa
set_option linter.unusedVariables false
set_option linter.unusedSimpArgs false
open Go.RowKit

/-- element i of a graph out of a set of blocks -/
theorem CellsOn.atS {w : World} {S : Nat → Prop} {g : List Ce} {ad : Option Addr} {n cap : Nat} (h : CellsOn w S g (.slice ad n cap)) (i : Nat) (hi : i < g.length) :
    ∃ bl off c, ad = some ⟨bl, off, none⟩ ∧ S bl ∧ w.cell? ⟨bl, off + i * 3, none⟩ = some (.int .i64 g[i].op) ∧ w.cell? ⟨bl, off + i * 3 + 1, none⟩ = some (.int .i64 g[i].num) ∧ w.cell? ⟨bl, off + i * 3 + 2, none⟩ = some c ∧ I64 g[i].op ∧ I64 g[i].num ∧ IntsOn w S g[i].kids c := by
  obtain ⟨ad', cap', he, -, -, hr⟩ := h
  cases he
  rcases hr with rfl | ⟨bl, off, rfl, hs, r⟩
  · simp at hi
  obtain ⟨c, h1, h2, h3, i1, i2, h4⟩ := r i hi
  exact ⟨bl, off, c, rfl, hs, h1, h2, h3, i1, i2, h4⟩
theorem IntsOn.atS {w : World} {S : Nat → Prop} {xs : List Int} {ad : Option Addr} {n cap : Nat} (h : IntsOn w S xs (.slice ad n cap)) (i : Nat) (hi : i < xs.length) :
    ∃ bl off, ad = some ⟨bl, off, none⟩ ∧ S bl ∧ w.cell? ⟨bl, off + i, none⟩ = some (.int .i64 xs[i]) := by
  obtain ⟨ad', cap', he, -, -, hr⟩ := h
  cases he
  rcases hr with rfl | ⟨bl, off, rfl, hs, r⟩
  · simp at hi
  exact ⟨bl, off, rfl, hs, r i hi⟩
end Go.Proofs.Ytjdlfpdljmohiaa
/-
  THE BLOCK OF A ROW THAT A CALL OWNS; three cells of a box.
-/
namespace Go.Proofs.Ytjdlfpdljmohiaa
set_option linter.unusedVariables false
set_option linter.unusedSimpArgs false
open Go.RowKit

theorem own_some {w : World} {base n size : Nat} {e : TypeId} {v : Value} {xs : List Value} (h : w.ownsRow base e size v n xs) : ∀ k, v.ownBlock = some k → base ≤ k ∧ k < w.heap.size := by
  intro k hk
  rcases h.2 with ⟨rfl, -⟩ | ⟨g, cap, cur, rfl, hb, hh, -⟩
  · simp [Value.ownBlock] at hk
  · simp only [Value.ownBlock, Option.some.injEq] at hk
    subst hk
    exact ⟨hb, (Array.getElem?_eq_some_iff.1 hh).1⟩
theorem box_set {w : World} {B : Nat} {a b c : Value} {T : TypeId} (h : w.heap[B]? = some (.cells #[a, b, c] T)) (v : Value) : (w.setCell ⟨B, 2, none⟩ v).heap[B]? = some (.cells #[a, b, v] T) := by
  simp [World.setCell, Array.getElem?_modify, h]
theorem box_but2 {fp : List Nat} {w w1 : World} {x y z : Value} (h : ButL fp w w1) : ButL fp w (((w1.setCell ⟨w.heap.size, 0, none⟩ x).setCell ⟨w.heap.size, 1, none⟩ y).setCell ⟨w.heap.size, 2, none⟩ z) :=
  ⟨h.os, h.tape, h.output, by simp only [size_setCell]; exact h.size, fun k hk hn => by
    rw [Below.heap_setCell _ _ _ _ (by show k ≠ w.heap.size; omega), Below.heap_setCell _ _ _ _ (by show k ≠ w.heap.size; omega), Below.heap_setCell _ _ _ _ (by show k ≠ w.heap.size; omega)]
    exact h.block k hk hn⟩
end Go.Proofs.Ytjdlfpdljmohiaa
/-
  LISTS OF PLACES IN MEMORY: reading one; one more, at a step; other rows stay.
-/
namespace Go.Proofs.Ytjdlfpdljmohiaa
set_option linter.unusedVariables false
set_option linter.unusedSimpArgs false
open Go.RowKit

theorem Stk.lower {w : World} {lo lo' : Nat} {ws : List Nat} {v : Value} (h : Stk w lo ws v) (hl : lo' ≤ lo) : Stk w lo' ws v := by
  refine ⟨h.1, ?_⟩
  rcases h.2 with h | ⟨g, cap, cur, rfl, hg, r⟩
  · exact Or.inl h
  · exact Or.inr ⟨g, cap, cur, rfl, Nat.le_trans hl hg, r⟩
theorem Stk.next {w w' : World} {lo : Nat} {ws : List Nat} {v : Value} (h : Stk w lo ws v) (hb : Below w.heap.size w w') : Stk w' lo ws v := h.keep fun k _ hk => hb.block k hk
/-- an empty row of places -/
theorem stk_zero {w : World} {lo b : Nat} (h : w.heap[b]? = some (.cells #[] 3)) (hb : lo ≤ b) : Stk w lo [] (.slice (some ⟨b, 0, none⟩) 0 0) :=
  ⟨rfl, Or.inr ⟨b, 0, #[], rfl, hb, h, Nat.le_refl _, by simp [maxLen], rfl, rfl⟩⟩
/-- append of places, at a step of a region that draws -/
theorem step_push {ops : Array Oper} {o : Oper} {a : Act} {w : World} {K : Act → World → Prop} {Q : Exit → Act → World → Prop} {E : Prop} (hgd : o.guard = none) (s x : Operand)
    (ho : o.op = .call { callee := .builtin .append, args := #[s, x], argTypes := #[33, 33] })
    (lo : Nat) (ws news : List Nat) (v xv : Value) (hs : a.eval s = v) (hst : Stk w lo ws v) (hxe : a.eval x = xv) {xs : List Int} (hx : IIn w xs xv) (hxs : xs = news.map fun (a : Nat) => (a : Int)) (hlo : lo ≤ w.heap.size) (hb : ws.length + news.length ≤ 1048576)
    (h : ∀ v' w', Stk w' lo (ws ++ news) v' → w.grownBy w' v.ownBlock → K (a.put o.dst v') w') : if Region.wanted o (yielded ops a.tmps) = true then Oper.wp Try.prog o a w K Q else E := by
  have hw : Region.wanted o (yielded ops a.tmps) = true := by simp [Region.wanted, hgd]
  rw [if_pos hw]
  obtain ⟨v', w', hrun, h2, h3⟩ := run_push w lo ws news v xv o.type hst hx hxs hlo hb
  unfold Oper.wp
  simp [execOp, ho, resolve, invoke, builtin, hs, hxe, hrun, Result.andThen]
  exact h _ _ h2 h3
theorem stk_len2 {w : World} {lo n : Nat} {ws : List Nat} {v : Value} (h : Stk w lo ([] ++ ws) v) (hn : ws.length = n) : ∃ ad cap, v = .slice ad n cap := by
  obtain ⟨a, c, e⟩ := h.len
  exact ⟨a, c, by rw [e, List.nil_append, hn]⟩
/-- a row of another type is not the row of places -/
theorem own_other {w : World} {lo : Nat} {ws : List Nat} {v : Value} {b n : Nat} {T : TypeId} {f : Nat → Value} (h : Stk w lo ws v) (hr : w.rowIs b T n f) (hT : T ≠ 3) : some b ≠ v.ownBlock := by
  intro e
  rcases h.2 with ⟨rfl, -⟩ | ⟨g, cap, cur, rfl, -, hh, -⟩
  · simp [Value.ownBlock] at e
  · simp only [Value.ownBlock, Option.some.injEq] at e
    subst e
    obtain ⟨C, hC, -⟩ := hr
    rw [hh] at hC
    simp only [Option.some.injEq, Obj.cells.injEq] at hC
    exact hT hC.2.1.symm
theorem Stk.mark {w : World} {lo : Nat} {ws : List Nat} {v : Value} {b n : Nat} {T : TypeId} {f : Nat → Value} (h : Stk w lo ws v) (hr : w.rowIs b T n f) (hT : T ≠ 3) (i : Nat) (u : Value) : Stk (w.setCell ⟨b, i, none⟩ u) lo ws v := by
  have hne := own_other h hr hT
  refine ⟨h.1, ?_⟩
  rcases h.2 with h' | ⟨g, cap, cur, rfl, hg, hh, r⟩
  · exact Or.inl h'
  · refine Or.inr ⟨g, cap, cur, rfl, hg, (Below.heap_setCell _ _ _ _ ?_).trans hh, r⟩
    intro e
    exact hne (by simp only [Value.ownBlock, Option.some.injEq]; exact e.symm)
end Go.Proofs.Ytjdlfpdljmohiaa
/-
  THE MODEL's l3Copy: a copy of a graph, in new memory.
-/
namespace Go.Proofs.Ytjdlfpdljmohiaa
set_option linter.unusedVariables false
set_option linter.unusedSimpArgs false
open Go.RowKit

/-- a copy of a graph, in rows of its own from block w.heap.size on -/
def CopyRes (g : List Ce) (w : World) (e : Ending) (w' : World) : Prop := ∃ gv, e = .returned gv ∧ OwnC w' w.heap.size (fun b => w.heap.size ≤ b) g gv ∧ Below w.heap.size w w'

/-- one cell more, with operands in a new row -/
theorem copy_push {wr w1 w3 : World} {lo : Nat} {G : List Ce} {v v' kv : Value} {ws : List Nat} {o n : Int} (h : OwnC wr lo (fun b => lo ≤ b) G v) (hlo : lo ≤ wr.heap.size) (h1 : Below wr.heap.size wr w1) (hst : Stk w1 wr.heap.size ws kv) (obj : Obj) {xs : List Value}
    (hx : (w1.alloc obj).ownsRow lo 35 3 v G.length xs) (hown : w3.ownsRow lo 35 3 v' (G.length + 1) (xs ++ [.int .i64 o, .int .i64 n, kv])) (hg : (w1.alloc obj).grownBy w3 v.ownBlock) (ho : I64 o) (hn : I64 n) :
    OwnC w3 lo (fun b => lo ≤ b) (G ++ [⟨o, n, ws.map fun (a : Nat) => (a : Int)⟩]) v' := by
  have hs1 := h1.size
  obtain ⟨ys, hy⟩ := h.row
  have h4 : OwnC (w1.alloc obj) lo (fun b => lo ≤ b ∧ b < wr.heap.size) G v := h.next (fun b hb hb2 => ⟨hb, hb2⟩) (fun b _ hb => (Deep.blk_alloc_lt _ _ _ (by omega)).trans (h1.block b hb)) (fun b _ hb => (Deep.blk_alloc_lt _ _ _ (by omega)).trans (h1.block b hb))
  obtain ⟨blk, hb1, hb3⟩ : ∃ blk, wr.heap.size ≤ blk ∧ KRowS (w1.alloc obj) (fun b => b = blk) (ws.map fun (a : Nat) => (a : Int)) blk kv := by
    obtain ⟨blk, h1, h2⟩ := stk_krow (hst.alloc obj)
    by_cases he : ws = []
    · obtain ⟨ad, cap, e, l1, l2, -⟩ := h2
      exact ⟨wr.heap.size, Nat.le_refl _, ad, cap, e, l1, l2, Or.inl (by rw [he]; rfl)⟩
    · exact ⟨blk, (own_some hst blk (h1 he)).1, h2⟩
  have h5 := h4.step (c := ⟨o, n, ws.map fun (a : Nat) => (a : Int)⟩) (v' := v') ⟨ho, hn⟩ hb3 (fun h => by have := h.2; omega) xs hx hown hg
  refine h5.next (fun b hb _ => ?_) (fun _ _ _ => rfl) (fun _ _ _ => rfl)
  rcases hb with hb | rfl
  · exact hb.1
  · omega

theorem copy_below {wr w1 : World} {o : Obj} (h : (wr.alloc o).drew.grownBy w1 (Value.slice (some ⟨wr.heap.size, 0, none⟩) 0 0).ownBlock) : Below wr.heap.size wr w1 :=
  ⟨h.os, h.tape, h.output, by have h1 : (wr.alloc o).heap.size ≤ w1.heap.size := h.size; rw [Deep.nblk_alloc] at h1; omega, fun k hk => (h.block k (by show k < (wr.alloc o).heap.size; rw [Deep.nblk_alloc]; omega) (by simp only [Value.ownBlock, ne_eq, Option.some.injEq]; omega)).trans (Deep.blk_alloc_lt _ _ _ hk)⟩
theorem copy_own {wr w1 : World} {lo n : Nat} {v : Value} {xs : List Value} (h : wr.ownsRow lo 35 3 v n xs) (hb : Below wr.heap.size wr w1) (o : Obj) : (w1.alloc o).ownsRow lo 35 3 v n xs := by
  refine ⟨h.1, ?_⟩
  have hs := hb.size
  rcases h.2 with h' | ⟨g, cap, cur, rfl, hg, hh, r⟩
  · exact Or.inl h'
  · have hl := (Array.getElem?_eq_some_iff.1 hh).1
    exact Or.inr ⟨g, cap, cur, rfl, hg, ((Deep.blk_alloc_lt _ _ _ (by omega)).trans (hb.block g hl)).trans hh, r⟩

theorem copy_below3 {w wr w1 w3 : World} {n : Nat} {v : Value} {xs : List Value} {o : Obj} (hb : Below w.heap.size w wr) (h1 : Below wr.heap.size wr w1) (hx : wr.ownsRow w.heap.size 35 3 v n xs) (hg : (w1.alloc o).grownBy w3 v.ownBlock) : Below w.heap.size w w3 := by
  have hs := hb.size
  have hs1 := h1.size
  have hs3 := hg.size
  rw [Deep.nblk_alloc] at hs3
  exact ⟨(hg.os.trans h1.os).trans hb.os, (hg.tape.trans h1.tape).trans hb.tape, (hg.output.trans h1.output).trans hb.output, by omega, fun k hk => (((hg.block k (by rw [Deep.nblk_alloc]; omega) (fun e => by have := (own_some hx k e.symm).1; omega)).trans (Deep.blk_alloc_lt _ _ _ (by omega))).trans (h1.block k (by omega))).trans (hb.block k hk)⟩

set_option maxRecDepth 100000 in
set_option maxHeartbeats 1600000 in
theorem l3Copy_calls (g : List Ce) (v : Value) (w : World) (hk : CIn w g v) (hg : ∃ defs, graphB g defs = true) : Calls Try.prog 67 #[v] w (CopyRes g w) := by
  have HK : Hid (CIn w g v) := hk
  obtain ⟨defs, hg⟩ := hg
  have HG : Hid (graphB g defs = true) := hg
  obtain ⟨ad, cap, rfl, hl, hm, -⟩ := hk
  unfold maxLen at hm
  have h400 : g.length ≤ 400 := graphB_len hg
  clear hg
  go_enter Try.func67, Try.ntmps67
  go_wp2_with fail
  have HST : Hid (OwnC (w.alloc (.cells #[] 35)) w.heap.size (fun b => w.heap.size ≤ b) (g.take 0) (.slice (some ⟨w.heap.size, 0, none⟩) 0 0)) :=
    ⟨fun i h => absurd h (by simp), [], fun _ => 0, ⟨rfl, Or.inr ⟨w.heap.size, 0, #[], rfl, Nat.le_refl _, Deep.blk_alloc_new _ _, Nat.le_refl _, by simp [maxLen], rfl, rfl⟩⟩, fun j hj => absurd hj (by simp), fun i j hi _ => absurd hi (by simp)⟩
  go_loopw [3, 4] (fun out i wr => ∃ k : Nat, k ≤ g.length ∧ i = .int .i64 k ∧ OwnC wr w.heap.size (fun b => w.heap.size ≤ b) (g.take k) out ∧ Below w.heap.size w wr) (fun _ i _ => g.length - (intOf i).toNat)
  case atStart => exact ⟨0, Nat.zero_le _, rfl, HST.out, box_below _ _⟩
  case round =>
    obtain ⟨k, hk, rfl, hown, hb⟩ := hrel
    have HO : Hid (OwnC wr w.heap.size (fun b => w.heap.size ≤ b) (g.take k) u3) := hown
    have HB : Hid (Below w.heap.size w wr) := hb
    have hsz := hb.size
    by_cases hlt : k < g.length
    · obtain ⟨bl, off, r2, rfl, c0w, c1w, c2w, io, iN, hkk⟩ := HK.out.at k hlt
      have HKK : Hid (IIn wr g[k].kids r2) := hkk.next hb
      have HLW : Hid (bl < w.heap.size) := cell_lt c0w
      have c0 := (hb.cell (p := ⟨bl, off + k * 3, none⟩) HLW.out).trans c0w
      have c1 := (hb.cell (p := ⟨bl, off + k * 3 + 1, none⟩) HLW.out).trans c1w
      have c2 := (hb.cell (p := ⟨bl, off + k * 3 + 2, none⟩) HLW.out).trans c2w
      have HC : Hid (w.cell? ⟨bl, off + k * 3, none⟩ = some (.int .i64 g[k].op) ∧ w.cell? ⟨bl, off + k * 3 + 1, none⟩ = some (.int .i64 g[k].num) ∧ w.cell? ⟨bl, off + k * 3 + 2, none⟩ = some r2) := ⟨c0w, c1w, c2w⟩
      clear c0w c1w c2w
      have HIO : Hid (I64 g[k].op ∧ I64 g[k].num) := ⟨io, iN⟩
      have lg := cell_lt c0
      have HTL : Hid ((g.take k).length = k) := by rw [Hid, List.length_take]; omega
      obtain ⟨adk, capk, rfl, -, -, -⟩ := id hkk
      clear hown hb hkk io iN
      obtain ⟨xs, hx⟩ := HO.out.row
      rw [HTL.out] at hx
      have HX : Hid (wr.ownsRow w.heap.size 35 3 u3 k xs) := hx
      obtain ⟨iC, zC, hII⟩ := infoC1
      have HII : Hid (Try.prog.info? 35 = some iC ∧ iC.zero = some zC ∧ iC.size = 3 ∧ iC.bytes = 40 ∧ zC.cells.size = 3) := hII
      have HK3 : Hid (g[k].kids.length ≤ 3) := (kids_graph HG.out k hlt).1
      have HKN : Hid ((kidsN g k).length = g[k].kids.length) := by rw [Hid, kidsN_at k hlt]; simp
      clear hII hx
      go_wp2_with fail
      go_region_held3 (fun w' => w'.cell? ⟨bl, off + k * 3, none⟩ = some (.int .i64 g[k].op) ∧ w'.cell? ⟨bl, off + k * 3 + 1, none⟩ = some (.int .i64 g[k].num) ∧ w'.cell? ⟨bl, off + k * 3 + 2, none⟩ = some (.slice adk g[k].kids.length capk))
        (first
          | go_keep
          | exact ⟨e0, e1, e2⟩
          | exact ⟨d0, d1, d2⟩
          | exact ⟨old_cell d0 _, old_cell d1 _, old_cell d2 _⟩
          | exact ⟨old_cell c0 _, old_cell c1 _, old_cell c2 _⟩)
        (first
          | (refine step_push (by rfl) (.tmp 23) (.tmp 28) (by rfl) wr.heap.size [] (kidsN g k) (.slice (some ⟨wr.heap.size, 0, none⟩) 0 0) (.slice adk g[k].kids.length capk) (by rfl) (stk_zero (Deep.blk_alloc_new wr _) (Nat.le_refl _)) (by rfl) (HKK.out.next ((box_below wr _).drew)) (kids_back HG.out k hlt) (by show wr.heap.size ≤ (wr.alloc _).heap.size; rw [Deep.nblk_alloc]; omega) (by rw [HKN.out]; have := HK3.out; simp only [List.length_nil]; omega) ?_; intro v1 w1 hst1 hg1; have HB1 : Hid (Below wr.heap.size wr w1) := copy_below hg1; have HST1 : Hid (Stk w1 wr.heap.size (kidsN g k) v1) := hst1; obtain ⟨ad1, cap1, rfl⟩ := stk_len2 hst1 HKN.out; have d0 := (HB1.out.cell (p := ⟨bl, off + k * 3, none⟩) lg).trans c0; have d1 := (HB1.out.cell (p := ⟨bl, off + k * 3 + 1, none⟩) lg).trans c1; have d2 := (HB1.out.cell (p := ⟨bl, off + k * 3 + 2, none⟩) lg).trans c2; clear hst1 hg1)
          | (refine step_append_where (by rfl) (.tmp 12) (.tmp 31) 23 (by rfl) w.heap.size 35 iC zC 3 40 Try.underlying23 HII.out.1 HII.out.2.1 HII.out.2.2.1 HII.out.2.2.2.1 HII.out.2.2.2.2 (by decide) u3 k xs (by rfl) (copy_own HX.out HB1.out _) ⟨w1.heap.size, 0, none⟩ 1 1 [.int .i64 g[k].op, .int .i64 g[k].num, .slice ad1 g[k].kids.length cap1] (by rfl) (by rfl) (news3c w1 _ _ _) (by simp [Value.oneCell']) (by unfold maxLen; omega) (by omega) (by show w.heap.size ≤ (w1.alloc _).heap.size; rw [Deep.nblk_alloc]; have := HB1.out.size; omega) (by omega) ?_; intro v3 w3 hown3 hg3 hw3; have HOWN3 : Hid (w3.ownsRow w.heap.size 35 3 v3 (k + 1) (xs ++ [.int .i64 g[k].op, .int .i64 g[k].num, .slice ad1 g[k].kids.length cap1])) := hown3; have HG3 : Hid ((w1.alloc (.cells #[.int .i64 g[k].op, .int .i64 g[k].num, .slice ad1 g[k].kids.length cap1] 35)).grownBy w3 u3.ownBlock) := hg3; have HB3 : Hid (Below w.heap.size w w3) := copy_below3 HB.out HB1.out HX.out hg3; have e0 := (HB3.out.cell (p := ⟨bl, off + k * 3, none⟩) HLW.out).trans HC.out.1; have e1 := (HB3.out.cell (p := ⟨bl, off + k * 3 + 1, none⟩) HLW.out).trans HC.out.2.1; have e2 := (HB3.out.cell (p := ⟨bl, off + k * 3 + 2, none⟩) HLW.out).trans HC.out.2.2; clear hown3 hg3 hw3))
      go_wp2_with fail
      go_roundw
      case rel =>
        refine ⟨k + 1, by omega, by go_num, ?_, HB3.out⟩
        have h := copy_push (G := g.take k) (ws := kidsN g k) (o := g[k].op) (n := g[k].num) HO.out HB.out.size HB1.out HST1.out _ (by rw [HTL.out]; exact copy_own HX.out HB1.out _) (by rw [HTL.out]; exact HOWN3.out) HG3.out HIO.out.1 HIO.out.2
        rw [← kids_back HG.out k hlt] at h
        rw [List.take_succ_eq_append_getElem hlt]
        exact h
      case measure => simp [intOf]; omega
    · have hke : k = g.length := by omega
      have HE : Hid (OwnC wr w.heap.size (fun b => w.heap.size ≤ b) g u3) := by
        have h := HO.out
        rw [hke, List.take_length] at h
        exact h
      clear hown hb hke
      go_wp2_with fail
      go_ret
      exact ⟨_, rfl, HE.out, HB.out⟩
end Go.Proofs.Ytjdlfpdljmohiaa
/-
  THE MODEL's l3Copy, with more: each list of operands lies in a row of its own.
-/
namespace Go.Proofs.Ytjdlfpdljmohiaa
set_option linter.unusedVariables false
set_option linter.unusedSimpArgs false
open Go.RowKit

/-- the lists of operands lie in rows of their own, all distinct -/
def KStk (w : World) (lo : Nat) (G : List Ce) (v : Value) (xs : List Value) : Prop :=
  w.ownsRow lo 35 3 v G.length xs ∧ ∃ KV : Nat → Value, (∀ j (hj : j < G.length), xs[j * 3 + 2]? = some (KV j) ∧ ∃ ws : List Nat, Stk w lo ws (KV j) ∧ G[j].kids = ws.map fun (a : Nat) => (a : Int)) ∧ ∀ i j, i < G.length → j < G.length → i ≠ j → ∀ b, (KV i).ownBlock = some b → (KV j).ownBlock ≠ some b
theorem KStk.nil {w : World} {lo b : Nat} (h : w.heap[b]? = some (.cells #[] 35)) (hb : lo ≤ b) : KStk w lo [] (.slice (some ⟨b, 0, none⟩) 0 0) [] :=
  ⟨⟨rfl, Or.inr ⟨b, 0, #[], rfl, hb, h, Nat.le_refl _, by simp [maxLen], rfl, rfl⟩⟩, fun _ => undef, fun j hj => absurd hj (by simp), fun i j hi => absurd hi (by simp)⟩
theorem stk_keep {w w' : World} {lo : Nat} {ws : List Nat} {v : Value} (h : Stk w lo ws v) (hk : ∀ k, v.ownBlock = some k → k < w.heap.size → w'.heap[k]? = w.heap[k]?) : Stk w' lo ws v := by
  refine ⟨h.1, ?_⟩
  rcases h.2 with h | ⟨g, cap, cur, rfl, hg, hh, r⟩
  · exact Or.inl h
  · exact Or.inr ⟨g, cap, cur, rfl, hg, (hk g rfl (Array.getElem?_eq_some_iff.1 hh).1).trans hh, r⟩
/-- a row of ints is not the row of cells -/
theorem stk_not_cells {w : World} {lo lo2 : Nat} {ws : List Nat} {v v2 : Value} {n : Nat} {xs : List Value} (h : Stk w lo ws v) (h2 : w.ownsRow lo2 35 3 v2 n xs) {b : Nat} (hb : v.ownBlock = some b) : v2.ownBlock ≠ some b := by
  intro e
  rcases h.2 with ⟨rfl, -⟩ | ⟨g, cap, cur, rfl, -, hh, -⟩
  · simp [Value.ownBlock] at hb
  · rcases h2.2 with ⟨rfl, -⟩ | ⟨g2, cap2, cur2, rfl, -, hh2, -⟩
    · simp [Value.ownBlock] at e
    · simp only [Value.ownBlock, Option.some.injEq] at hb e
      subst hb
      subst e
      rw [hh] at hh2
      simp at hh2
theorem copk_push {wr w1 w3 : World} {lo : Nat} {G : List Ce} {v v' kv : Value} {ws : List Nat} {o n : Int} {xs : List Value} (h : KStk wr lo G v xs) (hlo : lo ≤ wr.heap.size) (h1 : Below wr.heap.size wr w1) (hst : Stk w1 wr.heap.size ws kv) (obj : Obj)
    (hown : w3.ownsRow lo 35 3 v' (G.length + 1) (xs ++ [.int .i64 o, .int .i64 n, kv])) (hg : (w1.alloc obj).grownBy w3 v.ownBlock) :
    KStk w3 lo (G ++ [⟨o, n, ws.map fun (a : Nat) => (a : Int)⟩]) v' (xs ++ [.int .i64 o, .int .i64 n, kv]) := by
  have hs1 := h1.size
  obtain ⟨hrow, KV, hk, hd⟩ := h
  have hlen := hrow.1
  have hrowlt : ∀ k, v.ownBlock = some k → k < wr.heap.size := fun k hk => (own_some hrow k hk).2
  have oldkv : ∀ j (hj : j < G.length), ∀ b, (KV j).ownBlock = some b → b < wr.heap.size := fun j hj b hb => by
    obtain ⟨ws, hs, -⟩ := (hk j hj).2
    exact (own_some hs b hb).2
  refine ⟨by simpa using hown, fun j => if j = G.length then kv else KV j, fun j hj => ?_, fun i j hi hj hij b hb => ?_⟩
  · by_cases hjl : j < G.length
    · obtain ⟨e1, ws', e2, e3⟩ := hk j hjl
      simp only [if_neg (show ¬ j = G.length by omega)]
      refine ⟨by rw [List.getElem?_append_left (by omega)]; exact e1, ws', stk_keep e2 fun k hk2 hk3 => ?_, by rw [List.getElem_append_left hjl]; exact e3⟩
      have hne := stk_not_cells e2 hrow hk2
      exact (hg.block k (by rw [Deep.nblk_alloc]; omega) (fun e => hne e.symm)).trans ((Deep.blk_alloc_lt _ _ _ (by omega)).trans (h1.block k hk3))
    · have hj' : j = G.length := by simp at hj; omega
      subst hj'
      simp only [if_pos]
      have hstA : Stk w3 lo ws kv := by
        refine stk_keep (w := w1.alloc obj) (stk_keep (hst.lower hlo) fun k hk2 hk3 => Deep.blk_alloc_lt _ _ _ hk3) fun k hk2 hk3 => hg.block k hk3 (fun e => ?_)
        have h3 := (own_some hst k hk2).1
        have h4 := hrowlt k e.symm
        omega
      exact ⟨by rw [List.getElem?_append_right (by omega)]; simp [hlen], ws, hstA, by simp⟩
  · simp only [List.length_append, List.length_cons, List.length_nil] at hi hj
    by_cases hil : i = G.length
    · have hjl : ¬ j = G.length := by omega
      simp only [if_pos hil, if_neg hjl] at hb ⊢
      intro e
      have := oldkv j (by omega) b e
      have := (own_some hst b hb).1
      omega
    · simp only [if_neg hil] at hb
      by_cases hjl : j = G.length
      · simp only [if_pos hjl]
        intro e
        have := oldkv i (by omega) b hb
        have := (own_some hst b e).1
        omega
      · simp only [if_neg hjl]
        exact hd i j (by omega) (by omega) hij b hb
/-- a copy of a graph that can be written to -/
def CopyResK (g : List Ce) (w : World) (e : Ending) (w' : World) : Prop := ∃ gv xs, e = .returned gv ∧ OwnC w' w.heap.size (fun b => w.heap.size ≤ b) g gv ∧ KStk w' w.heap.size g gv xs ∧ Below w.heap.size w w'

set_option maxRecDepth 100000 in
set_option maxHeartbeats 1600000 in
theorem l3CopyK_calls (g : List Ce) (v : Value) (w : World) (hk : CIn w g v) (hg : ∃ defs, graphB g defs = true) : Calls Try.prog 67 #[v] w (CopyResK g w) := by
  have HK : Hid (CIn w g v) := hk
  obtain ⟨defs, hg⟩ := hg
  have HG : Hid (graphB g defs = true) := hg
  obtain ⟨ad, cap, rfl, hl, hm, -⟩ := hk
  unfold maxLen at hm
  have h400 : g.length ≤ 400 := graphB_len hg
  clear hg
  go_enter Try.func67, Try.ntmps67
  go_wp2_with fail
  have HST : Hid (OwnC (w.alloc (.cells #[] 35)) w.heap.size (fun b => w.heap.size ≤ b) (g.take 0) (.slice (some ⟨w.heap.size, 0, none⟩) 0 0)) :=
    ⟨fun i h => absurd h (by simp), [], fun _ => 0, ⟨rfl, Or.inr ⟨w.heap.size, 0, #[], rfl, Nat.le_refl _, Deep.blk_alloc_new _ _, Nat.le_refl _, by simp [maxLen], rfl, rfl⟩⟩, fun j hj => absurd hj (by simp), fun i j hi _ => absurd hi (by simp)⟩
  have HST2 : Hid (KStk (w.alloc (.cells #[] 35)) w.heap.size (g.take 0) (.slice (some ⟨w.heap.size, 0, none⟩) 0 0) []) := KStk.nil (Deep.blk_alloc_new _ _) (Nat.le_refl _)
  go_loopw [3, 4] (fun out i wr => ∃ k : Nat, k ≤ g.length ∧ i = .int .i64 k ∧ Hid (∃ xs, KStk wr w.heap.size (g.take k) out xs) ∧ OwnC wr w.heap.size (fun b => w.heap.size ≤ b) (g.take k) out ∧ Below w.heap.size w wr) (fun _ i _ => g.length - (intOf i).toNat)
  case atStart => exact ⟨0, Nat.zero_le _, rfl, ⟨_, HST2.out⟩, HST.out, box_below _ _⟩
  case round =>
    obtain ⟨k, hk, rfl, HKS, hown, hb⟩ := hrel
    have HO : Hid (OwnC wr w.heap.size (fun b => w.heap.size ≤ b) (g.take k) u3) := hown
    have HB : Hid (Below w.heap.size w wr) := hb
    have hsz := hb.size
    by_cases hlt : k < g.length
    · obtain ⟨bl, off, r2, rfl, c0w, c1w, c2w, io, iN, hkk⟩ := HK.out.at k hlt
      have HKK : Hid (IIn wr g[k].kids r2) := hkk.next hb
      have HLW : Hid (bl < w.heap.size) := cell_lt c0w
      have c0 := (hb.cell (p := ⟨bl, off + k * 3, none⟩) HLW.out).trans c0w
      have c1 := (hb.cell (p := ⟨bl, off + k * 3 + 1, none⟩) HLW.out).trans c1w
      have c2 := (hb.cell (p := ⟨bl, off + k * 3 + 2, none⟩) HLW.out).trans c2w
      have HC : Hid (w.cell? ⟨bl, off + k * 3, none⟩ = some (.int .i64 g[k].op) ∧ w.cell? ⟨bl, off + k * 3 + 1, none⟩ = some (.int .i64 g[k].num) ∧ w.cell? ⟨bl, off + k * 3 + 2, none⟩ = some r2) := ⟨c0w, c1w, c2w⟩
      clear c0w c1w c2w
      have HIO : Hid (I64 g[k].op ∧ I64 g[k].num) := ⟨io, iN⟩
      have lg := cell_lt c0
      have HTL : Hid ((g.take k).length = k) := by rw [Hid, List.length_take]; omega
      obtain ⟨adk, capk, rfl, -, -, -⟩ := id hkk
      clear hown hb hkk io iN
      obtain ⟨xs, hks⟩ := HKS.out
      have HKX : Hid (KStk wr w.heap.size (g.take k) u3 xs) := hks
      have hx := hks.1
      clear hks
      rw [HTL.out] at hx
      have HX : Hid (wr.ownsRow w.heap.size 35 3 u3 k xs) := hx
      obtain ⟨iC, zC, hII⟩ := infoC1
      have HII : Hid (Try.prog.info? 35 = some iC ∧ iC.zero = some zC ∧ iC.size = 3 ∧ iC.bytes = 40 ∧ zC.cells.size = 3) := hII
      have HK3 : Hid (g[k].kids.length ≤ 3) := (kids_graph HG.out k hlt).1
      have HKN : Hid ((kidsN g k).length = g[k].kids.length) := by rw [Hid, kidsN_at k hlt]; simp
      clear hII hx
      go_wp2_with fail
      go_region_held3 (fun w' => w'.cell? ⟨bl, off + k * 3, none⟩ = some (.int .i64 g[k].op) ∧ w'.cell? ⟨bl, off + k * 3 + 1, none⟩ = some (.int .i64 g[k].num) ∧ w'.cell? ⟨bl, off + k * 3 + 2, none⟩ = some (.slice adk g[k].kids.length capk))
        (first
          | go_keep
          | exact ⟨e0, e1, e2⟩
          | exact ⟨d0, d1, d2⟩
          | exact ⟨old_cell d0 _, old_cell d1 _, old_cell d2 _⟩
          | exact ⟨old_cell c0 _, old_cell c1 _, old_cell c2 _⟩)
        (first
          | (refine step_push (by rfl) (.tmp 23) (.tmp 28) (by rfl) wr.heap.size [] (kidsN g k) (.slice (some ⟨wr.heap.size, 0, none⟩) 0 0) (.slice adk g[k].kids.length capk) (by rfl) (stk_zero (Deep.blk_alloc_new wr _) (Nat.le_refl _)) (by rfl) (HKK.out.next ((box_below wr _).drew)) (kids_back HG.out k hlt) (by show wr.heap.size ≤ (wr.alloc _).heap.size; rw [Deep.nblk_alloc]; omega) (by rw [HKN.out]; have := HK3.out; simp only [List.length_nil]; omega) ?_; intro v1 w1 hst1 hg1; have HB1 : Hid (Below wr.heap.size wr w1) := copy_below hg1; have HST1 : Hid (Stk w1 wr.heap.size (kidsN g k) v1) := hst1; obtain ⟨ad1, cap1, rfl⟩ := stk_len2 hst1 HKN.out; have d0 := (HB1.out.cell (p := ⟨bl, off + k * 3, none⟩) lg).trans c0; have d1 := (HB1.out.cell (p := ⟨bl, off + k * 3 + 1, none⟩) lg).trans c1; have d2 := (HB1.out.cell (p := ⟨bl, off + k * 3 + 2, none⟩) lg).trans c2; clear hst1 hg1)
          | (refine step_append_where (by rfl) (.tmp 12) (.tmp 31) 23 (by rfl) w.heap.size 35 iC zC 3 40 Try.underlying23 HII.out.1 HII.out.2.1 HII.out.2.2.1 HII.out.2.2.2.1 HII.out.2.2.2.2 (by decide) u3 k xs (by rfl) (copy_own HX.out HB1.out _) ⟨w1.heap.size, 0, none⟩ 1 1 [.int .i64 g[k].op, .int .i64 g[k].num, .slice ad1 g[k].kids.length cap1] (by rfl) (by rfl) (news3c w1 _ _ _) (by simp [Value.oneCell']) (by unfold maxLen; omega) (by omega) (by show w.heap.size ≤ (w1.alloc _).heap.size; rw [Deep.nblk_alloc]; have := HB1.out.size; omega) (by omega) ?_; intro v3 w3 hown3 hg3 hw3; have HOWN3 : Hid (w3.ownsRow w.heap.size 35 3 v3 (k + 1) (xs ++ [.int .i64 g[k].op, .int .i64 g[k].num, .slice ad1 g[k].kids.length cap1])) := hown3; have HG3 : Hid ((w1.alloc (.cells #[.int .i64 g[k].op, .int .i64 g[k].num, .slice ad1 g[k].kids.length cap1] 35)).grownBy w3 u3.ownBlock) := hg3; have HB3 : Hid (Below w.heap.size w w3) := copy_below3 HB.out HB1.out HX.out hg3; have e0 := (HB3.out.cell (p := ⟨bl, off + k * 3, none⟩) HLW.out).trans HC.out.1; have e1 := (HB3.out.cell (p := ⟨bl, off + k * 3 + 1, none⟩) HLW.out).trans HC.out.2.1; have e2 := (HB3.out.cell (p := ⟨bl, off + k * 3 + 2, none⟩) HLW.out).trans HC.out.2.2; clear hown3 hg3 hw3))
      go_wp2_with fail
      go_roundw
      case rel =>
        refine ⟨k + 1, by omega, by go_num, ?_, ?_, HB3.out⟩
        · have h := copk_push (ws := kidsN g k) (o := g[k].op) (n := g[k].num) HKX.out HB.out.size HB1.out HST1.out _ (by rw [HTL.out]; exact HOWN3.out) HG3.out
          rw [← kids_back HG.out k hlt] at h
          rw [List.take_succ_eq_append_getElem hlt]
          exact ⟨_, h⟩
        have h := copy_push (G := g.take k) (ws := kidsN g k) (o := g[k].op) (n := g[k].num) HO.out HB.out.size HB1.out HST1.out _ (by rw [HTL.out]; exact copy_own HX.out HB1.out _) (by rw [HTL.out]; exact HOWN3.out) HG3.out HIO.out.1 HIO.out.2
        rw [← kids_back HG.out k hlt] at h
        rw [List.take_succ_eq_append_getElem hlt]
        exact h
      case measure => simp [intOf]; omega
    · have hke : k = g.length := by omega
      have HKE : Hid (∃ xs, KStk wr w.heap.size g u3 xs) := by
        have h := HKS.out
        rw [hke, List.take_length] at h
        exact h
      have HE : Hid (OwnC wr w.heap.size (fun b => w.heap.size ≤ b) g u3) := by
        have h := HO.out
        rw [hke, List.take_length] at h
        exact h
      clear hown hb hke
      go_wp2_with fail
      go_ret
      obtain ⟨xs, hxs⟩ := HKE.out
      exact ⟨_, xs, rfl, HE.out, hxs, HB.out⟩
end Go.Proofs.Ytjdlfpdljmohiaa
/-
  MAPS KEYED BY ADDRESSES (pointers, or structs of them): what a look-up finds and what a store leaves, the map seen as a function from keys to values.
-/
namespace Go.Proofs.Ytjdlfpdljmohiaa
set_option linter.unusedVariables false
set_option linter.unusedSimpArgs false
open Go.RowKit Go.MapKept

section
variable {κ : Type} [DecidableEq κ]

/-- where a key stands in a list, and its value -/
def pfind (c : κ) : List (κ × Value) → Nat → Option (Nat × Value)
  | [], _ => none
  | x :: xs, i => if c = x.1 then some (i, x.2) else pfind c xs (i + 1)

theorem pfind_some {c : κ} : ∀ {L : List (κ × Value)} {i j : Nat} {v : Value}, pfind c L i = some (j, v) → ∃ n, j = i + n ∧ L[n]? = some (c, v)
  | [], i, j, v, h => by simp [pfind] at h
  | x :: xs, i, j, v, h => by
    unfold pfind at h
    split at h
    · rename_i hc
      simp only [Option.some.injEq, Prod.mk.injEq] at h
      exact ⟨0, by omega, by rw [← h.2, hc]; simp⟩
    · obtain ⟨n, hn, hg⟩ := pfind_some h
      exact ⟨n + 1, by omega, by simpa using hg⟩

theorem pfind_push_same {c : κ} {v : Value} : ∀ {L : List (κ × Value)} {i : Nat}, pfind c L i = none → pfind c (L ++ [(c, v)]) i = some (i + L.length, v)
  | [], i, _ => by simp [pfind]
  | x :: xs, i, h => by
    unfold pfind at h
    split at h
    · simp at h
    · rename_i hc
      rw [List.cons_append, pfind, if_neg hc, pfind_push_same h]
      simp; omega

theorem pfind_push_other {c d : κ} {v : Value} (hd : d ≠ c) : ∀ {L : List (κ × Value)} {i : Nat}, pfind d (L ++ [(c, v)]) i = pfind d L i
  | [], i => by simp [pfind, hd]
  | x :: xs, i => by rw [List.cons_append, pfind, pfind, pfind_push_other hd]

theorem pfind_set_same {c : κ} {u v : Value} : ∀ {L : List (κ × Value)} {i n : Nat}, pfind c L i = some (i + n, u) → pfind c (L.set n (c, v)) i = some (i + n, v)
  | [], i, n, h => by simp [pfind] at h
  | x :: xs, i, n, h => by
    unfold pfind at h
    split at h
    · rename_i hc
      simp only [Option.some.injEq, Prod.mk.injEq] at h
      have : n = 0 := by omega
      subst this
      simp [pfind]
    · rename_i hc
      obtain ⟨m, hm, _⟩ := pfind_some h
      have : n = m + 1 := by omega
      subst this
      rw [List.set_cons_succ, pfind, if_neg hc]
      have e : i + (m + 1) = i + 1 + m := by omega
      rw [e] at h ⊢
      exact pfind_set_same h

theorem pfind_set_other {c d : κ} {u v : Value} (hd : d ≠ c) : ∀ {L : List (κ × Value)} {i n : Nat}, L[n]? = some (c, u) → pfind d (L.set n (c, v)) i = pfind d L i
  | [], i, n, h => by simp at h
  | x :: xs, i, 0, h => by
    simp only [List.getElem?_cons_zero, Option.some.injEq] at h
    subst h
    simp [pfind, hd]
  | x :: xs, i, n + 1, h => by
    rw [List.set_cons_succ, pfind, pfind, pfind_set_other hd (by simpa using h)]

/-- what is asked of the keys of a type: how they lie in values, and when they are compared -/
structure PKey (P : Program) (kt : TypeId) (emb : κ → Value) (ok : World → κ → Prop) : Prop where
  check : ∀ (w : World) (e : Bool) (x : κ), (Instr.checkKey e 10000 kt (emb x)).run P w = .ok () w
  under : ∃ d, P.underlying kt = some d ∧ ∀ x y, Instr.sameNow d (emb x) (emb y) = none
  eq : ∀ (w : World) (x y : κ), ok w x → ok w y → (Op.equal kt (emb x) (emb y)).run P w = .ok (decide (x = y)) w
  stays : ∀ x, Instr.sameBits 10000 (emb x) (emb x) = true

/-- block b is a map, its keys of K, seen as the function M -/
def PMap (emb : κ → Value) (w : World) (b : Nat) (K : κ → Prop) (M : κ → Option Value) : Prop :=
  ∃ es clock L, w.heap[b]? = some (.map es clock) ∧ es.toList.map (fun e => (e.key, e.val)) = L.map (fun x : κ × Value => (emb x.1, x.2)) ∧ (∀ x ∈ L, K x.1) ∧ ∀ c, M c = (pfind c L 0).map (·.2)

/-- a function changed at one place -/
def pput (M : κ → Option Value) (a : κ) (v : Value) : κ → Option Value := fun c => if c = a then some v else M c
@[simp] theorem pput_same (M : κ → Option Value) (a : κ) (v : Value) : pput M a v a = some v := by simp [pput]
theorem pput_other (M : κ → Option Value) {a c : κ} (v : Value) (h : c ≠ a) : pput M a v c = M c := by simp [pput, h]

variable {P : Program} {kt et mt : TypeId} {emb : κ → Value} {ok : World → κ → Prop} {w : World} {b : Nat} {K : κ → Prop} {M : κ → Option Value}

theorem PMap.made (w : World) (K : κ → Prop) : PMap emb (w.alloc (.map #[] 0)) w.heap.size K (fun _ => none) :=
  ⟨#[], 0, [], (heap_alloc w _).1, rfl, by simp, fun c => rfl⟩
theorem PMap.keep {w' : World} (h : PMap emb w b K M) (hb : w'.heap[b]? = w.heap[b]?) : PMap emb w' b K M := by
  obtain ⟨es, clock, L, h1, h2⟩ := h
  exact ⟨es, clock, L, hb.trans h1, h2⟩
theorem PMap.lt (h : PMap emb w b K M) : b < w.heap.size := by
  obtain ⟨es, clock, L, h1, h2⟩ := h
  exact (Array.getElem?_eq_some_iff.1 h1).1
theorem run_findAsking (Q : PKey P kt emb ok) (a : κ) (ha : ok w a) : ∀ (l : List MapEntry) (L : List (κ × Value)) (i : Nat), l.map (fun e => (e.key, e.val)) = L.map (fun x : κ × Value => (emb x.1, x.2)) → (∀ x ∈ L, ok w x.1) →
    (Instr.findAsking kt (emb a) l i).run P w = .ok (pfind a L i) w
  | [], L, i, h, _ => by
    cases L with
    | nil => simp [Instr.findAsking, pfind]
    | cons x xs => simp at h
  | e :: es, L, i, h, hL => by
    cases L with
    | nil => simp at h
    | cons x xs =>
      simp only [List.map_cons, List.cons.injEq, Prod.mk.injEq] at h
      obtain ⟨⟨h1, h2⟩, h3⟩ := h
      have ih := run_findAsking Q a ha es xs (i + 1) h3 (fun y hy => hL y (by simp [hy]))
      have he := Q.eq w a x.1 ha (hL x (by simp))
      rw [← h1] at he
      unfold Instr.findAsking pfind
      simp only [Sem.run_bind, he, Result.andThen]
      by_cases hc : a = x.1
      · simp [hc, h2]
      · simp [hc, ih]

theorem run_findKey_p (Q : PKey P kt emb ok) (a : κ) (ha : ok w a) (l : List MapEntry) (L : List (κ × Value)) (h : l.map (fun e => (e.key, e.val)) = L.map (fun x : κ × Value => (emb x.1, x.2))) (hL : ∀ x ∈ L, ok w x.1) :
    (Instr.findKey kt (emb a) l).run P w = .ok (pfind a L 0) w := by
  obtain ⟨d, hd, hn⟩ := Q.under
  have hf := run_findAsking Q a ha l L 0 h hL
  cases l with
  | nil =>
    cases L with
    | nil => simp [Instr.findKey, run_underlying hd, Result.andThen, Instr.findNow, pfind]
    | cons x xs => simp at h
  | cons e es =>
    cases L with
    | nil => simp at h
    | cons x xs =>
      have h1 : e.key = emb x.1 := by simp only [List.map_cons, List.cons.injEq, Prod.mk.injEq] at h; exact h.1.1
      have hnow : Instr.findNow d (emb a) (e :: es) 0 = none := by simp [Instr.findNow, h1, hn]
      simp [Instr.findKey, run_underlying hd, Result.andThen, hnow, hf]

/-- 'm[k]' -/
theorem PMap.look (h : PMap emb w b K M) (Q : PKey P kt emb ok) (hm : P.underlying mt = some (.map kt et)) (hK : ∀ x, K x → ok w x) {z : Value} (hz : (zeroValue et).run P w = .ok z w) (a : κ) (ha : ok w a) :
    (Instr.lookup mt (.map (some b)) (emb a) false).run P w = .ok ((M a).getD z) w ∧
    (Instr.lookup mt (.map (some b)) (emb a) true).run P w = .ok (.tuple #[(M a).getD z, .bool (M a).isSome]) w := by
  obtain ⟨es, clock, L, h1, h2, h3, h4⟩ := h
  have hf := run_findKey_p Q a ha es.toList L h2 (fun x hx => hK _ (h3 x hx))
  rw [h4 a]
  cases hp : pfind a L 0 with
  | none =>
    rw [hp] at hf
    constructor <;> simp [Instr.lookup, run_underlying hm, MapKept.run_getObj_map h1, Q.check, hf, hz, Result.andThen]
  | some y =>
    obtain ⟨n, v⟩ := y
    rw [hp] at hf
    constructor <;> simp [Instr.lookup, run_underlying hm, MapKept.run_getObj_map h1, Q.check, hf, Result.andThen]

/-- 'm[k] = v' -/
theorem PMap.store (h : PMap emb w b K M) (Q : PKey P kt emb ok) (hm : P.underlying mt = some (.map kt et)) (hK : ∀ x, K x → ok w x) (a : κ) (ha : ok w a) (hKa : K a) (v : Value) :
    ∃ o, (Instr.mapUpdate mt (.map (some b)) (emb a) v).run P w = .ok () { w with heap := w.heap.setIfInBounds b o } ∧ PMap emb { w with heap := w.heap.setIfInBounds b o } b K (pput M a v) := by
  obtain ⟨es, clock, L, h1, h2, h3, h4⟩ := h
  have hf := run_findKey_p Q a ha es.toList L h2 (fun x hx => hK _ (h3 x hx))
  cases hp : pfind a L 0 with
  | none =>
    rw [hp] at hf
    refine ⟨_, by simp [Instr.mapUpdate, run_underlying hm, MapKept.run_getObj_map h1, Q.check, hf, MapKept.run_setObj_map _ h1, Result.andThen]; rfl, _, _, L ++ [(a, v)], (heap_set h1).1, by simp [h2], ?_, ?_⟩
    · intro x hx
      simp only [List.mem_append, List.mem_singleton] at hx
      rcases hx with hx | rfl
      · exact h3 x hx
      · exact hKa
    · intro c
      by_cases hc : c = a
      · subst hc; simp [pfind_push_same hp]
      · rw [pput_other M v hc, pfind_push_other hc, h4]
  | some y =>
    obtain ⟨n, u⟩ := y
    rw [hp] at hf
    obtain ⟨m, hm', hg⟩ := pfind_some hp
    have hnm : n = m := by omega
    subst hnm
    have hlen : es.toList.length = L.length := by have := congrArg List.length h2; simpa using this
    have hlt : n < L.length := (List.getElem?_eq_some_iff.1 hg).1
    have hj : ∃ e, es[n]? = some e ∧ e.key = emb a ∧ e.val = u := by
      have : (es.toList.map (fun e => (e.key, e.val)))[n]? = (L.map (fun x : κ × Value => (emb x.1, x.2)))[n]? := by rw [h2]
      rw [List.getElem?_map, List.getElem?_map, hg] at this
      cases he : es[n]? with
      | none => rw [Array.getElem?_toList, he] at this; simp at this
      | some e =>
        rw [Array.getElem?_toList, he] at this
        simp only [Option.map_some, Option.some.injEq, Prod.mk.injEq] at this
        exact ⟨e, rfl, this.1, this.2⟩
    obtain ⟨e, he, hek, hev⟩ := hj
    have hks : (Instr.keyThatStays (emb a) (emb a)).run P w = .ok (emb a) w := by simp [Instr.keyThatStays, Q.stays]
    refine ⟨_, by simp [Instr.mapUpdate, run_underlying hm, MapKept.run_getObj_map h1, Q.check, hf, he, hek, hks, MapKept.run_setObj_map _ h1, Result.andThen]; rfl, _, _, L.set n (a, v), (heap_set h1).1, ?_, ?_, ?_⟩
    · apply List.ext_getElem?
      intro j
      have hj : (es.toList.map (fun e => (e.key, e.val)))[j]? = (L.map (fun x : κ × Value => (emb x.1, x.2)))[j]? := by rw [h2]
      simp only [List.getElem?_map, Array.getElem?_toList] at hj
      simp only [List.getElem?_map, Array.getElem?_toList, Array.getElem?_modify, List.getElem?_set]
      by_cases hij : n = j
      · subst hij
        simp [he, hlt]
      · simp [hij, hj]
    · intro x hx
      rcases List.mem_or_eq_of_mem_set hx with hx | rfl
      · exact h3 x hx
      · exact hKa
    · intro c
      by_cases hc : c = a
      · subst hc
        rw [pput_same, pfind_set_same (by simpa using hp)]
        rfl
      · rw [pput_other M v hc, pfind_set_other hc hg, h4]
end

/-! ### Keys that are pointers -/
/-- an address into cells that are not frozen -/
def PlainAt (w : World) (a : Addr) : Prop := ∃ C T, w.heap[a.block]? = some (.cells C T (0, 0))
theorem eq_ptr {P : Program} {kt te : TypeId} {j : TypeInfo} (hp : P.underlying kt = some (.pointer te)) (hte : P.info? te = some j) (hsz : j.size ≠ 0) (w : World) (x y : Addr) (hx : PlainAt w x) (hy : PlainAt w y) (d : Nat) :
    (Op.equalIn (d + 1) kt (.pointer (some x)) (.pointer (some y))).run P w = .ok (decide (x = y)) w := by
  obtain ⟨C, T, hx⟩ := hx
  obtain ⟨D, U, hy⟩ := hy
  by_cases h : x = y
  · subst h
    simp [Op.equalIn, run_underlying hp, sizeOf, typeInfo, hte, hsz, run_sameAddr_same]
  · simp [Op.equalIn, run_underlying hp, sizeOf, typeInfo, hte, hsz, run_sameAddr_other w h hx hy, h]

/-! ### The operations, for the walk -/
section
variable {κ : Type} [DecidableEq κ] {P : Program} {emb : κ → Value} {ok : World → κ → Prop}
theorem wpList_store_p (w : World) {ops : Array Oper} {rest : List Oper} {o : Oper} {a : Act} {Q : Exit → Act → World → Prop}
    (hg : o.guard = none) (m x v : Operand) (t : TypeId) (hop : o.op = Op.mapUpdate t m x v)
    (kt et : TypeId) (hq : PKey P kt emb ok) (ht : P.underlying t = some (.map kt et)) (b : Nat) (K : κ → Prop) (M : κ → Option Value)
    (hm : a.eval m = .map (some b)) (hown : PMap emb w b K M) (hK : ∀ x, K x → ok w x) (key : κ) (hx : a.eval x = emb key) (hkey : ok w key) (hKk : K key) (val : Value) (hv : a.eval v = val)
    (hk : ∀ o', PMap emb { w with heap := w.heap.setIfInBounds b o' } b K (pput M key val) → wpList P ops Q rest (a.put o.dst undef) { w with heap := w.heap.setIfInBounds b o' }) : wpList P ops Q (o :: rest) a w := by
  refine wpList_plain hg fun K' hK' => ?_
  obtain ⟨o', hrun, hp⟩ := hown.store hq ht hK key hkey hKk val
  unfold Oper.wp
  simp [execOp, hop, hm, hx, hv, hrun, Result.andThen]
  exact hK' _ _ (hk o' hp)
end

/-- a store into a map, seen from the other blocks -/
theorem set_other_block (w : World) (b : Nat) (o : Obj) {k : Nat} (h : k ≠ b) : ({ w with heap := w.heap.setIfInBounds b o } : World).heap[k]? = w.heap[k]? := by
  simp [Ne.symm h]
theorem set_size (w : World) (b : Nat) (o : Obj) : ({ w with heap := w.heap.setIfInBounds b o } : World).heap.size = w.heap.size := by simp
theorem set_below {B : Nat} (w : World) (b : Nat) (o : Obj) (hb : B ≤ b) : Below B w { w with heap := w.heap.setIfInBounds b o } :=
  ⟨rfl, rfl, rfl, by simp, fun k hk => set_other_block w b o (by omega)⟩
end Go.Proofs.Ytjdlfpdljmohiaa
/-
  AN ADDRESS HOLDS ONE TREE; blocks of plain cells; trees that lie in such blocks; the way down nested applications.
-/
namespace Go.Proofs.Ytjdlfpdljmohiaa
set_option linter.unusedVariables false
set_option linter.unusedSimpArgs false
open Go.RowKit

mutual
theorem TrOn.uniq {w : World} {S S' : Nat → Prop} : ∀ (t t' : Tr) (a b c : Value), TrOn w S t a b c → TrOn w S' t' a b c → t = t'
  | .node o n ks, .node o' n' ks', a, b, c, h, h' => by
    simp only [TrOn] at h h'
    obtain ⟨rfl, rfl, -, -, ad, cap, rfl, -, -, h⟩ := h
    obtain ⟨e1, e2, -, -, ad', cap', e3, -, -, h'⟩ := h'
    simp only [Value.int.injEq, true_and] at e1 e2
    simp only [Value.slice.injEq] at e3
    obtain ⟨rfl, hl, rfl⟩ := e3
    subst e1
    subst e2
    congr 1
    rcases h with rfl | ⟨bl, off, rfl, -, hr⟩
    · exact (List.eq_nil_of_length_eq_zero (by simpa using hl.symm)).symm
    · rcases h' with rfl | ⟨bl', off', e, -, hr'⟩
      · exact List.eq_nil_of_length_eq_zero (by simpa using hl)
      · simp only [Option.some.injEq, Addr.mk.injEq] at e
        obtain ⟨rfl, rfl, -⟩ := e
        exact RowOn.uniq bl off ks ks' hl hr hr'
theorem RowOn.uniq {w : World} {S S' : Nat → Prop} (bl off : Nat) : ∀ (ks ks' : List Tr), ks.length = ks'.length → RowOn w S bl off ks → RowOn w S' bl off ks' → ks = ks'
  | [], [], _, _, _ => rfl
  | [], _ :: _, hl, _, _ => by simp at hl
  | _ :: _, [], hl, _, _ => by simp at hl
  | t :: ts, t' :: ts', hl, h, h' => by
    simp only [RowOn] at h h'
    obtain ⟨⟨a, b, c, ha, hb, hc, ht⟩, hr⟩ := h
    obtain ⟨⟨a', b', c', ha', hb', hc', ht'⟩, hr'⟩ := h'
    rw [ha] at ha'
    rw [hb] at hb'
    rw [hc] at hc'
    cases ha'
    cases hb'
    cases hc'
    rw [TrOn.uniq t t' a b c ht ht', RowOn.uniq bl (off + 3) ts ts' (by simpa using hl) hr hr']
end

/-- plain blocks of cells -/
def Pl (w : World) : Nat → Prop := fun k => k < w.heap.size ∧ ∃ C T, w.heap[k]? = some (.cells C T (0, 0))
/-- trees that lie in plain blocks -/
abbrev InP (w : World) (ks : List Tr) (c : Value) : Prop := KidsOn w (Pl w) ks c
theorem Pl.next {w w' : World} (hb : Below w.heap.size w w') {k : Nat} (h : Pl w k) : Pl w' k :=
  ⟨Nat.lt_of_lt_of_le h.1 hb.size, by obtain ⟨C, T, e⟩ := h.2; exact ⟨C, T, (hb.block k h.1).trans e⟩⟩
theorem KidsOn.inP {w : World} {ks : List Tr} {c : Value} (h : InP w ks c) : In w ks c := KidsOn.mono h (fun k hk => hk.1) (fun _ _ => rfl)
theorem KidsOn.nextP {w w' : World} {ks : List Tr} {c : Value} (h : InP w ks c) (hb : Below w.heap.size w w') : InP w' ks c := KidsOn.mono h (fun k hk => hk.next hb) (fun k hk => hb.block k hk.1)
theorem TrOn.nextP {w w' : World} {t : Tr} {a b c : Value} (h : TrOn w (Pl w) t a b c) (hb : Below w.heap.size w w') : TrOn w' (Pl w') t a b c := TrOn.mono (fun k hk => hk.next hb) (fun k hk => hb.block k hk.1) _ _ _ _ h

/-- a tree that lies at an address -/
def LiesAt (w : World) (S : Nat → Prop) (a : Addr) (t : Tr) : Prop :=
  ∃ bl off x y z, a = ⟨bl, off, none⟩ ∧ S bl ∧ w.cell? ⟨bl, off, none⟩ = some x ∧ w.cell? ⟨bl, off + 1, none⟩ = some y ∧ w.cell? ⟨bl, off + 2, none⟩ = some z ∧ TrOn w S t x y z
theorem LiesAt.uniq {w : World} {S S' : Nat → Prop} {a : Addr} {t t' : Tr} (h : LiesAt w S a t) (h' : LiesAt w S' a t') : t = t' := by
  obtain ⟨bl, off, x, y, z, rfl, -, hx, hy, hz, ht⟩ := h
  obtain ⟨bl', off', x', y', z', e, -, hx', hy', hz', ht'⟩ := h'
  simp only [Addr.mk.injEq] at e
  obtain ⟨rfl, rfl, -⟩ := e
  rw [hx] at hx'
  rw [hy] at hy'
  rw [hz] at hz'
  cases hx'
  cases hy'
  cases hz'
  exact TrOn.uniq t t' x y z ht ht'
theorem LiesAt.plain {w w' : World} {a : Addr} {t : Tr} (h : LiesAt w (Pl w) a t) (hb : Below w.heap.size w w') : PlainAt w' a := by
  obtain ⟨bl, off, x, y, z, rfl, hp, -⟩ := h
  exact (hp.next hb).2
/-- element i of a row, as a node -/
theorem RowOn.liesAt {w : World} {S : Nat → Prop} {bl off i : Nat} {ks : List Tr} (hi : i < ks.length) (hS : S bl) (h : RowOn w S bl off ks) : LiesAt w S ⟨bl, off + i * 3, none⟩ ks[i] := by
  obtain ⟨a, b, c, ha, hb, hc, ht⟩ := RowOn.at ks off i hi h
  exact ⟨bl, off + i * 3, a, b, c, rfl, hS, ha, hb, hc, ht⟩

/-- an argument with its three cells -/
abbrev Cd := Tr × Value × Value × Value
/-- the way down nested applications, from a tree and its operands' slice: where it stands, and the arguments met, in order -/
inductive Unw (w : World) (a : Tr) (c : Value) : Tr → Value → List Cd → Prop
  | here : Unw w a c a c []
  | down {t f x : Tr} {ct cf u v r : Value} {l : List Cd} {bl off cap : Nat} : Unw w a c t ct l → t.op = 4 → t.kids = [f, x] → ct = .slice (some ⟨bl, off, none⟩) 2 cap →
      w.cell? ⟨bl, off + 2, none⟩ = some cf → w.cell? ⟨bl, off + 3, none⟩ = some u → w.cell? ⟨bl, off + 4, none⟩ = some v → w.cell? ⟨bl, off + 5, none⟩ = some r → Unw w a c f cf (l ++ [(x, u, v, r)])

/-- two operands, in their cells -/
theorem KidsOn.two {w : World} {S : Nat → Prop} {f x : Tr} {c : Value} (h : KidsOn w S [f, x] c) : ∃ bl off cap a b cf u v r, c = .slice (some ⟨bl, off, none⟩) 2 cap ∧ 2 ≤ cap ∧ cap ≤ maxLen ∧ S bl ∧ RowOn w S bl off [f, x] ∧
    w.cell? ⟨bl, off, none⟩ = some a ∧ w.cell? ⟨bl, off + 1, none⟩ = some b ∧ w.cell? ⟨bl, off + 2, none⟩ = some cf ∧ TrOn w S f a b cf ∧
    w.cell? ⟨bl, off + 3, none⟩ = some u ∧ w.cell? ⟨bl, off + 4, none⟩ = some v ∧ w.cell? ⟨bl, off + 5, none⟩ = some r ∧ TrOn w S x u v r := by
  obtain ⟨ad, cap, rfl, l1, l2, h⟩ := h
  rcases h with h | ⟨bl, off, rfl, hs, hr⟩
  · simp at h
  obtain ⟨a, b, cf, h0, h1, h2, h3⟩ := RowOn.at _ off 0 (by simp) hr
  obtain ⟨u, v, r, g0, g1, g2, g3⟩ := RowOn.at _ off 1 (by simp) hr
  simp only [Nat.zero_mul, Nat.add_zero, Nat.one_mul, List.getElem_cons_zero, List.getElem_cons_succ, Nat.add_assoc] at h0 h1 h2 h3 g0 g1 g2 g3
  exact ⟨bl, off, cap, a, b, cf, u, v, r, rfl, l1, l2, hs, hr, h0, h1, h2, h3, g0, g1, g2, g3⟩

theorem Unw.on {w : World} {S : Nat → Prop} {a t : Tr} {c ct : Value} {l : List Cd} (h : Unw w a c t ct l) (hc : KidsOn w S a.kids c) (ha : I64 a.op ∧ I64 a.num) :
    KidsOn w S t.kids ct ∧ I64 t.op ∧ I64 t.num ∧ (∀ d ∈ l, TrOn w S d.1 d.2.1 d.2.2.1 d.2.2.2) ∧ szT t + l.length ≤ szT a := by
  induction h with
  | here => exact ⟨hc, ha.1, ha.2, by simp, by simp⟩
  | @down t f x ct cf u v r l bl off cap h ho hk hct hcf hu hv hr ih =>
    obtain ⟨i1, i2, i3, i4, i5⟩ := ih
    rw [hk] at i1
    obtain ⟨bl', off', cap', p, q, cf', u', v', r', e, -, -, -, -, h0, h1, h2, h3, g0, g1, g2, g3⟩ := i1.two
    rw [hct] at e
    simp only [Value.slice.injEq, Option.some.injEq, Addr.mk.injEq] at e
    obtain ⟨⟨rfl, rfl, -⟩, -, rfl⟩ := e
    rw [hcf] at h2
    rw [hu] at g0
    rw [hv] at g1
    rw [hr] at g2
    cases h2
    cases g0
    cases g1
    cases g2
    have h4 := trOn_iff.1 h3
    refine ⟨h4.2.2.2.2, h4.2.2.1, h4.2.2.2.1, fun d hd => ?_, ?_⟩
    · simp only [List.mem_append, List.mem_singleton] at hd
      rcases hd with hd | rfl
      · exact i4 d hd
      · exact g3
    · have e1 : szT t = szL [f, x] := by rw [szT_eq, hk]
      simp only [szL, List.length_append, List.length_cons, List.length_nil] at e1 ⊢
      omega
end Go.Proofs.Ytjdlfpdljmohiaa
/-
  WHICH VARIABLES AN EXPRESSION NEEDS, as plain functions on trees: evaluation over two points.
-/
namespace Go.Proofs.Ytjdlfpdljmohiaa
set_option linter.unusedVariables false
set_option linter.unusedSimpArgs false
open Go.RowKit

section
variable {need : List (List Bool)} {v : Int}
end

end Go.Proofs.Ytjdlfpdljmohiaa
/-
  EXPRESSIONS OF A VALID SHAPE, with any of the variables and functions that there can be: their parts, and the way down nested applications.
-/
namespace Go.Proofs.Ytjdlfpdljmohiaa
set_option linter.unusedVariables false
set_option linter.unusedSimpArgs false
open Go.RowKit

/-- of a valid shape -/
def ShE (t : Tr) : Prop := ∃ d, shB 4 6 d t = true
theorem ShE.of_sh {t : Tr} {vars defs : Int} {d : Nat} (h : shB vars defs d t = true) (hv : vars ≤ 4) (hd : defs ≤ 6) : ShE t := ⟨d, shB_mono hv hd d t h⟩
theorem ShE.of_valid {t : Tr} {vars defs : Int} (h : validB t vars defs = true) : ShE t := by
  unfold validB at h
  simp only [Bool.and_eq_true, decide_eq_true_eq] at h
  exact ShE.of_sh h.2.1 h.1.2.1 h.1.2.2.2
theorem ShE.kid {t : Tr} (h : ShE t) {k : Tr} (hk : k ∈ t.kids) : ShE k := by
  obtain ⟨d, h⟩ := h
  cases d with
  | zero => simp [shB] at h
  | succ d =>
    unfold shB at h
    simp only [Bool.and_eq_true, List.all_eq_true] at h
    exact ⟨d, h.2 k hk⟩
theorem ShE.ar {t : Tr} (h : ShE t) : (t.kids.length : Int) = arity t.op := by
  obtain ⟨d, h⟩ := h
  cases d with
  | zero => simp [shB] at h
  | succ d =>
    unfold shB at h
    simp only [Bool.and_eq_true, decide_eq_true_eq] at h
    exact h.1.1
theorem ShE.num {t : Tr} (h : ShE t) (ho : t.op = 3) : 0 ≤ t.num ∧ t.num < 6 := by
  obtain ⟨d, h⟩ := h
  cases d with
  | zero => simp [shB] at h
  | succ d =>
    unfold shB at h
    simp only [Bool.and_eq_true] at h
    have h2 := h.1.2
    unfold ownB at h2
    rw [if_neg (by omega), if_neg (by omega), if_pos ho] at h2
    simpa using h2
/-- which kinds there are, and how many operands -/
theorem ShE.cases {t : Tr} (h : ShE t) : ((t.op = 1 ∨ t.op = 2 ∨ t.op = 3) ∧ t.kids = []) ∨ ((t.op = 6 ∨ t.op = 7) ∧ ∃ a, t.kids = [a]) ∨ ((t.op = 4 ∨ t.op = 5 ∨ t.op = 8 ∨ t.op = 9) ∧ ∃ a b, t.kids = [a, b]) ∨ (t.op = 10 ∧ ∃ a b c, t.kids = [a, b, c]) := by
  have ha := h.ar
  unfold arity at ha
  split at ha
  · rename_i ho
    exact Or.inl ⟨ho, List.eq_nil_of_length_eq_zero (by omega)⟩
  split at ha
  · rename_i ho
    refine Or.inr (Or.inl ⟨ho, ?_⟩)
    match hk : t.kids, ha with
    | [a], _ => exact ⟨a, rfl⟩
  split at ha
  · rename_i ho
    refine Or.inr (Or.inr (Or.inl ⟨ho, ?_⟩))
    match hk : t.kids, ha with
    | [a, b], _ => exact ⟨a, b, rfl⟩
  split at ha
  · rename_i ho
    refine Or.inr (Or.inr (Or.inr ⟨ho, ?_⟩))
    match hk : t.kids, ha with
    | [a, b, c], _ => exact ⟨a, b, c, rfl⟩
  · omega
end Go.Proofs.Ytjdlfpdljmohiaa
/-
  THE LAWS' OWN COPY OF AN ARGUMENT (toExpr, toExprS): the same trees, in new memory; nothing that was there is changed.
-/
namespace Go.Proofs.Ytjdlfpdljmohiaa
set_option linter.unusedVariables false
set_option linter.unusedSimpArgs false
open Go.RowKit

/-- blocks from lo on, below hi -/
def Btw (lo hi : Nat) : Nat → Prop := fun k => lo ≤ k ∧ k < hi
theorem infoE : (Try.prog.info? 30).map (fun i => (i.zero, i.size, i.bytes)) = some (some (.agg #[.int .i64 0, .int .i64 0, .slice none 0 0]), 3, 40) := by kernel_rfl

end Go.Proofs.Ytjdlfpdljmohiaa
/-
  THE MODEL's PARSER, as plain functions on bytes.
-/
namespace Go.Proofs.Ytjdlfpdljmohiaa
set_option linter.unusedVariables false
set_option linter.unusedSimpArgs false
open Go.RowKit

/-- byte i of a text -/
def bN (s : ByteArray) (i : Nat) : Nat := if h : i < s.size then (s[i]'h).toNat else 0
theorem bN_at {s : ByteArray} {i : Nat} (h : i < s.size) : (s[i]'h).toNat = bN s i := by unfold bN; rw [dif_pos h]
theorem bN_lt (s : ByteArray) (i : Nat) : bN s i < 256 := by
  unfold bN
  split
  · exact UInt8.toNat_lt _
  · omega
/-- does a byte stand at a place? -/
def isAtB (s : ByteArray) (at' : Int) (c : Nat) : Bool := decide (0 ≤ at') && (decide (at' < s.size) && decide (bN s at'.toNat = c))
/-- a number's digits, at most so many: the number, and the place behind them -/
def numE (s : ByteArray) : Nat → Nat → Nat → Nat × Nat
  | 0, e, n => (n, e)
  | k + 1, e, n => if e < s.size ∧ 48 ≤ bN s e ∧ bN s e ≤ 57 then numE s k (e + 1) (n * 10 + (bN s e - 48)) else (n, e)
abbrev nilT : Tr := .node 0 0 []
/-- operands, each in front of a byte -/
def restT (p : Int → Tr × Int) (s : ByteArray) : List Nat → Int → List Tr → List Tr × Int
  | [], at', out => (out, at')
  | c :: cs, at', out => if isAtB s (p at').2 c = true then restT p s cs ((p at').2 + 1) (out ++ [(p at').1]) else ([], -1)
/-- which operation a byte says -/
def opAtT (s : ByteArray) (at' : Int) : Int := if isAtB s at' 32 = true then 4 else if isAtB s at' 43 = true then 8 else if isAtB s at' 45 = true then 9 else 0
/-- two operands in brackets -/
def binT (p : Int → Tr × Int) (s : ByteArray) (at' : Int) : Tr × Int :=
  if opAtT s (p at').2 = 0 then (nilT, -1)
  else if isAtB s (p ((p at').2 + 1)).2 41 = true then (.node (opAtT s (p at').2) 0 [(p at').1, (p ((p at').2 + 1)).1], (p ((p at').2 + 1)).2 + 1)
  else (nilT, -1)
/-- an expression at a place: the tree, and the place behind it, or -1 -/
def parseT (s : ByteArray) : Nat → Int → Tr × Int
  | 0, _ => (nilT, -1)
  | d + 1, at' =>
    if at' < 0 ∨ (s.size : Int) ≤ at' then (nilT, -1)
    else if 97 ≤ bN s at'.toNat ∧ bN s at'.toNat ≤ 122 then (.node 1 ((bN s at'.toNat : Int) - 97) [], at' + 1)
    else if 65 ≤ bN s at'.toNat ∧ bN s at'.toNat ≤ 90 then (.node 3 ((bN s at'.toNat : Int) - 65) [], at' + 1)
    else if 48 ≤ bN s at'.toNat ∧ bN s at'.toNat ≤ 57 then (.node 2 (numE s 4 at'.toNat 0).1 [], (numE s 4 at'.toNat 0).2)
    else if bN s at'.toNat = 126 then (.node 6 0 [(parseT s d (at' + 1)).1], (parseT s d (at' + 1)).2)
    else if bN s at'.toNat = 94 then (.node 7 0 [(parseT s d (at' + 1)).1], (parseT s d (at' + 1)).2)
    else if bN s at'.toNat = 60 then (.node 5 0 (restT (parseT s d) s [44, 62] (at' + 1) []).1, (restT (parseT s d) s [44, 62] (at' + 1) []).2)
    else if bN s at'.toNat = 91 then (.node 10 0 (restT (parseT s d) s [63, 58, 93] (at' + 1) []).1, (restT (parseT s d) s [63, 58, 93] (at' + 1) []).2)
    else if bN s at'.toNat = 40 then binT (parseT s d) s (at' + 1)
    else (nilT, -1)

/-- the place is none or in the text, the node's numbers are small -/
def PRng (s : ByteArray) (r : Tr × Int) : Prop := (-1 ≤ r.2 ∧ r.2 ≤ s.size) ∧ (0 ≤ r.1.op ∧ r.1.op ≤ 10) ∧ (0 ≤ r.1.num ∧ r.1.num ≤ 9999999)
theorem isAtB_rng {s : ByteArray} {a : Int} {c : Nat} (h : isAtB s a c = true) : 0 ≤ a ∧ a < s.size := by
  unfold isAtB at h
  simp only [Bool.and_eq_true, decide_eq_true_eq] at h
  exact ⟨h.1, h.2.1⟩
theorem numE_rng (s : ByteArray) : ∀ (k e n : Nat), e ≤ s.size → (numE s k e n).2 ≤ s.size ∧ e ≤ (numE s k e n).2 ∧ (numE s k e n).1 ≤ n * 10 ^ k + 10 ^ k
  | 0, e, n, h => by simp [numE, h]
  | k + 1, e, n, h => by
    unfold numE
    have hb := bN_lt s e
    split
    · rename_i hc
      have := numE_rng s k (e + 1) (n * 10 + (bN s e - 48)) (by omega)
      refine ⟨this.1, by omega, Nat.le_trans this.2.2 ?_⟩
      have h9 : bN s e - 48 ≤ 9 := by omega
      have e1 : (n * 10 + (bN s e - 48)) * 10 ^ k ≤ (n * 10 + 9) * 10 ^ k := Nat.mul_le_mul_right _ (by omega)
      rw [Nat.pow_succ]
      have e2 : (n * 10 + 9) * 10 ^ k = n * (10 ^ k * 10) + 9 * 10 ^ k := by rw [Nat.add_mul, Nat.mul_assoc, Nat.mul_comm 10]
      omega
    · refine ⟨h, Nat.le_refl _, ?_⟩
      have : n ≤ n * 10 ^ (k + 1) := Nat.le_mul_of_pos_right _ (Nat.pow_pos (by omega))
      exact Nat.le_trans this (Nat.le_add_right _ _)
theorem restT_rng (p : Int → Tr × Int) (s : ByteArray) (hp : ∀ a, PRng s (p a)) : ∀ (cs : List Nat) (a : Int) (out : List Tr), -1 ≤ a → a ≤ s.size → -1 ≤ (restT p s cs a out).2 ∧ (restT p s cs a out).2 ≤ s.size
  | [], a, out, h1, h2 => by simp [restT, h1, h2]
  | c :: cs, a, out, h1, h2 => by
    unfold restT
    split
    · rename_i hc
      have := isAtB_rng hc
      exact restT_rng p s hp cs _ _ (by omega) (by omega)
    · simp
theorem opAtT_rng (s : ByteArray) (a : Int) : 0 ≤ opAtT s a ∧ opAtT s a ≤ 9 := by
  unfold opAtT
  split
  · omega
  split
  · omega
  split <;> omega
theorem binT_rng (p : Int → Tr × Int) (s : ByteArray) (hp : ∀ a, PRng s (p a)) (a : Int) : PRng s (binT p s a) := by
  have h9 := opAtT_rng s (p a).2
  unfold binT
  split
  · simp [PRng] <;> omega
  split
  · rename_i hc
    have := isAtB_rng hc
    refine ⟨⟨?_, ?_⟩, ⟨?_, ?_⟩, ?_⟩ <;> simp <;> omega
  · simp [PRng] <;> omega
theorem parseT_rng (s : ByteArray) : ∀ (d : Nat) (a : Int), PRng s (parseT s d a)
  | 0, a => by simp [PRng, parseT]
  | d + 1, a => by
    have ih := parseT_rng s d
    have hb := bN_lt s a.toNat
    unfold parseT
    split
    · simp [PRng] <;> omega
    rename_i h0
    split
    · simp [PRng] <;> omega
    split
    · simp [PRng] <;> omega
    split
    · have h4 := numE_rng s 4 a.toNat 0 (by omega)
      simp [PRng] <;> omega
    split
    · have := ih (a + 1); simp [PRng] at this ⊢; omega
    split
    · have := ih (a + 1); simp [PRng] at this ⊢; omega
    split
    · have := restT_rng (parseT s d) s ih [44, 62] (a + 1) [] (by omega) (by omega); simp [PRng] <;> omega
    split
    · have := restT_rng (parseT s d) s ih [63, 58, 93] (a + 1) [] (by omega) (by omega); simp [PRng] <;> omega
    split
    · exact binT_rng _ s ih _
    · simp [PRng] <;> omega
end Go.Proofs.Ytjdlfpdljmohiaa
/-
  THE MODEL's l1At AND l1Number.
-/
namespace Go.Proofs.Ytjdlfpdljmohiaa
set_option linter.unusedVariables false
set_option linter.unusedSimpArgs false
open Go.RowKit

set_option maxRecDepth 100000 in
set_option maxHeartbeats 400000 in
theorem l1At_calls (s : ByteArray) (a : Int) (c : Nat) (w : World) (hc : c < 256) :
    Calls Try.prog 109 #[.string s, .int .i64 a, .int .u8 (c : Int)] w fun e w' => e = .returned (.bool (isAtB s a c)) ∧ w = w' := by
  by_cases h0 : 0 ≤ a
  · by_cases h1 : a < s.size
    · obtain ⟨k, rfl⟩ : ∃ k : Nat, a = (k : Int) := ⟨a.toNat, by omega⟩
      have hk : k < s.size := by omega
      have hb := bN_at hk
      have HV : Hid (isAtB s (k : Int) c = (((bN s k : Nat) : Int) == (c : Int))) := by
        unfold Hid isAtB
        rw [decide_eq_true h0, decide_eq_true h1, Int.toNat_natCast, Bool.true_and, Bool.true_and]
        rw [Bool.eq_iff_iff]
        simp
        omega
      rw [HV.out]
      generalize bN s k = b at hb ⊢
      go_enter Try.func109, Try.ntmps109
      go_wp2_with fail
      go_ret
      exact ⟨rfl, rfl⟩
    · have HV : Hid (isAtB s a c = false) := by unfold Hid isAtB; rw [decide_eq_false h1]; simp
      rw [HV.out]
      go_enter Try.func109, Try.ntmps109
      go_wp2_with fail
      go_ret
      exact ⟨rfl, rfl⟩
  · have HV : Hid (isAtB s a c = false) := by unfold Hid isAtB; rw [decide_eq_false h0]; rfl
    rw [HV.out]
    go_enter Try.func109, Try.ntmps109
    go_wp2_with fail
    go_ret
    exact ⟨rfl, rfl⟩

/-- how large a number can be while so many digits are to come -/
def nbT : Nat → Nat
  | 4 => 0
  | 3 => 9
  | 2 => 99
  | 1 => 999
  | _ => 9999
theorem nbT_le (k : Nat) : nbT k ≤ 9999 := by unfold nbT; split <;> omega
theorem nbT_step {k n b : Nat} (hk : k + 1 ≤ 4) (h : n ≤ nbT (k + 1)) (hb : b ≤ 9) : n * 10 + b ≤ nbT k := by
  rcases (by omega : k = 0 ∨ k = 1 ∨ k = 2 ∨ k = 3) with rfl | rfl | rfl | rfl <;> simp only [nbT] at h ⊢ <;> omega
theorem ret_num {r : Nat × Nat} {n e : Nat} (h : r = (n, e)) : Ending.returned (.tuple #[.agg #[.int .i64 2, .int .i64 (n : Int), .slice none 0 0], .int .i64 (e : Int)]) = .returned (.tuple #[.agg #[.int .i64 2, .int .i64 (r.1 : Int), .slice none 0 0], .int .i64 (r.2 : Int)]) := by rw [h]
set_option maxRecDepth 100000 in
set_option maxHeartbeats 1600000 in
theorem l1Number_calls (s : ByteArray) (a : Nat) (w : World) (ha : a ≤ s.size) (hs : s.size ≤ 1099511627776) :
    Calls Try.prog 106 #[.string s, .int .i64 (a : Int)] w fun e w' => e = .returned (.tuple #[.agg #[.int .i64 2, .int .i64 ((numE s 4 a 0).1 : Int), .slice none 0 0], .int .i64 ((numE s 4 a 0).2 : Int)]) ∧ Below w.heap.size w w' := by
  obtain ⟨r, hr⟩ : ∃ r, r = numE s 4 a 0 := ⟨_, rfl⟩
  rw [← hr]
  have HR := mkHid hr
  clear hr
  go_enter Try.func106, Try.ntmps106
  go_wp2_with fail
  go_loopw [6, 7] (fun nv ev wr => ∃ (k e n : Nat), k ≤ 4 ∧ nv = .int .i64 (n : Int) ∧ ev = .int .i64 (e : Int) ∧ e + k = a + 4 ∧ e ≤ s.size ∧ n ≤ nbT k ∧ Hid (r = numE s k e n) ∧ wr = w.alloc (.cells #[.int .i64 0, .int .i64 0, .slice none 0 0] 30)) (fun _ ev _ => a + 4 - (intOf ev).toNat)
  case atStart => exact ⟨4, a, 0, by omega, rfl, rfl, by omega, ha, by simp, HR.out, rfl⟩
  case round =>
    obtain ⟨k, e, n, hk, rfl, rfl, hek, hes, hn, HRR, rfl⟩ := hrel
    have HBX : Hid (Below w.heap.size w (w.alloc (.cells #[.int .i64 0, .int .i64 0, .slice none 0 0] 30))) := box_below _ _
    have hn9 : n ≤ 9999 := Nat.le_trans hn (nbT_le k)
    cases k with
    | zero =>
      have HST : Hid (r = (n, e)) := HRR
      have hea : (a : Int) + 4 ≤ (e : Int) := by omega
      clear hek hn
      by_cases hes2 : e < s.size
      · skip
        have hbk : (w.alloc (.cells #[.int .i64 2, .int .i64 (n : Int), .slice none 0 0] 30)).heap[w.heap.size]? = some (.cells #[.int .i64 2, .int .i64 (n : Int), .slice none 0 0] 30) := Deep.blk_alloc_new _ _
        have y0 := cell_of_blk hbk 0 _ rfl
        have y1 := cell_of_blk hbk 1 _ rfl
        have y2 := cell_of_blk hbk 2 _ rfl
        have yf := fun i => frz_of_blk hbk i
        go_wp2_with fail
        exact bodyPost_ret (v := .tuple #[.agg #[.int .i64 2, .int .i64 (n : Int), .slice none 0 0], .int .i64 (e : Int)]) (by simp [results, Try.results106, go_sem, y0, y1, y2, yf]) rfl ⟨ret_num HST.out, box_below _ _⟩
      · skip
        have hbk : (w.alloc (.cells #[.int .i64 2, .int .i64 (n : Int), .slice none 0 0] 30)).heap[w.heap.size]? = some (.cells #[.int .i64 2, .int .i64 (n : Int), .slice none 0 0] 30) := Deep.blk_alloc_new _ _
        have y0 := cell_of_blk hbk 0 _ rfl
        have y1 := cell_of_blk hbk 1 _ rfl
        have y2 := cell_of_blk hbk 2 _ rfl
        have yf := fun i => frz_of_blk hbk i
        go_wp2_with fail
        exact bodyPost_ret (v := .tuple #[.agg #[.int .i64 2, .int .i64 (n : Int), .slice none 0 0], .int .i64 (e : Int)]) (by simp [results, Try.results106, go_sem, y0, y1, y2, yf]) rfl ⟨ret_num HST.out, box_below _ _⟩
    | succ k =>
      have hea : (e : Int) < (a : Int) + 4 := by omega
      by_cases hes2 : e < s.size
      case neg =>
        have HST : Hid (r = (n, e)) := by rw [Hid, HRR.out, numE, if_neg (by omega)]
        clear hek hn
        have hbk : (w.alloc (.cells #[.int .i64 2, .int .i64 (n : Int), .slice none 0 0] 30)).heap[w.heap.size]? = some (.cells #[.int .i64 2, .int .i64 (n : Int), .slice none 0 0] 30) := Deep.blk_alloc_new _ _
        have y0 := cell_of_blk hbk 0 _ rfl
        have y1 := cell_of_blk hbk 1 _ rfl
        have y2 := cell_of_blk hbk 2 _ rfl
        have yf := fun i => frz_of_blk hbk i
        go_wp2_with fail
        exact bodyPost_ret (v := .tuple #[.agg #[.int .i64 2, .int .i64 (n : Int), .slice none 0 0], .int .i64 (e : Int)]) (by simp [results, Try.results106, go_sem, y0, y1, y2, yf]) rfl ⟨ret_num HST.out, box_below _ _⟩
      have hb := bN_at hes2
      by_cases h48 : 48 ≤ bN s e
      case neg =>
        have HST : Hid (r = (n, e)) := by rw [Hid, HRR.out, numE, if_neg (by omega)]
        generalize bN s e = b at hb h48
        clear hek hn
        have hbk : (w.alloc (.cells #[.int .i64 2, .int .i64 (n : Int), .slice none 0 0] 30)).heap[w.heap.size]? = some (.cells #[.int .i64 2, .int .i64 (n : Int), .slice none 0 0] 30) := Deep.blk_alloc_new _ _
        have y0 := cell_of_blk hbk 0 _ rfl
        have y1 := cell_of_blk hbk 1 _ rfl
        have y2 := cell_of_blk hbk 2 _ rfl
        have yf := fun i => frz_of_blk hbk i
        go_wp2_with fail
        exact bodyPost_ret (v := .tuple #[.agg #[.int .i64 2, .int .i64 (n : Int), .slice none 0 0], .int .i64 (e : Int)]) (by simp [results, Try.results106, go_sem, y0, y1, y2, yf]) rfl ⟨ret_num HST.out, box_below _ _⟩
      by_cases h57 : bN s e ≤ 57
      case neg =>
        have HST : Hid (r = (n, e)) := by rw [Hid, HRR.out, numE, if_neg (by omega)]
        generalize bN s e = b at hb h48 h57
        clear hek hn
        have hbk : (w.alloc (.cells #[.int .i64 2, .int .i64 (n : Int), .slice none 0 0] 30)).heap[w.heap.size]? = some (.cells #[.int .i64 2, .int .i64 (n : Int), .slice none 0 0] 30) := Deep.blk_alloc_new _ _
        have y0 := cell_of_blk hbk 0 _ rfl
        have y1 := cell_of_blk hbk 1 _ rfl
        have y2 := cell_of_blk hbk 2 _ rfl
        have yf := fun i => frz_of_blk hbk i
        go_wp2_with fail
        exact bodyPost_ret (v := .tuple #[.agg #[.int .i64 2, .int .i64 (n : Int), .slice none 0 0], .int .i64 (e : Int)]) (by simp [results, Try.results106, go_sem, y0, y1, y2, yf]) rfl ⟨ret_num HST.out, box_below _ _⟩
      have HR2 : Hid (r = numE s k (e + 1) (n * 10 + (bN s e - 48))) := by rw [Hid, HRR.out, numE, if_pos ⟨hes2, h48, h57⟩]
      have hn2 : n * 10 + (bN s e - 48) ≤ nbT k := nbT_step hk hn (by omega)
      obtain ⟨q, hq⟩ : ∃ q, q = bN s e - 48 := ⟨_, rfl⟩
      rw [← hq] at HR2 hn2
      have hw1 : IntKind.u8.wrap ((bN s e : Int) - 48) = (q : Int) := by rw [IntWalk.u8_in _ (by omega)]; omega
      have hq9 : q ≤ 9 := by omega
      generalize bN s e = b at hb h48 h57 hw1 hq
      clear hq
      go_wp2_with fail
      go_roundw
      case rel => exact ⟨k, e + 1, n * 10 + q, by omega, by go_num, by go_num, by omega, by omega, hn2, HR2, by trivial⟩
      case measure => simp [intOf]; omega
end Go.Proofs.Ytjdlfpdljmohiaa
/-
  SMALL FACTS ON ROWS OF EXPRESSIONS' CELLS: the element type's row of the table; a new block's cells.
-/
namespace Go.Proofs.Ytjdlfpdljmohiaa
set_option linter.unusedVariables false
set_option linter.unusedSimpArgs false
open Go.RowKit

theorem news3 (w : World) (a b c : Value) (j : Nat) (u : Value) (h : [a, b, c][j]? = some u) : (w.alloc (.cells #[a, b, c] 30)).cell? ((⟨w.heap.size, 0, none⟩ : Addr).add j) = some u := by
  rw [WideShapes.add_plain, Nat.zero_add]
  exact box_cell w #[a, b, c] _ j u (by simpa using h)
theorem infoE3 : ∃ i z, Try.prog.info? 30 = some i ∧ i.zero = some z ∧ i.size = 3 ∧ i.bytes = 40 ∧ z.cells.size = 3 := by
  obtain ⟨i, hi, hzz⟩ := Option.map_eq_some_iff.1 infoE
  simp only [Prod.mk.injEq] at hzz
  obtain ⟨hz, hs, hb⟩ := hzz
  exact ⟨i, _, hi, hz, hs, hb, rfl⟩
end Go.Proofs.Ytjdlfpdljmohiaa
