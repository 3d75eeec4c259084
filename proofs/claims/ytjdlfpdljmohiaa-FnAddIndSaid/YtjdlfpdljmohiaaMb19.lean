/-
  A GRAPH IS COPIED CELL BY CELL, ITS OPERANDS SHARED, AND ONE INDIRECTION MORE: the values of its row; what is read of it.
-/
import Derived.Test.YtjdlfpdljmohiaaMb17
import Derived.Test.YtjdlfpdljmohiaaMb12
namespace Go.Proofs.Ytjdlfpdljmohiaa
set_option linter.unusedVariables false
set_option linter.unusedSimpArgs false
open Go.RowKit

/-- the values of a graph's cells -/
theorem cellVals {w : World} {G : List Ce} {ad : Option Addr} {n cap : Nat} (h : CIn w G (.slice ad n cap)) (hne : G.length ≠ 0) : ∃ bl off, ∃ vals : List Value, ad = some ⟨bl, off, none⟩ ∧ vals.length = G.length * 3 ∧ (∀ j u, vals[j]? = some u → w.cell? ((⟨bl, off, none⟩ : Addr).add j) = some u) ∧ (∀ u ∈ vals, u.oneCell' = true) ∧
    ∀ i (hi : i < G.length), ∃ c, vals[i * 3]? = some (.int .i64 G[i].op) ∧ vals[i * 3 + 1]? = some (.int .i64 G[i].num) ∧ vals[i * 3 + 2]? = some c ∧ I64 G[i].op ∧ I64 G[i].num ∧ IIn w G[i].kids c := by
  obtain ⟨ad', cap', he, -, -, hr⟩ := h
  cases he
  rcases hr with rfl | ⟨bl, off, rfl, -, r⟩
  · simp at hne
  refine ⟨bl, off, (List.range (G.length * 3)).map fun j => (w.cell? ⟨bl, off + j, none⟩).getD undef, rfl, by simp, ?_, ?_, ?_⟩
  all_goals
    have hc : ∀ j, j < G.length * 3 → ∃ u, w.cell? ⟨bl, off + j, none⟩ = some u ∧ u.oneCell' = true := fun j hj => by
      obtain ⟨c, h0, h1, h2, -, -, ad2, cap2, rfl, -⟩ := r (j / 3) (by omega)
      have h3 : j % 3 = 0 ∨ j % 3 = 1 ∨ j % 3 = 2 := by omega
      rcases h3 with e | e | e
      · exact ⟨_, by rw [show off + j = off + j / 3 * 3 by omega]; exact h0, rfl⟩
      · exact ⟨_, by rw [show off + j = off + j / 3 * 3 + 1 by omega]; exact h1, rfl⟩
      · exact ⟨_, by rw [show off + j = off + j / 3 * 3 + 2 by omega]; exact h2, rfl⟩
  · intro j u hu
    rw [List.getElem?_map] at hu
    by_cases hj : j < G.length * 3
    · obtain ⟨u2, hu2, -⟩ := hc j hj
      rw [List.getElem?_range hj] at hu
      simp only [Option.map_some, hu2, Option.getD_some, Option.some.injEq] at hu
      subst hu
      rw [WideShapes.add_plain]
      exact hu2
    · rw [List.getElem?_eq_none (by simp; omega)] at hu
      simp at hu
  · intro u hu
    simp only [List.mem_map, List.mem_range] at hu
    obtain ⟨j, hj, rfl⟩ := hu
    obtain ⟨u2, hu2, h1⟩ := hc j hj
    rw [hu2]
    exact h1
  · intro i hi
    obtain ⟨c, h0, h1, h2, i1, i2, hk⟩ := r i hi
    refine ⟨c, ?_, ?_, ?_, i1, i2, hk⟩
    · rw [List.getElem?_map, List.getElem?_range (by omega)]; simp only [Option.map_some, h0, Option.getD_some]
    · rw [List.getElem?_map, List.getElem?_range (by omega)]; simp only [Option.map_some, ← Nat.add_assoc, h1, Option.getD_some]
    · rw [List.getElem?_map, List.getElem?_range (by omega)]; simp only [Option.map_some, ← Nat.add_assoc, h2, Option.getD_some]
/-- a graph, out of the row that a call has built -/
theorem cin_row {w : World} {lo : Nat} {g : List Ce} {v : Value} {xs : List Value} (h : w.ownsRow lo 35 3 v g.length xs)
    (hk : ∀ j (hj : j < g.length), ∃ c, xs[j * 3]? = some (.int .i64 g[j].op) ∧ xs[j * 3 + 1]? = some (.int .i64 g[j].num) ∧ xs[j * 3 + 2]? = some c ∧ I64 g[j].op ∧ I64 g[j].num ∧ IIn w g[j].kids c) : CIn w g v := by
  rcases h.2 with ⟨rfl, h0⟩ | ⟨b, cap, cur, rfl, hg, hh, hn, hc, hs, htk⟩
  · exact ⟨none, 0, by rw [h0], by omega, by simp [maxLen], Or.inl (List.eq_nil_of_length_eq_zero h0)⟩
  refine ⟨_, cap, rfl, hn, hc, Or.inr ⟨b, 0, rfl, (Array.getElem?_eq_some_iff.1 hh).1, fun i hi => ?_⟩⟩
  obtain ⟨c, e0, e1, e2, i0, i1, hi2⟩ := hk i hi
  have get : ∀ m u, m < g.length * 3 → xs[m]? = some u → w.cell? ⟨b, m, none⟩ = some u := by
    intro m u hm hu
    refine cell_of_blk hh m _ ?_
    rw [← htk, List.getElem?_take_of_lt hm] at hu
    simpa using hu
  refine ⟨c, ?_, ?_, ?_, i0, i1, hi2⟩
  · rw [Nat.zero_add]; exact get _ _ (by omega) e0
  · rw [Nat.zero_add]; exact get _ _ (by omega) e1
  · rw [Nat.zero_add]; exact get _ _ (by omega) e2
/-- .. and one indirection more -/
theorem cin_more {w w6 : World} {lo A root : Nat} {G : List Ce} {v6 : Value} {vals : List Value} (hb : Below w.heap.size w w6) (hl : vals.length = G.length * 3)
    (hv : ∀ i (hi : i < G.length), ∃ c, vals[i * 3]? = some (.int .i64 G[i].op) ∧ vals[i * 3 + 1]? = some (.int .i64 G[i].num) ∧ vals[i * 3 + 2]? = some c ∧ I64 G[i].op ∧ I64 G[i].num ∧ IIn w G[i].kids c)
    (hA : w6.heap[A]? = some (.cells #[.int .i64 (root : Int)] 3)) (h : w6.ownsRow lo 35 3 v6 (G.length + 1) (vals ++ [.int .i64 11, .int .i64 0, .slice (some ⟨A, 0, none⟩) 1 1])) : CIn w6 (G ++ [indTo root]) v6 := by
  have hlen : (G ++ [indTo root]).length = G.length + 1 := by simp
  rw [← hlen] at h
  refine cin_row h fun j hj => ?_
  by_cases hjl : j < G.length
  · obtain ⟨c, e0, e1, e2, i0, i1, hk⟩ := hv j hjl
    rw [List.getElem_append_left hjl]
    exact ⟨c, by rw [List.getElem?_append_left (by omega)]; exact e0, by rw [List.getElem?_append_left (by omega)]; exact e1, by rw [List.getElem?_append_left (by omega)]; exact e2, i0, i1, hk.next hb⟩
  · obtain rfl : j = G.length := by omega
    rw [List.getElem_concat_length rfl]
    refine ⟨.slice (some ⟨A, 0, none⟩) 1 1, ?_, ?_, ?_, by simp [I64, indTo], by simp [I64, indTo], ?_⟩
    · rw [List.getElem?_append_right (by omega)]; simp [hl, indTo]
    · rw [List.getElem?_append_right (by omega)]; simp [hl, indTo]
    · rw [List.getElem?_append_right (by omega)]; simp [hl]
    · refine ⟨_, 1, rfl, Nat.le_refl _, by simp [maxLen], Or.inr ⟨A, 0, rfl, (Array.getElem?_eq_some_iff.1 hA).1, fun i hi => ?_⟩⟩
      obtain rfl : i = 0 := by simp [indTo] at hi; omega
      exact cell_of_blk hA 0 _ (by simp [indTo])

/-! ### It is read as before -/
theorem opAt_app {G : List Ce} (c : Ce) {a : Nat} (ha : a < G.length) : opAt (G ++ [c]) a = opAt G a := by
  unfold opAt; rw [getD_at _ _ _ (by simp; omega), getD_at _ _ _ ha, List.getElem_append_left ha]
theorem nxt_app {G : List Ce} (c : Ce) {a : Nat} (ha : a < G.length) : nxt (G ++ [c]) a = nxt G a := by
  unfold nxt; rw [getD_at _ _ _ (by simp; omega), getD_at _ _ _ ha, List.getElem_append_left ha]
theorem kidsN_app {G : List Ce} (c : Ce) {a : Nat} (ha : a < G.length) : kidsN (G ++ [c]) a = kidsN G a := by
  unfold kidsN; rw [getD_at _ _ _ (by simp; omega), getD_at _ _ _ ha, List.getElem_append_left ha]
theorem follow_app {G : List Ce} {n : Int} (hg : graphB G n = true) (c : Ce) : ∀ (m a : Nat), a < G.length → followN (G ++ [c]) m a = followN G m a
  | 0, a, _ => rfl
  | m + 1, a, ha => by
    unfold followN
    rw [opAt_app c ha, nxt_app c ha]
    split
    · rename_i ho
      exact follow_app hg c m _ (nxt_lt hg a ha ho)
    · rfl
theorem follow_app_all {G : List Ce} {n : Int} (hg : graphB G n = true) (c : Ce) (a : Nat) (ha : a < G.length) : followN (G ++ [c]) (G ++ [c]).length a = followN G G.length a := by
  rw [follow_app hg c _ a ha, List.length_append, List.length_singleton]
  exact follow_enough hg a ha
theorem readKids_congr {f f' : Nat → Nat → Option (Tr × Nat)} : ∀ (ks : List Nat) (l : Nat), (∀ k ∈ ks, ∀ l, f k l = f' k l) → readKids f ks l = readKids f' ks l
  | [], l, _ => rfl
  | k :: ks, l, h => by
    simp only [readKids]
    rw [h k (by simp) l]
    cases f' k l with
    | none => rfl
    | some p =>
      obtain ⟨t, l1⟩ := p
      simp only
      rw [readKids_congr ks l1 fun k hk => h k (by simp [hk])]
theorem readT_app {G : List Ce} {n : Int} (hg : graphB G n = true) (c : Ce) : ∀ (d a l : Nat), a < G.length → readT (G ++ [c]) d a l = readT G d a l
  | 0, a, l, _ => rfl
  | d + 1, a, l, ha => by
    simp only [readT]
    rw [follow_app_all hg c a ha]
    cases hf : followN G G.length a with
    | none => rfl
    | some b =>
      obtain ⟨hb, -⟩ := followN_lt hg _ _ _ ha hf
      cases l with
      | zero => rfl
      | succ l =>
        simp only
        rw [kidsN_app c hb, readKids_congr (kidsN G b) l fun k hk l => readT_app hg c d k l (kidsN_lt hg b hb k hk), getD_at _ _ _ (show b < (G ++ [c]).length by simp; omega), getD_at _ _ _ hb, List.getElem_append_left hb]
/-- an indirection to a cell is read as the cell -/
theorem readB_ind {G : List Ce} {n root : Nat} (hg : graphB G n = true) (hr : root < G.length) (hl : G.length < 400) : readB (G ++ [indTo root]) (G.length : Int) n = readB G (root : Int) n := by
  have h2 := graphB_ind hg hr hl
  rw [readB_yes ⟨h2, by unfold isAt; simp; omega⟩, readB_yes ⟨hg, by unfold isAt; simp; omega⟩, Int.toNat_natCast, Int.toNat_natCast]
  congr 1
  have hlast : (G ++ [indTo root]).getD G.length ⟨0, 0, []⟩ = indTo root := by rw [getD_at _ _ _ (by simp)]; simp
  have ho : opAt (G ++ [indTo root]) G.length = 11 := by unfold opAt; rw [hlast]; rfl
  have hn : nxt (G ++ [indTo root]) G.length = root := by unfold nxt kid0; rw [hlast]; simp [indTo]
  have hf : followN (G ++ [indTo root]) (G ++ [indTo root]).length G.length = followN (G ++ [indTo root]) (G ++ [indTo root]).length root := by
    rw [follow_app_all hg _ root hr, List.length_append, List.length_singleton]
    conv => lhs; unfold followN
    rw [if_pos ho, hn]
    exact follow_app hg _ _ root hr
  rw [show readT (G ++ [indTo root]) 16 G.length 60 = readT (G ++ [indTo root]) 16 root 60 by
    unfold readT
    rw [hf]]
  exact readT_app hg _ 16 root 60 hr
end Go.Proofs.Ytjdlfpdljmohiaa
