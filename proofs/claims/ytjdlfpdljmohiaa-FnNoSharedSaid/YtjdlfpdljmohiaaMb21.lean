/-
  PLAIN: without sharing each cell is read once.
-/
import Derived.Test.YtjdlfpdljmohiaaMb20
import Derived.Test.YtjdlfpdljmohiaaMb16
namespace Go.Proofs.Ytjdlfpdljmohiaa
set_option linter.unusedVariables false
set_option linter.unusedSimpArgs false
open Go.RowKit

/-- the cells on the way from a cell to the one for which it stands -/
def wayN (g : List Ce) : Nat → Nat → List Nat
  | 0, _ => []
  | m + 1, a => if opAt g a = 11 then a :: wayN g m (nxt g a) else [a]
/-- all cells that are arrived at when a cell is read -/
def arrT (g : List Ce) : Nat → Nat → List Nat
  | 0, _ => []
  | d + 1, a => match followN g g.length a with
    | none => []
    | some b => wayN g g.length a ++ (kidsN g b).flatMap (arrT g d)
/-- how often a cell stands among the operands of those -/
def useL (g : List Ce) (l : List Nat) (x : Nat) : Nat := useAt g l x
theorem way_use {g : List Ce} {n : Int} (hg : graphB g n = true) (x : Nat) : ∀ (m a b : Nat), a < g.length → followN g m a = some b → cntN (wayN g m a) x + cntN (kidsN g b) x = (if x = a then 1 else 0) + useAt g (wayN g m a) x
  | 0, a, b, _, h => by simp [followN] at h
  | m + 1, a, b, ha, h => by
    unfold followN at h
    unfold wayN
    split at h
    · rename_i ho
      rw [if_pos ho]
      have ho' : g[a].op = 11 := by unfold opAt at ho; rwa [getD_at _ _ _ ha] at ho
      obtain ⟨k, hk1, hk2, hk3⟩ := ind_kid hg a ha ho'
      rw [hk3] at h ⊢
      have ih := way_use hg x m k b hk2 h
      have hka : kidsN g a = [k] := by rw [kidsN_at a ha, hk1]; simp
      have e1 : cntN (a :: wayN g m k) x = (if x = a then 1 else 0) + cntN (wayN g m k) x := by
        rw [show a :: wayN g m k = [a] ++ wayN g m k from rfl, cntN_append, cntN_one]
      have e2 : useAt g (a :: wayN g m k) x = (if x = k then 1 else 0) + useAt g (wayN g m k) x := by
        rw [show a :: wayN g m k = [a] ++ wayN g m k from rfl, useAt_append, useAt_one, hka, cntN_one]
      rw [e1, e2]
      omega
    · rename_i ho
      simp only [Option.some.injEq] at h
      subst h
      rw [if_neg ho, cntN_one, useAt_one]
theorem useAt_flat (g : List Ce) (f : Nat → List Nat) (x : Nat) : ∀ (ks : List Nat), (∀ k ∈ ks, cntN (f k) x = (if x = k then 1 else 0) + useAt g (f k) x) → cntN (ks.flatMap f) x = cntN ks x + useAt g (ks.flatMap f) x
  | [], _ => by simp [cntN, useAt]
  | k :: ks, h => by
    rw [List.flatMap_cons, cntN_append, useAt_append, h k (by simp), useAt_flat g f x ks fun k hk => h k (by simp [hk]), show k :: ks = [k] ++ ks from rfl, cntN_append, cntN_one]
    omega
/-- each arrival is at the beginning, or by an operand of an arrival -/
theorem arr_use {g : List Ce} {n : Int} (hg : graphB g n = true) (x : Nat) : ∀ (d a l : Nat) (t : Tr) (l' : Nat), a < g.length → readT g d a l = some (t, l') → cntN (arrT g d a) x = (if x = a then 1 else 0) + useAt g (arrT g d a) x
  | 0, _, _, _, _, _, h => by simp [readT] at h
  | d + 1, a, l, t, l', ha, h => by
    obtain ⟨b, ts, l1, l2, hf, hk, rfl⟩ := readT_open h
    obtain ⟨hb, -⟩ := followN_lt hg _ _ _ ha hf
    have h1 := way_use hg x g.length a b ha hf
    have h2 := useAt_flat g (arrT g d) x (kidsN g b) fun k hkk => by
      obtain ⟨l3, t3, l4, h3⟩ := readKids_each _ _ _ _ hk k hkk
      exact arr_use hg x d k l3 t3 l4 (kidsN_lt hg b hb k hkk) h3
    unfold arrT
    rw [hf]
    simp only
    rw [cntN_append, useAt_append, h2]
    omega
theorem way_reach {g : List Ce} {n : Int} (hg : graphB g n = true) {r : Nat} : ∀ (m a : Nat), a < g.length → Reach g r a → ∀ x ∈ wayN g m a, Reach g r x ∧ x < g.length
  | 0, a, _, _, x, hx => by simp [wayN] at hx
  | m + 1, a, ha, hr, x, hx => by
    unfold wayN at hx
    split at hx
    · rename_i ho
      have ho' : g[a].op = 11 := by unfold opAt at ho; rwa [getD_at _ _ _ ha] at ho
      obtain ⟨k, hk1, hk2, hk3⟩ := ind_kid hg a ha ho'
      rw [hk3] at hx
      rcases List.mem_cons.1 hx with rfl | hx
      · exact ⟨hr, ha⟩
      · exact way_reach hg m k hk2 (.kid a k hr (by rw [kidsN_at a ha, hk1]; simp)) x hx
    · rw [List.mem_singleton] at hx
      subst hx
      exact ⟨hr, ha⟩
theorem way_end {g : List Ce} : ∀ (m a b : Nat), followN g m a = some b → b ∈ wayN g m a
  | 0, a, b, h => by simp [followN] at h
  | m + 1, a, b, h => by
    unfold followN at h
    unfold wayN
    split at h
    · rename_i ho
      rw [if_pos ho]
      exact List.mem_cons_of_mem _ (way_end m _ b h)
    · rename_i ho
      simp only [Option.some.injEq] at h
      subst h
      rw [if_neg ho]
      simp
theorem arr_reach {g : List Ce} {n : Int} (hg : graphB g n = true) {r : Nat} : ∀ (d a : Nat), a < g.length → Reach g r a → ∀ x ∈ arrT g d a, Reach g r x ∧ x < g.length
  | 0, a, _, _, x, hx => by simp [arrT] at hx
  | d + 1, a, ha, hr, x, hx => by
    unfold arrT at hx
    cases hf : followN g g.length a with
    | none => rw [hf] at hx; simp at hx
    | some b =>
      rw [hf] at hx
      simp only at hx
      rcases List.mem_append.1 hx with hx | hx
      · exact way_reach hg _ a ha hr x hx
      · obtain ⟨k, hk, hxk⟩ := List.mem_flatMap.1 hx
        obtain ⟨hb, -⟩ := followN_lt hg _ _ _ ha hf
        exact arr_reach hg d k (kidsN_lt hg b hb k hk) (.kid b k (reach_trans hr (follow_reach hg _ _ _ ha hf)) hk) x hxk
/-- what is read is arrived at -/
theorem vis_arr (g : List Ce) (x : Nat) : ∀ (d a : Nat), cntN (visT g d a) x ≤ cntN (arrT g d a) x
  | 0, _ => by simp [visT, cntN]
  | d + 1, a => by
    unfold visT arrT
    cases hf : followN g g.length a with
    | none => simp [cntN]
    | some b =>
      simp only
      rw [show b :: (kidsN g b).flatMap (visT g d) = [b] ++ (kidsN g b).flatMap (visT g d) from rfl, cntN_append, cntN_append]
      have h1 : cntN [b] x ≤ cntN (wayN g g.length a) x := by
        rw [cntN_one]
        split
        · rename_i e
          subst e
          unfold cntN
          exact List.countP_pos_iff.2 ⟨x, way_end _ _ _ hf, by simp⟩
        · omega
      have h2 : ∀ ks : List Nat, cntN (ks.flatMap (visT g d)) x ≤ cntN (ks.flatMap (arrT g d)) x := by
        intro ks
        induction ks with
        | nil => simp
        | cons k ks ih =>
          rw [List.flatMap_cons, List.flatMap_cons, cntN_append, cntN_append]
          have := vis_arr g x d k
          omega
      have := h2 (kidsN g b)
      omega
theorem useAt_mem {g : List Ce} {y k : Nat} (hk : k ∈ kidsN g y) : 0 < cntN (kidsN g y) k := by
  unfold cntN
  exact List.countP_pos_iff.2 ⟨k, hk, by simp⟩
/-- where one cell alone of a list has an operand, and once -/
theorem useAt_one_of {g : List Ce} {y k : Nat} : ∀ (l N : List Nat), (∀ x ∈ l, x ∈ N) → N.Nodup → y ∈ N → useAt g N k ≤ 1 → k ∈ kidsN g y → useAt g l k = cntN l y
  | [], N, _, _, _, _, _ => by simp [useAt, cntN]
  | a :: l, N, hs, hn, hy, hu, hk => by
    rw [show a :: l = [a] ++ l from rfl, useAt_append, useAt_one, cntN_append, cntN_one, useAt_one_of l N (fun x hx => hs x (by simp [hx])) hn hy hu hk]
    have key : ∀ z ∈ N, cntN (kidsN g z) k = if z = y then 1 else 0 := by
      intro z hz
      have hyk := useAt_mem (g := g) hk
      have hle : ∀ (M : List Nat) (z : Nat), z ∈ M → cntN (kidsN g z) k ≤ useAt g M k := by
        intro M z hz
        induction M with
        | nil => simp at hz
        | cons m M ih =>
          rw [show m :: M = [m] ++ M from rfl, useAt_append, useAt_one]
          rcases List.mem_cons.1 hz with rfl | hz
          · omega
          · have := ih hz; omega
      by_cases e : z = y
      · subst e
        rw [if_pos rfl]
        have := hle N z hz
        omega
      · rw [if_neg e]
        have h2 : cntN (kidsN g z) k + cntN (kidsN g y) k ≤ useAt g N k := by
          have hperm : ∀ (M : List Nat), M.Nodup → z ∈ M → y ∈ M → cntN (kidsN g z) k + cntN (kidsN g y) k ≤ useAt g M k := by
            intro M hM hzM hyM
            induction M with
            | nil => simp at hzM
            | cons m M ih =>
              rw [List.nodup_cons] at hM
              rw [show m :: M = [m] ++ M from rfl, useAt_append, useAt_one]
              rcases List.mem_cons.1 hzM with rfl | hzM
              · rcases List.mem_cons.1 hyM with rfl | hyM
                · exact absurd rfl e
                · have := hle M y hyM; omega
              · rcases List.mem_cons.1 hyM with h5 | hyM
                · subst h5
                  have := hle M z ‹z ∈ M›; omega
                · have := ih hM.2 ‹z ∈ M› hyM; omega
          exact hperm N hn hz hy
        omega
    rw [key a (hs a (by simp))]
    by_cases e : a = y
    · subst e; simp
    · rw [if_neg e, if_neg (fun h => e h.symm)]
/-- no cell is arrived at twice -/
theorem arr_once {g : List Ce} {n : Int} (hg : graphB g n = true) {d r l : Nat} {t : Tr} {l' : Nat} (hr : r < g.length) (h : readT g d r l = some (t, l')) {N : List Nat} (hN : ∀ x, x ∈ N ↔ Reach g r x ∧ x < g.length) (hn : N.Nodup) (hu : ∀ k, useAt g N k ≤ 1) {x : Nat} (hx : Reach g r x) : cntN (arrT g d r) x ≤ 1 := by
  have hsub : ∀ x ∈ arrT g d r, x ∈ N := fun x hx => (hN x).2 (arr_reach hg d r hr .root x hx)
  have step : ∀ y k, Reach g r y → y < g.length → k ∈ kidsN g y → cntN (arrT g d r) k = (if k = r then 1 else 0) + cntN (arrT g d r) y := fun y k hy hyl hk => by
    rw [arr_use hg k d r l t l' hr h, useAt_one_of _ N hsub hn ((hN y).2 ⟨hy, hyl⟩) (hu k) hk]
  have hlt : ∀ x, Reach g r x → x < g.length := fun x hx => (vis_reach hg hr h hx).1
  -- on the way from the root it does not fall
  have up : ∀ x, Reach g r x → cntN (arrT g d r) r ≤ cntN (arrT g d r) x := by
    intro x hx
    induction hx with
    | root => exact Nat.le_refl _
    | kid y k hy hk ih => rw [step y k hy (hlt y hy) hk]; omega
  induction hx with
  | root =>
    rw [arr_use hg r d r l t l' hr h, if_pos rfl]
    by_cases h0 : useAt g (arrT g d r) r = 0
    · omega
    · obtain ⟨y, hy, hk⟩ : ∃ y ∈ arrT g d r, r ∈ kidsN g y := by
        have pos : ∀ (l : List Nat), useAt g l r ≠ 0 → ∃ a ∈ l, r ∈ kidsN g a := by
          intro l
          induction l with
          | nil => intro h; simp [useAt] at h
          | cons a l ih =>
            intro h
            rw [show a :: l = [a] ++ l from rfl, useAt_append, useAt_one] at h
            by_cases h1 : cntN (kidsN g a) r = 0
            · obtain ⟨b, hb, hk⟩ := ih (by omega)
              exact ⟨b, by simp [hb], hk⟩
            · refine ⟨a, by simp, ?_⟩
              unfold cntN at h1
              obtain ⟨z, hz, e⟩ := List.countP_pos_iff.1 (Nat.pos_of_ne_zero h1)
              have : z = r := by simpa using e
              rwa [this] at hz
        exact pos _ h0
      have hyr := arr_reach hg d r hr .root y hy
      have h1 := step y r hyr.1 hyr.2 hk
      have h2 := up y hyr.1
      rw [if_pos rfl] at h1
      omega
  | kid y k hy hk ih =>
    rw [step y k hy (hlt y hy) hk]
    by_cases e : k = r
    · subst e
      have h1 := step y k hy (hlt y hy) hk
      have h2 := up y hy
      rw [if_pos rfl] at h1
      omega
    · rw [if_neg e]; omega
theorem nodup_cnt : ∀ (l : List Nat), (∀ x ∈ l, cntN l x ≤ 1) → l.Nodup
  | [], _ => List.nodup_nil
  | a :: l, h => by
    rw [List.nodup_cons]
    refine ⟨fun ha => ?_, nodup_cnt l fun x hx => ?_⟩
    · have h1 := h a (by simp)
      rw [show a :: l = [a] ++ l from rfl, cntN_append, cntN_one, if_pos rfl] at h1
      have : 0 < cntN l a := List.countP_pos_iff.2 ⟨a, ha, by simp⟩
      omega
    · have h1 := h x (by simp [hx])
      rw [show a :: l = [a] ++ l from rfl, cntN_append] at h1
      omega
theorem vis_sub {g : List Ce} {n : Int} (hg : graphB g n = true) {r : Nat} : ∀ (d a : Nat), a < g.length → Reach g r a → ∀ x ∈ visT g d a, Reach g r x ∧ x < g.length ∧ opAt g x ≠ 11
  | 0, a, _, _, x, hx => by simp [visT] at hx
  | d + 1, a, ha, hr, x, hx => by
    unfold visT at hx
    cases hf : followN g g.length a with
    | none => rw [hf] at hx; simp at hx
    | some b =>
      rw [hf] at hx
      obtain ⟨hb, ho⟩ := followN_lt hg _ _ _ ha hf
      have hrb := reach_trans hr (follow_reach hg _ _ _ ha hf)
      rcases List.mem_cons.1 hx with rfl | hx
      · exact ⟨hrb, hb, ho⟩
      · obtain ⟨k, hk, hxk⟩ := List.mem_flatMap.1 hx
        exact vis_sub hg d k (kidsN_lt hg b hb k hk) (.kid b k hrb hk) x hxk
/-- without sharing there are as many of them as nodes -/
theorem noInd_all {g : List Ce} {n root : Int} {t : Tr} {fl : Nat → Bool} (h : readB g root n = some t) (hfl : ∀ a, fl a = true ↔ Reach g root.toNat a) (hs : ∀ k, k < g.length → useAt g (numsN fl g.length) k ≤ 1) : (noInd g (numsN fl g.length)).length = 1 + szT t := by
  have h1 := noInd_nodes h hfl
  unfold readB at h
  split at h
  · rename_i hc
    obtain ⟨hg, hr⟩ := hc
    unfold isAt at hr
    simp only [decide_eq_true_eq] at hr
    cases hr2 : readT g 16 root.toNat 60 with
    | none => rw [hr2] at h; simp at h
    | some q =>
      obtain ⟨t', l⟩ := q
      rw [hr2] at h
      simp only [Option.map_some, Option.some.injEq] at h
      subst h
      have hrl : root.toNat < g.length := by omega
      have hN : ∀ x, x ∈ numsN fl g.length ↔ Reach g root.toNat x ∧ x < g.length := fun x => by rw [numsN_mem, hfl]; exact And.comm
      have hnd : (numsN fl g.length).Nodup := (numsN_sorted fl _).imp (fun h => Nat.ne_of_lt h)
      have hu : ∀ k, useAt g (numsN fl g.length) k ≤ 1 := fun k => by
        by_cases hk : k < g.length
        · exact hs k hk
        · refine Classical.byContradiction fun h0' => ?_
          have h0 : useAt g (numsN fl g.length) k ≠ 0 := by omega
          have pos : ∀ (l : List Nat), useAt g l k ≠ 0 → ∃ a ∈ l, k ∈ kidsN g a := by
            intro l
            induction l with
            | nil => intro h; simp [useAt] at h
            | cons a l ih =>
              intro h
              rw [show a :: l = [a] ++ l from rfl, useAt_append, useAt_one] at h
              by_cases h1 : cntN (kidsN g a) k = 0
              · obtain ⟨b, hb, hk⟩ := ih (by omega)
                exact ⟨b, by simp [hb], hk⟩
              · refine ⟨a, by simp, ?_⟩
                unfold cntN at h1
                obtain ⟨z, hz, e⟩ := List.countP_pos_iff.1 (Nat.pos_of_ne_zero h1)
                have : z = k := by simpa using e
                rwa [this] at hz
          obtain ⟨a, ha, hka⟩ := pos _ h0
          exact hk (kidsN_lt hg a ((numsN_mem fl _ a).1 ha).1 k hka)
      have hvn : (visT g 16 root.toNat).Nodup := nodup_cnt _ fun x hx => by
        have hv := vis_sub hg 16 root.toNat hrl .root x hx
        have := arr_once hg hrl hr2 hN hnd hu hv.1
        have := vis_arr g x 16 root.toNat
        omega
      have h2 : (visT g 16 root.toNat).length ≤ (noInd g (numsN fl g.length)).length := nodup_sub _ _ hvn fun x hx => by
        have hv := vis_sub hg 16 root.toNat hrl .root x hx
        unfold noInd
        rw [List.mem_filter]
        exact ⟨(hN x).2 ⟨hv.1, hv.2.1⟩, by simpa using hv.2.2⟩
      rw [vis_len g _ _ _ _ _ hr2] at h2
      omega
  · cases h
end Go.Proofs.Ytjdlfpdljmohiaa
