/-
  PAIRS OF PLACES: what a list of pairs still to be compared, and the pairs seen, say of two trees. No program is named here.
-/
import Derived.Test.YtglpehelmlehiaaMb1
import Derived.Test.YtglpehelmlehiaaMb8
import Derived.Test.YtglpehelmlehiaaProg
import Derived.Test.YtglpehelmlehiaaMb2
import Derived.Deep.DeepMust
namespace Go.Proofs.Ytglpehelmlehiaa
set_option linter.unusedVariables false
set_option linter.unusedSimpArgs false
open Go.RowKit

/-- the place of operand i of the tree at a place -/
def KidAt (w : World) (x : Addr) (i : Nat) (z : Addr) : Prop :=
  ∃ bl off kb ko n cap, x = ⟨bl, off, none⟩ ∧ w.cell? ⟨bl, off + 2, none⟩ = some (.slice (some ⟨kb, ko, none⟩) n cap) ∧ z = ⟨kb, ko + i * 3, none⟩
theorem KidAt.uniq {w : World} {x z z' : Addr} {i : Nat} (h : KidAt w x i z) (h' : KidAt w x i z') : z = z' := by
  obtain ⟨bl, off, kb, ko, n, cap, rfl, hc, rfl⟩ := h
  obtain ⟨bl', off', kb', ko', n', cap', e, hc', rfl⟩ := h'
  simp only [Addr.mk.injEq] at e
  obtain ⟨rfl, rfl, -⟩ := e
  rw [hc] at hc'
  simp only [Option.some.injEq, Value.slice.injEq, Addr.mk.injEq] at hc'
  obtain ⟨⟨rfl, rfl, -⟩, -⟩ := hc'
  rfl
theorem LiesAt.kid {w : World} {S : Nat → Prop} {x : Addr} {s : Tr} (h : LiesAt w S x s) (i : Nat) (hi : i < s.kids.length) : ∃ z, KidAt w x i z ∧ LiesAt w S z s.kids[i] := by
  obtain ⟨bl, off, a, b, c, rfl, hs, h0, h1, h2, ht⟩ := h
  obtain ⟨-, -, -, -, ad, cap, rfl, -, -, hr⟩ := trOn_iff.1 ht
  rcases hr with hr | ⟨kb, ko, rfl, hk, hr⟩
  · rw [hr] at hi; simp at hi
  · exact ⟨_, ⟨bl, off, kb, ko, _, _, rfl, h2, rfl⟩, RowOn.liesAt hi hk hr⟩
theorem KidAt.lies {w : World} {S : Nat → Prop} {x z : Addr} {s : Tr} {i : Nat} (h : KidAt w x i z) (hx : LiesAt w S x s) (hi : i < s.kids.length) : LiesAt w S z s.kids[i] := by
  obtain ⟨z', hz, hl⟩ := hx.kid i hi
  rw [h.uniq hz]
  exact hl

/-- two places and their trees -/
structure Wk where
  x : Addr
  y : Addr
  s : Tr
  t : Tr
def Wk.key (e : Wk) : Addr × Addr := (e.x, e.y)
def WkOk (w : World) (S : Nat → Prop) (Q : Prop) (e : Wk) : Prop := LiesAt w S e.x e.s ∧ LiesAt w S e.y e.t ∧ (Q → e.s = e.t)
/-- trees lie at both places -/
def Pair2 (w : World) (S : Nat → Prop) (k : Addr × Addr) : Prop := ∃ s t, LiesAt w S k.1 s ∧ LiesAt w S k.2 t
abbrev Mp := Addr × Addr → Option Value
/-- the first operands of both are at one place, or have been seen -/
def KidsSeen (w : World) (M : Mp) (k : Addr × Addr) (m : Nat) : Prop := ∀ i, i < m → ∀ z z', KidAt w k.1 i z → KidAt w k.2 i z' → z = z' ∨ (M (z, z')).isSome = true
def Done (w : World) (S : Nat → Prop) (M : Mp) (k : Addr × Addr) : Prop := ∀ s t, LiesAt w S k.1 s → LiesAt w S k.2 t → s.op = t.op ∧ s.num = t.num ∧ s.kids.length = t.kids.length ∧ KidsSeen w M k s.kids.length
def Seen (root : Addr × Addr) (M : Mp) (k : Addr × Addr) : Prop := k = root ∨ (M k).isSome = true
def Inv (w : World) (S : Nat → Prop) (root : Addr × Addr) (M : Mp) (l : List Wk) (cur : Option (Addr × Addr)) : Prop :=
  ∀ k, Seen root M k → cur = some k ∨ (∃ e ∈ l, e.key = k) ∨ Done w S M k

theorem pput_some {κ : Type} [DecidableEq κ] {M : κ → Option Value} {a : κ} {v : Value} {k : κ} (h : (M k).isSome = true) : (pput M a v k).isSome = true := by
  unfold pput; split <;> simp_all
theorem KidsSeen.put {w : World} {M : Mp} {k a : Addr × Addr} {m : Nat} {v : Value} (h : KidsSeen w M k m) : KidsSeen w (pput M a v) k m :=
  fun i hi z z' hz hz' => (h i hi z z' hz hz').imp id pput_some
theorem Done.put {w : World} {S : Nat → Prop} {M : Mp} {k a : Addr × Addr} {v : Value} (h : Done w S M k) : Done w S (pput M a v) k :=
  fun s t hs ht => by
    obtain ⟨h1, h2, h3, h4⟩ := h s t hs ht
    exact ⟨h1, h2, h3, h4.put⟩

theorem Inv.start (w : World) (S : Nat → Prop) (e : Wk) : Inv w S e.key (fun _ => none) [e] none := by
  intro k hk
  rcases hk with rfl | hk
  · exact Or.inr (Or.inl ⟨e, by simp, rfl⟩)
  · simp at hk
theorem Inv.pop {w : World} {S : Nat → Prop} {root : Addr × Addr} {M : Mp} {l : List Wk} {e : Wk} (h : Inv w S root M (l ++ [e]) none) : Inv w S root M l (some e.key) := by
  intro k hk
  rcases h k hk with h | ⟨d, hd, hdk⟩ | h
  · cases h
  · rw [List.mem_append] at hd
    rcases hd with hd | hd
    · exact Or.inr (Or.inl ⟨d, hd, hdk⟩)
    · rw [List.mem_singleton] at hd
      subst hd
      exact Or.inl (by rw [hdk])
  · exact Or.inr (Or.inr h)
theorem Inv.push {w : World} {S : Nat → Prop} {root : Addr × Addr} {M : Mp} {l : List Wk} {cur : Option (Addr × Addr)} (h : Inv w S root M l cur) (e : Wk) (v : Value) : Inv w S root (pput M e.key v) (l ++ [e]) cur := by
  intro k hk
  by_cases hke : k = e.key
  · exact Or.inr (Or.inl ⟨e, by simp, hke.symm⟩)
  · have hk' : Seen root M k := by
      rcases hk with hk | hk
      · exact Or.inl hk
      · rw [pput_other _ _ hke] at hk; exact Or.inr hk
    rcases h k hk' with h | ⟨d, hd, hdk⟩ | h
    · exact Or.inl h
    · exact Or.inr (Or.inl ⟨d, by simp [hd], hdk⟩)
    · exact Or.inr (Or.inr h.put)
theorem Inv.close {w : World} {S : Nat → Prop} {root : Addr × Addr} {M : Mp} {l : List Wk} {k0 : Addr × Addr} (h : Inv w S root M l (some k0)) (hd : Done w S M k0) : Inv w S root M l none := by
  intro k hk
  rcases h k hk with h | h | h
  · cases h; exact Or.inr (Or.inr hd)
  · exact Or.inr (Or.inl h)
  · exact Or.inr (Or.inr h)
theorem KidsSeen.zero (w : World) (M : Mp) (k : Addr × Addr) : KidsSeen w M k 0 := fun i hi => absurd hi (by omega)
theorem KidsSeen.succ {w : World} {M : Mp} {k : Addr × Addr} {m : Nat} {z z' : Addr} (h : KidsSeen w M k m) (hz : KidAt w k.1 m z) (hz' : KidAt w k.2 m z') (hs : z = z' ∨ (M (z, z')).isSome = true) : KidsSeen w M k (m + 1) := by
  intro i hi y y' hy hy'
  by_cases e : i = m
  · subst e
    rw [hy.uniq hz, hy'.uniq hz']
    exact hs
  · exact h i (by omega) y y' hy hy'
theorem Done.of {w : World} {S : Nat → Prop} {M : Mp} {e : Wk} {Q : Prop} (he : WkOk w S Q e) (h1 : e.s.op = e.t.op) (h2 : e.s.num = e.t.num) (h3 : e.s.kids.length = e.t.kids.length) (h4 : KidsSeen w M e.key e.s.kids.length) : Done w S M e.key := by
  intro s t hs ht
  rw [LiesAt.uniq hs he.1, LiesAt.uniq ht he.2.1]
  exact ⟨h1, h2, h3, h4⟩

theorem tr_ext2 {a b : Tr} (h1 : a.op = b.op) (h2 : a.num = b.num) (h3 : a.kids = b.kids) : a = b := by cases a; cases b; simp_all

/-- nothing is left to compare: the trees of every pair seen are equal -/
theorem Inv.done {w : World} {S : Nat → Prop} {root : Addr × Addr} {M : Mp} (h : Inv w S root M [] none) : ∀ (n : Nat) (k : Addr × Addr) (s t : Tr), szT s ≤ n → Seen root M k → LiesAt w S k.1 s → LiesAt w S k.2 t → s = t := by
  intro n
  induction n using Nat.strongRecOn with
  | ind n ih =>
    intro k s t hz hk hs ht
    rcases h k hk with h | ⟨e, he, -⟩ | h
    · cases h
    · simp at he
    · obtain ⟨h1, h2, h3, h4⟩ := h s t hs ht
      refine tr_ext2 h1 h2 (List.ext_getElem h3 fun i hi hi' => ?_)
      obtain ⟨z, hz1, hl⟩ := hs.kid i hi
      obtain ⟨z', hz2, hl'⟩ := ht.kid i hi'
      rcases h4 i hi z z' hz1 hz2 with e | hsn
      · subst e
        exact LiesAt.uniq hl hl'
      · have hlt := szT_lt_szL s.kids i hi
        rw [← szT_eq] at hlt
        exact ih (szT s.kids[i]) (by omega) (z, z') _ _ (Nat.le_refl _) (Or.inr hsn) hl hl'

/-- how much there is to compare -/
def wkSz (l : List Wk) : Nat := (l.map fun e => 1 + szT e.s).sum
theorem wkSz_snoc (l : List Wk) (e : Wk) : wkSz (l ++ [e]) = wkSz l + (1 + szT e.s) := by simp [wkSz]
theorem wkSz_len (l : List Wk) : l.length ≤ wkSz l := by
  induction l with
  | nil => simp [wkSz]
  | cons e l ih => simp only [wkSz, List.map_cons, List.sum_cons, List.length_cons] at ih ⊢; omega

/-- pairs, as cells -/
def wkCells (l : List Wk) : List Value := l.flatMap fun e => [.pointer (some e.x), .pointer (some e.y)]
theorem wkCells_length (l : List Wk) : (wkCells l).length = l.length * 2 := by
  induction l with
  | nil => rfl
  | cons d l ih =>
    show ([_, _] ++ wkCells l).length = _
    rw [List.length_append, ih]
    simp
    omega
theorem wkCells_snoc (l : List Wk) (e : Wk) : wkCells (l ++ [e]) = wkCells l ++ [.pointer (some e.x), .pointer (some e.y)] := by simp [wkCells]
theorem wkCells_one (l : List Wk) : ∀ u ∈ wkCells l, u.oneCell' = true := by
  intro u hu
  simp only [wkCells, List.mem_flatMap] at hu
  obtain ⟨d, -, hu⟩ := hu
  simp only [List.mem_cons, List.not_mem_nil, or_false] at hu
  rcases hu with rfl | rfl <;> rfl

/-- an owned row, cut at its end -/
theorem own_cut {w : World} {base size n m g cap : Nat} {T : TypeId} {xs ys : List Value} (h : w.ownsRow base T size (.slice (some ⟨g, 0, none⟩) n cap) n (xs ++ ys)) (hl : xs.length = m * size) (hm : m ≤ n) : w.ownsRow base T size (.slice (some ⟨g, 0, none⟩) m cap) m xs := by
  obtain ⟨h1, h2⟩ := h
  rcases h2 with ⟨h2, -⟩ | ⟨g', cap', cur, e, hg, hh, hn, hc, hs, htk⟩
  · cases h2
  · cases e
    refine ⟨hl, Or.inr ⟨_, _, cur, rfl, hg, hh, by omega, hc, hs, ?_⟩⟩
    have h3 : m * size ≤ n * size := Nat.mul_le_mul_right _ hm
    have := congrArg (List.take (m * size)) htk
    rw [List.take_take, Nat.min_eq_left h3] at this
    rw [this, ← hl, List.take_left]
theorem own_at {w : World} {base size n g cap : Nat} {T : TypeId} {xs : List Value} (h : w.ownsRow base T size (.slice (some ⟨g, 0, none⟩) n cap) n xs) (j : Nat) (u : Value) (hu : xs[j]? = some u) : w.cell? ⟨g, j, none⟩ = some u := by
  rcases h.2 with ⟨h2, -⟩ | ⟨g', cap', cur, e, hg, hh, hn, hc, hs, htk⟩
  · cases h2
  · cases e
    have hlt : j < n * size := by
      have := (List.getElem?_eq_some_iff.1 hu).1
      rw [h.1] at this
      exact this
    rw [← htk, List.getElem?_take_of_lt hlt, Array.getElem?_toList] at hu
    simp only [World.cell?, hh]
    exact hu
end Go.Proofs.Ytglpehelmlehiaa
/-
  COUNTING NODES: a path of nodes that are being counted, and the counts that are known; what they say of a tree. No program is named here.
-/
namespace Go.Proofs.Ytglpehelmlehiaa
set_option linter.unusedVariables false
set_option linter.unusedSimpArgs false
open Go.RowKit

mutual
/-- how many nodes of a tree are wanted -/
def cntT (p : Tr → Bool) : Tr → Nat
  | .node o n ks => (if p (.node o n ks) then 1 else 0) + cntL p ks
/-- .. of a list of trees -/
def cntL (p : Tr → Bool) : List Tr → Nat
  | [] => 0
  | t :: ts => cntT p t + cntL p ts
end
theorem cntT_eq (p : Tr → Bool) (t : Tr) : cntT p t = (if p t then 1 else 0) + cntL p t.kids := by cases t; simp [cntT]
theorem cntL_sum (p : Tr → Bool) : ∀ (l : List Tr), cntL p l = (l.map (cntT p)).sum
  | [] => by simp [cntL]
  | t :: ts => by rw [cntL, cntL_sum p ts]; simp
theorem cntL_take_succ (p : Tr → Bool) (l : List Tr) (i : Nat) (h : i < l.length) : cntL p (l.take (i + 1)) = cntL p (l.take i) + cntT p l[i] := by
  rw [cntL_sum, cntL_sum, List.take_succ_eq_append_getElem h, List.map_append, List.sum_append]; simp
mutual
theorem cntT_le (p : Tr → Bool) : ∀ t : Tr, cntT p t ≤ 1 + szT t
  | .node o n ks => by
    have := cntL_le p ks
    simp only [cntT, szT]
    split <;> omega
theorem cntL_le (p : Tr → Bool) : ∀ l : List Tr, cntL p l ≤ szL l
  | [] => by simp [cntL, szL]
  | t :: ts => by
    have := cntT_le p t
    have := cntL_le p ts
    simp only [cntL, szL]
    omega
end
theorem cntL_take_le (p : Tr → Bool) (l : List Tr) (i : Nat) : cntL p (l.take i) ≤ szL l := Nat.le_trans (cntL_le p _) (szL_take_le l i)
mutual
theorem cntT_all : ∀ t : Tr, cntT (fun _ => true) t = 1 + szT t
  | .node o n ks => by
    have := cntL_all ks
    simp only [cntT, szT]
    simp [this]
theorem cntL_all : ∀ l : List Tr, cntL (fun _ => true) l = szL l
  | [] => by simp [cntL, szL]
  | t :: ts => by
    have := cntT_all t
    have := cntL_all ts
    simp only [cntL, szL]
    omega
end

/-- a node that is being counted: where, its tree, the operands counted, the sum so far -/
structure Fr where
  x : Addr
  t : Tr
  nx : Nat
  sm : Nat
abbrev Mc := Addr → Option Value
/-- the place of operand i, as a function -/
def kidAddr (w : World) (x : Addr) (i : Nat) : Addr :=
  match w.cell? ⟨x.block, x.off + 2, none⟩ with
  | some (.slice (some a) _ _) => ⟨a.block, a.off + i * 3, none⟩
  | _ => x
theorem KidAt.addr {w : World} {x z : Addr} {i : Nat} (h : KidAt w x i z) : kidAddr w x i = z := by
  obtain ⟨bl, off, kb, ko, n, cap, rfl, hc, rfl⟩ := h
  simp [kidAddr, hc]
def FrOk (w : World) (S : Nat → Prop) (p : Tr → Bool) (f : Fr) : Prop :=
  LiesAt w S f.x f.t ∧ f.nx ≤ f.t.kids.length ∧ f.sm = (if p f.t then 1 else 0) + cntL p (f.t.kids.take f.nx)
/-- the nodes lie in one another, the last one innermost -/
def Nest : List Fr → Prop
  | [] => True
  | f :: fs => (∀ g ∈ fs, szT g.t < szT f.t) ∧ Nest fs
theorem Nest.snoc : ∀ {l : List Fr} {f : Fr}, Nest l → (∀ g ∈ l, szT f.t < szT g.t) → Nest (l ++ [f])
  | [], f, _, _ => by simp [Nest]
  | g :: l, f, h, hf => by
    simp only [List.cons_append, Nest] at h ⊢
    refine ⟨fun d hd => ?_, Nest.snoc h.2 fun d hd => hf d (by simp [hd])⟩
    rw [List.mem_append] at hd
    rcases hd with hd | hd
    · exact h.1 d hd
    · rw [List.mem_singleton] at hd; subst hd; exact hf g (by simp)
theorem Nest.init : ∀ {l : List Fr} {f : Fr}, Nest (l ++ [f]) → Nest l ∧ ∀ g ∈ l, szT f.t < szT g.t
  | [], f, _ => by simp [Nest]
  | g :: l, f, h => by
    simp only [List.cons_append, Nest] at h ⊢
    obtain ⟨h1, h2⟩ := Nest.init h.2
    refine ⟨⟨fun d hd => h.1 d (by simp [hd]), h1⟩, fun d hd => ?_⟩
    rw [List.mem_cons] at hd
    rcases hd with rfl | hd
    · exact h.1 f (by simp)
    · exact h2 d hd
/-- what is known: a count, or that the node is on the path -/
def Known (w : World) (S : Nat → Prop) (p : Tr → Bool) (l : List Fr) (k : Addr) (v : Value) : Prop :=
  ∃ t, LiesAt w S k t ∧ (v = .int .i64 (cntT p t) ∨ (v = .int .i64 (-1) ∧ ∃ f ∈ l, f.x = k))
def TInv (w : World) (S : Nat → Prop) (p : Tr → Bool) (M : Mc) (l : List Fr) : Prop :=
  (∀ f ∈ l, FrOk w S p f) ∧ Nest l ∧ ∀ k v, M k = some v → Known w S p l k v

/-- what is still to be done -/
def wtOf (M : Mc) (k : Addr) (t : Tr) : Nat := if (M k).isSome then 1 else 3 * (1 + szT t)
def remL (w : World) (M : Mc) (x : Addr) : Nat → List Tr → Nat
  | _, [] => 0
  | i, k :: ks => wtOf M (kidAddr w x i) k + remL w M x (i + 1) ks
def remF (w : World) (M : Mc) (f : Fr) : Nat := remL w M f.x f.nx (f.t.kids.drop f.nx)
def remP (w : World) (M : Mc) (l : List Fr) : Nat := (l.map (remF w M)).sum + l.length
theorem wtOf_put (M : Mc) (a k : Addr) (v : Value) (t : Tr) : wtOf (pput M a v) k t ≤ wtOf M k t := by
  unfold wtOf
  by_cases h : (M k).isSome = true
  · rw [if_pos h, if_pos (pput_some h)]; exact Nat.le_refl _
  · rw [if_neg h]; split <;> omega
theorem remL_put (w : World) (M : Mc) (a x : Addr) (v : Value) : ∀ (l : List Tr) (i : Nat), remL w (pput M a v) x i l ≤ remL w M x i l
  | [], _ => by simp [remL]
  | k :: ks, i => by
    have := remL_put w M a x v ks (i + 1)
    have := wtOf_put M a (kidAddr w x i) v k
    simp only [remL]
    omega
theorem remP_put (w : World) (M : Mc) (a : Addr) (v : Value) : ∀ (l : List Fr), (l.map (remF w (pput M a v))).sum ≤ (l.map (remF w M)).sum
  | [] => by simp
  | f :: l => by
    have := remP_put w M a v l
    have := remL_put w M a f.x v (f.t.kids.drop f.nx) f.nx
    simp only [List.map_cons, List.sum_cons, remF] at this ⊢
    omega
theorem remL_le (w : World) (M : Mc) (x : Addr) : ∀ (l : List Tr) (i : Nat), remL w M x i l ≤ 3 * szL l
  | [], _ => by simp [remL, szL]
  | k :: ks, i => by
    have := remL_le w M x ks (i + 1)
    have : wtOf M (kidAddr w x i) k ≤ 3 * (1 + szT k) := by unfold wtOf; split <;> omega
    simp only [remL, szL]
    omega
theorem remF_at (w : World) (M : Mc) (f : Fr) (h : f.nx < f.t.kids.length) : remF w M f = wtOf M (kidAddr w f.x f.nx) f.t.kids[f.nx] + remL w M f.x (f.nx + 1) (f.t.kids.drop (f.nx + 1)) := by
  unfold remF
  rw [List.drop_eq_getElem_cons h]
  rfl
theorem remP_snoc (w : World) (M : Mc) (l : List Fr) (f : Fr) : remP w M (l ++ [f]) = (l.map (remF w M)).sum + l.length + (remF w M f + 1) := by
  simp [remP]; omega

/-- a node is counted: it leaves the path -/
theorem TInv.pop {w : World} {S : Nat → Prop} {p : Tr → Bool} {M : Mc} {l : List Fr} {f : Fr} (h : TInv w S p M (l ++ [f])) (hf : f.nx = f.t.kids.length) :
    TInv w S p (pput M f.x (.int .i64 (f.sm : Int))) l ∧ f.sm = cntT p f.t ∧ remP w (pput M f.x (.int .i64 (f.sm : Int))) l < remP w M (l ++ [f]) := by
  obtain ⟨h1, h2, h3⟩ := h
  obtain ⟨f1, -, f3⟩ := h1 f (by simp)
  have hsm : f.sm = cntT p f.t := by rw [f3, cntT_eq, hf, List.take_length]
  refine ⟨⟨fun g hg => h1 g (by simp [hg]), h2.init.1, fun k v hk => ?_⟩, hsm, ?_⟩
  · by_cases e : k = f.x
    · subst e
      rw [pput_same] at hk
      cases hk
      exact ⟨f.t, f1, Or.inl (by rw [hsm])⟩
    · rw [pput_other _ _ e] at hk
      obtain ⟨t, ht, hv⟩ := h3 k v hk
      refine ⟨t, ht, hv.imp id fun ⟨e1, g, hg, hgx⟩ => ⟨e1, g, ?_, hgx⟩⟩
      rw [List.mem_append] at hg
      rcases hg with hg | hg
      · exact hg
      · rw [List.mem_singleton] at hg; subst hg; exact absurd hgx.symm e
  · rw [remP_snoc]
    have := remP_put w M f.x (.int .i64 (f.sm : Int)) l
    unfold remP
    omega
/-- an operand that is counted already -/
theorem TInv.found {w : World} {S : Nat → Prop} {p : Tr → Bool} {M : Mc} {l : List Fr} {f : Fr} (h : TInv w S p M (l ++ [f])) (hf : f.nx < f.t.kids.length) {v : Value} (hv : M (kidAddr w f.x f.nx) = some v) :
    v = .int .i64 (cntT p f.t.kids[f.nx] : Int) ∧ TInv w S p M (l ++ [⟨f.x, f.t, f.nx + 1, f.sm + cntT p f.t.kids[f.nx]⟩]) ∧ remP w M (l ++ [⟨f.x, f.t, f.nx + 1, f.sm + cntT p f.t.kids[f.nx]⟩]) < remP w M (l ++ [f]) := by
  obtain ⟨h1, h2, h3⟩ := h
  obtain ⟨f1, f2, f3⟩ := h1 f (by simp)
  obtain ⟨n1, n2⟩ := h2.init
  obtain ⟨z, hz, hl⟩ := f1.kid f.nx hf
  have hza := hz.addr
  have hlt := szT_lt_szL f.t.kids f.nx hf
  rw [← szT_eq] at hlt
  refine ⟨?_, ⟨fun g hg => ?_, ?_, fun k u hk => ?_⟩, ?_⟩
  · obtain ⟨t, ht, hv'⟩ := h3 _ v hv
    rw [hza] at ht hv'
    have := ht.uniq hl
    subst this
    rcases hv' with hv' | ⟨-, g, hg, hgx⟩
    · exact hv'
    · exfalso
      have hg1 := (h1 g hg).1
      rw [hgx] at hg1
      have he := hg1.uniq hl
      rw [List.mem_append] at hg
      rcases hg with hg | hg
      · have := n2 g hg; rw [he] at this; omega
      · rw [List.mem_singleton] at hg; subst hg; have := congrArg szT he; omega
  · rw [List.mem_append] at hg
    rcases hg with hg | hg
    · exact h1 g (by simp [hg])
    · rw [List.mem_singleton] at hg
      subst hg
      refine ⟨f1, hf, ?_⟩
      show f.sm + _ = _
      rw [f3, cntL_take_succ p _ _ hf, Nat.add_assoc]
  · exact Nest.snoc n1 n2
  · obtain ⟨t, ht, hv'⟩ := h3 k u hk
    refine ⟨t, ht, hv'.imp id fun ⟨e1, g, hg, hgx⟩ => ⟨e1, ?_⟩⟩
    rw [List.mem_append] at hg
    rcases hg with hg | hg
    · exact ⟨g, by simp [hg], hgx⟩
    · rw [List.mem_singleton] at hg; subst hg; exact ⟨_, List.mem_append_right _ (List.mem_singleton.2 rfl), hgx⟩
  · rw [remP_snoc, remP_snoc, remF_at w M f hf]
    have : wtOf M (kidAddr w f.x f.nx) f.t.kids[f.nx] = 1 := by unfold wtOf; rw [hv]; rfl
    rw [this]
    show _ + _ + (remL w M f.x (f.nx + 1) (f.t.kids.drop (f.nx + 1)) + 1) < _
    omega
/-- an operand that is new: it goes onto the path -/
theorem TInv.push {w : World} {S : Nat → Prop} {p : Tr → Bool} {M : Mc} {l : List Fr} {f : Fr} (h : TInv w S p M (l ++ [f])) (hf : f.nx < f.t.kids.length) (hv : M (kidAddr w f.x f.nx) = none) :
    TInv w S p (pput M (kidAddr w f.x f.nx) (.int .i64 (-1))) (l ++ [f] ++ [⟨kidAddr w f.x f.nx, f.t.kids[f.nx], 0, if p f.t.kids[f.nx] then 1 else 0⟩]) ∧
      remP w (pput M (kidAddr w f.x f.nx) (.int .i64 (-1))) (l ++ [f] ++ [⟨kidAddr w f.x f.nx, f.t.kids[f.nx], 0, if p f.t.kids[f.nx] then 1 else 0⟩]) < remP w M (l ++ [f]) := by
  obtain ⟨h1, h2, h3⟩ := h
  obtain ⟨f1, f2, f3⟩ := h1 f (by simp)
  obtain ⟨n1, n2⟩ := h2.init
  obtain ⟨z, hz, hl⟩ := f1.kid f.nx hf
  have hza := hz.addr
  have hlt := szT_lt_szL f.t.kids f.nx hf
  rw [← szT_eq] at hlt
  refine ⟨⟨fun g hg => ?_, ?_, fun k u hk => ?_⟩, ?_⟩
  · rw [List.mem_append] at hg
    rcases hg with hg | hg
    · exact h1 g hg
    · rw [List.mem_singleton] at hg
      subst hg
      exact ⟨by rw [hza]; exact hl, Nat.zero_le _, by simp [cntL]⟩
  · refine Nest.snoc h2 fun g hg => ?_
    rw [List.mem_append] at hg
    rcases hg with hg | hg
    · have := n2 g hg
      show szT f.t.kids[f.nx] < _
      omega
    · rw [List.mem_singleton] at hg; subst hg; exact hlt
  · by_cases e : k = kidAddr w f.x f.nx
    · subst e
      rw [pput_same] at hk
      cases hk
      exact ⟨_, by rw [hza]; exact hl, Or.inr ⟨rfl, _, List.mem_append_right _ (List.mem_singleton.2 rfl), rfl⟩⟩
    · rw [pput_other _ _ e] at hk
      obtain ⟨t, ht, hv'⟩ := h3 k u hk
      exact ⟨t, ht, hv'.imp id fun ⟨e1, g, hg, hgx⟩ => ⟨e1, g, List.mem_append_left _ hg, hgx⟩⟩
  · rw [remP_snoc, remP_snoc, List.map_append, List.sum_append]
    have a1 := remP_put w M (kidAddr w f.x f.nx) (.int .i64 (-1)) l
    have a2 := remF_at w M f hf
    have a3 := remF_at w (pput M (kidAddr w f.x f.nx) (.int .i64 (-1))) f hf
    have a4 := remL_put w M (kidAddr w f.x f.nx) f.x (.int .i64 (-1)) (f.t.kids.drop (f.nx + 1)) (f.nx + 1)
    have b1 : wtOf M (kidAddr w f.x f.nx) f.t.kids[f.nx] = 3 * (1 + szT f.t.kids[f.nx]) := by unfold wtOf; rw [hv]; simp
    have b2 : wtOf (pput M (kidAddr w f.x f.nx) (.int .i64 (-1))) (kidAddr w f.x f.nx) f.t.kids[f.nx] = 1 := by unfold wtOf; rw [pput_same]; rfl
    have a5 : remF w (pput M (kidAddr w f.x f.nx) (.int .i64 (-1))) ⟨kidAddr w f.x f.nx, f.t.kids[f.nx], 0, if p f.t.kids[f.nx] then 1 else 0⟩ ≤ 3 * szT f.t.kids[f.nx] := by
      have := remL_le w (pput M (kidAddr w f.x f.nx) (.int .i64 (-1))) (kidAddr w f.x f.nx) (f.t.kids[f.nx]).kids 0
      rw [← szT_eq] at this
      simpa [remF] using this
    rw [b1] at a2
    rw [b2] at a3
    simp only [List.map_cons, List.map_nil, List.sum_cons, List.sum_nil, List.length_append, List.length_cons, List.length_nil]
    omega
theorem TInv.start {w : World} {S : Nat → Prop} {x : Addr} {t : Tr} (h : LiesAt w S x t) (p : Tr → Bool) : TInv w S p (fun _ => none) [⟨x, t, 0, if p t then 1 else 0⟩] := by
  refine ⟨fun f hf => ?_, by simp [Nest], fun k v hk => by simp at hk⟩
  rw [List.mem_singleton] at hf
  subst hf
  exact ⟨h, Nat.zero_le _, by simp [cntL]⟩
/-- how long the path is, how great a sum -/
theorem Nest.len : ∀ {l : List Fr} {n : Nat}, Nest l → (∀ f ∈ l, szT f.t < n) → l.length ≤ n
  | [], n, _, _ => by simp
  | f :: l, n, h, hb => by
    have h1 := hb f (by simp)
    have := Nest.len h.2 h.1
    simp only [List.length_cons]
    omega
/-- the first node -/
def HeadIs (a : Tr) (l : List Fr) : Prop := ∃ g r, l = g :: r ∧ g.t = a
theorem HeadIs.le {a : Tr} {l : List Fr} (h : HeadIs a l) (hn : Nest l) : (∀ f ∈ l, szT f.t ≤ szT a) ∧ l.length ≤ szT a + 1 := by
  obtain ⟨g, r, rfl, rfl⟩ := h
  refine ⟨fun f hf => ?_, ?_⟩
  · rw [List.mem_cons] at hf
    rcases hf with rfl | hf
    · exact Nat.le_refl _
    · exact Nat.le_of_lt (hn.1 f hf)
  · have := Nest.len hn.2 hn.1
    simp only [List.length_cons]
    omega
theorem HeadIs.snoc {a : Tr} {l : List Fr} (h : HeadIs a l) (f : Fr) : HeadIs a (l ++ [f]) := by
  obtain ⟨g, r, rfl, h⟩ := h
  exact ⟨g, r ++ [f], by simp, h⟩
theorem HeadIs.init {a : Tr} {l : List Fr} {f : Fr} (h : HeadIs a (l ++ [f])) (hl : l ≠ []) : HeadIs a l := by
  obtain ⟨g, r, e, h⟩ := h
  cases l with
  | nil => exact absurd rfl hl
  | cons d l =>
    simp only [List.cons_append, List.cons.injEq] at e
    exact ⟨d, l, rfl, by rw [e.1]; exact h⟩
theorem HeadIs.last {a : Tr} {l : List Fr} {f f' : Fr} (h : HeadIs a (l ++ [f])) (ht : f'.t = f.t) : HeadIs a (l ++ [f']) := by
  obtain ⟨g, r, e, h⟩ := h
  cases l with
  | nil =>
    simp only [List.nil_append, List.cons.injEq] at e
    exact ⟨f', [], rfl, by rw [ht, e.1]; exact h⟩
  | cons d l =>
    simp only [List.cons_append, List.cons.injEq] at e
    exact ⟨d, l ++ [f'], by simp, by rw [e.1]; exact h⟩
theorem HeadIs.one {a : Tr} {f : Fr} (h : HeadIs a ([] ++ [f])) : f.t = a := by
  obtain ⟨g, r, e, h⟩ := h
  simp only [List.nil_append, List.cons.injEq] at e
  rw [e.1]; exact h
/-- a place in a later world -/
theorem LiesAt.carry {w w' : World} {x : Addr} {t : Tr} (h : LiesAt w (Pl w) x t) (hb : Below w.heap.size w w') : LiesAt w' (Lt w'.heap.size) x t := by
  obtain ⟨bl, off, a, b, c, rfl, hp, h0, h1, h2, ht⟩ := h
  exact ⟨bl, off, a, b, c, rfl, Nat.lt_of_lt_of_le hp.1 hb.size, (hb.cell (p := ⟨bl, off, none⟩) hp.1).trans h0, (hb.cell (p := ⟨bl, off + 1, none⟩) hp.1).trans h1, (hb.cell (p := ⟨bl, off + 2, none⟩) hp.1).trans h2,
    ht.mono (fun k hk => Nat.lt_of_lt_of_le hk.1 hb.size) (fun k hk => hb.block k hk.1)⟩
/-- nodes, as cells -/
def frCells (l : List Fr) : List Value := l.flatMap fun f => [.pointer (some f.x), .int .i64 (f.nx : Int), .int .i64 (f.sm : Int)]
theorem frCells_length (l : List Fr) : (frCells l).length = l.length * 3 := by
  induction l with
  | nil => rfl
  | cons d l ih =>
    show ([_, _, _] ++ frCells l).length = _
    rw [List.length_append, ih]
    simp
    omega
theorem frCells_snoc (l : List Fr) (f : Fr) : frCells (l ++ [f]) = frCells l ++ [.pointer (some f.x), .int .i64 (f.nx : Int), .int .i64 (f.sm : Int)] := by simp [frCells]
theorem frCells_one (l : List Fr) : ∀ u ∈ frCells l, u.oneCell' = true := by
  intro u hu
  simp only [frCells, List.mem_flatMap] at hu
  obtain ⟨d, -, hu⟩ := hu
  simp only [List.mem_cons, List.not_mem_nil, or_false] at hu
  rcases hu with rfl | rfl | rfl <;> rfl
theorem frCells_top (l : List Fr) (f : Fr) : (frCells (l ++ [f]))[l.length * 3]? = some (.pointer (some f.x)) ∧ (frCells (l ++ [f]))[l.length * 3 + 1]? = some (.int .i64 (f.nx : Int)) ∧ (frCells (l ++ [f]))[l.length * 3 + 2]? = some (.int .i64 (f.sm : Int)) := by
  rw [frCells_snoc, ← frCells_length]
  refine ⟨?_, ?_, ?_⟩
  · rw [List.getElem?_append_right (by omega)]; simp
  · rw [List.getElem?_append_right (by omega)]; simp
  · rw [List.getElem?_append_right (by omega)]; simp
theorem frCells_set (l : List Fr) (f : Fr) (n s : Nat) : ((frCells (l ++ [f])).set (l.length * 3 + 2) (.int .i64 (s : Int))).set (l.length * 3 + 1) (.int .i64 (n : Int)) = frCells (l ++ [⟨f.x, f.t, n, s⟩]) := by
  rw [frCells_snoc, frCells_snoc, ← frCells_length]
  rw [List.set_append_right _ _ (by omega), List.set_append_right _ _ (by omega)]
  simp
end Go.Proofs.Ytglpehelmlehiaa
/-
  REPLACING VARIABLES, plainly: the tree, its size, its variables. No program is named here.
-/
namespace Go.Proofs.Ytglpehelmlehiaa
set_option linter.unusedVariables false
set_option linter.unusedSimpArgs false
open Go.RowKit

mutual
/-- a tree with its variables replaced -/
def sbT (args : List Tr) : Tr → Tr
  | .node o n ks => if o = 1 then args.getD n.toNat default else .node o n (sbL args ks)
def sbL (args : List Tr) : List Tr → List Tr
  | [] => []
  | t :: ts => sbT args t :: sbL args ts
end
theorem sbT_eq (args : List Tr) (t : Tr) : sbT args t = if t.op = 1 then args.getD t.num.toNat default else .node t.op t.num (sbL args t.kids) := by cases t; simp [sbT]
theorem sbL_map (args : List Tr) : ∀ l : List Tr, sbL args l = l.map (sbT args)
  | [] => by simp [sbL]
  | t :: ts => by rw [sbL, sbL_map args ts]; rfl

/-- every node's variable has a place among so many -/
def VarOk (n : Nat) (t : Tr) : Prop := t.op = 1 → 0 ≤ t.num ∧ t.num < n ∧ t.kids = []
mutual
def AllT (P : Tr → Prop) : Tr → Prop
  | .node o n ks => P (.node o n ks) ∧ AllL P ks
def AllL (P : Tr → Prop) : List Tr → Prop
  | [] => True
  | t :: ts => AllT P t ∧ AllL P ts
end
theorem allT_iff (P : Tr → Prop) (t : Tr) : AllT P t ↔ P t ∧ AllL P t.kids := by cases t; simp [AllT]
theorem allL_iff (P : Tr → Prop) : ∀ l : List Tr, AllL P l ↔ ∀ t ∈ l, AllT P t
  | [] => by simp [AllL]
  | t :: ts => by simp [AllL, allL_iff P ts]
theorem AllT.kid {P : Tr → Prop} {t : Tr} (h : AllT P t) (i : Nat) (hi : i < t.kids.length) : AllT P t.kids[i] := (allL_iff P _).1 ((allT_iff P t).1 h).2 _ (List.getElem_mem hi)
theorem allT_true (P : Tr → Prop) (hP : ∀ t, P t) : ∀ (n : Nat) (t : Tr), szT t ≤ n → AllT P t := by
  intro n
  induction n with
  | zero =>
    intro t h
    refine (allT_iff P t).2 ⟨hP t, (allL_iff P _).2 fun k hk => ?_⟩
    obtain ⟨i, hi, rfl⟩ := List.getElem_of_mem hk
    exact absurd (szT_lt_szL t.kids i hi) (by rw [szT_eq] at h; omega)
  | succ n ih =>
    intro t h
    refine (allT_iff P t).2 ⟨hP t, (allL_iff P _).2 fun k hk => ?_⟩
    obtain ⟨i, hi, rfl⟩ := List.getElem_of_mem hk
    exact ih _ (by have := szT_lt_szL t.kids i hi; rw [szT_eq] at h; omega)
/-- what a well-formed tree's variables are -/
theorem varOk_of_sh (vars : Nat) (defs : Int) : ∀ (d : Nat) (t : Tr), shB vars defs d t = true → AllT (VarOk vars) t
  | 0, t, h => by simp [shB] at h
  | d + 1, t, h => by
    unfold shB at h
    simp only [Bool.and_eq_true, decide_eq_true_eq, List.all_eq_true] at h
    obtain ⟨⟨h1, h2⟩, h3⟩ := h
    refine (allT_iff _ t).2 ⟨fun ho => ?_, (allL_iff _ _).2 fun k hk => varOk_of_sh vars defs d k (h3 k hk)⟩
    unfold ownB at h2
    rw [if_pos ho] at h2
    simp only [decide_eq_true_eq] at h2
    unfold arity at h1
    rw [if_pos (Or.inl ho)] at h1
    exact ⟨h2.1, h2.2, List.eq_nil_of_length_eq_zero (by omega)⟩

/-- is a node the variable i? -/
def isVar (i : Nat) (t : Tr) : Bool := t.op == 1 && t.num == (i : Int)
/-- what the arguments add, so often -/
def gain (args : List Tr) (u : Nat → Nat) : Nat := ((List.range args.length).map fun i => u i * szT (args.getD i default)).sum
theorem sum_map_add (l : List Nat) (f g : Nat → Nat) : (l.map fun i => f i + g i).sum = (l.map f).sum + (l.map g).sum := by
  induction l with
  | nil => rfl
  | cons a l ih => simp only [List.map_cons, List.sum_cons, ih]; omega
theorem sum_map_zero (l : List Nat) : (l.map fun _ => 0).sum = 0 := by
  induction l with
  | nil => rfl
  | cons a l ih => simpa using ih
theorem gain_add (args : List Tr) (u v : Nat → Nat) : gain args (fun i => u i + v i) = gain args u + gain args v := by
  unfold gain
  rw [← sum_map_add]
  congr 1
  refine List.map_congr_left fun i _ => ?_
  rw [Nat.add_mul]
theorem gain_congr (args : List Tr) (u v : Nat → Nat) (h : ∀ i, i < args.length → u i = v i) : gain args u = gain args v := by
  unfold gain
  congr 1
  refine List.map_congr_left fun i hi => ?_
  rw [h i (List.mem_range.1 hi)]
theorem gain_zero (args : List Tr) : gain args (fun _ => 0) = 0 := by
  unfold gain
  rw [List.map_congr_left (g := fun _ => 0) (fun i _ => Nat.zero_mul _), sum_map_zero]
theorem sum_one (n j : Nat) (f : Nat → Nat) (h : j < n) : ((List.range n).map fun i => (if i = j then 1 else 0) * f i).sum = f j := by
  induction n with
  | zero => omega
  | succ n ih =>
    rw [List.range_succ, List.map_append, List.sum_append]
    simp only [List.map_cons, List.map_nil, List.sum_cons, List.sum_nil, Nat.add_zero]
    by_cases hj : j = n
    · subst hj
      have : ((List.range j).map fun i => (if i = j then 1 else 0) * f i).sum = 0 := by
        rw [List.map_congr_left (g := fun _ => 0) (fun i hi => ?_), sum_map_zero]
        have := List.mem_range.1 hi
        rw [if_neg (by omega), Nat.zero_mul]
      rw [this, if_pos rfl]
      omega
    · rw [ih (by omega), if_neg (fun e => hj e.symm)]
      omega
theorem gain_one (args : List Tr) (j : Nat) (h : j < args.length) : gain args (fun i => if i = j then 1 else 0) = szT (args.getD j default) := by
  unfold gain
  exact sum_one args.length j (fun i => szT (args.getD i default)) h

mutual
/-- the size of the result -/
theorem sz_sbT (args : List Tr) : ∀ t : Tr, AllT (VarOk args.length) t → szT (sbT args t) = szT t + gain args (fun i => cntT (isVar i) t)
  | .node o n ks, h => by
    obtain ⟨h1, h2⟩ := (allT_iff _ _).1 h
    by_cases ho : o = 1
    · obtain ⟨g1, g2, g3⟩ := h1 ho
      simp only [Tr.num_node, Tr.kids_node] at g1 g2 g3
      subst ho
      subst g3
      have hj : n.toNat < args.length := by omega
      simp only [sbT, if_true, szT, szL, Nat.zero_add]
      rw [← gain_one args n.toNat hj]
      refine gain_congr args _ _ fun i hi => ?_
      simp only [cntT, cntL, Nat.add_zero, isVar, Tr.op_node, Tr.num_node]
      by_cases hin : i = n.toNat
      · obtain rfl : n = (i : Int) := by omega
        simp
      · have : ¬ n = (i : Int) := by omega
        simp [hin, this]
    · have hk := sz_sbL args ks h2
      simp only [sbT, if_neg ho, szT, hk]
      congr 1
      refine gain_congr args _ _ fun i hi => ?_
      simp [cntT, isVar, ho]
theorem sz_sbL (args : List Tr) : ∀ l : List Tr, AllL (VarOk args.length) l → szL (sbL args l) = szL l + gain args (fun i => cntL (isVar i) l)
  | [], _ => by
    simp only [sbL, szL, cntL, Nat.zero_add]
    exact (gain_zero args).symm
  | t :: ts, h => by
    simp only [AllL] at h
    have h1 := sz_sbT args t h.1
    have h2 := sz_sbL args ts h.2
    simp only [sbL, szL, h1, h2]
    rw [show (fun i => cntL (isVar i) (t :: ts)) = fun i => cntT (isVar i) t + cntL (isVar i) ts from rfl, gain_add]
    omega
end
end Go.Proofs.Ytglpehelmlehiaa
/-
  WHAT AddExpr AND BuildGraph HAND BACK.
-/
namespace Go.Proofs.Ytglpehelmlehiaa
set_option linter.unusedVariables false
set_option linter.unusedSimpArgs false
open Go.RowKit

/-- the graph with the expression's cells, the expression's cell, and whether there is one -/
def addOut (g : List Ce) (t : Tr) (xs : List Int) (defs : Int) : List Ce × Nat × Bool :=
  if graphB g defs = true ∧ validB t xs.length defs = true ∧ xs.all (isAt g.length) = true ∧ (addT (xs.map Int.toNat) t g).1.length ≤ 400 then ((addT (xs.map Int.toNat) t g).1, (addT (xs.map Int.toNat) t g).2, true) else ([], 0, false)
theorem addOut_yes {g : List Ce} {t : Tr} {xs : List Int} {defs : Int} (h1 : graphB g defs = true) (h2 : validB t xs.length defs = true) (h3 : xs.all (isAt g.length) = true) (h4 : (addT (xs.map Int.toNat) t g).1.length ≤ 400) : addOut g t xs defs = ((addT (xs.map Int.toNat) t g).1, (addT (xs.map Int.toNat) t g).2, true) := by
  unfold addOut; rw [if_pos ⟨h1, h2, h3, h4⟩]
theorem addOut_no {g : List Ce} {t : Tr} {xs : List Int} {defs : Int} (h : ¬ (graphB g defs = true ∧ validB t xs.length defs = true ∧ xs.all (isAt g.length) = true ∧ (addT (xs.map Int.toNat) t g).1.length ≤ 400)) : addOut g t xs defs = ([], 0, false) := by
  unfold addOut; rw [if_neg h]
/-- a closed expression fits an empty graph -/
theorem addOut_closed (t : Tr) (defs : Int) : addOut [] t [] defs = if validB t 0 defs = true then ((addT [] t []).1, (addT [] t []).2, true) else ([], 0, false) := by
  by_cases h : validB t 0 defs = true
  · rw [if_pos h]
    have h' := h
    unfold validB at h'
    simp only [Bool.and_eq_true, decide_eq_true_eq] at h'
    have hs := (addT_size [] t []).2.1
    refine addOut_yes ?_ h (by simp) (by simp only [List.map_nil, List.length_nil] at *; omega)
    unfold graphB
    simp
    omega
  · rw [if_neg h]
    exact addOut_no fun hh => h hh.2.1
/-- an answer: the row of cells and the operands' rows are new -/
def AddOut (o : List Ce × Nat × Bool) (w : World) (e : Ending) (w' : World) : Prop :=
  ∃ v, e = .returned (.tuple #[v, .int .i64 (o.2.1 : Int), .bool o.2.2]) ∧ OwnC w' w.heap.size (fun b => w.heap.size ≤ b) o.1 v ∧ Below w.heap.size w w'
theorem OwnC.zero {w : World} {lo b : Nat} {S : Nat → Prop} (h : w.heap[b]? = some (.cells #[] 48)) (hb : lo ≤ b) : OwnC w lo S [] (.slice (some ⟨b, 0, none⟩) 0 0) :=
  ⟨fun i h => absurd h (by simp), [], fun _ => 0, ⟨rfl, Or.inr ⟨b, 0, #[], rfl, hb, h, Nat.le_refl _, by simp [maxLen], rfl, rfl⟩⟩, fun j hj => absurd hj (by simp), fun i j hi _ => absurd hi (by simp)⟩
/-- the cells that stand for the variables -/
theorem args_back {xs : List Int} {n : Nat} (h : xs.all (isAt n) = true) : xs = (xs.map Int.toNat).map fun (a : Nat) => (a : Int) := by
  rw [List.map_map]
  refine List.ext_getElem (by simp) fun i h1 h2 => ?_
  have h3 := List.all_eq_true.1 h _ (List.getElem_mem h1)
  unfold isAt at h3
  simp at h3 ⊢
  omega
end Go.Proofs.Ytglpehelmlehiaa
/-
  ELEMENTS OF ROWS OUT OF A SET OF BLOCKS.
-/
namespace Go.Proofs.Ytglpehelmlehiaa
set_option linter.unusedVariables false
set_option linter.unusedSimpArgs false
open Go.RowKit

/-- element i of a graph out of a set of blocks -/
theorem CellsOn.atS {w : World} {S : Nat → Prop} {g : List Ce} {ad : Option Addr} {n cap : Nat} (h : CellsOn w S g (.slice ad n cap)) (i : Nat) (hi : i < g.length) :
    ∃ bl off c, ad = some ⟨bl, off, none⟩ ∧ S bl ∧ w.cell? ⟨bl, off + i * 3, none⟩ = some (.int .i64 g[i].op) ∧ w.cell? ⟨bl, off + i * 3 + 1, none⟩ = some (.int .i64 g[i].num) ∧ w.cell? ⟨bl, off + i * 3 + 2, none⟩ = some c ∧ I64 g[i].op ∧ I64 g[i].num ∧ IntsOn w S g[i].kids c := by
  obtain ⟨ad', cap', he, -, -, hr⟩ := h
  cases he
  rcases hr with rfl | ⟨bl, off, rfl, hs, r⟩
  · simp at hi
  obtain ⟨c, h1, h2, h3, i1, i2, h4⟩ := r i hi
  exact ⟨bl, off, c, rfl, hs, h1, h2, h3, i1, i2, h4⟩
theorem IntsOn.atS {w : World} {S : Nat → Prop} {xs : List Int} {ad : Option Addr} {n cap : Nat} (h : IntsOn w S xs (.slice ad n cap)) (i : Nat) (hi : i < xs.length) :
    ∃ bl off, ad = some ⟨bl, off, none⟩ ∧ S bl ∧ w.cell? ⟨bl, off + i, none⟩ = some (.int .i64 xs[i]) := by
  obtain ⟨ad', cap', he, -, -, hr⟩ := h
  cases he
  rcases hr with rfl | ⟨bl, off, rfl, hs, r⟩
  · simp at hi
  exact ⟨bl, off, rfl, hs, r i hi⟩
end Go.Proofs.Ytglpehelmlehiaa
/-
  TREES WHOSE BLOCKS ARE ALL DISTINCT: a footprint, the list of the blocks of a tree's rows; what a write into them leaves.
-/
namespace Go.Proofs.Ytglpehelmlehiaa
set_option linter.unusedVariables false
set_option linter.unusedSimpArgs false
open Go.RowKit

mutual
/-- the three cells of a tree, its rows in the blocks fp -/
def TrFp (w : World) (T : TypeId) : Tr → List Nat → Value → Value → Value → Prop
  | .node op n ks, fp, a, b, c => a = .int .i64 op ∧ b = .int .i64 n ∧ I64 op ∧ I64 n ∧
      ∃ ad cap, c = .slice ad ks.length cap ∧ ks.length ≤ cap ∧ cap ≤ maxLen ∧
        ((ks = [] ∧ fp = []) ∨ ∃ bl off C fps, ad = some ⟨bl, off, none⟩ ∧ w.heap[bl]? = some (.cells C T) ∧ fp = bl :: fps.flatten ∧ RowFp w T bl off ks fps)
/-- the trees of a row, each with its own blocks -/
def RowFp (w : World) (T : TypeId) (bl off : Nat) : List Tr → List (List Nat) → Prop
  | [], fps => fps = []
  | t :: ts, fps => ∃ f fs, fps = f :: fs ∧ (∃ a b c, w.cell? ⟨bl, off, none⟩ = some a ∧ w.cell? ⟨bl, off + 1, none⟩ = some b ∧ w.cell? ⟨bl, off + 2, none⟩ = some c ∧ TrFp w T t f a b c) ∧ RowFp w T bl (off + 3) ts fs
end

/-- a slice value that holds these trees, in the blocks fp -/
def KidsFp (w : World) (T : TypeId) (ks : List Tr) (fp : List Nat) (c : Value) : Prop :=
  ∃ ad cap, c = .slice ad ks.length cap ∧ ks.length ≤ cap ∧ cap ≤ maxLen ∧
    ((ks = [] ∧ fp = []) ∨ ∃ bl off C fps, ad = some ⟨bl, off, none⟩ ∧ w.heap[bl]? = some (.cells C T) ∧ fp = bl :: fps.flatten ∧ RowFp w T bl off ks fps)

theorem trFp_iff {w : World} {T : TypeId} {t : Tr} {fp : List Nat} {a b c : Value} : TrFp w T t fp a b c ↔ a = .int .i64 t.op ∧ b = .int .i64 t.num ∧ I64 t.op ∧ I64 t.num ∧ KidsFp w T t.kids fp c := by
  cases t; simp [TrFp, KidsFp]

mutual
theorem TrFp.keep {w w' : World} {T : TypeId} : ∀ (t : Tr) (fp : List Nat) (a b c : Value), (∀ k ∈ fp, w'.heap[k]? = w.heap[k]?) → TrFp w T t fp a b c → TrFp w' T t fp a b c
  | .node op n ks, fp, a, b, c, hw, h => by
    simp only [TrFp] at h ⊢
    obtain ⟨h1, h2, h3, h4, ad, cap, e, l1, l2, h5⟩ := h
    refine ⟨h1, h2, h3, h4, ad, cap, e, l1, l2, ?_⟩
    rcases h5 with h5 | ⟨bl, off, C, fps, e, hb, rfl, r⟩
    · exact Or.inl h5
    · exact Or.inr ⟨bl, off, C, fps, e, (hw bl (by simp)).trans hb, rfl, RowFp.keep bl off ks fps (hw bl (by simp)) (fun f hf k hk => hw k (by simp only [List.mem_cons, List.mem_flatten]; exact Or.inr ⟨f, hf, hk⟩)) r⟩
theorem RowFp.keep {w w' : World} {T : TypeId} (bl off : Nat) : ∀ (ks : List Tr) (fps : List (List Nat)), w'.heap[bl]? = w.heap[bl]? → (∀ f ∈ fps, ∀ k ∈ f, w'.heap[k]? = w.heap[k]?) → RowFp w T bl off ks fps → RowFp w' T bl off ks fps
  | [], fps, _, _, h => by simpa [RowFp] using h
  | t :: ts, fps, hb, hw, h => by
    simp only [RowFp] at h ⊢
    obtain ⟨f, fs, rfl, ⟨a, b, c, ha, hbb, hc, ht⟩, hr⟩ := h
    refine ⟨f, fs, rfl, ⟨a, b, c, ?_, ?_, ?_, TrFp.keep t f a b c (hw f (by simp)) ht⟩, RowFp.keep bl (off + 3) ts fs hb (fun g hg => hw g (by simp [hg])) hr⟩
    · rw [World.cell?_of_block (w := w) hb]; exact ha
    · rw [World.cell?_of_block (w := w) hb]; exact hbb
    · rw [World.cell?_of_block (w := w) hb]; exact hc
end
theorem KidsFp.keep {w w' : World} {T : TypeId} {ks : List Tr} {fp : List Nat} {c : Value} (h : KidsFp w T ks fp c) (hw : ∀ k ∈ fp, w'.heap[k]? = w.heap[k]?) : KidsFp w' T ks fp c := by
  obtain ⟨ad, cap, e, l1, l2, h5⟩ := h
  refine ⟨ad, cap, e, l1, l2, ?_⟩
  rcases h5 with h5 | ⟨bl, off, C, fps, e, hb, rfl, r⟩
  · exact Or.inl h5
  · exact Or.inr ⟨bl, off, C, fps, e, (hw bl (by simp)).trans hb, rfl, RowFp.keep bl off ks fps (hw bl (by simp)) (fun f hf k hk => hw k (by simp only [List.mem_cons, List.mem_flatten]; exact Or.inr ⟨f, hf, hk⟩)) r⟩

/-- the blocks lie in the heap -/
theorem cellsOf_lt {w : World} {b : Nat} {o : Obj} (h : w.heap[b]? = some o) : b < w.heap.size := (Array.getElem?_eq_some_iff.1 h).1
mutual
theorem TrFp.on {w : World} {T : TypeId} {S : Nat → Prop} : ∀ (t : Tr) (fp : List Nat) (a b c : Value), (∀ k ∈ fp, S k) → TrFp w T t fp a b c → TrOn w S t a b c
  | .node op n ks, fp, a, b, c, hS, h => by
    simp only [TrFp] at h
    simp only [TrOn]
    obtain ⟨h1, h2, h3, h4, ad, cap, e, l1, l2, h5⟩ := h
    refine ⟨h1, h2, h3, h4, ad, cap, e, l1, l2, ?_⟩
    rcases h5 with ⟨h5, _⟩ | ⟨bl, off, C, fps, e, hb, rfl, r⟩
    · exact Or.inl h5
    · exact Or.inr ⟨bl, off, e, hS bl (by simp), RowFp.on bl off ks fps (fun f hf k hk => hS k (by simp only [List.mem_cons, List.mem_flatten]; exact Or.inr ⟨f, hf, hk⟩)) r⟩
theorem RowFp.on {w : World} {T : TypeId} {S : Nat → Prop} (bl off : Nat) : ∀ (ks : List Tr) (fps : List (List Nat)), (∀ f ∈ fps, ∀ k ∈ f, S k) → RowFp w T bl off ks fps → RowOn w S bl off ks
  | [], fps, _, h => by simp [RowOn]
  | t :: ts, fps, hS, h => by
    simp only [RowFp] at h
    simp only [RowOn]
    obtain ⟨f, fs, rfl, ⟨a, b, c, ha, hbb, hc, ht⟩, hr⟩ := h
    exact ⟨⟨a, b, c, ha, hbb, hc, TrFp.on t f a b c (hS f (by simp)) ht⟩, RowFp.on bl (off + 3) ts fs (fun g hg => hS g (by simp [hg])) hr⟩
end
theorem KidsFp.on {w : World} {T : TypeId} {S : Nat → Prop} {ks : List Tr} {fp : List Nat} {c : Value} (h : KidsFp w T ks fp c) (hS : ∀ k ∈ fp, S k) : KidsOn w S ks c := by
  obtain ⟨ad, cap, e, l1, l2, h5⟩ := h
  refine ⟨ad, cap, e, l1, l2, ?_⟩
  rcases h5 with ⟨h5, _⟩ | ⟨bl, off, C, fps, e, hb, rfl, r⟩
  · exact Or.inl h5
  · exact Or.inr ⟨bl, off, e, hS bl (by simp), RowFp.on bl off ks fps (fun f hf k hk => hS k (by simp only [List.mem_cons, List.mem_flatten]; exact Or.inr ⟨f, hf, hk⟩)) r⟩

/-- element i of a row -/
theorem RowFp.at {w : World} {T : TypeId} {bl : Nat} : ∀ (ks : List Tr) (fps : List (List Nat)) (off i : Nat) (hi : i < ks.length), RowFp w T bl off ks fps →
    fps.length = ks.length ∧ ∃ f, fps[i]? = some f ∧ ∃ a b c, w.cell? ⟨bl, off + i * 3, none⟩ = some a ∧ w.cell? ⟨bl, off + i * 3 + 1, none⟩ = some b ∧ w.cell? ⟨bl, off + i * 3 + 2, none⟩ = some c ∧ TrFp w T ks[i] f a b c
  | [], _, _, _, hi, _ => by simp at hi
  | t :: ts, fps, off, 0, _, h => by
    simp only [RowFp] at h
    obtain ⟨f, fs, rfl, h1, h2⟩ := h
    refine ⟨?_, f, rfl, by simpa using h1⟩
    cases ts with
    | nil => simp only [RowFp] at h2; simp [h2]
    | cons u us => simp [(RowFp.at (u :: us) fs (off + 3) 0 (by simp) h2).1]
  | t :: ts, fps, off, i + 1, hi, h => by
    simp only [RowFp] at h
    obtain ⟨f, fs, rfl, h1, h2⟩ := h
    have := RowFp.at ts fs (off + 3) i (by simpa using hi) h2
    have e : off + 3 + i * 3 = off + (i + 1) * 3 := by omega
    rw [e] at this
    exact ⟨by simp [this.1], by simpa using this.2⟩

/-- a row from its elements -/
theorem RowFp.of {w : World} {T : TypeId} {bl : Nat} : ∀ (ks : List Tr) (fps : List (List Nat)) (off : Nat), fps.length = ks.length →
    (∀ i (hi : i < ks.length), ∃ f, fps[i]? = some f ∧ ∃ a b c, w.cell? ⟨bl, off + i * 3, none⟩ = some a ∧ w.cell? ⟨bl, off + i * 3 + 1, none⟩ = some b ∧ w.cell? ⟨bl, off + i * 3 + 2, none⟩ = some c ∧ TrFp w T ks[i] f a b c) → RowFp w T bl off ks fps
  | [], fps, _, hl, _ => by simpa [RowFp] using hl
  | t :: ts, [], _, hl, _ => by simp at hl
  | t :: ts, f :: fs, off, hl, h => by
    simp only [RowFp]
    refine ⟨f, fs, rfl, ?_, RowFp.of ts fs (off + 3) (by simpa using hl) fun i hi => ?_⟩
    · obtain ⟨f', hf, a, b, c, h1⟩ := h 0 (by simp)
      simp only [List.getElem?_cons_zero, Option.some.injEq] at hf
      subst hf
      simp only [Nat.zero_mul, Nat.add_zero, List.getElem_cons_zero] at h1
      exact ⟨a, b, c, h1⟩
    · have := h (i + 1) (by simpa using hi)
      have e : off + (i + 1) * 3 = off + 3 + i * 3 := by omega
      rw [e] at this
      simpa using this

/-! ### Numbered trees -/
/-- the trees of a list with their numbers replaced, in order, from k on -/
def labL : List Tr → Int → List Tr
  | [], _ => []
  | .node _ _ ks :: ts, k => .node k (k + 1) (labL ks (k + 2)) :: labL ts (k + 2 + 2 * (szL ks : Int))
theorem labL_length : ∀ (ts : List Tr) (k : Int), (labL ts k).length = ts.length
  | [], _ => by simp [labL]
  | .node _ _ ks :: ts, k => by simp [labL, labL_length ts]
theorem labL_cons (t : Tr) (ts : List Tr) (k : Int) : labL (t :: ts) k = .node k (k + 1) (labL t.kids (k + 2)) :: labL ts (k + 2 + 2 * (szT t : Int)) := by
  cases t; simp [labL, szT]
theorem labL_append : ∀ (a b : List Tr) (k : Int), labL (a ++ b) k = labL a k ++ labL b (k + 2 * (szL a : Int))
  | [], b, k => by simp [labL, szL]
  | t :: a, b, k => by
    rw [List.cons_append, labL_cons, labL_cons, labL_append a b]
    simp only [List.cons_append, szL]
    congr 3
    push_cast
    omega
end Go.Proofs.Ytglpehelmlehiaa
/-
  THE NUMBERS THAT MARKED TREES BEAR, element by element.
-/
namespace Go.Proofs.Ytglpehelmlehiaa
set_option linter.unusedVariables false
set_option linter.unusedSimpArgs false
open Go.RowKit

/-- the number that stands at element i -/
def labAt (ks : List Tr) (k : Int) (i : Nat) : Int := k + 2 * (szL (ks.take i) : Int)
theorem labAt_zero (ks : List Tr) (k : Int) : labAt ks k 0 = k := by simp [labAt, szL]
theorem labAt_end (ks : List Tr) (k : Int) : labAt ks k ks.length = k + 2 * (szL ks : Int) := by simp [labAt]
theorem labAt_succ (ks : List Tr) (k : Int) (i : Nat) (hi : i < ks.length) : labAt ks k (i + 1) = labAt ks k i + 2 + 2 * (szL ks[i].kids : Int) := by
  unfold labAt
  rw [szL_take_succ ks i hi, szT_eq]
  push_cast
  omega
theorem labAt_le (ks : List Tr) (k : Int) (i : Nat) : k ≤ labAt ks k i ∧ labAt ks k i ≤ k + 2 * (szL ks : Int) := by
  have := szL_take_le ks i
  unfold labAt
  omega
theorem labL_get : ∀ (ks : List Tr) (k : Int) (i : Nat) (hi : i < ks.length) (hj : i < (labL ks k).length), (labL ks k)[i] = .node (labAt ks k i) (labAt ks k i + 1) (labL ks[i].kids (labAt ks k i + 2))
  | [], _, _, hi, _ => by simp at hi
  | t :: ts, k, 0, _, _ => by simp [labL_cons, labAt_zero]
  | t :: ts, k, i + 1, hi, hj => by
    have := labL_get ts (k + 2 + 2 * (szT t : Int)) i (by simpa using hi) (by rw [labL_length]; simpa using hi)
    simp only [labL_cons, List.getElem_cons_succ, this]
    have e : labAt ts (k + 2 + 2 * (szT t : Int)) i = labAt (t :: ts) k (i + 1) := by
      unfold labAt
      simp only [List.take_succ_cons, szL]
      push_cast
      omega
    rw [e]

end Go.Proofs.Ytglpehelmlehiaa
/-
  THE LAWS' OWN MARKING OF TREES (markExprS, markExpr): a list of trees whose blocks are all distinct bears its numbers in order afterwards; no other block is changed.
-/
namespace Go.Proofs.Ytglpehelmlehiaa
set_option linter.unusedVariables false
set_option linter.unusedSimpArgs false
open Go.RowKit


mutual
theorem TrFp.lt {w : World} {T : TypeId} : ∀ (t : Tr) (fp : List Nat) (a b c : Value), TrFp w T t fp a b c → ∀ k ∈ fp, k < w.heap.size
  | .node op n ks, fp, a, b, c, h, k, hk => by
    simp only [TrFp] at h
    obtain ⟨-, -, -, -, ad, cap, e, l1, l2, h5⟩ := h
    rcases h5 with ⟨-, rfl⟩ | ⟨bl, off, C, fps, e, hb, rfl, r⟩
    · simp at hk
    · simp only [List.mem_cons, List.mem_flatten] at hk
      rcases hk with rfl | ⟨f, hf, hk⟩
      · exact cellsOf_lt hb
      · exact RowFp.lt bl off ks fps r f hf k hk
theorem RowFp.lt {w : World} {T : TypeId} (bl off : Nat) : ∀ (ks : List Tr) (fps : List (List Nat)), RowFp w T bl off ks fps → ∀ f ∈ fps, ∀ k ∈ f, k < w.heap.size
  | [], fps, h, f, hf, k, hk => by simp only [RowFp] at h; subst h; simp at hf
  | t :: ts, fps, h, f, hf, k, hk => by
    simp only [RowFp] at h
    obtain ⟨g, gs, rfl, ⟨a, b, c, -, -, -, ht⟩, hr⟩ := h
    simp only [List.mem_cons] at hf
    rcases hf with rfl | hf
    · exact TrFp.lt t f a b c ht k hk
    · exact RowFp.lt bl (off + 3) ts gs hr f hf k hk
end
theorem KidsFp.lt {w : World} {T : TypeId} {ks : List Tr} {fp : List Nat} {c : Value} (h : KidsFp w T ks fp c) : ∀ k ∈ fp, k < w.heap.size := by
  obtain ⟨ad, cap, e, l1, l2, h5⟩ := h
  intro k hk
  rcases h5 with ⟨-, rfl⟩ | ⟨bl, off, C, fps, e, hb, rfl, r⟩
  · simp at hk
  · simp only [List.mem_cons, List.mem_flatten] at hk
    rcases hk with rfl | ⟨f, hf, hk⟩
    · exact cellsOf_lt hb
    · exact RowFp.lt bl off ks fps r f hf k hk

/-- two lists out of a list of lists have no block in common -/
theorem flatten_disj : ∀ {fps : List (List Nat)} (h : fps.flatten.Nodup) {i j : Nat} {f g : List Nat}, fps[i]? = some f → fps[j]? = some g → i ≠ j → ∀ k ∈ f, k ∉ g
  | [], _, _, _, _, _, hi, _, _, _, _ => by simp at hi
  | x :: xs, h, 0, 0, _, _, _, _, hne, _, _ => absurd rfl hne
  | x :: xs, h, 0, j + 1, f, g, hi, hj, _, k, hk => by
    simp only [List.flatten_cons, List.nodup_append] at h
    simp only [List.getElem?_cons_zero, Option.some.injEq] at hi
    simp only [List.getElem?_cons_succ] at hj
    subst hi
    exact fun hg => h.2.2 k hk k (List.mem_flatten.2 ⟨g, List.mem_of_getElem? hj, hg⟩) rfl
  | x :: xs, h, i + 1, 0, f, g, hi, hj, _, k, hk => by
    simp only [List.flatten_cons, List.nodup_append] at h
    simp only [List.getElem?_cons_zero, Option.some.injEq] at hj
    simp only [List.getElem?_cons_succ] at hi
    subst hj
    exact fun hg => h.2.2 k hg k (List.mem_flatten.2 ⟨f, List.mem_of_getElem? hi, hk⟩) rfl
  | x :: xs, h, i + 1, j + 1, f, g, hi, hj, hne, k, hk => by
    simp only [List.flatten_cons, List.nodup_append] at h
    exact flatten_disj h.2.1 (by simpa using hi) (by simpa using hj) (by omega) k hk
theorem flatten_one : ∀ {fps : List (List Nat)} (h : fps.flatten.Nodup) {i : Nat} {f : List Nat}, fps[i]? = some f → f.Nodup
  | [], _, _, _, hi => by simp at hi
  | x :: xs, h, 0, f, hi => by
    simp only [List.flatten_cons, List.nodup_append] at h
    simp only [List.getElem?_cons_zero, Option.some.injEq] at hi
    subst hi
    exact h.1
  | x :: xs, h, i + 1, f, hi => by
    simp only [List.flatten_cons, List.nodup_append] at h
    exact flatten_one h.2.1 (by simpa using hi)

/-- a store into a block: the block, the cell, the other cells -/
theorem set_block {w : World} {b : Nat} {C : Array Value} {T : TypeId} (h : w.heap[b]? = some (.cells C T)) (o : Nat) (u : Value) : ∃ C', (w.setCell ⟨b, o, none⟩ u).heap[b]? = some (.cells C' T) := by
  simp [World.setCell, Array.getElem?_modify, h]
theorem set_at {w : World} {b o : Nat} {C : Array Value} {T : TypeId} (h : w.heap[b]? = some (.cells C T)) {v : Value} (hv : w.cell? ⟨b, o, none⟩ = some v) (u : Value) : (w.setCell ⟨b, o, none⟩ u).cell? ⟨b, o, none⟩ = some u := by
  simp only [World.cell?, h] at hv
  have hlt := (Array.getElem?_eq_some_iff.1 (by simpa using hv)).1
  simp [World.cell?, World.setCell, Array.getElem?_modify, h, Array.getElem?_setIfInBounds, hlt]
theorem set_off {w : World} {b o i : Nat} {C : Array Value} {T : TypeId} (h : w.heap[b]? = some (.cells C T)) (hi : i ≠ o) (u : Value) : (w.setCell ⟨b, o, none⟩ u).cell? ⟨b, i, none⟩ = w.cell? ⟨b, i, none⟩ := by
  simp [World.cell?, World.setCell, Array.getElem?_modify, h, Array.getElem?_setIfInBounds, Ne.symm hi]
theorem cells_thawed {w : World} {b : Nat} {C : Array Value} {T : TypeId} (h : w.heap[b]? = some (.cells C T)) (o : Nat) : w.frozen? ⟨b, o, none⟩ = false := by simp [World.frozen?, h]

/-- element j of a row was marked: its two numbers, then the trees below it -/
theorem RowFp.mark {w w1 : World} {T : TypeId} {bl off : Nat} {ks : List Tr} {fps : List (List Nat)} {C : Array Value} (hb : w.heap[bl]? = some (.cells C T)) (hr : RowFp w T bl off ks fps) (hn : (bl :: fps.flatten).Nodup)
    (j : Nat) (hj : j < ks.length) (x y : Int) (hx : I64 x) (hy : I64 y) (f : List Nat) (hf : fps[j]? = some f) (r : Value) (hc : w.cell? ⟨bl, off + j * 3 + 2, none⟩ = some r) (ks' : List Tr) (h1 : KidsFp w1 T ks' f r)
    (hbut : ButL f ((w.setCell ⟨bl, off + j * 3, none⟩ (.int .i64 x)).setCell ⟨bl, off + j * 3 + 1, none⟩ (.int .i64 y)) w1) :
    RowFp w1 T bl off (ks.set j (.node x y ks')) fps ∧ ∃ C', w1.heap[bl]? = some (.cells C' T) := by
  have hbl : bl < w.heap.size := cellsOf_lt hb
  simp only [List.nodup_cons] at hn
  obtain ⟨hn1, hn2⟩ := hn
  have hblf : bl ∉ f := fun hm => hn1 (List.mem_flatten.2 ⟨f, List.mem_of_getElem? hf, hm⟩)
  obtain ⟨C1, hC1⟩ := set_block hb (off + j * 3) (.int .i64 x)
  obtain ⟨C2, hC2⟩ := set_block hC1 (off + j * 3 + 1) (.int .i64 y)
  have hsz : ((w.setCell ⟨bl, off + j * 3, none⟩ (.int .i64 x)).setCell ⟨bl, off + j * 3 + 1, none⟩ (.int .i64 y)).heap.size = w.heap.size := by rw [size_setCell, size_setCell]
  have hblk : w1.heap[bl]? = ((w.setCell ⟨bl, off + j * 3, none⟩ (.int .i64 x)).setCell ⟨bl, off + j * 3 + 1, none⟩ (.int .i64 y)).heap[bl]? := hbut.block bl (by rw [hsz]; exact hbl) hblf
  have hcell : ∀ i, w1.cell? ⟨bl, i, none⟩ = ((w.setCell ⟨bl, off + j * 3, none⟩ (.int .i64 x)).setCell ⟨bl, off + j * 3 + 1, none⟩ (.int .i64 y)).cell? ⟨bl, i, none⟩ := fun i => World.cell?_of_block hblk
  have hsame : ∀ i, i ≠ off + j * 3 → i ≠ off + j * 3 + 1 → w1.cell? ⟨bl, i, none⟩ = w.cell? ⟨bl, i, none⟩ := fun i h1 h2 => by rw [hcell, set_off hC1 h2, set_off hb h1]
  refine ⟨RowFp.of _ _ _ ?_ ?_, C2, hblk.trans hC2⟩
  · rw [List.length_set]; exact (RowFp.at ks fps off j hj hr).1
  intro i hi
  rw [List.length_set] at hi
  obtain ⟨-, g, hg, a, b, c, ha, hbb, hcc, ht⟩ := RowFp.at ks fps off i hi hr
  refine ⟨g, hg, ?_⟩
  by_cases hij : i = j
  · subst hij
    rw [hf] at hg
    cases hg
    rw [hc] at hcc
    cases hcc
    refine ⟨.int .i64 x, .int .i64 y, r, ?_, ?_, ?_, ?_⟩
    · rw [hcell, set_off hC1 (by omega), set_at hb ha]
    · rw [hcell]
      exact set_at hC1 (v := b) (by rw [set_off hb (by omega)]; exact hbb) _
    · rw [hsame _ (by omega) (by omega)]; exact hc
    · simp only [List.getElem_set_self]
      exact trFp_iff.2 ⟨rfl, rfl, hx, hy, h1⟩
  · refine ⟨a, b, c, ?_, ?_, ?_, ?_⟩
    · rw [hsame _ (by omega) (by omega)]; exact ha
    · rw [hsame _ (by omega) (by omega)]; exact hbb
    · rw [hsame _ (by omega) (by omega)]; exact hcc
    · rw [List.getElem_set_ne (by omega)]
      refine TrFp.keep _ g a b c (fun k hk => ?_) ht
      have hkl := TrFp.lt _ g a b c ht k hk
      have hkb : k ≠ bl := fun e => hn1 (List.mem_flatten.2 ⟨g, List.mem_of_getElem? hg, e ▸ hk⟩)
      rw [hbut.block k (by rw [hsz]; exact hkl) (flatten_disj hn2 hg hf hij k hk)]
      exact (Below.heap_setCell _ _ _ _ hkb).trans (Below.heap_setCell _ _ _ _ hkb)
end Go.Proofs.Ytglpehelmlehiaa
/-
  THE LAWS' OWN COPY OF AN ARGUMENT (toExpr, toExprS), ITS BLOCKS ALL DISTINCT: the same trees, in new memory; nothing that was there is changed.
-/
namespace Go.Proofs.Ytglpehelmlehiaa
set_option linter.unusedVariables false
set_option linter.unusedSimpArgs false
open Go.RowKit

/-- trees whose blocks are distinct, from lo on -/
def Fresh (w : World) (lo : Nat) (ks : List Tr) (c : Value) : Prop := ∃ fp, KidsFp w 32 ks fp c ∧ fp.Nodup ∧ ∀ k ∈ fp, lo ≤ k
theorem Fresh.on {w : World} {lo : Nat} {ks : List Tr} {c : Value} (h : Fresh w lo ks c) : KidsOn w (Btw lo w.heap.size) ks c := by
  obtain ⟨fp, h1, h2, h3⟩ := h
  exact h1.on fun k hk => ⟨h3 k hk, h1.lt k hk⟩
theorem Fresh.mono {w w' : World} {lo lo' : Nat} {ks : List Tr} {c : Value} (h : Fresh w lo ks c) (hl : lo' ≤ lo) (hw : ∀ k, lo ≤ k → k < w.heap.size → w'.heap[k]? = w.heap[k]?) : Fresh w' lo' ks c := by
  obtain ⟨fp, h1, h2, h3⟩ := h
  exact ⟨fp, h1.keep fun k hk => hw k (h3 k hk) (h1.lt k hk), h2, fun k hk => Nat.le_trans hl (h3 k hk)⟩
theorem Fresh.next {w w' : World} {lo : Nat} {ks : List Tr} {c : Value} (h : Fresh w lo ks c) (hb : Below w.heap.size w w') : Fresh w' lo ks c := h.mono (Nat.le_refl _) fun k _ hk => hb.block k hk
theorem Fresh.setCell {w : World} {lo : Nat} {ks : List Tr} {c : Value} (h : Fresh w lo ks c) {a : Addr} (ha : a.block < lo) (u : Value) : Fresh (w.setCell a u) lo ks c :=
  h.mono (Nat.le_refl _) fun k hk _ => Below.heap_setCell _ _ _ _ (by omega)

/-- a call has handed back these trees in new memory, all blocks distinct -/
def FreshKids (ks : List Tr) (w : World) (e : Ending) (w' : World) : Prop := ∃ v, e = .returned v ∧ Fresh w' w.heap.size ks v ∧ Below w.heap.size w w'
/-- .. one tree -/
def FreshTr (o n : Int) (ks : List Tr) (w : World) (e : Ending) (w' : World) : Prop := ∃ v, e = .returned (.agg #[.int .i64 o, .int .i64 n, v]) ∧ Fresh w' w.heap.size ks v ∧ Below w.heap.size w w'

/-- what holds of the copy of a list behind k rounds -/
def FToRel (ks : List Tr) (w : World) (k : Nat) (wr : World) : Prop :=
  ∃ (f : Nat → Value) (fps : List (List Nat)), fps.length = k ∧ wr.rowIs w.heap.size 32 (ks.length * 3) f ∧ (∀ j (_ : j < k) (hj : j < ks.length), ∃ g, fps[j]? = some g ∧ TrFp wr 32 ks[j] g (f (j * 3)) (f (j * 3 + 1)) (f (j * 3 + 2))) ∧ fps.flatten.Nodup ∧ (∀ b ∈ fps.flatten, w.heap.size < b ∧ b < wr.heap.size) ∧ Below w.heap.size w wr

theorem ftoRel_start (ks : List Tr) (w : World) (C : Array Value) (h : C.size = ks.length * 3) : FToRel ks w 0 (w.alloc (.cells C 32)) := by
  refine ⟨fun i => C.getD i undef, [], rfl, ⟨C, Deep.blk_alloc_new _ _, h, fun i hi => ?_⟩, fun j hj => absurd hj (by omega), by simp, by simp, (Below.refl _ _).alloc (Nat.le_refl _) _⟩
  simp [Array.getElem?_eq_getElem (h ▸ hi : i < C.size), Array.getD, (h ▸ hi : i < C.size)]

theorem ftoRel_step (ks : List Tr) (w wr w1 : World) (k : Nat) (hk : k < ks.length) (h : FToRel ks w k wr) (v : Value) (hb : Below wr.heap.size wr w1) (hv : Fresh w1 wr.heap.size (ks[k]).kids v) (ho : I64 (ks[k]).op) (hn : I64 (ks[k]).num) :
    FToRel ks w (k + 1) (((w1.setCell ⟨w.heap.size, k * 3, none⟩ (.int .i64 (ks[k]).op)).setCell ⟨w.heap.size, k * 3 + 1, none⟩ (.int .i64 (ks[k]).num)).setCell ⟨w.heap.size, k * 3 + 2, none⟩ v) := by
  obtain ⟨f, fps, hfl, hr, ht, hnd, hfb, hbw⟩ := h
  obtain ⟨fp, v1, v2, v3⟩ := hv
  have hlt := hr.lt
  have hr1 : w1.rowIs w.heap.size 32 (ks.length * 3) f := hr.of_block (hb.block _ hlt)
  have hsz := hb.size
  have keep : ∀ b, b ≠ w.heap.size → (((w1.setCell ⟨w.heap.size, k * 3, none⟩ (.int .i64 (ks[k]).op)).setCell ⟨w.heap.size, k * 3 + 1, none⟩ (.int .i64 (ks[k]).num)).setCell ⟨w.heap.size, k * 3 + 2, none⟩ v).heap[b]? = w1.heap[b]? :=
    fun b hne => ((Below.heap_setCell _ _ _ _ hne).trans (Below.heap_setCell _ _ _ _ hne)).trans (Below.heap_setCell _ _ _ _ hne)
  have hs3 : k * 3 + 2 < ks.length * 3 := by omega
  refine ⟨_, fps ++ [fp], by simp [hfl], ((hr1.set (k * 3) _).set (k * 3 + 1) _).set (k * 3 + 2) _, fun j hj hjl => ?_, ?_, ?_, ?_⟩
  · by_cases hjk : j = k
    · subst hjk
      have : TrFp w1 32 ks[j] fp (.int .i64 (ks[j]).op) (.int .i64 (ks[j]).num) v := trFp_iff.2 ⟨rfl, rfl, ho, hn, v1⟩
      have h2 := TrFp.keep _ _ _ _ _ (fun b hbm => keep b (by have := v3 b hbm; omega)) this
      refine ⟨fp, by rw [← hfl]; simp, ?_⟩
      simpa using h2
    · obtain ⟨g, hg, h0⟩ := ht j (by omega) hjl
      have hgm : ∀ b ∈ g, w.heap.size < b ∧ b < wr.heap.size := fun b hbm => hfb b (List.mem_flatten.2 ⟨g, List.mem_of_getElem? hg, hbm⟩)
      have h2 := TrFp.keep _ _ _ _ _ (fun b hbm => (keep b (by have := hgm b hbm; omega)).trans (hb.block b (hgm b hbm).2)) h0
      have e1 : ∀ m, m < 3 → j * 3 + m ≠ k * 3 + 2 ∧ j * 3 + m ≠ k * 3 + 1 ∧ j * 3 + m ≠ k * 3 := fun m hm => by omega
      have a0 := e1 0 (by omega)
      have a1 := e1 1 (by omega)
      have a2 := e1 2 (by omega)
      simp only [Nat.add_zero] at a0
      refine ⟨g, by rw [List.getElem?_append_left (by omega)]; exact hg, ?_⟩
      simpa [a0, a1, a2] using h2
  · rw [List.flatten_append, List.nodup_append]
    refine ⟨hnd, by simpa using v2, fun x hx y hy e => ?_⟩
    have h1 := (hfb x hx).2
    have h2 := v3 y (by simpa using hy)
    omega
  · intro b hbm
    simp only [size_setCell]
    simp only [List.flatten_append, List.mem_append] at hbm
    rcases hbm with hbm | hbm
    · have := hfb b hbm; omega
    · have hbm' : b ∈ fp := by simpa using hbm
      have h1 := v3 b hbm'
      have h2 := v1.lt b hbm'
      omega
  · exact (((hbw.trans (hb.mono (Nat.le_of_lt hlt))).setCell (by simp) _).setCell (by simp) _).setCell (by simp) _

theorem ftoRel_end (ks : List Tr) (w wr : World) (h : FToRel ks w ks.length wr) (hl : ks.length ≤ 1048576) : FreshKids ks w (.returned (.slice (some ⟨w.heap.size, 0, none⟩) ks.length ks.length)) wr := by
  obtain ⟨f, fps, hfl, hr, ht, hnd, hfb, hbw⟩ := h
  have hlt := hr.lt
  obtain ⟨C, hC, _, _⟩ := id hr
  refine ⟨_, rfl, ⟨w.heap.size :: fps.flatten, ⟨_, _, rfl, Nat.le_refl _, by unfold maxLen; omega, Or.inr ⟨_, _, C, fps, rfl, hC, rfl, RowFp.of _ _ _ hfl fun i hi => ?_⟩⟩, ?_, ?_⟩, hbw⟩
  · obtain ⟨g, hg, h1⟩ := ht i hi hi
    refine ⟨g, hg, f (i * 3), f (i * 3 + 1), f (i * 3 + 2), ?_, ?_, ?_, h1⟩
    · simpa using hr.cell (i := i * 3) (by omega)
    · simpa [Nat.zero_add] using hr.cell (i := i * 3 + 1) (by omega)
    · simpa [Nat.zero_add] using hr.cell (i := i * 3 + 2) (by omega)
  · rw [List.nodup_cons]
    exact ⟨fun hm => by have := (hfb _ hm).1; omega, hnd⟩
  · intro b hbm
    rw [List.mem_cons] at hbm
    rcases hbm with rfl | hbm
    · exact Nat.le_refl _
    · have := (hfb b hbm).1; omega

end Go.Proofs.Ytglpehelmlehiaa
/-
  TREES WHOSE BLOCKS ARE DISTINCT LIE IN PLAIN BLOCKS.
-/
namespace Go.Proofs.Ytglpehelmlehiaa
set_option linter.unusedVariables false
set_option linter.unusedSimpArgs false
open Go.RowKit

mutual
theorem TrFp.plain {w : World} {T : TypeId} : ∀ (t : Tr) (fp : List Nat) (a b c : Value), TrFp w T t fp a b c → ∀ k ∈ fp, Pl w k
  | .node op n ks, fp, a, b, c, h => by
    simp only [TrFp] at h
    obtain ⟨-, -, -, -, ad, cap, -, -, -, h5⟩ := h
    rcases h5 with ⟨-, rfl⟩ | ⟨bl, off, C, fps, -, hb, rfl, r⟩
    · simp
    · intro k hk
      rw [List.mem_cons] at hk
      rcases hk with rfl | hk
      · exact ⟨cellsOf_lt hb, C, T, hb⟩
      · obtain ⟨f, hf, hkf⟩ := List.mem_flatten.1 hk
        exact RowFp.plain bl off ks fps r f hf k hkf
theorem RowFp.plain {w : World} {T : TypeId} (bl off : Nat) : ∀ (ks : List Tr) (fps : List (List Nat)), RowFp w T bl off ks fps → ∀ f ∈ fps, ∀ k ∈ f, Pl w k
  | [], fps, h => by
    simp only [RowFp] at h
    subst h
    simp
  | t :: ts, fps, h => by
    simp only [RowFp] at h
    obtain ⟨f, fs, rfl, ⟨a, b, c, -, -, -, ht⟩, hr⟩ := h
    intro g hg k hk
    rw [List.mem_cons] at hg
    rcases hg with rfl | hg
    · exact TrFp.plain t _ a b c ht k hk
    · exact RowFp.plain bl (off + 3) ts fs hr g hg k hk
end
theorem KidsFp.plain {w : World} {T : TypeId} {ks : List Tr} {fp : List Nat} {c : Value} (h : KidsFp w T ks fp c) : ∀ k ∈ fp, Pl w k :=
  TrFp.plain (.node 0 0 ks) fp _ _ c (trFp_iff.2 ⟨rfl, rfl, by simp [I64], by simp [I64], h⟩)
theorem Fresh.inP {w : World} {lo : Nat} {ks : List Tr} {c : Value} (h : Fresh w lo ks c) : InP w ks c := by
  obtain ⟨fp, h1, -, -⟩ := h
  exact h1.on h1.plain
end Go.Proofs.Ytglpehelmlehiaa
/-
  LISTS OF TREES WITH DISTINCT BLOCKS THAT A CALL BUILDS BY append.
-/
namespace Go.Proofs.Ytglpehelmlehiaa
set_option linter.unusedVariables false
set_option linter.unusedSimpArgs false
open Go.RowKit

/-- a list of trees that a call has built by append: the row is its own, each tree has its own blocks, all from lo on -/
def OwnF (w : World) (lo hi : Nat) (ts : List Tr) (v : Value) : Prop :=
  ∃ (xs : List Value) (fps : List (List Nat)), w.ownsRow lo 32 3 v ts.length xs ∧ fps.length = ts.length ∧
    (∀ j (hj : j < ts.length), ∃ f, fps[j]? = some f ∧ ∃ a b c, xs[j * 3]? = some a ∧ xs[j * 3 + 1]? = some b ∧ xs[j * 3 + 2]? = some c ∧ TrFp w 32 ts[j] f a b c) ∧
    fps.flatten.Nodup ∧ ∀ k ∈ fps.flatten, lo ≤ k ∧ k < hi ∧ some k ≠ v.ownBlock

theorem OwnF.nil (w : World) (lo hi : Nat) : OwnF w lo hi [] (.slice none 0 0) := ⟨[], [], World.ownsRow_nil w lo _ _, rfl, fun j hj => absurd hj (by simp), by simp, by simp⟩
theorem OwnF.next {w w' : World} {lo hi hi' : Nat} {ts : List Tr} {v : Value} (h : OwnF w lo hi ts v) (hh : hi ≤ hi') (hs : hi ≤ w.heap.size) (hb : ∀ k, lo ≤ k → k < w.heap.size → w'.heap[k]? = w.heap[k]?) : OwnF w' lo hi' ts v := by
  obtain ⟨xs, fps, h1, h2, h3, h4, h5⟩ := h
  refine ⟨xs, fps, own_keep h1 hb, h2, fun j hj => ?_, h4, fun k hk => ⟨(h5 k hk).1, Nat.lt_of_lt_of_le (h5 k hk).2.1 hh, (h5 k hk).2.2⟩⟩
  obtain ⟨f, e0, a, b, c, e1, e2, e3, e4⟩ := h3 j hj
  exact ⟨f, e0, a, b, c, e1, e2, e3, TrFp.keep _ _ _ _ _ (fun k hk => by
    have := h5 k (List.mem_flatten.2 ⟨f, List.mem_of_getElem? e0, hk⟩)
    exact hb k this.1 (Nat.lt_of_lt_of_le this.2.1 hs)) e4⟩
theorem OwnF.row {w : World} {lo hi : Nat} {ts : List Tr} {v : Value} (h : OwnF w lo hi ts v) : ∃ xs, w.ownsRow lo 32 3 v ts.length xs := by
  obtain ⟨xs, -, h1, -⟩ := h; exact ⟨xs, h1⟩
/-- one tree more -/
theorem OwnF.step {w w' : World} {lo hi : Nat} {ts : List Tr} {v v' : Value} {t : Tr} {a b c : Value} {f : List Nat} (h : OwnF w lo hi ts v) (hlo : lo ≤ hi) (hs : hi ≤ w.heap.size)
    (hn : TrFp w 32 t f a b c) (hf : f.Nodup) (hfl : ∀ k ∈ f, hi ≤ k ∧ k < w.heap.size ∧ some k ≠ v.ownBlock) (xs : List Value) (hx : w.ownsRow lo 32 3 v ts.length xs)
    (hown : w'.ownsRow lo 32 3 v' (ts.length + 1) (xs ++ [a, b, c])) (hg : w.grownBy w' v.ownBlock) (hw : v'.ownBlock = v.ownBlock ∨ ∃ g, v'.ownBlock = some g ∧ w.heap.size ≤ g) : OwnF w' lo w.heap.size (ts ++ [t]) v' := by
  obtain ⟨xs2, fps, h1, h2, h3, h4, h5⟩ := h
  -- the row's cells are the same
  have hxs : xs2 = xs := by
    rcases h1.2 with ⟨rfl, h0⟩ | ⟨g, cap, cur, rfl, hg', hh, hn', hc, hs, htk⟩
    · have a1 := h1.1
      have a2 := hx.1
      rw [h0] at a1 a2
      rw [List.eq_nil_of_length_eq_zero (by omega : xs2.length = 0), List.eq_nil_of_length_eq_zero (by omega : xs.length = 0)]
    · rcases hx.2 with ⟨e, -⟩ | ⟨g2, cap2, cur2, e, -, hh2, -, -, -, htk2⟩
      · cases e
      · cases e
        rw [hh] at hh2
        cases hh2
        rw [← htk, ← htk2]
  subst hxs
  have hlen := h1.1
  have keepB : ∀ k, lo ≤ k ∧ k < w.heap.size ∧ some k ≠ v.ownBlock → w'.heap[k]? = w.heap[k]? := fun k hk => hg.block k hk.2.1 hk.2.2
  have nb : ∀ k, k < w.heap.size → some k ≠ v.ownBlock → some k ≠ v'.ownBlock := fun k hk hkv => by
    rcases hw with hw | ⟨g, hw, hge⟩
    · rw [hw]; exact hkv
    · rw [hw]; intro e; simp only [Option.some.injEq] at e; omega
  refine ⟨xs2 ++ [a, b, c], fps ++ [f], by simpa using hown, by simp [h2], fun j hj => ?_, ?_, ?_⟩
  · by_cases hjl : j < ts.length
    · obtain ⟨f', e0, x, y, z, e1, e2, e3, e4⟩ := h3 j hjl
      refine ⟨f', ?_, x, y, z, ?_, ?_, ?_, ?_⟩
      · rw [List.getElem?_append_left (by omega)]; exact e0
      · rw [List.getElem?_append_left (by omega)]; exact e1
      · rw [List.getElem?_append_left (by omega)]; exact e2
      · rw [List.getElem?_append_left (by omega)]; exact e3
      · rw [List.getElem_append_left hjl]
        exact TrFp.keep _ _ _ _ _ (fun k hk => by
          have := h5 k (List.mem_flatten.2 ⟨f', List.mem_of_getElem? e0, hk⟩)
          exact keepB k ⟨this.1, Nat.lt_of_lt_of_le this.2.1 hs, this.2.2⟩) e4
    · have hj' : j = ts.length := by simp at hj; omega
      subst hj'
      refine ⟨f, ?_, a, b, c, ?_, ?_, ?_, ?_⟩
      · rw [List.getElem?_append_right (by omega)]; simp [h2]
      · rw [List.getElem?_append_right (by omega)]; simp [hlen]
      · rw [List.getElem?_append_right (by omega)]; simp [hlen]
      · rw [List.getElem?_append_right (by omega)]; simp [hlen]
      · simpa using TrFp.keep _ _ _ _ _ (fun k hk => keepB k ⟨Nat.le_trans hlo (hfl k hk).1, (hfl k hk).2⟩) hn
  · rw [List.flatten_append, List.nodup_append]
    refine ⟨h4, by simpa using hf, fun x hx y hy e => ?_⟩
    subst e
    have e1 := (h5 x hx).2.1
    have e2 := (hfl x (by simpa using hy)).1
    omega
  · intro k hk
    simp only [List.flatten_append, List.mem_append] at hk
    rcases hk with hk | hk
    · have := h5 k hk
      exact ⟨this.1, Nat.lt_of_lt_of_le this.2.1 hs, nb k (Nat.lt_of_lt_of_le this.2.1 hs) this.2.2⟩
    · have := hfl k (by simpa using hk)
      exact ⟨Nat.le_trans hlo this.1, this.2.1, nb k this.2.1 this.2.2⟩
/-- the list, as trees with distinct blocks -/
theorem OwnF.fresh {w : World} {lo hi : Nat} {ts : List Tr} {v : Value} (h : OwnF w lo hi ts v) : Fresh w lo ts v := by
  obtain ⟨xs, fps, h1, h2, h3, h4, h5⟩ := h
  rcases h1.2 with ⟨rfl, h0⟩ | ⟨g, cap, cur, rfl, hg, hh, hn, hc, hs, htk⟩
  · obtain rfl : ts = [] := List.eq_nil_of_length_eq_zero h0
    exact ⟨[], ⟨none, 0, rfl, Nat.le_refl _, by simp [maxLen], Or.inl ⟨rfl, rfl⟩⟩, by simp, by simp⟩
  · refine ⟨g :: fps.flatten, ⟨_, cap, rfl, hn, hc, Or.inr ⟨g, 0, cur, fps, rfl, hh, rfl, RowFp.of _ _ _ h2 fun i hi => ?_⟩⟩, ?_, ?_⟩
    · obtain ⟨f, e0, a, b, c, e1, e2, e3, e4⟩ := h3 i hi
      refine ⟨f, e0, a, b, c, ?_, ?_, ?_, e4⟩
      · rw [Nat.zero_add, h1.cellAt (i * 3) (by omega)]; exact e1
      · rw [Nat.zero_add, h1.cellAt (i * 3 + 1) (by omega)]; exact e2
      · rw [Nat.zero_add, h1.cellAt (i * 3 + 2) (by omega)]; exact e3
    · rw [List.nodup_cons]
      exact ⟨fun hm => (h5 g hm).2.2 rfl, h4⟩
    · intro k hk
      rw [List.mem_cons] at hk
      rcases hk with rfl | hk
      · exact hg
      · exact (h5 k hk).1
end Go.Proofs.Ytglpehelmlehiaa
/-
  ONE TREE MORE IN A LIST THAT A CALL BUILDS: behind the tree's box and its cells.
-/
namespace Go.Proofs.Ytglpehelmlehiaa
set_option linter.unusedVariables false
set_option linter.unusedSimpArgs false
open Go.RowKit

/-- one tree more, handed back by a call, behind its box and its cells -/
theorem rd_push {wr w2 w5 : World} {lo : Nat} {ts : List Tr} {v v' : Value} {t : Tr} {c : Value} (h : OwnF wr lo wr.heap.size ts v) (hlo : lo ≤ wr.heap.size) (hb : ∀ k, lo ≤ k → k < wr.heap.size → w2.heap[k]? = wr.heap[k]?) (hsz : wr.heap.size ≤ w2.heap.size)
    (hf : Fresh w2 wr.heap.size t.kids c) (ho : I64 t.op) (hn : I64 t.num) (o1 o2 : Obj) (xs : List Value) (hx : ((w2.alloc o1).alloc o2).ownsRow lo 32 3 v ts.length xs)
    (hown : w5.ownsRow lo 32 3 v' (ts.length + 1) (xs ++ [.int .i64 t.op, .int .i64 t.num, c])) (hg : ((w2.alloc o1).alloc o2).grownBy w5 v.ownBlock) (hw : v'.ownBlock = v.ownBlock ∨ ∃ g, v'.ownBlock = some g ∧ ((w2.alloc o1).alloc o2).heap.size ≤ g) :
    OwnF w5 lo ((w2.alloc o1).alloc o2).heap.size (ts ++ [t]) v' := by
  have hz4 : ((w2.alloc o1).alloc o2).heap.size = w2.heap.size + 2 := by rw [Deep.nblk_alloc, Deep.nblk_alloc]
  have hk4 : ∀ k, k < w2.heap.size → ((w2.alloc o1).alloc o2).heap[k]? = w2.heap[k]? := fun k hk => (Deep.blk_alloc_lt _ _ _ (by rw [Deep.nblk_alloc]; omega)).trans (Deep.blk_alloc_lt _ _ _ hk)
  have h4 : OwnF ((w2.alloc o1).alloc o2) lo wr.heap.size ts v := h.next (Nat.le_refl _) (Nat.le_refl _) fun k h1 h2 => (hk4 k (by omega)).trans (hb k h1 h2)
  have hob : ∀ k, v.ownBlock = some k → k < wr.heap.size := by
    obtain ⟨ys, fps, h1, -⟩ := h
    intro k hk
    rcases h1.2 with ⟨rfl, -⟩ | ⟨g, cap, cur, rfl, -, hh, -⟩
    · simp [Value.ownBlock] at hk
    · simp only [Value.ownBlock, Option.some.injEq] at hk
      subst hk
      exact (Array.getElem?_eq_some_iff.1 hh).1
  obtain ⟨fp, f1, f2, f3⟩ := hf
  have f4 : KidsFp ((w2.alloc o1).alloc o2) 32 t.kids fp c := f1.keep fun k hk => hk4 k (f1.lt k hk)
  exact h4.step hlo (by omega) (trFp_iff.2 ⟨rfl, rfl, ho, hn, f4⟩) f2 (fun k hk => ⟨f3 k hk, by have := f1.lt k hk; omega, fun e => by have := hob k e.symm; have := f3 k hk; omega⟩) xs hx hown hg hw
end Go.Proofs.Ytglpehelmlehiaa
