/-
  PAIRS OF PLACES: what a list of pairs still to be compared, and the pairs seen, say of two trees. No program is named here.
-/
import Derived.Test.YtjpjikfmdaejeaaMgExactSelectGraph4
import Derived.Test.YtjpjikfmdaejeaaMgExactSelectGraph3
import Derived.Test.YtjpjikfmdaejeaaMgExactSelectGraph1
import Derived.Test.YtjpjikfmdaejeaaMgExactSelectGraph2
namespace Go.Proofs.Ytjpjikfmdaejeaa
set_option linter.unusedVariables false
set_option linter.unusedSimpArgs false
open Go.RowKit

/-- the place of operand i of the tree at a place -/
def KidAt (w : World) (x : Addr) (i : Nat) (z : Addr) : Prop :=
  ∃ bl off kb ko n cap, x = ⟨bl, off, none⟩ ∧ w.cell? ⟨bl, off + 2, none⟩ = some (.slice (some ⟨kb, ko, none⟩) n cap) ∧ z = ⟨kb, ko + i * 3, none⟩
theorem KidAt.uniq {w : World} {x z z' : Addr} {i : Nat} (h : KidAt w x i z) (h' : KidAt w x i z') : z = z' := by
  obtain ⟨bl, off, kb, ko, n, cap, rfl, hc, rfl⟩ := h
  obtain ⟨bl', off', kb', ko', n', cap', e, hc', rfl⟩ := h'
  simp only [Addr.mk.injEq] at e
  obtain ⟨rfl, rfl, -⟩ := e
  rw [hc] at hc'
  simp only [Option.some.injEq, Value.slice.injEq, Addr.mk.injEq] at hc'
  obtain ⟨⟨rfl, rfl, -⟩, -⟩ := hc'
  rfl
theorem LiesAt.kid {w : World} {S : Nat → Prop} {x : Addr} {s : Tr} (h : LiesAt w S x s) (i : Nat) (hi : i < s.kids.length) : ∃ z, KidAt w x i z ∧ LiesAt w S z s.kids[i] := by
  obtain ⟨bl, off, a, b, c, rfl, hs, h0, h1, h2, ht⟩ := h
  obtain ⟨-, -, -, -, ad, cap, rfl, -, -, hr⟩ := trOn_iff.1 ht
  rcases hr with hr | ⟨kb, ko, rfl, hk, hr⟩
  · rw [hr] at hi; simp at hi
  · exact ⟨_, ⟨bl, off, kb, ko, _, _, rfl, h2, rfl⟩, RowOn.liesAt hi hk hr⟩
theorem KidAt.lies {w : World} {S : Nat → Prop} {x z : Addr} {s : Tr} {i : Nat} (h : KidAt w x i z) (hx : LiesAt w S x s) (hi : i < s.kids.length) : LiesAt w S z s.kids[i] := by
  obtain ⟨z', hz, hl⟩ := hx.kid i hi
  rw [h.uniq hz]
  exact hl

/-- two places and their trees -/
structure Wk where
  x : Addr
  y : Addr
  s : Tr
  t : Tr
def Wk.key (e : Wk) : Addr × Addr := (e.x, e.y)
def WkOk (w : World) (S : Nat → Prop) (Q : Prop) (e : Wk) : Prop := LiesAt w S e.x e.s ∧ LiesAt w S e.y e.t ∧ (Q → e.s = e.t)
/-- trees lie at both places -/
def Pair2 (w : World) (S : Nat → Prop) (k : Addr × Addr) : Prop := ∃ s t, LiesAt w S k.1 s ∧ LiesAt w S k.2 t
abbrev Mp := Addr × Addr → Option Value
/-- the first operands of both are at one place, or have been seen -/
def KidsSeen (w : World) (M : Mp) (k : Addr × Addr) (m : Nat) : Prop := ∀ i, i < m → ∀ z z', KidAt w k.1 i z → KidAt w k.2 i z' → z = z' ∨ (M (z, z')).isSome = true
def Done (w : World) (S : Nat → Prop) (M : Mp) (k : Addr × Addr) : Prop := ∀ s t, LiesAt w S k.1 s → LiesAt w S k.2 t → s.op = t.op ∧ s.num = t.num ∧ s.kids.length = t.kids.length ∧ KidsSeen w M k s.kids.length
def Seen (root : Addr × Addr) (M : Mp) (k : Addr × Addr) : Prop := k = root ∨ (M k).isSome = true
def Inv (w : World) (S : Nat → Prop) (root : Addr × Addr) (M : Mp) (l : List Wk) (cur : Option (Addr × Addr)) : Prop :=
  ∀ k, Seen root M k → cur = some k ∨ (∃ e ∈ l, e.key = k) ∨ Done w S M k

theorem pput_some {κ : Type} [DecidableEq κ] {M : κ → Option Value} {a : κ} {v : Value} {k : κ} (h : (M k).isSome = true) : (pput M a v k).isSome = true := by
  unfold pput; split <;> simp_all
theorem KidsSeen.put {w : World} {M : Mp} {k a : Addr × Addr} {m : Nat} {v : Value} (h : KidsSeen w M k m) : KidsSeen w (pput M a v) k m :=
  fun i hi z z' hz hz' => (h i hi z z' hz hz').imp id pput_some
theorem Done.put {w : World} {S : Nat → Prop} {M : Mp} {k a : Addr × Addr} {v : Value} (h : Done w S M k) : Done w S (pput M a v) k :=
  fun s t hs ht => by
    obtain ⟨h1, h2, h3, h4⟩ := h s t hs ht
    exact ⟨h1, h2, h3, h4.put⟩

theorem Inv.start (w : World) (S : Nat → Prop) (e : Wk) : Inv w S e.key (fun _ => none) [e] none := by
  intro k hk
  rcases hk with rfl | hk
  · exact Or.inr (Or.inl ⟨e, by simp, rfl⟩)
  · simp at hk
theorem Inv.pop {w : World} {S : Nat → Prop} {root : Addr × Addr} {M : Mp} {l : List Wk} {e : Wk} (h : Inv w S root M (l ++ [e]) none) : Inv w S root M l (some e.key) := by
  intro k hk
  rcases h k hk with h | ⟨d, hd, hdk⟩ | h
  · cases h
  · rw [List.mem_append] at hd
    rcases hd with hd | hd
    · exact Or.inr (Or.inl ⟨d, hd, hdk⟩)
    · rw [List.mem_singleton] at hd
      subst hd
      exact Or.inl (by rw [hdk])
  · exact Or.inr (Or.inr h)
theorem Inv.push {w : World} {S : Nat → Prop} {root : Addr × Addr} {M : Mp} {l : List Wk} {cur : Option (Addr × Addr)} (h : Inv w S root M l cur) (e : Wk) (v : Value) : Inv w S root (pput M e.key v) (l ++ [e]) cur := by
  intro k hk
  by_cases hke : k = e.key
  · exact Or.inr (Or.inl ⟨e, by simp, hke.symm⟩)
  · have hk' : Seen root M k := by
      rcases hk with hk | hk
      · exact Or.inl hk
      · rw [pput_other _ _ hke] at hk; exact Or.inr hk
    rcases h k hk' with h | ⟨d, hd, hdk⟩ | h
    · exact Or.inl h
    · exact Or.inr (Or.inl ⟨d, by simp [hd], hdk⟩)
    · exact Or.inr (Or.inr h.put)
theorem Inv.close {w : World} {S : Nat → Prop} {root : Addr × Addr} {M : Mp} {l : List Wk} {k0 : Addr × Addr} (h : Inv w S root M l (some k0)) (hd : Done w S M k0) : Inv w S root M l none := by
  intro k hk
  rcases h k hk with h | h | h
  · cases h; exact Or.inr (Or.inr hd)
  · exact Or.inr (Or.inl h)
  · exact Or.inr (Or.inr h)
theorem KidsSeen.zero (w : World) (M : Mp) (k : Addr × Addr) : KidsSeen w M k 0 := fun i hi => absurd hi (by omega)
theorem KidsSeen.succ {w : World} {M : Mp} {k : Addr × Addr} {m : Nat} {z z' : Addr} (h : KidsSeen w M k m) (hz : KidAt w k.1 m z) (hz' : KidAt w k.2 m z') (hs : z = z' ∨ (M (z, z')).isSome = true) : KidsSeen w M k (m + 1) := by
  intro i hi y y' hy hy'
  by_cases e : i = m
  · subst e
    rw [hy.uniq hz, hy'.uniq hz']
    exact hs
  · exact h i (by omega) y y' hy hy'
theorem Done.of {w : World} {S : Nat → Prop} {M : Mp} {e : Wk} {Q : Prop} (he : WkOk w S Q e) (h1 : e.s.op = e.t.op) (h2 : e.s.num = e.t.num) (h3 : e.s.kids.length = e.t.kids.length) (h4 : KidsSeen w M e.key e.s.kids.length) : Done w S M e.key := by
  intro s t hs ht
  rw [LiesAt.uniq hs he.1, LiesAt.uniq ht he.2.1]
  exact ⟨h1, h2, h3, h4⟩

theorem tr_ext2 {a b : Tr} (h1 : a.op = b.op) (h2 : a.num = b.num) (h3 : a.kids = b.kids) : a = b := by cases a; cases b; simp_all

/-- nothing is left to compare: the trees of every pair seen are equal -/
theorem Inv.done {w : World} {S : Nat → Prop} {root : Addr × Addr} {M : Mp} (h : Inv w S root M [] none) : ∀ (n : Nat) (k : Addr × Addr) (s t : Tr), szT s ≤ n → Seen root M k → LiesAt w S k.1 s → LiesAt w S k.2 t → s = t := by
  intro n
  induction n using Nat.strongRecOn with
  | ind n ih =>
    intro k s t hz hk hs ht
    rcases h k hk with h | ⟨e, he, -⟩ | h
    · cases h
    · simp at he
    · obtain ⟨h1, h2, h3, h4⟩ := h s t hs ht
      refine tr_ext2 h1 h2 (List.ext_getElem h3 fun i hi hi' => ?_)
      obtain ⟨z, hz1, hl⟩ := hs.kid i hi
      obtain ⟨z', hz2, hl'⟩ := ht.kid i hi'
      rcases h4 i hi z z' hz1 hz2 with e | hsn
      · subst e
        exact LiesAt.uniq hl hl'
      · have hlt := szT_lt_szL s.kids i hi
        rw [← szT_eq] at hlt
        exact ih (szT s.kids[i]) (by omega) (z, z') _ _ (Nat.le_refl _) (Or.inr hsn) hl hl'

/-- how much there is to compare -/
def wkSz (l : List Wk) : Nat := (l.map fun e => 1 + szT e.s).sum
theorem wkSz_snoc (l : List Wk) (e : Wk) : wkSz (l ++ [e]) = wkSz l + (1 + szT e.s) := by simp [wkSz]
theorem wkSz_len (l : List Wk) : l.length ≤ wkSz l := by
  induction l with
  | nil => simp [wkSz]
  | cons e l ih => simp only [wkSz, List.map_cons, List.sum_cons, List.length_cons] at ih ⊢; omega

/-- pairs, as cells -/
def wkCells (l : List Wk) : List Value := l.flatMap fun e => [.pointer (some e.x), .pointer (some e.y)]
theorem wkCells_length (l : List Wk) : (wkCells l).length = l.length * 2 := by
  induction l with
  | nil => rfl
  | cons d l ih =>
    show ([_, _] ++ wkCells l).length = _
    rw [List.length_append, ih]
    simp
    omega
theorem wkCells_snoc (l : List Wk) (e : Wk) : wkCells (l ++ [e]) = wkCells l ++ [.pointer (some e.x), .pointer (some e.y)] := by simp [wkCells]
theorem wkCells_one (l : List Wk) : ∀ u ∈ wkCells l, u.oneCell' = true := by
  intro u hu
  simp only [wkCells, List.mem_flatMap] at hu
  obtain ⟨d, -, hu⟩ := hu
  simp only [List.mem_cons, List.not_mem_nil, or_false] at hu
  rcases hu with rfl | rfl <;> rfl

/-- an owned row, cut at its end -/
theorem own_cut {w : World} {base size n m g cap : Nat} {T : TypeId} {xs ys : List Value} (h : w.ownsRow base T size (.slice (some ⟨g, 0, none⟩) n cap) n (xs ++ ys)) (hl : xs.length = m * size) (hm : m ≤ n) : w.ownsRow base T size (.slice (some ⟨g, 0, none⟩) m cap) m xs := by
  obtain ⟨h1, h2⟩ := h
  rcases h2 with ⟨h2, -⟩ | ⟨g', cap', cur, e, hg, hh, hn, hc, hs, htk⟩
  · cases h2
  · cases e
    refine ⟨hl, Or.inr ⟨_, _, cur, rfl, hg, hh, by omega, hc, hs, ?_⟩⟩
    have h3 : m * size ≤ n * size := Nat.mul_le_mul_right _ hm
    have := congrArg (List.take (m * size)) htk
    rw [List.take_take, Nat.min_eq_left h3] at this
    rw [this, ← hl, List.take_left]
theorem own_at {w : World} {base size n g cap : Nat} {T : TypeId} {xs : List Value} (h : w.ownsRow base T size (.slice (some ⟨g, 0, none⟩) n cap) n xs) (j : Nat) (u : Value) (hu : xs[j]? = some u) : w.cell? ⟨g, j, none⟩ = some u := by
  rcases h.2 with ⟨h2, -⟩ | ⟨g', cap', cur, e, hg, hh, hn, hc, hs, htk⟩
  · cases h2
  · cases e
    have hlt : j < n * size := by
      have := (List.getElem?_eq_some_iff.1 hu).1
      rw [h.1] at this
      exact this
    rw [← htk, List.getElem?_take_of_lt hlt, Array.getElem?_toList] at hu
    simp only [World.cell?, hh]
    exact hu
end Go.Proofs.Ytjpjikfmdaejeaa
/-
  COUNTING NODES: a path of nodes that are being counted, and the counts that are known; what they say of a tree. No program is named here.
-/
namespace Go.Proofs.Ytjpjikfmdaejeaa
set_option linter.unusedVariables false
set_option linter.unusedSimpArgs false
open Go.RowKit

mutual
/-- how many nodes of a tree are wanted -/
def cntT (p : Tr → Bool) : Tr → Nat
  | .node o n ks => (if p (.node o n ks) then 1 else 0) + cntL p ks
/-- .. of a list of trees -/
def cntL (p : Tr → Bool) : List Tr → Nat
  | [] => 0
  | t :: ts => cntT p t + cntL p ts
end
theorem cntT_eq (p : Tr → Bool) (t : Tr) : cntT p t = (if p t then 1 else 0) + cntL p t.kids := by cases t; simp [cntT]
theorem cntL_sum (p : Tr → Bool) : ∀ (l : List Tr), cntL p l = (l.map (cntT p)).sum
  | [] => by simp [cntL]
  | t :: ts => by rw [cntL, cntL_sum p ts]; simp
theorem cntL_take_succ (p : Tr → Bool) (l : List Tr) (i : Nat) (h : i < l.length) : cntL p (l.take (i + 1)) = cntL p (l.take i) + cntT p l[i] := by
  rw [cntL_sum, cntL_sum, List.take_succ_eq_append_getElem h, List.map_append, List.sum_append]; simp
mutual
theorem cntT_le (p : Tr → Bool) : ∀ t : Tr, cntT p t ≤ 1 + szT t
  | .node o n ks => by
    have := cntL_le p ks
    simp only [cntT, szT]
    split <;> omega
theorem cntL_le (p : Tr → Bool) : ∀ l : List Tr, cntL p l ≤ szL l
  | [] => by simp [cntL, szL]
  | t :: ts => by
    have := cntT_le p t
    have := cntL_le p ts
    simp only [cntL, szL]
    omega
end
theorem cntL_take_le (p : Tr → Bool) (l : List Tr) (i : Nat) : cntL p (l.take i) ≤ szL l := Nat.le_trans (cntL_le p _) (szL_take_le l i)
mutual
theorem cntT_all : ∀ t : Tr, cntT (fun _ => true) t = 1 + szT t
  | .node o n ks => by
    have := cntL_all ks
    simp only [cntT, szT]
    simp [this]
theorem cntL_all : ∀ l : List Tr, cntL (fun _ => true) l = szL l
  | [] => by simp [cntL, szL]
  | t :: ts => by
    have := cntT_all t
    have := cntL_all ts
    simp only [cntL, szL]
    omega
end

/-- a node that is being counted: where, its tree, the operands counted, the sum so far -/
structure Fr where
  x : Addr
  t : Tr
  nx : Nat
  sm : Nat
abbrev Mc := Addr → Option Value
/-- the place of operand i, as a function -/
def kidAddr (w : World) (x : Addr) (i : Nat) : Addr :=
  match w.cell? ⟨x.block, x.off + 2, none⟩ with
  | some (.slice (some a) _ _) => ⟨a.block, a.off + i * 3, none⟩
  | _ => x
theorem KidAt.addr {w : World} {x z : Addr} {i : Nat} (h : KidAt w x i z) : kidAddr w x i = z := by
  obtain ⟨bl, off, kb, ko, n, cap, rfl, hc, rfl⟩ := h
  simp [kidAddr, hc]
def FrOk (w : World) (S : Nat → Prop) (p : Tr → Bool) (f : Fr) : Prop :=
  LiesAt w S f.x f.t ∧ f.nx ≤ f.t.kids.length ∧ f.sm = (if p f.t then 1 else 0) + cntL p (f.t.kids.take f.nx)
/-- the nodes lie in one another, the last one innermost -/
def Nest : List Fr → Prop
  | [] => True
  | f :: fs => (∀ g ∈ fs, szT g.t < szT f.t) ∧ Nest fs
theorem Nest.snoc : ∀ {l : List Fr} {f : Fr}, Nest l → (∀ g ∈ l, szT f.t < szT g.t) → Nest (l ++ [f])
  | [], f, _, _ => by simp [Nest]
  | g :: l, f, h, hf => by
    simp only [List.cons_append, Nest] at h ⊢
    refine ⟨fun d hd => ?_, Nest.snoc h.2 fun d hd => hf d (by simp [hd])⟩
    rw [List.mem_append] at hd
    rcases hd with hd | hd
    · exact h.1 d hd
    · rw [List.mem_singleton] at hd; subst hd; exact hf g (by simp)
theorem Nest.init : ∀ {l : List Fr} {f : Fr}, Nest (l ++ [f]) → Nest l ∧ ∀ g ∈ l, szT f.t < szT g.t
  | [], f, _ => by simp [Nest]
  | g :: l, f, h => by
    simp only [List.cons_append, Nest] at h ⊢
    obtain ⟨h1, h2⟩ := Nest.init h.2
    refine ⟨⟨fun d hd => h.1 d (by simp [hd]), h1⟩, fun d hd => ?_⟩
    rw [List.mem_cons] at hd
    rcases hd with rfl | hd
    · exact h.1 f (by simp)
    · exact h2 d hd
/-- what is known: a count, or that the node is on the path -/
def Known (w : World) (S : Nat → Prop) (p : Tr → Bool) (l : List Fr) (k : Addr) (v : Value) : Prop :=
  ∃ t, LiesAt w S k t ∧ (v = .int .i64 (cntT p t) ∨ (v = .int .i64 (-1) ∧ ∃ f ∈ l, f.x = k))
def TInv (w : World) (S : Nat → Prop) (p : Tr → Bool) (M : Mc) (l : List Fr) : Prop :=
  (∀ f ∈ l, FrOk w S p f) ∧ Nest l ∧ ∀ k v, M k = some v → Known w S p l k v

/-- what is still to be done -/
def wtOf (M : Mc) (k : Addr) (t : Tr) : Nat := if (M k).isSome then 1 else 3 * (1 + szT t)
def remL (w : World) (M : Mc) (x : Addr) : Nat → List Tr → Nat
  | _, [] => 0
  | i, k :: ks => wtOf M (kidAddr w x i) k + remL w M x (i + 1) ks
def remF (w : World) (M : Mc) (f : Fr) : Nat := remL w M f.x f.nx (f.t.kids.drop f.nx)
def remP (w : World) (M : Mc) (l : List Fr) : Nat := (l.map (remF w M)).sum + l.length
theorem wtOf_put (M : Mc) (a k : Addr) (v : Value) (t : Tr) : wtOf (pput M a v) k t ≤ wtOf M k t := by
  unfold wtOf
  by_cases h : (M k).isSome = true
  · rw [if_pos h, if_pos (pput_some h)]; exact Nat.le_refl _
  · rw [if_neg h]; split <;> omega
theorem remL_put (w : World) (M : Mc) (a x : Addr) (v : Value) : ∀ (l : List Tr) (i : Nat), remL w (pput M a v) x i l ≤ remL w M x i l
  | [], _ => by simp [remL]
  | k :: ks, i => by
    have := remL_put w M a x v ks (i + 1)
    have := wtOf_put M a (kidAddr w x i) v k
    simp only [remL]
    omega
theorem remP_put (w : World) (M : Mc) (a : Addr) (v : Value) : ∀ (l : List Fr), (l.map (remF w (pput M a v))).sum ≤ (l.map (remF w M)).sum
  | [] => by simp
  | f :: l => by
    have := remP_put w M a v l
    have := remL_put w M a f.x v (f.t.kids.drop f.nx) f.nx
    simp only [List.map_cons, List.sum_cons, remF] at this ⊢
    omega
theorem remL_le (w : World) (M : Mc) (x : Addr) : ∀ (l : List Tr) (i : Nat), remL w M x i l ≤ 3 * szL l
  | [], _ => by simp [remL, szL]
  | k :: ks, i => by
    have := remL_le w M x ks (i + 1)
    have : wtOf M (kidAddr w x i) k ≤ 3 * (1 + szT k) := by unfold wtOf; split <;> omega
    simp only [remL, szL]
    omega
theorem remF_at (w : World) (M : Mc) (f : Fr) (h : f.nx < f.t.kids.length) : remF w M f = wtOf M (kidAddr w f.x f.nx) f.t.kids[f.nx] + remL w M f.x (f.nx + 1) (f.t.kids.drop (f.nx + 1)) := by
  unfold remF
  rw [List.drop_eq_getElem_cons h]
  rfl
theorem remP_snoc (w : World) (M : Mc) (l : List Fr) (f : Fr) : remP w M (l ++ [f]) = (l.map (remF w M)).sum + l.length + (remF w M f + 1) := by
  simp [remP]; omega

/-- a node is counted: it leaves the path -/
theorem TInv.pop {w : World} {S : Nat → Prop} {p : Tr → Bool} {M : Mc} {l : List Fr} {f : Fr} (h : TInv w S p M (l ++ [f])) (hf : f.nx = f.t.kids.length) :
    TInv w S p (pput M f.x (.int .i64 (f.sm : Int))) l ∧ f.sm = cntT p f.t ∧ remP w (pput M f.x (.int .i64 (f.sm : Int))) l < remP w M (l ++ [f]) := by
  obtain ⟨h1, h2, h3⟩ := h
  obtain ⟨f1, -, f3⟩ := h1 f (by simp)
  have hsm : f.sm = cntT p f.t := by rw [f3, cntT_eq, hf, List.take_length]
  refine ⟨⟨fun g hg => h1 g (by simp [hg]), h2.init.1, fun k v hk => ?_⟩, hsm, ?_⟩
  · by_cases e : k = f.x
    · subst e
      rw [pput_same] at hk
      cases hk
      exact ⟨f.t, f1, Or.inl (by rw [hsm])⟩
    · rw [pput_other _ _ e] at hk
      obtain ⟨t, ht, hv⟩ := h3 k v hk
      refine ⟨t, ht, hv.imp id fun ⟨e1, g, hg, hgx⟩ => ⟨e1, g, ?_, hgx⟩⟩
      rw [List.mem_append] at hg
      rcases hg with hg | hg
      · exact hg
      · rw [List.mem_singleton] at hg; subst hg; exact absurd hgx.symm e
  · rw [remP_snoc]
    have := remP_put w M f.x (.int .i64 (f.sm : Int)) l
    unfold remP
    omega
/-- an operand that is counted already -/
theorem TInv.found {w : World} {S : Nat → Prop} {p : Tr → Bool} {M : Mc} {l : List Fr} {f : Fr} (h : TInv w S p M (l ++ [f])) (hf : f.nx < f.t.kids.length) {v : Value} (hv : M (kidAddr w f.x f.nx) = some v) :
    v = .int .i64 (cntT p f.t.kids[f.nx] : Int) ∧ TInv w S p M (l ++ [⟨f.x, f.t, f.nx + 1, f.sm + cntT p f.t.kids[f.nx]⟩]) ∧ remP w M (l ++ [⟨f.x, f.t, f.nx + 1, f.sm + cntT p f.t.kids[f.nx]⟩]) < remP w M (l ++ [f]) := by
  obtain ⟨h1, h2, h3⟩ := h
  obtain ⟨f1, f2, f3⟩ := h1 f (by simp)
  obtain ⟨n1, n2⟩ := h2.init
  obtain ⟨z, hz, hl⟩ := f1.kid f.nx hf
  have hza := hz.addr
  have hlt := szT_lt_szL f.t.kids f.nx hf
  rw [← szT_eq] at hlt
  refine ⟨?_, ⟨fun g hg => ?_, ?_, fun k u hk => ?_⟩, ?_⟩
  · obtain ⟨t, ht, hv'⟩ := h3 _ v hv
    rw [hza] at ht hv'
    have := ht.uniq hl
    subst this
    rcases hv' with hv' | ⟨-, g, hg, hgx⟩
    · exact hv'
    · exfalso
      have hg1 := (h1 g hg).1
      rw [hgx] at hg1
      have he := hg1.uniq hl
      rw [List.mem_append] at hg
      rcases hg with hg | hg
      · have := n2 g hg; rw [he] at this; omega
      · rw [List.mem_singleton] at hg; subst hg; have := congrArg szT he; omega
  · rw [List.mem_append] at hg
    rcases hg with hg | hg
    · exact h1 g (by simp [hg])
    · rw [List.mem_singleton] at hg
      subst hg
      refine ⟨f1, hf, ?_⟩
      show f.sm + _ = _
      rw [f3, cntL_take_succ p _ _ hf, Nat.add_assoc]
  · exact Nest.snoc n1 n2
  · obtain ⟨t, ht, hv'⟩ := h3 k u hk
    refine ⟨t, ht, hv'.imp id fun ⟨e1, g, hg, hgx⟩ => ⟨e1, ?_⟩⟩
    rw [List.mem_append] at hg
    rcases hg with hg | hg
    · exact ⟨g, by simp [hg], hgx⟩
    · rw [List.mem_singleton] at hg; subst hg; exact ⟨_, List.mem_append_right _ (List.mem_singleton.2 rfl), hgx⟩
  · rw [remP_snoc, remP_snoc, remF_at w M f hf]
    have : wtOf M (kidAddr w f.x f.nx) f.t.kids[f.nx] = 1 := by unfold wtOf; rw [hv]; rfl
    rw [this]
    show _ + _ + (remL w M f.x (f.nx + 1) (f.t.kids.drop (f.nx + 1)) + 1) < _
    omega
/-- an operand that is new: it goes onto the path -/
theorem TInv.push {w : World} {S : Nat → Prop} {p : Tr → Bool} {M : Mc} {l : List Fr} {f : Fr} (h : TInv w S p M (l ++ [f])) (hf : f.nx < f.t.kids.length) (hv : M (kidAddr w f.x f.nx) = none) :
    TInv w S p (pput M (kidAddr w f.x f.nx) (.int .i64 (-1))) (l ++ [f] ++ [⟨kidAddr w f.x f.nx, f.t.kids[f.nx], 0, if p f.t.kids[f.nx] then 1 else 0⟩]) ∧
      remP w (pput M (kidAddr w f.x f.nx) (.int .i64 (-1))) (l ++ [f] ++ [⟨kidAddr w f.x f.nx, f.t.kids[f.nx], 0, if p f.t.kids[f.nx] then 1 else 0⟩]) < remP w M (l ++ [f]) := by
  obtain ⟨h1, h2, h3⟩ := h
  obtain ⟨f1, f2, f3⟩ := h1 f (by simp)
  obtain ⟨n1, n2⟩ := h2.init
  obtain ⟨z, hz, hl⟩ := f1.kid f.nx hf
  have hza := hz.addr
  have hlt := szT_lt_szL f.t.kids f.nx hf
  rw [← szT_eq] at hlt
  refine ⟨⟨fun g hg => ?_, ?_, fun k u hk => ?_⟩, ?_⟩
  · rw [List.mem_append] at hg
    rcases hg with hg | hg
    · exact h1 g hg
    · rw [List.mem_singleton] at hg
      subst hg
      exact ⟨by rw [hza]; exact hl, Nat.zero_le _, by simp [cntL]⟩
  · refine Nest.snoc h2 fun g hg => ?_
    rw [List.mem_append] at hg
    rcases hg with hg | hg
    · have := n2 g hg
      show szT f.t.kids[f.nx] < _
      omega
    · rw [List.mem_singleton] at hg; subst hg; exact hlt
  · by_cases e : k = kidAddr w f.x f.nx
    · subst e
      rw [pput_same] at hk
      cases hk
      exact ⟨_, by rw [hza]; exact hl, Or.inr ⟨rfl, _, List.mem_append_right _ (List.mem_singleton.2 rfl), rfl⟩⟩
    · rw [pput_other _ _ e] at hk
      obtain ⟨t, ht, hv'⟩ := h3 k u hk
      exact ⟨t, ht, hv'.imp id fun ⟨e1, g, hg, hgx⟩ => ⟨e1, g, List.mem_append_left _ hg, hgx⟩⟩
  · rw [remP_snoc, remP_snoc, List.map_append, List.sum_append]
    have a1 := remP_put w M (kidAddr w f.x f.nx) (.int .i64 (-1)) l
    have a2 := remF_at w M f hf
    have a3 := remF_at w (pput M (kidAddr w f.x f.nx) (.int .i64 (-1))) f hf
    have a4 := remL_put w M (kidAddr w f.x f.nx) f.x (.int .i64 (-1)) (f.t.kids.drop (f.nx + 1)) (f.nx + 1)
    have b1 : wtOf M (kidAddr w f.x f.nx) f.t.kids[f.nx] = 3 * (1 + szT f.t.kids[f.nx]) := by unfold wtOf; rw [hv]; simp
    have b2 : wtOf (pput M (kidAddr w f.x f.nx) (.int .i64 (-1))) (kidAddr w f.x f.nx) f.t.kids[f.nx] = 1 := by unfold wtOf; rw [pput_same]; rfl
    have a5 : remF w (pput M (kidAddr w f.x f.nx) (.int .i64 (-1))) ⟨kidAddr w f.x f.nx, f.t.kids[f.nx], 0, if p f.t.kids[f.nx] then 1 else 0⟩ ≤ 3 * szT f.t.kids[f.nx] := by
      have := remL_le w (pput M (kidAddr w f.x f.nx) (.int .i64 (-1))) (kidAddr w f.x f.nx) (f.t.kids[f.nx]).kids 0
      rw [← szT_eq] at this
      simpa [remF] using this
    rw [b1] at a2
    rw [b2] at a3
    simp only [List.map_cons, List.map_nil, List.sum_cons, List.sum_nil, List.length_append, List.length_cons, List.length_nil]
    omega
theorem TInv.start {w : World} {S : Nat → Prop} {x : Addr} {t : Tr} (h : LiesAt w S x t) (p : Tr → Bool) : TInv w S p (fun _ => none) [⟨x, t, 0, if p t then 1 else 0⟩] := by
  refine ⟨fun f hf => ?_, by simp [Nest], fun k v hk => by simp at hk⟩
  rw [List.mem_singleton] at hf
  subst hf
  exact ⟨h, Nat.zero_le _, by simp [cntL]⟩
/-- how long the path is, how great a sum -/
theorem Nest.len : ∀ {l : List Fr} {n : Nat}, Nest l → (∀ f ∈ l, szT f.t < n) → l.length ≤ n
  | [], n, _, _ => by simp
  | f :: l, n, h, hb => by
    have h1 := hb f (by simp)
    have := Nest.len h.2 h.1
    simp only [List.length_cons]
    omega
/-- the first node -/
def HeadIs (a : Tr) (l : List Fr) : Prop := ∃ g r, l = g :: r ∧ g.t = a
theorem HeadIs.le {a : Tr} {l : List Fr} (h : HeadIs a l) (hn : Nest l) : (∀ f ∈ l, szT f.t ≤ szT a) ∧ l.length ≤ szT a + 1 := by
  obtain ⟨g, r, rfl, rfl⟩ := h
  refine ⟨fun f hf => ?_, ?_⟩
  · rw [List.mem_cons] at hf
    rcases hf with rfl | hf
    · exact Nat.le_refl _
    · exact Nat.le_of_lt (hn.1 f hf)
  · have := Nest.len hn.2 hn.1
    simp only [List.length_cons]
    omega
theorem HeadIs.snoc {a : Tr} {l : List Fr} (h : HeadIs a l) (f : Fr) : HeadIs a (l ++ [f]) := by
  obtain ⟨g, r, rfl, h⟩ := h
  exact ⟨g, r ++ [f], by simp, h⟩
theorem HeadIs.init {a : Tr} {l : List Fr} {f : Fr} (h : HeadIs a (l ++ [f])) (hl : l ≠ []) : HeadIs a l := by
  obtain ⟨g, r, e, h⟩ := h
  cases l with
  | nil => exact absurd rfl hl
  | cons d l =>
    simp only [List.cons_append, List.cons.injEq] at e
    exact ⟨d, l, rfl, by rw [e.1]; exact h⟩
theorem HeadIs.last {a : Tr} {l : List Fr} {f f' : Fr} (h : HeadIs a (l ++ [f])) (ht : f'.t = f.t) : HeadIs a (l ++ [f']) := by
  obtain ⟨g, r, e, h⟩ := h
  cases l with
  | nil =>
    simp only [List.nil_append, List.cons.injEq] at e
    exact ⟨f', [], rfl, by rw [ht, e.1]; exact h⟩
  | cons d l =>
    simp only [List.cons_append, List.cons.injEq] at e
    exact ⟨d, l ++ [f'], by simp, by rw [e.1]; exact h⟩
theorem HeadIs.one {a : Tr} {f : Fr} (h : HeadIs a ([] ++ [f])) : f.t = a := by
  obtain ⟨g, r, e, h⟩ := h
  simp only [List.nil_append, List.cons.injEq] at e
  rw [e.1]; exact h
/-- a place in a later world -/
theorem LiesAt.carry {w w' : World} {x : Addr} {t : Tr} (h : LiesAt w (Pl w) x t) (hb : Below w.heap.size w w') : LiesAt w' (Lt w'.heap.size) x t := by
  obtain ⟨bl, off, a, b, c, rfl, hp, h0, h1, h2, ht⟩ := h
  exact ⟨bl, off, a, b, c, rfl, Nat.lt_of_lt_of_le hp.1 hb.size, (hb.cell (p := ⟨bl, off, none⟩) hp.1).trans h0, (hb.cell (p := ⟨bl, off + 1, none⟩) hp.1).trans h1, (hb.cell (p := ⟨bl, off + 2, none⟩) hp.1).trans h2,
    ht.mono (fun k hk => Nat.lt_of_lt_of_le hk.1 hb.size) (fun k hk => hb.block k hk.1)⟩
/-- nodes, as cells -/
def frCells (l : List Fr) : List Value := l.flatMap fun f => [.pointer (some f.x), .int .i64 (f.nx : Int), .int .i64 (f.sm : Int)]
theorem frCells_length (l : List Fr) : (frCells l).length = l.length * 3 := by
  induction l with
  | nil => rfl
  | cons d l ih =>
    show ([_, _, _] ++ frCells l).length = _
    rw [List.length_append, ih]
    simp
    omega
theorem frCells_snoc (l : List Fr) (f : Fr) : frCells (l ++ [f]) = frCells l ++ [.pointer (some f.x), .int .i64 (f.nx : Int), .int .i64 (f.sm : Int)] := by simp [frCells]
theorem frCells_one (l : List Fr) : ∀ u ∈ frCells l, u.oneCell' = true := by
  intro u hu
  simp only [frCells, List.mem_flatMap] at hu
  obtain ⟨d, -, hu⟩ := hu
  simp only [List.mem_cons, List.not_mem_nil, or_false] at hu
  rcases hu with rfl | rfl | rfl <;> rfl
theorem frCells_top (l : List Fr) (f : Fr) : (frCells (l ++ [f]))[l.length * 3]? = some (.pointer (some f.x)) ∧ (frCells (l ++ [f]))[l.length * 3 + 1]? = some (.int .i64 (f.nx : Int)) ∧ (frCells (l ++ [f]))[l.length * 3 + 2]? = some (.int .i64 (f.sm : Int)) := by
  rw [frCells_snoc, ← frCells_length]
  refine ⟨?_, ?_, ?_⟩
  · rw [List.getElem?_append_right (by omega)]; simp
  · rw [List.getElem?_append_right (by omega)]; simp
  · rw [List.getElem?_append_right (by omega)]; simp
theorem frCells_set (l : List Fr) (f : Fr) (n s : Nat) : ((frCells (l ++ [f])).set (l.length * 3 + 2) (.int .i64 (s : Int))).set (l.length * 3 + 1) (.int .i64 (n : Int)) = frCells (l ++ [⟨f.x, f.t, n, s⟩]) := by
  rw [frCells_snoc, frCells_snoc, ← frCells_length]
  rw [List.set_append_right _ _ (by omega), List.set_append_right _ _ (by omega)]
  simp
end Go.Proofs.Ytjpjikfmdaejeaa
/-
  REPLACING VARIABLES, plainly: the tree, its size, its variables. No program is named here.
-/
namespace Go.Proofs.Ytjpjikfmdaejeaa
set_option linter.unusedVariables false
set_option linter.unusedSimpArgs false
open Go.RowKit

mutual
/-- a tree with its variables replaced -/
def sbT (args : List Tr) : Tr → Tr
  | .node o n ks => if o = 1 then args.getD n.toNat default else .node o n (sbL args ks)
def sbL (args : List Tr) : List Tr → List Tr
  | [] => []
  | t :: ts => sbT args t :: sbL args ts
end
theorem sbT_eq (args : List Tr) (t : Tr) : sbT args t = if t.op = 1 then args.getD t.num.toNat default else .node t.op t.num (sbL args t.kids) := by cases t; simp [sbT]
theorem sbL_map (args : List Tr) : ∀ l : List Tr, sbL args l = l.map (sbT args)
  | [] => by simp [sbL]
  | t :: ts => by rw [sbL, sbL_map args ts]; rfl

/-- every node's variable has a place among so many -/
def VarOk (n : Nat) (t : Tr) : Prop := t.op = 1 → 0 ≤ t.num ∧ t.num < n ∧ t.kids = []
mutual
def AllT (P : Tr → Prop) : Tr → Prop
  | .node o n ks => P (.node o n ks) ∧ AllL P ks
def AllL (P : Tr → Prop) : List Tr → Prop
  | [] => True
  | t :: ts => AllT P t ∧ AllL P ts
end
theorem allT_iff (P : Tr → Prop) (t : Tr) : AllT P t ↔ P t ∧ AllL P t.kids := by cases t; simp [AllT]
theorem allL_iff (P : Tr → Prop) : ∀ l : List Tr, AllL P l ↔ ∀ t ∈ l, AllT P t
  | [] => by simp [AllL]
  | t :: ts => by simp [AllL, allL_iff P ts]
theorem AllT.kid {P : Tr → Prop} {t : Tr} (h : AllT P t) (i : Nat) (hi : i < t.kids.length) : AllT P t.kids[i] := (allL_iff P _).1 ((allT_iff P t).1 h).2 _ (List.getElem_mem hi)
theorem allT_true (P : Tr → Prop) (hP : ∀ t, P t) : ∀ (n : Nat) (t : Tr), szT t ≤ n → AllT P t := by
  intro n
  induction n with
  | zero =>
    intro t h
    refine (allT_iff P t).2 ⟨hP t, (allL_iff P _).2 fun k hk => ?_⟩
    obtain ⟨i, hi, rfl⟩ := List.getElem_of_mem hk
    exact absurd (szT_lt_szL t.kids i hi) (by rw [szT_eq] at h; omega)
  | succ n ih =>
    intro t h
    refine (allT_iff P t).2 ⟨hP t, (allL_iff P _).2 fun k hk => ?_⟩
    obtain ⟨i, hi, rfl⟩ := List.getElem_of_mem hk
    exact ih _ (by have := szT_lt_szL t.kids i hi; rw [szT_eq] at h; omega)
/-- what a well-formed tree's variables are -/
theorem varOk_of_sh (vars : Nat) (defs : Int) : ∀ (d : Nat) (t : Tr), shB vars defs d t = true → AllT (VarOk vars) t
  | 0, t, h => by simp [shB] at h
  | d + 1, t, h => by
    unfold shB at h
    simp only [Bool.and_eq_true, decide_eq_true_eq, List.all_eq_true] at h
    obtain ⟨⟨h1, h2⟩, h3⟩ := h
    refine (allT_iff _ t).2 ⟨fun ho => ?_, (allL_iff _ _).2 fun k hk => varOk_of_sh vars defs d k (h3 k hk)⟩
    unfold ownB at h2
    rw [if_pos ho] at h2
    simp only [decide_eq_true_eq] at h2
    unfold arity at h1
    rw [if_pos (Or.inl ho)] at h1
    exact ⟨h2.1, h2.2, List.eq_nil_of_length_eq_zero (by omega)⟩

/-- is a node the variable i? -/
def isVar (i : Nat) (t : Tr) : Bool := t.op == 1 && t.num == (i : Int)
/-- what the arguments add, so often -/
def gain (args : List Tr) (u : Nat → Nat) : Nat := ((List.range args.length).map fun i => u i * szT (args.getD i default)).sum
theorem sum_map_add (l : List Nat) (f g : Nat → Nat) : (l.map fun i => f i + g i).sum = (l.map f).sum + (l.map g).sum := by
  induction l with
  | nil => rfl
  | cons a l ih => simp only [List.map_cons, List.sum_cons, ih]; omega
theorem sum_map_zero (l : List Nat) : (l.map fun _ => 0).sum = 0 := by
  induction l with
  | nil => rfl
  | cons a l ih => simpa using ih
theorem gain_add (args : List Tr) (u v : Nat → Nat) : gain args (fun i => u i + v i) = gain args u + gain args v := by
  unfold gain
  rw [← sum_map_add]
  congr 1
  refine List.map_congr_left fun i _ => ?_
  rw [Nat.add_mul]
theorem gain_congr (args : List Tr) (u v : Nat → Nat) (h : ∀ i, i < args.length → u i = v i) : gain args u = gain args v := by
  unfold gain
  congr 1
  refine List.map_congr_left fun i hi => ?_
  rw [h i (List.mem_range.1 hi)]
theorem gain_zero (args : List Tr) : gain args (fun _ => 0) = 0 := by
  unfold gain
  rw [List.map_congr_left (g := fun _ => 0) (fun i _ => Nat.zero_mul _), sum_map_zero]
theorem sum_one (n j : Nat) (f : Nat → Nat) (h : j < n) : ((List.range n).map fun i => (if i = j then 1 else 0) * f i).sum = f j := by
  induction n with
  | zero => omega
  | succ n ih =>
    rw [List.range_succ, List.map_append, List.sum_append]
    simp only [List.map_cons, List.map_nil, List.sum_cons, List.sum_nil, Nat.add_zero]
    by_cases hj : j = n
    · subst hj
      have : ((List.range j).map fun i => (if i = j then 1 else 0) * f i).sum = 0 := by
        rw [List.map_congr_left (g := fun _ => 0) (fun i hi => ?_), sum_map_zero]
        have := List.mem_range.1 hi
        rw [if_neg (by omega), Nat.zero_mul]
      rw [this, if_pos rfl]
      omega
    · rw [ih (by omega), if_neg (fun e => hj e.symm)]
      omega
theorem gain_one (args : List Tr) (j : Nat) (h : j < args.length) : gain args (fun i => if i = j then 1 else 0) = szT (args.getD j default) := by
  unfold gain
  exact sum_one args.length j (fun i => szT (args.getD i default)) h

mutual
/-- the size of the result -/
theorem sz_sbT (args : List Tr) : ∀ t : Tr, AllT (VarOk args.length) t → szT (sbT args t) = szT t + gain args (fun i => cntT (isVar i) t)
  | .node o n ks, h => by
    obtain ⟨h1, h2⟩ := (allT_iff _ _).1 h
    by_cases ho : o = 1
    · obtain ⟨g1, g2, g3⟩ := h1 ho
      simp only [Tr.num_node, Tr.kids_node] at g1 g2 g3
      subst ho
      subst g3
      have hj : n.toNat < args.length := by omega
      simp only [sbT, if_true, szT, szL, Nat.zero_add]
      rw [← gain_one args n.toNat hj]
      refine gain_congr args _ _ fun i hi => ?_
      simp only [cntT, cntL, Nat.add_zero, isVar, Tr.op_node, Tr.num_node]
      by_cases hin : i = n.toNat
      · obtain rfl : n = (i : Int) := by omega
        simp
      · have : ¬ n = (i : Int) := by omega
        simp [hin, this]
    · have hk := sz_sbL args ks h2
      simp only [sbT, if_neg ho, szT, hk]
      congr 1
      refine gain_congr args _ _ fun i hi => ?_
      simp [cntT, isVar, ho]
theorem sz_sbL (args : List Tr) : ∀ l : List Tr, AllL (VarOk args.length) l → szL (sbL args l) = szL l + gain args (fun i => cntL (isVar i) l)
  | [], _ => by
    simp only [sbL, szL, cntL, Nat.zero_add]
    exact (gain_zero args).symm
  | t :: ts, h => by
    simp only [AllL] at h
    have h1 := sz_sbT args t h.1
    have h2 := sz_sbL args ts h.2
    simp only [sbL, szL, h1, h2]
    rw [show (fun i => cntL (isVar i) (t :: ts)) = fun i => cntT (isVar i) t + cntL (isVar i) ts from rfl, gain_add]
    omega
end
end Go.Proofs.Ytjpjikfmdaejeaa
/-
  WHAT AddExpr AND BuildGraph HAND BACK.
-/
namespace Go.Proofs.Ytjpjikfmdaejeaa
set_option linter.unusedVariables false
set_option linter.unusedSimpArgs false
open Go.RowKit

/-- the graph with the expression's cells, the expression's cell, and whether there is one -/
def addOut (g : List Ce) (t : Tr) (xs : List Int) (defs : Int) : List Ce × Nat × Bool :=
  if graphB g defs = true ∧ validB t xs.length defs = true ∧ xs.all (isAt g.length) = true ∧ (addT (xs.map Int.toNat) t g).1.length ≤ 400 then ((addT (xs.map Int.toNat) t g).1, (addT (xs.map Int.toNat) t g).2, true) else ([], 0, false)
theorem addOut_yes {g : List Ce} {t : Tr} {xs : List Int} {defs : Int} (h1 : graphB g defs = true) (h2 : validB t xs.length defs = true) (h3 : xs.all (isAt g.length) = true) (h4 : (addT (xs.map Int.toNat) t g).1.length ≤ 400) : addOut g t xs defs = ((addT (xs.map Int.toNat) t g).1, (addT (xs.map Int.toNat) t g).2, true) := by
  unfold addOut; rw [if_pos ⟨h1, h2, h3, h4⟩]
theorem addOut_no {g : List Ce} {t : Tr} {xs : List Int} {defs : Int} (h : ¬ (graphB g defs = true ∧ validB t xs.length defs = true ∧ xs.all (isAt g.length) = true ∧ (addT (xs.map Int.toNat) t g).1.length ≤ 400)) : addOut g t xs defs = ([], 0, false) := by
  unfold addOut; rw [if_neg h]
/-- a closed expression fits an empty graph -/
theorem addOut_closed (t : Tr) (defs : Int) : addOut [] t [] defs = if validB t 0 defs = true then ((addT [] t []).1, (addT [] t []).2, true) else ([], 0, false) := by
  by_cases h : validB t 0 defs = true
  · rw [if_pos h]
    have h' := h
    unfold validB at h'
    simp only [Bool.and_eq_true, decide_eq_true_eq] at h'
    have hs := (addT_size [] t []).2.1
    refine addOut_yes ?_ h (by simp) (by simp only [List.map_nil, List.length_nil] at *; omega)
    unfold graphB
    simp
    omega
  · rw [if_neg h]
    exact addOut_no fun hh => h hh.2.1
/-- an answer: the row of cells and the operands' rows are new -/
def AddOut (o : List Ce × Nat × Bool) (w : World) (e : Ending) (w' : World) : Prop :=
  ∃ v, e = .returned (.tuple #[v, .int .i64 (o.2.1 : Int), .bool o.2.2]) ∧ OwnC w' w.heap.size (fun b => w.heap.size ≤ b) o.1 v ∧ Below w.heap.size w w'
theorem OwnC.zero {w : World} {lo b : Nat} {S : Nat → Prop} (h : w.heap[b]? = some (.cells #[] 45)) (hb : lo ≤ b) : OwnC w lo S [] (.slice (some ⟨b, 0, none⟩) 0 0) :=
  ⟨fun i h => absurd h (by simp), [], fun _ => 0, ⟨rfl, Or.inr ⟨b, 0, #[], rfl, hb, h, Nat.le_refl _, by simp [maxLen], rfl, rfl⟩⟩, fun j hj => absurd hj (by simp), fun i j hi _ => absurd hi (by simp)⟩
/-- the cells that stand for the variables -/
theorem args_back {xs : List Int} {n : Nat} (h : xs.all (isAt n) = true) : xs = (xs.map Int.toNat).map fun (a : Nat) => (a : Int) := by
  rw [List.map_map]
  refine List.ext_getElem (by simp) fun i h1 h2 => ?_
  have h3 := List.all_eq_true.1 h _ (List.getElem_mem h1)
  unfold isAt at h3
  simp at h3 ⊢
  omega
end Go.Proofs.Ytjpjikfmdaejeaa
/-
  PLAIN: what a step makes of a graph. No program is named here.
-/
namespace Go.Proofs.Ytjpjikfmdaejeaa
set_option linter.unusedVariables false
set_option linter.unusedSimpArgs false

/-! ### Spines of the applications of a spine -/
theorem spineN_mono {g : List Ce} : ∀ (n a : Nat) (x : Nat × List Nat), spineN g n a = some x → spineN g (n + 1) a = some x
  | 0, _, _, h => by simp [spineN] at h
  | n + 1, a, x, h => by
    unfold spineN at h ⊢
    cases hf : followN g g.length a with
    | none => rw [hf] at h; simp at h
    | some f =>
      rw [hf] at h
      simp only at h ⊢
      split
      · rename_i h4
        rw [if_pos h4] at h
        obtain ⟨y, h1, h2⟩ := Option.map_eq_some_iff.1 h
        rw [spineN_mono n _ y h1]
        simp [h2]
      · rename_i h4
        rw [if_neg h4] at h
        exact h
theorem spineN_more {g : List Ce} {n a : Nat} {x : Nat × List Nat} (h : spineN g n a = some x) : ∀ m, n ≤ m → spineN g m a = some x := by
  intro m hm
  induction m with
  | zero => obtain rfl : n = 0 := by omega
            exact h
  | succ m ih =>
    rcases Nat.lt_or_ge n (m + 1) with h1 | h1
    · exact spineN_mono _ _ _ (ih (by omega))
    · obtain rfl : n = m + 1 := by omega
      exact h
theorem follow_self {g : List Ce} {f : Nat} (hf : f < g.length) (h11 : opAt g f ≠ 11) : followN g g.length f = some f := by
  obtain ⟨n, hn⟩ : ∃ n, g.length = n + 1 := ⟨g.length - 1, by omega⟩
  rw [hn]; exact followN_stop h11
theorem spineN_drop {g : List Ce} {defs : Int} (hg : graphB g defs = true) : ∀ (n a f : Nat) (l : List Nat), a < g.length → spineN g n a = some (f, l) → ∀ q (hq : q < l.length), spineN g n l[q] = some (f, l.drop q)
  | 0, _, _, _, _, h, _, _ => by simp [spineN] at h
  | n + 1, a, f, l, ha, h, q, hq => by
    unfold spineN at h
    cases hf : followN g g.length a with
    | none => rw [hf] at h; simp at h
    | some b =>
      rw [hf] at h
      have hb := followN_lt hg _ _ _ ha hf
      simp only at h
      split at h
      · rename_i h4
        obtain ⟨⟨f', l'⟩, h1, h2⟩ := Option.map_eq_some_iff.1 h
        simp only [Prod.mk.injEq] at h2
        obtain ⟨rfl, rfl⟩ := h2
        have hk : kidAt g b 0 < g.length := by
          refine (kidAt_get hg b hb.1 0 ?_).2
          have := kids_count hg b hb.1
          rw [opAt_at b hb.1] at h4
          rw [h4] at this
          have e : cArity 4 = 2 := by decide
          omega
        cases q with
        | zero =>
          simp only [List.getElem_cons_zero, List.drop_zero]
          unfold spineN
          rw [follow_self hb.1 hb.2]
          simp only [h4, if_true, h1, Option.map_some]
        | succ q =>
          simp only [List.getElem_cons_succ, List.drop_succ_cons]
          exact spineN_mono _ _ _ (spineN_drop hg n _ _ _ hk h1 q (by simpa using hq))
      · simp only [Option.some.injEq, Prod.mk.injEq] at h
        obtain ⟨rfl, rfl⟩ := h
        simp at hq
theorem spine_drop {g : List Ce} {defs : Int} (hg : graphB g defs = true) {a f : Nat} {l : List Nat} (ha : a < g.length) (h : spine g a = some (f, l)) (q : Nat) (hq : q < l.length) : spine g l[q] = some (f, l.drop q) := spineN_drop hg _ _ _ _ ha h q hq

/-! ### Redexes are ready -/
/-- a call with just its arguments -/
def CallReady (ds : List Df) (g : List Ce) (at' : Nat) : Prop := (opAt g at' = 3 ∨ opAt g at' = 4) ∧ ∃ (f : Nat) (l : List Nat) (n : Nat), spine g at' = some (f, l) ∧ opAt g f = 3 ∧ numAt g f = (n : Int) ∧ ∃ h : n < ds.length, ds[n].1 = (l.length : Int)
def OpReady (g : List Ce) (at' : Nat) : Prop :=
  ((opAt g at' = 6 ∨ opAt g at' = 7) ∧ ∃ b, followN g g.length (kidAt g at' 0) = some b ∧ opAt g b = 5) ∨
  (opAt g at' = 10 ∧ ∃ b, followN g g.length (kidAt g at' 0) = some b ∧ opAt g b = 2) ∨
  ((opAt g at' = 8 ∨ opAt g at' = 9) ∧ (∃ b, followN g g.length (kidAt g at' 0) = some b ∧ opAt g b = 2) ∧ ∃ b, followN g g.length (kidAt g at' 1) = some b ∧ opAt g b = 2)
def Ready (ds : List Df) (g : List Ce) (at' : Nat) : Prop := at' < g.length ∧ (CallReady ds g at' ∨ OpReady g at')
theorem waitOne_none {ars : List Int} {g : List Ce} {k : Nat} {kind : Int} {r : Option (Option Nat)} (h : waitOne ars g k kind r = some none) : (∃ b, followN g g.length k = some b ∧ opAt g b = kind) ∧ r = some none := by
  unfold waitOne at h
  split at h
  · simp at h
  · split at h
    · rename_i h2
      unfold kindOf at h2
      obtain ⟨b, h3, h4⟩ := Option.map_eq_some_iff.1 h2
      exact ⟨⟨b, h3, h4⟩, h⟩
    · cases h
theorem redexN_ready {ds : List Df} {g : List Ce} (hg : graphB g ds.length = true) (hp : progB ds = true) : ∀ (n a at' : Nat), a < g.length → valB (arsOf ds) g a = false → redexN (arsOf ds) g n a = some at' → Ready ds g at'
  | 0, _, _, _, _, h => by simp [redexN] at h
  | n + 1, a, at', ha, hv, h => by
    cases hs : spine g a with
    | none => rw [redexN_none hs] at h; cases h
    | some x =>
      obtain ⟨f, l⟩ := x
      have hok := spine_ok hg ha hs
      have hff := hok.1
      have hop := opAt_at f hff
      by_cases h3 : opAt g f = 3
      · rw [redexN_glob hs h3] at h
        obtain ⟨nn, hn, hnl⟩ := glob_num hg f hff (by rw [← hop]; exact h3)
        have hnl' : nn < ds.length := by omega
        have hna : numAt g f = (nn : Int) := by rw [numAt_at f hff]; exact hn
        have hle := call_idx (n := nn) hs h3 hna hnl' hv
        have h0 := prog_ar hp nn hnl'
        rw [hna, arOf_at ds nn hnl'] at h
        obtain ⟨ar, har⟩ : ∃ ar : Nat, ds[nn].1 = (ar : Int) := ⟨ds[nn].1.toNat, by omega⟩
        rw [har] at h hle
        simp only [Option.some.injEq] at h
        by_cases hz : ar = 0
        · subst hz
          rw [Int.ofNat_zero, callAt_zero] at h
          subst h
          exact ⟨hff, Or.inl ⟨Or.inl h3, f, [], nn, spine_self hff hok.2.1 hok.2.2.1, h3, hna, hnl', har⟩⟩
        · obtain ⟨q, hq⟩ : ∃ q, q + ar = l.length := ⟨l.length - ar, by omega⟩
          have hql : q < l.length := by omega
          rw [callAt_at hz hq] at h
          subst h
          have hm := hok.2.2.2.1 l[q] (List.getElem_mem hql)
          refine ⟨hm.1, Or.inl ⟨Or.inr hm.2, f, l.drop q, nn, spine_drop hg ha hs q hql, h3, hna, hnl', ?_⟩⟩
          rw [har, List.length_drop]; omega
      · by_cases h25 : opAt g f = 2 ∨ opAt g f = 5
        · rw [redexN_val hs h25] at h; cases h
        · rw [redexN_op hs h3 (by omega) (by omega)] at h
          have hk := op_kinds hg f hff (by rw [← hop]; exact hok.2.1) (by rw [← hop]; exact hok.2.2.1) (by rw [← hop]; omega) (by rw [← hop]; exact h3) (by rw [← hop]; omega)
          rw [← hop] at hk
          cases hw : waits (arsOf ds) g f with
          | none => rw [hw] at h; cases h
          | some o =>
            cases o with
            | none =>
              rw [hw] at h
              simp only [Option.some.injEq] at h
              subst h
              refine ⟨hff, Or.inr ?_⟩
              by_cases h67 : opAt g f = 6 ∨ opAt g f = 7
              · rw [waits1 h67] at hw
                exact Or.inl ⟨h67, (waitOne_none hw).1⟩
              · by_cases h10 : opAt g f = 10
                · rw [waits10 h10] at hw
                  exact Or.inr (Or.inl ⟨h10, (waitOne_none hw).1⟩)
                · have h89 : opAt g f = 8 ∨ opAt g f = 9 := by omega
                  rw [waits2 h89] at hw
                  have h1 := waitOne_none hw
                  exact Or.inr (Or.inr ⟨h89, h1.1, (waitOne_none h1.2).1⟩)
            | some k =>
              rw [hw] at h
              have hwk : k < g.length ∧ valB (arsOf ds) g k = false := by
                have hmany : manyOf (opAt g f) ≤ g[f].kids.length := by
                  have h2 := hk.2
                  have h1 := hk.1
                  unfold manyOf
                  split at h2 <;> (try split at h2) <;> split <;> omega
                rw [waits_list hk.1] at hw
                obtain ⟨m1, m2⟩ := waitsL_some _ hw
                simp only [List.mem_map, List.mem_range] at m1
                obtain ⟨j, hj, rfl⟩ := m1
                exact ⟨(kidAt_get hg f hff j (by omega)).2, m2⟩
              exact redexN_ready hg hp n k at' hwk.1 hwk.2 h
theorem redex_ready {ds : List Df} {g : List Ce} (hg : graphB g ds.length = true) (hp : progB ds = true) {a at' : Nat} (ha : a < g.length) (hv : valB (arsOf ds) g a = false) (h : redex (arsOf ds) g a = some at') : Ready ds g at' := redexN_ready hg hp _ _ _ ha hv h

/-! ### What a step makes -/
def argsL (g : List Ce) (l : List Nat) : List Nat := (l.map fun a => kidAt g a 1).reverse
def indTo (k : Nat) : Ce := ⟨11, 0, [(k : Int)]⟩
def numC (n : Int) : Ce := ⟨2, n, []⟩
def numberOf (op a b : Int) : Int := if op = 9 then (a + (1000 - b)) % 1000 else (a + b) % 1000
def folAt (g : List Ce) (k : Nat) : Nat := (followN g g.length k).getD 0
theorem folAt_some {g : List Ce} {k b : Nat} (h : followN g g.length k = some b) : folAt g k = b := by unfold folAt; rw [h]; rfl
def bodyAt (ds : List Df) (n : Int) : Tr := (ds.getD n.toNat (0, .node 0 0 [])).2
def callR (ds : List Df) (g : List Ce) (at' : Nat) : List Ce × Nat := match spine g at' with
  | none => (g, 0)
  | some (f, l) => addT (argsL g l) (bodyAt ds (numAt g f)) g
def callG (ds : List Df) (g : List Ce) (at' : Nat) : List Ce × Nat := if (callR ds g at').1.length ≤ 400 then ((callR ds g at').1.set at' (indTo (callR ds g at').2), 0) else (g, 3)
def opCell (g : List Ce) (at' : Nat) : Ce :=
  if opAt g at' = 6 then indTo (kidAt g (folAt g (kidAt g at' 0)) 0)
  else if opAt g at' = 7 then indTo (kidAt g (folAt g (kidAt g at' 0)) 1)
  else if opAt g at' = 10 then indTo (if numAt g (folAt g (kidAt g at' 0)) = 0 then kidAt g at' 1 else kidAt g at' 2)
  else numC (numberOf (opAt g at') (numAt g (folAt g (kidAt g at' 0))) (numAt g (folAt g (kidAt g at' 1))))
def changeG (ds : List Df) (g : List Ce) (at' : Nat) : List Ce × Nat := if opAt g at' = 3 ∨ opAt g at' = 4 then callG ds g at' else (g.set at' (opCell g at'), 0)
def stepG (ds : List Df) (g : List Ce) (a : Nat) : List Ce × Nat := match redex (arsOf ds) g a with
  | none => (g, 2)
  | some at' => changeG ds g at'
/-- steps until there is a value: the graph, the code and the number of steps -/
def evalG (ds : List Df) (a : Nat) : Nat → List Ce → List Ce × Nat × Nat
  | 0, g => if valB (arsOf ds) g a = true then (g, 0, 0) else (g, 1, 0)
  | n + 1, g => if valB (arsOf ds) g a = true then (g, 0, 0) else if (stepG ds g a).2 = 0 then ((evalG ds a n (stepG ds g a).1).1, (evalG ds a n (stepG ds g a).1).2.1, (evalG ds a n (stepG ds g a).1).2.2 + 1) else (g, (stepG ds g a).2, 0)
end Go.Proofs.Ytjpjikfmdaejeaa
/-
  PLAIN: a step leaves a graph that is valid for the program. No program is named here.
-/
namespace Go.Proofs.Ytjpjikfmdaejeaa
set_option linter.unusedVariables false
set_option linter.unusedSimpArgs false

/-- cells whose operands are below N -/
def GOk (defs : Int) (N : Nat) (g : List Ce) : Prop := ∀ c ∈ g, fitsB defs c = true ∧ ∀ k ∈ c.kids, 0 ≤ k ∧ k < (N : Int)
theorem GOk.mono {defs : Int} {N M : Nat} {g : List Ce} (h : GOk defs N g) (hm : N ≤ M) : GOk defs M g := fun c hc => ⟨(h c hc).1, fun k hk => by have := (h c hc).2 k hk; omega⟩
theorem graphB_iff {g : List Ce} {defs : Int} : graphB g defs = true ↔ ((g.length : Int) ≤ 400 ∧ 0 ≤ defs ∧ defs ≤ 6) ∧ GOk defs g.length g := by
  unfold graphB GOk cellB
  simp only [Bool.and_eq_true, decide_eq_true_eq, List.all_eq_true, isAt]
theorem own_novar {op n vars defs : Int} (h : op ≠ 1) (ho : ownB op n vars defs = true) : ownB op n 0 defs = true := by
  unfold ownB at ho ⊢
  rw [if_neg h] at ho ⊢
  exact ho
mutual
theorem addT_ok {defs : Int} {args : List Nat} : ∀ (d : Nat) (t : Tr) (g : List Ce), GOk defs g.length g → (∀ x ∈ args, x < g.length) → shB args.length defs d t = true → GOk defs (addT args t g).1.length (addT args t g).1 ∧ (addT args t g).2 < (addT args t g).1.length
  | 0, t, g, _, _, h => by simp [shB] at h
  | d + 1, .node op n ks, g, hg, ha, h => by
    simp only [shB, Bool.and_eq_true, decide_eq_true_eq, List.all_eq_true, Tr.kids_node, Tr.op_node, Tr.num_node] at h
    obtain ⟨⟨h1, h2⟩, h3⟩ := h
    by_cases hop : op = 1
    · rw [addT_var (t := .node op n ks) g hop]
      refine ⟨hg, ?_⟩
      unfold ownB at h2
      rw [if_pos hop] at h2
      simp only [decide_eq_true_eq] at h2
      have hlt : n.toNat < args.length := by omega
      show args.getD n.toNat 0 < g.length
      rw [getD_at _ _ _ hlt]
      exact ha _ (List.getElem_mem hlt)
    · obtain ⟨k1, k2⟩ := addL_ok d ks g hg ha h3
      have hl := addL_length args ks g
      rw [addT_other (t := .node op n ks) g hop]
      simp only [Tr.op_node, Tr.num_node, Tr.kids_node]
      refine ⟨fun c hc => ?_, by simp⟩
      rw [List.length_append, List.length_cons, List.length_nil]
      rcases List.mem_append.1 hc with hc | hc
      · exact ⟨(k1 c hc).1, fun k hk => by have := (k1 c hc).2 k hk; omega⟩
      · simp only [List.mem_singleton] at hc
        subst hc
        refine ⟨?_, fun k hk => ?_⟩
        · unfold fitsB
          simp only [Bool.and_eq_true, decide_eq_true_eq, List.length_map, hl]
          refine ⟨?_, own_novar hop h2⟩
          have h11 : op ≠ 11 := fun e => by subst e; simp [arity] at h1
          unfold cArity
          rw [if_neg h11]
          exact of_decide_eq_true h1
        · simp only [List.mem_map] at hk
          obtain ⟨x, hx, rfl⟩ := hk
          have := k2 x hx
          omega
theorem addL_ok {defs : Int} {args : List Nat} : ∀ (d : Nat) (ts : List Tr) (g : List Ce), GOk defs g.length g → (∀ x ∈ args, x < g.length) → (∀ t ∈ ts, shB args.length defs d t = true) → GOk defs (addL args ts g).1.length (addL args ts g).1 ∧ ∀ k ∈ (addL args ts g).2, k < (addL args ts g).1.length
  | d, [], g, hg, _, _ => by simp only [addL]; exact ⟨hg, by simp⟩
  | d, t :: ts, g, hg, ha, h => by
    obtain ⟨k1, k2⟩ := addT_ok d t g hg ha (h t (List.mem_cons_self ..))
    have hs := (addT_size args t g).1
    obtain ⟨m1, m2⟩ := addL_ok d ts (addT args t g).1 k1 (fun x hx => Nat.lt_of_lt_of_le (ha x hx) hs) fun t' ht' => h t' (List.mem_cons_of_mem _ ht')
    have hs2 := (addL_size args ts (addT args t g).1).1
    simp only [addL]
    refine ⟨m1, fun k hk => ?_⟩
    rcases List.mem_cons.1 hk with rfl | hk
    · omega
    · exact m2 k hk
end
theorem GOk.set {defs : Int} {N : Nat} {g : List Ce} (h : GOk defs N g) (i : Nat) (c : Ce) (hc : fitsB defs c = true ∧ ∀ k ∈ c.kids, 0 ≤ k ∧ k < (N : Int)) : GOk defs N (g.set i c) := by
  intro d hd
  rcases List.mem_or_eq_of_mem_set hd with hd | rfl
  · exact h d hd
  · exact hc
theorem ind_fits {defs : Int} {N k : Nat} (hk : k < N) : fitsB defs (indTo k) = true ∧ ∀ x ∈ (indTo k).kids, 0 ≤ x ∧ x < (N : Int) := by
  refine ⟨?_, fun x hx => ?_⟩
  · unfold fitsB indTo cArity ownB; simp
  · unfold indTo at hx; simp at hx; subst hx; omega
theorem num_fits {defs : Int} {N : Nat} {n : Int} (h0 : 0 ≤ n) (h1 : n ≤ 999) : fitsB defs (numC n) = true ∧ ∀ x ∈ (numC n).kids, 0 ≤ x ∧ x < (N : Int) := by
  refine ⟨?_, fun x hx => ?_⟩
  · unfold fitsB numC cArity arity ownB; simp; omega
  · unfold numC at hx; simp at hx
theorem numberOf_range (op a b : Int) : 0 ≤ numberOf op a b ∧ numberOf op a b ≤ 999 := by unfold numberOf; split <;> omega
theorem kids_op {g : List Ce} {defs : Int} (hg : graphB g defs = true) (f : Nat) (hf : f < g.length) : (g[f].kids.length : Int) = cArity (opAt g f) := by rw [opAt_at f hf]; exact kids_count hg f hf
theorem kidAt_lt {g : List Ce} {defs : Int} (hg : graphB g defs = true) (f j : Nat) (hf : f < g.length) (h : (j : Int) < cArity (opAt g f)) : kidAt g f j < g.length := by
  have h1 := kids_op hg f hf
  exact (kidAt_get hg f hf j (by omega)).2
theorem argsL_lt {g : List Ce} {defs : Int} (hg : graphB g defs = true) {l : List Nat} (h : ∀ k ∈ l, k < g.length ∧ opAt g k = 4) : ∀ x ∈ argsL g l, x < g.length := by
  intro x hx
  unfold argsL at hx
  simp only [List.mem_reverse, List.mem_map] at hx
  obtain ⟨a, ha, rfl⟩ := hx
  have h1 := h a ha
  exact kidAt_lt hg a 1 h1.1 (by rw [h1.2]; decide)
theorem bodyAt_at (ds : List Df) (n : Nat) (h : n < ds.length) : bodyAt ds (n : Int) = ds[n].2 := by unfold bodyAt; rw [Int.toNat_natCast, getD_at _ _ _ h]
theorem prog_body {ds : List Df} (h : progB ds = true) (n : Nat) (hn : n < ds.length) : validB ds[n].2 ds[n].1 ds.length = true := by
  unfold progB at h
  simp only [Bool.and_eq_true, List.all_eq_true] at h
  exact h.2 _ (List.getElem_mem hn)
/-- the parts of a call that is ready -/
theorem call_parts {ds : List Df} {g : List Ce} (hg : graphB g ds.length = true) (hp : progB ds = true) {at' f n : Nat} {l : List Nat} (ha : at' < g.length) (hs : spine g at' = some (f, l)) (hn : numAt g f = (n : Int)) (hnl : n < ds.length) (hl : ds[n].1 = (l.length : Int)) :
    callR ds g at' = addT (argsL g l) ds[n].2 g ∧ (argsL g l).length = l.length ∧ shB (argsL g l).length ds.length 16 ds[n].2 = true ∧ 1 + szT ds[n].2 ≤ 60 ∧ l.length ≤ 4 ∧ (∀ x ∈ argsL g l, x < g.length) := by
  have hv := prog_body hp n hnl
  have hlen : (argsL g l).length = l.length := by unfold argsL; simp
  have hok := spine_ok hg ha hs
  unfold validB at hv
  simp only [Bool.and_eq_true, decide_eq_true_eq] at hv
  refine ⟨?_, hlen, by rw [hlen, ← hl]; exact hv.2.1, hv.2.2, by omega, argsL_lt hg hok.2.2.2.1⟩
  unfold callR
  rw [hs]
  show addT (argsL g l) (bodyAt ds (numAt g f)) g = _
  rw [hn, bodyAt_at ds n hnl]
theorem graphB_set {g : List Ce} {defs : Int} (hg : graphB g defs = true) (i : Nat) (c : Ce) (hc : fitsB defs c = true ∧ ∀ k ∈ c.kids, 0 ≤ k ∧ k < (g.length : Int)) : graphB (g.set i c) defs = true := by
  rw [graphB_iff] at hg ⊢
  rw [List.length_set]
  exact ⟨hg.1, hg.2.set i c hc⟩
theorem opCell_fits {ds : List Df} {g : List Ce} (hg : graphB g ds.length = true) {at' : Nat} (ha : at' < g.length) (h : OpReady g at') : fitsB ds.length (opCell g at') = true ∧ ∀ k ∈ (opCell g at').kids, 0 ≤ k ∧ k < (g.length : Int) := by
  unfold opCell
  rcases h with ⟨h67, b, hb, hb5⟩ | ⟨h10, b, hb, hb2⟩ | ⟨h89, ⟨b, hb, hb2⟩, b', hb', hb2'⟩
  · rw [folAt_some hb]
    have hk0 : kidAt g at' 0 < g.length := kidAt_lt hg at' 0 ha (by rcases h67 with h | h <;> rw [h] <;> decide)
    have hbl := (followN_lt hg _ _ _ hk0 hb).1
    have e0 : kidAt g b 0 < g.length := kidAt_lt hg b 0 hbl (by rw [hb5]; decide)
    have e1 : kidAt g b 1 < g.length := kidAt_lt hg b 1 hbl (by rw [hb5]; decide)
    split
    · exact ind_fits e0
    · rw [if_pos (by omega)]; exact ind_fits e1
  · rw [if_neg (by omega), if_neg (by omega), if_pos h10]
    refine ind_fits ?_
    split
    · exact kidAt_lt hg at' 1 ha (by rw [h10]; decide)
    · exact kidAt_lt hg at' 2 ha (by rw [h10]; decide)
  · rw [if_neg (by omega), if_neg (by omega), if_neg (by omega)]
    have := numberOf_range (opAt g at') (numAt g (folAt g (kidAt g at' 0))) (numAt g (folAt g (kidAt g at' 1)))
    exact num_fits this.1 this.2
theorem ready_op {ds : List Df} {g : List Ce} {at' : Nat} (h : OpReady g at') : ¬ (opAt g at' = 3 ∨ opAt g at' = 4) := by
  rcases h with ⟨h, -⟩ | ⟨h, -⟩ | ⟨h, -⟩ <;> omega
theorem changeG_valid {ds : List Df} {g : List Ce} (hg : graphB g ds.length = true) (hp : progB ds = true) {at' : Nat} (h : Ready ds g at') : graphB (changeG ds g at').1 ds.length = true ∧ g.length ≤ (changeG ds g at').1.length := by
  obtain ⟨ha, h | h⟩ := h
  · obtain ⟨ho, f, l, n, hs, h3, hn, hnl, hl⟩ := h
    have hc := call_parts hg hp ha hs hn hnl hl
    unfold changeG
    rw [if_pos ho]
    unfold callG
    split
    · rename_i hle
      have hok := addT_ok (defs := ds.length) (args := argsL g l) 16 ds[n].2 g (graphB_iff.1 hg).2 hc.2.2.2.2.2 hc.2.2.1
      have hsz := (addT_size (argsL g l) ds[n].2 g).1
      have hb := (graphB_iff.1 hg).1
      rw [hc.1] at hle ⊢
      have hg2 : graphB (addT (argsL g l) ds[n].2 g).1 ds.length = true := graphB_iff.2 ⟨⟨by omega, hb.2⟩, hok.1⟩
      exact ⟨graphB_set hg2 _ _ (ind_fits hok.2), by simp only [List.length_set]; exact hsz⟩
    · exact ⟨hg, Nat.le_refl _⟩
  · unfold changeG
    rw [if_neg (ready_op (ds := ds) h)]
    exact ⟨graphB_set hg _ _ (opCell_fits hg ha h), by simp only [List.length_set]; exact Nat.le_refl _⟩
theorem stepG_valid {ds : List Df} {g : List Ce} (hg : graphB g ds.length = true) (hp : progB ds = true) {a : Nat} (ha : a < g.length) (hv : valB (arsOf ds) g a = false) : graphB (stepG ds g a).1 ds.length = true ∧ g.length ≤ (stepG ds g a).1.length := by
  unfold stepG
  cases hr : redex (arsOf ds) g a with
  | none => exact ⟨hg, Nat.le_refl _⟩
  | some at' => exact changeG_valid hg hp (redex_ready hg hp ha hv hr)
theorem evalG_valid {ds : List Df} {a : Nat} (hp : progB ds = true) : ∀ (n : Nat) (g : List Ce), graphB g ds.length = true → a < g.length → graphB (evalG ds a n g).1 ds.length = true ∧ g.length ≤ (evalG ds a n g).1.length
  | 0, g, hg, ha => by unfold evalG; split <;> exact ⟨hg, Nat.le_refl _⟩
  | n + 1, g, hg, ha => by
    unfold evalG
    split
    · exact ⟨hg, Nat.le_refl _⟩
    · rename_i hv
      have h1 := stepG_valid hg hp ha (by simpa using hv)
      split
      · have h2 := evalG_valid (a := a) hp n (stepG ds g a).1 h1.1 (by omega)
        exact ⟨h2.1, Nat.le_trans h1.2 h2.2⟩
      · exact ⟨hg, Nat.le_refl _⟩
end Go.Proofs.Ytjpjikfmdaejeaa
/-
  PLAIN: selections that are made early: in whichever order, the graph in the end is the same, and so is their number; a worklist with cells that wait for others finds them all. No program is named here.
-/
namespace Go.Proofs.Ytjpjikfmdaejeaa
set_option linter.unusedVariables false
set_option linter.unusedSimpArgs false

/-- cell a, or none -/
def cellD (g : List Ce) (a : Nat) : Ce := g.getD a ⟨0, 0, []⟩
theorem opAt_D (g : List Ce) (a : Nat) : opAt g a = (cellD g a).op := rfl
theorem nxt_D (g : List Ce) (a : Nat) : nxt g a = (kid0 (cellD g a)).toNat := rfl
theorem kidAt_D (g : List Ce) (a j : Nat) : kidAt g a j = ((cellD g a).kids.map Int.toNat).getD j 0 := rfl
theorem cellD_set (g : List Ce) (j : Nat) (c : Ce) (i : Nat) : cellD (g.set j c) i = if i = j ∧ j < g.length then c else cellD g i := by
  unfold cellD
  rw [List.getD_eq_getElem?_getD, List.getD_eq_getElem?_getD, List.getElem?_set]
  by_cases h : j = i
  · subst h
    by_cases h2 : j < g.length
    · simp [h2]
    · simp [h2]
  · rw [if_neg h, if_neg (fun e => h e.1.symm)]
theorem cellD_ne (g : List Ce) (j : Nat) (c : Ce) {i : Nat} (h : i ≠ j) : cellD (g.set j c) i = cellD g i := by rw [cellD_set, if_neg (fun e => h e.1)]
theorem cellD_eq (g : List Ce) {j : Nat} (c : Ce) (h : j < g.length) : cellD (g.set j c) j = c := by rw [cellD_set, if_pos ⟨rfl, h⟩]
theorem cellD_ext {a b : List Ce} (hl : a.length = b.length) (h : ∀ i, cellD a i = cellD b i) : a = b := by
  refine List.ext_getElem hl fun i h1 h2 => ?_
  have := h i
  unfold cellD at this
  rw [getD_at _ _ _ h1, getD_at _ _ _ h2] at this
  exact this

/-! ### What a change of a cell that is no indirection leaves -/
theorem follow_set {g : List Ce} {j : Nat} {c : Ce} (hj : opAt g j ≠ 11) : ∀ (n a k : Nat), followN g n a = some k → k ≠ j → followN (g.set j c) n a = some k
  | 0, _, _, h, _ => by simp [followN] at h
  | n + 1, a, k, h, hk => by
    unfold followN at h ⊢
    split at h
    · rename_i h1
      have ha : a ≠ j := fun e => hj (e ▸ h1)
      rw [opAt_D, cellD_ne _ _ _ ha, ← opAt_D, if_pos h1, nxt_D, cellD_ne _ _ _ ha, ← nxt_D]
      exact follow_set hj n _ k h hk
    · rename_i h1
      simp only [Option.some.injEq] at h
      subst h
      rw [opAt_D, cellD_ne _ _ _ hk, ← opAt_D, if_neg h1]
theorem follow_setn {g : List Ce} {j : Nat} {c : Ce} (hj : opAt g j ≠ 11) : ∀ (n a : Nat), followN g n a = none → followN (g.set j c) n a = none
  | 0, _, _ => rfl
  | n + 1, a, h => by
    unfold followN at h ⊢
    split at h
    · rename_i h1
      have ha : a ≠ j := fun e => hj (e ▸ h1)
      rw [opAt_D, cellD_ne _ _ _ ha, ← opAt_D, if_pos h1, nxt_D, cellD_ne _ _ _ ha, ← nxt_D]
      exact follow_setn hj n _ h
    · simp at h
/-- the same indirections lead to the same cell -/
theorem follow_agree {a b : List Ce} (h : ∀ x, opAt a x = 11 → cellD b x = cellD a x) : ∀ (n x k : Nat), followN a n x = some k → opAt b k ≠ 11 → followN b n x = some k
  | 0, _, _, h1, _ => by simp [followN] at h1
  | n + 1, x, k, h1, hk => by
    unfold followN at h1 ⊢
    split at h1
    · rename_i h2
      have e := h x h2
      rw [opAt_D, e, ← opAt_D, if_pos h2, nxt_D, e, ← nxt_D]
      exact follow_agree h n _ k h1 hk
    · simp only [Option.some.injEq] at h1
      subst h1
      rw [if_neg hk]

/-! ### Selections -/
def isSel (g : List Ce) (i : Nat) : Prop := opAt g i = 6 ∨ opAt g i = 7
instance (g : List Ce) (i : Nat) : Decidable (isSel g i) := by unfold isSel; infer_instance
/-- the part that a kind of selection takes of the pair k -/
def partG (g : List Ce) (op : Int) (k : Nat) : Nat := if op = 6 then kidAt g k 0 else kidAt g k 1
structure Enabled (g : List Ce) (i k : Nat) : Prop where
  lt : i < g.length
  sel : isSel g i
  fol : followN g g.length (kidAt g i 0) = some k
  pair : opAt g k = 5
def selAt (g : List Ce) (i k : Nat) : List Ce := g.set i (indTo (partG g (opAt g i) k))
/-- reached from g0 by n selections -/
inductive SelR (g0 : List Ce) : List Ce → Nat → Prop
  | zero : SelR g0 g0 0
  | step {g : List Ce} {n i k : Nat} : SelR g0 g n → Enabled g i k → SelR g0 (selAt g i k) (n + 1)
def SelMax (g : List Ce) : Prop := ∀ i k, ¬ Enabled g i k

theorem isSel_ne11 {g : List Ce} {i : Nat} (h : isSel g i) : opAt g i ≠ 11 := by unfold isSel at h; omega
theorem isSel_lt {g : List Ce} {i : Nat} (h : isSel g i) : i < g.length := by
  rcases Nat.lt_or_ge i g.length with h1 | h1
  · exact h1
  · unfold isSel opAt at h
    rw [List.getD_eq_getElem?_getD, List.getElem?_eq_none h1] at h
    simp at h
theorem kids_sel {g : List Ce} {defs : Int} (hg : graphB g defs = true) {i : Nat} (h : isSel g i) : ∃ h1 : i < g.length, g[i].kids.length = 1 ∧ kidAt g i 0 < g.length := by
  have hi := isSel_lt h
  have h1 := kids_count hg i hi
  have hk : g[i].kids.length = 1 := by
    unfold isSel at h
    rw [opAt_at i hi] at h
    rcases h with h | h <;> rw [h] at h1 <;> have e : cArity 6 = 1 ∧ cArity 7 = 1 := by decide
    all_goals omega
  exact ⟨hi, hk, (kidAt_get hg i hi 0 (by omega)).2⟩
theorem op_lt {g : List Ce} {k : Nat} {o : Int} (ho : o ≠ 0) (h : opAt g k = o) : k < g.length := by
  rcases Nat.lt_or_ge k g.length with h1 | h1
  · exact h1
  · unfold opAt at h
    rw [List.getD_eq_getElem?_getD, List.getElem?_eq_none h1] at h
    exact absurd h.symm ho
theorem part_lt {g : List Ce} {defs : Int} (hg : graphB g defs = true) {k : Nat} (h : opAt g k = 5) (op : Int) : partG g op k < g.length := by
  have hk := op_lt (by omega) h
  have h1 := kids_count hg k hk
  rw [opAt_at k hk] at h
  rw [h] at h1
  have e : cArity 5 = 2 := by decide
  unfold partG
  split
  · exact (kidAt_get hg k hk 0 (by omega)).2
  · exact (kidAt_get hg k hk 1 (by omega)).2
theorem selAt_len (g : List Ce) (i k : Nat) : (selAt g i k).length = g.length := by unfold selAt; rw [List.length_set]
theorem selAt_valid {g : List Ce} {defs : Int} (hg : graphB g defs = true) {i k : Nat} (h : opAt g k = 5) : graphB (selAt g i k) defs = true := by
  obtain ⟨h1, h2⟩ := graphB_iff.1 hg
  refine graphB_iff.2 ⟨by rw [selAt_len]; exact h1, ?_⟩
  rw [selAt_len]
  exact h2.set i _ (ind_fits (part_lt hg h _))
/-- how many selections there are -/
def selB (c : Ce) : Bool := c.op == 6 || c.op == 7
theorem isSel_B (g : List Ce) (i : Nat) : isSel g i ↔ selB (cellD g i) = true := by unfold isSel selB; rw [opAt_D]; simp
theorem count_set : ∀ (g : List Ce) (i : Nat) (c : Ce), i < g.length → selB (cellD g i) = true → selB c = false → (g.set i c).countP selB + 1 = g.countP selB
  | [], _, _, h, _, _ => by simp at h
  | a :: g, 0, c, _, h1, h2 => by
    have h1 : selB a = true := h1
    simp [List.countP_cons, h1, h2]
  | a :: g, i + 1, c, h, h1, h2 => by
    have ih := count_set g i c (by simpa using h) h1 h2
    simp only [List.set_cons_succ, List.countP_cons]
    omega
theorem selB_ind (k : Nat) : selB (indTo k) = false := rfl

/-- what holds of every graph that is reached -/
structure SelInv (g0 : List Ce) (defs : Int) (g : List Ce) (n : Nat) : Prop where
  len : g.length = g0.length
  ok : graphB g defs = true
  cnt : g.countP selB + n = g0.countP selB
  cell : ∀ i, cellD g i = cellD g0 i ∨ (isSel g0 i ∧ ∃ k, followN g g.length (kidAt g0 i 0) = some k ∧ opAt g k = 5 ∧ cellD g i = indTo (partG g (opAt g0 i) k))
theorem SelInv.keep {g0 g : List Ce} {defs : Int} {n x : Nat} (h : SelInv g0 defs g n) (hx : ¬ isSel g0 x) : cellD g x = cellD g0 x := (h.cell x).elim id fun h => absurd h.1 hx
theorem SelInv.same {g0 g : List Ce} {defs : Int} {n x : Nat} (h : SelInv g0 defs g n) (hx : isSel g x) : cellD g x = cellD g0 x := (h.cell x).elim id fun h => by
  obtain ⟨-, k, -, -, e⟩ := h
  rw [isSel_B, e] at hx
  cases hx
theorem selR_inv {g0 g : List Ce} {defs : Int} {n : Nat} (hg : graphB g0 defs = true) (h : SelR g0 g n) : SelInv g0 defs g n := by
  induction h with
  | zero => exact ⟨rfl, hg, rfl, fun i => Or.inl rfl⟩
  | @step g n i k h he ih =>
    have h11 : opAt g i ≠ 11 := isSel_ne11 he.sel
    have hki : k ≠ i := fun e => by have := he.sel; have := he.pair; subst e; unfold isSel at *; omega
    refine ⟨(selAt_len g i k).trans ih.len, selAt_valid ih.ok he.pair, ?_, fun j => ?_⟩
    · have := count_set g i (indTo (partG g (opAt g i) k)) he.lt ((isSel_B _ _).1 he.sel) (selB_ind _)
      have := ih.cnt
      unfold selAt
      omega
    · have hp : ∀ (x : Nat) (op : Int), opAt g x = 5 → partG (selAt g i k) op x = partG g op x ∧ opAt (selAt g i k) x = 5 := by
        intro x op hx
        have hxi : x ≠ i := fun e => by have := he.sel; subst e; unfold isSel at *; omega
        unfold partG selAt
        refine ⟨?_, by rw [opAt_D, cellD_ne _ _ _ hxi]; exact hx⟩
        simp only [kidAt_D, cellD_ne _ _ _ hxi]
      by_cases hji : j = i
      · subst hji
        have e0 := ih.same he.sel
        refine Or.inr ⟨by rw [isSel_B, ← e0, ← isSel_B]; exact he.sel, k, ?_, (hp k 0 he.pair).2, ?_⟩
        · rw [selAt_len, kidAt_D, ← e0, ← kidAt_D]
          exact follow_set h11 _ _ _ he.fol hki
        · rw [(hp k _ he.pair).1]
          unfold selAt
          rw [cellD_eq _ _ he.lt]
          congr 2
          rw [opAt_D, opAt_D, e0]
      · have e1 : cellD (selAt g i k) j = cellD g j := cellD_ne _ _ _ hji
        rw [e1]
        rcases ih.cell j with h1 | ⟨h1, m, h2, h3, h4⟩
        · exact Or.inl h1
        · have hmi : m ≠ i := fun e => by have := he.sel; subst e; unfold isSel at *; omega
          exact Or.inr ⟨h1, m, by rw [selAt_len]; exact follow_set h11 _ _ _ h2 hmi, (hp m 0 h3).2, by rw [(hp m _ h3).1]; exact h4⟩
/-- what one has changed, the other has changed to the same -/
theorem sel_agree {g0 a b : List Ce} {defs : Int} {n m : Nat} (hg : graphB g0 defs = true) (ha : SelR g0 a n) (hb : SelR g0 b m) (hm : SelMax b) : ∀ i, cellD a i = cellD g0 i ∨ cellD a i = cellD b i := by
  have hB := selR_inv hg hb
  induction ha with
  | zero => exact fun i => Or.inl rfl
  | @step g n i k h he ih =>
    have hA := selR_inv hg h
    intro j
    by_cases hji : j = i
    · subst hji
      refine Or.inr ?_
      have e0 := hA.same he.sel
      have hs0 : isSel g0 j := by rw [isSel_B, ← e0, ← isSel_B]; exact he.sel
      have eqc : ∀ x, ¬ isSel g x → opAt g x ≠ 11 ∨ opAt g x = 11 → opAt g x = 5 ∨ opAt g x = 11 → cellD b x = cellD g x := by
        intro x hx _ h5
        rcases ih x with h1 | h1
        · rw [h1]
          refine hB.keep fun hs => hx ?_
          rw [isSel_B, h1, ← isSel_B]; exact hs
        · exact h1.symm
      have hfb : followN b b.length (kidAt g0 j 0) = some k := by
        rw [hB.len, ← hA.len]
        refine follow_agree (a := g) (fun x hx => eqc x (by unfold isSel; omega) (Or.inr hx) (Or.inr hx)) _ _ _ ?_ ?_
        · rw [kidAt_D, ← e0, ← kidAt_D]; exact he.fol
        · have hp := he.pair
          rw [opAt_D, eqc k (by unfold isSel; omega) (Or.inl (by omega)) (Or.inl hp), ← opAt_D]; omega
      have hkb : cellD b k = cellD g k := by have hp := he.pair; exact eqc k (by unfold isSel; omega) (Or.inl (by omega)) (Or.inl hp)
      have hpk : opAt b k = 5 := by rw [opAt_D, hkb, ← opAt_D]; exact he.pair
      rcases hB.cell j with h1 | ⟨-, k', h2, h3, h4⟩
      · refine absurd ?_ (hm j k)
        refine ⟨by rw [hB.len, ← hA.len]; exact he.lt, by rw [isSel_B, h1, ← isSel_B]; exact hs0, ?_, hpk⟩
        rw [kidAt_D, h1, ← kidAt_D]; exact hfb
      · rw [hfb] at h2
        simp only [Option.some.injEq] at h2
        subst h2
        rw [h4]
        unfold selAt
        rw [cellD_eq _ _ he.lt]
        congr 1
        unfold partG
        rw [show opAt g0 j = opAt g j by rw [opAt_D, opAt_D, e0]]
        simp only [kidAt_D, hkb]
    · have e1 : cellD (selAt g i k) j = cellD g j := cellD_ne _ _ _ hji
      rw [e1]
      exact ih j
/-- in whichever order -/
theorem sel_unique {g0 a b : List Ce} {defs : Int} {n m : Nat} (hg : graphB g0 defs = true) (ha : SelR g0 a n) (hma : SelMax a) (hb : SelR g0 b m) (hmb : SelMax b) : a = b ∧ n = m := by
  have hA := selR_inv hg ha
  have hB := selR_inv hg hb
  have e : a = b := by
    refine cellD_ext (hA.len.trans hB.len.symm) fun i => ?_
    rcases sel_agree hg ha hb hmb i with h1 | h1
    · rcases sel_agree hg hb ha hma i with h2 | h2
      · rw [h1, h2]
      · exact h2.symm
    · exact h1
  subst e
  have h1 := hA.cnt
  have h2 := hB.cnt
  exact ⟨rfl, by omega⟩

/-! ### The worklist -/
structure WL (g : List Ce) (work : List Nat) (wt : Nat → List Nat) : Prop where
  all : ∀ i, isSel g i → i ∈ work ∨ (∃ f, isSel g f ∧ i ∈ wt f ∧ followN g g.length (kidAt g i 0) = some f) ∨ followN g g.length (kidAt g i 0) = none ∨ ∃ k, followN g g.length (kidAt g i 0) = some k ∧ opAt g k ≠ 5 ∧ ¬ isSel g k
  nd : work.Nodup
  wk : ∀ i ∈ work, isSel g i
  wnd : ∀ f, isSel g f → (wt f).Nodup
  wsel : ∀ f, isSel g f → ∀ i ∈ wt f, isSel g i ∧ i ∉ work
  dis : ∀ f f' i, isSel g f → isSel g f' → i ∈ wt f → i ∈ wt f' → f = f'
theorem WL.fin {g : List Ce} {wt : Nat → List Nat} (h : WL g [] wt) : SelMax g := by
  intro i k he
  have hf := he.fol
  have hp := he.pair
  rcases h.all i he.sel with h1 | ⟨f, h1, -, h3⟩ | h1 | ⟨k', h1, h2, -⟩
  · simp at h1
  · rw [hf] at h3; simp only [Option.some.injEq] at h3; subst h3; unfold isSel at h1; omega
  · rw [hf] at h1; cases h1
  · rw [hf] at h1; simp only [Option.some.injEq] at h1; subst h1; exact h2 hp
theorem WL.pop_mem {g : List Ce} {rest : List Nat} {i : Nat} {wt : Nat → List Nat} (h : WL g (rest ++ [i]) wt) : isSel g i ∧ i ∉ rest ∧ rest.Nodup := by
  have hn := h.nd
  rw [List.nodup_append] at hn
  exact ⟨h.wk i (by simp), fun hm => hn.2.2 i hm i (by simp) rfl, hn.1⟩
/-- a cell that no change can help any more -/
theorem WL.dead {g : List Ce} {rest : List Nat} {i : Nat} {wt : Nat → List Nat} (h : WL g (rest ++ [i]) wt) (hd : followN g g.length (kidAt g i 0) = none ∨ ∃ k, followN g g.length (kidAt g i 0) = some k ∧ opAt g k ≠ 5 ∧ ¬ isSel g k) : WL g rest wt := by
  obtain ⟨p1, p2, p3⟩ := h.pop_mem
  refine ⟨fun j hj => ?_, p3, fun j hj => h.wk j (by simp [hj]), h.wnd, fun f hf j hj => ⟨(h.wsel f hf j hj).1, fun hm => (h.wsel f hf j hj).2 (by simp [hm])⟩, h.dis⟩
  rcases h.all j hj with h1 | h1
  · rcases List.mem_append.1 h1 with h1 | h1
    · exact Or.inl h1
    · simp only [List.mem_singleton] at h1
      subst h1
      exact Or.inr (Or.inr hd)
  · exact Or.inr h1
/-- a cell that waits for another one -/
theorem WL.wait {g : List Ce} {rest : List Nat} {i k : Nat} {wt : Nat → List Nat} (h : WL g (rest ++ [i]) wt) (hf : followN g g.length (kidAt g i 0) = some k) (hk : isSel g k) : WL g rest (fun x => if x = k then wt k ++ [i] else wt x) := by
  obtain ⟨p1, p2, p3⟩ := h.pop_mem
  have hno : ∀ f, isSel g f → i ∉ wt f := fun f hf hm => (h.wsel f hf i hm).2 (by simp)
  have mem : ∀ x j, j ∈ (if x = k then wt k ++ [i] else wt x) → j ∈ wt x ∨ (x = k ∧ j = i) := by
    intro x j hj
    split at hj
    · rename_i e
      subst e
      rcases List.mem_append.1 hj with h1 | h1
      · exact Or.inl h1
      · simp only [List.mem_singleton] at h1; exact Or.inr ⟨rfl, h1⟩
    · exact Or.inl hj
  refine ⟨fun j hj => ?_, p3, fun j hj => h.wk j (by simp [hj]), fun f hf => ?_, fun f hf j hj => ?_, fun f f' j s1 s2 h1 h2 => ?_⟩
  · rcases h.all j hj with h1 | ⟨f, h1, h2, h3⟩ | h1
    · rcases List.mem_append.1 h1 with h1 | h1
      · exact Or.inl h1
      · simp only [List.mem_singleton] at h1
        subst h1
        exact Or.inr (Or.inl ⟨k, hk, by simp, hf⟩)
    · refine Or.inr (Or.inl ⟨f, h1, ?_, h3⟩)
      split
      · rename_i e; subst e; exact List.mem_append_left _ h2
      · exact h2
    · exact Or.inr (Or.inr h1)
  · show (if f = k then wt k ++ [i] else wt f).Nodup
    split
    · rw [List.nodup_append]
      exact ⟨h.wnd k hk, by simp, by intro a ha b hb; simp only [List.mem_singleton] at hb; subst hb; intro e; exact hno k hk (e ▸ ha)⟩
    · exact h.wnd f hf
  · rcases mem f j hj with h1 | ⟨rfl, rfl⟩
    · exact ⟨(h.wsel f hf j h1).1, fun hm => (h.wsel f hf j h1).2 (by simp [hm])⟩
    · exact ⟨p1, p2⟩
  · rcases mem f j h1 with a1 | ⟨rfl, rfl⟩
    · rcases mem f' j h2 with a2 | ⟨rfl, rfl⟩
      · exact h.dis f f' j s1 s2 a1 a2
      · exact absurd a1 (hno f s1)
    · rcases mem f' j h2 with a2 | ⟨rfl, -⟩
      · exact absurd a2 (hno f' s2)
      · rfl
/-- a selection is made: those that waited for it come back -/
theorem WL.make {g : List Ce} {rest : List Nat} {i k : Nat} {wt : Nat → List Nat} (h : WL g (rest ++ [i]) wt) (he : Enabled g i k) : WL (selAt g i k) (rest ++ wt i) wt := by
  obtain ⟨p1, p2, p3⟩ := h.pop_mem
  have h11 := isSel_ne11 p1
  have hci : ∀ j, j ≠ i → cellD (selAt g i k) j = cellD g j := fun j hj => cellD_ne _ _ _ hj
  have hii : ¬ isSel (selAt g i k) i := by rw [isSel_B]; unfold selAt; rw [cellD_eq _ _ he.lt]; simp [selB_ind]
  have hs : ∀ j, isSel (selAt g i k) j ↔ isSel g j ∧ j ≠ i := by
    intro j
    by_cases e : j = i
    · subst e; exact ⟨fun h => absurd h hii, fun h => absurd rfl h.2⟩
    · rw [isSel_B, hci j e, ← isSel_B]; exact ⟨fun h => ⟨h, e⟩, fun h => h.1⟩
  have hwi := h.wsel i p1
  have hno : i ∉ wt i := fun hm => (hwi i hm).2 (by simp)
  refine ⟨fun j hj => ?_, ?_, fun j hj => ?_, fun f hf => h.wnd f ((hs f).1 hf).1, fun f hf j hj => ?_, fun f f' j hf hf' => h.dis f f' j ((hs f).1 hf).1 ((hs f').1 hf').1⟩
  · obtain ⟨hj1, hj2⟩ := (hs j).1 hj
    have ek : kidAt (selAt g i k) j 0 = kidAt g j 0 := by rw [kidAt_D, hci j hj2, ← kidAt_D]
    rw [selAt_len, ek]
    rcases h.all j hj1 with h1 | ⟨f, h1, h2, h3⟩ | h1 | ⟨x, h1, h2, h3⟩
    · rcases List.mem_append.1 h1 with h1 | h1
      · exact Or.inl (List.mem_append_left _ h1)
      · simp only [List.mem_singleton] at h1; exact absurd h1 hj2
    · by_cases e : f = i
      · subst e; exact Or.inl (List.mem_append_right _ h2)
      · exact Or.inr (Or.inl ⟨f, (hs f).2 ⟨h1, e⟩, h2, follow_set h11 _ _ _ h3 e⟩)
    · exact Or.inr (Or.inr (Or.inl (follow_setn h11 _ _ h1)))
    · have hx : x ≠ i := fun e => h3 (e ▸ p1)
      exact Or.inr (Or.inr (Or.inr ⟨x, follow_set h11 _ _ _ h1 hx, by rw [opAt_D, hci x hx, ← opAt_D]; exact h2, fun h4 => h3 ((hs x).1 h4).1⟩))
  · rw [List.nodup_append]
    exact ⟨p3, h.wnd i p1, by intro a ha b hb e; subst e; exact (hwi a hb).2 (by simp [ha])⟩
  · rcases List.mem_append.1 hj with h1 | h1
    · exact (hs j).2 ⟨h.wk j (by simp [h1]), fun e => p2 (e ▸ h1)⟩
    · exact (hs j).2 ⟨(hwi j h1).1, fun e => hno (e ▸ h1)⟩
  · obtain ⟨f1, f2⟩ := (hs f).1 hf
    obtain ⟨a1, a2⟩ := h.wsel f f1 j hj
    refine ⟨(hs j).2 ⟨a1, fun e => ?_⟩, fun hm => ?_⟩
    · subst e; exact a2 (by simp)
    · rcases List.mem_append.1 hm with h1 | h1
      · exact a2 (by simp [h1])
      · exact f2 (h.dis f i j f1 p1 hj h1)
theorem WL.start {g : List Ce} {work : List Nat} (hn : work.Nodup) (h : ∀ i, i ∈ work ↔ isSel g i) : WL g work (fun _ => []) :=
  ⟨fun i hi => Or.inl ((h i).2 hi), hn, fun i hi => (h i).1 hi, fun _ _ => by simp, fun _ _ i hi => by simp at hi, fun _ _ i _ _ hi => by simp at hi⟩
theorem WL.len {g : List Ce} {work : List Nat} {wt : Nat → List Nat} (h : WL g work wt) : work.length ≤ g.length := nodup_len h.nd fun i hi => isSel_lt (h.wk i hi)
end Go.Proofs.Ytjpjikfmdaejeaa
/-
  PLAIN: what SelectGraph and TidyGraph answer. No program is named here.
-/
namespace Go.Proofs.Ytjpjikfmdaejeaa
set_option linter.unusedVariables false
set_option linter.unusedSimpArgs false

open Classical in
/-- the graph in the end, and how many selections were made -/
noncomputable def selRes (g : List Ce) : List Ce × Nat := if h : ∃ p : List Ce × Nat, SelR g p.1 p.2 ∧ SelMax p.1 then h.choose else (g, 0)
theorem selRes_eq {g G : List Ce} {defs : Int} {n : Nat} (hg : graphB g defs = true) (h : SelR g G n) (hm : SelMax G) : selRes g = (G, n) := by
  have hx : ∃ p : List Ce × Nat, SelR g p.1 p.2 ∧ SelMax p.1 := ⟨(G, n), h, hm⟩
  unfold selRes
  rw [dif_pos hx]
  obtain ⟨h1, h2⟩ := hx.choose_spec
  obtain ⟨e1, e2⟩ := sel_unique hg h1 h2 h hm
  exact Prod.ext e1 e2
theorem sel_ends {g : List Ce} {defs : Int} (hg : graphB g defs = true) : ∃ G n, SelR g G n ∧ SelMax G := by
  have key : ∀ c G n, SelR g G n → G.countP selB = c → ∃ G n, SelR g G n ∧ SelMax G := by
    intro c
    induction c using Nat.strongRecOn with
    | ind c ih =>
      intro G n h hc
      by_cases hm : SelMax G
      · exact ⟨G, n, h, hm⟩
      · unfold SelMax at hm
        have hm : ∃ i k, Enabled G i k := by
          refine Classical.byContradiction fun hn => hm fun i k he => hn ⟨i, k, he⟩
        obtain ⟨i, k, he⟩ := hm
        have h1 := (selR_inv hg h).cnt
        have h2 := (selR_inv hg (h.step he)).cnt
        exact ih _ (by omega) _ _ (h.step he) rfl
  exact key _ g 0 .zero rfl
theorem selRes_rel {g : List Ce} {defs : Int} (hg : graphB g defs = true) : SelR g (selRes g).1 (selRes g).2 := by
  obtain ⟨G, n, h, hm⟩ := sel_ends hg
  rw [selRes_eq hg h hm]; exact h
theorem selRes_ok {g : List Ce} {defs : Int} (hg : graphB g defs = true) : graphB (selRes g).1 defs = true ∧ (selRes g).1.length = g.length ∧ (selRes g).2 ≤ g.length := by
  have h := selR_inv hg (selRes_rel hg)
  refine ⟨h.ok, h.len, ?_⟩
  have := h.cnt
  have : g.countP selB ≤ g.length := List.countP_le_length
  omega
/-- what SelectGraph answers, but for whether -/
noncomputable def selO (g : List Ce) : List Ce × Nat := if graphB g 6 = true then selRes g else ([], 0)
theorem selO_no {g : List Ce} (h : graphB g 6 = false) : selO g = ([], 0) := by unfold selO; rw [if_neg (by rw [h]; simp)]
theorem selO_yes {g : List Ce} (h : graphB g 6 = true) : selO g = selRes g := by unfold selO; rw [if_pos h]
theorem selO_small (g : List Ce) : (selO g).1.length + sumK (selO g).1 ≤ 2000 ∧ (selO g).2 ≤ 400 := by
  cases h : graphB g 6 with
  | false => rw [selO_no h]; simp [sumK]
  | true =>
    rw [selO_yes h]
    obtain ⟨h1, h2, h3⟩ := selRes_ok h
    have h4 := graphB_len h
    have h5 := kidsSum_le3 (selRes g).1 fun c hc => by
      obtain ⟨i, hi, rfl⟩ := List.getElem_of_mem hc
      exact (kids_graph h1 i hi).1
    omega
theorem rootB_sel {g : List Ce} (h : graphB g 6 = true) (rs : List Int) : rootB (selRes g).1 rs = rootB g rs := by
  obtain ⟨h1, h2, -⟩ := selRes_ok h
  unfold rootB; rw [h1, h2, h]
/-- what TidyGraph answers, but for whether -/
noncomputable def tidyO (g : List Ce) (rs : List Int) : List Ce × List Nat := if rootB g rs = true then collO (selRes g).1 rs else ([], [])
theorem tidyO_no {g : List Ce} {rs : List Int} (h : rootB g rs = false) : tidyO g rs = ([], []) := by unfold tidyO; rw [if_neg (by rw [h]; simp)]
theorem tidyO_yes {g : List Ce} {rs : List Int} (h : rootB g rs = true) : tidyO g rs = collO (selRes g).1 rs := by unfold tidyO; rw [if_pos h]
theorem tidyO_graph {g : List Ce} {rs : List Int} (h : graphB g 6 = true) : tidyO g rs = collO (selRes g).1 rs := by
  cases hr : rootB g rs with
  | true => exact tidyO_yes hr
  | false => rw [tidyO_no hr, collO_no (by rw [rootB_sel h, hr])]
theorem tidyO_small (g : List Ce) (rs : List Int) : (tidyO g rs).1.length + sumK (tidyO g rs).1 ≤ 2000 ∧ (tidyO g rs).2.length ≤ 2000 := by
  cases h : rootB g rs with
  | false => rw [tidyO_no h]; simp [sumK]
  | true => rw [tidyO_yes h]; exact collO_small _ _
end Go.Proofs.Ytjpjikfmdaejeaa
/-
  A CELL OF A GRAPH OF ONE's OWN BECOMES AN INDIRECTION, in memory.
-/
namespace Go.Proofs.Ytjpjikfmdaejeaa
set_option linter.unusedVariables false
set_option linter.unusedSimpArgs false
open Go.RowKit

theorem ind_i64W (k : Nat) : I64 (indTo k).op ∧ I64 (indTo k).num := by unfold I64 indTo; simp
theorem OwnC.blkW {w : World} {lo : Nat} {S : Nat → Prop} {g : List Ce} {ad : Option Addr} {n cap : Nat} (h : OwnC w lo S g (.slice ad n cap)) (h0 : 0 < g.length) : ∃ b, ad = some ⟨b, 0, none⟩ ∧ n = g.length ∧ lo ≤ b ∧ b < w.heap.size := by
  obtain ⟨ys, hys⟩ := h.row
  rcases hys.2 with ⟨-, hz⟩ | ⟨b5, c5, cur5, e5, hlo, hh, -⟩
  · omega
  · simp only [Value.slice.injEq] at e5
    exact ⟨b5, e5.1, e5.2.1, hlo, (Array.getElem?_eq_some_iff.1 hh).1⟩
/-- a row of one operand is laid, the cell stands for it -/
theorem OwnC.setInd {w : World} {lo b cap n : Nat} {g : List Ce} (h : OwnC w lo (fun b => lo ≤ b) g (.slice (some ⟨b, 0, none⟩) n cap)) (hn : n = g.length) (hlo : lo ≤ w.heap.size) (i k : Nat) (hi : i < g.length) :
    OwnC (st3 (w.alloc (.cells #[.int .i64 (k : Int)] 3)) b i 11 0 (.slice (some ⟨w.heap.size, 0, none⟩) 1 1)) lo (fun b => lo ≤ b) (g.set i (indTo k)) (.slice (some ⟨b, 0, none⟩) n cap) := by
  subst hn
  have hoa : OwnC (w.alloc (.cells #[.int .i64 (k : Int)] 3)) lo (fun b => lo ≤ b ∧ b < w.heap.size) g (.slice (some ⟨b, 0, none⟩) g.length cap) :=
    h.next (fun k hk hz => ⟨hk, hz⟩) (fun k _ hz => Deep.blk_alloc_lt _ _ _ hz) (fun k _ hz => Deep.blk_alloc_lt _ _ _ hz)
  have hset := hoa.setc i hi (c := indTo k) (ind_i64W k) (krow_one w k) (by rintro ⟨-, h⟩; omega)
  exact hset.next (fun k hk _ => by rcases hk with h | h; exact h.1; omega) (fun _ _ _ => rfl) (fun _ _ _ => rfl)
theorem own_cellW {w : World} {base n cap b : Nat} {xs : List Value} (h : w.ownsRow base 45 3 (.slice (some ⟨b, 0, none⟩) n cap) n xs) (j : Nat) (hj : j < n * 3) : ∃ z, w.cell? ⟨b, j, none⟩ = some z :=
  ⟨_, (h.cellAt j hj).trans (List.getElem?_eq_getElem (by have := h.1; omega))⟩
/-- a cell that is not enabled -/
theorem not_en_op {g : List Ce} {i : Nat} (h : ¬ isSel g i) (k : Nat) : ¬ Enabled g i k := fun e => h e.sel
theorem not_en_none {g : List Ce} {i : Nat} (h : followN g g.length (kidAt g i 0) = none) (k : Nat) : ¬ Enabled g i k := fun e => by rw [e.fol] at h; cases h
theorem not_en_pair {g : List Ce} {i q : Nat} (h : followN g g.length (kidAt g i 0) = some q) (h5 : opAt g q ≠ 5) (k : Nat) : ¬ Enabled g i k := fun e => by
  rw [e.fol] at h
  simp only [Option.some.injEq] at h
  subst h
  exact h5 e.pair
theorem pair_kids {g : List Ce} {defs : Int} (hg : graphB g defs = true) {k : Nat} (hk : k < g.length) (h : g[k].op = 5) : g[k].kids.length = 2 := by
  have h1 := kids_count hg k hk
  rw [h] at h1
  have e : cArity 5 = 2 := by decide
  omega
theorem sel_kids {g : List Ce} {defs : Int} (hg : graphB g defs = true) {k : Nat} (hk : k < g.length) (h : g[k].op = 6 ∨ g[k].op = 7) : g[k].kids.length = 1 := by
  have h1 := kids_count hg k hk
  rcases h with h | h <;> rw [h] at h1 <;> have e : cArity 6 = 1 ∧ cArity 7 = 1 := by decide
  all_goals omega
end Go.Proofs.Ytjpjikfmdaejeaa
