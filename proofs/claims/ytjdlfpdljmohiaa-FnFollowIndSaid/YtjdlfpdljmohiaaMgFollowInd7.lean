/-
  PLAIN: the cells of an expression, added to a graph. No program is named here.
-/
import Derived.Test.YtjdlfpdljmohiaaMgFollowInd1
import Derived.Test.YtjdlfpdljmohiaaMgFollowInd2
import Derived.Test.YtjdlfpdljmohiaaProg
import Derived.Deep.DeepMust
import Derived.Test.YtjdlfpdljmohiaaMgFollowInd3
import Derived.Deep.DeepCutAuto
import Derived.Deep.RegionWith
namespace Go.Proofs.Ytjdlfpdljmohiaa
set_option linter.unusedVariables false
set_option linter.unusedSimpArgs false

mutual
/-- the graph with the cells of a tree, and the tree's cell -/
def addT (args : List Nat) : Tr → List Ce → List Ce × Nat
  | .node op n ks, g => if op = 1 then (g, args.getD n.toNat 0) else ((addL args ks g).1 ++ [⟨op, n, (addL args ks g).2.map fun (a : Nat) => (a : Int)⟩], (addL args ks g).1.length)
/-- .. of the trees of a list, one behind the other -/
def addL (args : List Nat) : List Tr → List Ce → List Ce × List Nat
  | [], g => (g, [])
  | t :: ts, g => ((addL args ts (addT args t g).1).1, (addT args t g).2 :: (addL args ts (addT args t g).1).2)
end
theorem addT_var {args : List Nat} {t : Tr} (g : List Ce) (h : t.op = 1) : addT args t g = (g, args.getD t.num.toNat 0) := by
  cases t with
  | node op n ks => simp only [Tr.op_node] at h; simp [addT, h]
theorem addT_other {args : List Nat} {t : Tr} (g : List Ce) (h : ¬ t.op = 1) : addT args t g = ((addL args t.kids g).1 ++ [⟨t.op, t.num, (addL args t.kids g).2.map fun (a : Nat) => (a : Int)⟩], (addL args t.kids g).1.length) := by
  cases t with
  | node op n ks => simp only [Tr.op_node] at h; simp [addT, h]
theorem addL_snoc (args : List Nat) : ∀ (ts : List Tr) (t : Tr) (g : List Ce), addL args (ts ++ [t]) g = ((addT args t (addL args ts g).1).1, (addL args ts g).2 ++ [(addT args t (addL args ts g).1).2])
  | [], t, g => by simp [addL]
  | x :: ts, t, g => by
    have := addL_snoc args ts t (addT args x g).1
    simp only [List.cons_append, addL, this]
theorem addL_length (args : List Nat) : ∀ (ts : List Tr) (g : List Ce), (addL args ts g).2.length = ts.length
  | [], g => by simp [addL]
  | x :: ts, g => by simp [addL, addL_length args ts]
theorem addL_take_succ (args : List Nat) (ts : List Tr) (g : List Ce) (k : Nat) (hk : k < ts.length) : addL args (ts.take (k + 1)) g = ((addT args ts[k] (addL args (ts.take k) g).1).1, (addL args (ts.take k) g).2 ++ [(addT args ts[k] (addL args (ts.take k) g).1).2]) := by
  rw [List.take_succ_eq_append_getElem hk, addL_snoc]
theorem sumK_one (c : Ce) : sumK [c] = c.kids.length := by simp [sumK]
mutual
theorem addT_size (args : List Nat) : ∀ (t : Tr) (g : List Ce), g.length ≤ (addT args t g).1.length ∧ (addT args t g).1.length ≤ g.length + 1 + szT t ∧ sumK (addT args t g).1 ≤ sumK g + szT t
  | .node op n ks, g => by
    have h := addL_size args ks g
    have hl := addL_length args ks g
    unfold addT
    split
    · simp only [szT]; omega
    · have e : sumK ((addL args ks g).1 ++ [⟨op, n, (addL args ks g).2.map fun (a : Nat) => (a : Int)⟩]) = sumK (addL args ks g).1 + ks.length := by
        rw [sumK_append, sumK_one]; simp [hl]
      have e2 : szL ks = ks.length + sumT ks := szL_sum ks
      simp only [List.length_append, List.length_cons, List.length_nil, szT, e]
      have h3 := h.2.2
      omega
theorem addL_size (args : List Nat) : ∀ (ts : List Tr) (g : List Ce), g.length ≤ (addL args ts g).1.length ∧ (addL args ts g).1.length ≤ g.length + szL ts ∧ sumK (addL args ts g).1 ≤ sumK g + sumT ts
  | [], g => by simp [addL, szL, sumT]
  | t :: ts, g => by
    have h1 := addT_size args t g
    have h2 := addL_size args ts (addT args t g).1
    simp only [addL, szL, sumT_cons]
    omega
end
end Go.Proofs.Ytjdlfpdljmohiaa
/-
  PAIRS OF PLACES: what a list of pairs still to be compared, and the pairs seen, say of two trees. No program is named here.
-/
namespace Go.Proofs.Ytjdlfpdljmohiaa
set_option linter.unusedVariables false
set_option linter.unusedSimpArgs false
open Go.RowKit

/-- the place of operand i of the tree at a place -/
def KidAt (w : World) (x : Addr) (i : Nat) (z : Addr) : Prop :=
  ∃ bl off kb ko n cap, x = ⟨bl, off, none⟩ ∧ w.cell? ⟨bl, off + 2, none⟩ = some (.slice (some ⟨kb, ko, none⟩) n cap) ∧ z = ⟨kb, ko + i * 3, none⟩
theorem KidAt.uniq {w : World} {x z z' : Addr} {i : Nat} (h : KidAt w x i z) (h' : KidAt w x i z') : z = z' := by
  obtain ⟨bl, off, kb, ko, n, cap, rfl, hc, rfl⟩ := h
  obtain ⟨bl', off', kb', ko', n', cap', e, hc', rfl⟩ := h'
  simp only [Addr.mk.injEq] at e
  obtain ⟨rfl, rfl, -⟩ := e
  rw [hc] at hc'
  simp only [Option.some.injEq, Value.slice.injEq, Addr.mk.injEq] at hc'
  obtain ⟨⟨rfl, rfl, -⟩, -⟩ := hc'
  rfl
theorem LiesAt.kid {w : World} {S : Nat → Prop} {x : Addr} {s : Tr} (h : LiesAt w S x s) (i : Nat) (hi : i < s.kids.length) : ∃ z, KidAt w x i z ∧ LiesAt w S z s.kids[i] := by
  obtain ⟨bl, off, a, b, c, rfl, hs, h0, h1, h2, ht⟩ := h
  obtain ⟨-, -, -, -, ad, cap, rfl, -, -, hr⟩ := trOn_iff.1 ht
  rcases hr with hr | ⟨kb, ko, rfl, hk, hr⟩
  · rw [hr] at hi; simp at hi
  · exact ⟨_, ⟨bl, off, kb, ko, _, _, rfl, h2, rfl⟩, RowOn.liesAt hi hk hr⟩
/-- two places and their trees -/
structure Wk where
  x : Addr
  y : Addr
  s : Tr
  t : Tr
def Wk.key (e : Wk) : Addr × Addr := (e.x, e.y)
def WkOk (w : World) (S : Nat → Prop) (Q : Prop) (e : Wk) : Prop := LiesAt w S e.x e.s ∧ LiesAt w S e.y e.t ∧ (Q → e.s = e.t)
/-- trees lie at both places -/
def Pair2 (w : World) (S : Nat → Prop) (k : Addr × Addr) : Prop := ∃ s t, LiesAt w S k.1 s ∧ LiesAt w S k.2 t
abbrev Mp := Addr × Addr → Option Value
/-- the first operands of both are at one place, or have been seen -/
def KidsSeen (w : World) (M : Mp) (k : Addr × Addr) (m : Nat) : Prop := ∀ i, i < m → ∀ z z', KidAt w k.1 i z → KidAt w k.2 i z' → z = z' ∨ (M (z, z')).isSome = true
def Done (w : World) (S : Nat → Prop) (M : Mp) (k : Addr × Addr) : Prop := ∀ s t, LiesAt w S k.1 s → LiesAt w S k.2 t → s.op = t.op ∧ s.num = t.num ∧ s.kids.length = t.kids.length ∧ KidsSeen w M k s.kids.length
def Seen (root : Addr × Addr) (M : Mp) (k : Addr × Addr) : Prop := k = root ∨ (M k).isSome = true
def Inv (w : World) (S : Nat → Prop) (root : Addr × Addr) (M : Mp) (l : List Wk) (cur : Option (Addr × Addr)) : Prop :=
  ∀ k, Seen root M k → cur = some k ∨ (∃ e ∈ l, e.key = k) ∨ Done w S M k

theorem pput_some {κ : Type} [DecidableEq κ] {M : κ → Option Value} {a : κ} {v : Value} {k : κ} (h : (M k).isSome = true) : (pput M a v k).isSome = true := by
  unfold pput; split <;> simp_all
theorem KidsSeen.put {w : World} {M : Mp} {k a : Addr × Addr} {m : Nat} {v : Value} (h : KidsSeen w M k m) : KidsSeen w (pput M a v) k m :=
  fun i hi z z' hz hz' => (h i hi z z' hz hz').imp id pput_some
theorem Done.put {w : World} {S : Nat → Prop} {M : Mp} {k a : Addr × Addr} {v : Value} (h : Done w S M k) : Done w S (pput M a v) k :=
  fun s t hs ht => by
    obtain ⟨h1, h2, h3, h4⟩ := h s t hs ht
    exact ⟨h1, h2, h3, h4.put⟩

theorem Inv.start (w : World) (S : Nat → Prop) (e : Wk) : Inv w S e.key (fun _ => none) [e] none := by
  intro k hk
  rcases hk with rfl | hk
  · exact Or.inr (Or.inl ⟨e, by simp, rfl⟩)
  · simp at hk
theorem Inv.pop {w : World} {S : Nat → Prop} {root : Addr × Addr} {M : Mp} {l : List Wk} {e : Wk} (h : Inv w S root M (l ++ [e]) none) : Inv w S root M l (some e.key) := by
  intro k hk
  rcases h k hk with h | ⟨d, hd, hdk⟩ | h
  · cases h
  · rw [List.mem_append] at hd
    rcases hd with hd | hd
    · exact Or.inr (Or.inl ⟨d, hd, hdk⟩)
    · rw [List.mem_singleton] at hd
      subst hd
      exact Or.inl (by rw [hdk])
  · exact Or.inr (Or.inr h)
theorem Inv.push {w : World} {S : Nat → Prop} {root : Addr × Addr} {M : Mp} {l : List Wk} {cur : Option (Addr × Addr)} (h : Inv w S root M l cur) (e : Wk) (v : Value) : Inv w S root (pput M e.key v) (l ++ [e]) cur := by
  intro k hk
  by_cases hke : k = e.key
  · exact Or.inr (Or.inl ⟨e, by simp, hke.symm⟩)
  · have hk' : Seen root M k := by
      rcases hk with hk | hk
      · exact Or.inl hk
      · rw [pput_other _ _ hke] at hk; exact Or.inr hk
    rcases h k hk' with h | ⟨d, hd, hdk⟩ | h
    · exact Or.inl h
    · exact Or.inr (Or.inl ⟨d, by simp [hd], hdk⟩)
    · exact Or.inr (Or.inr h.put)
theorem Inv.close {w : World} {S : Nat → Prop} {root : Addr × Addr} {M : Mp} {l : List Wk} {k0 : Addr × Addr} (h : Inv w S root M l (some k0)) (hd : Done w S M k0) : Inv w S root M l none := by
  intro k hk
  rcases h k hk with h | h | h
  · cases h; exact Or.inr (Or.inr hd)
  · exact Or.inr (Or.inl h)
  · exact Or.inr (Or.inr h)
theorem KidsSeen.zero (w : World) (M : Mp) (k : Addr × Addr) : KidsSeen w M k 0 := fun i hi => absurd hi (by omega)
theorem KidsSeen.succ {w : World} {M : Mp} {k : Addr × Addr} {m : Nat} {z z' : Addr} (h : KidsSeen w M k m) (hz : KidAt w k.1 m z) (hz' : KidAt w k.2 m z') (hs : z = z' ∨ (M (z, z')).isSome = true) : KidsSeen w M k (m + 1) := by
  intro i hi y y' hy hy'
  by_cases e : i = m
  · subst e
    rw [hy.uniq hz, hy'.uniq hz']
    exact hs
  · exact h i (by omega) y y' hy hy'
theorem Done.of {w : World} {S : Nat → Prop} {M : Mp} {e : Wk} {Q : Prop} (he : WkOk w S Q e) (h1 : e.s.op = e.t.op) (h2 : e.s.num = e.t.num) (h3 : e.s.kids.length = e.t.kids.length) (h4 : KidsSeen w M e.key e.s.kids.length) : Done w S M e.key := by
  intro s t hs ht
  rw [LiesAt.uniq hs he.1, LiesAt.uniq ht he.2.1]
  exact ⟨h1, h2, h3, h4⟩

theorem tr_ext2 {a b : Tr} (h1 : a.op = b.op) (h2 : a.num = b.num) (h3 : a.kids = b.kids) : a = b := by cases a; cases b; simp_all

/-- nothing is left to compare: the trees of every pair seen are equal -/
theorem Inv.done {w : World} {S : Nat → Prop} {root : Addr × Addr} {M : Mp} (h : Inv w S root M [] none) : ∀ (n : Nat) (k : Addr × Addr) (s t : Tr), szT s ≤ n → Seen root M k → LiesAt w S k.1 s → LiesAt w S k.2 t → s = t := by
  intro n
  induction n using Nat.strongRecOn with
  | ind n ih =>
    intro k s t hz hk hs ht
    rcases h k hk with h | ⟨e, he, -⟩ | h
    · cases h
    · simp at he
    · obtain ⟨h1, h2, h3, h4⟩ := h s t hs ht
      refine tr_ext2 h1 h2 (List.ext_getElem h3 fun i hi hi' => ?_)
      obtain ⟨z, hz1, hl⟩ := hs.kid i hi
      obtain ⟨z', hz2, hl'⟩ := ht.kid i hi'
      rcases h4 i hi z z' hz1 hz2 with e | hsn
      · subst e
        exact LiesAt.uniq hl hl'
      · have hlt := szT_lt_szL s.kids i hi
        rw [← szT_eq] at hlt
        exact ih (szT s.kids[i]) (by omega) (z, z') _ _ (Nat.le_refl _) (Or.inr hsn) hl hl'

/-- how much there is to compare -/
def wkSz (l : List Wk) : Nat := (l.map fun e => 1 + szT e.s).sum
theorem wkSz_snoc (l : List Wk) (e : Wk) : wkSz (l ++ [e]) = wkSz l + (1 + szT e.s) := by simp [wkSz]
theorem wkSz_len (l : List Wk) : l.length ≤ wkSz l := by
  induction l with
  | nil => simp [wkSz]
  | cons e l ih => simp only [wkSz, List.map_cons, List.sum_cons, List.length_cons] at ih ⊢; omega

/-- pairs, as cells -/
def wkCells (l : List Wk) : List Value := l.flatMap fun e => [.pointer (some e.x), .pointer (some e.y)]
theorem wkCells_length (l : List Wk) : (wkCells l).length = l.length * 2 := by
  induction l with
  | nil => rfl
  | cons d l ih =>
    show ([_, _] ++ wkCells l).length = _
    rw [List.length_append, ih]
    simp
    omega
theorem wkCells_snoc (l : List Wk) (e : Wk) : wkCells (l ++ [e]) = wkCells l ++ [.pointer (some e.x), .pointer (some e.y)] := by simp [wkCells]
/-- an owned row, cut at its end -/
theorem own_cut {w : World} {base size n m g cap : Nat} {T : TypeId} {xs ys : List Value} (h : w.ownsRow base T size (.slice (some ⟨g, 0, none⟩) n cap) n (xs ++ ys)) (hl : xs.length = m * size) (hm : m ≤ n) : w.ownsRow base T size (.slice (some ⟨g, 0, none⟩) m cap) m xs := by
  obtain ⟨h1, h2⟩ := h
  rcases h2 with ⟨h2, -⟩ | ⟨g', cap', cur, e, hg, hh, hn, hc, hs, htk⟩
  · cases h2
  · cases e
    refine ⟨hl, Or.inr ⟨_, _, cur, rfl, hg, hh, by omega, hc, hs, ?_⟩⟩
    have h3 : m * size ≤ n * size := Nat.mul_le_mul_right _ hm
    have := congrArg (List.take (m * size)) htk
    rw [List.take_take, Nat.min_eq_left h3] at this
    rw [this, ← hl, List.take_left]
theorem own_at {w : World} {base size n g cap : Nat} {T : TypeId} {xs : List Value} (h : w.ownsRow base T size (.slice (some ⟨g, 0, none⟩) n cap) n xs) (j : Nat) (u : Value) (hu : xs[j]? = some u) : w.cell? ⟨g, j, none⟩ = some u := by
  rcases h.2 with ⟨h2, -⟩ | ⟨g', cap', cur, e, hg, hh, hn, hc, hs, htk⟩
  · cases h2
  · cases e
    have hlt : j < n * size := by
      have := (List.getElem?_eq_some_iff.1 hu).1
      rw [h.1] at this
      exact this
    rw [← htk, List.getElem?_take_of_lt hlt, Array.getElem?_toList] at hu
    simp only [World.cell?, hh]
    exact hu
end Go.Proofs.Ytjdlfpdljmohiaa
/-
  COUNTING NODES: a path of nodes that are being counted, and the counts that are known; what they say of a tree. No program is named here.
-/
namespace Go.Proofs.Ytjdlfpdljmohiaa
set_option linter.unusedVariables false
set_option linter.unusedSimpArgs false
open Go.RowKit

mutual
/-- how many nodes of a tree are wanted -/
def cntT (p : Tr → Bool) : Tr → Nat
  | .node o n ks => (if p (.node o n ks) then 1 else 0) + cntL p ks
/-- .. of a list of trees -/
def cntL (p : Tr → Bool) : List Tr → Nat
  | [] => 0
  | t :: ts => cntT p t + cntL p ts
end
theorem cntT_eq (p : Tr → Bool) (t : Tr) : cntT p t = (if p t then 1 else 0) + cntL p t.kids := by cases t; simp [cntT]
/-- a node that is being counted: where, its tree, the operands counted, the sum so far -/
structure Fr where
  x : Addr
  t : Tr
  nx : Nat
  sm : Nat
abbrev Mc := Addr → Option Value
/-- the place of operand i, as a function -/
def kidAddr (w : World) (x : Addr) (i : Nat) : Addr :=
  match w.cell? ⟨x.block, x.off + 2, none⟩ with
  | some (.slice (some a) _ _) => ⟨a.block, a.off + i * 3, none⟩
  | _ => x
theorem KidAt.addr {w : World} {x z : Addr} {i : Nat} (h : KidAt w x i z) : kidAddr w x i = z := by
  obtain ⟨bl, off, kb, ko, n, cap, rfl, hc, rfl⟩ := h
  simp [kidAddr, hc]
def FrOk (w : World) (S : Nat → Prop) (p : Tr → Bool) (f : Fr) : Prop :=
  LiesAt w S f.x f.t ∧ f.nx ≤ f.t.kids.length ∧ f.sm = (if p f.t then 1 else 0) + cntL p (f.t.kids.take f.nx)
/-- the nodes lie in one another, the last one innermost -/
def Nest : List Fr → Prop
  | [] => True
  | f :: fs => (∀ g ∈ fs, szT g.t < szT f.t) ∧ Nest fs
theorem Nest.snoc : ∀ {l : List Fr} {f : Fr}, Nest l → (∀ g ∈ l, szT f.t < szT g.t) → Nest (l ++ [f])
  | [], f, _, _ => by simp [Nest]
  | g :: l, f, h, hf => by
    simp only [List.cons_append, Nest] at h ⊢
    refine ⟨fun d hd => ?_, Nest.snoc h.2 fun d hd => hf d (by simp [hd])⟩
    rw [List.mem_append] at hd
    rcases hd with hd | hd
    · exact h.1 d hd
    · rw [List.mem_singleton] at hd; subst hd; exact hf g (by simp)
theorem Nest.init : ∀ {l : List Fr} {f : Fr}, Nest (l ++ [f]) → Nest l ∧ ∀ g ∈ l, szT f.t < szT g.t
  | [], f, _ => by simp [Nest]
  | g :: l, f, h => by
    simp only [List.cons_append, Nest] at h ⊢
    obtain ⟨h1, h2⟩ := Nest.init h.2
    refine ⟨⟨fun d hd => h.1 d (by simp [hd]), h1⟩, fun d hd => ?_⟩
    rw [List.mem_cons] at hd
    rcases hd with rfl | hd
    · exact h.1 f (by simp)
    · exact h2 d hd
/-- what is known: a count, or that the node is on the path -/
def Known (w : World) (S : Nat → Prop) (p : Tr → Bool) (l : List Fr) (k : Addr) (v : Value) : Prop :=
  ∃ t, LiesAt w S k t ∧ (v = .int .i64 (cntT p t) ∨ (v = .int .i64 (-1) ∧ ∃ f ∈ l, f.x = k))
def TInv (w : World) (S : Nat → Prop) (p : Tr → Bool) (M : Mc) (l : List Fr) : Prop :=
  (∀ f ∈ l, FrOk w S p f) ∧ Nest l ∧ ∀ k v, M k = some v → Known w S p l k v

/-- what is still to be done -/
def wtOf (M : Mc) (k : Addr) (t : Tr) : Nat := if (M k).isSome then 1 else 3 * (1 + szT t)
def remL (w : World) (M : Mc) (x : Addr) : Nat → List Tr → Nat
  | _, [] => 0
  | i, k :: ks => wtOf M (kidAddr w x i) k + remL w M x (i + 1) ks
def remF (w : World) (M : Mc) (f : Fr) : Nat := remL w M f.x f.nx (f.t.kids.drop f.nx)
def remP (w : World) (M : Mc) (l : List Fr) : Nat := (l.map (remF w M)).sum + l.length
theorem wtOf_put (M : Mc) (a k : Addr) (v : Value) (t : Tr) : wtOf (pput M a v) k t ≤ wtOf M k t := by
  unfold wtOf
  by_cases h : (M k).isSome = true
  · rw [if_pos h, if_pos (pput_some h)]; exact Nat.le_refl _
  · rw [if_neg h]; split <;> omega
theorem remL_put (w : World) (M : Mc) (a x : Addr) (v : Value) : ∀ (l : List Tr) (i : Nat), remL w (pput M a v) x i l ≤ remL w M x i l
  | [], _ => by simp [remL]
  | k :: ks, i => by
    have := remL_put w M a x v ks (i + 1)
    have := wtOf_put M a (kidAddr w x i) v k
    simp only [remL]
    omega
theorem remP_put (w : World) (M : Mc) (a : Addr) (v : Value) : ∀ (l : List Fr), (l.map (remF w (pput M a v))).sum ≤ (l.map (remF w M)).sum
  | [] => by simp
  | f :: l => by
    have := remP_put w M a v l
    have := remL_put w M a f.x v (f.t.kids.drop f.nx) f.nx
    simp only [List.map_cons, List.sum_cons, remF] at this ⊢
    omega
theorem remL_le (w : World) (M : Mc) (x : Addr) : ∀ (l : List Tr) (i : Nat), remL w M x i l ≤ 3 * szL l
  | [], _ => by simp [remL, szL]
  | k :: ks, i => by
    have := remL_le w M x ks (i + 1)
    have : wtOf M (kidAddr w x i) k ≤ 3 * (1 + szT k) := by unfold wtOf; split <;> omega
    simp only [remL, szL]
    omega
theorem remF_at (w : World) (M : Mc) (f : Fr) (h : f.nx < f.t.kids.length) : remF w M f = wtOf M (kidAddr w f.x f.nx) f.t.kids[f.nx] + remL w M f.x (f.nx + 1) (f.t.kids.drop (f.nx + 1)) := by
  unfold remF
  rw [List.drop_eq_getElem_cons h]
  rfl
theorem remP_snoc (w : World) (M : Mc) (l : List Fr) (f : Fr) : remP w M (l ++ [f]) = (l.map (remF w M)).sum + l.length + (remF w M f + 1) := by
  simp [remP]; omega

/-- a node is counted: it leaves the path -/
theorem TInv.pop {w : World} {S : Nat → Prop} {p : Tr → Bool} {M : Mc} {l : List Fr} {f : Fr} (h : TInv w S p M (l ++ [f])) (hf : f.nx = f.t.kids.length) :
    TInv w S p (pput M f.x (.int .i64 (f.sm : Int))) l ∧ f.sm = cntT p f.t ∧ remP w (pput M f.x (.int .i64 (f.sm : Int))) l < remP w M (l ++ [f]) := by
  obtain ⟨h1, h2, h3⟩ := h
  obtain ⟨f1, -, f3⟩ := h1 f (by simp)
  have hsm : f.sm = cntT p f.t := by rw [f3, cntT_eq, hf, List.take_length]
  refine ⟨⟨fun g hg => h1 g (by simp [hg]), h2.init.1, fun k v hk => ?_⟩, hsm, ?_⟩
  · by_cases e : k = f.x
    · subst e
      rw [pput_same] at hk
      cases hk
      exact ⟨f.t, f1, Or.inl (by rw [hsm])⟩
    · rw [pput_other _ _ e] at hk
      obtain ⟨t, ht, hv⟩ := h3 k v hk
      refine ⟨t, ht, hv.imp id fun ⟨e1, g, hg, hgx⟩ => ⟨e1, g, ?_, hgx⟩⟩
      rw [List.mem_append] at hg
      rcases hg with hg | hg
      · exact hg
      · rw [List.mem_singleton] at hg; subst hg; exact absurd hgx.symm e
  · rw [remP_snoc]
    have := remP_put w M f.x (.int .i64 (f.sm : Int)) l
    unfold remP
    omega
/-- an operand that is new: it goes onto the path -/
theorem TInv.push {w : World} {S : Nat → Prop} {p : Tr → Bool} {M : Mc} {l : List Fr} {f : Fr} (h : TInv w S p M (l ++ [f])) (hf : f.nx < f.t.kids.length) (hv : M (kidAddr w f.x f.nx) = none) :
    TInv w S p (pput M (kidAddr w f.x f.nx) (.int .i64 (-1))) (l ++ [f] ++ [⟨kidAddr w f.x f.nx, f.t.kids[f.nx], 0, if p f.t.kids[f.nx] then 1 else 0⟩]) ∧
      remP w (pput M (kidAddr w f.x f.nx) (.int .i64 (-1))) (l ++ [f] ++ [⟨kidAddr w f.x f.nx, f.t.kids[f.nx], 0, if p f.t.kids[f.nx] then 1 else 0⟩]) < remP w M (l ++ [f]) := by
  obtain ⟨h1, h2, h3⟩ := h
  obtain ⟨f1, f2, f3⟩ := h1 f (by simp)
  obtain ⟨n1, n2⟩ := h2.init
  obtain ⟨z, hz, hl⟩ := f1.kid f.nx hf
  have hza := hz.addr
  have hlt := szT_lt_szL f.t.kids f.nx hf
  rw [← szT_eq] at hlt
  refine ⟨⟨fun g hg => ?_, ?_, fun k u hk => ?_⟩, ?_⟩
  · rw [List.mem_append] at hg
    rcases hg with hg | hg
    · exact h1 g hg
    · rw [List.mem_singleton] at hg
      subst hg
      exact ⟨by rw [hza]; exact hl, Nat.zero_le _, by simp [cntL]⟩
  · refine Nest.snoc h2 fun g hg => ?_
    rw [List.mem_append] at hg
    rcases hg with hg | hg
    · have := n2 g hg
      show szT f.t.kids[f.nx] < _
      omega
    · rw [List.mem_singleton] at hg; subst hg; exact hlt
  · by_cases e : k = kidAddr w f.x f.nx
    · subst e
      rw [pput_same] at hk
      cases hk
      exact ⟨_, by rw [hza]; exact hl, Or.inr ⟨rfl, _, List.mem_append_right _ (List.mem_singleton.2 rfl), rfl⟩⟩
    · rw [pput_other _ _ e] at hk
      obtain ⟨t, ht, hv'⟩ := h3 k u hk
      exact ⟨t, ht, hv'.imp id fun ⟨e1, g, hg, hgx⟩ => ⟨e1, g, List.mem_append_left _ hg, hgx⟩⟩
  · rw [remP_snoc, remP_snoc, List.map_append, List.sum_append]
    have a1 := remP_put w M (kidAddr w f.x f.nx) (.int .i64 (-1)) l
    have a2 := remF_at w M f hf
    have a3 := remF_at w (pput M (kidAddr w f.x f.nx) (.int .i64 (-1))) f hf
    have a4 := remL_put w M (kidAddr w f.x f.nx) f.x (.int .i64 (-1)) (f.t.kids.drop (f.nx + 1)) (f.nx + 1)
    have b1 : wtOf M (kidAddr w f.x f.nx) f.t.kids[f.nx] = 3 * (1 + szT f.t.kids[f.nx]) := by unfold wtOf; rw [hv]; simp
    have b2 : wtOf (pput M (kidAddr w f.x f.nx) (.int .i64 (-1))) (kidAddr w f.x f.nx) f.t.kids[f.nx] = 1 := by unfold wtOf; rw [pput_same]; rfl
    have a5 : remF w (pput M (kidAddr w f.x f.nx) (.int .i64 (-1))) ⟨kidAddr w f.x f.nx, f.t.kids[f.nx], 0, if p f.t.kids[f.nx] then 1 else 0⟩ ≤ 3 * szT f.t.kids[f.nx] := by
      have := remL_le w (pput M (kidAddr w f.x f.nx) (.int .i64 (-1))) (kidAddr w f.x f.nx) (f.t.kids[f.nx]).kids 0
      rw [← szT_eq] at this
      simpa [remF] using this
    rw [b1] at a2
    rw [b2] at a3
    simp only [List.map_cons, List.map_nil, List.sum_cons, List.sum_nil, List.length_append, List.length_cons, List.length_nil]
    omega
theorem TInv.start {w : World} {S : Nat → Prop} {x : Addr} {t : Tr} (h : LiesAt w S x t) (p : Tr → Bool) : TInv w S p (fun _ => none) [⟨x, t, 0, if p t then 1 else 0⟩] := by
  refine ⟨fun f hf => ?_, by simp [Nest], fun k v hk => by simp at hk⟩
  rw [List.mem_singleton] at hf
  subst hf
  exact ⟨h, Nat.zero_le _, by simp [cntL]⟩
/-- how long the path is, how great a sum -/
theorem Nest.len : ∀ {l : List Fr} {n : Nat}, Nest l → (∀ f ∈ l, szT f.t < n) → l.length ≤ n
  | [], n, _, _ => by simp
  | f :: l, n, h, hb => by
    have h1 := hb f (by simp)
    have := Nest.len h.2 h.1
    simp only [List.length_cons]
    omega
/-- the first node -/
def HeadIs (a : Tr) (l : List Fr) : Prop := ∃ g r, l = g :: r ∧ g.t = a
theorem HeadIs.snoc {a : Tr} {l : List Fr} (h : HeadIs a l) (f : Fr) : HeadIs a (l ++ [f]) := by
  obtain ⟨g, r, rfl, h⟩ := h
  exact ⟨g, r ++ [f], by simp, h⟩
theorem HeadIs.init {a : Tr} {l : List Fr} {f : Fr} (h : HeadIs a (l ++ [f])) (hl : l ≠ []) : HeadIs a l := by
  obtain ⟨g, r, e, h⟩ := h
  cases l with
  | nil => exact absurd rfl hl
  | cons d l =>
    simp only [List.cons_append, List.cons.injEq] at e
    exact ⟨d, l, rfl, by rw [e.1]; exact h⟩
theorem HeadIs.one {a : Tr} {f : Fr} (h : HeadIs a ([] ++ [f])) : f.t = a := by
  obtain ⟨g, r, e, h⟩ := h
  simp only [List.nil_append, List.cons.injEq] at e
  rw [e.1]; exact h
end Go.Proofs.Ytjdlfpdljmohiaa
/-
  REPLACING VARIABLES, plainly: the tree, its size, its variables. No program is named here.
-/
namespace Go.Proofs.Ytjdlfpdljmohiaa
set_option linter.unusedVariables false
set_option linter.unusedSimpArgs false
open Go.RowKit

/-- every node's variable has a place among so many -/
def VarOk (n : Nat) (t : Tr) : Prop := t.op = 1 → 0 ≤ t.num ∧ t.num < n ∧ t.kids = []
mutual
def AllT (P : Tr → Prop) : Tr → Prop
  | .node o n ks => P (.node o n ks) ∧ AllL P ks
def AllL (P : Tr → Prop) : List Tr → Prop
  | [] => True
  | t :: ts => AllT P t ∧ AllL P ts
end
theorem allT_iff (P : Tr → Prop) (t : Tr) : AllT P t ↔ P t ∧ AllL P t.kids := by cases t; simp [AllT]
theorem allL_iff (P : Tr → Prop) : ∀ l : List Tr, AllL P l ↔ ∀ t ∈ l, AllT P t
  | [] => by simp [AllL]
  | t :: ts => by simp [AllL, allL_iff P ts]
theorem AllT.kid {P : Tr → Prop} {t : Tr} (h : AllT P t) (i : Nat) (hi : i < t.kids.length) : AllT P t.kids[i] := (allL_iff P _).1 ((allT_iff P t).1 h).2 _ (List.getElem_mem hi)
/-- what a well-formed tree's variables are -/
theorem varOk_of_sh (vars : Nat) (defs : Int) : ∀ (d : Nat) (t : Tr), shB vars defs d t = true → AllT (VarOk vars) t
  | 0, t, h => by simp [shB] at h
  | d + 1, t, h => by
    unfold shB at h
    simp only [Bool.and_eq_true, decide_eq_true_eq, List.all_eq_true] at h
    obtain ⟨⟨h1, h2⟩, h3⟩ := h
    refine (allT_iff _ t).2 ⟨fun ho => ?_, (allL_iff _ _).2 fun k hk => varOk_of_sh vars defs d k (h3 k hk)⟩
    unfold ownB at h2
    rw [if_pos ho] at h2
    simp only [decide_eq_true_eq] at h2
    unfold arity at h1
    rw [if_pos (Or.inl ho)] at h1
    exact ⟨h2.1, h2.2, List.eq_nil_of_length_eq_zero (by omega)⟩

end Go.Proofs.Ytjdlfpdljmohiaa
/-
  WHAT AddExpr AND BuildGraph HAND BACK.
-/
namespace Go.Proofs.Ytjdlfpdljmohiaa
set_option linter.unusedVariables false
set_option linter.unusedSimpArgs false
open Go.RowKit

/-- the graph with the expression's cells, the expression's cell, and whether there is one -/
def addOut (g : List Ce) (t : Tr) (xs : List Int) (defs : Int) : List Ce × Nat × Bool :=
  if graphB g defs = true ∧ validB t xs.length defs = true ∧ xs.all (isAt g.length) = true ∧ (addT (xs.map Int.toNat) t g).1.length ≤ 400 then ((addT (xs.map Int.toNat) t g).1, (addT (xs.map Int.toNat) t g).2, true) else ([], 0, false)
theorem addOut_yes {g : List Ce} {t : Tr} {xs : List Int} {defs : Int} (h1 : graphB g defs = true) (h2 : validB t xs.length defs = true) (h3 : xs.all (isAt g.length) = true) (h4 : (addT (xs.map Int.toNat) t g).1.length ≤ 400) : addOut g t xs defs = ((addT (xs.map Int.toNat) t g).1, (addT (xs.map Int.toNat) t g).2, true) := by
  unfold addOut; rw [if_pos ⟨h1, h2, h3, h4⟩]
theorem addOut_no {g : List Ce} {t : Tr} {xs : List Int} {defs : Int} (h : ¬ (graphB g defs = true ∧ validB t xs.length defs = true ∧ xs.all (isAt g.length) = true ∧ (addT (xs.map Int.toNat) t g).1.length ≤ 400)) : addOut g t xs defs = ([], 0, false) := by
  unfold addOut; rw [if_neg h]
/-- a closed expression fits an empty graph -/
theorem addOut_closed (t : Tr) (defs : Int) : addOut [] t [] defs = if validB t 0 defs = true then ((addT [] t []).1, (addT [] t []).2, true) else ([], 0, false) := by
  by_cases h : validB t 0 defs = true
  · rw [if_pos h]
    have h' := h
    unfold validB at h'
    simp only [Bool.and_eq_true, decide_eq_true_eq] at h'
    have hs := (addT_size [] t []).2.1
    refine addOut_yes ?_ h (by simp) (by simp only [List.map_nil, List.length_nil] at *; omega)
    unfold graphB
    simp
    omega
  · rw [if_neg h]
    exact addOut_no fun hh => h hh.2.1
/-- an answer: the row of cells and the operands' rows are new -/
def AddOut (o : List Ce × Nat × Bool) (w : World) (e : Ending) (w' : World) : Prop :=
  ∃ v, e = .returned (.tuple #[v, .int .i64 (o.2.1 : Int), .bool o.2.2]) ∧ OwnC w' w.heap.size (fun b => w.heap.size ≤ b) o.1 v ∧ Below w.heap.size w w'
theorem OwnC.zero {w : World} {lo b : Nat} {S : Nat → Prop} (h : w.heap[b]? = some (.cells #[] 35)) (hb : lo ≤ b) : OwnC w lo S [] (.slice (some ⟨b, 0, none⟩) 0 0) :=
  ⟨fun i h => absurd h (by simp), [], fun _ => 0, ⟨rfl, Or.inr ⟨b, 0, #[], rfl, hb, h, Nat.le_refl _, by simp [maxLen], rfl, rfl⟩⟩, fun j hj => absurd hj (by simp), fun i j hi _ => absurd hi (by simp)⟩
/-- the cells that stand for the variables -/
theorem args_back {xs : List Int} {n : Nat} (h : xs.all (isAt n) = true) : xs = (xs.map Int.toNat).map fun (a : Nat) => (a : Int) := by
  rw [List.map_map]
  refine List.ext_getElem (by simp) fun i h1 h2 => ?_
  have h3 := List.all_eq_true.1 h _ (List.getElem_mem h1)
  unfold isAt at h3
  simp at h3 ⊢
  omega
end Go.Proofs.Ytjdlfpdljmohiaa
/-
  TREES WHOSE BLOCKS ARE ALL DISTINCT: a footprint, the list of the blocks of a tree's rows; what a write into them leaves.
-/
namespace Go.Proofs.Ytjdlfpdljmohiaa
set_option linter.unusedVariables false
set_option linter.unusedSimpArgs false
open Go.RowKit

mutual
/-- the three cells of a tree, its rows in the blocks fp -/
def TrFp (w : World) (T : TypeId) : Tr → List Nat → Value → Value → Value → Prop
  | .node op n ks, fp, a, b, c => a = .int .i64 op ∧ b = .int .i64 n ∧ I64 op ∧ I64 n ∧
      ∃ ad cap, c = .slice ad ks.length cap ∧ ks.length ≤ cap ∧ cap ≤ maxLen ∧
        ((ks = [] ∧ fp = []) ∨ ∃ bl off C fps, ad = some ⟨bl, off, none⟩ ∧ w.heap[bl]? = some (.cells C T) ∧ fp = bl :: fps.flatten ∧ RowFp w T bl off ks fps)
/-- the trees of a row, each with its own blocks -/
def RowFp (w : World) (T : TypeId) (bl off : Nat) : List Tr → List (List Nat) → Prop
  | [], fps => fps = []
  | t :: ts, fps => ∃ f fs, fps = f :: fs ∧ (∃ a b c, w.cell? ⟨bl, off, none⟩ = some a ∧ w.cell? ⟨bl, off + 1, none⟩ = some b ∧ w.cell? ⟨bl, off + 2, none⟩ = some c ∧ TrFp w T t f a b c) ∧ RowFp w T bl (off + 3) ts fs
end

/-- a slice value that holds these trees, in the blocks fp -/
def KidsFp (w : World) (T : TypeId) (ks : List Tr) (fp : List Nat) (c : Value) : Prop :=
  ∃ ad cap, c = .slice ad ks.length cap ∧ ks.length ≤ cap ∧ cap ≤ maxLen ∧
    ((ks = [] ∧ fp = []) ∨ ∃ bl off C fps, ad = some ⟨bl, off, none⟩ ∧ w.heap[bl]? = some (.cells C T) ∧ fp = bl :: fps.flatten ∧ RowFp w T bl off ks fps)

theorem trFp_iff {w : World} {T : TypeId} {t : Tr} {fp : List Nat} {a b c : Value} : TrFp w T t fp a b c ↔ a = .int .i64 t.op ∧ b = .int .i64 t.num ∧ I64 t.op ∧ I64 t.num ∧ KidsFp w T t.kids fp c := by
  cases t; simp [TrFp, KidsFp]

mutual
theorem TrFp.keep {w w' : World} {T : TypeId} : ∀ (t : Tr) (fp : List Nat) (a b c : Value), (∀ k ∈ fp, w'.heap[k]? = w.heap[k]?) → TrFp w T t fp a b c → TrFp w' T t fp a b c
  | .node op n ks, fp, a, b, c, hw, h => by
    simp only [TrFp] at h ⊢
    obtain ⟨h1, h2, h3, h4, ad, cap, e, l1, l2, h5⟩ := h
    refine ⟨h1, h2, h3, h4, ad, cap, e, l1, l2, ?_⟩
    rcases h5 with h5 | ⟨bl, off, C, fps, e, hb, rfl, r⟩
    · exact Or.inl h5
    · exact Or.inr ⟨bl, off, C, fps, e, (hw bl (by simp)).trans hb, rfl, RowFp.keep bl off ks fps (hw bl (by simp)) (fun f hf k hk => hw k (by simp only [List.mem_cons, List.mem_flatten]; exact Or.inr ⟨f, hf, hk⟩)) r⟩
theorem RowFp.keep {w w' : World} {T : TypeId} (bl off : Nat) : ∀ (ks : List Tr) (fps : List (List Nat)), w'.heap[bl]? = w.heap[bl]? → (∀ f ∈ fps, ∀ k ∈ f, w'.heap[k]? = w.heap[k]?) → RowFp w T bl off ks fps → RowFp w' T bl off ks fps
  | [], fps, _, _, h => by simpa [RowFp] using h
  | t :: ts, fps, hb, hw, h => by
    simp only [RowFp] at h ⊢
    obtain ⟨f, fs, rfl, ⟨a, b, c, ha, hbb, hc, ht⟩, hr⟩ := h
    refine ⟨f, fs, rfl, ⟨a, b, c, ?_, ?_, ?_, TrFp.keep t f a b c (hw f (by simp)) ht⟩, RowFp.keep bl (off + 3) ts fs hb (fun g hg => hw g (by simp [hg])) hr⟩
    · rw [World.cell?_of_block (w := w) hb]; exact ha
    · rw [World.cell?_of_block (w := w) hb]; exact hbb
    · rw [World.cell?_of_block (w := w) hb]; exact hc
end
theorem KidsFp.keep {w w' : World} {T : TypeId} {ks : List Tr} {fp : List Nat} {c : Value} (h : KidsFp w T ks fp c) (hw : ∀ k ∈ fp, w'.heap[k]? = w.heap[k]?) : KidsFp w' T ks fp c := by
  obtain ⟨ad, cap, e, l1, l2, h5⟩ := h
  refine ⟨ad, cap, e, l1, l2, ?_⟩
  rcases h5 with h5 | ⟨bl, off, C, fps, e, hb, rfl, r⟩
  · exact Or.inl h5
  · exact Or.inr ⟨bl, off, C, fps, e, (hw bl (by simp)).trans hb, rfl, RowFp.keep bl off ks fps (hw bl (by simp)) (fun f hf k hk => hw k (by simp only [List.mem_cons, List.mem_flatten]; exact Or.inr ⟨f, hf, hk⟩)) r⟩

/-- the blocks lie in the heap -/
theorem cellsOf_lt {w : World} {b : Nat} {o : Obj} (h : w.heap[b]? = some o) : b < w.heap.size := (Array.getElem?_eq_some_iff.1 h).1
mutual
theorem TrFp.on {w : World} {T : TypeId} {S : Nat → Prop} : ∀ (t : Tr) (fp : List Nat) (a b c : Value), (∀ k ∈ fp, S k) → TrFp w T t fp a b c → TrOn w S t a b c
  | .node op n ks, fp, a, b, c, hS, h => by
    simp only [TrFp] at h
    simp only [TrOn]
    obtain ⟨h1, h2, h3, h4, ad, cap, e, l1, l2, h5⟩ := h
    refine ⟨h1, h2, h3, h4, ad, cap, e, l1, l2, ?_⟩
    rcases h5 with ⟨h5, _⟩ | ⟨bl, off, C, fps, e, hb, rfl, r⟩
    · exact Or.inl h5
    · exact Or.inr ⟨bl, off, e, hS bl (by simp), RowFp.on bl off ks fps (fun f hf k hk => hS k (by simp only [List.mem_cons, List.mem_flatten]; exact Or.inr ⟨f, hf, hk⟩)) r⟩
theorem RowFp.on {w : World} {T : TypeId} {S : Nat → Prop} (bl off : Nat) : ∀ (ks : List Tr) (fps : List (List Nat)), (∀ f ∈ fps, ∀ k ∈ f, S k) → RowFp w T bl off ks fps → RowOn w S bl off ks
  | [], fps, _, h => by simp [RowOn]
  | t :: ts, fps, hS, h => by
    simp only [RowFp] at h
    simp only [RowOn]
    obtain ⟨f, fs, rfl, ⟨a, b, c, ha, hbb, hc, ht⟩, hr⟩ := h
    exact ⟨⟨a, b, c, ha, hbb, hc, TrFp.on t f a b c (hS f (by simp)) ht⟩, RowFp.on bl (off + 3) ts fs (fun g hg => hS g (by simp [hg])) hr⟩
end
theorem KidsFp.on {w : World} {T : TypeId} {S : Nat → Prop} {ks : List Tr} {fp : List Nat} {c : Value} (h : KidsFp w T ks fp c) (hS : ∀ k ∈ fp, S k) : KidsOn w S ks c := by
  obtain ⟨ad, cap, e, l1, l2, h5⟩ := h
  refine ⟨ad, cap, e, l1, l2, ?_⟩
  rcases h5 with ⟨h5, _⟩ | ⟨bl, off, C, fps, e, hb, rfl, r⟩
  · exact Or.inl h5
  · exact Or.inr ⟨bl, off, e, hS bl (by simp), RowFp.on bl off ks fps (fun f hf k hk => hS k (by simp only [List.mem_cons, List.mem_flatten]; exact Or.inr ⟨f, hf, hk⟩)) r⟩

/-- element i of a row -/
theorem RowFp.at {w : World} {T : TypeId} {bl : Nat} : ∀ (ks : List Tr) (fps : List (List Nat)) (off i : Nat) (hi : i < ks.length), RowFp w T bl off ks fps →
    fps.length = ks.length ∧ ∃ f, fps[i]? = some f ∧ ∃ a b c, w.cell? ⟨bl, off + i * 3, none⟩ = some a ∧ w.cell? ⟨bl, off + i * 3 + 1, none⟩ = some b ∧ w.cell? ⟨bl, off + i * 3 + 2, none⟩ = some c ∧ TrFp w T ks[i] f a b c
  | [], _, _, _, hi, _ => by simp at hi
  | t :: ts, fps, off, 0, _, h => by
    simp only [RowFp] at h
    obtain ⟨f, fs, rfl, h1, h2⟩ := h
    refine ⟨?_, f, rfl, by simpa using h1⟩
    cases ts with
    | nil => simp only [RowFp] at h2; simp [h2]
    | cons u us => simp [(RowFp.at (u :: us) fs (off + 3) 0 (by simp) h2).1]
  | t :: ts, fps, off, i + 1, hi, h => by
    simp only [RowFp] at h
    obtain ⟨f, fs, rfl, h1, h2⟩ := h
    have := RowFp.at ts fs (off + 3) i (by simpa using hi) h2
    have e : off + 3 + i * 3 = off + (i + 1) * 3 := by omega
    rw [e] at this
    exact ⟨by simp [this.1], by simpa using this.2⟩

/-- a row from its elements -/
theorem RowFp.of {w : World} {T : TypeId} {bl : Nat} : ∀ (ks : List Tr) (fps : List (List Nat)) (off : Nat), fps.length = ks.length →
    (∀ i (hi : i < ks.length), ∃ f, fps[i]? = some f ∧ ∃ a b c, w.cell? ⟨bl, off + i * 3, none⟩ = some a ∧ w.cell? ⟨bl, off + i * 3 + 1, none⟩ = some b ∧ w.cell? ⟨bl, off + i * 3 + 2, none⟩ = some c ∧ TrFp w T ks[i] f a b c) → RowFp w T bl off ks fps
  | [], fps, _, hl, _ => by simpa [RowFp] using hl
  | t :: ts, [], _, hl, _ => by simp at hl
  | t :: ts, f :: fs, off, hl, h => by
    simp only [RowFp]
    refine ⟨f, fs, rfl, ?_, RowFp.of ts fs (off + 3) (by simpa using hl) fun i hi => ?_⟩
    · obtain ⟨f', hf, a, b, c, h1⟩ := h 0 (by simp)
      simp only [List.getElem?_cons_zero, Option.some.injEq] at hf
      subst hf
      simp only [Nat.zero_mul, Nat.add_zero, List.getElem_cons_zero] at h1
      exact ⟨a, b, c, h1⟩
    · have := h (i + 1) (by simpa using hi)
      have e : off + (i + 1) * 3 = off + 3 + i * 3 := by omega
      rw [e] at this
      simpa using this

end Go.Proofs.Ytjdlfpdljmohiaa
/-
  THE NUMBERS THAT MARKED TREES BEAR, element by element.
-/
namespace Go.Proofs.Ytjdlfpdljmohiaa
set_option linter.unusedVariables false
set_option linter.unusedSimpArgs false
open Go.RowKit

end Go.Proofs.Ytjdlfpdljmohiaa
/-
  THE LAWS' OWN MARKING OF TREES (markExprS, markExpr): a list of trees whose blocks are all distinct bears its numbers in order afterwards; no other block is changed.
-/
namespace Go.Proofs.Ytjdlfpdljmohiaa
set_option linter.unusedVariables false
set_option linter.unusedSimpArgs false
open Go.RowKit


mutual
theorem TrFp.lt {w : World} {T : TypeId} : ∀ (t : Tr) (fp : List Nat) (a b c : Value), TrFp w T t fp a b c → ∀ k ∈ fp, k < w.heap.size
  | .node op n ks, fp, a, b, c, h, k, hk => by
    simp only [TrFp] at h
    obtain ⟨-, -, -, -, ad, cap, e, l1, l2, h5⟩ := h
    rcases h5 with ⟨-, rfl⟩ | ⟨bl, off, C, fps, e, hb, rfl, r⟩
    · simp at hk
    · simp only [List.mem_cons, List.mem_flatten] at hk
      rcases hk with rfl | ⟨f, hf, hk⟩
      · exact cellsOf_lt hb
      · exact RowFp.lt bl off ks fps r f hf k hk
theorem RowFp.lt {w : World} {T : TypeId} (bl off : Nat) : ∀ (ks : List Tr) (fps : List (List Nat)), RowFp w T bl off ks fps → ∀ f ∈ fps, ∀ k ∈ f, k < w.heap.size
  | [], fps, h, f, hf, k, hk => by simp only [RowFp] at h; subst h; simp at hf
  | t :: ts, fps, h, f, hf, k, hk => by
    simp only [RowFp] at h
    obtain ⟨g, gs, rfl, ⟨a, b, c, -, -, -, ht⟩, hr⟩ := h
    simp only [List.mem_cons] at hf
    rcases hf with rfl | hf
    · exact TrFp.lt t f a b c ht k hk
    · exact RowFp.lt bl (off + 3) ts gs hr f hf k hk
end
theorem KidsFp.lt {w : World} {T : TypeId} {ks : List Tr} {fp : List Nat} {c : Value} (h : KidsFp w T ks fp c) : ∀ k ∈ fp, k < w.heap.size := by
  obtain ⟨ad, cap, e, l1, l2, h5⟩ := h
  intro k hk
  rcases h5 with ⟨-, rfl⟩ | ⟨bl, off, C, fps, e, hb, rfl, r⟩
  · simp at hk
  · simp only [List.mem_cons, List.mem_flatten] at hk
    rcases hk with rfl | ⟨f, hf, hk⟩
    · exact cellsOf_lt hb
    · exact RowFp.lt bl off ks fps r f hf k hk

/-- two lists out of a list of lists have no block in common -/
theorem flatten_disj : ∀ {fps : List (List Nat)} (h : fps.flatten.Nodup) {i j : Nat} {f g : List Nat}, fps[i]? = some f → fps[j]? = some g → i ≠ j → ∀ k ∈ f, k ∉ g
  | [], _, _, _, _, _, hi, _, _, _, _ => by simp at hi
  | x :: xs, h, 0, 0, _, _, _, _, hne, _, _ => absurd rfl hne
  | x :: xs, h, 0, j + 1, f, g, hi, hj, _, k, hk => by
    simp only [List.flatten_cons, List.nodup_append] at h
    simp only [List.getElem?_cons_zero, Option.some.injEq] at hi
    simp only [List.getElem?_cons_succ] at hj
    subst hi
    exact fun hg => h.2.2 k hk k (List.mem_flatten.2 ⟨g, List.mem_of_getElem? hj, hg⟩) rfl
  | x :: xs, h, i + 1, 0, f, g, hi, hj, _, k, hk => by
    simp only [List.flatten_cons, List.nodup_append] at h
    simp only [List.getElem?_cons_zero, Option.some.injEq] at hj
    simp only [List.getElem?_cons_succ] at hi
    subst hj
    exact fun hg => h.2.2 k hg k (List.mem_flatten.2 ⟨f, List.mem_of_getElem? hi, hk⟩) rfl
  | x :: xs, h, i + 1, j + 1, f, g, hi, hj, hne, k, hk => by
    simp only [List.flatten_cons, List.nodup_append] at h
    exact flatten_disj h.2.1 (by simpa using hi) (by simpa using hj) (by omega) k hk
/-- a store into a block: the block, the cell, the other cells -/
theorem set_block {w : World} {b : Nat} {C : Array Value} {T : TypeId} (h : w.heap[b]? = some (.cells C T)) (o : Nat) (u : Value) : ∃ C', (w.setCell ⟨b, o, none⟩ u).heap[b]? = some (.cells C' T) := by
  simp [World.setCell, Array.getElem?_modify, h]
theorem set_at {w : World} {b o : Nat} {C : Array Value} {T : TypeId} (h : w.heap[b]? = some (.cells C T)) {v : Value} (hv : w.cell? ⟨b, o, none⟩ = some v) (u : Value) : (w.setCell ⟨b, o, none⟩ u).cell? ⟨b, o, none⟩ = some u := by
  simp only [World.cell?, h] at hv
  have hlt := (Array.getElem?_eq_some_iff.1 (by simpa using hv)).1
  simp [World.cell?, World.setCell, Array.getElem?_modify, h, Array.getElem?_setIfInBounds, hlt]
theorem set_off {w : World} {b o i : Nat} {C : Array Value} {T : TypeId} (h : w.heap[b]? = some (.cells C T)) (hi : i ≠ o) (u : Value) : (w.setCell ⟨b, o, none⟩ u).cell? ⟨b, i, none⟩ = w.cell? ⟨b, i, none⟩ := by
  simp [World.cell?, World.setCell, Array.getElem?_modify, h, Array.getElem?_setIfInBounds, Ne.symm hi]
/-- element j of a row was marked: its two numbers, then the trees below it -/
theorem RowFp.mark {w w1 : World} {T : TypeId} {bl off : Nat} {ks : List Tr} {fps : List (List Nat)} {C : Array Value} (hb : w.heap[bl]? = some (.cells C T)) (hr : RowFp w T bl off ks fps) (hn : (bl :: fps.flatten).Nodup)
    (j : Nat) (hj : j < ks.length) (x y : Int) (hx : I64 x) (hy : I64 y) (f : List Nat) (hf : fps[j]? = some f) (r : Value) (hc : w.cell? ⟨bl, off + j * 3 + 2, none⟩ = some r) (ks' : List Tr) (h1 : KidsFp w1 T ks' f r)
    (hbut : ButL f ((w.setCell ⟨bl, off + j * 3, none⟩ (.int .i64 x)).setCell ⟨bl, off + j * 3 + 1, none⟩ (.int .i64 y)) w1) :
    RowFp w1 T bl off (ks.set j (.node x y ks')) fps ∧ ∃ C', w1.heap[bl]? = some (.cells C' T) := by
  have hbl : bl < w.heap.size := cellsOf_lt hb
  simp only [List.nodup_cons] at hn
  obtain ⟨hn1, hn2⟩ := hn
  have hblf : bl ∉ f := fun hm => hn1 (List.mem_flatten.2 ⟨f, List.mem_of_getElem? hf, hm⟩)
  obtain ⟨C1, hC1⟩ := set_block hb (off + j * 3) (.int .i64 x)
  obtain ⟨C2, hC2⟩ := set_block hC1 (off + j * 3 + 1) (.int .i64 y)
  have hsz : ((w.setCell ⟨bl, off + j * 3, none⟩ (.int .i64 x)).setCell ⟨bl, off + j * 3 + 1, none⟩ (.int .i64 y)).heap.size = w.heap.size := by rw [size_setCell, size_setCell]
  have hblk : w1.heap[bl]? = ((w.setCell ⟨bl, off + j * 3, none⟩ (.int .i64 x)).setCell ⟨bl, off + j * 3 + 1, none⟩ (.int .i64 y)).heap[bl]? := hbut.block bl (by rw [hsz]; exact hbl) hblf
  have hcell : ∀ i, w1.cell? ⟨bl, i, none⟩ = ((w.setCell ⟨bl, off + j * 3, none⟩ (.int .i64 x)).setCell ⟨bl, off + j * 3 + 1, none⟩ (.int .i64 y)).cell? ⟨bl, i, none⟩ := fun i => World.cell?_of_block hblk
  have hsame : ∀ i, i ≠ off + j * 3 → i ≠ off + j * 3 + 1 → w1.cell? ⟨bl, i, none⟩ = w.cell? ⟨bl, i, none⟩ := fun i h1 h2 => by rw [hcell, set_off hC1 h2, set_off hb h1]
  refine ⟨RowFp.of _ _ _ ?_ ?_, C2, hblk.trans hC2⟩
  · rw [List.length_set]; exact (RowFp.at ks fps off j hj hr).1
  intro i hi
  rw [List.length_set] at hi
  obtain ⟨-, g, hg, a, b, c, ha, hbb, hcc, ht⟩ := RowFp.at ks fps off i hi hr
  refine ⟨g, hg, ?_⟩
  by_cases hij : i = j
  · subst hij
    rw [hf] at hg
    cases hg
    rw [hc] at hcc
    cases hcc
    refine ⟨.int .i64 x, .int .i64 y, r, ?_, ?_, ?_, ?_⟩
    · rw [hcell, set_off hC1 (by omega), set_at hb ha]
    · rw [hcell]
      exact set_at hC1 (v := b) (by rw [set_off hb (by omega)]; exact hbb) _
    · rw [hsame _ (by omega) (by omega)]; exact hc
    · simp only [List.getElem_set_self]
      exact trFp_iff.2 ⟨rfl, rfl, hx, hy, h1⟩
  · refine ⟨a, b, c, ?_, ?_, ?_, ?_⟩
    · rw [hsame _ (by omega) (by omega)]; exact ha
    · rw [hsame _ (by omega) (by omega)]; exact hbb
    · rw [hsame _ (by omega) (by omega)]; exact hcc
    · rw [List.getElem_set_ne (by omega)]
      refine TrFp.keep _ g a b c (fun k hk => ?_) ht
      have hkl := TrFp.lt _ g a b c ht k hk
      have hkb : k ≠ bl := fun e => hn1 (List.mem_flatten.2 ⟨g, List.mem_of_getElem? hg, e ▸ hk⟩)
      rw [hbut.block k (by rw [hsz]; exact hkl) (flatten_disj hn2 hg hf hij k hk)]
      exact (Below.heap_setCell _ _ _ _ hkb).trans (Below.heap_setCell _ _ _ _ hkb)
end Go.Proofs.Ytjdlfpdljmohiaa
/-
  THE LAWS' OWN COPY OF AN ARGUMENT (toExpr, toExprS), ITS BLOCKS ALL DISTINCT: the same trees, in new memory; nothing that was there is changed.
-/
namespace Go.Proofs.Ytjdlfpdljmohiaa
set_option linter.unusedVariables false
set_option linter.unusedSimpArgs false
open Go.RowKit

/-- trees whose blocks are distinct, from lo on -/
def Fresh (w : World) (lo : Nat) (ks : List Tr) (c : Value) : Prop := ∃ fp, KidsFp w 30 ks fp c ∧ fp.Nodup ∧ ∀ k ∈ fp, lo ≤ k
theorem Fresh.on {w : World} {lo : Nat} {ks : List Tr} {c : Value} (h : Fresh w lo ks c) : KidsOn w (Btw lo w.heap.size) ks c := by
  obtain ⟨fp, h1, h2, h3⟩ := h
  exact h1.on fun k hk => ⟨h3 k hk, h1.lt k hk⟩
theorem Fresh.mono {w w' : World} {lo lo' : Nat} {ks : List Tr} {c : Value} (h : Fresh w lo ks c) (hl : lo' ≤ lo) (hw : ∀ k, lo ≤ k → k < w.heap.size → w'.heap[k]? = w.heap[k]?) : Fresh w' lo' ks c := by
  obtain ⟨fp, h1, h2, h3⟩ := h
  exact ⟨fp, h1.keep fun k hk => hw k (h3 k hk) (h1.lt k hk), h2, fun k hk => Nat.le_trans hl (h3 k hk)⟩
theorem Fresh.next {w w' : World} {lo : Nat} {ks : List Tr} {c : Value} (h : Fresh w lo ks c) (hb : Below w.heap.size w w') : Fresh w' lo ks c := h.mono (Nat.le_refl _) fun k _ hk => hb.block k hk
theorem Fresh.setCell {w : World} {lo : Nat} {ks : List Tr} {c : Value} (h : Fresh w lo ks c) {a : Addr} (ha : a.block < lo) (u : Value) : Fresh (w.setCell a u) lo ks c :=
  h.mono (Nat.le_refl _) fun k hk _ => Below.heap_setCell _ _ _ _ (by omega)

end Go.Proofs.Ytjdlfpdljmohiaa
/-
  TREES WHOSE BLOCKS ARE DISTINCT LIE IN PLAIN BLOCKS.
-/
namespace Go.Proofs.Ytjdlfpdljmohiaa
set_option linter.unusedVariables false
set_option linter.unusedSimpArgs false
open Go.RowKit

mutual
theorem TrFp.plain {w : World} {T : TypeId} : ∀ (t : Tr) (fp : List Nat) (a b c : Value), TrFp w T t fp a b c → ∀ k ∈ fp, Pl w k
  | .node op n ks, fp, a, b, c, h => by
    simp only [TrFp] at h
    obtain ⟨-, -, -, -, ad, cap, -, -, -, h5⟩ := h
    rcases h5 with ⟨-, rfl⟩ | ⟨bl, off, C, fps, -, hb, rfl, r⟩
    · simp
    · intro k hk
      rw [List.mem_cons] at hk
      rcases hk with rfl | hk
      · exact ⟨cellsOf_lt hb, C, T, hb⟩
      · obtain ⟨f, hf, hkf⟩ := List.mem_flatten.1 hk
        exact RowFp.plain bl off ks fps r f hf k hkf
theorem RowFp.plain {w : World} {T : TypeId} (bl off : Nat) : ∀ (ks : List Tr) (fps : List (List Nat)), RowFp w T bl off ks fps → ∀ f ∈ fps, ∀ k ∈ f, Pl w k
  | [], fps, h => by
    simp only [RowFp] at h
    subst h
    simp
  | t :: ts, fps, h => by
    simp only [RowFp] at h
    obtain ⟨f, fs, rfl, ⟨a, b, c, -, -, -, ht⟩, hr⟩ := h
    intro g hg k hk
    rw [List.mem_cons] at hg
    rcases hg with rfl | hg
    · exact TrFp.plain t _ a b c ht k hk
    · exact RowFp.plain bl (off + 3) ts fs hr g hg k hk
end
theorem KidsFp.plain {w : World} {T : TypeId} {ks : List Tr} {fp : List Nat} {c : Value} (h : KidsFp w T ks fp c) : ∀ k ∈ fp, Pl w k :=
  TrFp.plain (.node 0 0 ks) fp _ _ c (trFp_iff.2 ⟨rfl, rfl, by simp [I64], by simp [I64], h⟩)
theorem Fresh.inP {w : World} {lo : Nat} {ks : List Tr} {c : Value} (h : Fresh w lo ks c) : InP w ks c := by
  obtain ⟨fp, h1, -, -⟩ := h
  exact h1.on h1.plain
end Go.Proofs.Ytjdlfpdljmohiaa
/-
  LISTS OF TREES WITH DISTINCT BLOCKS THAT A CALL BUILDS BY append.
-/
namespace Go.Proofs.Ytjdlfpdljmohiaa
set_option linter.unusedVariables false
set_option linter.unusedSimpArgs false
open Go.RowKit

/-- a list of trees that a call has built by append: the row is its own, each tree has its own blocks, all from lo on -/
def OwnF (w : World) (lo hi : Nat) (ts : List Tr) (v : Value) : Prop :=
  ∃ (xs : List Value) (fps : List (List Nat)), w.ownsRow lo 30 3 v ts.length xs ∧ fps.length = ts.length ∧
    (∀ j (hj : j < ts.length), ∃ f, fps[j]? = some f ∧ ∃ a b c, xs[j * 3]? = some a ∧ xs[j * 3 + 1]? = some b ∧ xs[j * 3 + 2]? = some c ∧ TrFp w 30 ts[j] f a b c) ∧
    fps.flatten.Nodup ∧ ∀ k ∈ fps.flatten, lo ≤ k ∧ k < hi ∧ some k ≠ v.ownBlock

theorem OwnF.nil (w : World) (lo hi : Nat) : OwnF w lo hi [] (.slice none 0 0) := ⟨[], [], World.ownsRow_nil w lo _ _, rfl, fun j hj => absurd hj (by simp), by simp, by simp⟩
theorem OwnF.next {w w' : World} {lo hi hi' : Nat} {ts : List Tr} {v : Value} (h : OwnF w lo hi ts v) (hh : hi ≤ hi') (hs : hi ≤ w.heap.size) (hb : ∀ k, lo ≤ k → k < w.heap.size → w'.heap[k]? = w.heap[k]?) : OwnF w' lo hi' ts v := by
  obtain ⟨xs, fps, h1, h2, h3, h4, h5⟩ := h
  refine ⟨xs, fps, own_keep h1 hb, h2, fun j hj => ?_, h4, fun k hk => ⟨(h5 k hk).1, Nat.lt_of_lt_of_le (h5 k hk).2.1 hh, (h5 k hk).2.2⟩⟩
  obtain ⟨f, e0, a, b, c, e1, e2, e3, e4⟩ := h3 j hj
  exact ⟨f, e0, a, b, c, e1, e2, e3, TrFp.keep _ _ _ _ _ (fun k hk => by
    have := h5 k (List.mem_flatten.2 ⟨f, List.mem_of_getElem? e0, hk⟩)
    exact hb k this.1 (Nat.lt_of_lt_of_le this.2.1 hs)) e4⟩
theorem OwnF.row {w : World} {lo hi : Nat} {ts : List Tr} {v : Value} (h : OwnF w lo hi ts v) : ∃ xs, w.ownsRow lo 30 3 v ts.length xs := by
  obtain ⟨xs, -, h1, -⟩ := h; exact ⟨xs, h1⟩
/-- one tree more -/
theorem OwnF.step {w w' : World} {lo hi : Nat} {ts : List Tr} {v v' : Value} {t : Tr} {a b c : Value} {f : List Nat} (h : OwnF w lo hi ts v) (hlo : lo ≤ hi) (hs : hi ≤ w.heap.size)
    (hn : TrFp w 30 t f a b c) (hf : f.Nodup) (hfl : ∀ k ∈ f, hi ≤ k ∧ k < w.heap.size ∧ some k ≠ v.ownBlock) (xs : List Value) (hx : w.ownsRow lo 30 3 v ts.length xs)
    (hown : w'.ownsRow lo 30 3 v' (ts.length + 1) (xs ++ [a, b, c])) (hg : w.grownBy w' v.ownBlock) (hw : v'.ownBlock = v.ownBlock ∨ ∃ g, v'.ownBlock = some g ∧ w.heap.size ≤ g) : OwnF w' lo w.heap.size (ts ++ [t]) v' := by
  obtain ⟨xs2, fps, h1, h2, h3, h4, h5⟩ := h
  -- the row's cells are the same
  have hxs : xs2 = xs := by
    rcases h1.2 with ⟨rfl, h0⟩ | ⟨g, cap, cur, rfl, hg', hh, hn', hc, hs, htk⟩
    · have a1 := h1.1
      have a2 := hx.1
      rw [h0] at a1 a2
      rw [List.eq_nil_of_length_eq_zero (by omega : xs2.length = 0), List.eq_nil_of_length_eq_zero (by omega : xs.length = 0)]
    · rcases hx.2 with ⟨e, -⟩ | ⟨g2, cap2, cur2, e, -, hh2, -, -, -, htk2⟩
      · cases e
      · cases e
        rw [hh] at hh2
        cases hh2
        rw [← htk, ← htk2]
  subst hxs
  have hlen := h1.1
  have keepB : ∀ k, lo ≤ k ∧ k < w.heap.size ∧ some k ≠ v.ownBlock → w'.heap[k]? = w.heap[k]? := fun k hk => hg.block k hk.2.1 hk.2.2
  have nb : ∀ k, k < w.heap.size → some k ≠ v.ownBlock → some k ≠ v'.ownBlock := fun k hk hkv => by
    rcases hw with hw | ⟨g, hw, hge⟩
    · rw [hw]; exact hkv
    · rw [hw]; intro e; simp only [Option.some.injEq] at e; omega
  refine ⟨xs2 ++ [a, b, c], fps ++ [f], by simpa using hown, by simp [h2], fun j hj => ?_, ?_, ?_⟩
  · by_cases hjl : j < ts.length
    · obtain ⟨f', e0, x, y, z, e1, e2, e3, e4⟩ := h3 j hjl
      refine ⟨f', ?_, x, y, z, ?_, ?_, ?_, ?_⟩
      · rw [List.getElem?_append_left (by omega)]; exact e0
      · rw [List.getElem?_append_left (by omega)]; exact e1
      · rw [List.getElem?_append_left (by omega)]; exact e2
      · rw [List.getElem?_append_left (by omega)]; exact e3
      · rw [List.getElem_append_left hjl]
        exact TrFp.keep _ _ _ _ _ (fun k hk => by
          have := h5 k (List.mem_flatten.2 ⟨f', List.mem_of_getElem? e0, hk⟩)
          exact keepB k ⟨this.1, Nat.lt_of_lt_of_le this.2.1 hs, this.2.2⟩) e4
    · have hj' : j = ts.length := by simp at hj; omega
      subst hj'
      refine ⟨f, ?_, a, b, c, ?_, ?_, ?_, ?_⟩
      · rw [List.getElem?_append_right (by omega)]; simp [h2]
      · rw [List.getElem?_append_right (by omega)]; simp [hlen]
      · rw [List.getElem?_append_right (by omega)]; simp [hlen]
      · rw [List.getElem?_append_right (by omega)]; simp [hlen]
      · simpa using TrFp.keep _ _ _ _ _ (fun k hk => keepB k ⟨Nat.le_trans hlo (hfl k hk).1, (hfl k hk).2⟩) hn
  · rw [List.flatten_append, List.nodup_append]
    refine ⟨h4, by simpa using hf, fun x hx y hy e => ?_⟩
    subst e
    have e1 := (h5 x hx).2.1
    have e2 := (hfl x (by simpa using hy)).1
    omega
  · intro k hk
    simp only [List.flatten_append, List.mem_append] at hk
    rcases hk with hk | hk
    · have := h5 k hk
      exact ⟨this.1, Nat.lt_of_lt_of_le this.2.1 hs, nb k (Nat.lt_of_lt_of_le this.2.1 hs) this.2.2⟩
    · have := hfl k (by simpa using hk)
      exact ⟨Nat.le_trans hlo this.1, this.2.1, nb k this.2.1 this.2.2⟩
/-- the list, as trees with distinct blocks -/
theorem OwnF.fresh {w : World} {lo hi : Nat} {ts : List Tr} {v : Value} (h : OwnF w lo hi ts v) : Fresh w lo ts v := by
  obtain ⟨xs, fps, h1, h2, h3, h4, h5⟩ := h
  rcases h1.2 with ⟨rfl, h0⟩ | ⟨g, cap, cur, rfl, hg, hh, hn, hc, hs, htk⟩
  · obtain rfl : ts = [] := List.eq_nil_of_length_eq_zero h0
    exact ⟨[], ⟨none, 0, rfl, Nat.le_refl _, by simp [maxLen], Or.inl ⟨rfl, rfl⟩⟩, by simp, by simp⟩
  · refine ⟨g :: fps.flatten, ⟨_, cap, rfl, hn, hc, Or.inr ⟨g, 0, cur, fps, rfl, hh, rfl, RowFp.of _ _ _ h2 fun i hi => ?_⟩⟩, ?_, ?_⟩
    · obtain ⟨f, e0, a, b, c, e1, e2, e3, e4⟩ := h3 i hi
      refine ⟨f, e0, a, b, c, ?_, ?_, ?_, e4⟩
      · rw [Nat.zero_add, h1.cellAt (i * 3) (by omega)]; exact e1
      · rw [Nat.zero_add, h1.cellAt (i * 3 + 1) (by omega)]; exact e2
      · rw [Nat.zero_add, h1.cellAt (i * 3 + 2) (by omega)]; exact e3
    · rw [List.nodup_cons]
      exact ⟨fun hm => (h5 g hm).2.2 rfl, h4⟩
    · intro k hk
      rw [List.mem_cons] at hk
      rcases hk with rfl | hk
      · exact hg
      · exact (h5 k hk).1
end Go.Proofs.Ytjdlfpdljmohiaa
/-
  ONE TREE MORE IN A LIST THAT A CALL BUILDS: behind the tree's box and its cells.
-/
namespace Go.Proofs.Ytjdlfpdljmohiaa
set_option linter.unusedVariables false
set_option linter.unusedSimpArgs false
open Go.RowKit

/-- one tree more, handed back by a call, behind its box and its cells -/
theorem rd_push {wr w2 w5 : World} {lo : Nat} {ts : List Tr} {v v' : Value} {t : Tr} {c : Value} (h : OwnF wr lo wr.heap.size ts v) (hlo : lo ≤ wr.heap.size) (hb : ∀ k, lo ≤ k → k < wr.heap.size → w2.heap[k]? = wr.heap[k]?) (hsz : wr.heap.size ≤ w2.heap.size)
    (hf : Fresh w2 wr.heap.size t.kids c) (ho : I64 t.op) (hn : I64 t.num) (o1 o2 : Obj) (xs : List Value) (hx : ((w2.alloc o1).alloc o2).ownsRow lo 30 3 v ts.length xs)
    (hown : w5.ownsRow lo 30 3 v' (ts.length + 1) (xs ++ [.int .i64 t.op, .int .i64 t.num, c])) (hg : ((w2.alloc o1).alloc o2).grownBy w5 v.ownBlock) (hw : v'.ownBlock = v.ownBlock ∨ ∃ g, v'.ownBlock = some g ∧ ((w2.alloc o1).alloc o2).heap.size ≤ g) :
    OwnF w5 lo ((w2.alloc o1).alloc o2).heap.size (ts ++ [t]) v' := by
  have hz4 : ((w2.alloc o1).alloc o2).heap.size = w2.heap.size + 2 := by rw [Deep.nblk_alloc, Deep.nblk_alloc]
  have hk4 : ∀ k, k < w2.heap.size → ((w2.alloc o1).alloc o2).heap[k]? = w2.heap[k]? := fun k hk => (Deep.blk_alloc_lt _ _ _ (by rw [Deep.nblk_alloc]; omega)).trans (Deep.blk_alloc_lt _ _ _ hk)
  have h4 : OwnF ((w2.alloc o1).alloc o2) lo wr.heap.size ts v := h.next (Nat.le_refl _) (Nat.le_refl _) fun k h1 h2 => (hk4 k (by omega)).trans (hb k h1 h2)
  have hob : ∀ k, v.ownBlock = some k → k < wr.heap.size := by
    obtain ⟨ys, fps, h1, -⟩ := h
    intro k hk
    rcases h1.2 with ⟨rfl, -⟩ | ⟨g, cap, cur, rfl, -, hh, -⟩
    · simp [Value.ownBlock] at hk
    · simp only [Value.ownBlock, Option.some.injEq] at hk
      subst hk
      exact (Array.getElem?_eq_some_iff.1 hh).1
  obtain ⟨fp, f1, f2, f3⟩ := hf
  have f4 : KidsFp ((w2.alloc o1).alloc o2) 30 t.kids fp c := f1.keep fun k hk => hk4 k (f1.lt k hk)
  exact h4.step hlo (by omega) (trFp_iff.2 ⟨rfl, rfl, ho, hn, f4⟩) f2 (fun k hk => ⟨f3 k hk, by have := f1.lt k hk; omega, fun e => by have := hob k e.symm; have := f3 k hk; omega⟩) xs hx hown hg hw
end Go.Proofs.Ytjdlfpdljmohiaa
/-
  THE MODEL's l3Add: the cells of an expression, added to a graph that is being built.
-/
namespace Go.Proofs.Ytjdlfpdljmohiaa
set_option linter.unusedVariables false
set_option linter.unusedSimpArgs false
open Go.RowKit

/-- what l3Add hands back: the graph with the cells, in its own rows; nothing is written but the row of the cells -/
def AddRes (r : List Ce × Nat) (lo : Nat) (S : Nat → Prop) (gv : Value) (w : World) (e : Ending) (w' : World) : Prop :=
  ∃ gv', e = .returned (.tuple #[gv', .int .i64 (r.2 : Int)]) ∧ OwnC w' lo (fun b => S b ∨ w.heap.size ≤ b) r.1 gv' ∧ w.grownBy w' gv.ownBlock ∧ (gv'.ownBlock = gv.ownBlock ∨ ∃ g, gv'.ownBlock = some g ∧ w.heap.size ≤ g)
def AdSaid (args : List Nat) (t : Tr) : Prop := ∀ (gv av c : Value) (lo : Nat) (S : Nat → Prop) (cs : List Ce) (w : World), OwnC w lo S cs gv → lo ≤ w.heap.size → IntsOn w (Lt lo) (args.map fun (a : Nat) => (a : Int)) av → KidsOn w (Lt lo) t.kids c →
  cs.length + szT t ≤ 500000 → args.length ≤ 1048576 → I64 t.op → I64 t.num → AllT (VarOk args.length) t →
  Calls Try.prog 66 #[gv, .agg #[.int .i64 t.op, .int .i64 t.num, c], av] w (AddRes (addT args t cs) lo S gv w)

theorem grown_box {w w1 : World} {row : Option Nat} (h : Below w.heap.size w w1) : w.grownBy w1 row := ⟨h.os, h.tape, h.output, h.size, fun k hk _ => h.block k hk⟩
/-- where the operands' rows of the graph lie while the operands of a cell are gathered in kv -/
def SK (w : World) (S : Nat → Prop) (kv : Value) : Nat → Prop := fun b => ((S b ∧ b < w.heap.size) ∨ w.heap.size + 2 ≤ b) ∧ some b ≠ kv.ownBlock
/-- what holds behind k operands -/
structure AdRel (args : List Nat) (t : Tr) (cs : List Ce) (lo : Nat) (S : Nat → Prop) (gv0 ebox : Value) (w : World) (k : Nat) (gv kv : Value) (wr : World) : Prop where
  graph : OwnC wr lo (SK w S kv) (addL args (t.kids.take k) cs).1 gv
  kids : Stk wr (w.heap.size + 2) (addL args (t.kids.take k) cs).2 kv
  box : wr.heap[w.heap.size + 1]? = some (.cells #[.int .i64 t.op, .int .i64 t.num, kv] 35)
  ebx : wr.heap[w.heap.size]? = some (.cells #[.int .i64 t.op, .int .i64 t.num, ebox] 30)
  old : ∀ b, b < w.heap.size → some b ≠ gv0.ownBlock → wr.heap[b]? = w.heap[b]?
  os : wr.os = w.os
  tape : wr.tape = w.tape
  output : wr.output = w.output
  size : w.heap.size + 2 ≤ wr.heap.size
  own : gv.ownBlock = gv0.ownBlock ∨ ∃ g, gv.ownBlock = some g ∧ w.heap.size + 2 ≤ g

/-- a row of cells is no row of ints -/
theorem own_ne {w : World} {b1 b2 n1 n2 s1 s2 : Nat} {v1 v2 : Value} {x1 x2 : List Value} (h1 : w.ownsRow b1 35 s1 v1 n1 x1) (h2 : w.ownsRow b2 3 s2 v2 n2 x2) : ∀ k, some k = v1.ownBlock → some k ≠ v2.ownBlock := by
  intro k e1 e2
  rcases h1.2 with ⟨rfl, -⟩ | ⟨g, cap, cur, rfl, -, hh, -⟩
  · simp [Value.ownBlock] at e1
  · rcases h2.2 with ⟨rfl, -⟩ | ⟨g2, cap2, cur2, rfl, -, hh2, -⟩
    · simp [Value.ownBlock] at e2
    · simp only [Value.ownBlock, Option.some.injEq] at e1 e2
      subst e1
      subst e2
      rw [hh] at hh2
      simp at hh2
theorem news1 (w : World) (n : Nat) : ∀ j u, [Value.int .i64 (n : Int)][j]? = some u → (w.alloc (.cells #[.int .i64 (n : Int)] 3)).cell? ((⟨w.heap.size, 0, none⟩ : Addr).add j) = some u := by
  intro j u hu
  have hj : j = 0 := by
    rcases Nat.lt_or_ge j 1 with h | h
    · omega
    · rw [List.getElem?_eq_none (by simpa using h)] at hu; cases hu
  subst hj
  simp only [List.getElem?_cons_zero, Option.some.injEq] at hu
  subst hu
  rw [WideShapes.add_plain]
  exact box_cell w #[.int .i64 (n : Int)] 3 0 _ rfl
theorem stk_snoc {w : World} {lo n : Nat} {ws : List Nat} {v : Value} (h : w.ownsRow lo 3 1 v (ws.length + 1) (plV ws ++ [.int .i64 (n : Int)])) : Stk w lo (ws ++ [n]) v := by
  unfold Stk
  rw [show plV (ws ++ [n]) = plV ws ++ [.int .i64 (n : Int)] by simp [plV], List.length_append]
  exact h
theorem AdRel.kept {args : List Nat} {t : Tr} {cs : List Ce} {lo : Nat} {S : Nat → Prop} {gv0 ebox : Value} {w : World} {k : Nat} {gv kv : Value} {wr : World} (h : AdRel args t cs lo S gv0 ebox w k gv kv wr) (hg0 : ∀ b, gv0.ownBlock = some b → b < w.heap.size) {w2 : World} (hgr : wr.grownBy w2 gv.ownBlock) :
    (∀ b, b < w.heap.size → some b ≠ gv0.ownBlock → w2.heap[b]? = w.heap[b]?) ∧ w2.heap[w.heap.size]? = wr.heap[w.heap.size]? ∧ w2.heap[w.heap.size + 1]? = wr.heap[w.heap.size + 1]? ∧ Stk w2 (w.heap.size + 2) (addL args (t.kids.take k) cs).2 kv := by
  have hs := h.size
  have ho : ∀ b, some b = gv.ownBlock → some b = gv0.ownBlock ∨ w.heap.size + 2 ≤ b := by
    intro b hb
    rcases h.own with e | ⟨g, e, hg⟩
    · exact Or.inl (hb.trans e)
    · rw [e] at hb; simp only [Option.some.injEq] at hb; exact Or.inr (by omega)
  refine ⟨fun b hb hn => (hgr.block b (by omega) fun e => ?_).trans (h.old b hb hn), hgr.block _ (by omega) fun e => ?_, hgr.block _ (by omega) fun e => ?_, ?_⟩
  · rcases ho b e with e | e
    · exact hn e
    · omega
  · rcases ho _ e with e | e
    · have := hg0 _ e.symm; omega
    · omega
  · rcases ho _ e with e | e
    · have := hg0 _ e.symm; omega
    · omega
  · obtain ⟨ys, hy⟩ := h.graph.row
    refine ⟨h.kids.1, ?_⟩
    rcases h.kids.2 with h' | ⟨g, cap, cur, rfl, hg, hh, r⟩
    · exact Or.inl h'
    · exact Or.inr ⟨g, cap, cur, rfl, hg, (hgr.block g (Array.getElem?_eq_some_iff.1 hh).1 fun e => own_ne hy h.kids g e rfl).trans hh, r⟩
/-- one operand more -/
theorem ad_push {args : List Nat} {t : Tr} {cs : List Ce} {lo : Nat} {S : Nat → Prop} {gv0 ebox : Value} {w : World} {k : Nat} {gv kv : Value} {wr : World} (h : AdRel args t cs lo S gv0 ebox w k gv kv wr) (hk : k < t.kids.length) (hg0 : ∀ b, gv0.ownBlock = some b → b < w.heap.size) {gv' : Value} {w2 : World}
    (hg : OwnC w2 lo (fun b => SK w S kv b ∨ wr.heap.size ≤ b) (addT args t.kids[k] (addL args (t.kids.take k) cs).1).1 gv') (hgr : wr.grownBy w2 gv.ownBlock) (how : gv'.ownBlock = gv.ownBlock ∨ ∃ g, gv'.ownBlock = some g ∧ wr.heap.size ≤ g) (o : Obj) {kv' : Value} {w5 : World}
    (hst : Stk w5 (w.heap.size + 2) ((addL args (t.kids.take k) cs).2 ++ [(addT args t.kids[k] (addL args (t.kids.take k) cs).1).2]) kv') (hgr5 : (w2.alloc o).grownBy w5 kv.ownBlock) (hw5 : kv'.ownBlock = kv.ownBlock ∨ ∃ g, kv'.ownBlock = some g ∧ (w2.alloc o).heap.size ≤ g) :
    AdRel args t cs lo S gv0 ebox w (k + 1) gv' kv' (w5.setCell ⟨w.heap.size + 1, 2, none⟩ kv') := by
  obtain ⟨q1, q2, q3, q4⟩ := h.kept hg0 hgr
  have hs := h.size
  have hs2 := hgr.size
  have hs5 := hgr5.size
  rw [Deep.nblk_alloc] at hs5 hw5
  have hkv : ∀ b, some b = kv.ownBlock → w.heap.size + 2 ≤ b ∧ b < wr.heap.size := fun b e => own_some h.kids b e.symm
  have k5 : ∀ b, b < w2.heap.size → some b ≠ kv.ownBlock → w5.heap[b]? = w2.heap[b]? := fun b hb hn => (hgr5.block b (by rw [Deep.nblk_alloc]; omega) hn).trans (Deep.blk_alloc_lt _ _ _ hb)
  have k6 : ∀ b, b < w2.heap.size → some b ≠ kv.ownBlock → b ≠ w.heap.size + 1 → (w5.setCell ⟨w.heap.size + 1, 2, none⟩ kv').heap[b]? = w2.heap[b]? := fun b hb hn hne => (Below.heap_setCell _ _ _ _ hne).trans (k5 b hb hn)
  have ho : ∀ b, some b = gv'.ownBlock → some b = gv0.ownBlock ∨ w.heap.size + 2 ≤ b := by
    intro b hb
    rcases how with e | ⟨g, e, hg⟩
    · rw [e] at hb
      rcases h.own with e | ⟨g, e, hg⟩
      · exact Or.inl (hb.trans e)
      · rw [e] at hb; simp only [Option.some.injEq] at hb; exact Or.inr (by omega)
    · rw [e] at hb; simp only [Option.some.injEq] at hb; exact Or.inr (by omega)
  have e1 : addL args (t.kids.take (k + 1)) cs = _ := addL_take_succ args t.kids cs k hk
  refine ⟨?_, ?_, ?_, ?_, ?_, ?_, ?_, ?_, ?_, ?_⟩
  · rw [e1]
    refine hg.next (fun b hb hb2 => ?_) (fun b e hb => ?_) (fun b hS hb => ?_)
    · refine ⟨?_, fun e => ?_⟩
      · rcases hb with hb | hb
        · exact hb.1
        · exact Or.inr (by omega)
      · rcases hw5 with e5 | ⟨g, e5, hg5⟩
        · rw [e5] at e
          rcases hb with hb | hb
          · exact hb.2 e
          · have := (hkv b e).2; omega
        · rw [e5] at e
          simp only [Option.some.injEq] at e
          omega
    · obtain ⟨ys, hy⟩ := hg.row
      refine k6 b hb (own_ne hy q4 b e) fun e6 => ?_
      rcases ho b e with e | e
      · have := hg0 _ e.symm; omega
      · omega
    · rcases hS with hS | hS
      · exact k6 b hb hS.2 fun e6 => by rcases hS.1 with h7 | h7 <;> omega
      · exact k6 b hb (fun e => by have := (hkv b e).2; omega) (by omega)
  · rw [e1]
    exact Stk.keep hst fun b h1 h2 => Below.heap_setCell _ _ _ _ (by show b ≠ w.heap.size + 1; omega)
  · refine box_set (a := .int .i64 t.op) (b := .int .i64 t.num) (c := kv) ?_ _
    rw [k5 _ (by omega) fun e => by have := (hkv _ e).1; omega, q3]
    exact h.box
  · rw [k6 _ (by omega) (fun e => by have := (hkv _ e).1; omega) (by omega), q2]
    exact h.ebx
  · intro b hb hn
    rw [k6 b (by omega) (fun e => by have := (hkv _ e).1; omega) (by omega)]
    exact q1 b hb hn
  · show w5.os = w.os
    rw [hgr5.os]; exact hgr.os.trans h.os
  · show w5.tape = w.tape
    rw [hgr5.tape]; exact hgr.tape.trans h.tape
  · show w5.output = w.output
    rw [hgr5.output]; exact hgr.output.trans h.output
  · rw [size_setCell]; omega
  · rcases how with e | ⟨g, e, hg⟩
    · rw [e]; exact h.own
    · exact Or.inr ⟨g, e, by omega⟩

/-- behind all operands: the cell -/
theorem ad_end {args : List Nat} {t : Tr} {cs : List Ce} {lo : Nat} {S : Nat → Prop} {gv0 ebox : Value} {w : World} {k : Nat} {gv kv : Value} {wr : World} (h : AdRel args t cs lo S gv0 ebox w k gv kv wr) (hk : k = t.kids.length) (hg0 : ∀ b, gv0.ownBlock = some b → b < w.heap.size) (ho : I64 t.op) (hn : I64 t.num) (o : Obj) {xs : List Value}
    (hx : (wr.alloc o).ownsRow lo 35 3 gv (addL args t.kids cs).1.length xs) {v' : Value} {w5 : World}
    (hown : w5.ownsRow lo 35 3 v' ((addL args t.kids cs).1.length + 1) (xs ++ [.int .i64 t.op, .int .i64 t.num, kv])) (hg : (wr.alloc o).grownBy w5 gv.ownBlock) (hw : v'.ownBlock = gv.ownBlock ∨ ∃ g, v'.ownBlock = some g ∧ (wr.alloc o).heap.size ≤ g) :
    OwnC w5 lo (fun b => S b ∨ w.heap.size ≤ b) ((addL args t.kids cs).1 ++ [⟨t.op, t.num, (addL args t.kids cs).2.map fun (a : Nat) => (a : Int)⟩]) v' ∧ w.grownBy w5 gv0.ownBlock ∧ (v'.ownBlock = gv0.ownBlock ∨ ∃ g, v'.ownBlock = some g ∧ w.heap.size ≤ g) := by
  have hs := h.size
  have hs5 := hg.size
  rw [Deep.nblk_alloc] at hs5 hw
  have e1 : t.kids.take k = t.kids := by rw [hk, List.take_length]
  have hG := h.graph
  have hK := h.kids
  rw [e1] at hG hK
  have hG4 : OwnC (wr.alloc o) lo (SK w S kv) (addL args t.kids cs).1 gv := hG.next (fun _ h _ => h) (fun b _ hb => Deep.blk_alloc_lt _ _ _ hb) (fun b _ hb => Deep.blk_alloc_lt _ _ _ hb)
  obtain ⟨blk, hb1, hb2, hb3⟩ : ∃ blk, w.heap.size ≤ blk ∧ ¬ SK w S kv blk ∧ KRowS (wr.alloc o) (fun b => b = blk) ((addL args t.kids cs).2.map fun (a : Nat) => (a : Int)) blk kv := by
    obtain ⟨blk, h1, h2⟩ := stk_krow (hK.alloc o)
    by_cases he : (addL args t.kids cs).2 = []
    · refine ⟨w.heap.size, Nat.le_refl _, fun h => by rcases h.1 with h | h <;> omega, ?_⟩
      obtain ⟨ad, cap, e, l1, l2, -⟩ := h2
      exact ⟨ad, cap, e, l1, l2, Or.inl (by rw [he]; rfl)⟩
    · exact ⟨blk, by have := (own_some hK blk (h1 he)).1; omega, fun h => h.2 (h1 he).symm, h2⟩
  have hst := hG4.step (c := ⟨t.op, t.num, (addL args t.kids cs).2.map fun (a : Nat) => (a : Int)⟩) (v' := v') ⟨ho, hn⟩ hb3 hb2 xs hx hown hg
  have hown' : ∀ b, some b = gv.ownBlock → some b = gv0.ownBlock ∨ w.heap.size + 2 ≤ b := by
    intro b hb
    rcases h.own with e | ⟨g, e, hg⟩
    · exact Or.inl (hb.trans e)
    · rw [e] at hb; simp only [Option.some.injEq] at hb; exact Or.inr (by omega)
  refine ⟨hst.next (fun b hb _ => ?_) (fun _ _ _ => rfl) (fun _ _ _ => rfl), ⟨?_, ?_, ?_, by omega, fun b hb hn => ?_⟩, ?_⟩
  · rcases hb with hb | rfl
    · rcases hb.1 with hb | hb
      · exact Or.inl hb.1
      · exact Or.inr (by omega)
    · exact Or.inr hb1
  · rw [hg.os]; exact h.os
  · rw [hg.tape]; exact h.tape
  · rw [hg.output]; exact h.output
  · refine ((hg.block b (by rw [Deep.nblk_alloc]; omega) fun e => ?_).trans (Deep.blk_alloc_lt _ _ _ (by omega))).trans (h.old b hb hn)
    rcases hown' b e with e | e
    · exact hn e
    · omega
  · rcases hw with e | ⟨g, e, hg⟩
    · rw [e]
      rcases h.own with e | ⟨g, e, hg⟩
      · exact Or.inl e
      · exact Or.inr ⟨g, e, by omega⟩
    · exact Or.inr ⟨g, e, by omega⟩

set_option maxRecDepth 100000 in
set_option maxHeartbeats 1600000 in
theorem ad_step (args : List Nat) (t : Tr) (ih : ∀ i (hi : i < t.kids.length), AdSaid args (t.kids[i])) : AdSaid args t := by
  intro gv av c lo S cs w hg hlo ha hk hz hal ho hn hp
  have HI : Hid (∀ i (hi : i < t.kids.length), AdSaid args (t.kids[i])) := ih
  have HG : Hid (OwnC w lo S cs gv) := hg
  have HA : Hid (IntsOn w (Lt lo) (args.map fun (a : Nat) => (a : Int)) av) := ha
  have HK : Hid (KidsOn w (Lt lo) t.kids c) := hk
  have HT : Hid (I64 t.op ∧ I64 t.num) := ⟨ho, hn⟩
  have HPT : Hid (AllT (VarOk args.length) t) := hp
  have HG0 : Hid (∀ b, gv.ownBlock = some b → b < w.heap.size) := fun b hb => by obtain ⟨ys, hy⟩ := hg.row; exact (own_some hy b hb).2
  obtain ⟨adg, capg, rfl⟩ := hg.form
  obtain ⟨ad, cap, rfl, hl, hm, -⟩ := hk
  obtain ⟨ada, capa, rfl, hl2, hm2, -⟩ := ha
  unfold maxLen at hm hm2
  clear ih hg ho hn hp
  by_cases h1 : t.op = 1
  · have t1 : (t.op == 1) = true := by simpa using h1
    obtain ⟨p1, p2, p3⟩ := ((allT_iff _ t).1 HPT.out).1 h1
    obtain ⟨n, hnn⟩ : ∃ n : Nat, t.num = n := ⟨t.num.toNat, by omega⟩
    have hlt : n < args.length := by omega
    have HV : Hid (addT args t cs = (cs, args[n])) := by rw [Hid, addT_var cs h1, hnn]; simp [hlt]
    obtain ⟨bl, off, rfl, hbl, d0⟩ := IntsOn.atS HA.out n (by simpa using hlt)
    have hblw : bl < w.heap.size := by have : bl < lo := hbl; omega
    simp only [List.getElem_map] at d0
    have d1 := old_cell d0 (.cells #[.int .i64 t.op, .int .i64 (n : Int), .slice ad t.kids.length cap] 30)
    rw [hnn]
    rw [List.length_map]
    clear h1 p1 p2 p3 hnn hbl d0
    go_enter Try.func66, Try.ntmps66
    go_wp2_with fail
    go_quiet (fail)
    go_wp2_with fail
    go_ret2
    rw [HV.out]
    have hbx : Below w.heap.size w ((w.alloc (.cells #[.int .i64 t.op, .int .i64 (n : Int), .slice ad t.kids.length cap] 30)).drewN nq) := below_drewN (box_below _ _) _
    exact ⟨_, rfl, HG.out.next (fun b hb _ => Or.inl hb) (fun b _ hb => hbx.block b hb) (fun b _ hb => hbx.block b hb), grown_box hbx, Or.inl rfl⟩
  · have t1 : (t.op == 1) = false := by simpa using h1
    have HV : Hid (addT args t cs = ((addL args t.kids cs).1 ++ [⟨t.op, t.num, (addL args t.kids cs).2.map fun (a : Nat) => (a : Int)⟩], (addL args t.kids cs).1.length)) := addT_other cs h1
    clear h1
    rw [List.length_map]
    go_enter Try.func66, Try.ntmps66
    obtain ⟨wC, hwC⟩ : ∃ wC : World, wC = (w.alloc (.cells #[.int .i64 t.op, .int .i64 t.num, .slice ad t.kids.length cap] 30)).alloc (.cells #[.int .i64 t.op, .int .i64 t.num, .slice none 0 0] 35) := ⟨_, rfl⟩
    have HWC : Hid (wC = (w.alloc (.cells #[.int .i64 t.op, .int .i64 t.num, .slice ad t.kids.length cap] 30)).alloc (.cells #[.int .i64 t.op, .int .i64 t.num, .slice none 0 0] 35)) := hwC
    have HST : Hid (AdRel args t cs lo S (.slice adg cs.length capg) (.slice ad t.kids.length cap) w 0 (.slice adg cs.length capg) (.slice none 0 0) wC) := by
      have hz2 : wC.heap.size = w.heap.size + 2 := by rw [hwC, Deep.nblk_alloc, Deep.nblk_alloc]
      have hbl : ∀ b, b < w.heap.size → wC.heap[b]? = w.heap[b]? := fun b hb => by rw [hwC, Deep.blk_alloc_lt _ _ _ (by rw [Deep.nblk_alloc]; omega), Deep.blk_alloc_lt _ _ _ hb]
      refine ⟨?_, ?_, ?_, ?_, fun b hb _ => hbl b hb, by rw [hwC]; rfl, by rw [hwC]; rfl, by rw [hwC]; rfl, by omega, Or.inl rfl⟩
      · simp only [List.take_zero, addL]
        exact HG.out.next (fun b hb hb2 => ⟨Or.inl ⟨hb, hb2⟩, by simp [Value.ownBlock]⟩) (fun b _ hb => hbl b hb) (fun b _ hb => hbl b hb)
      · simp only [List.take_zero, addL]
        exact World.ownsRow_nil _ _ _ _
      · have h := Deep.blk_alloc_new (w.alloc (.cells #[.int .i64 t.op, .int .i64 t.num, .slice ad t.kids.length cap] 30)) (.cells #[.int .i64 t.op, .int .i64 t.num, .slice none 0 0] 35)
        rw [Deep.nblk_alloc, ← hwC] at h
        exact h
      · rw [hwC, Deep.blk_alloc_lt _ _ _ (by rw [Deep.nblk_alloc]; omega)]; exact Deep.blk_alloc_new _ _
    clear hwC
    go_wp2_with fail
    rw [← HWC.out]
    go_loopw [0, 9] (fun gvv i wr => ∃ (k : Nat) (kv : Value), k ≤ t.kids.length ∧ i = .int .i64 k ∧ AdRel args t cs lo S (.slice adg cs.length capg) (.slice ad t.kids.length cap) w k gvv kv wr) (fun _ i _ => t.kids.length - (intOf i).toNat)
    case atStart => exact ⟨0, _, Nat.zero_le _, rfl, HST.out⟩
    case round =>
      obtain ⟨k, kv, hk, rfl, hrd⟩ := hrel
      have HRD : Hid (AdRel args t cs lo S (.slice adg cs.length capg) (.slice ad t.kids.length cap) w k _ kv wr) := hrd
      have heb := hrd.ebx
      have o2 := cell_of_blk heb 2 _ rfl
      have hsz := hrd.size
      obtain ⟨adv, capv, rfl⟩ := hrd.graph.form
      have HOLD : Hid (∀ b, Lt lo b → wr.heap[b]? = w.heap[b]?) := fun b hb => hrd.old b (Nat.lt_of_lt_of_le hb hlo) (fun e => by obtain ⟨ys, hy⟩ := HG.out.row; have := (own_some hy b e.symm).1; have h2 : b < lo := hb; omega)
      clear hrd heb
      by_cases hlt : k < t.kids.length
      · have hkk := HK.out.mono (fun _ h => h) HOLD.out
        obtain ⟨adx, capx, hxe, -, -, hr⟩ := hkk
        cases hxe
        rcases hr with hnil | ⟨bl, off, rfl, hbl, hr⟩
        · rw [hnil] at hlt; simp at hlt
        obtain ⟨p, q, r, e0, e1, e2, ht⟩ := RowOn.at t.kids off k hlt hr
        obtain ⟨rfl, rfl, io, iN, hkc⟩ := trOn_iff.1 ht
        obtain ⟨adk, capk, rfl, -, -, -⟩ := id hkc
        have HKC : Hid (KidsOn wr (Lt lo) (t.kids[k]).kids (.slice adk (t.kids[k]).kids.length capk)) := hkc
        have HIO : Hid (I64 (t.kids[k]).op ∧ I64 (t.kids[k]).num) := ⟨io, iN⟩
        clear hr ht hkc io iN hbl
        have HSZ : Hid (szL (t.kids.take k) + 1 + szT t.kids[k] ≤ szT t) := by
          have h1 := szL_take_succ t.kids k hlt
          have h2 := szL_take_le t.kids (k + 1)
          rw [Hid, szT_eq t]; omega
        have HSL := addL_size args (t.kids.take k) cs
        have hc1 : AdSaid args t.kids[k] := HI.out k hlt
        have hc2 : OwnC wr lo (SK w S kv) (addL args (t.kids.take k) cs).1 (.slice adv (addL args (t.kids.take k) cs).1.length capv) := HRD.out.graph
        have hc3 : IntsOn wr (Lt lo) (args.map fun (a : Nat) => (a : Int)) (.slice ada args.length capa) := by
          have h := HA.out.mono (fun _ h => h) HOLD.out
          rw [List.length_map] at h
          exact h
        have hc4 : (addL args (t.kids.take k) cs).1.length + szT t.kids[k] ≤ 500000 := by have := HSZ.out; have := HSL.2.1; omega
        have hc5 : lo ≤ wr.heap.size := by omega
        have HCALL : Hid (Calls Try.prog 66 #[.slice adv (addL args (t.kids.take k) cs).1.length capv, .agg #[.int .i64 t.kids[k].op, .int .i64 t.kids[k].num, .slice adk (t.kids[k]).kids.length capk], .slice ada args.length capa] wr (AddRes (addT args t.kids[k] (addL args (t.kids.take k) cs).1) lo (SK w S kv) (.slice adv (addL args (t.kids.take k) cs).1.length capv) wr)) := hc1 _ _ _ lo _ _ wr hc2 hc5 hc3 HKC.out hc4 hal HIO.out.1 HIO.out.2 (HPT.out.kid k hlt)
        clear hc1 hc2 hc3 hc4 hc5
        go_wp2_with fail
        refine HCALL.out.mono ?_
        rintro e w2 ⟨gv', rfl, hg2, hgr2, how2⟩
        obtain ⟨nk, hnk⟩ : ∃ nk, nk = (addT args t.kids[k] (addL args (t.kids.take k) cs).1).2 := ⟨_, rfl⟩
        have HNK : Hid (nk = (addT args t.kids[k] (addL args (t.kids.take k) cs).1).2) := hnk
        have HG2 : Hid (OwnC w2 lo (fun b => SK w S kv b ∨ wr.heap.size ≤ b) (addT args t.kids[k] (addL args (t.kids.take k) cs).1).1 gv') := hg2
        have HGR2 : Hid (wr.grownBy w2 (Value.slice adv (addL args (t.kids.take k) cs).1.length capv).ownBlock) := hgr2
        have HOW2 : Hid (gv'.ownBlock = (Value.slice adv (addL args (t.kids.take k) cs).1.length capv).ownBlock ∨ ∃ g, gv'.ownBlock = some g ∧ wr.heap.size ≤ g) := how2
        obtain ⟨-, -, q3, q4⟩ := HRD.out.kept HG0.out hgr2
        have hbx2 := q3.trans HRD.out.box
        have p2 := cell_of_blk hbx2 2 _ rfl
        have p3 := old_cell p2 (.cells #[.int .i64 (nk : Int)] 3)
        have HBX2 : Hid (w2.heap[w.heap.size + 1]? = some (.cells #[.int .i64 t.op, .int .i64 t.num, kv] 35)) := hbx2
        have HST2 : Hid (Stk (w2.alloc (.cells #[.int .i64 (nk : Int)] 3)) (w.heap.size + 2) (addL args (t.kids.take k) cs).2 kv) := q4.alloc _
        obtain ⟨adq, capq, rfl⟩ := q4.len
        have HZ2 : Hid (w.heap.size + 2 ≤ w2.heap.size) := by have := hgr2.size; rw [Hid]; omega
        have HNB : Hid ((addL args (t.kids.take k) cs).2.length = k) := by rw [Hid, addL_length, List.length_take]; omega
        obtain ⟨iI, zI, hII⟩ := infoI1
        have HII : Hid (Try.prog.info? 3 = some iI ∧ iI.zero = some zI ∧ iI.size = 1 ∧ iI.bytes = 8 ∧ zI.cells.size = 1) := hII
        have hkm : k < 1048576 := by
          have h := HSZ.out
          rw [szL_sum, List.length_take] at h
          omega
        rw [← hnk]
        clear hII hg2 hgr2 how2 q3 q4 hbx2 hnk
        go_wp2_with (at_builtin; go_must (refine wpList_append_where _ rfl _ _ 33 rfl (w.heap.size + 2) 3 iI zI 1 8 Try.underlying33 HII.out.1 HII.out.2.1 HII.out.2.2.1 HII.out.2.2.2.1 HII.out.2.2.2.2 (by decide) (.slice adq (addL args (t.kids.take k) cs).2.length capq) (addL args (t.kids.take k) cs).2.length (plV (addL args (t.kids.take k) cs).2) rfl HST2.out ⟨w2.heap.size, 0, none⟩ 1 1 [.int .i64 (nk : Int)] rfl rfl (news1 w2 _) (by simp [Value.oneCell']) (by rw [HNB.out]; unfold maxLen; omega) (by rw [HNB.out]; omega) (by rw [Deep.nblk_alloc]; have := HZ2.out; omega) (by omega) ?_); go_must (intro v' w5 hown hgr5 hw5); go_must (have HST5 : Hid (Stk w5 (w.heap.size + 2) ((addL args (t.kids.take k) cs).2 ++ [nk]) v') := stk_snoc hown); go_must (have HGR5 : Hid ((w2.alloc (.cells #[.int .i64 (nk : Int)] 3)).grownBy w5 (Value.slice adq (addL args (t.kids.take k) cs).2.length capq).ownBlock) := hgr5); go_must (have HW5 : Hid (v'.ownBlock = (Value.slice adq (addL args (t.kids.take k) cs).2.length capq).ownBlock ∨ ∃ g, v'.ownBlock = some g ∧ (w2.alloc (.cells #[.int .i64 (nk : Int)] 3)).heap.size ≤ g) := hw5); go_must (have hbx5 := ((hgr5.block _ (by rw [Deep.nblk_alloc]; have := HZ2.out; omega) fun e => by have := (own_some HST2.out _ e.symm).1; omega).trans (Deep.blk_alloc_lt _ _ _ (by have := HZ2.out; omega))).trans HBX2.out); go_must (obtain ⟨adz, capz, rfl⟩ := stk_form HST5.out HNB.out); go_must (have s2 := cell_of_blk hbx5 2 _ rfl); go_must (have sf := frz_of_blk hbx5 2); clear hown hgr5 hw5 hbx5 p2 p3)
        go_roundw
        case rel => exact ⟨k + 1, _, by omega, by go_num, ad_push HRD.out hlt HG0.out HG2.out HGR2.out HOW2.out _ (by rw [← HNK.out]; exact HST5.out) HGR5.out HW5.out⟩
        case measure => simp [intOf]; omega
      · have hke : k = t.kids.length := by omega
        subst hke
        have htk : t.kids.take t.kids.length = t.kids := List.take_length
        have HG4 : Hid (OwnC wr lo (SK w S kv) (addL args t.kids cs).1 (.slice adv (addL args t.kids cs).1.length capv)) := by
          have h := HRD.out.graph
          rw [htk] at h
          exact h
        have HRD2 : Hid (AdRel args t cs lo S (.slice adg cs.length capg) (.slice ad t.kids.length cap) w t.kids.length (.slice adv (addL args t.kids cs).1.length capv) kv wr) := by
          have h := HRD.out
          rw [htk] at h
          exact h
        rw [htk]
        clear htk HRD
        have hrk : Stk wr (w.heap.size + 2) (addL args t.kids cs).2 kv := by
          have h := HRD2.out.kids
          rw [List.take_length] at h
          exact h
        obtain ⟨adq, capq, rfl⟩ := hrk.len
        have hbx := HRD2.out.box
        have r0 := cell_of_blk hbx 0 _ rfl
        have r1 := cell_of_blk hbx 1 _ rfl
        have r2 := cell_of_blk hbx 2 _ rfl
        obtain ⟨xs, hx⟩ := (HG4.out.next (w' := (wr.alloc (.cells #[.int .i64 t.op, .int .i64 t.num, .slice adq (addL args t.kids cs).2.length capq] 35))) (fun _ h _ => h) (fun b _ hb => Deep.blk_alloc_lt _ _ _ hb) (fun b _ hb => Deep.blk_alloc_lt _ _ _ hb)).row
        have HX : Hid ((wr.alloc (.cells #[.int .i64 t.op, .int .i64 t.num, .slice adq (addL args t.kids cs).2.length capq] 35)).ownsRow lo 35 3 (.slice adv (addL args t.kids cs).1.length capv) (addL args t.kids cs).1.length xs) := hx
        obtain ⟨iC, zC, hII⟩ := infoC1
        have HII : Hid (Try.prog.info? 35 = some iC ∧ iC.zero = some zC ∧ iC.size = 3 ∧ iC.bytes = 40 ∧ zC.cells.size = 3) := hII
        have hgl : (addL args t.kids cs).1.length ≤ 500000 := by
          have h := (addL_size args t.kids cs).2.1
          rw [szT_eq t] at hz
          omega
        clear hII hbx hrk hx
        go_wp2_with (at_builtin; go_must (refine wpList_append_where _ rfl _ _ 23 rfl lo 35 iC zC 3 40 Try.underlying23 HII.out.1 HII.out.2.1 HII.out.2.2.1 HII.out.2.2.2.1 HII.out.2.2.2.2 (by decide) (.slice adv (addL args t.kids cs).1.length capv) (addL args t.kids cs).1.length xs rfl HX.out ⟨wr.heap.size, 0, none⟩ 1 1 [.int .i64 t.op, .int .i64 t.num, .slice adq (addL args t.kids cs).2.length capq] rfl rfl (news3c wr _ _ _) (by simp [Value.oneCell']) (by unfold maxLen; omega) (by omega) (by rw [Deep.nblk_alloc]; omega) (by omega) ?_); go_must (intro v' w5 hown hg5 hw5); go_must (have HOWN : Hid (w5.ownsRow lo 35 3 v' ((addL args t.kids cs).1.length + 1) (xs ++ [.int .i64 t.op, .int .i64 t.num, .slice adq (addL args t.kids cs).2.length capq])) := hown); go_must (have HG5 : Hid ((wr.alloc (.cells #[.int .i64 t.op, .int .i64 t.num, .slice adq (addL args t.kids cs).2.length capq] 35)).grownBy w5 (Value.slice adv (addL args t.kids cs).1.length capv).ownBlock) := hg5); go_must (have HW5 : Hid (v'.ownBlock = (Value.slice adv (addL args t.kids cs).1.length capv).ownBlock ∨ ∃ g, v'.ownBlock = some g ∧ (wr.alloc (.cells #[.int .i64 t.op, .int .i64 t.num, .slice adq (addL args t.kids cs).2.length capq] 35)).heap.size ≤ g) := hw5); clear hown hg5 hw5)
        go_ret2
        obtain ⟨z1, z2, z3⟩ := ad_end HRD2.out rfl HG0.out HT.out.1 HT.out.2 _ HX.out HOWN.out HG5.out HW5.out
        rw [HV.out]
        exact ⟨v', rfl, z1, z2, z3⟩
theorem ad_calls (args : List Nat) : ∀ t : Tr, AdSaid args t
  | .node op n ks => ad_step args (.node op n ks) fun i hi => ad_calls args _
termination_by t => szT t
decreasing_by
  simp only [szT, Tr.kids_node] at *
  exact szT_lt_szL ks i hi
end Go.Proofs.Ytjdlfpdljmohiaa
/-
  SMALL FACTS for the model's BuildGraph and AddExpr.
-/
namespace Go.Proofs.Ytjdlfpdljmohiaa
set_option linter.unusedVariables false
set_option linter.unusedSimpArgs false
open Go.RowKit

theorem below_grown {w w1 w2 : World} {v : Value} (hb : Below w.heap.size w w1) (h : w1.grownBy w2 v.ownBlock) (ho : ∀ k, v.ownBlock = some k → w.heap.size ≤ k) : Below w.heap.size w w2 :=
  ⟨h.os.trans hb.os, h.tape.trans hb.tape, h.output.trans hb.output, Nat.le_trans hb.size h.size, fun k hk => (h.block k (Nat.lt_of_lt_of_le hk hb.size) fun e => by have := ho k e.symm; omega).trans (hb.block k hk)⟩
theorem validB_small {t : Tr} {vars defs : Int} (h : validB t vars defs = true) : 1 + szT t ≤ 60 ∧ shB vars defs 16 t = true ∧ 0 ≤ vars ∧ vars ≤ 4 := by
  unfold validB at h
  simp only [Bool.and_eq_true, decide_eq_true_eq] at h
  exact ⟨h.2.2, h.2.1, h.1.1, h.1.2.1⟩

end Go.Proofs.Ytjdlfpdljmohiaa
