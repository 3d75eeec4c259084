/-
  AN ADDRESS HOLDS ONE TREE; blocks of plain cells; trees that lie in such blocks; the way down nested applications.
-/
import Derived.Test.YtidijbnoaeopdaaGreatDoorMgExactNumberRun1
import Derived.Test.YtidijbnoaeopdaaGreatDoorMgExactNumberRun10
namespace Go.Proofs.YtidijbnoaeopdaaGreatDoor
set_option linter.unusedVariables false
set_option linter.unusedSimpArgs false
open Go.RowKit

mutual
theorem TrOn.uniq {w : World} {S S' : Nat → Prop} : ∀ (t t' : Tr) (a b c : Value), TrOn w S t a b c → TrOn w S' t' a b c → t = t'
  | .node o n ks, .node o' n' ks', a, b, c, h, h' => by
    simp only [TrOn] at h h'
    obtain ⟨rfl, rfl, -, -, ad, cap, rfl, -, -, h⟩ := h
    obtain ⟨e1, e2, -, -, ad', cap', e3, -, -, h'⟩ := h'
    simp only [Value.int.injEq, true_and] at e1 e2
    simp only [Value.slice.injEq] at e3
    obtain ⟨rfl, hl, rfl⟩ := e3
    subst e1
    subst e2
    congr 1
    rcases h with rfl | ⟨bl, off, rfl, -, hr⟩
    · exact (List.eq_nil_of_length_eq_zero (by simpa using hl.symm)).symm
    · rcases h' with rfl | ⟨bl', off', e, -, hr'⟩
      · exact List.eq_nil_of_length_eq_zero (by simpa using hl)
      · simp only [Option.some.injEq, Addr.mk.injEq] at e
        obtain ⟨rfl, rfl, -⟩ := e
        exact RowOn.uniq bl off ks ks' hl hr hr'
theorem RowOn.uniq {w : World} {S S' : Nat → Prop} (bl off : Nat) : ∀ (ks ks' : List Tr), ks.length = ks'.length → RowOn w S bl off ks → RowOn w S' bl off ks' → ks = ks'
  | [], [], _, _, _ => rfl
  | [], _ :: _, hl, _, _ => by simp at hl
  | _ :: _, [], hl, _, _ => by simp at hl
  | t :: ts, t' :: ts', hl, h, h' => by
    simp only [RowOn] at h h'
    obtain ⟨⟨a, b, c, ha, hb, hc, ht⟩, hr⟩ := h
    obtain ⟨⟨a', b', c', ha', hb', hc', ht'⟩, hr'⟩ := h'
    rw [ha] at ha'
    rw [hb] at hb'
    rw [hc] at hc'
    cases ha'
    cases hb'
    cases hc'
    rw [TrOn.uniq t t' a b c ht ht', RowOn.uniq bl (off + 3) ts ts' (by simpa using hl) hr hr']
end

/-- plain blocks of cells -/
def Pl (w : World) : Nat → Prop := fun k => k < w.heap.size ∧ ∃ C T, w.heap[k]? = some (.cells C T (0, 0))
/-- trees that lie in plain blocks -/
abbrev InP (w : World) (ks : List Tr) (c : Value) : Prop := KidsOn w (Pl w) ks c
theorem Pl.next {w w' : World} (hb : Below w.heap.size w w') {k : Nat} (h : Pl w k) : Pl w' k :=
  ⟨Nat.lt_of_lt_of_le h.1 hb.size, by obtain ⟨C, T, e⟩ := h.2; exact ⟨C, T, (hb.block k h.1).trans e⟩⟩
theorem KidsOn.inP {w : World} {ks : List Tr} {c : Value} (h : InP w ks c) : In w ks c := KidsOn.mono h (fun k hk => hk.1) (fun _ _ => rfl)
theorem KidsOn.nextP {w w' : World} {ks : List Tr} {c : Value} (h : InP w ks c) (hb : Below w.heap.size w w') : InP w' ks c := KidsOn.mono h (fun k hk => hk.next hb) (fun k hk => hb.block k hk.1)
theorem TrOn.nextP {w w' : World} {t : Tr} {a b c : Value} (h : TrOn w (Pl w) t a b c) (hb : Below w.heap.size w w') : TrOn w' (Pl w') t a b c := TrOn.mono (fun k hk => hk.next hb) (fun k hk => hb.block k hk.1) _ _ _ _ h

/-- a tree that lies at an address -/
def LiesAt (w : World) (S : Nat → Prop) (a : Addr) (t : Tr) : Prop :=
  ∃ bl off x y z, a = ⟨bl, off, none⟩ ∧ S bl ∧ w.cell? ⟨bl, off, none⟩ = some x ∧ w.cell? ⟨bl, off + 1, none⟩ = some y ∧ w.cell? ⟨bl, off + 2, none⟩ = some z ∧ TrOn w S t x y z
theorem LiesAt.uniq {w : World} {S S' : Nat → Prop} {a : Addr} {t t' : Tr} (h : LiesAt w S a t) (h' : LiesAt w S' a t') : t = t' := by
  obtain ⟨bl, off, x, y, z, rfl, -, hx, hy, hz, ht⟩ := h
  obtain ⟨bl', off', x', y', z', e, -, hx', hy', hz', ht'⟩ := h'
  simp only [Addr.mk.injEq] at e
  obtain ⟨rfl, rfl, -⟩ := e
  rw [hx] at hx'
  rw [hy] at hy'
  rw [hz] at hz'
  cases hx'
  cases hy'
  cases hz'
  exact TrOn.uniq t t' x y z ht ht'
theorem LiesAt.plain {w w' : World} {a : Addr} {t : Tr} (h : LiesAt w (Pl w) a t) (hb : Below w.heap.size w w') : PlainAt w' a := by
  obtain ⟨bl, off, x, y, z, rfl, hp, -⟩ := h
  exact (hp.next hb).2
/-- element i of a row, as a node -/
theorem RowOn.liesAt {w : World} {S : Nat → Prop} {bl off i : Nat} {ks : List Tr} (hi : i < ks.length) (hS : S bl) (h : RowOn w S bl off ks) : LiesAt w S ⟨bl, off + i * 3, none⟩ ks[i] := by
  obtain ⟨a, b, c, ha, hb, hc, ht⟩ := RowOn.at ks off i hi h
  exact ⟨bl, off + i * 3, a, b, c, rfl, hS, ha, hb, hc, ht⟩

/-- the function of nested applications, and its arguments -/
def unwT : Tr → List Tr → Tr × List Tr
  | .node o n [f, x], acc => if o = 4 then unwT f (x :: acc) else (.node o n [f, x], acc)
  | t, acc => (t, acc)
termination_by t => SizeOf.sizeOf t
decreasing_by simp_wf; omega

theorem unwT_app {t f x : Tr} (ho : t.op = 4) (hk : t.kids = [f, x]) (acc : List Tr) : unwT t acc = unwT f (x :: acc) := by
  cases t with
  | node o n ks =>
    simp only [Tr.op_node, Tr.kids_node] at ho hk
    subst ho
    subst hk
    rw [unwT, if_pos rfl]
theorem unwT_stop {t : Tr} (h : ¬ (t.op = 4 ∧ t.kids.length = 2)) (acc : List Tr) : unwT t acc = (t, acc) := by
  cases t with
  | node o n ks =>
    simp only [Tr.op_node, Tr.kids_node] at h
    match ks, h with
    | [], _ => rw [unwT]; intro o' n' f' x' h'; cases h'
    | [a], _ => rw [unwT]; intro o' n' f' x' h'; cases h'
    | [a, b], h =>
      rw [unwT, if_neg]
      intro e
      exact h ⟨e, by simp⟩
    | a :: b :: c :: l, _ => rw [unwT]; intro o' n' f' x' h'; cases h'

/-- an argument with its three cells -/
abbrev Cd := Tr × Value × Value × Value
/-- the way down nested applications, from a tree and its operands' slice: where it stands, and the arguments met, in order -/
inductive Unw (w : World) (a : Tr) (c : Value) : Tr → Value → List Cd → Prop
  | here : Unw w a c a c []
  | down {t f x : Tr} {ct cf u v r : Value} {l : List Cd} {bl off cap : Nat} : Unw w a c t ct l → t.op = 4 → t.kids = [f, x] → ct = .slice (some ⟨bl, off, none⟩) 2 cap →
      w.cell? ⟨bl, off + 2, none⟩ = some cf → w.cell? ⟨bl, off + 3, none⟩ = some u → w.cell? ⟨bl, off + 4, none⟩ = some v → w.cell? ⟨bl, off + 5, none⟩ = some r → Unw w a c f cf (l ++ [(x, u, v, r)])

theorem Unw.unw {w : World} {a t : Tr} {c ct : Value} {l : List Cd} (h : Unw w a c t ct l) : unwT a [] = unwT t (l.map (·.1)).reverse := by
  induction h with
  | here => rfl
  | down h ho hk _ _ _ _ _ ih => rw [ih, unwT_app ho hk]; simp

/-- two operands, in their cells -/
theorem KidsOn.two {w : World} {S : Nat → Prop} {f x : Tr} {c : Value} (h : KidsOn w S [f, x] c) : ∃ bl off cap a b cf u v r, c = .slice (some ⟨bl, off, none⟩) 2 cap ∧ 2 ≤ cap ∧ cap ≤ maxLen ∧ S bl ∧ RowOn w S bl off [f, x] ∧
    w.cell? ⟨bl, off, none⟩ = some a ∧ w.cell? ⟨bl, off + 1, none⟩ = some b ∧ w.cell? ⟨bl, off + 2, none⟩ = some cf ∧ TrOn w S f a b cf ∧
    w.cell? ⟨bl, off + 3, none⟩ = some u ∧ w.cell? ⟨bl, off + 4, none⟩ = some v ∧ w.cell? ⟨bl, off + 5, none⟩ = some r ∧ TrOn w S x u v r := by
  obtain ⟨ad, cap, rfl, l1, l2, h⟩ := h
  rcases h with h | ⟨bl, off, rfl, hs, hr⟩
  · simp at h
  obtain ⟨a, b, cf, h0, h1, h2, h3⟩ := RowOn.at _ off 0 (by simp) hr
  obtain ⟨u, v, r, g0, g1, g2, g3⟩ := RowOn.at _ off 1 (by simp) hr
  simp only [Nat.zero_mul, Nat.add_zero, Nat.one_mul, List.getElem_cons_zero, List.getElem_cons_succ, Nat.add_assoc] at h0 h1 h2 h3 g0 g1 g2 g3
  exact ⟨bl, off, cap, a, b, cf, u, v, r, rfl, l1, l2, hs, hr, h0, h1, h2, h3, g0, g1, g2, g3⟩

theorem Unw.on {w : World} {S : Nat → Prop} {a t : Tr} {c ct : Value} {l : List Cd} (h : Unw w a c t ct l) (hc : KidsOn w S a.kids c) (ha : I64 a.op ∧ I64 a.num) :
    KidsOn w S t.kids ct ∧ I64 t.op ∧ I64 t.num ∧ (∀ d ∈ l, TrOn w S d.1 d.2.1 d.2.2.1 d.2.2.2) ∧ szT t + l.length ≤ szT a := by
  induction h with
  | here => exact ⟨hc, ha.1, ha.2, by simp, by simp⟩
  | @down t f x ct cf u v r l bl off cap h ho hk hct hcf hu hv hr ih =>
    obtain ⟨i1, i2, i3, i4, i5⟩ := ih
    rw [hk] at i1
    obtain ⟨bl', off', cap', p, q, cf', u', v', r', e, -, -, -, -, h0, h1, h2, h3, g0, g1, g2, g3⟩ := i1.two
    rw [hct] at e
    simp only [Value.slice.injEq, Option.some.injEq, Addr.mk.injEq] at e
    obtain ⟨⟨rfl, rfl, -⟩, -, rfl⟩ := e
    rw [hcf] at h2
    rw [hu] at g0
    rw [hv] at g1
    rw [hr] at g2
    cases h2
    cases g0
    cases g1
    cases g2
    have h4 := trOn_iff.1 h3
    refine ⟨h4.2.2.2.2, h4.2.2.1, h4.2.2.2.1, fun d hd => ?_, ?_⟩
    · simp only [List.mem_append, List.mem_singleton] at hd
      rcases hd with hd | rfl
      · exact i4 d hd
      · exact g3
    · have e1 : szT t = szL [f, x] := by rw [szT_eq, hk]
      simp only [szL, List.length_append, List.length_cons, List.length_nil] at e1 ⊢
      omega
end Go.Proofs.YtidijbnoaeopdaaGreatDoor
/-
  PAIRS OF PLACES: what a list of pairs still to be compared, and the pairs seen, say of two trees. No program is named here.
-/
namespace Go.Proofs.YtidijbnoaeopdaaGreatDoor
set_option linter.unusedVariables false
set_option linter.unusedSimpArgs false
open Go.RowKit

/-- the place of operand i of the tree at a place -/
def KidAt (w : World) (x : Addr) (i : Nat) (z : Addr) : Prop :=
  ∃ bl off kb ko n cap, x = ⟨bl, off, none⟩ ∧ w.cell? ⟨bl, off + 2, none⟩ = some (.slice (some ⟨kb, ko, none⟩) n cap) ∧ z = ⟨kb, ko + i * 3, none⟩
theorem KidAt.uniq {w : World} {x z z' : Addr} {i : Nat} (h : KidAt w x i z) (h' : KidAt w x i z') : z = z' := by
  obtain ⟨bl, off, kb, ko, n, cap, rfl, hc, rfl⟩ := h
  obtain ⟨bl', off', kb', ko', n', cap', e, hc', rfl⟩ := h'
  simp only [Addr.mk.injEq] at e
  obtain ⟨rfl, rfl, -⟩ := e
  rw [hc] at hc'
  simp only [Option.some.injEq, Value.slice.injEq, Addr.mk.injEq] at hc'
  obtain ⟨⟨rfl, rfl, -⟩, -⟩ := hc'
  rfl
theorem LiesAt.kid {w : World} {S : Nat → Prop} {x : Addr} {s : Tr} (h : LiesAt w S x s) (i : Nat) (hi : i < s.kids.length) : ∃ z, KidAt w x i z ∧ LiesAt w S z s.kids[i] := by
  obtain ⟨bl, off, a, b, c, rfl, hs, h0, h1, h2, ht⟩ := h
  obtain ⟨-, -, -, -, ad, cap, rfl, -, -, hr⟩ := trOn_iff.1 ht
  rcases hr with hr | ⟨kb, ko, rfl, hk, hr⟩
  · rw [hr] at hi; simp at hi
  · exact ⟨_, ⟨bl, off, kb, ko, _, _, rfl, h2, rfl⟩, RowOn.liesAt hi hk hr⟩
theorem KidAt.lies {w : World} {S : Nat → Prop} {x z : Addr} {s : Tr} {i : Nat} (h : KidAt w x i z) (hx : LiesAt w S x s) (hi : i < s.kids.length) : LiesAt w S z s.kids[i] := by
  obtain ⟨z', hz, hl⟩ := hx.kid i hi
  rw [h.uniq hz]
  exact hl

/-- two places and their trees -/
structure Wk where
  x : Addr
  y : Addr
  s : Tr
  t : Tr
def Wk.key (e : Wk) : Addr × Addr := (e.x, e.y)
def WkOk (w : World) (S : Nat → Prop) (Q : Prop) (e : Wk) : Prop := LiesAt w S e.x e.s ∧ LiesAt w S e.y e.t ∧ (Q → e.s = e.t)
abbrev Mp := Addr × Addr → Option Value
/-- the first operands of both are at one place, or have been seen -/
def KidsSeen (w : World) (M : Mp) (k : Addr × Addr) (m : Nat) : Prop := ∀ i, i < m → ∀ z z', KidAt w k.1 i z → KidAt w k.2 i z' → z = z' ∨ (M (z, z')).isSome = true
def Done (w : World) (S : Nat → Prop) (M : Mp) (k : Addr × Addr) : Prop := ∀ s t, LiesAt w S k.1 s → LiesAt w S k.2 t → s.op = t.op ∧ s.num = t.num ∧ s.kids.length = t.kids.length ∧ KidsSeen w M k s.kids.length
def Seen (root : Addr × Addr) (M : Mp) (k : Addr × Addr) : Prop := k = root ∨ (M k).isSome = true
def Inv (w : World) (S : Nat → Prop) (root : Addr × Addr) (M : Mp) (l : List Wk) (cur : Option (Addr × Addr)) : Prop :=
  ∀ k, Seen root M k → cur = some k ∨ (∃ e ∈ l, e.key = k) ∨ Done w S M k

theorem pput_some {κ : Type} [DecidableEq κ] {M : κ → Option Value} {a : κ} {v : Value} {k : κ} (h : (M k).isSome = true) : (pput M a v k).isSome = true := by
  unfold pput; split <;> simp_all
theorem KidsSeen.put {w : World} {M : Mp} {k a : Addr × Addr} {m : Nat} {v : Value} (h : KidsSeen w M k m) : KidsSeen w (pput M a v) k m :=
  fun i hi z z' hz hz' => (h i hi z z' hz hz').imp id pput_some
theorem Done.put {w : World} {S : Nat → Prop} {M : Mp} {k a : Addr × Addr} {v : Value} (h : Done w S M k) : Done w S (pput M a v) k :=
  fun s t hs ht => by
    obtain ⟨h1, h2, h3, h4⟩ := h s t hs ht
    exact ⟨h1, h2, h3, h4.put⟩

theorem Inv.start (w : World) (S : Nat → Prop) (e : Wk) : Inv w S e.key (fun _ => none) [e] none := by
  intro k hk
  rcases hk with rfl | hk
  · exact Or.inr (Or.inl ⟨e, by simp, rfl⟩)
  · simp at hk
theorem Inv.pop {w : World} {S : Nat → Prop} {root : Addr × Addr} {M : Mp} {l : List Wk} {e : Wk} (h : Inv w S root M (l ++ [e]) none) : Inv w S root M l (some e.key) := by
  intro k hk
  rcases h k hk with h | ⟨d, hd, hdk⟩ | h
  · cases h
  · rw [List.mem_append] at hd
    rcases hd with hd | hd
    · exact Or.inr (Or.inl ⟨d, hd, hdk⟩)
    · rw [List.mem_singleton] at hd
      subst hd
      exact Or.inl (by rw [hdk])
  · exact Or.inr (Or.inr h)
theorem Inv.push {w : World} {S : Nat → Prop} {root : Addr × Addr} {M : Mp} {l : List Wk} {cur : Option (Addr × Addr)} (h : Inv w S root M l cur) (e : Wk) (v : Value) : Inv w S root (pput M e.key v) (l ++ [e]) cur := by
  intro k hk
  by_cases hke : k = e.key
  · exact Or.inr (Or.inl ⟨e, by simp, hke.symm⟩)
  · have hk' : Seen root M k := by
      rcases hk with hk | hk
      · exact Or.inl hk
      · rw [pput_other _ _ hke] at hk; exact Or.inr hk
    rcases h k hk' with h | ⟨d, hd, hdk⟩ | h
    · exact Or.inl h
    · exact Or.inr (Or.inl ⟨d, by simp [hd], hdk⟩)
    · exact Or.inr (Or.inr h.put)
theorem KidsSeen.zero (w : World) (M : Mp) (k : Addr × Addr) : KidsSeen w M k 0 := fun i hi => absurd hi (by omega)
theorem KidsSeen.succ {w : World} {M : Mp} {k : Addr × Addr} {m : Nat} {z z' : Addr} (h : KidsSeen w M k m) (hz : KidAt w k.1 m z) (hz' : KidAt w k.2 m z') (hs : z = z' ∨ (M (z, z')).isSome = true) : KidsSeen w M k (m + 1) := by
  intro i hi y y' hy hy'
  by_cases e : i = m
  · subst e
    rw [hy.uniq hz, hy'.uniq hz']
    exact hs
  · exact h i (by omega) y y' hy hy'
theorem Done.of {w : World} {S : Nat → Prop} {M : Mp} {e : Wk} {Q : Prop} (he : WkOk w S Q e) (h1 : e.s.op = e.t.op) (h2 : e.s.num = e.t.num) (h3 : e.s.kids.length = e.t.kids.length) (h4 : KidsSeen w M e.key e.s.kids.length) : Done w S M e.key := by
  intro s t hs ht
  rw [LiesAt.uniq hs he.1, LiesAt.uniq ht he.2.1]
  exact ⟨h1, h2, h3, h4⟩

theorem tr_ext2 {a b : Tr} (h1 : a.op = b.op) (h2 : a.num = b.num) (h3 : a.kids = b.kids) : a = b := by cases a; cases b; simp_all

/-- nothing is left to compare: the trees of every pair seen are equal -/
theorem Inv.done {w : World} {S : Nat → Prop} {root : Addr × Addr} {M : Mp} (h : Inv w S root M [] none) : ∀ (n : Nat) (k : Addr × Addr) (s t : Tr), szT s ≤ n → Seen root M k → LiesAt w S k.1 s → LiesAt w S k.2 t → s = t := by
  intro n
  induction n using Nat.strongRecOn with
  | ind n ih =>
    intro k s t hz hk hs ht
    rcases h k hk with h | ⟨e, he, -⟩ | h
    · cases h
    · simp at he
    · obtain ⟨h1, h2, h3, h4⟩ := h s t hs ht
      refine tr_ext2 h1 h2 (List.ext_getElem h3 fun i hi hi' => ?_)
      obtain ⟨z, hz1, hl⟩ := hs.kid i hi
      obtain ⟨z', hz2, hl'⟩ := ht.kid i hi'
      rcases h4 i hi z z' hz1 hz2 with e | hsn
      · subst e
        exact LiesAt.uniq hl hl'
      · have hlt := szT_lt_szL s.kids i hi
        rw [← szT_eq] at hlt
        exact ih (szT s.kids[i]) (by omega) (z, z') _ _ (Nat.le_refl _) (Or.inr hsn) hl hl'

/-- an owned row, cut at its end -/
theorem own_cut {w : World} {base size n m g cap : Nat} {T : TypeId} {xs ys : List Value} (h : w.ownsRow base T size (.slice (some ⟨g, 0, none⟩) n cap) n (xs ++ ys)) (hl : xs.length = m * size) (hm : m ≤ n) : w.ownsRow base T size (.slice (some ⟨g, 0, none⟩) m cap) m xs := by
  obtain ⟨h1, h2⟩ := h
  rcases h2 with ⟨h2, -⟩ | ⟨g', cap', cur, e, hg, hh, hn, hc, hs, htk⟩
  · cases h2
  · cases e
    refine ⟨hl, Or.inr ⟨_, _, cur, rfl, hg, hh, by omega, hc, hs, ?_⟩⟩
    have h3 : m * size ≤ n * size := Nat.mul_le_mul_right _ hm
    have := congrArg (List.take (m * size)) htk
    rw [List.take_take, Nat.min_eq_left h3] at this
    rw [this, ← hl, List.take_left]
theorem own_at {w : World} {base size n g cap : Nat} {T : TypeId} {xs : List Value} (h : w.ownsRow base T size (.slice (some ⟨g, 0, none⟩) n cap) n xs) (j : Nat) (u : Value) (hu : xs[j]? = some u) : w.cell? ⟨g, j, none⟩ = some u := by
  rcases h.2 with ⟨h2, -⟩ | ⟨g', cap', cur, e, hg, hh, hn, hc, hs, htk⟩
  · cases h2
  · cases e
    have hlt : j < n * size := by
      have := (List.getElem?_eq_some_iff.1 hu).1
      rw [h.1] at this
      exact this
    rw [← htk, List.getElem?_take_of_lt hlt, Array.getElem?_toList] at hu
    simp only [World.cell?, hh]
    exact hu
end Go.Proofs.YtidijbnoaeopdaaGreatDoor
/-
  COUNTING NODES: a path of nodes that are being counted, and the counts that are known; what they say of a tree. No program is named here.
-/
namespace Go.Proofs.YtidijbnoaeopdaaGreatDoor
set_option linter.unusedVariables false
set_option linter.unusedSimpArgs false
open Go.RowKit

mutual
/-- how many nodes of a tree are wanted -/
def cntT (p : Tr → Bool) : Tr → Nat
  | .node o n ks => (if p (.node o n ks) then 1 else 0) + cntL p ks
/-- .. of a list of trees -/
def cntL (p : Tr → Bool) : List Tr → Nat
  | [] => 0
  | t :: ts => cntT p t + cntL p ts
end
theorem cntT_eq (p : Tr → Bool) (t : Tr) : cntT p t = (if p t then 1 else 0) + cntL p t.kids := by cases t; simp [cntT]
theorem cntL_sum (p : Tr → Bool) : ∀ (l : List Tr), cntL p l = (l.map (cntT p)).sum
  | [] => by simp [cntL]
  | t :: ts => by rw [cntL, cntL_sum p ts]; simp
theorem cntL_take_succ (p : Tr → Bool) (l : List Tr) (i : Nat) (h : i < l.length) : cntL p (l.take (i + 1)) = cntL p (l.take i) + cntT p l[i] := by
  rw [cntL_sum, cntL_sum, List.take_succ_eq_append_getElem h, List.map_append, List.sum_append]; simp
mutual
theorem cntT_le (p : Tr → Bool) : ∀ t : Tr, cntT p t ≤ 1 + szT t
  | .node o n ks => by
    have := cntL_le p ks
    simp only [cntT, szT]
    split <;> omega
theorem cntL_le (p : Tr → Bool) : ∀ l : List Tr, cntL p l ≤ szL l
  | [] => by simp [cntL, szL]
  | t :: ts => by
    have := cntT_le p t
    have := cntL_le p ts
    simp only [cntL, szL]
    omega
end
theorem cntL_take_le (p : Tr → Bool) (l : List Tr) (i : Nat) : cntL p (l.take i) ≤ szL l := Nat.le_trans (cntL_le p _) (szL_take_le l i)
/-- a node that is being counted: where, its tree, the operands counted, the sum so far -/
structure Fr where
  x : Addr
  t : Tr
  nx : Nat
  sm : Nat
abbrev Mc := Addr → Option Value
/-- the place of operand i, as a function -/
def kidAddr (w : World) (x : Addr) (i : Nat) : Addr :=
  match w.cell? ⟨x.block, x.off + 2, none⟩ with
  | some (.slice (some a) _ _) => ⟨a.block, a.off + i * 3, none⟩
  | _ => x
theorem KidAt.addr {w : World} {x z : Addr} {i : Nat} (h : KidAt w x i z) : kidAddr w x i = z := by
  obtain ⟨bl, off, kb, ko, n, cap, rfl, hc, rfl⟩ := h
  simp [kidAddr, hc]
def FrOk (w : World) (S : Nat → Prop) (p : Tr → Bool) (f : Fr) : Prop :=
  LiesAt w S f.x f.t ∧ f.nx ≤ f.t.kids.length ∧ f.sm = (if p f.t then 1 else 0) + cntL p (f.t.kids.take f.nx)
/-- the nodes lie in one another, the last one innermost -/
def Nest : List Fr → Prop
  | [] => True
  | f :: fs => (∀ g ∈ fs, szT g.t < szT f.t) ∧ Nest fs
theorem Nest.snoc : ∀ {l : List Fr} {f : Fr}, Nest l → (∀ g ∈ l, szT f.t < szT g.t) → Nest (l ++ [f])
  | [], f, _, _ => by simp [Nest]
  | g :: l, f, h, hf => by
    simp only [List.cons_append, Nest] at h ⊢
    refine ⟨fun d hd => ?_, Nest.snoc h.2 fun d hd => hf d (by simp [hd])⟩
    rw [List.mem_append] at hd
    rcases hd with hd | hd
    · exact h.1 d hd
    · rw [List.mem_singleton] at hd; subst hd; exact hf g (by simp)
theorem Nest.init : ∀ {l : List Fr} {f : Fr}, Nest (l ++ [f]) → Nest l ∧ ∀ g ∈ l, szT f.t < szT g.t
  | [], f, _ => by simp [Nest]
  | g :: l, f, h => by
    simp only [List.cons_append, Nest] at h ⊢
    obtain ⟨h1, h2⟩ := Nest.init h.2
    refine ⟨⟨fun d hd => h.1 d (by simp [hd]), h1⟩, fun d hd => ?_⟩
    rw [List.mem_cons] at hd
    rcases hd with rfl | hd
    · exact h.1 f (by simp)
    · exact h2 d hd
/-- what is known: a count, or that the node is on the path -/
def Known (w : World) (S : Nat → Prop) (p : Tr → Bool) (l : List Fr) (k : Addr) (v : Value) : Prop :=
  ∃ t, LiesAt w S k t ∧ (v = .int .i64 (cntT p t) ∨ (v = .int .i64 (-1) ∧ ∃ f ∈ l, f.x = k))
def TInv (w : World) (S : Nat → Prop) (p : Tr → Bool) (M : Mc) (l : List Fr) : Prop :=
  (∀ f ∈ l, FrOk w S p f) ∧ Nest l ∧ ∀ k v, M k = some v → Known w S p l k v

/-- what is still to be done -/
def wtOf (M : Mc) (k : Addr) (t : Tr) : Nat := if (M k).isSome then 1 else 3 * (1 + szT t)
def remL (w : World) (M : Mc) (x : Addr) : Nat → List Tr → Nat
  | _, [] => 0
  | i, k :: ks => wtOf M (kidAddr w x i) k + remL w M x (i + 1) ks
def remF (w : World) (M : Mc) (f : Fr) : Nat := remL w M f.x f.nx (f.t.kids.drop f.nx)
def remP (w : World) (M : Mc) (l : List Fr) : Nat := (l.map (remF w M)).sum + l.length
theorem wtOf_put (M : Mc) (a k : Addr) (v : Value) (t : Tr) : wtOf (pput M a v) k t ≤ wtOf M k t := by
  unfold wtOf
  by_cases h : (M k).isSome = true
  · rw [if_pos h, if_pos (pput_some h)]; exact Nat.le_refl _
  · rw [if_neg h]; split <;> omega
theorem remL_put (w : World) (M : Mc) (a x : Addr) (v : Value) : ∀ (l : List Tr) (i : Nat), remL w (pput M a v) x i l ≤ remL w M x i l
  | [], _ => by simp [remL]
  | k :: ks, i => by
    have := remL_put w M a x v ks (i + 1)
    have := wtOf_put M a (kidAddr w x i) v k
    simp only [remL]
    omega
theorem remP_put (w : World) (M : Mc) (a : Addr) (v : Value) : ∀ (l : List Fr), (l.map (remF w (pput M a v))).sum ≤ (l.map (remF w M)).sum
  | [] => by simp
  | f :: l => by
    have := remP_put w M a v l
    have := remL_put w M a f.x v (f.t.kids.drop f.nx) f.nx
    simp only [List.map_cons, List.sum_cons, remF] at this ⊢
    omega
theorem remL_le (w : World) (M : Mc) (x : Addr) : ∀ (l : List Tr) (i : Nat), remL w M x i l ≤ 3 * szL l
  | [], _ => by simp [remL, szL]
  | k :: ks, i => by
    have := remL_le w M x ks (i + 1)
    have : wtOf M (kidAddr w x i) k ≤ 3 * (1 + szT k) := by unfold wtOf; split <;> omega
    simp only [remL, szL]
    omega
theorem remF_at (w : World) (M : Mc) (f : Fr) (h : f.nx < f.t.kids.length) : remF w M f = wtOf M (kidAddr w f.x f.nx) f.t.kids[f.nx] + remL w M f.x (f.nx + 1) (f.t.kids.drop (f.nx + 1)) := by
  unfold remF
  rw [List.drop_eq_getElem_cons h]
  rfl
theorem remP_snoc (w : World) (M : Mc) (l : List Fr) (f : Fr) : remP w M (l ++ [f]) = (l.map (remF w M)).sum + l.length + (remF w M f + 1) := by
  simp [remP]; omega

/-- a node is counted: it leaves the path -/
theorem TInv.pop {w : World} {S : Nat → Prop} {p : Tr → Bool} {M : Mc} {l : List Fr} {f : Fr} (h : TInv w S p M (l ++ [f])) (hf : f.nx = f.t.kids.length) :
    TInv w S p (pput M f.x (.int .i64 (f.sm : Int))) l ∧ f.sm = cntT p f.t ∧ remP w (pput M f.x (.int .i64 (f.sm : Int))) l < remP w M (l ++ [f]) := by
  obtain ⟨h1, h2, h3⟩ := h
  obtain ⟨f1, -, f3⟩ := h1 f (by simp)
  have hsm : f.sm = cntT p f.t := by rw [f3, cntT_eq, hf, List.take_length]
  refine ⟨⟨fun g hg => h1 g (by simp [hg]), h2.init.1, fun k v hk => ?_⟩, hsm, ?_⟩
  · by_cases e : k = f.x
    · subst e
      rw [pput_same] at hk
      cases hk
      exact ⟨f.t, f1, Or.inl (by rw [hsm])⟩
    · rw [pput_other _ _ e] at hk
      obtain ⟨t, ht, hv⟩ := h3 k v hk
      refine ⟨t, ht, hv.imp id fun ⟨e1, g, hg, hgx⟩ => ⟨e1, g, ?_, hgx⟩⟩
      rw [List.mem_append] at hg
      rcases hg with hg | hg
      · exact hg
      · rw [List.mem_singleton] at hg; subst hg; exact absurd hgx.symm e
  · rw [remP_snoc]
    have := remP_put w M f.x (.int .i64 (f.sm : Int)) l
    unfold remP
    omega
/-- an operand that is counted already -/
theorem TInv.found {w : World} {S : Nat → Prop} {p : Tr → Bool} {M : Mc} {l : List Fr} {f : Fr} (h : TInv w S p M (l ++ [f])) (hf : f.nx < f.t.kids.length) {v : Value} (hv : M (kidAddr w f.x f.nx) = some v) :
    v = .int .i64 (cntT p f.t.kids[f.nx] : Int) ∧ TInv w S p M (l ++ [⟨f.x, f.t, f.nx + 1, f.sm + cntT p f.t.kids[f.nx]⟩]) ∧ remP w M (l ++ [⟨f.x, f.t, f.nx + 1, f.sm + cntT p f.t.kids[f.nx]⟩]) < remP w M (l ++ [f]) := by
  obtain ⟨h1, h2, h3⟩ := h
  obtain ⟨f1, f2, f3⟩ := h1 f (by simp)
  obtain ⟨n1, n2⟩ := h2.init
  obtain ⟨z, hz, hl⟩ := f1.kid f.nx hf
  have hza := hz.addr
  have hlt := szT_lt_szL f.t.kids f.nx hf
  rw [← szT_eq] at hlt
  refine ⟨?_, ⟨fun g hg => ?_, ?_, fun k u hk => ?_⟩, ?_⟩
  · obtain ⟨t, ht, hv'⟩ := h3 _ v hv
    rw [hza] at ht hv'
    have := ht.uniq hl
    subst this
    rcases hv' with hv' | ⟨-, g, hg, hgx⟩
    · exact hv'
    · exfalso
      have hg1 := (h1 g hg).1
      rw [hgx] at hg1
      have he := hg1.uniq hl
      rw [List.mem_append] at hg
      rcases hg with hg | hg
      · have := n2 g hg; rw [he] at this; omega
      · rw [List.mem_singleton] at hg; subst hg; have := congrArg szT he; omega
  · rw [List.mem_append] at hg
    rcases hg with hg | hg
    · exact h1 g (by simp [hg])
    · rw [List.mem_singleton] at hg
      subst hg
      refine ⟨f1, hf, ?_⟩
      show f.sm + _ = _
      rw [f3, cntL_take_succ p _ _ hf, Nat.add_assoc]
  · exact Nest.snoc n1 n2
  · obtain ⟨t, ht, hv'⟩ := h3 k u hk
    refine ⟨t, ht, hv'.imp id fun ⟨e1, g, hg, hgx⟩ => ⟨e1, ?_⟩⟩
    rw [List.mem_append] at hg
    rcases hg with hg | hg
    · exact ⟨g, by simp [hg], hgx⟩
    · rw [List.mem_singleton] at hg; subst hg; exact ⟨_, List.mem_append_right _ (List.mem_singleton.2 rfl), hgx⟩
  · rw [remP_snoc, remP_snoc, remF_at w M f hf]
    have : wtOf M (kidAddr w f.x f.nx) f.t.kids[f.nx] = 1 := by unfold wtOf; rw [hv]; rfl
    rw [this]
    show _ + _ + (remL w M f.x (f.nx + 1) (f.t.kids.drop (f.nx + 1)) + 1) < _
    omega
/-- an operand that is new: it goes onto the path -/
theorem TInv.push {w : World} {S : Nat → Prop} {p : Tr → Bool} {M : Mc} {l : List Fr} {f : Fr} (h : TInv w S p M (l ++ [f])) (hf : f.nx < f.t.kids.length) (hv : M (kidAddr w f.x f.nx) = none) :
    TInv w S p (pput M (kidAddr w f.x f.nx) (.int .i64 (-1))) (l ++ [f] ++ [⟨kidAddr w f.x f.nx, f.t.kids[f.nx], 0, if p f.t.kids[f.nx] then 1 else 0⟩]) ∧
      remP w (pput M (kidAddr w f.x f.nx) (.int .i64 (-1))) (l ++ [f] ++ [⟨kidAddr w f.x f.nx, f.t.kids[f.nx], 0, if p f.t.kids[f.nx] then 1 else 0⟩]) < remP w M (l ++ [f]) := by
  obtain ⟨h1, h2, h3⟩ := h
  obtain ⟨f1, f2, f3⟩ := h1 f (by simp)
  obtain ⟨n1, n2⟩ := h2.init
  obtain ⟨z, hz, hl⟩ := f1.kid f.nx hf
  have hza := hz.addr
  have hlt := szT_lt_szL f.t.kids f.nx hf
  rw [← szT_eq] at hlt
  refine ⟨⟨fun g hg => ?_, ?_, fun k u hk => ?_⟩, ?_⟩
  · rw [List.mem_append] at hg
    rcases hg with hg | hg
    · exact h1 g hg
    · rw [List.mem_singleton] at hg
      subst hg
      exact ⟨by rw [hza]; exact hl, Nat.zero_le _, by simp [cntL]⟩
  · refine Nest.snoc h2 fun g hg => ?_
    rw [List.mem_append] at hg
    rcases hg with hg | hg
    · have := n2 g hg
      show szT f.t.kids[f.nx] < _
      omega
    · rw [List.mem_singleton] at hg; subst hg; exact hlt
  · by_cases e : k = kidAddr w f.x f.nx
    · subst e
      rw [pput_same] at hk
      cases hk
      exact ⟨_, by rw [hza]; exact hl, Or.inr ⟨rfl, _, List.mem_append_right _ (List.mem_singleton.2 rfl), rfl⟩⟩
    · rw [pput_other _ _ e] at hk
      obtain ⟨t, ht, hv'⟩ := h3 k u hk
      exact ⟨t, ht, hv'.imp id fun ⟨e1, g, hg, hgx⟩ => ⟨e1, g, List.mem_append_left _ hg, hgx⟩⟩
  · rw [remP_snoc, remP_snoc, List.map_append, List.sum_append]
    have a1 := remP_put w M (kidAddr w f.x f.nx) (.int .i64 (-1)) l
    have a2 := remF_at w M f hf
    have a3 := remF_at w (pput M (kidAddr w f.x f.nx) (.int .i64 (-1))) f hf
    have a4 := remL_put w M (kidAddr w f.x f.nx) f.x (.int .i64 (-1)) (f.t.kids.drop (f.nx + 1)) (f.nx + 1)
    have b1 : wtOf M (kidAddr w f.x f.nx) f.t.kids[f.nx] = 3 * (1 + szT f.t.kids[f.nx]) := by unfold wtOf; rw [hv]; simp
    have b2 : wtOf (pput M (kidAddr w f.x f.nx) (.int .i64 (-1))) (kidAddr w f.x f.nx) f.t.kids[f.nx] = 1 := by unfold wtOf; rw [pput_same]; rfl
    have a5 : remF w (pput M (kidAddr w f.x f.nx) (.int .i64 (-1))) ⟨kidAddr w f.x f.nx, f.t.kids[f.nx], 0, if p f.t.kids[f.nx] then 1 else 0⟩ ≤ 3 * szT f.t.kids[f.nx] := by
      have := remL_le w (pput M (kidAddr w f.x f.nx) (.int .i64 (-1))) (kidAddr w f.x f.nx) (f.t.kids[f.nx]).kids 0
      rw [← szT_eq] at this
      simpa [remF] using this
    rw [b1] at a2
    rw [b2] at a3
    simp only [List.map_cons, List.map_nil, List.sum_cons, List.sum_nil, List.length_append, List.length_cons, List.length_nil]
    omega
theorem TInv.start {w : World} {S : Nat → Prop} {x : Addr} {t : Tr} (h : LiesAt w S x t) (p : Tr → Bool) : TInv w S p (fun _ => none) [⟨x, t, 0, if p t then 1 else 0⟩] := by
  refine ⟨fun f hf => ?_, by simp [Nest], fun k v hk => by simp at hk⟩
  rw [List.mem_singleton] at hf
  subst hf
  exact ⟨h, Nat.zero_le _, by simp [cntL]⟩
/-- how long the path is, how great a sum -/
theorem Nest.len : ∀ {l : List Fr} {n : Nat}, Nest l → (∀ f ∈ l, szT f.t < n) → l.length ≤ n
  | [], n, _, _ => by simp
  | f :: l, n, h, hb => by
    have h1 := hb f (by simp)
    have := Nest.len h.2 h.1
    simp only [List.length_cons]
    omega
/-- the first node -/
def HeadIs (a : Tr) (l : List Fr) : Prop := ∃ g r, l = g :: r ∧ g.t = a
theorem HeadIs.le {a : Tr} {l : List Fr} (h : HeadIs a l) (hn : Nest l) : (∀ f ∈ l, szT f.t ≤ szT a) ∧ l.length ≤ szT a + 1 := by
  obtain ⟨g, r, rfl, rfl⟩ := h
  refine ⟨fun f hf => ?_, ?_⟩
  · rw [List.mem_cons] at hf
    rcases hf with rfl | hf
    · exact Nat.le_refl _
    · exact Nat.le_of_lt (hn.1 f hf)
  · have := Nest.len hn.2 hn.1
    simp only [List.length_cons]
    omega
theorem HeadIs.snoc {a : Tr} {l : List Fr} (h : HeadIs a l) (f : Fr) : HeadIs a (l ++ [f]) := by
  obtain ⟨g, r, rfl, h⟩ := h
  exact ⟨g, r ++ [f], by simp, h⟩
theorem HeadIs.init {a : Tr} {l : List Fr} {f : Fr} (h : HeadIs a (l ++ [f])) (hl : l ≠ []) : HeadIs a l := by
  obtain ⟨g, r, e, h⟩ := h
  cases l with
  | nil => exact absurd rfl hl
  | cons d l =>
    simp only [List.cons_append, List.cons.injEq] at e
    exact ⟨d, l, rfl, by rw [e.1]; exact h⟩
theorem HeadIs.last {a : Tr} {l : List Fr} {f f' : Fr} (h : HeadIs a (l ++ [f])) (ht : f'.t = f.t) : HeadIs a (l ++ [f']) := by
  obtain ⟨g, r, e, h⟩ := h
  cases l with
  | nil =>
    simp only [List.nil_append, List.cons.injEq] at e
    exact ⟨f', [], rfl, by rw [ht, e.1]; exact h⟩
  | cons d l =>
    simp only [List.cons_append, List.cons.injEq] at e
    exact ⟨d, l ++ [f'], by simp, by rw [e.1]; exact h⟩
theorem HeadIs.one {a : Tr} {f : Fr} (h : HeadIs a ([] ++ [f])) : f.t = a := by
  obtain ⟨g, r, e, h⟩ := h
  simp only [List.nil_append, List.cons.injEq] at e
  rw [e.1]; exact h
/-- a place in a later world -/
theorem LiesAt.carry {w w' : World} {x : Addr} {t : Tr} (h : LiesAt w (Pl w) x t) (hb : Below w.heap.size w w') : LiesAt w' (Lt w'.heap.size) x t := by
  obtain ⟨bl, off, a, b, c, rfl, hp, h0, h1, h2, ht⟩ := h
  exact ⟨bl, off, a, b, c, rfl, Nat.lt_of_lt_of_le hp.1 hb.size, (hb.cell (p := ⟨bl, off, none⟩) hp.1).trans h0, (hb.cell (p := ⟨bl, off + 1, none⟩) hp.1).trans h1, (hb.cell (p := ⟨bl, off + 2, none⟩) hp.1).trans h2,
    ht.mono (fun k hk => Nat.lt_of_lt_of_le hk.1 hb.size) (fun k hk => hb.block k hk.1)⟩
/-- nodes, as cells -/
def frCells (l : List Fr) : List Value := l.flatMap fun f => [.pointer (some f.x), .int .i64 (f.nx : Int), .int .i64 (f.sm : Int)]
theorem frCells_length (l : List Fr) : (frCells l).length = l.length * 3 := by
  induction l with
  | nil => rfl
  | cons d l ih =>
    show ([_, _, _] ++ frCells l).length = _
    rw [List.length_append, ih]
    simp
    omega
theorem frCells_snoc (l : List Fr) (f : Fr) : frCells (l ++ [f]) = frCells l ++ [.pointer (some f.x), .int .i64 (f.nx : Int), .int .i64 (f.sm : Int)] := by simp [frCells]
theorem frCells_top (l : List Fr) (f : Fr) : (frCells (l ++ [f]))[l.length * 3]? = some (.pointer (some f.x)) ∧ (frCells (l ++ [f]))[l.length * 3 + 1]? = some (.int .i64 (f.nx : Int)) ∧ (frCells (l ++ [f]))[l.length * 3 + 2]? = some (.int .i64 (f.sm : Int)) := by
  rw [frCells_snoc, ← frCells_length]
  refine ⟨?_, ?_, ?_⟩
  · rw [List.getElem?_append_right (by omega)]; simp
  · rw [List.getElem?_append_right (by omega)]; simp
  · rw [List.getElem?_append_right (by omega)]; simp
theorem frCells_set (l : List Fr) (f : Fr) (n s : Nat) : ((frCells (l ++ [f])).set (l.length * 3 + 2) (.int .i64 (s : Int))).set (l.length * 3 + 1) (.int .i64 (n : Int)) = frCells (l ++ [⟨f.x, f.t, n, s⟩]) := by
  rw [frCells_snoc, frCells_snoc, ← frCells_length]
  rw [List.set_append_right _ _ (by omega), List.set_append_right _ _ (by omega)]
  simp
end Go.Proofs.YtidijbnoaeopdaaGreatDoor
