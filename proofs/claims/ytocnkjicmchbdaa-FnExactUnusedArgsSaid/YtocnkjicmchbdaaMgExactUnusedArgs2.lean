/-
  AN ADDRESS HOLDS ONE TREE; blocks of plain cells; trees that lie in such blocks; the way down nested applications.
-/
import Derived.Test.YtocnkjicmchbdaaMgExactUnusedArgs1
import Derived.Test.YtocnkjicmchbdaaProg
import Derived.Deep.RegionLaw
import Derived.Deep.RegionLawGrows
import Derived.Deep.DeepMust
import Derived.Deep.RegionHeld3
import Derived.Deep.RegionWith
import Derived.BigRegion
import Derived.Deep.QuietTactic
import Derived.BigQuiet
namespace Go.Proofs.Ytocnkjicmchbdaa
set_option linter.unusedVariables false
set_option linter.unusedSimpArgs false
open Go.RowKit

mutual
theorem TrOn.uniq {w : World} {S S' : Nat → Prop} : ∀ (t t' : Tr) (a b c : Value), TrOn w S t a b c → TrOn w S' t' a b c → t = t'
  | .node o n ks, .node o' n' ks', a, b, c, h, h' => by
    simp only [TrOn] at h h'
    obtain ⟨rfl, rfl, -, -, ad, cap, rfl, -, -, h⟩ := h
    obtain ⟨e1, e2, -, -, ad', cap', e3, -, -, h'⟩ := h'
    simp only [Value.int.injEq, true_and] at e1 e2
    simp only [Value.slice.injEq] at e3
    obtain ⟨rfl, hl, rfl⟩ := e3
    subst e1
    subst e2
    congr 1
    rcases h with rfl | ⟨bl, off, rfl, -, hr⟩
    · exact (List.eq_nil_of_length_eq_zero (by simpa using hl.symm)).symm
    · rcases h' with rfl | ⟨bl', off', e, -, hr'⟩
      · exact List.eq_nil_of_length_eq_zero (by simpa using hl)
      · simp only [Option.some.injEq, Addr.mk.injEq] at e
        obtain ⟨rfl, rfl, -⟩ := e
        exact RowOn.uniq bl off ks ks' hl hr hr'
theorem RowOn.uniq {w : World} {S S' : Nat → Prop} (bl off : Nat) : ∀ (ks ks' : List Tr), ks.length = ks'.length → RowOn w S bl off ks → RowOn w S' bl off ks' → ks = ks'
  | [], [], _, _, _ => rfl
  | [], _ :: _, hl, _, _ => by simp at hl
  | _ :: _, [], hl, _, _ => by simp at hl
  | t :: ts, t' :: ts', hl, h, h' => by
    simp only [RowOn] at h h'
    obtain ⟨⟨a, b, c, ha, hb, hc, ht⟩, hr⟩ := h
    obtain ⟨⟨a', b', c', ha', hb', hc', ht'⟩, hr'⟩ := h'
    rw [ha] at ha'
    rw [hb] at hb'
    rw [hc] at hc'
    cases ha'
    cases hb'
    cases hc'
    rw [TrOn.uniq t t' a b c ht ht', RowOn.uniq bl (off + 3) ts ts' (by simpa using hl) hr hr']
end

/-- plain blocks of cells -/
def Pl (w : World) : Nat → Prop := fun k => k < w.heap.size ∧ ∃ C T, w.heap[k]? = some (.cells C T (0, 0))
/-- trees that lie in plain blocks -/
abbrev InP (w : World) (ks : List Tr) (c : Value) : Prop := KidsOn w (Pl w) ks c
theorem Pl.next {w w' : World} (hb : Below w.heap.size w w') {k : Nat} (h : Pl w k) : Pl w' k :=
  ⟨Nat.lt_of_lt_of_le h.1 hb.size, by obtain ⟨C, T, e⟩ := h.2; exact ⟨C, T, (hb.block k h.1).trans e⟩⟩
theorem KidsOn.inP {w : World} {ks : List Tr} {c : Value} (h : InP w ks c) : In w ks c := KidsOn.mono h (fun k hk => hk.1) (fun _ _ => rfl)
theorem KidsOn.nextP {w w' : World} {ks : List Tr} {c : Value} (h : InP w ks c) (hb : Below w.heap.size w w') : InP w' ks c := KidsOn.mono h (fun k hk => hk.next hb) (fun k hk => hb.block k hk.1)
theorem TrOn.nextP {w w' : World} {t : Tr} {a b c : Value} (h : TrOn w (Pl w) t a b c) (hb : Below w.heap.size w w') : TrOn w' (Pl w') t a b c := TrOn.mono (fun k hk => hk.next hb) (fun k hk => hb.block k hk.1) _ _ _ _ h

/-- a tree that lies at an address -/
def LiesAt (w : World) (S : Nat → Prop) (a : Addr) (t : Tr) : Prop :=
  ∃ bl off x y z, a = ⟨bl, off, none⟩ ∧ S bl ∧ w.cell? ⟨bl, off, none⟩ = some x ∧ w.cell? ⟨bl, off + 1, none⟩ = some y ∧ w.cell? ⟨bl, off + 2, none⟩ = some z ∧ TrOn w S t x y z
theorem LiesAt.uniq {w : World} {S S' : Nat → Prop} {a : Addr} {t t' : Tr} (h : LiesAt w S a t) (h' : LiesAt w S' a t') : t = t' := by
  obtain ⟨bl, off, x, y, z, rfl, -, hx, hy, hz, ht⟩ := h
  obtain ⟨bl', off', x', y', z', e, -, hx', hy', hz', ht'⟩ := h'
  simp only [Addr.mk.injEq] at e
  obtain ⟨rfl, rfl, -⟩ := e
  rw [hx] at hx'
  rw [hy] at hy'
  rw [hz] at hz'
  cases hx'
  cases hy'
  cases hz'
  exact TrOn.uniq t t' x y z ht ht'
theorem LiesAt.plain {w w' : World} {a : Addr} {t : Tr} (h : LiesAt w (Pl w) a t) (hb : Below w.heap.size w w') : PlainAt w' a := by
  obtain ⟨bl, off, x, y, z, rfl, hp, -⟩ := h
  exact (hp.next hb).2
/-- element i of a row, as a node -/
theorem RowOn.liesAt {w : World} {S : Nat → Prop} {bl off i : Nat} {ks : List Tr} (hi : i < ks.length) (hS : S bl) (h : RowOn w S bl off ks) : LiesAt w S ⟨bl, off + i * 3, none⟩ ks[i] := by
  obtain ⟨a, b, c, ha, hb, hc, ht⟩ := RowOn.at ks off i hi h
  exact ⟨bl, off + i * 3, a, b, c, rfl, hS, ha, hb, hc, ht⟩

/-- the function of nested applications, and its arguments -/
def unwT : Tr → List Tr → Tr × List Tr
  | .node o n [f, x], acc => if o = 4 then unwT f (x :: acc) else (.node o n [f, x], acc)
  | t, acc => (t, acc)
termination_by t => SizeOf.sizeOf t
decreasing_by simp_wf; omega

theorem unwT_app {t f x : Tr} (ho : t.op = 4) (hk : t.kids = [f, x]) (acc : List Tr) : unwT t acc = unwT f (x :: acc) := by
  cases t with
  | node o n ks =>
    simp only [Tr.op_node, Tr.kids_node] at ho hk
    subst ho
    subst hk
    rw [unwT, if_pos rfl]
theorem unwT_stop {t : Tr} (h : ¬ (t.op = 4 ∧ t.kids.length = 2)) (acc : List Tr) : unwT t acc = (t, acc) := by
  cases t with
  | node o n ks =>
    simp only [Tr.op_node, Tr.kids_node] at h
    match ks, h with
    | [], _ => rw [unwT]; intro o' n' f' x' h'; cases h'
    | [a], _ => rw [unwT]; intro o' n' f' x' h'; cases h'
    | [a, b], h =>
      rw [unwT, if_neg]
      intro e
      exact h ⟨e, by simp⟩
    | a :: b :: c :: l, _ => rw [unwT]; intro o' n' f' x' h'; cases h'

/-- an argument with its three cells -/
abbrev Cd := Tr × Value × Value × Value
/-- the way down nested applications, from a tree and its operands' slice: where it stands, and the arguments met, in order -/
inductive Unw (w : World) (a : Tr) (c : Value) : Tr → Value → List Cd → Prop
  | here : Unw w a c a c []
  | down {t f x : Tr} {ct cf u v r : Value} {l : List Cd} {bl off cap : Nat} : Unw w a c t ct l → t.op = 4 → t.kids = [f, x] → ct = .slice (some ⟨bl, off, none⟩) 2 cap →
      w.cell? ⟨bl, off + 2, none⟩ = some cf → w.cell? ⟨bl, off + 3, none⟩ = some u → w.cell? ⟨bl, off + 4, none⟩ = some v → w.cell? ⟨bl, off + 5, none⟩ = some r → Unw w a c f cf (l ++ [(x, u, v, r)])

theorem Unw.unw {w : World} {a t : Tr} {c ct : Value} {l : List Cd} (h : Unw w a c t ct l) : unwT a [] = unwT t (l.map (·.1)).reverse := by
  induction h with
  | here => rfl
  | down h ho hk _ _ _ _ _ ih => rw [ih, unwT_app ho hk]; simp

/-- two operands, in their cells -/
theorem KidsOn.two {w : World} {S : Nat → Prop} {f x : Tr} {c : Value} (h : KidsOn w S [f, x] c) : ∃ bl off cap a b cf u v r, c = .slice (some ⟨bl, off, none⟩) 2 cap ∧ 2 ≤ cap ∧ cap ≤ maxLen ∧ S bl ∧ RowOn w S bl off [f, x] ∧
    w.cell? ⟨bl, off, none⟩ = some a ∧ w.cell? ⟨bl, off + 1, none⟩ = some b ∧ w.cell? ⟨bl, off + 2, none⟩ = some cf ∧ TrOn w S f a b cf ∧
    w.cell? ⟨bl, off + 3, none⟩ = some u ∧ w.cell? ⟨bl, off + 4, none⟩ = some v ∧ w.cell? ⟨bl, off + 5, none⟩ = some r ∧ TrOn w S x u v r := by
  obtain ⟨ad, cap, rfl, l1, l2, h⟩ := h
  rcases h with h | ⟨bl, off, rfl, hs, hr⟩
  · simp at h
  obtain ⟨a, b, cf, h0, h1, h2, h3⟩ := RowOn.at _ off 0 (by simp) hr
  obtain ⟨u, v, r, g0, g1, g2, g3⟩ := RowOn.at _ off 1 (by simp) hr
  simp only [Nat.zero_mul, Nat.add_zero, Nat.one_mul, List.getElem_cons_zero, List.getElem_cons_succ, Nat.add_assoc] at h0 h1 h2 h3 g0 g1 g2 g3
  exact ⟨bl, off, cap, a, b, cf, u, v, r, rfl, l1, l2, hs, hr, h0, h1, h2, h3, g0, g1, g2, g3⟩

theorem Unw.on {w : World} {S : Nat → Prop} {a t : Tr} {c ct : Value} {l : List Cd} (h : Unw w a c t ct l) (hc : KidsOn w S a.kids c) (ha : I64 a.op ∧ I64 a.num) :
    KidsOn w S t.kids ct ∧ I64 t.op ∧ I64 t.num ∧ (∀ d ∈ l, TrOn w S d.1 d.2.1 d.2.2.1 d.2.2.2) ∧ szT t + l.length ≤ szT a := by
  induction h with
  | here => exact ⟨hc, ha.1, ha.2, by simp, by simp⟩
  | @down t f x ct cf u v r l bl off cap h ho hk hct hcf hu hv hr ih =>
    obtain ⟨i1, i2, i3, i4, i5⟩ := ih
    rw [hk] at i1
    obtain ⟨bl', off', cap', p, q, cf', u', v', r', e, -, -, -, -, h0, h1, h2, h3, g0, g1, g2, g3⟩ := i1.two
    rw [hct] at e
    simp only [Value.slice.injEq, Option.some.injEq, Addr.mk.injEq] at e
    obtain ⟨⟨rfl, rfl, -⟩, -, rfl⟩ := e
    rw [hcf] at h2
    rw [hu] at g0
    rw [hv] at g1
    rw [hr] at g2
    cases h2
    cases g0
    cases g1
    cases g2
    have h4 := trOn_iff.1 h3
    refine ⟨h4.2.2.2.2, h4.2.2.1, h4.2.2.2.1, fun d hd => ?_, ?_⟩
    · simp only [List.mem_append, List.mem_singleton] at hd
      rcases hd with hd | rfl
      · exact i4 d hd
      · exact g3
    · have e1 : szT t = szL [f, x] := by rw [szT_eq, hk]
      simp only [szL, List.length_append, List.length_cons, List.length_nil] at e1 ⊢
      omega
end Go.Proofs.Ytocnkjicmchbdaa
/-
  WHICH VARIABLES AN EXPRESSION NEEDS, as plain functions on trees: evaluation over two points.
-/
namespace Go.Proofs.Ytocnkjicmchbdaa
set_option linter.unusedVariables false
set_option linter.unusedSimpArgs false
open Go.RowKit

/-- does a call of function n need it, whose arguments do as bs says? -/
def callB (need : List (List Bool)) (n : Int) (bs : List Bool) : Bool :=
  decide (0 ≤ n) && match need[n.toNat]? with
    | none => false
    | some row => decide (row.length ≤ bs.length) && (row.zip bs).any fun p => p.1 && p.2
/-- .. and a tree, to which so many arguments are applied -/
def needG (need : List (List Bool)) (v : Int) : Tr → List Bool → Bool
  | .node o n [], acc => if o = 1 then decide (n = v) else if o = 3 then callB need n acc else false
  | .node o n [a], acc => if o = 6 ∨ o = 7 then needG need v a [] else false
  | .node o n [a, b], acc => if o = 4 then needG need v a (needG need v b [] :: acc) else if o = 8 ∨ o = 9 then needG need v a [] || needG need v b [] else false
  | .node o n [a, b, c], acc => if o = 10 then needG need v a [] || (needG need v b [] && needG need v c []) else false
  | _, _ => false
termination_by t => SizeOf.sizeOf t
decreasing_by all_goals (simp_wf; omega)
/-- does a tree need a variable? -/
def needB (need : List (List Bool)) (v : Int) (t : Tr) : Bool := needG need v t []

section
variable {need : List (List Bool)} {v : Int}
theorem needG_leaf {t : Tr} (hk : t.kids = []) (acc : List Bool) : needG need v t acc = if t.op = 1 then decide (t.num = v) else if t.op = 3 then callB need t.num acc else false := by
  cases t with
  | node o n ks => simp only [Tr.kids_node] at hk; subst hk; rw [needG]; rfl
theorem needG_one {t a : Tr} (hk : t.kids = [a]) (acc : List Bool) : needG need v t acc = if t.op = 6 ∨ t.op = 7 then needB need v a else false := by
  cases t with
  | node o n ks => simp only [Tr.kids_node] at hk; subst hk; rw [needG]; rfl
theorem needG_two {t a b : Tr} (hk : t.kids = [a, b]) (acc : List Bool) : needG need v t acc = if t.op = 4 then needG need v a (needB need v b :: acc) else if t.op = 8 ∨ t.op = 9 then needB need v a || needB need v b else false := by
  cases t with
  | node o n ks => simp only [Tr.kids_node] at hk; subst hk; rw [needG]; rfl
theorem needG_three {t a b c : Tr} (hk : t.kids = [a, b, c]) (acc : List Bool) : needG need v t acc = if t.op = 10 then needB need v a || (needB need v b && needB need v c) else false := by
  cases t with
  | node o n ks => simp only [Tr.kids_node] at hk; subst hk; rw [needG]; rfl
theorem needG_more {t a b c d : Tr} {l : List Tr} (hk : t.kids = a :: b :: c :: d :: l) (acc : List Bool) : needG need v t acc = false := by
  cases t with
  | node o n ks =>
    simp only [Tr.kids_node] at hk; subst hk
    rw [needG]
    all_goals (intros; rename_i h; cases h)

theorem needG_unw : ∀ (n : Nat) (t : Tr) (acc : List Tr), szT t ≤ n → needG need v t (acc.map (needB need v)) = needG need v (unwT t acc).1 ((unwT t acc).2.map (needB need v)) := by
  intro n
  induction n with
  | zero =>
    intro t acc hz
    rw [unwT_stop]
    rintro ⟨-, hl⟩
    rw [szT_eq, szL_sum] at hz
    omega
  | succ n ih =>
    intro t acc hz
    by_cases h : t.op = 4 ∧ t.kids.length = 2
    · obtain ⟨f, x, hk⟩ : ∃ f x, t.kids = [f, x] := by
        match hks : t.kids, h.2 with
        | [f, x], _ => exact ⟨f, x, rfl⟩
      rw [unwT_app h.1 hk, needG_two hk, if_pos h.1]
      refine ih f (x :: acc) ?_
      rw [szT_eq, hk] at hz
      simp only [szL] at hz
      omega
    · rw [unwT_stop h]
theorem needB_unw (t : Tr) : needB need v t = needG need v (unwT t []).1 ((unwT t []).2.map (needB need v)) := needG_unw _ t [] (Nat.le_refl _)
/-- arguments matter to functions only -/
theorem needG_acc {t : Tr} (h3 : t.op ≠ 3) (h4 : ¬ (t.op = 4 ∧ t.kids.length = 2)) (acc : List Bool) : needG need v t acc = needB need v t := by
  unfold needB
  match hk : t.kids with
  | [] => rw [needG_leaf hk, needG_leaf hk, if_neg h3, if_neg h3]
  | [a] => rw [needG_one hk, needG_one hk]
  | [a, b] =>
    have h4' : t.op ≠ 4 := fun e => h4 ⟨e, by rw [hk]; rfl⟩
    rw [needG_two hk, needG_two hk, if_neg h4', if_neg h4']
  | [a, b, c] => rw [needG_three hk, needG_three hk]
  | a :: b :: c :: d :: l => rw [needG_more hk, needG_more hk]
end

/-! ### The call -/
/-- what the first arguments say -/
def anyTo (row bs : List Bool) (k : Nat) : Bool := ((row.take k).zip (bs.take k)).any fun p => p.1 && p.2
theorem anyTo_zero (row bs : List Bool) : anyTo row bs 0 = false := rfl
theorem anyTo_succ (row bs : List Bool) (k : Nat) (h : k < row.length) (h' : k < bs.length) : anyTo row bs (k + 1) = (anyTo row bs k || (row[k] && bs[k])) := by
  unfold anyTo
  rw [List.take_succ_eq_append_getElem h, List.take_succ_eq_append_getElem h', List.zip_append (by simp; omega), List.any_append]
  simp
theorem anyTo_all (row bs : List Bool) (h : row.length ≤ bs.length) : anyTo row bs row.length = (row.zip bs).any fun p => p.1 && p.2 := by
  unfold anyTo
  rw [List.take_length]
  congr 1
  conv => rhs; rw [← List.take_append_drop row.length bs]
  conv => rhs; lhs; rw [← List.append_nil row]
  rw [List.zip_append (by simp; omega)]
  simp
theorem anyTo_true (row bs : List Bool) (k : Nat) (h : k < row.length) (h' : k < bs.length) (hl : row.length ≤ bs.length) (ha : row[k] = true) (hb : bs[k] = true) : ((row.zip bs).any fun p => p.1 && p.2) = true := by
  rw [List.any_eq_true]
  refine ⟨(row[k], bs[k]), ?_, by simp [ha, hb]⟩
  have : k < (row.zip bs).length := by simp; omega
  have e : (row.zip bs)[k] = (row[k], bs[k]) := by simp
  rw [← e]
  exact List.getElem_mem this
theorem callB_none {need : List (List Bool)} {k : Nat} {bs : List Bool} (h : need.length ≤ k) : callB need (k : Int) bs = false := by
  unfold callB
  rw [Int.toNat_natCast, List.getElem?_eq_none h]
  simp
theorem callB_few {need : List (List Bool)} {k : Nat} {bs : List Bool} (h : k < need.length) (hl : bs.length < need[k].length) : callB need (k : Int) bs = false := by
  unfold callB
  rw [Int.toNat_natCast, List.getElem?_eq_getElem h]
  simp only [decide_eq_false (show ¬ need[k].length ≤ bs.length by omega), Bool.false_and, Bool.and_false]
theorem callB_some {need : List (List Bool)} {k : Nat} {bs : List Bool} (h : k < need.length) (hl : need[k].length ≤ bs.length) : callB need (k : Int) bs = ((need[k].zip bs).any fun p => p.1 && p.2) := by
  unfold callB
  rw [Int.toNat_natCast, List.getElem?_eq_getElem h]
  simp only [decide_eq_true hl, Bool.true_and, decide_eq_true (show (0 : Int) ≤ (k : Int) by omega)]
end Go.Proofs.Ytocnkjicmchbdaa
/-
  EXPRESSIONS OF A VALID SHAPE, with any of the variables and functions that there can be: their parts, and the way down nested applications.
-/
namespace Go.Proofs.Ytocnkjicmchbdaa
set_option linter.unusedVariables false
set_option linter.unusedSimpArgs false
open Go.RowKit

/-- of a valid shape -/
def ShE (t : Tr) : Prop := ∃ d, shB 4 6 d t = true
theorem ShE.of_sh {t : Tr} {vars defs : Int} {d : Nat} (h : shB vars defs d t = true) (hv : vars ≤ 4) (hd : defs ≤ 6) : ShE t := ⟨d, shB_mono hv hd d t h⟩
theorem ShE.of_valid {t : Tr} {vars defs : Int} (h : validB t vars defs = true) : ShE t := by
  unfold validB at h
  simp only [Bool.and_eq_true, decide_eq_true_eq] at h
  exact ShE.of_sh h.2.1 h.1.2.1 h.1.2.2.2
theorem ShE.kid {t : Tr} (h : ShE t) {k : Tr} (hk : k ∈ t.kids) : ShE k := by
  obtain ⟨d, h⟩ := h
  cases d with
  | zero => simp [shB] at h
  | succ d =>
    unfold shB at h
    simp only [Bool.and_eq_true, List.all_eq_true] at h
    exact ⟨d, h.2 k hk⟩
theorem ShE.ar {t : Tr} (h : ShE t) : (t.kids.length : Int) = arity t.op := by
  obtain ⟨d, h⟩ := h
  cases d with
  | zero => simp [shB] at h
  | succ d =>
    unfold shB at h
    simp only [Bool.and_eq_true, decide_eq_true_eq] at h
    exact h.1.1
theorem ShE.num {t : Tr} (h : ShE t) (ho : t.op = 3) : 0 ≤ t.num ∧ t.num < 6 := by
  obtain ⟨d, h⟩ := h
  cases d with
  | zero => simp [shB] at h
  | succ d =>
    unfold shB at h
    simp only [Bool.and_eq_true] at h
    have h2 := h.1.2
    unfold ownB at h2
    rw [if_neg (by omega), if_neg (by omega), if_pos ho] at h2
    simpa using h2
/-- which kinds there are, and how many operands -/
theorem ShE.cases {t : Tr} (h : ShE t) : ((t.op = 1 ∨ t.op = 2 ∨ t.op = 3) ∧ t.kids = []) ∨ ((t.op = 6 ∨ t.op = 7) ∧ ∃ a, t.kids = [a]) ∨ ((t.op = 4 ∨ t.op = 5 ∨ t.op = 8 ∨ t.op = 9) ∧ ∃ a b, t.kids = [a, b]) ∨ (t.op = 10 ∧ ∃ a b c, t.kids = [a, b, c]) := by
  have ha := h.ar
  unfold arity at ha
  split at ha
  · rename_i ho
    exact Or.inl ⟨ho, List.eq_nil_of_length_eq_zero (by omega)⟩
  split at ha
  · rename_i ho
    refine Or.inr (Or.inl ⟨ho, ?_⟩)
    match hk : t.kids, ha with
    | [a], _ => exact ⟨a, rfl⟩
  split at ha
  · rename_i ho
    refine Or.inr (Or.inr (Or.inl ⟨ho, ?_⟩))
    match hk : t.kids, ha with
    | [a, b], _ => exact ⟨a, b, rfl⟩
  split at ha
  · rename_i ho
    refine Or.inr (Or.inr (Or.inr ⟨ho, ?_⟩))
    match hk : t.kids, ha with
    | [a, b, c], _ => exact ⟨a, b, c, rfl⟩
  · omega
theorem Unw.shE {w : World} {a t : Tr} {c ct : Value} {l : List Cd} (h : Unw w a c t ct l) (ha : ShE a) : ShE t ∧ ∀ d ∈ l, ShE d.1 := by
  induction h with
  | here => exact ⟨ha, by simp⟩
  | down h ho hk _ _ _ _ _ ih =>
    refine ⟨ih.1.kid (by rw [hk]; simp), fun d hd => ?_⟩
    simp only [List.mem_append, List.mem_singleton] at hd
    rcases hd with hd | rfl
    · exact ih.2 d hd
    · exact ih.1.kid (by rw [hk]; simp)
/-- below nested applications everything is smaller -/
theorem Unw.small {w : World} {a t : Tr} {c ct : Value} {l : List Cd} (h : Unw w a c t ct l) : (t = a ∧ l = []) ∨ (szT t < szT a ∧ ∀ d ∈ l, szT d.1 < szT a) := by
  induction h with
  | here => exact Or.inl ⟨rfl, rfl⟩
  | @down t f x ct cf u v r l bl off cap h ho hk _ _ _ _ _ ih =>
    have e1 : szT t = szL [f, x] := by rw [szT_eq, hk]
    simp only [szL] at e1
    refine Or.inr ⟨?_, fun d hd => ?_⟩
    · rcases ih with ⟨rfl, -⟩ | ⟨h1, -⟩ <;> omega
    · simp only [List.mem_append, List.mem_singleton] at hd
      rcases hd with hd | rfl
      · rcases ih with ⟨-, rfl⟩ | ⟨-, h2⟩
        · simp at hd
        · exact h2 d hd
      · show szT x < szT a
        rcases ih with ⟨rfl, -⟩ | ⟨h1, -⟩ <;> omega
end Go.Proofs.Ytocnkjicmchbdaa
/-
  ROWS THAT A CALL OWNS: append, with where the new row lies.
-/
namespace Go.Proofs.Ytocnkjicmchbdaa
set_option linter.unusedVariables false
set_option linter.unusedSimpArgs false
open Go.RowKit

theorem cell_of_blk {w : World} {b : Nat} {C : Array Value} {T : TypeId} (h : w.heap[b]? = some (.cells C T)) (i : Nat) (v : Value) (hv : C[i]? = some v) : w.cell? ⟨b, i, none⟩ = some v := by
  simp only [World.cell?, h]; exact hv
theorem frz_of_blk {w : World} {b : Nat} {C : Array Value} {T : TypeId} (h : w.heap[b]? = some (.cells C T)) (i : Nat) : w.frozen? ⟨b, i, none⟩ = false := by
  simp [World.frozen?, h]
theorem own_keep {w w' : World} {base n size : Nat} {e : TypeId} {v : Value} {xs : List Value} (h : w.ownsRow base e size v n xs) (hk : ∀ k, base ≤ k → k < w.heap.size → w'.heap[k]? = w.heap[k]?) : w'.ownsRow base e size v n xs := by
  refine ⟨h.1, ?_⟩
  rcases h.2 with h | ⟨g, cap, cur, rfl, hg, hh, r⟩
  · exact Or.inl h
  · exact Or.inr ⟨g, cap, cur, rfl, hg, (hk g hg (Array.getElem?_eq_some_iff.1 hh).1).trans hh, r⟩
theorem own_block {w : World} {base n size : Nat} {e : TypeId} {v : Value} {xs : List Value} (h : w.ownsRow base e size v n xs) {k : Nat} (hk : some k = v.ownBlock) : base ≤ k := by
  rcases h.2 with ⟨rfl, -⟩ | ⟨g, cap, cur, rfl, hg, -⟩
  · simp [Value.ownBlock] at hk
  · simp only [Value.ownBlock, Option.some.injEq] at hk
    omega
/-- a parameter's box behind a call -/
theorem box_after {w w1 : World} {a b c : Value} {T : TypeId} (hb : Below (w.alloc (.cells #[a, b, c] T)).heap.size (w.alloc (.cells #[a, b, c] T)) w1) :
    w1.cell? ⟨w.heap.size, 0, none⟩ = some a ∧ w1.cell? ⟨w.heap.size, 1, none⟩ = some b ∧ w1.cell? ⟨w.heap.size, 2, none⟩ = some c ∧ w.heap.size < w1.heap.size ∧ Below w.heap.size w w1 := by
  have hz : w.heap.size < (w.alloc (.cells #[a, b, c] T)).heap.size := by rw [Deep.nblk_alloc]; omega
  refine ⟨(hb.cell (p := ⟨w.heap.size, 0, none⟩) hz).trans (box_cell w #[a, b, c] T 0 _ rfl), (hb.cell (p := ⟨w.heap.size, 1, none⟩) hz).trans (box_cell w #[a, b, c] T 1 _ rfl), (hb.cell (p := ⟨w.heap.size, 2, none⟩) hz).trans (box_cell w #[a, b, c] T 2 _ rfl), Nat.lt_of_lt_of_le hz hb.size, (box_below _ _).trans (hb.mono (Nat.le_of_lt hz))⟩
/-- append to an owned row: it stays in its block, or lies in a new one -/
theorem run_append_where {P : Program} (w : World) (base : Nat) (t ty e : TypeId) (i : TypeInfo) (z : Value) (size bytes : Nat) (ht : P.underlying t = some (.slice e)) (hi : P.info? e = some i) (hz : i.zero = some z)
    (hsize : i.size = size) (hby : i.bytes = bytes) (hzs : z.cells.size = size) (hsz : 0 < size)
    (v : Value) (n : Nat) (xs : List Value) (hown : w.ownsRow base e size v n xs)
    (a : Addr) (m c : Nat) (news : List Value) (hl : news.length = m * size) (hnews : ∀ j u, news[j]? = some u → w.cell? (a.add j) = some u) (h1 : ∀ u ∈ news, u.oneCell' = true)
    (h63 : n + m ≤ maxLen) (hbytes : (n + m) * bytes ≤ 140737488355328) (hbase : base ≤ w.heap.size) (hm : 0 < m) :
    ∃ v' w', (Builtin.append_ #[t, t] ty #[v, .slice (some a) m c]).run P w = .ok v' w' ∧ w'.ownsRow base e size v' (n + m) (xs ++ news) ∧ w.grownBy w' v.ownBlock ∧
      (v'.ownBlock = v.ownBlock ∨ ∃ g, v'.ownBlock = some g ∧ w.heap.size ≤ g) := by
  obtain ⟨v', w', hrun, hown', hgr, -⟩ := run_append_own (P := P) w base t ty e i z size bytes ht hi hz hsize hby hzs hsz v n xs hown a m c news hl hnews h1 h63 hbytes hbase
  refine ⟨v', w', hrun, hown', hgr, ?_⟩
  have hform := hown
  rcases hform.2 with ⟨rfl, rfl⟩ | ⟨g, cap, cur, rfl, hb, hh, hn, hc, hs, htk⟩
  · right
    obtain rfl : xs = [] := List.eq_nil_of_length_eq_zero (by simpa using hform.1)
    obtain ⟨v2, w2, hrun2, hown2, -, -⟩ := run_append_own (P := P) w w.heap.size t ty e i z size bytes ht hi hz hsize hby hzs hsz (.slice none 0 0) 0 [] (World.ownsRow_nil w _ e size) a m c news hl hnews h1 h63 hbytes (Nat.le_refl _)
    rw [hrun] at hrun2
    cases hrun2
    rcases hown2.2 with ⟨rfl, h0⟩ | ⟨g, cap, cur, rfl, hb, _⟩
    · omega
    · exact ⟨g, rfl, hb⟩
  · by_cases hroom : n + m ≤ cap
    · left
      have hcell : ∀ j, j < news.length → w.cell? ⟨g, 0 + n * i.size + j, none⟩ = cur[n * size + j]? := fun j hj => by
        rw [Nat.zero_add, hsize]; simp [World.cell?, hh]
      have hin : ∀ j, j < news.length → n * size + j < cur.size := fun j hj => by
        have h2 : (n + m) * size ≤ cap * size := Nat.mul_le_mul_right _ hroom
        rw [Nat.add_mul] at h2
        omega
      have hrun2 := run_append_room_cells (P := P) w t ty e i ht hi g 0 n cap a m c news (by rw [hsize]; exact hl) hnews h1 hroom
        (fun j hj => by rw [hcell j hj, Array.getElem?_eq_getElem (hin j hj)]; rfl) (fun j hj => by simp [World.frozen?, hh])
      rw [hrun] at hrun2
      cases hrun2
      rfl
    · right
      obtain ⟨v2, w2, hrun2, hown2, -⟩ := run_append_arg_grows (P := P) w t ty e i z size bytes ht hi hz hsize hby hzs hsz ⟨g, 0, none⟩ n cap xs hform.1
        (fun j u hu => hform.cells rfl j u hu) a m c news hl hnews (by omega) h63 hbytes
      rw [hrun] at hrun2
      cases hrun2
      rcases hown2.2 with ⟨rfl, h0⟩ | ⟨g2, cap2, cur2, rfl, hb2, _⟩
      · omega
      · exact ⟨g2, rfl, hb2⟩

/-- .. as one step of a region that draws its order -/
theorem step_append_where {P : Program} {ops : Array Oper} {o : Oper} {a : Act} {w : World} {K : Act → World → Prop} {Q : Exit → Act → World → Prop} {E : Prop}
    (hg : o.guard = none) (s x : Operand) (t : TypeId) (hop : o.op = Op.call { callee := Callee.builtin Builtin.append, args := #[s, x], argTypes := #[t, t] })
    (base : Nat) (e : TypeId) (i : TypeInfo) (z : Value) (size bytes : Nat) (ht : P.underlying t = some (.slice e)) (hi : P.info? e = some i) (hz : i.zero = some z)
    (hsize : i.size = size) (hby : i.bytes = bytes) (hzs : z.cells.size = size) (hsz : 0 < size)
    (v : Value) (n : Nat) (xs : List Value) (hs : a.eval s = v) (hown : w.ownsRow base e size v n xs)
    (ad : Addr) (m c : Nat) (news : List Value) (hx : a.eval x = .slice (some ad) m c) (hl : news.length = m * size) (hnews : ∀ j u, news[j]? = some u → w.cell? (ad.add j) = some u) (h1 : ∀ u ∈ news, u.oneCell' = true)
    (h63 : n + m ≤ maxLen) (hbytes : (n + m) * bytes ≤ 140737488355328) (hbase : base ≤ w.heap.size) (hm : 0 < m)
    (hK : ∀ v' w', w'.ownsRow base e size v' (n + m) (xs ++ news) → w.grownBy w' v.ownBlock → (v'.ownBlock = v.ownBlock ∨ ∃ g, v'.ownBlock = some g ∧ w.heap.size ≤ g) → K (a.put o.dst v') w') :
    if Region.wanted o (yielded ops a.tmps) = true then Oper.wp P o a w K Q else E := by
  have hw : Region.wanted o (yielded ops a.tmps) = true := by simp [Region.wanted, hg]
  rw [if_pos hw]
  obtain ⟨v', w', hrun, r1, r2, r3⟩ := run_append_where (P := P) w base t o.type e i z size bytes ht hi hz hsize hby hzs hsz v n xs hown ad m c news hl hnews h1 h63 hbytes hbase hm
  unfold Oper.wp
  simp [execOp, hop, resolve, invoke, builtin, hs, hx, hrun, Result.andThen]
  exact hK v' w' r1 r2 r3

end Go.Proofs.Ytocnkjicmchbdaa
/-
  SMALL FACTS ON ROWS OF EXPRESSIONS' CELLS: the element type's row of the table; a new block's cells.
-/
namespace Go.Proofs.Ytocnkjicmchbdaa
set_option linter.unusedVariables false
set_option linter.unusedSimpArgs false
open Go.RowKit

theorem news3 (w : World) (a b c : Value) (j : Nat) (u : Value) (h : [a, b, c][j]? = some u) : (w.alloc (.cells #[a, b, c] 31)).cell? ((⟨w.heap.size, 0, none⟩ : Addr).add j) = some u := by
  rw [WideShapes.add_plain, Nat.zero_add]
  exact box_cell w #[a, b, c] _ j u (by simpa using h)
theorem infoE3 : ∃ i z, Try.prog.info? 31 = some i ∧ i.zero = some z ∧ i.size = 3 ∧ i.bytes = 40 ∧ z.cells.size = 3 := by
  obtain ⟨i, hi, hzz⟩ := Option.map_eq_some_iff.1 infoE
  simp only [Prod.mk.injEq] at hzz
  obtain ⟨hz, hs, hb⟩ := hzz
  exact ⟨i, _, hi, hz, hs, hb, rfl⟩
end Go.Proofs.Ytocnkjicmchbdaa
/-
  slices.Reverse AT A ROW OF EXPRESSIONS: the elements' cells, turned around; nothing else is changed.
-/
namespace Go.Proofs.Ytocnkjicmchbdaa
set_option linter.unusedVariables false
set_option linter.unusedSimpArgs false
open Go.RowKit

/-- a row behind k exchanges from both ends -/
def revF (n k : Nat) (f : Nat → Value) (i : Nat) : Value := if i / 3 < n ∧ (i / 3 < k ∨ n ≤ i / 3 + k) then f ((n - 1 - i / 3) * 3 + i % 3) else f i

theorem revF_at (n k : Nat) (f : Nat → Value) (j r : Nat) (hr : r < 3) : revF n k f (j * 3 + r) = if j < n ∧ (j < k ∨ n ≤ j + k) then f ((n - 1 - j) * 3 + r) else f (j * 3 + r) := by
  unfold revF
  rw [show (j * 3 + r) / 3 = j by omega, show (j * 3 + r) % 3 = r by omega]
theorem grown_set {w w1 : World} {g : Nat} (h : w.grownBy w1 (some g)) (i : Nat) (u : Value) : w.grownBy (w1.setCell ⟨g, i, none⟩ u) (some g) :=
  ⟨h.os, h.tape, h.output, by rw [size_setCell]; exact h.size, fun k hk hne => (Below.heap_setCell _ _ _ _ (fun e => hne (by rw [e]))).trans (h.block k hk hne)⟩
theorem grown_drew_r {w w1 : World} {r : Option Nat} (h : w.grownBy w1 r) : w.grownBy w1.drew r := ⟨h.os, h.tape, h.output, h.size, h.block⟩

set_option maxRecDepth 100000 in
set_option maxHeartbeats 800000 in
theorem rev_calls (g n cap : Nat) (f : Nat → Value) (w : World) (hr : w.rowIs g 31 (cap * 3) f) (hn : n ≤ cap) (hc : cap ≤ maxLen)
    (hf : ∀ j, j < n → ∃ p q ad l c, f (j * 3) = .int .i64 p ∧ f (j * 3 + 1) = .int .i64 q ∧ f (j * 3 + 2) = .slice ad l c) :
    Calls Try.prog 118 #[.slice (some ⟨g, 0, none⟩) n cap] w fun e w' => e = .returned (.tuple #[]) ∧ (∃ f', w'.rowIs g 31 (cap * 3) f' ∧ ∀ j r, j < n → r < 3 → f' (j * 3 + r) = f ((n - 1 - j) * 3 + r)) ∧ w.grownBy w' (some g) := by
  unfold maxLen at hc
  have HR : Hid (w.rowIs g 31 (cap * 3) f) := hr
  clear hr
  go_enter Try.func118, Try.ntmps118
  go_wp2_with fail
  go_loopw [2, 3] (fun i j wr => ∃ k : Nat, 2 * k ≤ n ∧ i = .int .i64 k ∧ j = .int .i64 ((n : Int) - 1 - k) ∧ wr.rowIs g 31 (cap * 3) (revF n k f) ∧ w.grownBy wr (some g)) (fun i _ _ => n - (intOf i).toNat)
  case atStart => exact ⟨0, by omega, rfl, by simp, HR.out.congr fun i hi => by unfold revF; rw [if_neg (by omega)], rfl, rfl, rfl, Nat.le_refl _, fun _ _ _ => rfl⟩
  case round =>
    obtain ⟨k, hk, rfl, rfl, hrow, hg⟩ := hrel
    by_cases hlt : (k : Int) < (n : Int) - 1 - k
    · obtain ⟨m, hm⟩ : ∃ m : Nat, (n : Int) - 1 - k = m := ⟨n - 1 - k, by omega⟩
      rw [hm] at hlt ⊢
      have hkm : k < m := by omega
      have hmn : m < n := by omega
      have ek : ∀ r, r < 3 → revF n k f (k * 3 + r) = f (k * 3 + r) := fun r hr => by unfold revF; rw [if_neg (by intro h; omega)]
      have em : ∀ r, r < 3 → revF n k f (m * 3 + r) = f (m * 3 + r) := fun r hr => by unfold revF; rw [if_neg (by intro h; omega)]
      have a0 := hrow.cell (i := k * 3) (by omega)
      have a1 := hrow.cell (i := k * 3 + 1) (by omega)
      have a2 := hrow.cell (i := k * 3 + 2) (by omega)
      have b0 := hrow.cell (i := m * 3) (by omega)
      have b1 := hrow.cell (i := m * 3 + 1) (by omega)
      have b2 := hrow.cell (i := m * 3 + 2) (by omega)
      have fz := hrow.frozen
      have HRow : Hid (wr.rowIs g 31 (cap * 3) (revF n k f)) := hrow
      have HG : Hid (w.grownBy wr (some g)) := hg
      have HM : Hid ((n : Int) - 1 - k = m) := hm
      clear hrow hg hm
      obtain ⟨p, q, ad, l, c, e0, e1, e2⟩ := hf k (by omega)
      obtain ⟨p', q', ad', l', c', e0', e1', e2'⟩ := hf m (by omega)
      rw [show k * 3 = k * 3 + 0 from rfl, ek 0 (by omega), Nat.add_zero, e0] at a0
      rw [ek 1 (by omega), e1] at a1
      rw [ek 2 (by omega), e2] at a2
      rw [show m * 3 = m * 3 + 0 from rfl, em 0 (by omega), Nat.add_zero, e0'] at b0
      rw [em 1 (by omega), e1'] at b1
      rw [em 2 (by omega), e2'] at b2
      have HE : Hid (f (k * 3) = .int .i64 p ∧ f (k * 3 + 1) = .int .i64 q ∧ f (k * 3 + 2) = .slice ad l c ∧ f (m * 3) = .int .i64 p' ∧ f (m * 3 + 1) = .int .i64 q' ∧ f (m * 3 + 2) = .slice ad' l' c') := ⟨e0, e1, e2, e0', e1', e2'⟩
      clear ek em e0 e1 e2 e0' e1' e2' hf
      go_wp2_with fail
      go_big_region
      have HR' : Hid ((((((((wr.setCell ⟨g, k * 3, none⟩ (.int .i64 p')).setCell ⟨g, k * 3 + 1, none⟩ (.int .i64 q')).setCell ⟨g, k * 3 + 2, none⟩ (.slice ad' l' c')).setCell ⟨g, m * 3, none⟩ (.int .i64 p)).setCell ⟨g, m * 3 + 1, none⟩ (.int .i64 q)).setCell ⟨g, m * 3 + 2, none⟩ (.slice ad l c)).drew).rowIs g 31 (cap * 3) (revF n (k + 1) f)) := by
        refine ((((((HRow.out.set (k * 3) _).set (k * 3 + 1) _).set (k * 3 + 2) _).set (m * 3) _).set (m * 3 + 1) _).set (m * 3 + 2) _).drew.congr fun i hi => ?_
        obtain ⟨h0, h1, h2, h3, h4, h5⟩ := HE.out
        have hm := HM.out
        obtain ⟨j, r, hr, rfl⟩ : ∃ j r, r < 3 ∧ i = j * 3 + r := ⟨i / 3, i % 3, by omega, by omega⟩
        have e1 : n - 1 - k = m := by omega
        have e2 : n - 1 - m = k := by omega
        simp only [revF_at n _ f j r hr]
        rcases (by omega : r = 0 ∨ r = 1 ∨ r = 2) with rfl | rfl | rfl
        · by_cases hjk : j = k
          · subst hjk
            rw [if_neg (by omega), if_neg (by omega), if_neg (by omega), if_neg (by omega), if_neg (by omega), if_pos (by omega), if_pos (by omega), e1]; exact h3.symm
          by_cases hjm : j = m
          · subst hjm
            rw [if_neg (by omega), if_neg (by omega), if_pos (by omega), if_pos (by omega), e2]; exact h0.symm
          rw [if_neg (by omega), if_neg (by omega), if_neg (by omega), if_neg (by omega), if_neg (by omega), if_neg (by omega)]
          by_cases hc : j < n ∧ (j < k ∨ n ≤ j + k)
          · rw [if_pos hc, if_pos (by omega)]
          · rw [if_neg hc, if_neg (by omega)]
        · by_cases hjk : j = k
          · subst hjk
            rw [if_neg (by omega), if_neg (by omega), if_neg (by omega), if_neg (by omega), if_pos (by omega), if_pos (by omega), e1]; exact h4.symm
          by_cases hjm : j = m
          · subst hjm
            rw [if_neg (by omega), if_pos (by omega), if_pos (by omega), e2]; exact h1.symm
          rw [if_neg (by omega), if_neg (by omega), if_neg (by omega), if_neg (by omega), if_neg (by omega), if_neg (by omega)]
          by_cases hc : j < n ∧ (j < k ∨ n ≤ j + k)
          · rw [if_pos hc, if_pos (by omega)]
          · rw [if_neg hc, if_neg (by omega)]
        · by_cases hjk : j = k
          · subst hjk
            rw [if_neg (by omega), if_neg (by omega), if_neg (by omega), if_pos (by omega), if_pos (by omega), e1]; exact h5.symm
          by_cases hjm : j = m
          · subst hjm
            rw [if_pos (by omega), if_pos (by omega), e2]; exact h2.symm
          rw [if_neg (by omega), if_neg (by omega), if_neg (by omega), if_neg (by omega), if_neg (by omega), if_neg (by omega)]
          by_cases hc : j < n ∧ (j < k ∨ n ≤ j + k)
          · rw [if_pos hc, if_pos (by omega)]
          · rw [if_neg hc, if_neg (by omega)]
      have HG' : Hid (w.grownBy (((((((wr.setCell ⟨g, k * 3, none⟩ (.int .i64 p')).setCell ⟨g, k * 3 + 1, none⟩ (.int .i64 q')).setCell ⟨g, k * 3 + 2, none⟩ (.slice ad' l' c')).setCell ⟨g, m * 3, none⟩ (.int .i64 p)).setCell ⟨g, m * 3 + 1, none⟩ (.int .i64 q)).setCell ⟨g, m * 3 + 2, none⟩ (.slice ad l c)).drew) (some g)) := by
        exact grown_drew_r (grown_set (grown_set (grown_set (grown_set (grown_set (grown_set HG.out _ _) _ _) _ _) _ _) _ _) _ _)
      clear a0 a1 a2 b0 b1 b2 fz
      generalize ((((((wr.setCell ⟨g, k * 3, none⟩ (.int .i64 p')).setCell ⟨g, k * 3 + 1, none⟩ (.int .i64 q')).setCell ⟨g, k * 3 + 2, none⟩ (.slice ad' l' c')).setCell ⟨g, m * 3, none⟩ (.int .i64 p)).setCell ⟨g, m * 3 + 1, none⟩ (.int .i64 q)).setCell ⟨g, m * 3 + 2, none⟩ (.slice ad l c)).drew = wz at *
      go_wp2_with fail
      have hm := HM.out
      unfold Hid at hm
      refine ⟨⟨k + 1, by omega, by simp, ?_, HR'.out, HG'.out⟩, by simp [intOf]; omega⟩
      exact congrArg (Value.int .i64) (by push_cast; omega)
    · have HRow : Hid (wr.rowIs g 31 (cap * 3) (revF n k f)) := hrow
      have HG : Hid (w.grownBy wr (some g)) := hg
      clear hrow hg hf
      go_wp2_with fail
      go_end0
      refine ⟨rfl, ⟨_, HRow.out, fun j r hj hr => ?_⟩, HG.out⟩
      rw [revF_at _ _ _ _ _ hr]
      by_cases hc : j < k ∨ n ≤ j + k
      · rw [if_pos ⟨hj, hc⟩]
      · have e : n - 1 - j = j := by omega
        rw [if_neg (fun h => hc h.2), e]
end Go.Proofs.Ytocnkjicmchbdaa
/-
  THE PROGRAM's unwind: the function of nested applications, and its arguments in order; nothing that was there is changed.
-/
namespace Go.Proofs.Ytocnkjicmchbdaa
set_option linter.unusedVariables false
set_option linter.unusedSimpArgs false
open Go.RowKit

/-- a row of cards, in new memory -/
def CdRow (w : World) (lo : Nat) (l : List Cd) (v : Value) : Prop :=
  (l = [] ∧ v = .slice none 0 0) ∨ ∃ g cap f, v = .slice (some ⟨g, 0, none⟩) l.length cap ∧ lo ≤ g ∧ l.length ≤ cap ∧ cap ≤ maxLen ∧ w.rowIs g 31 (cap * 3) f ∧
    ∀ j (hj : j < l.length), f (j * 3) = l[j].2.1 ∧ f (j * 3 + 1) = l[j].2.2.1 ∧ f (j * 3 + 2) = l[j].2.2.2

theorem CdRow.keep {w w' : World} {lo lo' : Nat} {l : List Cd} {v : Value} (h : CdRow w lo l v) (hl : lo' ≤ lo) (hk : ∀ k, lo ≤ k → k < w.heap.size → w'.heap[k]? = w.heap[k]?) : CdRow w' lo' l v := by
  rcases h with h | ⟨g, cap, f, e, hg, hn, hc, hr, hv⟩
  · exact Or.inl h
  · exact Or.inr ⟨g, cap, f, e, Nat.le_trans hl hg, hn, hc, hr.of_block (hk g hg hr.lt), hv⟩
/-- cards, as cells -/
def cdCells (l : List Cd) : List Value := l.flatMap fun d => [d.2.1, d.2.2.1, d.2.2.2]
theorem cdCells_at : ∀ (l : List Cd) (j : Nat) (hj : j < l.length), (cdCells l)[j * 3]? = some l[j].2.1 ∧ (cdCells l)[j * 3 + 1]? = some l[j].2.2.1 ∧ (cdCells l)[j * 3 + 2]? = some l[j].2.2.2
  | [], j, hj => by simp at hj
  | d :: l, 0, _ => by simp [cdCells]
  | d :: l, j + 1, hj => by
    have := cdCells_at l j (by simpa using hj)
    have e : ∀ r, (cdCells (d :: l))[(j + 1) * 3 + r]? = (cdCells l)[j * 3 + r]? := fun r => by
      rw [show (j + 1) * 3 + r = 3 + (j * 3 + r) by omega]
      show ([d.2.1, d.2.2.1, d.2.2.2] ++ cdCells l)[3 + (j * 3 + r)]? = _
      rw [List.getElem?_append_right (by simp)]
      simp
    have e0 := e 0
    rw [Nat.add_zero, Nat.add_zero] at e0
    rw [e0, e 1, e 2]
    simpa using this
theorem own_cd {w : World} {base : Nat} {v : Value} {l : List Cd} (h : w.ownsRow base 31 3 v l.length (cdCells l)) : CdRow w base l v := by
  rcases h.2 with ⟨rfl, h0⟩ | ⟨g, cap, cur, rfl, hg, hh, hn, hc, hs, htk⟩
  · exact Or.inl ⟨List.eq_nil_of_length_eq_zero h0, rfl⟩
  · refine Or.inr ⟨g, cap, fun i => cur.getD i undef, rfl, hg, hn, hc, ⟨cur, hh, hs, fun i hi => ?_⟩, fun j hj => ?_⟩
    · simp [Array.getElem?_eq_getElem (hs ▸ hi : i < cur.size), Array.getD, (hs ▸ hi : i < cur.size)]
    · have hget : ∀ i v, i < l.length * 3 → (cdCells l)[i]? = some v → cur.getD i undef = v := fun i v hi hv => by
        rw [← htk, List.getElem?_take_of_lt hi, Array.getElem?_toList] at hv
        rw [Array.getD_eq_getD_getElem?, hv]; rfl
      obtain ⟨h0, h1, h2⟩ := cdCells_at l j hj
      exact ⟨hget _ _ (by omega) h0, hget _ _ (by omega) h1, hget _ _ (by omega) h2⟩

set_option maxHeartbeats 400000 in
theorem rev_nil (w : World) : Calls Try.prog 118 #[.slice none 0 0] w fun e w' => e = .returned (.tuple #[]) ∧ Below w.heap.size w w' := by
  go_enter Try.func118, Try.ntmps118
  go_wp2_with fail
  go_loopw [2, 3] (fun i j wr => i = .int .i64 0 ∧ j = .int .i64 (-1) ∧ Below w.heap.size w wr) (fun i _ _ => 0)
  case atStart => exact ⟨rfl, rfl, Below.refl _ _⟩
  case round =>
    obtain ⟨rfl, rfl, hb⟩ := hrel
    go_wp2_with fail
    go_end0
    exact ⟨rfl, hb⟩

theorem rev_cd (lo : Nat) (l : List Cd) (v : Value) (w : World) (h : CdRow w lo l v) (hf : ∀ d ∈ l, ∃ p q ad n c, d.2.1 = .int .i64 p ∧ d.2.2.1 = .int .i64 q ∧ d.2.2.2 = .slice ad n c) (hlo : lo ≤ w.heap.size) :
    Calls Try.prog 118 #[v] w fun e w' => e = .returned (.tuple #[]) ∧ CdRow w' lo l.reverse v ∧ Below lo w w' := by
  rcases h with ⟨rfl, rfl⟩ | ⟨g, cap, f, rfl, hg, hn, hc, hr, hv⟩
  · refine (rev_nil w).mono ?_
    rintro e w' ⟨rfl, hb⟩
    exact ⟨rfl, Or.inl ⟨rfl, rfl⟩, hb.mono hlo⟩
  · refine (rev_calls g l.length cap f w hr hn hc fun j hj => ?_).mono ?_
    · obtain ⟨p, q, ad, n, c, e0, e1, e2⟩ := hf l[j] (List.getElem_mem hj)
      obtain ⟨h0, h1, h2⟩ := hv j hj
      exact ⟨p, q, ad, n, c, h0.trans e0, h1.trans e1, h2.trans e2⟩
    · rintro e w' ⟨rfl, ⟨f', hr', hf'⟩, hgr⟩
      refine ⟨rfl, Or.inr ⟨g, cap, f', by simp, hg, by simpa using hn, hc, hr', fun j hj => ?_⟩, ⟨hgr.os, hgr.tape, hgr.output, hgr.size, fun k hk => hgr.block k (by omega) (by simp; omega)⟩⟩
      have hj' : j < l.length := by simpa using hj
      have a0 := hf' j 0 hj' (by omega)
      have a1 := hf' j 1 hj' (by omega)
      have a2 := hf' j 2 hj' (by omega)
      rw [Nat.add_zero, Nat.add_zero] at a0
      obtain ⟨h0, h1, h2⟩ := hv (l.length - 1 - j) (by omega)
      rw [List.getElem_reverse]
      exact ⟨a0.trans h0, a1.trans h1, a2.trans h2⟩

theorem ptrK : PKey Try.prog 136 embP PlainAt := by
  obtain ⟨j, hj, hs⟩ : ∃ j, Try.prog.info? 31 = some j ∧ j.size ≠ 0 := by
    have h : (Try.prog.info? 31).map (fun i => i.size) = some 3 := by kernel_rfl
    cases hi : Try.prog.info? 31 with
    | none => rw [hi] at h; simp at h
    | some j => rw [hi] at h; simp at h; exact ⟨j, rfl, by omega⟩
  exact ptr_key Try.underlying136 hj hs
theorem zeroBool (w : World) : (zeroValue 4).run Try.prog w = .ok (.bool false) w := by kernel_rfl

/-- how long a slice is -/
def slLen : Value → Nat
  | .slice _ n _ => n
  | _ => 0

/-- the three cells of a tree's box -/
def boxF (o n : Int) (c : Value) : Nat → Value := fun i => if i = 0 then .int .i64 o else if i = 1 then .int .i64 n else c
theorem box3 (o n : Int) (c : Value) : ∀ i, i < (#[.int .i64 o, .int .i64 n, c] : Array Value).size → (#[.int .i64 o, .int .i64 n, c] : Array Value)[i]? = some (boxF o n c i) := by
  intro i hi
  have hi' : i < 3 := hi
  rcases (by omega : i = 0 ∨ i = 1 ∨ i = 2) with rfl | rfl | rfl <;> rfl

/-- what holds on the way down -/
def URel (w : World) (a : Tr) (c : Value) (v : Value) (wr : World) : Prop :=
  ∃ (t : Tr) (ct : Value) (l : List Cd) (M : Addr → Option Value), Unw w a c t ct l ∧ wr.rowIs w.heap.size 31 3 (boxF t.op t.num ct) ∧ wr.rowIs (w.heap.size + 1) 31 3 (boxF 0 0 (.slice none 0 0)) ∧
    PMap embP wr (w.heap.size + 2) (fun x => ∃ s, LiesAt w (Pl w) x s ∧ szT t ≤ szT s) M ∧ wr.ownsRow (w.heap.size + 3) 31 3 v l.length (cdCells l) ∧ slLen v = l.length ∧ Below w.heap.size w wr

set_option maxRecDepth 100000 in
set_option maxHeartbeats 800000 in
theorem unwind_calls (a : Tr) (c : Value) (w : World) (hk : InP w a.kids c) (ha : I64 a.op ∧ I64 a.num) (hz : szT a ≤ 1099511627776) :
    Calls Try.prog 96 #[.agg #[.int .i64 a.op, .int .i64 a.num, c]] w fun e w' => ∃ (t : Tr) (ct : Value) (l : List Cd) (v : Value), e = .returned (.tuple #[.agg #[.int .i64 t.op, .int .i64 t.num, ct], v, .bool true]) ∧ Unw w a c t ct l ∧ ¬ (t.op = 4 ∧ t.kids.length = 2) ∧ CdRow w' w.heap.size l.reverse v ∧ Below w.heap.size w w' := by
  have HK : Hid (InP w a.kids c) := hk
  have HA : Hid (I64 a.op ∧ I64 a.num) := ha
  have hmm := @run_makeMap Try.prog
  obtain ⟨ad, cap, rfl, -, -, -⟩ := hk
  clear ha
  go_enter Try.func96, Try.ntmps96
  go_wp2_with fail
  clear hmm
  obtain ⟨iE, zE, hiE, hzE, hsE, hbE, hcE⟩ := infoE3
  have HE : Hid (Try.prog.info? 31 = some iE ∧ iE.zero = some zE ∧ iE.size = 3 ∧ iE.bytes = 40 ∧ zE.cells.size = 3) := ⟨hiE, hzE, hsE, hbE, hcE⟩
  clear hiE hzE hsE hbE hcE
  go_loopw [5] (fun v wr => URel w a (.slice ad a.kids.length cap) v wr) (fun v _ => szT a - slLen v)
  case atStart =>
    refine ⟨a, _, [], fun _ => none, Unw.here, ?_, ?_, ?_, ?_, rfl, ?_⟩
    · exact ((World.rowIs_alloc w #[.int .i64 a.op, .int .i64 a.num, .slice ad a.kids.length cap] 31 (boxF a.op a.num (.slice ad a.kids.length cap)) (box3 _ _ _)).alloc _).alloc _
    · have h := World.rowIs_alloc (w.alloc (.cells #[.int .i64 a.op, .int .i64 a.num, .slice ad a.kids.length cap] 31)) #[.int .i64 0, .int .i64 0, .slice none 0 0] 31 (boxF 0 0 (.slice none 0 0)) (box3 _ _ _)
      rw [Deep.nblk_alloc] at h
      exact h.alloc _
    · have h := PMap.made (emb := embP) ((w.alloc (.cells #[.int .i64 a.op, .int .i64 a.num, .slice ad a.kids.length cap] 31)).alloc (.cells #[.int .i64 0, .int .i64 0, .slice none 0 0] 31)) (fun x => ∃ s, LiesAt w (Pl w) x s ∧ szT a ≤ szT s)
      rw [Deep.nblk_alloc, Deep.nblk_alloc] at h
      exact h
    · exact World.ownsRow_nil _ _ _ _
    · exact (((Below.refl _ _).alloc (Nat.le_refl _) _).alloc (by simp) _).alloc (by simp; omega) _
  case round =>
    obtain ⟨t, ct, l, M, hu, hbox, hres, hmap, hown, hsl, hb⟩ := hrel
    have HRs : Hid (wr.rowIs (w.heap.size + 1) 31 3 (boxF 0 0 (.slice none 0 0))) := hres
    have HU : Hid (Unw w a (.slice ad a.kids.length cap) t ct l) := hu
    have HBx : Hid (wr.rowIs w.heap.size 31 3 (boxF t.op t.num ct)) := hbox
    have HB : Hid (Below w.heap.size w wr) := hb
    have HMp : Hid (PMap embP wr (w.heap.size + 2) (fun x => ∃ s, LiesAt w (Pl w) x s ∧ szT t ≤ szT s) M) := hmap
    have HO : Hid (wr.ownsRow (w.heap.size + 3) 31 3 u5 l.length (cdCells l)) := hown
    obtain ⟨hkt, hot, hnt, hlt, hsz⟩ := hu.on HK.out HA.out
    have c0 := hbox.cell (i := 0) (by omega)
    have c1 := hbox.cell (i := 1) (by omega)
    have c2 := hbox.cell (i := 2) (by omega)
    simp only [boxF, if_pos, if_neg, show (1 : Nat) ≠ 0 from by omega, show (2 : Nat) ≠ 0 from by omega, show (2 : Nat) ≠ 1 from by omega] at c0 c1 c2
    have fz := hbox.frozen
    clear hu hbox hb hmap hown hres
    obtain ⟨act, capt, rfl, hl1, hl2, -⟩ := id hkt
    unfold maxLen at hl2
    by_cases ho : t.op = 4
    · by_cases hlen : t.kids.length = 2
      · obtain ⟨f, x, hkk⟩ : ∃ f x, t.kids = [f, x] := by
          match hks : t.kids, hlen with
          | [f, x], _ => exact ⟨f, x, rfl⟩
        have HT : Hid (t.op = 4 ∧ t.kids = [f, x]) := ⟨ho, hkk⟩
        rw [hkk] at hkt
        obtain ⟨bl, off, cap', p, q, cf, u, v, r, e, -, -, hS, hrow, h0, h1, h2, h3, g0, g1, g2, g3⟩ := hkt.two
        simp only [Value.slice.injEq] at e
        obtain ⟨rfl, -, rfl⟩ := e
        obtain ⟨rfl, rfl, hfo, hfn, hkf⟩ := trOn_iff.1 h3
        obtain ⟨rfl, rfl, hxo, hxn, hkx⟩ := trOn_iff.1 g3
        obtain ⟨adf, capf, rfl, -, -, -⟩ := id hkf
        obtain ⟨adx, capx, rfl, -, -, -⟩ := id hkx
        have b0 := (HB.out.cell (p := ⟨bl, off, none⟩) hS.1).trans h0
        have b1 := (HB.out.cell (p := ⟨bl, off + 1, none⟩) hS.1).trans h1
        have b2 := (HB.out.cell (p := ⟨bl, off + 2, none⟩) hS.1).trans h2
        have b3 := (HB.out.cell (p := ⟨bl, off + 3, none⟩) hS.1).trans g0
        have b4 := (HB.out.cell (p := ⟨bl, off + 4, none⟩) hS.1).trans g1
        have b5 := (HB.out.cell (p := ⟨bl, off + 5, none⟩) hS.1).trans g2
        have HBx2 : Hid (wr.rowIs w.heap.size 31 3 (boxF t.op t.num (.slice (some ⟨bl, off, none⟩) 2 capt))) := by have := HBx.out; rw [hlen] at this; exact this
        rw [ho] at c0
        rw [hlen] at c2
        have hNf : LiesAt w (Pl w) ⟨bl, off, none⟩ f := by simpa using RowOn.liesAt (i := 0) (by simp) hS hrow
        have hpl : PlainAt wr ⟨bl, off, none⟩ := hNf.plain HB.out
        have hMn : M ⟨bl, off, none⟩ = none := by
          cases hM : M ⟨bl, off, none⟩ with
          | none => rfl
          | some y =>
            obtain ⟨s, hs, hle⟩ := HMp.out.key_of hM
            have := hs.uniq hNf
            subst this
            have e1 : szT t = szL [s, x] := by rw [szT_eq, hkk]
            simp only [szL] at e1
            omega
        have hft : szT f ≤ szT t := by
          have e1 : szT t = szL [f, x] := by rw [szT_eq, hkk]
          simp only [szL] at e1
          omega
        have HMp' : Hid (PMap embP wr (w.heap.size + 2) (fun x => ∃ s, LiesAt w (Pl w) x s ∧ szT f ≤ szT s) M) := HMp.out.keys fun y hy => by obtain ⟨s, hs, hle⟩ := hy; exact ⟨s, hs, by omega⟩
        have HN : Hid (Unw w a (.slice ad a.kids.length cap) f (.slice adf f.kids.length capf) (l ++ [(x, .int .i64 x.op, .int .i64 x.num, .slice adx x.kids.length capx)])) := by
          have h := HU.out
          rw [hlen] at h
          exact Unw.down h ho hkk rfl h2 g0 g1 g2
        have hsn := (HN.out.on HK.out HA.out).2.2.2.2
        simp only [List.length_append, List.length_cons, List.length_nil] at hsn
        clear hkt hrow h0 h1 h2 h3 g0 g1 g2 g3 ho hlen hkk
        have h1c : ∀ u ∈ [Value.int .i64 x.op, .int .i64 x.num, .slice adx x.kids.length capx], u.oneCell' = true := by
          intro u hu
          simp only [List.mem_cons, List.not_mem_nil, or_false] at hu
          rcases hu with rfl | rfl | rfl <;> rfl
        go_wp2_with (first
          | (at_lookup; refine wpList_look_p _ rfl _ _ 135 rfl 136 4 ptrK Try.underlying135 (.bool false) (zeroBool _) (w.heap.size + 2) _ M rfl HMp.out (fun y hy => by obtain ⟨s, hs, _⟩ := hy; exact hs.plain HB.out) ⟨bl, off, none⟩ rfl hpl ?_; rw [hMn])
          | (at_mapUpdate; refine wpList_store_p _ rfl _ _ _ 135 rfl 136 4 ptrK Try.underlying135 (w.heap.size + 2) _ M rfl HMp'.out (fun y hy => by obtain ⟨s, hs, _⟩ := hy; exact hs.plain HB.out) ⟨bl, off, none⟩ rfl hpl ⟨f, hNf, Nat.le_refl _⟩ (.bool true) rfl ?_; intro o' hp; obtain ⟨w1, hw1⟩ : ∃ w1, w1 = ({ wr with heap := wr.heap.setIfInBounds (w.heap.size + 2) o' } : World) := ⟨_, rfl⟩; rw [← hw1] at hp ⊢; have hX : ∀ k, k ≠ w.heap.size + 2 → w1.heap[k]? = wr.heap[k]? := (by intro k hk; rw [hw1]; exact set_other_block wr _ o' hk); have HZ1 : Hid (w1.heap.size = wr.heap.size) := (by rw [hw1]; exact set_size wr _ o'); have HP : Hid (PMap embP w1 (w.heap.size + 2) (fun x => ∃ s, LiesAt w (Pl w) x s ∧ szT f ≤ szT s) (pput M ⟨bl, off, none⟩ (.bool true))) := hp; have HB1 : Hid (Below w.heap.size w w1) := (by rw [hw1]; exact HB.out.trans (set_below wr _ o' (by omega))); have c2' := (World.cell?_of_block (a := ⟨w.heap.size, 2, none⟩) (hX _ (by show w.heap.size ≠ _; omega))).trans c2; have b0' := (World.cell?_of_block (a := ⟨bl, off, none⟩) (hX _ (by have := hS.1; show bl ≠ _; omega))).trans b0; have b1' := (World.cell?_of_block (a := ⟨bl, off + 1, none⟩) (hX _ (by have := hS.1; show bl ≠ _; omega))).trans b1; have b2' := (World.cell?_of_block (a := ⟨bl, off + 2, none⟩) (hX _ (by have := hS.1; show bl ≠ _; omega))).trans b2; have b3' := (World.cell?_of_block (a := ⟨bl, off + 3, none⟩) (hX _ (by have := hS.1; show bl ≠ _; omega))).trans b3; have b4' := (World.cell?_of_block (a := ⟨bl, off + 4, none⟩) (hX _ (by have := hS.1; show bl ≠ _; omega))).trans b4; have b5' := (World.cell?_of_block (a := ⟨bl, off + 5, none⟩) (hX _ (by have := hS.1; show bl ≠ _; omega))).trans b5; have HO1 : Hid (w1.ownsRow (w.heap.size + 3) 31 3 u5 l.length (cdCells l)) := own_keep HO.out (fun k hk _ => hX k (by omega)); have HRs1 : Hid (w1.rowIs (w.heap.size + 1) 31 3 (boxF 0 0 (.slice none 0 0))) := HRs.out.of_block (hX _ (by omega)); have HX1 : Hid (w1.rowIs w.heap.size 31 3 (boxF t.op t.num (.slice (some ⟨bl, off, none⟩) 2 capt))) := HBx2.out.of_block (hX _ (by omega)); clear hX hw1 hp c0 c1 c2 b0 b1 b2 b3 b4 b5 fz)
          | (at_builtin; refine wpList_append_own _ rfl _ _ 29 rfl (w.heap.size + 3) 31 iE zE 3 40 Try.underlying29 HE.out.1 HE.out.2.1 HE.out.2.2.1 HE.out.2.2.2.1 HE.out.2.2.2.2 (by decide) _ _ _ rfl (own_keep HO1.out (fun k _ hk => Deep.blk_alloc_lt _ _ k hk)) ⟨w1.heap.size, 0, none⟩ 1 1 [.int .i64 x.op, .int .i64 x.num, .slice adx x.kids.length capx] rfl rfl (news3 w1 _ _ _) h1c (by unfold maxLen; omega) (by omega) (by rw [Deep.nblk_alloc]; have := HP.out.lt; omega) ?_; intro v' w3 hown' hgrow hnil; have hXX : ∀ k, k < w.heap.size + 3 → w3.heap[k]? = w1.heap[k]? := (fun k hk => (hgrow.block k (by rw [Deep.nblk_alloc]; have := HP.out.lt; omega) (fun e => by have := own_block HO1.out e; omega)).trans (Deep.blk_alloc_lt _ _ k (by have := HP.out.lt; omega))); have HO3 : Hid (w3.ownsRow (w.heap.size + 3) 31 3 v' (l.length + 1) (cdCells l ++ [.int .i64 x.op, .int .i64 x.num, .slice adx x.kids.length capx])) := hown'; have HRs3 : Hid (w3.rowIs (w.heap.size + 1) 31 3 (boxF 0 0 (.slice none 0 0))) := HRs1.out.of_block (hXX _ (by omega)); have HX3 : Hid (w3.rowIs w.heap.size 31 3 (boxF t.op t.num (.slice (some ⟨bl, off, none⟩) 2 capt))) := HX1.out.of_block (hXX _ (by omega)); have HP3 : Hid (PMap embP w3 (w.heap.size + 2) (fun x => ∃ s, LiesAt w (Pl w) x s ∧ szT f ≤ szT s) (pput M ⟨bl, off, none⟩ (.bool true))) := HP.out.keep (hXX _ (by omega)); have HB3 : Hid (Below w.heap.size w w3) := (by have hb1 := HB1.out; exact ⟨by rw [hgrow.os]; exact hb1.os, by rw [hgrow.tape]; exact hb1.tape, by rw [hgrow.output]; exact hb1.output, Nat.le_trans hb1.size (by have := hgrow.size; rw [Deep.nblk_alloc] at this; omega), fun k hk => (hXX k (by omega)).trans (hb1.block k hk)⟩); have d0 := (World.cell?_of_block (a := ⟨bl, off, none⟩) (hXX _ (by have := hS.1; show bl < _; omega))).trans b0'; have d1 := (World.cell?_of_block (a := ⟨bl, off + 1, none⟩) (hXX _ (by have := hS.1; show bl < _; omega))).trans b1'; have d2 := (World.cell?_of_block (a := ⟨bl, off + 2, none⟩) (hXX _ (by have := hS.1; show bl < _; omega))).trans b2'; have e0 := HX3.out.cell (i := 0) (by omega); have e1 := HX3.out.cell (i := 1) (by omega); have e2 := HX3.out.cell (i := 2) (by omega); simp only [boxF, if_pos, if_neg, show (1 : Nat) ≠ 0 from by omega, show (2 : Nat) ≠ 0 from by omega, show (2 : Nat) ≠ 1 from by omega] at e0 e1 e2; have ef := HX3.out.frozen; have hsz3 : Hid (w.heap.size + 3 ≤ w3.heap.size) := (by have := HP3.out.lt; unfold Hid; omega); clear hXX hown' hgrow hnil c2' b0' b1' b2' b3' b4' b5')
          | go_in)
        have keep : ∀ k, k ≠ w.heap.size → (((w3.setCell ⟨w.heap.size, 0, none⟩ (.int .i64 f.op)).setCell ⟨w.heap.size, 1, none⟩ (.int .i64 f.num)).setCell ⟨w.heap.size, 2, none⟩ (.slice adf f.kids.length capf)).heap[k]? = w3.heap[k]? := fun k hk =>
          ((Below.heap_setCell _ _ _ _ hk).trans (Below.heap_setCell _ _ _ _ hk)).trans (Below.heap_setCell _ _ _ _ hk)
        have hsv : slLen v' = l.length + 1 := by
          rcases HO3.out.2 with ⟨-, h⟩ | ⟨g, c, cur, rfl, -⟩
          · omega
          · rfl
        refine ⟨⟨f, _, _, _, HN.out, ?_, HRs3.out.of_block (keep _ (by omega)), HP3.out.keep (keep _ (by omega)), ?_, ?_, ?_⟩, by omega⟩
        · refine (((HX3.out.set 0 _).set 1 _).set 2 _).congr fun i hi => ?_
          rcases (by omega : i = 0 ∨ i = 1 ∨ i = 2) with rfl | rfl | rfl <;> simp [boxF]
        · have h := own_keep HO3.out (fun k hk _ => keep k (by omega))
          simpa [cdCells] using h
        · simpa using hsv
        · exact ((HB3.out.setCell (by simp) _).setCell (by simp) _).setCell (by simp) _
      · have hstop : Hid (¬ (t.op = 4 ∧ t.kids.length = 2)) := fun h => hlen h.2
        have t2 : ((t.kids.length : Int) == 2) = false := by simp; omega
        rw [ho] at c0
        have hlr : ∀ d ∈ l, ∃ p q ad n c, d.2.1 = .int .i64 p ∧ d.2.2.1 = .int .i64 q ∧ d.2.2.2 = .slice ad n c := fun d hd => by
          obtain ⟨e1, e2, -, -, ad', c', e3, -⟩ := trOn_iff.1 (hlt d hd)
          exact ⟨_, _, _, _, _, e1, e2, e3⟩
        have hlo : w.heap.size + 3 ≤ wr.heap.size := by have := HMp.out.lt; omega
        go_wp2_with (go_at_call 118; refine (rev_cd (w.heap.size + 3) l u5 _ ?_ hlr ?_).mono ?_; exact own_cd HO.out; exact hlo; rintro e w4 ⟨rfl, hcd, hb4⟩; have HCD : Hid (CdRow w4 (w.heap.size + 3) l.reverse u5) := hcd; have HB4 : Hid (Below w.heap.size w w4) := HB.out.trans (hb4.mono (by omega)); have hn4 : w.heap.size + 3 ≤ w4.heap.size := (by have := hb4.size; omega); have d0 := (hb4.cell (p := ⟨w.heap.size, 0, none⟩) (by show w.heap.size < _; omega)).trans c0; have d1 := (hb4.cell (p := ⟨w.heap.size, 1, none⟩) (by show w.heap.size < _; omega)).trans c1; have d2 := (hb4.cell (p := ⟨w.heap.size, 2, none⟩) (by show w.heap.size < _; omega)).trans c2; have HR4 : Hid (w4.rowIs (w.heap.size + 1) 31 3 (boxF 0 0 (.slice none 0 0))) := HRs.out.of_block (hb4.block _ (by omega)); have r0 := HR4.out.cell (i := 0) (by omega); have r1 := HR4.out.cell (i := 1) (by omega); have r2 := HR4.out.cell (i := 2) (by omega); simp only [boxF, if_pos, if_neg, show (1 : Nat) ≠ 0 from by omega, show (2 : Nat) ≠ 0 from by omega, show (2 : Nat) ≠ 1 from by omega] at r0 r1 r2; have rf := HR4.out.frozen; clear hcd hb4 c0 c1 c2 fz)
        refine bodyPost_ret (v := .tuple #[.agg #[.int .i64 4, .int .i64 t.num, .slice act t.kids.length capt], u5, .bool true]) (by simp [results, Try.results96, go_sem, r0, r1, r2, rf]) rfl ⟨t, _, l, u5, by rw [ho], HU.out, hstop.out, ?_, ?_⟩
        · exact HCD.out.keep (by omega) fun k hk _ => ((Below.heap_setCell _ _ _ _ (by show k ≠ w.heap.size + 1; omega)).trans (Below.heap_setCell _ _ _ _ (by show k ≠ w.heap.size + 1; omega))).trans (Below.heap_setCell _ _ _ _ (by show k ≠ w.heap.size + 1; omega))
        · exact ((HB4.out.setCell (by simp) _).setCell (by simp) _).setCell (by simp) _
    · have hstop : Hid (¬ (t.op = 4 ∧ t.kids.length = 2)) := fun h => ho h.1
      have t1 : (t.op == 4) = false := by simpa using ho
      have hlr : ∀ d ∈ l, ∃ p q ad n c, d.2.1 = .int .i64 p ∧ d.2.2.1 = .int .i64 q ∧ d.2.2.2 = .slice ad n c := fun d hd => by
        obtain ⟨e1, e2, -, -, ad', c', e3, -⟩ := trOn_iff.1 (hlt d hd)
        exact ⟨_, _, _, _, _, e1, e2, e3⟩
      have hlo : w.heap.size + 3 ≤ wr.heap.size := by have := HMp.out.lt; omega
      go_wp2_with (go_at_call 118; refine (rev_cd (w.heap.size + 3) l u5 _ ?_ hlr ?_).mono ?_; exact own_cd HO.out; exact hlo; rintro e w4 ⟨rfl, hcd, hb4⟩; have HCD : Hid (CdRow w4 (w.heap.size + 3) l.reverse u5) := hcd; have HB4 : Hid (Below w.heap.size w w4) := HB.out.trans (hb4.mono (by omega)); have hn4 : w.heap.size + 3 ≤ w4.heap.size := (by have := hb4.size; omega); have d0 := (hb4.cell (p := ⟨w.heap.size, 0, none⟩) (by show w.heap.size < _; omega)).trans c0; have d1 := (hb4.cell (p := ⟨w.heap.size, 1, none⟩) (by show w.heap.size < _; omega)).trans c1; have d2 := (hb4.cell (p := ⟨w.heap.size, 2, none⟩) (by show w.heap.size < _; omega)).trans c2; have HR4 : Hid (w4.rowIs (w.heap.size + 1) 31 3 (boxF 0 0 (.slice none 0 0))) := HRs.out.of_block (hb4.block _ (by omega)); have r0 := HR4.out.cell (i := 0) (by omega); have r1 := HR4.out.cell (i := 1) (by omega); have r2 := HR4.out.cell (i := 2) (by omega); simp only [boxF, if_pos, if_neg, show (1 : Nat) ≠ 0 from by omega, show (2 : Nat) ≠ 0 from by omega, show (2 : Nat) ≠ 1 from by omega] at r0 r1 r2; have rf := HR4.out.frozen; clear hcd hb4 c0 c1 c2 fz)
      refine bodyPost_ret (v := .tuple #[.agg #[.int .i64 t.op, .int .i64 t.num, .slice act t.kids.length capt], u5, .bool true]) (by simp [results, Try.results96, go_sem, r0, r1, r2, rf]) rfl ⟨t, _, l, u5, rfl, HU.out, hstop.out, ?_, ?_⟩
      · exact HCD.out.keep (by omega) fun k hk _ => ((Below.heap_setCell _ _ _ _ (by show k ≠ w.heap.size + 1; omega)).trans (Below.heap_setCell _ _ _ _ (by show k ≠ w.heap.size + 1; omega))).trans (Below.heap_setCell _ _ _ _ (by show k ≠ w.heap.size + 1; omega))
      · exact ((HB4.out.setCell (by simp) _).setCell (by simp) _).setCell (by simp) _
end Go.Proofs.Ytocnkjicmchbdaa
/-
  THE MODEL's l1Kids AND l1Own.
-/
namespace Go.Proofs.Ytocnkjicmchbdaa
set_option linter.unusedVariables false
set_option linter.unusedSimpArgs false
open Go.RowKit

set_option maxHeartbeats 400000 in
theorem l1Kids_calls (op : Int) (w : World) : Calls Try.prog 81 #[.int .i64 op] w fun e w' => e = .returned (.int .i64 (arity op)) ∧ w = w' := by
  go_enter Try.func81, Try.ntmps81
  go_wp2_with fail
  all_goals go_ret
  all_goals refine ⟨ret_int ?_, rfl⟩
  all_goals show (_ : Int) = arity op
  all_goals unfold arity
  all_goals simp_all

set_option maxHeartbeats 400000 in
theorem l1Own_calls (op n vars defs : Int) (c : Value) (w : World) : Calls Try.prog 125 #[.agg #[.int .i64 op, .int .i64 n, c], .int .i64 vars, .int .i64 defs] w fun e w' => e = .returned (.bool (ownB op n vars defs)) ∧ Below w.heap.size w w' := by
  go_enter Try.func125, Try.ntmps125
  go_wp2_with fail
  all_goals go_ret
  all_goals refine ⟨ret_bool ?_, (Below.refl _ _).alloc (Nat.le_refl _) _⟩
  all_goals show (_ : Bool) = ownB op n vars defs
  all_goals unfold ownB
  all_goals simp_all
  all_goals (first | omega | rfl)

theorem own_true (op n vars defs : Int) (c : Value) (w : World) (h : ownB op n vars defs = true) : Calls Try.prog 125 #[.agg #[.int .i64 op, .int .i64 n, c], .int .i64 vars, .int .i64 defs] w fun e w' => e = .returned (.bool true) ∧ Below w.heap.size w w' := by
  have := l1Own_calls op n vars defs c w; rwa [h] at this
theorem own_false (op n vars defs : Int) (c : Value) (w : World) (h : ownB op n vars defs = false) : Calls Try.prog 125 #[.agg #[.int .i64 op, .int .i64 n, c], .int .i64 vars, .int .i64 defs] w fun e w' => e = .returned (.bool false) ∧ Below w.heap.size w w' := by
  have := l1Own_calls op n vars defs c w; rwa [h] at this

theorem l1Kids_below (op : Int) (w : World) : Calls Try.prog 81 #[.int .i64 op] w fun e w' => e = .returned (.int .i64 (arity op)) ∧ Below w.heap.size w w' :=
  (l1Kids_calls op w).mono fun _ _ ⟨h, e⟩ => ⟨h, e ▸ Below.refl _ _⟩
end Go.Proofs.Ytocnkjicmchbdaa
/-
  THE MODEL's ExprValid (l1Kids, l1Own, l1Shape, l1Count, l1Is, ExprValid): which trees it takes for valid; nothing that was there is changed.
-/
namespace Go.Proofs.Ytocnkjicmchbdaa
set_option linter.unusedVariables false
set_option linter.unusedSimpArgs false
open Go.RowKit

def ShSaid (vars defs : Int) (d : Nat) (t : Tr) : Prop := ∀ (c : Value) (w : World), In w t.kids c →
  Calls Try.prog 121 #[.agg #[.int .i64 t.op, .int .i64 t.num, c], .int .i64 vars, .int .i64 defs, .int .i64 (d : Int)] w fun e w' => e = .returned (.bool (shB vars defs d t)) ∧ Below w.heap.size w w'

set_option maxHeartbeats 400000 in
theorem sh_zero (vars defs : Int) (t : Tr) : ShSaid vars defs 0 t := by
  intro c w hk
  clear hk
  simp only [shB]
  have d1 : decide (((0 : Nat) : Int) < 1) = true := by decide
  go_enter Try.func121, Try.ntmps121
  go_wp2_with fail
  refine wp_region_quiet_below (by kernel_rfl) (by kernel_rfl) ?_
  repeat (any_goals (first | go_big_quiet_step (fail) | quiet_step (fail)))
  refine wpQuiet_nil ?_
  intro _ hw'
  obtain ⟨⟨dq, osq⟩, hw''⟩ := hw'
  subst hw''
  go_wp2_with fail
  go_ret
  exact ⟨rfl, (box_below _ _).trans ((below_regrown _ _ _).mono (by simp))⟩

set_option maxHeartbeats 400000 in
theorem sh_succ (vars defs : Int) (d : Nat) (t : Tr) (hd : d ≤ 16) (ih : ∀ i (hi : i < t.kids.length), ShSaid vars defs d (t.kids[i])) : ShSaid vars defs (d + 1) t := by
  intro c w hk
  have HI : Hid (∀ i (hi : i < t.kids.length), ShSaid vars defs d (t.kids[i])) := ih
  have HK : Hid (In w t.kids c) := hk
  clear ih
  obtain ⟨ad, cap, rfl, hl, hm, -⟩ := hk
  unfold maxLen at hm
  have d1 : decide ((d : Int) + 1 < 1) = false := by simp; omega
  by_cases hlen : (t.kids.length : Int) = arity t.op
  · have t1 : ((t.kids.length : Int) != arity t.op) = false := by simpa using hlen
    cases hown : ownB t.op t.num vars defs with
    | false =>
      have HV : Hid (shB vars defs (d + 1) t = false) := by simp [shB, hown, Hid]
      clear hlen
      push_cast
      go_enter Try.func121, Try.ntmps121
      go_wp2_with fail
      have k0 := cell_regrown (box_cell w #[.int .i64 t.op, .int .i64 t.num, .slice ad t.kids.length cap] 31 0 _ rfl)
      have k1 := cell_regrown (box_cell w #[.int .i64 t.op, .int .i64 t.num, .slice ad t.kids.length cap] 31 1 _ rfl)
      have k2 := cell_regrown (box_cell w #[.int .i64 t.op, .int .i64 t.num, .slice ad t.kids.length cap] 31 2 _ rfl)
      refine wp_region_quiet_below (by kernel_rfl) (by kernel_rfl) ?_
      repeat (any_goals (first | go_big_quiet_step (first | exact quietB (fun W _ => l1Kids_below _ W) _ _ | exact quietB (fun W _ => own_false _ _ _ _ _ W hown) _ _) | quiet_step (first | exact quietB (fun W _ => l1Kids_below _ W) _ _ | exact quietB (fun W _ => own_false _ _ _ _ _ W hown) _ _)))
      refine wpQuiet_nil ?_
      intro _ hw'
      obtain ⟨⟨dq, osq⟩, hw''⟩ := hw'
      subst hw''
      clear k0 k1 k2
      go_wp2_with fail
      go_ret
      exact ⟨ret_bool HV.out.symm, (box_below _ _).trans ((below_regrown _ _ _).mono (by simp))⟩
    | true =>
      have HL : Hid ((t.kids.length : Int) = arity t.op) := hlen
      have HO : Hid (ownB t.op t.num vars defs = true) := hown
      clear hlen
      push_cast
      go_enter Try.func121, Try.ntmps121
      go_wp2_with fail
      have k0 := cell_regrown (box_cell w #[.int .i64 t.op, .int .i64 t.num, .slice ad t.kids.length cap] 31 0 _ rfl)
      have k1 := cell_regrown (box_cell w #[.int .i64 t.op, .int .i64 t.num, .slice ad t.kids.length cap] 31 1 _ rfl)
      have k2 := cell_regrown (box_cell w #[.int .i64 t.op, .int .i64 t.num, .slice ad t.kids.length cap] 31 2 _ rfl)
      refine wp_region_quiet_below (by kernel_rfl) (by kernel_rfl) ?_
      repeat (any_goals (first | go_big_quiet_step (first | exact quietB (fun W _ => l1Kids_below _ W) _ _ | exact quietB (fun W _ => own_true _ _ _ _ _ W hown) _ _) | quiet_step (first | exact quietB (fun W _ => l1Kids_below _ W) _ _ | exact quietB (fun W _ => own_true _ _ _ _ _ W hown) _ _)))
      refine wpQuiet_nil ?_
      intro _ hw'
      obtain ⟨⟨dq, osq⟩, hw''⟩ := hw'
      subst hw''
      have c0 := k0 dq osq
      have c1 := k1 dq osq
      have c2 := k2 dq osq
      have hb0 : Below w.heap.size w (Sort.grow (redrawn (w.alloc (.cells #[.int .i64 t.op, .int .i64 t.num, .slice ad t.kids.length cap] 31)) dq) osq) := (box_below _ _).trans ((below_regrown _ _ _).mono (by simp))
      have hz0 : w.heap.size < (Sort.grow (redrawn (w.alloc (.cells #[.int .i64 t.op, .int .i64 t.num, .slice ad t.kids.length cap] 31)) dq) osq).heap.size := by have := (below_regrown (w.alloc (.cells #[.int .i64 t.op, .int .i64 t.num, .slice ad t.kids.length cap] 31)) dq osq).size; rw [Deep.nblk_alloc] at this; omega
      clear k0 k1 k2 hown t1
      generalize Sort.grow (redrawn (w.alloc (.cells #[.int .i64 t.op, .int .i64 t.num, .slice ad t.kids.length cap] 31)) dq) osq = wx at *
      go_wp2_with fail
      go_loopw [9] (fun i wr => ∃ k : Nat, k ≤ t.kids.length ∧ i = .int .i64 k ∧ (t.kids.take k).all (shB vars defs d) = true ∧ Below wx.heap.size wx wr) (fun i _ => t.kids.length - (intOf i).toNat)
      case atStart => exact ⟨0, Nat.zero_le _, rfl, by simp, Below.refl _ _⟩
      case round =>
        obtain ⟨k, hk, rfl, hall, hb⟩ := hrel
        have HA : Hid ((t.kids.take k).all (shB vars defs d) = true) := hall
        have HB : Hid (Below wx.heap.size wx wr) := hb
        have cr : wr.cell? ⟨w.heap.size, 2, none⟩ = some (.slice ad t.kids.length cap) := (hb.cell (p := ⟨w.heap.size, 2, none⟩) hz0).trans c2
        clear hall c0 c1 c2
        by_cases hlt : k < t.kids.length
        · have hrow' := (HK.out.next hb0).next hb
          have HB0 : Hid (Below w.heap.size w wx) := hb0
          clear hb0 hb
          obtain ⟨ad', cap', he, -, -, hr⟩ := hrow'
          cases he
          rcases hr with hnil | ⟨bl, off, rfl, -, hr⟩
          · rw [hnil] at hlt; simp at hlt
          obtain ⟨p, q, r, e0, e1, e2, ht⟩ := RowOn.at t.kids off k hlt hr
          obtain ⟨rfl, rfl, -, -, hkk⟩ := trOn_iff.1 ht
          have HKK : Hid (In wr t.kids[k].kids r) := hkk
          clear hkk ht hr
          have HB' : Hid (Below w.heap.size w wr) := Hid.out (p := Below w.heap.size w wr) (Below.trans HB0.out (HB.out.mono (Nat.le_of_lt hz0)))
          go_wp2_with fail
          refine (HI.out k hlt r _ HKK.out).mono ?_
          rintro e w1 ⟨rfl, hb1⟩
          have HB1 : Hid (Below wx.heap.size wx w1) := HB.out.trans (hb1.mono HB.out.size)
          have HB2 : Hid (Below w.heap.size w w1) := HB'.out.trans (hb1.mono HB'.out.size)
          clear hb1
          cases hs : shB vars defs d t.kids[k] with
          | false =>
            have HV : Hid (shB vars defs (d + 1) t = false) := by
              have := all_false_of (shB vars defs d) t.kids k hlt hs
              simp [Hid, shB, this]
            clear hs
            go_wp2_with fail
            go_ret
            exact ⟨ret_bool HV.out.symm, HB2.out⟩
          | true =>
            have HV : Hid ((t.kids.take (k + 1)).all (shB vars defs d) = true) := by
              rw [Hid, all_take_succ _ _ _ hlt, HA.out, hs]; rfl
            clear hs
            go_wp2_with fail
            go_roundw
            case rel => exact ⟨k + 1, by omega, by go_num, HV.out, HB1.out⟩
            case measure => simp [intOf]; omega
        · have hke : t.kids.length = k := by omega
          have HV : Hid (shB vars defs (d + 1) t = true) := by
            have e : t.kids.take k = t.kids := by rw [← hke]; exact List.take_length
            have := HA.out
            rw [e] at this
            simp [Hid, shB, HL.out, HO.out, this]
          have HB' : Hid (Below w.heap.size w wr) := hb0.trans (hb.mono (Nat.le_of_lt hz0))
          clear hke hb0 hb
          go_wp2_with fail
          go_ret
          exact ⟨ret_bool HV.out.symm, HB'.out⟩
  · have t1 : ((t.kids.length : Int) != arity t.op) = true := by simpa using hlen
    have HV : Hid (shB vars defs (d + 1) t = false) := by simp [shB, hlen, Hid]
    clear hlen
    push_cast
    go_enter Try.func121, Try.ntmps121
    go_wp2_with fail
    have k0 := cell_regrown (box_cell w #[.int .i64 t.op, .int .i64 t.num, .slice ad t.kids.length cap] 31 0 _ rfl)
    have k1 := cell_regrown (box_cell w #[.int .i64 t.op, .int .i64 t.num, .slice ad t.kids.length cap] 31 1 _ rfl)
    have k2 := cell_regrown (box_cell w #[.int .i64 t.op, .int .i64 t.num, .slice ad t.kids.length cap] 31 2 _ rfl)
    refine wp_region_quiet_below (by kernel_rfl) (by kernel_rfl) ?_
    repeat (any_goals (first | go_big_quiet_step (exact quietB (fun W _ => l1Kids_below _ W) _ _) | quiet_step (exact quietB (fun W _ => l1Kids_below _ W) _ _)))
    refine wpQuiet_nil ?_
    intro _ hw'
    obtain ⟨⟨dq, osq⟩, hw''⟩ := hw'
    subst hw''
    clear k0 k1 k2
    go_wp2_with fail
    go_ret
    exact ⟨ret_bool HV.out.symm, (box_below _ _).trans ((below_regrown _ _ _).mono (by simp))⟩

theorem sh_any (vars defs : Int) : ∀ (d : Nat) (t : Tr), d ≤ 17 → ShSaid vars defs d t := by
  intro d
  induction d with
  | zero => intro t _; exact sh_zero vars defs t
  | succ d ih => intro t h; exact sh_succ vars defs d t (by omega) fun i hi => ih _ (by omega)

/-! ### The count of nodes -/

/-- what l1Count answers: the number of nodes, or one more than the bound -/
def cntOut (t : Tr) (most : Int) : Int := if 1 + (szT t : Int) ≤ most then 1 + szT t else most + 1

/-- the count behind the first k operands -/
def cntAt (t : Tr) (most : Int) (k : Nat) : Int := if 1 + (szL (t.kids.take k) : Int) ≤ most then 1 + szL (t.kids.take k) else most + 1

theorem cntAt_zero (t : Tr) (most : Int) (h : 0 ≤ most) : cntAt t most 0 = 1 := by
  unfold cntAt; simp [szL]; omega
theorem cntAt_step (t : Tr) (most : Int) (k : Nat) (hk : k < t.kids.length) (h : cntAt t most k ≤ most) : cntAt t most k + cntOut t.kids[k] (most - cntAt t most k) = cntAt t most (k + 1) := by
  have e := szL_take_succ t.kids k hk
  unfold cntAt at h ⊢
  unfold cntOut
  rw [e]
  split at h
  · rename_i h1
    rw [if_pos h1]
    split
    · rw [if_pos (by omega)]; omega
    · rw [if_neg (by omega)]; omega
  · omega
theorem cntAt_end (t : Tr) (most : Int) (k : Nat) (hk : k ≤ t.kids.length) (h : k = t.kids.length ∨ most < cntAt t most k) : cntOut t most = cntAt t most k := by
  have e := szL_take_le t.kids k
  unfold cntOut cntAt at *
  rw [szT_eq]
  rcases h with rfl | h
  · rw [List.take_length]
  · split at h
    · omega
    · rename_i h1; rw [if_neg h1, if_neg (by omega)]
theorem cntAt_range (t : Tr) (most : Int) (k : Nat) (h : 0 ≤ most) : 1 ≤ cntAt t most k ∧ cntAt t most k ≤ most + 1 := by
  unfold cntAt; split <;> omega
theorem cntOut_range (t : Tr) (most : Int) (h : 0 ≤ most) : 1 ≤ cntOut t most ∧ cntOut t most ≤ most + 1 := by
  unfold cntOut; split <;> omega

def CntSaid (t : Tr) : Prop := ∀ (c : Value) (most : Int) (w : World), In w t.kids c → 0 ≤ most → most ≤ 1000 →
  Calls Try.prog 122 #[.agg #[.int .i64 t.op, .int .i64 t.num, c], .int .i64 most] w fun e w' => e = .returned (.int .i64 (cntOut t most)) ∧ Below w.heap.size w w'

set_option maxHeartbeats 400000 in
theorem cnt_step (t : Tr) (ih : ∀ i (hi : i < t.kids.length), CntSaid (t.kids[i])) : CntSaid t := by
  intro c most w hk h0 h1
  have HI : Hid (∀ i (hi : i < t.kids.length), CntSaid (t.kids[i])) := ih
  have HK : Hid (In w t.kids c) := hk
  clear ih
  obtain ⟨ad, cap, rfl, hl, hm, -⟩ := hk
  unfold maxLen at hm
  go_enter Try.func122, Try.ntmps122
  go_wp2_with fail
  have hz : w.heap.size < (w.alloc (.cells #[.int .i64 t.op, .int .i64 t.num, .slice ad t.kids.length cap] 31)).heap.size := by rw [Deep.nblk_alloc]; omega
  have c2 := box_cell w #[.int .i64 t.op, .int .i64 t.num, .slice ad t.kids.length cap] 31 2 _ rfl
  have hbx := box_below w (.cells #[.int .i64 t.op, .int .i64 t.num, .slice ad t.kids.length cap] 31)
  generalize w.alloc (.cells #[.int .i64 t.op, .int .i64 t.num, .slice ad t.kids.length cap] 31) = wx at *
  have HBX : Hid (Below w.heap.size w wx) := hbx
  clear hbx
  go_loopw [5, 6] (fun n i wr => ∃ k : Nat, k ≤ t.kids.length ∧ i = .int .i64 k ∧ n = .int .i64 (cntAt t most k) ∧ Below wx.heap.size wx wr) (fun _ i _ => t.kids.length - (intOf i).toNat)
  case atStart => exact ⟨0, Nat.zero_le _, rfl, by rw [cntAt_zero t most h0], Below.refl _ _⟩
  case round =>
    obtain ⟨k, hk, rfl, rfl, hb⟩ := hrel
    have HB : Hid (Below wx.heap.size wx wr) := hb
    have HBW : Hid (Below w.heap.size w wr) := HBX.out.trans (hb.mono (Nat.le_of_lt hz))
    have cr : wr.cell? ⟨w.heap.size, 2, none⟩ = some (.slice ad t.kids.length cap) := (hb.cell (p := ⟨w.heap.size, 2, none⟩) hz).trans c2
    have hrg := cntAt_range t most k h0
    clear hb c2
    by_cases hlt : k < t.kids.length
    · by_cases hn : cntAt t most k ≤ most
      · have hrow' := HK.out.next HBW.out
        obtain ⟨ad', cap', he, -, -, hr⟩ := hrow'
        cases he
        rcases hr with hnil | ⟨bl, off, rfl, -, hr⟩
        · rw [hnil] at hlt; simp at hlt
        obtain ⟨p, q, r, e0, e1, e2, ht⟩ := RowOn.at t.kids off k hlt hr
        obtain ⟨rfl, rfl, -, -, hkk⟩ := trOn_iff.1 ht
        have HKK : Hid (In wr t.kids[k].kids r) := hkk
        clear hkk ht hr
        go_wp2_with fail
        refine (HI.out k hlt r _ _ HKK.out (by omega) (by omega)).mono ?_
        rintro e w1 ⟨rfl, hb1⟩
        have HB1 : Hid (Below wx.heap.size wx w1) := HB.out.trans (hb1.mono HB.out.size)
        clear hb1
        have hro := cntOut_range t.kids[k] (most - cntAt t most k) (by omega)
        have HV : Hid (cntAt t most k + cntOut t.kids[k] (most - cntAt t most k) = cntAt t most (k + 1)) := cntAt_step t most k hlt hn
        go_wp2_with fail
        go_roundw
        case rel => exact ⟨k + 1, by omega, by go_num, by rw [HV.out], HB1.out⟩
        case measure => simp [intOf]; omega
      · have HV : Hid (cntOut t most = cntAt t most k) := cntAt_end t most k hk (Or.inr (by omega))
        go_wp2_with fail
        go_ret
        exact ⟨ret_int HV.out.symm, HBW.out⟩
    · have HV : Hid (cntOut t most = cntAt t most k) := cntAt_end t most k hk (Or.inl (by omega))
      go_wp2_with fail
      all_goals go_ret
      all_goals exact ⟨ret_int HV.out.symm, HBW.out⟩

theorem cnt_any : ∀ (n : Nat) (t : Tr), szT t ≤ n → CntSaid t := by
  intro n
  induction n with
  | zero =>
    intro t h
    exact cnt_step t fun i hi => absurd (szT_lt_szL t.kids i hi) (by rw [szT_eq] at h; omega)
  | succ n ih =>
    intro t h
    exact cnt_step t fun i hi => ih _ (by have := szT_lt_szL t.kids i hi; rw [szT_eq] at h; omega)
theorem cnt_calls (t : Tr) : CntSaid t := cnt_any _ t (Nat.le_refl _)

/-! ### l1Is, ExprValid -/

/-- valid with these variables and functions -/
def isB (t : Tr) (vars defs : Int) : Bool := shB vars defs 16 t && decide (1 + (szT t : Int) ≤ 60)

set_option maxHeartbeats 400000 in
theorem l1Is_calls (t : Tr) (vars defs : Int) (c : Value) (w : World) (hk : In w t.kids c) : Calls Try.prog 98 #[.agg #[.int .i64 t.op, .int .i64 t.num, c], .int .i64 vars, .int .i64 defs] w fun e w' => e = .returned (.bool (isB t vars defs)) ∧ Below w.heap.size w w' := by
  have HK : Hid (In w t.kids c) := hk
  clear hk
  go_enter Try.func98, Try.ntmps98
  go_wp2_with fail
  refine (sh_any vars defs 16 t (by omega) c _ (HK.out.next (box_below _ _))).mono ?_
  rintro e w1 ⟨rfl, hb1⟩
  have HB : Hid (Below w.heap.size w w1) := (box_below _ _).trans (hb1.mono (by rw [Deep.nblk_alloc]; omega))
  have c0 := (hb1.cell (p := ⟨w.heap.size, 0, none⟩) (by rw [Deep.nblk_alloc]; exact Nat.lt_succ_self _)).trans (box_cell w #[.int .i64 t.op, .int .i64 t.num, c] 31 0 _ rfl)
  have c1 := (hb1.cell (p := ⟨w.heap.size, 1, none⟩) (by rw [Deep.nblk_alloc]; exact Nat.lt_succ_self _)).trans (box_cell w #[.int .i64 t.op, .int .i64 t.num, c] 31 1 _ rfl)
  have c2 := (hb1.cell (p := ⟨w.heap.size, 2, none⟩) (by rw [Deep.nblk_alloc]; exact Nat.lt_succ_self _)).trans (box_cell w #[.int .i64 t.op, .int .i64 t.num, c] 31 2 _ rfl)
  clear hb1
  cases hs : shB vars defs 16 t with
  | false =>
    have HV : Hid (isB t vars defs = false) := by simp [Hid, isB, hs]
    clear hs
    go_wp2_with fail
    go_ret
    exact ⟨ret_bool HV.out.symm, HB.out⟩
  | true =>
    have HV : Hid (isB t vars defs = decide (cntOut t 60 ≤ 60)) := by
      simp only [Hid, isB, hs, Bool.true_and]
      unfold cntOut
      split
      · rename_i h; simp [h]
      · rename_i h; simp [h]
    clear hs
    go_wp2_with fail
    refine (cnt_calls t c _ _ (HK.out.next HB.out) (by omega) (by omega)).mono ?_
    rintro e w2 ⟨rfl, hb2⟩
    have HB2 : Hid (Below w.heap.size w w2) := HB.out.trans (hb2.mono HB.out.size)
    clear hb2
    go_wp2_with fail
    go_ret
    exact ⟨ret_bool HV.out.symm, HB2.out⟩
end Go.Proofs.Ytocnkjicmchbdaa
/-
  THE PROGRAM's ExprValid (opOf, nodeOf, the four kinds' fits, nodesLeft, ExprValid): which trees it takes for valid; nothing that was there is changed.
-/
namespace Go.Proofs.Ytocnkjicmchbdaa
set_option linter.unusedVariables false
set_option linter.unusedSimpArgs false
open Go.RowKit

/-- how nodes of a kind with operands are written -/
def opKids (op : Int) : Int := if op = 4 then 2 else if op = 5 then 2 else if op = 6 then 1 else if op = 7 then 1 else if op = 8 then 2 else if op = 9 then 2 else if op = 10 then 3 else 0
def opMarks (op : Int) : ByteArray := if op = 4 then ⟨#[40, 32, 41]⟩ else if op = 5 then ⟨#[60, 44, 62]⟩ else if op = 6 then ⟨#[126]⟩ else if op = 7 then ⟨#[94]⟩ else if op = 8 then ⟨#[40, 43, 41]⟩ else if op = 9 then ⟨#[40, 45, 41]⟩ else if op = 10 then ⟨#[91, 63, 58, 93]⟩ else ⟨#[]⟩
def opOk (op : Int) : Bool := decide (4 ≤ op ∧ op ≤ 10)

/-- opOf has handed back the row of a kind -/
def OpRow (op : Int) (w : World) (e : Ending) (w' : World) : Prop := e = .returned (.tuple #[.agg #[.int .i64 (opKids op), .string (opMarks op)], .bool (opOk op)]) ∧ Below w.heap.size w w'

theorem opRow_4 {op : Int} (h : (op == 4) = true) : opKids op = 2 ∧ opMarks op = ⟨#[40, 32, 41]⟩ ∧ opOk op = true := by
  have e : op = 4 := by simpa using h
  subst e
  exact ⟨rfl, rfl, rfl⟩
theorem opRow_5 {op : Int} (h : (op == 5) = true) : opKids op = 2 ∧ opMarks op = ⟨#[60, 44, 62]⟩ ∧ opOk op = true := by
  have e : op = 5 := by simpa using h
  subst e
  exact ⟨rfl, rfl, rfl⟩
theorem opRow_6 {op : Int} (h : (op == 6) = true) : opKids op = 1 ∧ opMarks op = ⟨#[126]⟩ ∧ opOk op = true := by
  have e : op = 6 := by simpa using h
  subst e
  exact ⟨rfl, rfl, rfl⟩
theorem opRow_7 {op : Int} (h : (op == 7) = true) : opKids op = 1 ∧ opMarks op = ⟨#[94]⟩ ∧ opOk op = true := by
  have e : op = 7 := by simpa using h
  subst e
  exact ⟨rfl, rfl, rfl⟩
theorem opRow_8 {op : Int} (h : (op == 8) = true) : opKids op = 2 ∧ opMarks op = ⟨#[40, 43, 41]⟩ ∧ opOk op = true := by
  have e : op = 8 := by simpa using h
  subst e
  exact ⟨rfl, rfl, rfl⟩
theorem opRow_9 {op : Int} (h : (op == 9) = true) : opKids op = 2 ∧ opMarks op = ⟨#[40, 45, 41]⟩ ∧ opOk op = true := by
  have e : op = 9 := by simpa using h
  subst e
  exact ⟨rfl, rfl, rfl⟩
theorem opRow_10 {op : Int} (h : (op == 10) = true) : opKids op = 3 ∧ opMarks op = ⟨#[91, 63, 58, 93]⟩ ∧ opOk op = true := by
  have e : op = 10 := by simpa using h
  subst e
  exact ⟨rfl, rfl, rfl⟩
theorem opRow_no {op : Int} (h4 : (op == 4) = false) (h5 : (op == 5) = false) (h6 : (op == 6) = false) (h7 : (op == 7) = false) (h8 : (op == 8) = false) (h9 : (op == 9) = false) (h10 : (op == 10) = false) : opKids op = 0 ∧ opMarks op = ⟨#[]⟩ ∧ opOk op = false := by
  simp only [beq_eq_false_iff_ne] at *
  refine ⟨?_, ?_, ?_⟩
  · unfold opKids; rw [if_neg h4, if_neg h5, if_neg h6, if_neg h7, if_neg h8, if_neg h9, if_neg h10]
  · unfold opMarks; rw [if_neg h4, if_neg h5, if_neg h6, if_neg h7, if_neg h8, if_neg h9, if_neg h10]
  · unfold opOk; rw [decide_eq_false]; omega

set_option maxHeartbeats 400000 in
theorem opOf_calls (op : Int) (w : World) : Calls Try.prog 131 #[.int .i64 op] w (OpRow op w) := by
  go_enter Try.func131, Try.ntmps131
  go_wp2_with fail
  all_goals first
    | (rename (op == 4) = true => ht; obtain ⟨e1, e2, e3⟩ := opRow_4 ht; refine bodyPost_ret (v := .tuple #[.agg #[.int .i64 2, .string ⟨#[40, 32, 41]⟩], .bool true]) (by simp [results, Try.results131, go_sem]) rfl ⟨by rw [e1, e2, e3], box_below _ _⟩)
    | (rename (op == 5) = true => ht; obtain ⟨e1, e2, e3⟩ := opRow_5 ht; refine bodyPost_ret (v := .tuple #[.agg #[.int .i64 2, .string ⟨#[60, 44, 62]⟩], .bool true]) (by simp [results, Try.results131, go_sem]) rfl ⟨by rw [e1, e2, e3], box_below _ _⟩)
    | (rename (op == 6) = true => ht; obtain ⟨e1, e2, e3⟩ := opRow_6 ht; refine bodyPost_ret (v := .tuple #[.agg #[.int .i64 1, .string ⟨#[126]⟩], .bool true]) (by simp [results, Try.results131, go_sem]) rfl ⟨by rw [e1, e2, e3], box_below _ _⟩)
    | (rename (op == 7) = true => ht; obtain ⟨e1, e2, e3⟩ := opRow_7 ht; refine bodyPost_ret (v := .tuple #[.agg #[.int .i64 1, .string ⟨#[94]⟩], .bool true]) (by simp [results, Try.results131, go_sem]) rfl ⟨by rw [e1, e2, e3], box_below _ _⟩)
    | (rename (op == 8) = true => ht; obtain ⟨e1, e2, e3⟩ := opRow_8 ht; refine bodyPost_ret (v := .tuple #[.agg #[.int .i64 2, .string ⟨#[40, 43, 41]⟩], .bool true]) (by simp [results, Try.results131, go_sem]) rfl ⟨by rw [e1, e2, e3], box_below _ _⟩)
    | (rename (op == 9) = true => ht; obtain ⟨e1, e2, e3⟩ := opRow_9 ht; refine bodyPost_ret (v := .tuple #[.agg #[.int .i64 2, .string ⟨#[40, 45, 41]⟩], .bool true]) (by simp [results, Try.results131, go_sem]) rfl ⟨by rw [e1, e2, e3], box_below _ _⟩)
    | (rename (op == 10) = true => ht; obtain ⟨e1, e2, e3⟩ := opRow_10 ht; refine bodyPost_ret (v := .tuple #[.agg #[.int .i64 3, .string ⟨#[91, 63, 58, 93]⟩], .bool true]) (by simp [results, Try.results131, go_sem]) rfl ⟨by rw [e1, e2, e3], box_below _ _⟩)
    | (rename (op == 4) = false => h4; rename (op == 5) = false => h5; rename (op == 6) = false => h6; rename (op == 7) = false => h7; rename (op == 8) = false => h8; rename (op == 9) = false => h9; rename (op == 10) = false => h10; obtain ⟨e1, e2, e3⟩ := opRow_no h4 h5 h6 h7 h8 h9 h10; refine bodyPost_ret (v := .tuple #[.agg #[.int .i64 0, .string ⟨#[]⟩], .bool false]) (by simp [results, Try.results131, go_sem]) rfl ⟨by rw [e1, e2, e3], box_below _ _⟩)

set_option maxHeartbeats 400000 in
theorem nodeOf_1 (n : Int) (len : Nat) (w : World) : Calls Try.prog 126 #[.int .i64 1, .int .i64 n, .int .i64 (len : Int)] w fun e w' => e = .returned (.tuple #[.iface 159 (.int .i64 n), .bool ((len : Int) == 0)]) ∧ Below w.heap.size w w' := by
  go_enter Try.func126, Try.ntmps126
  go_wp2_with fail
  go_ret2
  exact ⟨rfl, Below.refl _ _⟩

set_option maxHeartbeats 400000 in
theorem nodeOf_2 (n : Int) (len : Nat) (w : World) : Calls Try.prog 126 #[.int .i64 2, .int .i64 n, .int .i64 (len : Int)] w fun e w' => e = .returned (.tuple #[.iface 160 (.int .i64 n), .bool ((len : Int) == 0)]) ∧ Below w.heap.size w w' := by
  go_enter Try.func126, Try.ntmps126
  go_wp2_with fail
  go_ret2
  exact ⟨rfl, Below.refl _ _⟩

set_option maxHeartbeats 400000 in
theorem nodeOf_3 (n : Int) (len : Nat) (w : World) : Calls Try.prog 126 #[.int .i64 3, .int .i64 n, .int .i64 (len : Int)] w fun e w' => e = .returned (.tuple #[.iface 161 (.int .i64 n), .bool ((len : Int) == 0)]) ∧ Below w.heap.size w w' := by
  go_enter Try.func126, Try.ntmps126
  go_wp2_with fail
  go_ret2
  exact ⟨rfl, Below.refl _ _⟩

theorem ret_node {v : Value} {a b : Bool} (h : a = b) : Ending.returned (.tuple #[v, .bool a]) = .returned (.tuple #[v, .bool b]) := by rw [h]
/-- nodeOf has handed back a node with operands -/
def OpNode (op : Int) (b : Bool) (w : World) (e : Ending) (w' : World) : Prop := e = .returned (.tuple #[.iface 163 (.agg #[.int .i64 (opKids op), .string (opMarks op)]), .bool b]) ∧ Below w.heap.size w w'
theorem opKids_range (op : Int) : 0 ≤ opKids op ∧ opKids op ≤ 3 := by
  unfold opKids
  repeat' split
  all_goals omega

set_option maxHeartbeats 800000 in
theorem nodeOf_op (op n : Int) (len : Nat) (w : World) (t1 : (op == 1) = false) (t2 : (op == 2) = false) (t3 : (op == 3) = false) :
    Calls Try.prog 126 #[.int .i64 op, .int .i64 n, .int .i64 (len : Int)] w (OpNode op (opOk op && ((n == 0) && ((len : Int) == opKids op))) w) := by
  have hkr := opKids_range op
  go_enter Try.func126, Try.ntmps126
  go_wp2_with fail
  refine (opOf_calls op _).mono ?_
  rintro e w1 ⟨rfl, hb⟩
  have HB : Hid (Below w.heap.size w w1) := hb
  have hle : w.heap.size ≤ w1.heap.size := hb.size
  clear hb
  cases hok : opOk op with
  | false =>
    have HV : Hid ((opOk op && ((n == 0) && ((len : Int) == opKids op))) = false) := by simp [Hid, hok]
    go_wp2_with fail
    have k3 := cell_regrown (box_cell w1 #[.int .i64 (opKids op), .string (opMarks op)] 163 0 _ rfl)
    have k4 := cell_regrown (box_cell w1 #[.int .i64 (opKids op), .string (opMarks op)] 163 1 _ rfl)
    refine wp_region_quiet_below (by kernel_rfl) (by kernel_rfl) ?_
    repeat (any_goals (first | go_big_quiet_step (fail) | quiet_step (fail)))
    refine wpQuiet_nil ?_
    intro _ hw'
    obtain ⟨⟨dq, osq⟩, hw''⟩ := hw'
    subst hw''
    clear k3 k4
    go_wp2_with fail
    go_ret2
    exact ⟨ret_node HV.out.symm, HB.out.trans ((box_below _ _).trans ((below_regrown _ _ _).mono (by rw [Deep.nblk_alloc]; omega)) |>.mono hle)⟩
  | true =>
    by_cases hn : n = 0
    · subst hn
      by_cases hl : (len : Int) = opKids op
      · have hl' : ((len : Int) == opKids op) = true := by simpa using hl
        have HV : Hid ((opOk op && (((0 : Int) == 0) && ((len : Int) == opKids op))) = true) := by simp [Hid, hok, hl']
        clear hl
        go_wp2_with fail
        have k3 := cell_regrown (box_cell w1 #[.int .i64 (opKids op), .string (opMarks op)] 163 0 _ rfl)
        have k4 := cell_regrown (box_cell w1 #[.int .i64 (opKids op), .string (opMarks op)] 163 1 _ rfl)
        refine wp_region_quiet_below (by kernel_rfl) (by kernel_rfl) ?_
        repeat (any_goals (first | go_big_quiet_step (fail) | quiet_step (fail)))
        refine wpQuiet_nil ?_
        intro _ hw'
        obtain ⟨⟨dq, osq⟩, hw''⟩ := hw'
        subst hw''
        clear k3 k4
        go_wp2_with fail
        go_ret2
        exact ⟨ret_node HV.out.symm, HB.out.trans ((box_below _ _).trans ((below_regrown _ _ _).mono (by rw [Deep.nblk_alloc]; omega)) |>.mono hle)⟩
      · have hl' : ((len : Int) == opKids op) = false := by simpa using hl
        have HV : Hid ((opOk op && (((0 : Int) == 0) && ((len : Int) == opKids op))) = false) := by simp [Hid, hok, hl']
        clear hl
        go_wp2_with fail
        have k3 := cell_regrown (box_cell w1 #[.int .i64 (opKids op), .string (opMarks op)] 163 0 _ rfl)
        have k4 := cell_regrown (box_cell w1 #[.int .i64 (opKids op), .string (opMarks op)] 163 1 _ rfl)
        refine wp_region_quiet_below (by kernel_rfl) (by kernel_rfl) ?_
        repeat (any_goals (first | go_big_quiet_step (fail) | quiet_step (fail)))
        refine wpQuiet_nil ?_
        intro _ hw'
        obtain ⟨⟨dq, osq⟩, hw''⟩ := hw'
        subst hw''
        clear k3 k4
        go_wp2_with fail
        go_ret2
        exact ⟨ret_node HV.out.symm, HB.out.trans ((box_below _ _).trans ((below_regrown _ _ _).mono (by rw [Deep.nblk_alloc]; omega)) |>.mono hle)⟩
    · have hn' : (n == 0) = false := by simpa using hn
      have HV : Hid ((opOk op && ((n == 0) && ((len : Int) == opKids op))) = false) := by simp [Hid, hok, hn']
      go_wp2_with fail
      have k3 := cell_regrown (box_cell w1 #[.int .i64 (opKids op), .string (opMarks op)] 163 0 _ rfl)
      have k4 := cell_regrown (box_cell w1 #[.int .i64 (opKids op), .string (opMarks op)] 163 1 _ rfl)
      refine wp_region_quiet_below (by kernel_rfl) (by kernel_rfl) ?_
      repeat (any_goals (first | go_big_quiet_step (fail) | quiet_step (fail)))
      refine wpQuiet_nil ?_
      intro _ hw'
      obtain ⟨⟨dq, osq⟩, hw''⟩ := hw'
      subst hw''
      clear k3 k4
      go_wp2_with fail
      go_ret2
      exact ⟨ret_node HV.out.symm, HB.out.trans ((box_below _ _).trans ((below_regrown _ _ _).mono (by rw [Deep.nblk_alloc]; omega)) |>.mono hle)⟩
end Go.Proofs.Ytocnkjicmchbdaa
