/-
  CODE AS A LIST OF INSTRUCTIONS: the heights of its stack, the trees that it builds, what of it is valid. Plain lists, no memory.
-/
import Derived.Test.YthknbafcnobgdaaPlain
namespace Go.Proofs.Ythknbafcnobgdaa
set_option linter.unusedVariables false
set_option linter.unusedSimpArgs false
open Go.RowKit

/-- an instruction -/
structure Ins where
  op : Int
  num : Int
instance : Inhabited Ins := ⟨⟨0, 0⟩⟩

/-- the operands of an instruction, as a number -/
def arN (op : Int) : Nat := (arity op).toNat
/-- the height behind an instruction, if there are enough elements -/
def hstp (h : Nat) (c : Ins) : Option Nat := if 0 ≤ arity c.op ∧ arN c.op ≤ h then some (h - arN c.op + 1) else none
/-- the stack of trees behind an instruction -/
def stp (s : List Tr) (c : Ins) : Option (List Tr) :=
  if 0 ≤ arity c.op ∧ arN c.op ≤ s.length then some (s.take (s.length - arN c.op) ++ [.node c.op c.num (s.drop (s.length - arN c.op))]) else none
def runC : List Tr → List Ins → Option (List Tr)
  | s, [] => some s
  | s, c :: cs => (stp s c).bind fun s' => runC s' cs
/-- the height that a list of heights ends with -/
def topH (ds : List Nat) : Nat := ds.getLastD 0
def dstp (ds : List Nat) (c : Ins) : Option (List Nat) := (hstp (topH ds) c).map fun h => ds ++ [h]
def dsC : List Nat → List Ins → Option (List Nat)
  | ds, [] => some ds
  | ds, c :: cs => (dstp ds c).bind fun ds' => dsC ds' cs
/-- the greatest -/
def mxL (ds : List Nat) : Nat := ds.foldl max 0

theorem mxL_snoc (ds : List Nat) (h : Nat) : mxL (ds ++ [h]) = max (mxL ds) h := by simp [mxL, List.foldl_append]
theorem topH_snoc (ds : List Nat) (h : Nat) : topH (ds ++ [h]) = h := by simp [topH]
theorem arity_cases (op : Int) : arity op = -1 ∨ (0 ≤ arity op ∧ arity op = arN op ∧ arN op ≤ 3) := by
  unfold arN arity
  split
  · right; simp
  split
  · right; simp
  split
  · right; simp
  split
  · right; simp
  · left; rfl

theorem runC_append (s : List Tr) (a b : List Ins) : runC s (a ++ b) = (runC s a).bind fun t => runC t b := by
  induction a generalizing s with
  | nil => rfl
  | cons c a ih =>
    simp only [List.cons_append, runC]
    cases h : stp s c with
    | none => rfl
    | some s' => simp only [Option.bind_some]; exact ih s'
theorem dsC_append (s : List Nat) (a b : List Ins) : dsC s (a ++ b) = (dsC s a).bind fun t => dsC t b := by
  induction a generalizing s with
  | nil => rfl
  | cons c a ih =>
    simp only [List.cons_append, dsC]
    cases h : dstp s c with
    | none => rfl
    | some s' => simp only [Option.bind_some]; exact ih s'
theorem runC_succ (s : List Tr) (cs : List Ins) (k : Nat) (hk : k < cs.length) : runC s (cs.take (k + 1)) = (runC s (cs.take k)).bind fun t => stp t cs[k] := by
  rw [List.take_succ_eq_append_getElem hk, runC_append]
  congr 1
  funext t
  simp only [runC]
  cases stp t cs[k] <;> rfl
theorem dsC_succ (s : List Nat) (cs : List Ins) (k : Nat) (hk : k < cs.length) : dsC s (cs.take (k + 1)) = (dsC s (cs.take k)).bind fun t => dstp t cs[k] := by
  rw [List.take_succ_eq_append_getElem hk, dsC_append]
  congr 1
  funext t
  simp only [dsC]
  cases dstp t cs[k] <;> rfl
theorem runC_stop {s : List Tr} {cs : List Ins} {k : Nat} (h : runC s (cs.take k) = none) : runC s cs = none := by
  rw [← List.take_append_drop k cs, runC_append, h]; rfl
theorem dsC_stop {s : List Nat} {cs : List Ins} {k : Nat} (h : dsC s (cs.take k) = none) : dsC s cs = none := by
  rw [← List.take_append_drop k cs, dsC_append, h]; rfl
theorem stp_len (s : List Tr) (c : Ins) : (stp s c).map List.length = hstp s.length c := by
  unfold stp hstp
  split
  · rename_i h
    simp only [Option.map_some, List.length_append, List.length_take, List.length_cons, List.length_nil]
    congr 1
    omega
  · rfl
theorem dsC_len {s d : List Nat} {cs : List Ins} (h : dsC s cs = some d) : d.length = s.length + cs.length := by
  induction cs generalizing s with
  | nil => simp only [dsC, Option.some.injEq] at h; subst h; simp
  | cons c cs ih =>
    simp only [dsC] at h
    cases e : dstp s c with
    | none => rw [e] at h; cases h
    | some s' =>
      rw [e, Option.bind_some] at h
      have := ih h
      unfold dstp at e
      cases e2 : hstp (topH s) c with
      | none => rw [e2] at e; cases e
      | some x =>
        rw [e2] at e
        simp only [Option.map_some, Option.some.injEq] at e
        subst e
        simp at this ⊢
        omega
theorem runC_ds (s : List Tr) (ds : List Nat) (cs : List Ins) (h : topH ds = s.length) : (runC s cs).map List.length = (dsC ds cs).map topH := by
  induction cs generalizing s ds with
  | nil => simp [runC, dsC, h]
  | cons c cs ih =>
    simp only [runC, dsC]
    have e := stp_len s c
    unfold dstp
    rw [h]
    cases e2 : hstp s.length c with
    | none =>
      rw [e2] at e
      cases e3 : stp s c with
      | none => rfl
      | some s' => rw [e3] at e; cases e
    | some x =>
      rw [e2] at e
      cases e3 : stp s c with
      | none => rw [e3] at e; cases e
      | some s' =>
        rw [e3] at e
        simp only [Option.map_some, Option.some.injEq] at e
        simp only [Option.bind_some, Option.map_some]
        exact ih s' _ (by rw [topH_snoc, e])
theorem height_le {ds : List Nat} {cs : List Ins} {d : List Nat} (h : dsC ds cs = some d) : topH d ≤ topH ds + cs.length := by
  induction cs generalizing ds with
  | nil => simp only [dsC, Option.some.injEq] at h; subst h; simp
  | cons c cs ih =>
    simp only [dsC] at h
    cases e : dstp ds c with
    | none => rw [e] at h; cases h
    | some s' =>
      rw [e, Option.bind_some] at h
      have := ih h
      unfold dstp at e
      cases e2 : hstp (topH ds) c with
      | none => rw [e2] at e; cases e
      | some x =>
        rw [e2] at e
        simp only [Option.map_some, Option.some.injEq] at e
        subst e
        rw [topH_snoc] at this
        unfold hstp at e2
        split at e2
        · simp only [Option.some.injEq] at e2
          simp only [List.length_cons]
          omega
        · cases e2

/-- the greatest height, or 0 -/
def stackO (cs : List Ins) : Nat := match dsC [] cs with
  | some ds => mxL ds
  | none => 0

/-! ### What the trees of code bear -/
/-- something of each node -/
def AllN (R : Int → Int → Prop) : Tr → Prop
  | .node o n ks => R o n ∧ ∀ k ∈ ks, AllN R k
theorem allN_iff {R : Int → Int → Prop} {t : Tr} : AllN R t ↔ R t.op t.num ∧ ∀ k ∈ t.kids, AllN R k := by
  cases t; rw [AllN]; rfl
theorem stp_all {R : Int → Int → Prop} {s s' : List Tr} {c : Ins} (h : stp s c = some s') : (∀ t ∈ s', AllN R t) ↔ (∀ t ∈ s, AllN R t) ∧ R c.op c.num := by
  unfold stp at h
  split at h
  · simp only [Option.some.injEq] at h
    subst h
    simp only [List.mem_append, List.mem_singleton]
    constructor
    · intro hh
      have h1 := allN_iff.1 (hh _ (Or.inr rfl))
      refine ⟨fun t ht => ?_, h1.1⟩
      rw [← List.take_append_drop (s.length - arN c.op) s, List.mem_append] at ht
      rcases ht with ht | ht
      · exact hh _ (Or.inl ht)
      · exact h1.2 _ ht
    · rintro ⟨h1, h2⟩ t (ht | rfl)
      · exact h1 _ (List.mem_of_mem_take ht)
      · exact allN_iff.2 ⟨h2, fun k hk => h1 _ (List.mem_of_mem_drop hk)⟩
  · cases h
theorem runC_all {R : Int → Int → Prop} {s s' : List Tr} {cs : List Ins} (h : runC s cs = some s') : (∀ t ∈ s', AllN R t) ↔ (∀ t ∈ s, AllN R t) ∧ ∀ c ∈ cs, R c.op c.num := by
  induction cs generalizing s with
  | nil => simp only [runC, Option.some.injEq] at h; subst h; simp
  | cons c cs ih =>
    simp only [runC] at h
    cases e : stp s c with
    | none => rw [e] at h; cases h
    | some s1 =>
      rw [e, Option.bind_some] at h
      rw [ih h, stp_all e]
      simp only [List.mem_cons, forall_eq_or_imp]
      constructor
      · rintro ⟨⟨a, b⟩, c⟩; exact ⟨a, b, c⟩
      · rintro ⟨a, b, c⟩; exact ⟨⟨a, b⟩, c⟩
theorem stp_sz {s s' : List Tr} {c : Ins} (h : stp s c = some s') : szL s' = szL s + 1 := by
  unfold stp at h
  split at h
  · simp only [Option.some.injEq] at h
    subst h
    rw [szL_append]
    have := congrArg szL (List.take_append_drop (s.length - arN c.op) s)
    rw [szL_append] at this
    rw [← this]
    simp only [szL_sum (l := [_]), sumT_cons, sumT_nil, szT_eq, Tr.kids_node, List.length_cons, List.length_nil]
    omega
  · cases h
theorem runC_sz {s s' : List Tr} {cs : List Ins} (h : runC s cs = some s') : szL s' = szL s + cs.length := by
  induction cs generalizing s with
  | nil => simp only [runC, Option.some.injEq] at h; subst h; simp
  | cons c cs ih =>
    simp only [runC] at h
    cases e : stp s c with
    | none => rw [e] at h; cases h
    | some s1 =>
      rw [e, Option.bind_some] at h
      rw [ih h, stp_sz e]
      simp only [List.length_cons]
      omega

theorem shB_all {vars defs : Int} : ∀ (d : Nat) (t : Tr), shB vars defs d t = true → AllN (fun o n => 0 ≤ arity o ∧ ownB o n vars defs = true) t
  | 0, _, h => by simp [shB] at h
  | d + 1, t, h => by
    simp only [shB, Bool.and_eq_true, List.all_eq_true, decide_eq_true_eq] at h
    obtain ⟨⟨h1, h2⟩, h3⟩ := h
    exact allN_iff.2 ⟨⟨by omega, h2⟩, fun k hk => shB_all d k (h3 k hk)⟩

/-- the expression of code, if it leaves one tree -/
def oneC (cs : List Ins) : Option Tr := match runC [] cs with
  | some [t] => some t
  | _ => none
/-- code that is valid -/
def codeB (cs : List Ins) (vars defs : Int) : Bool := decide (cs.length ≤ 60) && match oneC cs with
  | some t => validB t vars defs
  | none => false
/-- .. and its expression, or the zero value -/
def decO (cs : List Ins) (vars defs : Int) : Tr × Bool := match oneC cs with
  | some t => if codeB cs vars defs = true then (t, true) else (.node 0 0 [], false)
  | none => (.node 0 0 [], false)

theorem oneC_some {cs : List Ins} {t : Tr} (h : oneC cs = some t) : runC [] cs = some [t] := by
  unfold oneC at h
  split at h
  · simp only [Option.some.injEq] at h; subst h; assumption
  · cases h
theorem oneC_of {cs : List Ins} {t : Tr} (h : runC [] cs = some [t]) : oneC cs = some t := by unfold oneC; rw [h]
theorem oneC_top {cs : List Ins} {ds : List Nat} (h : dsC [] cs = some ds) (h1 : topH ds = 1) : ∃ t, runC [] cs = some [t] := by
  have e := runC_ds [] [] cs rfl
  rw [h, Option.map_some, h1] at e
  cases e2 : runC [] cs with
  | none => rw [e2] at e; cases e
  | some s =>
    rw [e2] at e
    simp only [Option.map_some, Option.some.injEq] at e
    obtain ⟨t, rfl⟩ := List.length_eq_one_iff.1 e
    exact ⟨t, rfl⟩
theorem oneC_none {cs : List Ins} (h : ∀ ds, dsC [] cs = some ds → topH ds ≠ 1) : oneC cs = none := by
  unfold oneC
  split
  · rename_i t e
    have e2 := runC_ds [] [] cs rfl
    rw [e] at e2
    cases e3 : dsC [] cs with
    | none => rw [e3] at e2; cases e2
    | some ds =>
      rw [e3] at e2
      simp only [Option.map_some, Option.some.injEq, List.length_cons, List.length_nil] at e2
      exact absurd (by omega) (h ds e3)
  · rfl
theorem codeB_none {cs : List Ins} {vars defs : Int} (h : oneC cs = none) : codeB cs vars defs = false := by unfold codeB; rw [h]; simp
theorem codeB_long {cs : List Ins} {vars defs : Int} (h : 60 < cs.length) : codeB cs vars defs = false := by
  unfold codeB; rw [decide_eq_false (by omega)]; rfl
theorem codeB_one {cs : List Ins} {vars defs : Int} {t : Tr} (h : oneC cs = some t) (hl : cs.length ≤ 60) : codeB cs vars defs = validB t vars defs := by
  unfold codeB; rw [decide_eq_true hl, h]; rfl
/-- an instruction that is not right by itself -/
theorem codeB_own {cs : List Ins} {vars defs : Int} {k : Nat} (hk : k < cs.length) (h : ¬ (0 ≤ arity cs[k].op ∧ ownB cs[k].op cs[k].num vars defs = true)) : codeB cs vars defs = false := by
  by_cases hl : cs.length ≤ 60
  · cases e : oneC cs with
    | none => exact codeB_none e
    | some t =>
      rw [codeB_one e hl]
      cases e2 : validB t vars defs with
      | false => rfl
      | true =>
        exfalso
        simp only [validB, Bool.and_eq_true] at e2
        have h1 := (runC_all (oneC_some e) (R := fun o n => 0 ≤ arity o ∧ ownB o n vars defs = true)).1 (fun x hx => by
          rw [List.mem_singleton] at hx; subst hx; exact shB_all 16 _ e2.2.1)
        exact h (h1.2 _ (List.getElem_mem hk))
  · exact codeB_long (by omega)
theorem decO_valid {cs : List Ins} {vars defs : Int} : (decO cs vars defs).2 = codeB cs vars defs := by
  unfold decO
  cases e : oneC cs with
  | none => exact (codeB_none e).symm
  | some t => cases h : codeB cs vars defs <;> simp
theorem decO_true {cs : List Ins} {vars defs : Int} (h : codeB cs vars defs = true) : ∃ t, oneC cs = some t ∧ decO cs vars defs = (t, true) := by
  cases e : oneC cs with
  | none => rw [codeB_none e] at h; cases h
  | some t => exact ⟨t, rfl, by unfold decO; rw [e]; simp [h]⟩
theorem decO_false {cs : List Ins} {vars defs : Int} (h : codeB cs vars defs = false) : decO cs vars defs = (.node 0 0 [], false) := by
  unfold decO
  cases e : oneC cs with
  | none => rfl
  | some t => simp [h]
theorem decO_sz (cs : List Ins) (vars defs : Int) : szL (decO cs vars defs).1.kids ≤ 60 := by
  cases h : codeB cs vars defs with
  | false => rw [decO_false h]; simp [szL]
  | true =>
    obtain ⟨t, ht, hd⟩ := decO_true h
    rw [hd]
    have h1 := runC_sz (oneC_some ht)
    have hl : cs.length ≤ 60 := by
      rcases Nat.lt_or_ge 60 cs.length with h2 | h2
      · rw [codeB_long h2] at h; cases h
      · exact h2
    rw [szL_sum [t]] at h1
    simp only [sumT_cons, sumT_nil, List.length_cons, List.length_nil] at h1
    have h2 := szT_eq t
    have h3 : szL ([] : List Tr) = 0 := rfl
    show szL t.kids ≤ 60
    omega
end Go.Proofs.Ythknbafcnobgdaa
