/-
  CODE AS A LIST OF INSTRUCTIONS: the heights of its stack, the trees that it builds, what of it is valid. Plain lists, no memory.
-/
import Derived.Test.YtekdipmioogohaaMgCodeTwo1
import Derived.Test.YtekdipmioogohaaProg
import Derived.Deep.QuietTactic
import Derived.BigQuiet
import Derived.WalkSmall
import Derived.Deep.RegionHeld3
import Derived.Deep.RegionWith
import Derived.Deep.DeepMust
import Derived.Test.YtekdipmioogohaaMgCodeTwo2
import Derived.Lib.AppendZerosOnto
import Derived.Laws.AppendOwn
namespace Go.Proofs.Ytekdipmioogohaa
set_option linter.unusedVariables false
set_option linter.unusedSimpArgs false
open Go.RowKit

/-- an instruction -/
structure Ins where
  op : Int
  num : Int
instance : Inhabited Ins := ⟨⟨0, 0⟩⟩

/-- the operands of an instruction, as a number -/
def arN (op : Int) : Nat := (arity op).toNat
/-- the height behind an instruction, if there are enough elements -/
def hstp (h : Nat) (c : Ins) : Option Nat := if 0 ≤ arity c.op ∧ arN c.op ≤ h then some (h - arN c.op + 1) else none
/-- the stack of trees behind an instruction -/
def stp (s : List Tr) (c : Ins) : Option (List Tr) :=
  if 0 ≤ arity c.op ∧ arN c.op ≤ s.length then some (s.take (s.length - arN c.op) ++ [.node c.op c.num (s.drop (s.length - arN c.op))]) else none
def runC : List Tr → List Ins → Option (List Tr)
  | s, [] => some s
  | s, c :: cs => (stp s c).bind fun s' => runC s' cs
/-- the height that a list of heights ends with -/
def topH (ds : List Nat) : Nat := ds.getLastD 0
def dstp (ds : List Nat) (c : Ins) : Option (List Nat) := (hstp (topH ds) c).map fun h => ds ++ [h]
def dsC : List Nat → List Ins → Option (List Nat)
  | ds, [] => some ds
  | ds, c :: cs => (dstp ds c).bind fun ds' => dsC ds' cs
/-- the greatest -/
def mxL (ds : List Nat) : Nat := ds.foldl max 0

theorem mxL_snoc (ds : List Nat) (h : Nat) : mxL (ds ++ [h]) = max (mxL ds) h := by simp [mxL, List.foldl_append]
theorem topH_snoc (ds : List Nat) (h : Nat) : topH (ds ++ [h]) = h := by simp [topH]
theorem arity_cases (op : Int) : arity op = -1 ∨ (0 ≤ arity op ∧ arity op = arN op ∧ arN op ≤ 3) := by
  unfold arN arity
  split
  · right; simp
  split
  · right; simp
  split
  · right; simp
  split
  · right; simp
  · left; rfl

theorem runC_append (s : List Tr) (a b : List Ins) : runC s (a ++ b) = (runC s a).bind fun t => runC t b := by
  induction a generalizing s with
  | nil => rfl
  | cons c a ih =>
    simp only [List.cons_append, runC]
    cases h : stp s c with
    | none => rfl
    | some s' => simp only [Option.bind_some]; exact ih s'
theorem dsC_append (s : List Nat) (a b : List Ins) : dsC s (a ++ b) = (dsC s a).bind fun t => dsC t b := by
  induction a generalizing s with
  | nil => rfl
  | cons c a ih =>
    simp only [List.cons_append, dsC]
    cases h : dstp s c with
    | none => rfl
    | some s' => simp only [Option.bind_some]; exact ih s'
theorem runC_succ (s : List Tr) (cs : List Ins) (k : Nat) (hk : k < cs.length) : runC s (cs.take (k + 1)) = (runC s (cs.take k)).bind fun t => stp t cs[k] := by
  rw [List.take_succ_eq_append_getElem hk, runC_append]
  congr 1
  funext t
  simp only [runC]
  cases stp t cs[k] <;> rfl
theorem dsC_succ (s : List Nat) (cs : List Ins) (k : Nat) (hk : k < cs.length) : dsC s (cs.take (k + 1)) = (dsC s (cs.take k)).bind fun t => dstp t cs[k] := by
  rw [List.take_succ_eq_append_getElem hk, dsC_append]
  congr 1
  funext t
  simp only [dsC]
  cases dstp t cs[k] <;> rfl
theorem runC_stop {s : List Tr} {cs : List Ins} {k : Nat} (h : runC s (cs.take k) = none) : runC s cs = none := by
  rw [← List.take_append_drop k cs, runC_append, h]; rfl
theorem dsC_stop {s : List Nat} {cs : List Ins} {k : Nat} (h : dsC s (cs.take k) = none) : dsC s cs = none := by
  rw [← List.take_append_drop k cs, dsC_append, h]; rfl
theorem stp_len (s : List Tr) (c : Ins) : (stp s c).map List.length = hstp s.length c := by
  unfold stp hstp
  split
  · rename_i h
    simp only [Option.map_some, List.length_append, List.length_take, List.length_cons, List.length_nil]
    congr 1
    omega
  · rfl
theorem dsC_len {s d : List Nat} {cs : List Ins} (h : dsC s cs = some d) : d.length = s.length + cs.length := by
  induction cs generalizing s with
  | nil => simp only [dsC, Option.some.injEq] at h; subst h; simp
  | cons c cs ih =>
    simp only [dsC] at h
    cases e : dstp s c with
    | none => rw [e] at h; cases h
    | some s' =>
      rw [e, Option.bind_some] at h
      have := ih h
      unfold dstp at e
      cases e2 : hstp (topH s) c with
      | none => rw [e2] at e; cases e
      | some x =>
        rw [e2] at e
        simp only [Option.map_some, Option.some.injEq] at e
        subst e
        simp at this ⊢
        omega
theorem runC_ds (s : List Tr) (ds : List Nat) (cs : List Ins) (h : topH ds = s.length) : (runC s cs).map List.length = (dsC ds cs).map topH := by
  induction cs generalizing s ds with
  | nil => simp [runC, dsC, h]
  | cons c cs ih =>
    simp only [runC, dsC]
    have e := stp_len s c
    unfold dstp
    rw [h]
    cases e2 : hstp s.length c with
    | none =>
      rw [e2] at e
      cases e3 : stp s c with
      | none => rfl
      | some s' => rw [e3] at e; cases e
    | some x =>
      rw [e2] at e
      cases e3 : stp s c with
      | none => rw [e3] at e; cases e
      | some s' =>
        rw [e3] at e
        simp only [Option.map_some, Option.some.injEq] at e
        simp only [Option.bind_some, Option.map_some]
        exact ih s' _ (by rw [topH_snoc, e])
theorem height_le {ds : List Nat} {cs : List Ins} {d : List Nat} (h : dsC ds cs = some d) : topH d ≤ topH ds + cs.length := by
  induction cs generalizing ds with
  | nil => simp only [dsC, Option.some.injEq] at h; subst h; simp
  | cons c cs ih =>
    simp only [dsC] at h
    cases e : dstp ds c with
    | none => rw [e] at h; cases h
    | some s' =>
      rw [e, Option.bind_some] at h
      have := ih h
      unfold dstp at e
      cases e2 : hstp (topH ds) c with
      | none => rw [e2] at e; cases e
      | some x =>
        rw [e2] at e
        simp only [Option.map_some, Option.some.injEq] at e
        subst e
        rw [topH_snoc] at this
        unfold hstp at e2
        split at e2
        · simp only [Option.some.injEq] at e2
          simp only [List.length_cons]
          omega
        · cases e2

/-- the greatest height, or 0 -/
def stackO (cs : List Ins) : Nat := match dsC [] cs with
  | some ds => mxL ds
  | none => 0

/-! ### What the trees of code bear -/
/-- something of each node -/
def AllN (R : Int → Int → Prop) : Tr → Prop
  | .node o n ks => R o n ∧ ∀ k ∈ ks, AllN R k
theorem allN_iff {R : Int → Int → Prop} {t : Tr} : AllN R t ↔ R t.op t.num ∧ ∀ k ∈ t.kids, AllN R k := by
  cases t; rw [AllN]; rfl
theorem stp_all {R : Int → Int → Prop} {s s' : List Tr} {c : Ins} (h : stp s c = some s') : (∀ t ∈ s', AllN R t) ↔ (∀ t ∈ s, AllN R t) ∧ R c.op c.num := by
  unfold stp at h
  split at h
  · simp only [Option.some.injEq] at h
    subst h
    simp only [List.mem_append, List.mem_singleton]
    constructor
    · intro hh
      have h1 := allN_iff.1 (hh _ (Or.inr rfl))
      refine ⟨fun t ht => ?_, h1.1⟩
      rw [← List.take_append_drop (s.length - arN c.op) s, List.mem_append] at ht
      rcases ht with ht | ht
      · exact hh _ (Or.inl ht)
      · exact h1.2 _ ht
    · rintro ⟨h1, h2⟩ t (ht | rfl)
      · exact h1 _ (List.mem_of_mem_take ht)
      · exact allN_iff.2 ⟨h2, fun k hk => h1 _ (List.mem_of_mem_drop hk)⟩
  · cases h
theorem runC_all {R : Int → Int → Prop} {s s' : List Tr} {cs : List Ins} (h : runC s cs = some s') : (∀ t ∈ s', AllN R t) ↔ (∀ t ∈ s, AllN R t) ∧ ∀ c ∈ cs, R c.op c.num := by
  induction cs generalizing s with
  | nil => simp only [runC, Option.some.injEq] at h; subst h; simp
  | cons c cs ih =>
    simp only [runC] at h
    cases e : stp s c with
    | none => rw [e] at h; cases h
    | some s1 =>
      rw [e, Option.bind_some] at h
      rw [ih h, stp_all e]
      simp only [List.mem_cons, forall_eq_or_imp]
      constructor
      · rintro ⟨⟨a, b⟩, c⟩; exact ⟨a, b, c⟩
      · rintro ⟨a, b, c⟩; exact ⟨⟨a, b⟩, c⟩
theorem stp_sz {s s' : List Tr} {c : Ins} (h : stp s c = some s') : szL s' = szL s + 1 := by
  unfold stp at h
  split at h
  · simp only [Option.some.injEq] at h
    subst h
    rw [szL_append]
    have := congrArg szL (List.take_append_drop (s.length - arN c.op) s)
    rw [szL_append] at this
    rw [← this]
    simp only [szL_sum (l := [_]), sumT_cons, sumT_nil, szT_eq, Tr.kids_node, List.length_cons, List.length_nil]
    omega
  · cases h
theorem runC_sz {s s' : List Tr} {cs : List Ins} (h : runC s cs = some s') : szL s' = szL s + cs.length := by
  induction cs generalizing s with
  | nil => simp only [runC, Option.some.injEq] at h; subst h; simp
  | cons c cs ih =>
    simp only [runC] at h
    cases e : stp s c with
    | none => rw [e] at h; cases h
    | some s1 =>
      rw [e, Option.bind_some] at h
      rw [ih h, stp_sz e]
      simp only [List.length_cons]
      omega

theorem shB_all {vars defs : Int} : ∀ (d : Nat) (t : Tr), shB vars defs d t = true → AllN (fun o n => 0 ≤ arity o ∧ ownB o n vars defs = true) t
  | 0, _, h => by simp [shB] at h
  | d + 1, t, h => by
    simp only [shB, Bool.and_eq_true, List.all_eq_true, decide_eq_true_eq] at h
    obtain ⟨⟨h1, h2⟩, h3⟩ := h
    exact allN_iff.2 ⟨⟨by omega, h2⟩, fun k hk => shB_all d k (h3 k hk)⟩

/-- the expression of code, if it leaves one tree -/
def oneC (cs : List Ins) : Option Tr := match runC [] cs with
  | some [t] => some t
  | _ => none
/-- code that is valid -/
def codeB (cs : List Ins) (vars defs : Int) : Bool := decide (cs.length ≤ 60) && match oneC cs with
  | some t => validB t vars defs
  | none => false
/-- .. and its expression, or the zero value -/
def decO (cs : List Ins) (vars defs : Int) : Tr × Bool := match oneC cs with
  | some t => if codeB cs vars defs = true then (t, true) else (.node 0 0 [], false)
  | none => (.node 0 0 [], false)

theorem oneC_some {cs : List Ins} {t : Tr} (h : oneC cs = some t) : runC [] cs = some [t] := by
  unfold oneC at h
  split at h
  · simp only [Option.some.injEq] at h; subst h; assumption
  · cases h
theorem oneC_of {cs : List Ins} {t : Tr} (h : runC [] cs = some [t]) : oneC cs = some t := by unfold oneC; rw [h]
theorem oneC_top {cs : List Ins} {ds : List Nat} (h : dsC [] cs = some ds) (h1 : topH ds = 1) : ∃ t, runC [] cs = some [t] := by
  have e := runC_ds [] [] cs rfl
  rw [h, Option.map_some, h1] at e
  cases e2 : runC [] cs with
  | none => rw [e2] at e; cases e
  | some s =>
    rw [e2] at e
    simp only [Option.map_some, Option.some.injEq] at e
    obtain ⟨t, rfl⟩ := List.length_eq_one_iff.1 e
    exact ⟨t, rfl⟩
theorem oneC_none {cs : List Ins} (h : ∀ ds, dsC [] cs = some ds → topH ds ≠ 1) : oneC cs = none := by
  unfold oneC
  split
  · rename_i t e
    have e2 := runC_ds [] [] cs rfl
    rw [e] at e2
    cases e3 : dsC [] cs with
    | none => rw [e3] at e2; cases e2
    | some ds =>
      rw [e3] at e2
      simp only [Option.map_some, Option.some.injEq, List.length_cons, List.length_nil] at e2
      exact absurd (by omega) (h ds e3)
  · rfl
theorem codeB_none {cs : List Ins} {vars defs : Int} (h : oneC cs = none) : codeB cs vars defs = false := by unfold codeB; rw [h]; simp
theorem codeB_long {cs : List Ins} {vars defs : Int} (h : 60 < cs.length) : codeB cs vars defs = false := by
  unfold codeB; rw [decide_eq_false (by omega)]; rfl
theorem codeB_one {cs : List Ins} {vars defs : Int} {t : Tr} (h : oneC cs = some t) (hl : cs.length ≤ 60) : codeB cs vars defs = validB t vars defs := by
  unfold codeB; rw [decide_eq_true hl, h]; rfl
/-- an instruction that is not right by itself -/
theorem codeB_own {cs : List Ins} {vars defs : Int} {k : Nat} (hk : k < cs.length) (h : ¬ (0 ≤ arity cs[k].op ∧ ownB cs[k].op cs[k].num vars defs = true)) : codeB cs vars defs = false := by
  by_cases hl : cs.length ≤ 60
  · cases e : oneC cs with
    | none => exact codeB_none e
    | some t =>
      rw [codeB_one e hl]
      cases e2 : validB t vars defs with
      | false => rfl
      | true =>
        exfalso
        simp only [validB, Bool.and_eq_true] at e2
        have h1 := (runC_all (oneC_some e) (R := fun o n => 0 ≤ arity o ∧ ownB o n vars defs = true)).1 (fun x hx => by
          rw [List.mem_singleton] at hx; subst hx; exact shB_all 16 _ e2.2.1)
        exact h (h1.2 _ (List.getElem_mem hk))
  · exact codeB_long (by omega)
theorem decO_valid {cs : List Ins} {vars defs : Int} : (decO cs vars defs).2 = codeB cs vars defs := by
  unfold decO
  cases e : oneC cs with
  | none => exact (codeB_none e).symm
  | some t => cases h : codeB cs vars defs <;> simp
theorem decO_true {cs : List Ins} {vars defs : Int} (h : codeB cs vars defs = true) : ∃ t, oneC cs = some t ∧ decO cs vars defs = (t, true) := by
  cases e : oneC cs with
  | none => rw [codeB_none e] at h; cases h
  | some t => exact ⟨t, rfl, by unfold decO; rw [e]; simp [h]⟩
theorem decO_false {cs : List Ins} {vars defs : Int} (h : codeB cs vars defs = false) : decO cs vars defs = (.node 0 0 [], false) := by
  unfold decO
  cases e : oneC cs with
  | none => rfl
  | some t => simp [h]
theorem decO_sz (cs : List Ins) (vars defs : Int) : szL (decO cs vars defs).1.kids ≤ 60 := by
  cases h : codeB cs vars defs with
  | false => rw [decO_false h]; simp [szL]
  | true =>
    obtain ⟨t, ht, hd⟩ := decO_true h
    rw [hd]
    have h1 := runC_sz (oneC_some ht)
    have hl : cs.length ≤ 60 := by
      rcases Nat.lt_or_ge 60 cs.length with h2 | h2
      · rw [codeB_long h2] at h; cases h
      · exact h2
    rw [szL_sum [t]] at h1
    simp only [sumT_cons, sumT_nil, List.length_cons, List.length_nil] at h1
    have h2 := szT_eq t
    have h3 : szL ([] : List Tr) = 0 := rfl
    show szL t.kids ≤ 60
    omega
end Go.Proofs.Ytekdipmioogohaa
/-
  make, OF SO MANY INTS: a new row of zeros.
-/
namespace Go.Proofs.Ytekdipmioogohaa
set_option linter.unusedVariables false
set_option linter.unusedSimpArgs false
open Go.RowKit

theorem infoI : (Try.prog.info? 3).map (fun i => (i.zero, i.size, i.bytes)) = some (some (.int .i64 0), 1, 8) := by kernel_rfl
/-- make, of so many ints: a new row of zeros -/
theorem make_ints (n : Nat) (h : n ≤ 1048576) : ∀ w : World, (Instr.makeSlice 44 (.int .i64 (n : Int)) (.int .i64 (n : Int))).run Try.prog w = .ok (.slice (some ⟨w.heap.size, 0, none⟩) n n) (w.alloc (.cells (madeCells #[.int .i64 0] n) 3)) := by
  obtain ⟨i, hi, hzz⟩ := Option.map_eq_some_iff.1 infoI
  simp only [Prod.mk.injEq] at hzz
  obtain ⟨hz, hs, hb⟩ := hzz
  intro w
  have hr := run_make (P := Try.prog) w 44 3 i _ Try.underlying44 hi hz .i64 .i64 n n (by omega) (Int.le_refl _) (by rw [hb]; omega) (by omega)
  simp only [Int.toNat_natCast, hs, Nat.mul_one] at hr
  exact hr
theorem zero_row (w : World) (n : Nat) : (w.alloc (.cells (madeCells #[.int .i64 0] n) 3)).rowIs w.heap.size 3 n (fun i => .int .i64 (((fun _ => 0 : Nat → Nat) i : Nat) : Int)) := by
  have hl : (madeCells #[.int .i64 0] n).toList = List.replicate n (.int .i64 0) := toList_madeCells_one _ _
  have hsz : (madeCells #[.int .i64 0] n).size = n := by rw [← Array.length_toList, hl, List.length_replicate]
  refine ⟨_, Deep.blk_alloc_new _ _, hsz, fun i hi => ?_⟩
  rw [← Array.getElem?_toList, hl, List.getElem?_replicate, if_pos hi]
  rfl
end Go.Proofs.Ytekdipmioogohaa
/-
  SLICES OF INTS IN MEMORY; the laws' own comparison and copy of them (eqIntS, toIntS).
-/
namespace Go.Proofs.Ytekdipmioogohaa
set_option linter.unusedVariables false
set_option linter.unusedSimpArgs false
open Go.RowKit

/-- a slice value that holds these numbers, its block out of S -/
def IntsOn (w : World) (S : Nat → Prop) (xs : List Int) (v : Value) : Prop :=
  ∃ ad cap, v = .slice ad xs.length cap ∧ xs.length ≤ cap ∧ cap ≤ maxLen ∧ (xs = [] ∨ ∃ bl off, ad = some ⟨bl, off, none⟩ ∧ S bl ∧ ∀ i (h : i < xs.length), w.cell? ⟨bl, off + i, none⟩ = some (.int .i64 xs[i]))
/-- .. in a row of its own, from block lo on -/
def IntRow (w : World) (lo : Nat) (xs : List Int) (v : Value) : Prop :=
  ∃ ad cap, v = .slice ad xs.length cap ∧ xs.length ≤ cap ∧ cap ≤ maxLen ∧ (xs = [] ∨ ∃ g f, ad = some ⟨g, 0, none⟩ ∧ lo ≤ g ∧ w.rowIs g 3 cap f ∧ ∀ i (h : i < xs.length), f i = .int .i64 xs[i])
theorem IntRow.on {w : World} {lo : Nat} {xs : List Int} {v : Value} (h : IntRow w lo xs v) : IntsOn w (fun k => lo ≤ k ∧ k < w.heap.size) xs v := by
  obtain ⟨ad, cap, e, l1, l2, h⟩ := h
  refine ⟨ad, cap, e, l1, l2, h.imp id ?_⟩
  rintro ⟨g, f, rfl, hg, hr, hf⟩
  refine ⟨g, 0, rfl, ⟨hg, hr.lt⟩, fun i hi => ?_⟩
  rw [Nat.zero_add, hr.cell (by omega), hf i hi]
theorem IntsOn.mono {w w' : World} {S S' : Nat → Prop} {xs : List Int} {v : Value} (h : IntsOn w S xs v) (hS : ∀ k, S k → S' k) (hw : ∀ k, S k → w'.heap[k]? = w.heap[k]?) : IntsOn w' S' xs v := by
  obtain ⟨ad, cap, e, l1, l2, h⟩ := h
  refine ⟨ad, cap, e, l1, l2, h.imp id ?_⟩
  rintro ⟨bl, off, rfl, hb, hc⟩
  exact ⟨bl, off, rfl, hS _ hb, fun i hi => (World.cell?_of_block (a := ⟨bl, off + i, none⟩) (hw _ hb)).trans (hc i hi)⟩
theorem IntRow.keep {w w' : World} {lo lo' : Nat} {xs : List Int} {v : Value} (h : IntRow w lo xs v) (hl : lo' ≤ lo) (hw : ∀ k, lo ≤ k → k < w.heap.size → w'.heap[k]? = w.heap[k]?) : IntRow w' lo' xs v := by
  obtain ⟨ad, cap, e, l1, l2, h⟩ := h
  refine ⟨ad, cap, e, l1, l2, h.imp id ?_⟩
  rintro ⟨g, f, rfl, hg, hr, hf⟩
  exact ⟨g, f, rfl, by omega, hr.of_block (hw g hg hr.lt), hf⟩
theorem IntRow.next {w w' : World} {lo : Nat} {xs : List Int} {v : Value} (h : IntRow w lo xs v) (hb : Below w.heap.size w w') : IntRow w' lo xs v := h.keep (Nat.le_refl _) fun k _ hk => hb.block k hk
/-- numbers that lie in a world, wherever -/
abbrev IIn (w : World) (xs : List Int) (v : Value) : Prop := IntsOn w (Lt w.heap.size) xs v
theorem IntRow.inn {w : World} {lo : Nat} {xs : List Int} {v : Value} (h : IntRow w lo xs v) : IIn w xs v := h.on.mono (fun k hk => hk.2) fun _ _ => rfl
theorem IntsOn.next {w w' : World} {xs : List Int} {v : Value} (h : IIn w xs v) (hb : Below w.heap.size w w') : IIn w' xs v :=
  h.mono (fun k (hk : k < _) => Nat.lt_of_lt_of_le hk hb.size) fun k hk => hb.block k hk

theorem IntRow.none (w : World) (lo : Nat) : IntRow w lo [] (.slice none 0 0) := ⟨_, _, rfl, Nat.le_refl _, by simp [maxLen], Or.inl rfl⟩
/-- the answer: the numbers in a row of their own -/
def NewInts (xs : List Int) (w : World) (e : Ending) (w' : World) : Prop := ∃ v, e = .returned v ∧ IntRow w' w.heap.size xs v ∧ Below w.heap.size w w'
end Go.Proofs.Ytekdipmioogohaa
/-
  THE LAWS' OWN COPY OF A SLICE OF INTS (toIntS).
-/
namespace Go.Proofs.Ytekdipmioogohaa
set_option linter.unusedVariables false
set_option linter.unusedSimpArgs false
open Go.RowKit

/-! ### The copy -/
/-- what holds of the copy behind k rounds -/
def ToIRel (xs : List Int) (w : World) (k : Nat) (wr : World) : Prop :=
  ∃ f : Nat → Value, wr.rowIs w.heap.size 3 xs.length f ∧ (∀ j (_ : j < k) (hj : j < xs.length), f j = .int .i64 xs[j]) ∧ Below w.heap.size w wr
theorem toIRel_start (xs : List Int) (w : World) : ToIRel xs w 0 (w.alloc (.cells (madeCells #[.int .i64 0] xs.length) 3)) :=
  ⟨_, zero_row w xs.length, fun j hj => absurd hj (by omega), (Below.refl _ _).alloc (Nat.le_refl _) _⟩
theorem toIRel_step {xs : List Int} {w wr : World} {k : Nat} (h : ToIRel xs w k wr) (hk : k < xs.length) : ToIRel xs w (k + 1) (wr.setCell ⟨w.heap.size, k, none⟩ (.int .i64 xs[k])) := by
  obtain ⟨f, hr, ht, hb⟩ := h
  refine ⟨_, hr.set k _, fun j hj hl => ?_, hb.setCell (Nat.le_refl _) _⟩
  by_cases hjk : j = k
  · subst hjk; simp
  · simp [hjk, ht j (by omega) hl]

theorem toIRel_end {xs : List Int} {w wr : World} (h : ToIRel xs w xs.length wr) (hl : xs.length ≤ 1048576) : NewInts xs w (.returned (.slice (some ⟨w.heap.size, 0, none⟩) xs.length xs.length)) wr := by
  obtain ⟨f, hr, ht, hb⟩ := h
  exact ⟨_, rfl, ⟨_, _, rfl, Nat.le_refl _, by unfold maxLen; omega, Or.inr ⟨_, f, rfl, Nat.le_refl _, hr, fun i hi => ht i hi hi⟩⟩, hb⟩

end Go.Proofs.Ytekdipmioogohaa
/-
  GRAPHS IN MEMORY: a slice of cells (Op, N, Kids), three cells of memory each, the operands a slice of ints. The laws' own count, copy and comparison of graphs.
-/
namespace Go.Proofs.Ytekdipmioogohaa
set_option linter.unusedVariables false
set_option linter.unusedSimpArgs false
open Go.RowKit

/-- a cell of a graph -/
structure Ce where
  op : Int
  num : Int
  kids : List Int
instance : Inhabited Ce := ⟨⟨0, 0, []⟩⟩

/-- a slice value that holds these cells, its blocks out of S -/
def CellsOn (w : World) (S : Nat → Prop) (g : List Ce) (v : Value) : Prop :=
  ∃ ad cap, v = .slice ad g.length cap ∧ g.length ≤ cap ∧ cap ≤ maxLen ∧ (g = [] ∨ ∃ bl off, ad = some ⟨bl, off, none⟩ ∧ S bl ∧ ∀ i (hi : i < g.length), ∃ c,
    w.cell? ⟨bl, off + i * 3, none⟩ = some (.int .i64 g[i].op) ∧ w.cell? ⟨bl, off + i * 3 + 1, none⟩ = some (.int .i64 g[i].num) ∧ w.cell? ⟨bl, off + i * 3 + 2, none⟩ = some c ∧ I64 g[i].op ∧ I64 g[i].num ∧ IntsOn w S g[i].kids c)
theorem CellsOn.mono {w w' : World} {S S' : Nat → Prop} {g : List Ce} {v : Value} (h : CellsOn w S g v) (hS : ∀ k, S k → S' k) (hw : ∀ k, S k → w'.heap[k]? = w.heap[k]?) : CellsOn w' S' g v := by
  obtain ⟨ad, cap, e, l1, l2, h5⟩ := h
  refine ⟨ad, cap, e, l1, l2, ?_⟩
  rcases h5 with h5 | ⟨bl, off, e, s, r⟩
  · exact Or.inl h5
  · refine Or.inr ⟨bl, off, e, hS _ s, fun i hi => ?_⟩
    obtain ⟨c, h1, h2, h3, i1, i2, g3⟩ := r i hi
    refine ⟨c, ?_, ?_, ?_, i1, i2, g3.mono hS hw⟩
    all_goals rw [World.cell?_of_block (w := w) (hw bl s)]; assumption
/-- cells that lie in a world, wherever -/
abbrev CIn (w : World) (g : List Ce) (v : Value) : Prop := CellsOn w (Lt w.heap.size) g v
theorem CellsOn.next {w w' : World} {g : List Ce} {v : Value} (h : CIn w g v) (hb : Below w.heap.size w w') : CIn w' g v :=
  h.mono (fun k (hk : k < w.heap.size) => Nat.lt_of_lt_of_le hk hb.size) (fun k hk => hb.block k hk)
theorem CellsOn.drew {w : World} {g : List Ce} {v : Value} (h : CIn w g v) : CIn w.drew g v := h.next ((Below.refl _ _).drew)
theorem IntsOn.drew {w : World} {xs : List Int} {v : Value} (h : IIn w xs v) : IIn w.drew xs v := h.next ((Below.refl _ _).drew)

/-- element i, opened -/
theorem CellsOn.at {w : World} {g : List Ce} {ad : Option Addr} {n cap : Nat} (h : CIn w g (.slice ad n cap)) (i : Nat) (hi : i < g.length) :
    ∃ bl off c, ad = some ⟨bl, off, none⟩ ∧ w.cell? ⟨bl, off + i * 3, none⟩ = some (.int .i64 g[i].op) ∧ w.cell? ⟨bl, off + i * 3 + 1, none⟩ = some (.int .i64 g[i].num) ∧ w.cell? ⟨bl, off + i * 3 + 2, none⟩ = some c ∧ I64 g[i].op ∧ I64 g[i].num ∧ IIn w g[i].kids c := by
  obtain ⟨ad', cap', he, -, -, hr⟩ := h
  cases he
  rcases hr with rfl | ⟨bl, off, rfl, -, r⟩
  · simp at hi
  obtain ⟨c, h1, h2, h3, i1, i2, h4⟩ := r i hi
  exact ⟨bl, off, c, rfl, h1, h2, h3, i1, i2, h4⟩
/-- number i of a list of ints, opened -/
theorem IntsOn.at {w : World} {xs : List Int} {ad : Option Addr} {n cap : Nat} (h : IIn w xs (.slice ad n cap)) (i : Nat) (hi : i < xs.length) :
    ∃ bl off, ad = some ⟨bl, off, none⟩ ∧ w.cell? ⟨bl, off + i, none⟩ = some (.int .i64 xs[i]) := by
  obtain ⟨ad', cap', he, -, -, hr⟩ := h
  cases he
  rcases hr with rfl | ⟨bl, off, rfl, -, r⟩
  · simp at hi
  exact ⟨bl, off, rfl, r i hi⟩

/-! ### The count -/
/-- the operands of the first cells -/
def sumK (l : List Ce) : Nat := (l.map (·.kids.length)).sum
theorem sumK_append (a b : List Ce) : sumK (a ++ b) = sumK a + sumK b := by simp [sumK]
theorem sumK_take_succ (l : List Ce) (i : Nat) (h : i < l.length) : sumK (l.take (i + 1)) = sumK (l.take i) + l[i].kids.length := by
  rw [List.take_succ_eq_append_getElem h, sumK_append]; simp [sumK]
theorem sumK_take_le (l : List Ce) (i : Nat) : sumK (l.take i) ≤ sumK l := by
  conv => rhs; rw [← List.take_append_drop i l, sumK_append]
  omega
theorem kids_le_sumK (l : List Ce) (i : Nat) (h : i < l.length) : l[i].kids.length ≤ sumK l := by
  have := sumK_take_succ l i h
  have := sumK_take_le l (i + 1)
  omega
/-- what the law's own count of a graph leaves of a budget -/
def szC (g : List Ce) (left : Int) : Int := if (g.length : Int) + sumK g ≤ left then left - (g.length + sumK g) else -1
theorem szC_range (g : List Ce) (left : Int) (h : 0 ≤ left) : -1 ≤ szC g left ∧ szC g left ≤ left := by unfold szC; split <;> omega
def szCAt (g : List Ce) (left : Int) (k : Nat) : Int := left - g.length - sumK (g.take k)

theorem szC_kid (g : List Ce) (left : Int) (k : Nat) (hk : k < g.length) (h : (g[k].kids.length : Int) ≤ szCAt g left k) : szCAt g left k - g[k].kids.length = szCAt g left (k + 1) := by
  have e := sumK_take_succ g k hk
  unfold szCAt; rw [e]; omega
theorem szC_neg (g : List Ce) (left : Int) (k : Nat) (hk : k < g.length) (h : ¬ (g[k].kids.length : Int) ≤ szCAt g left k) : szC g left = -1 := by
  have e := sumK_take_succ g k hk
  have e2 := sumK_take_le g (k + 1)
  unfold szC; rw [if_neg]; unfold szCAt at h; omega
theorem szC_end (g : List Ce) (left : Int) (h : 0 ≤ szCAt g left g.length) : szC g left = szCAt g left g.length := by
  unfold szCAt at h ⊢; rw [List.take_length] at h ⊢; unfold szC; rw [if_pos (by omega)]; omega

def NewCell (op num : Int) (xs : List Int) (w : World) (e : Ending) (w' : World) : Prop := ∃ v, e = .returned (.agg #[.int .i64 op, .int .i64 num, v]) ∧ IntRow w' w.heap.size xs v ∧ Below w.heap.size w w'
theorem IntRow.setCell {w : World} {lo : Nat} {xs : List Int} {v : Value} (h : IntRow w lo xs v) {a : Addr} (ha : a.block < lo) (u : Value) : IntRow (w.setCell a u) lo xs v :=
  h.keep (Nat.le_refl _) fun k hk _ => Below.heap_setCell _ _ _ _ (fun e => by omega)
theorem IntRow.down {w : World} {lo lo' : Nat} {xs : List Int} {v : Value} (h : IntRow w lo xs v) (hl : lo' ≤ lo) : IntRow w lo' xs v := h.keep hl fun _ _ _ => rfl

/-- the world behind the three stores -/
def stC (w1 : World) (b k : Nat) (c : Ce) (v : Value) : World :=
  ((w1.setCell ⟨b, k * 3, none⟩ (.int .i64 c.op)).setCell ⟨b, k * 3 + 1, none⟩ (.int .i64 c.num)).setCell ⟨b, k * 3 + 2, none⟩ v
end Go.Proofs.Ytekdipmioogohaa
/-
  CODE IN MEMORY: a slice of instructions (Op, N), two cells of memory each. The laws' own count, copy, comparison, marking and reading of it.
-/
namespace Go.Proofs.Ytekdipmioogohaa
set_option linter.unusedVariables false
set_option linter.unusedSimpArgs false
open Go.RowKit

/-- a slice value that holds these instructions, its block out of S -/
def InsOn (w : World) (S : Nat → Prop) (cs : List Ins) (v : Value) : Prop :=
  ∃ ad cap, v = .slice ad cs.length cap ∧ cs.length ≤ cap ∧ cap ≤ maxLen ∧ (cs = [] ∨ ∃ bl off, ad = some ⟨bl, off, none⟩ ∧ S bl ∧ ∀ i (hi : i < cs.length),
    w.cell? ⟨bl, off + i * 2, none⟩ = some (.int .i64 cs[i].op) ∧ w.cell? ⟨bl, off + i * 2 + 1, none⟩ = some (.int .i64 cs[i].num))
theorem InsOn.mono {w w' : World} {S S' : Nat → Prop} {cs : List Ins} {v : Value} (h : InsOn w S cs v) (hS : ∀ k, S k → S' k) (hw : ∀ k, S k → w'.heap[k]? = w.heap[k]?) : InsOn w' S' cs v := by
  obtain ⟨ad, cap, e, l1, l2, h5⟩ := h
  refine ⟨ad, cap, e, l1, l2, ?_⟩
  rcases h5 with h5 | ⟨bl, off, e, s, r⟩
  · exact Or.inl h5
  · refine Or.inr ⟨bl, off, e, hS _ s, fun i hi => ?_⟩
    obtain ⟨h1, h2⟩ := r i hi
    constructor
    all_goals rw [World.cell?_of_block (w := w) (hw bl s)]; assumption
/-- code that lies in a world, wherever -/
abbrev InsIn (w : World) (cs : List Ins) (v : Value) : Prop := InsOn w (Lt w.heap.size) cs v
theorem InsOn.next {w w' : World} {cs : List Ins} {v : Value} (h : InsIn w cs v) (hb : Below w.heap.size w w') : InsIn w' cs v :=
  h.mono (fun k (hk : k < w.heap.size) => Nat.lt_of_lt_of_le hk hb.size) (fun k hk => hb.block k hk)
theorem InsOn.at {w : World} {cs : List Ins} {ad : Option Addr} {n cap : Nat} (h : InsIn w cs (.slice ad n cap)) (i : Nat) (hi : i < cs.length) :
    ∃ bl off, ad = some ⟨bl, off, none⟩ ∧ bl < w.heap.size ∧ w.cell? ⟨bl, off + i * 2, none⟩ = some (.int .i64 cs[i].op) ∧ w.cell? ⟨bl, off + i * 2 + 1, none⟩ = some (.int .i64 cs[i].num) := by
  obtain ⟨ad', cap', he, -, -, hr⟩ := h
  cases he
  rcases hr with rfl | ⟨bl, off, rfl, hb, r⟩
  · simp at hi
  exact ⟨bl, off, rfl, hb, (r i hi).1, (r i hi).2⟩

/-- code in a row of its own, from block lo on -/
def InsRow (w : World) (lo : Nat) (cs : List Ins) (v : Value) : Prop :=
  ∃ ad cap, v = .slice ad cs.length cap ∧ cs.length ≤ cap ∧ cap ≤ maxLen ∧ (cs = [] ∨ ∃ b f, ad = some ⟨b, 0, none⟩ ∧ lo ≤ b ∧ w.rowIs b 37 (cap * 2) f ∧ ∀ i (h : i < cs.length), f (i * 2) = .int .i64 cs[i].op ∧ f (i * 2 + 1) = .int .i64 cs[i].num)
theorem InsRow.on {w : World} {lo : Nat} {cs : List Ins} {v : Value} (h : InsRow w lo cs v) : InsOn w (fun k => lo ≤ k ∧ k < w.heap.size) cs v := by
  obtain ⟨ad, cap, e, l1, l2, h⟩ := h
  refine ⟨ad, cap, e, l1, l2, h.imp id ?_⟩
  rintro ⟨b, f, rfl, hg, hr, hf⟩
  refine ⟨b, 0, rfl, ⟨hg, hr.lt⟩, fun i hi => ?_⟩
  obtain ⟨f0, f1⟩ := hf i hi
  constructor
  · rw [Nat.zero_add, hr.cell (by omega), f0]
  · rw [Nat.zero_add, hr.cell (by omega), f1]
theorem InsRow.inn {w : World} {lo : Nat} {cs : List Ins} {v : Value} (h : InsRow w lo cs v) : InsIn w cs v := h.on.mono (fun k hk => hk.2) fun _ _ => rfl
theorem InsRow.keep {w w' : World} {lo lo' : Nat} {cs : List Ins} {v : Value} (h : InsRow w lo cs v) (hl : lo' ≤ lo) (hw : ∀ k, lo ≤ k → k < w.heap.size → w'.heap[k]? = w.heap[k]?) : InsRow w' lo' cs v := by
  obtain ⟨ad, cap, e, l1, l2, h⟩ := h
  refine ⟨ad, cap, e, l1, l2, h.imp id ?_⟩
  rintro ⟨b, f, rfl, hg, hr, hf⟩
  exact ⟨b, f, rfl, by omega, hr.of_block (hw b hg hr.lt), hf⟩
theorem InsRow.next {w w' : World} {lo : Nat} {cs : List Ins} {v : Value} (h : InsRow w lo cs v) (hb : Below w.heap.size w w') : InsRow w' lo cs v := h.keep (Nat.le_refl _) fun k _ hk => hb.block k hk
theorem InsRow.none (w : World) (lo : Nat) : InsRow w lo [] (.slice none 0 0) := ⟨_, _, rfl, Nat.le_refl _, by simp [maxLen], Or.inl rfl⟩
def NewIns (cs : List Ins) (w : World) (e : Ending) (w' : World) : Prop := ∃ v, e = .returned v ∧ InsRow w' w.heap.size cs v ∧ Below w.heap.size w w'

/-! ### The count -/
/-- what the law's own count of code leaves of a budget -/
def szI (cs : List Ins) (left : Int) : Int := if (cs.length : Int) ≤ left then left - cs.length else -1
theorem szI_range (cs : List Ins) (left : Int) (h : 0 ≤ left) : -1 ≤ szI cs left ∧ szI cs left ≤ left := by unfold szI; split <;> omega
/-! ### The copy -/
theorem infoI2 : (Try.prog.info? 37).map (fun i => (i.zero, i.size, i.bytes)) = some (some (.agg #[.int .i64 0, .int .i64 0]), 2, 16) := by kernel_rfl
theorem make_code (n : Nat) (h : n ≤ 1048576) : ∃ C : Array Value, C.size = n * 2 ∧ ∀ w : World, (Instr.makeSlice 23 (.int .i64 (n : Int)) (.int .i64 (n : Int))).run Try.prog w = .ok (.slice (some ⟨w.heap.size, 0, none⟩) n n) (w.alloc (.cells C 37)) := by
  obtain ⟨i, hi, hzz⟩ := Option.map_eq_some_iff.1 infoI2
  simp only [Prod.mk.injEq] at hzz
  obtain ⟨hz, hs, hb⟩ := hzz
  refine ⟨madeCells (Value.agg #[.int .i64 0, .int .i64 0]).cells (n * 2), size_madeCells _ _, fun w => ?_⟩
  have hr := run_make (P := Try.prog) w 23 37 i _ Try.underlying23 hi hz .i64 .i64 n n (by omega) (Int.le_refl _) (by rw [hb]; omega) (by omega)
  simp only [Int.toNat_natCast, hs] at hr
  exact hr

/-- what holds of the copy of code behind k rounds -/
def ToKRel (cs : List Ins) (w : World) (k : Nat) (wr : World) : Prop :=
  ∃ f : Nat → Value, wr.rowIs w.heap.size 37 (cs.length * 2) f ∧ (∀ j (_ : j < k) (hj : j < cs.length), f (j * 2) = .int .i64 cs[j].op ∧ f (j * 2 + 1) = .int .i64 cs[j].num) ∧ Below w.heap.size w wr
theorem toKRel_start (cs : List Ins) (w : World) (C : Array Value) (h : C.size = cs.length * 2) : ToKRel cs w 0 (w.alloc (.cells C 37)) := by
  refine ⟨fun i => C.getD i undef, ⟨C, Deep.blk_alloc_new _ _, h, fun i hi => ?_⟩, fun j hj => absurd hj (by omega), (Below.refl _ _).alloc (Nat.le_refl _) _⟩
  simp [Array.getElem?_eq_getElem (h ▸ hi : i < C.size), Array.getD, (h ▸ hi : i < C.size)]
/-- the world behind the two stores -/
def stK (w1 : World) (b k : Nat) (x y : Int) : World := (w1.setCell ⟨b, k * 2, none⟩ (.int .i64 x)).setCell ⟨b, k * 2 + 1, none⟩ (.int .i64 y)
theorem rows2_step {w1 : World} {b n : Nat} {f : Nat → Value} {T : TypeId} (hr : w1.rowIs b T n f) (k : Nat) (x y : Int) :
    ∃ f', (stK w1 b k x y).rowIs b T n f' ∧ f' (k * 2) = .int .i64 x ∧ f' (k * 2 + 1) = .int .i64 y ∧ ∀ j, j ≠ k → f' (j * 2) = f (j * 2) ∧ f' (j * 2 + 1) = f (j * 2 + 1) := by
  unfold stK
  refine ⟨_, (hr.set (k * 2) _).set (k * 2 + 1) _, by simp, by simp, fun j hj => ?_⟩
  have a0 : j * 2 ≠ k * 2 + 1 ∧ j * 2 ≠ k * 2 := by omega
  have a1 : j * 2 + 1 ≠ k * 2 + 1 ∧ j * 2 + 1 ≠ k * 2 := by omega
  constructor
  · simp only [if_neg a0.1, if_neg a0.2]
  · simp only [if_neg a1.1, if_neg a1.2]
theorem toKRel_step (cs : List Ins) (w wr w1 : World) (k : Nat) (hk : k < cs.length) (h : ToKRel cs w k wr) (hb : Below wr.heap.size wr w1) : ToKRel cs w (k + 1) (stK w1 w.heap.size k cs[k].op cs[k].num) := by
  obtain ⟨f, hr, ht, hbw⟩ := h
  have hlt := hr.lt
  obtain ⟨f', h1, h2, h3, h4⟩ := rows2_step (hr.of_block (hb.block _ hlt)) k cs[k].op cs[k].num
  refine ⟨f', h1, fun j hj hjl => ?_, ?_⟩
  · by_cases hjk : j = k
    · subst hjk; exact ⟨h2, h3⟩
    · rw [(h4 j hjk).1, (h4 j hjk).2]; exact ht j (by omega) hjl
  · unfold stK
    exact ((hbw.trans (hb.mono (Nat.le_of_lt hlt))).setCell (by simp) _).setCell (by simp) _
theorem toKRel_end (cs : List Ins) (w wr : World) (h : ToKRel cs w cs.length wr) (hl : cs.length ≤ 1048576) : NewIns cs w (.returned (.slice (some ⟨w.heap.size, 0, none⟩) cs.length cs.length)) wr := by
  obtain ⟨f, hr, ht, hbw⟩ := h
  exact ⟨_, rfl, ⟨_, _, rfl, Nat.le_refl _, by unfold maxLen; omega, Or.inr ⟨_, f, rfl, Nat.le_refl _, hr, fun i hi => ht i hi hi⟩⟩, hbw⟩

end Go.Proofs.Ytekdipmioogohaa
/-
  append AS A STEP OF THE WALK, WITH WHERE THE NEW ROW LIES.
-/
namespace Go.Proofs.Ytekdipmioogohaa
set_option linter.unusedVariables false
set_option linter.unusedSimpArgs false
open Go.RowKit

theorem wpList_append_where {P : Program} (w : World) {ops : Array Oper} {rest : List Oper} {o : Oper} {a : Act} {Q : Exit → Act → World → Prop}
    (hg : o.guard = none) (s x : Operand) (t : TypeId) (hop : o.op = Op.call { callee := Callee.builtin Builtin.append, args := #[s, x], argTypes := #[t, t] })
    (base : Nat) (e : TypeId) (i : TypeInfo) (z : Value) (size bytes : Nat) (ht : P.underlying t = some (.slice e)) (hi : P.info? e = some i) (hz : i.zero = some z)
    (hsize : i.size = size) (hby : i.bytes = bytes) (hzs : z.cells.size = size) (hsz : 0 < size)
    (v : Value) (n : Nat) (xs : List Value) (hs : a.eval s = v) (hown : w.ownsRow base e size v n xs)
    (ad : Addr) (m c : Nat) (news : List Value) (hx : a.eval x = .slice (some ad) m c) (hl : news.length = m * size) (hnews : ∀ j u, news[j]? = some u → w.cell? (ad.add j) = some u) (h1 : ∀ u ∈ news, u.oneCell' = true)
    (h63 : n + m ≤ maxLen) (hbytes : (n + m) * bytes ≤ 140737488355328) (hbase : base ≤ w.heap.size) (hm : 0 < m)
    (hK : ∀ v' w', w'.ownsRow base e size v' (n + m) (xs ++ news) → w.grownBy w' v.ownBlock → (v'.ownBlock = v.ownBlock ∨ ∃ g, v'.ownBlock = some g ∧ w.heap.size ≤ g) → wpList P ops Q rest (a.put o.dst v') w') :
    wpList P ops Q (o :: rest) a w := by
  refine wpList_plain hg fun K' hK' => ?_
  obtain ⟨v', w', hrun, r1, r2, r3⟩ := run_append_where (P := P) w base t o.type e i z size bytes ht hi hz hsize hby hzs hsz v n xs hown ad m c news hl hnews h1 h63 hbytes hbase hm
  unfold Oper.wp
  simp [execOp, hop, resolve, invoke, builtin, hs, hx, hrun, Result.andThen]
  exact hK' _ _ (hK v' w' r1 r2 r3)

/-- an owned row that is not empty lies somewhere -/
theorem own_form {w : World} {base n size : Nat} {e : TypeId} {v : Value} {xs : List Value} (h : w.ownsRow base e size v n xs) (hn : 0 < n) : ∃ g cap, v = .slice (some ⟨g, 0, none⟩) n cap ∧ base ≤ g ∧ g < w.heap.size ∧ n ≤ cap ∧ cap ≤ maxLen := by
  rcases h.2 with ⟨-, h0⟩ | ⟨g, cap, cur, rfl, hg, hh, hn', hc, -⟩
  · omega
  · exact ⟨g, cap, rfl, hg, (Array.getElem?_eq_some_iff.1 hh).1, hn', hc⟩
/-- a block of two cells -/
theorem box2_cell (w : World) (C : Array Value) (t : TypeId) (i : Nat) (v : Value) (h : C[i]? = some v) : (w.alloc (.cells C t)).cell? ((⟨w.heap.size, 0, none⟩ : Addr).add i) = some v := by
  rw [WideShapes.add_plain, Nat.zero_add]
  exact box_cell w C t i v h
end Go.Proofs.Ytekdipmioogohaa
/-
  THE LAWS' OWN COUNT OF AN ARGUMENT (szExpr, szExprS): what is left of the budget; nothing that was there is changed.
-/
namespace Go.Proofs.Ytekdipmioogohaa
set_option linter.unusedVariables false
set_option linter.unusedSimpArgs false
open Go.RowKit

theorem szOut_range (ks : List Tr) (left : Int) (h : 0 ≤ left) : -1 ≤ szOut ks left ∧ szOut ks left ≤ left := by
  unfold szOut; split <;> omega

/-- the budget behind the first i elements -/
def szAt (ks : List Tr) (left : Int) (i : Nat) : Int := left - ks.length - sumT (ks.take i)

theorem szOut_kid (ks : List Tr) (left : Int) (i : Nat) (hi : i < ks.length) (h : 0 ≤ szOut (ks[i]).kids (szAt ks left i)) : szOut (ks[i]).kids (szAt ks left i) = szAt ks left (i + 1) := by
  unfold szOut at h ⊢
  split at h
  · rename_i h1
    rw [if_pos h1]
    unfold szAt
    rw [sumT_take_succ ks i hi, szT_eq]
    omega
  · omega

theorem szOut_neg (ks : List Tr) (left : Int) (i : Nat) (hi : i < ks.length) (h : szOut (ks[i]).kids (szAt ks left i) < 0) (h0 : 0 ≤ szAt ks left i) : szOut ks left = -1 := by
  unfold szOut at h
  split at h
  · omega
  · rename_i h1
    unfold szOut
    rw [if_neg]
    have := sumT_take_succ ks i hi
    have := sumT_take_le ks (i + 1)
    rw [szL_sum]
    rw [szT_eq] at *
    unfold szAt at h1
    omega

theorem szOut_end (ks : List Tr) (left : Int) (h0 : 0 ≤ szAt ks left ks.length) : szOut ks left = szAt ks left ks.length := by
  unfold szAt at h0 ⊢
  unfold szOut
  rw [List.take_length] at *
  rw [szL_sum, if_pos (by omega)]
  omega

end Go.Proofs.Ytekdipmioogohaa
/-
  CODE THAT A CALL OWNS, to which it appends. The code of a tree.
-/
namespace Go.Proofs.Ytekdipmioogohaa
set_option linter.unusedVariables false
set_option linter.unusedSimpArgs false
open Go.RowKit

mutual
/-- the code of a tree: that of its operands, then its own instruction -/
def cdT : Tr → List Ins
  | .node o n ks => cdL ks ++ [⟨o, n⟩]
def cdL : List Tr → List Ins
  | [] => []
  | t :: ts => cdT t ++ cdL ts
end
theorem cdT_eq (t : Tr) : cdT t = cdL t.kids ++ [⟨t.op, t.num⟩] := by cases t; rw [cdT]; rfl
theorem cdL_append : ∀ (a b : List Tr), cdL (a ++ b) = cdL a ++ cdL b
  | [], b => by simp [cdL]
  | t :: a, b => by rw [List.cons_append, cdL, cdL, cdL_append a b, List.append_assoc]
theorem cdL_take_succ (l : List Tr) (i : Nat) (h : i < l.length) : cdL (l.take (i + 1)) = cdL (l.take i) ++ cdT l[i] := by
  rw [List.take_succ_eq_append_getElem h, cdL_append]; simp [cdL]
mutual
theorem cdT_length : ∀ t : Tr, (cdT t).length = 1 + szT t
  | .node o n ks => by rw [cdT, List.length_append, cdL_length ks, szT]; exact Nat.add_comm _ _
theorem cdL_length : ∀ l : List Tr, (cdL l).length = szL l
  | [] => by simp [cdL, szL]
  | t :: ts => by rw [cdL, List.length_append, cdT_length t, cdL_length ts, szL]
end
theorem cdL_flatten : ∀ l : List Tr, cdL l = (l.map cdT).flatten
  | [] => by simp [cdL]
  | t :: ts => by rw [cdL, cdL_flatten ts]; simp

/-- instructions, as values -/
def insV (cs : List Ins) : List Value := cs.flatMap fun c => [Value.int .i64 c.op, .int .i64 c.num]
theorem insV_length (cs : List Ins) : (insV cs).length = cs.length * 2 := by
  induction cs with
  | nil => rfl
  | cons c cs ih => simp [insV, List.flatMap_cons] at ih ⊢; omega
theorem insV_append (a b : List Ins) : insV (a ++ b) = insV a ++ insV b := by simp [insV]
theorem insV_one (cs : List Ins) : ∀ u ∈ insV cs, u.oneCell' = true := by
  intro u hu
  simp only [insV, List.mem_flatMap] at hu
  obtain ⟨c, -, hu⟩ := hu
  simp at hu
  rcases hu with rfl | rfl <;> rfl
theorem insV_get : ∀ (cs : List Ins) (i : Nat) (h : i < cs.length), (insV cs)[i * 2]? = some (.int .i64 cs[i].op) ∧ (insV cs)[i * 2 + 1]? = some (.int .i64 cs[i].num)
  | c :: cs, 0, _ => by simp [insV]
  | c :: cs, i + 1, h => by
    have e : insV (c :: cs) = .int .i64 c.op :: .int .i64 c.num :: insV cs := by simp [insV]
    have := insV_get cs i (by simpa using h)
    rw [e]
    refine ⟨?_, ?_⟩
    · rw [show (i + 1) * 2 = i * 2 + 1 + 1 by omega]; simpa using this.1
    · rw [show (i + 1) * 2 + 1 = i * 2 + 1 + 1 + 1 by omega]; simpa using this.2
/-- a row of code that a call owns -/
def StkP (w : World) (lo : Nat) (cs : List Ins) (v : Value) : Prop := w.ownsRow lo 37 2 v cs.length (insV cs)
theorem StkP.row {w : World} {lo : Nat} {cs : List Ins} {v : Value} (h : StkP w lo cs v) : InsRow w lo cs v := by
  rcases h.2 with ⟨rfl, h0⟩ | ⟨g, cap, cur, rfl, hg, hh, hn, hc, hs, htk⟩
  · obtain rfl : cs = [] := List.eq_nil_of_length_eq_zero h0
    exact InsRow.none _ _
  · refine ⟨_, cap, rfl, hn, hc, Or.inr ⟨g, fun i => cur.getD i undef, rfl, hg, ⟨cur, hh, hs, fun i hi => ?_⟩, fun i hi => ?_⟩⟩
    · have hi' : i < cur.size := by omega
      simp [Array.getD, hi']
    · obtain ⟨e1, e2⟩ := insV_get cs i hi
      have hj : ∀ q u, (insV cs)[q]? = some u → q < cur.size ∧ cur.getD q undef = u := by
        intro q u hq
        have hql : q < cs.length * 2 := by have := (List.getElem?_eq_some_iff.1 hq).1; rw [insV_length] at this; exact this
        have hq' : q < cur.size := by omega
        refine ⟨hq', ?_⟩
        rw [← htk, List.getElem?_take_of_lt hql] at hq
        simp [Array.getD, hq'] at hq ⊢
        exact hq
      exact ⟨(hj _ _ e1).2, (hj _ _ e2).2⟩
theorem StkP.form {w : World} {lo : Nat} {cs : List Ins} {v : Value} (h : StkP w lo cs v) : ∃ ad cap, v = .slice ad cs.length cap := by
  rcases h.2 with ⟨rfl, h0⟩ | ⟨g, cap, cur, rfl, -⟩
  · exact ⟨none, 0, by rw [h0]⟩
  · exact ⟨_, _, rfl⟩
theorem StkP.keep {w w' : World} {lo : Nat} {cs : List Ins} {v : Value} (h : StkP w lo cs v) (hk : ∀ k, some k = v.ownBlock → w'.heap[k]? = w.heap[k]?) : StkP w' lo cs v := by
  refine ⟨h.1, ?_⟩
  rcases h.2 with h | ⟨g, cap, cur, rfl, hg, hh, r⟩
  · exact Or.inl h
  · exact Or.inr ⟨g, cap, cur, rfl, hg, (hk g rfl).trans hh, r⟩
theorem StkP.lt {w : World} {lo : Nat} {cs : List Ins} {v : Value} (h : StkP w lo cs v) {k : Nat} (hk : some k = v.ownBlock) : lo ≤ k ∧ k < w.heap.size := by
  rcases h.2 with ⟨rfl, h0⟩ | ⟨g, cap, cur, rfl, hg, hh, -⟩
  · simp [Value.ownBlock] at hk
  · simp only [Value.ownBlock, Option.some.injEq] at hk
    subst hk
    exact ⟨hg, (Array.getElem?_eq_some_iff.1 hh).1⟩
theorem StkP.alloc {w : World} {lo : Nat} {cs : List Ins} {v : Value} (h : StkP w lo cs v) (o : Obj) : StkP (w.alloc o) lo cs v := h.keep fun k hk => Deep.blk_alloc_lt _ _ _ (h.lt hk).2
theorem StkP.lower {w : World} {lo lo' : Nat} {cs : List Ins} {v : Value} (h : StkP w lo cs v) (hl : lo' ≤ lo) : StkP w lo' cs v := by
  refine ⟨h.1, h.2.imp id ?_⟩
  rintro ⟨g, cap, cur, e, hg, r⟩
  exact ⟨g, cap, cur, e, Nat.le_trans hl hg, r⟩
theorem StkP.none (w : World) (lo : Nat) : StkP w lo [] (.slice none 0 0) := ⟨rfl, Or.inl ⟨rfl, rfl⟩⟩
theorem StkP.nil (w : World) (lo : Nat) (h : lo ≤ w.heap.size) : StkP (w.alloc (.cells #[] 37)) lo [] (.slice (some ⟨w.heap.size, 0, Option.none⟩) 0 0) :=
  ⟨rfl, Or.inr ⟨w.heap.size, 0, _, rfl, h, Deep.blk_alloc_new _ _, Nat.le_refl _, by simp [maxLen], rfl, rfl⟩⟩
theorem infoK2 : ∃ i z, Try.prog.info? 37 = some i ∧ i.zero = some z ∧ i.size = 2 ∧ i.bytes = 16 ∧ z.cells.size = 2 := by
  obtain ⟨i, hi, hzz⟩ := Option.map_eq_some_iff.1 infoI2
  simp only [Prod.mk.injEq] at hzz
  obtain ⟨hz, hs, hb⟩ := hzz
  exact ⟨i, _, hi, hz, hs, hb, rfl⟩
theorem news2 (w : World) (a b : Value) (T : TypeId) (j : Nat) (u : Value) (h : [a, b][j]? = some u) : (w.alloc (.cells #[a, b] T)).cell? ((⟨w.heap.size, 0, Option.none⟩ : Addr).add j) = some u := by
  rw [WideShapes.add_plain, Nat.zero_add]
  exact box_cell w #[a, b] _ j u (by simpa using h)

/-- what an owned row of code has become: only its own block has been written, or it lies in a new one -/
def GrowK (w : World) (lo : Nat) (cs : List Ins) (v0 v : Value) (w' : World) : Prop :=
  StkP w' lo cs v ∧ w.grownBy w' v0.ownBlock ∧ (v.ownBlock = v0.ownBlock ∨ ∃ g, v.ownBlock = some g ∧ w.heap.size ≤ g)
theorem GrowK.refl {w : World} {lo : Nat} {cs : List Ins} {v : Value} (h : StkP w lo cs v) : GrowK w lo cs v v w := ⟨h, ⟨rfl, rfl, rfl, Nat.le_refl _, fun _ _ _ => rfl⟩, Or.inl rfl⟩
theorem GrowK.trans {w w1 w2 : World} {lo : Nat} {a b : List Ins} {v0 v1 v2 : Value} (h : GrowK w lo a v0 v1 w1) (k : GrowK w1 lo b v1 v2 w2) : GrowK w lo b v0 v2 w2 := by
  obtain ⟨h1, h2, h3⟩ := h
  obtain ⟨k1, k2, k3⟩ := k
  refine ⟨k1, ⟨k2.os.trans h2.os, k2.tape.trans h2.tape, k2.output.trans h2.output, Nat.le_trans h2.size k2.size, fun j hj hne => ?_⟩, ?_⟩
  · refine (k2.block j (Nat.lt_of_lt_of_le hj h2.size) fun e => ?_).trans (h2.block j hj hne)
    rcases h3 with h3 | ⟨g, h3, hg⟩
    · rw [h3] at e; exact hne e
    · rw [h3] at e; simp only [Option.some.injEq] at e; omega
  · rcases k3 with k3 | ⟨g, k3, hg⟩
    · rcases h3 with h3 | ⟨g, h3, hg⟩
      · exact Or.inl (k3.trans h3)
      · exact Or.inr ⟨g, k3.trans h3, hg⟩
    · exact Or.inr ⟨g, k3, Nat.le_trans h2.size hg⟩
/-- .. begun in a world with some blocks more -/
theorem GrowK.from {w w1 w2 : World} {lo : Nat} {b : List Ins} {v0 v2 : Value} (hw : ∀ k, k < w.heap.size → w1.heap[k]? = w.heap[k]?) (hs : w.heap.size ≤ w1.heap.size) (ho : w1.os = w.os ∧ w1.tape = w.tape ∧ w1.output = w.output) (k : GrowK w1 lo b v0 v2 w2) : GrowK w lo b v0 v2 w2 := by
  obtain ⟨k1, k2, k3⟩ := k
  refine ⟨k1, ⟨k2.os.trans ho.1, k2.tape.trans ho.2.1, k2.output.trans ho.2.2, Nat.le_trans hs k2.size, fun j hj hne => (k2.block j (Nat.lt_of_lt_of_le hj hs) hne).trans (hw j hj)⟩, ?_⟩
  rcases k3 with k3 | ⟨g, k3, hg⟩
  · exact Or.inl k3
  · exact Or.inr ⟨g, k3, Nat.le_trans hs hg⟩
theorem GrowK.from' {w w1 w2 : World} {lo : Nat} {b : List Ins} {v0 v2 : Value} (hb : Below w.heap.size w w1) (k : GrowK w1 lo b v0 v2 w2) : GrowK w lo b v0 v2 w2 :=
  k.from (fun j hj => hb.block j hj) hb.size ⟨hb.os, hb.tape, hb.output⟩
theorem GrowK.below {w w' : World} {lo B : Nat} {cs : List Ins} {v0 v : Value} (h : GrowK w lo cs v0 v w') (hv : ∀ k, some k = v0.ownBlock → B ≤ k) (hB : B ≤ w.heap.size) : Below B w w' := by
  obtain ⟨-, h2, -⟩ := h
  exact ⟨h2.os, h2.tape, h2.output, h2.size, fun k hk => h2.block k (by omega) fun e => by have := hv k e; omega⟩
/-- a block that is not the row's stays -/
theorem GrowK.other {w w' : World} {lo : Nat} {cs : List Ins} {v0 v : Value} (h : GrowK w lo cs v0 v w') {k : Nat} (hk : k < w.heap.size) (hn : some k ≠ v0.ownBlock) : w'.heap[k]? = w.heap[k]? := h.2.1.block k hk hn
theorem GrowK.ne {w w' : World} {lo : Nat} {cs : List Ins} {v0 v : Value} (h : GrowK w lo cs v0 v w') {k : Nat} (hk : k < w.heap.size) (hn : some k ≠ v0.ownBlock) : some k ≠ v.ownBlock := by
  rcases h.2.2 with e | ⟨g, e, hg⟩
  · rw [e]; exact hn
  · rw [e]; intro h; simp only [Option.some.injEq] at h; omega
end Go.Proofs.Ytekdipmioogohaa
/-
  THE MODEL's l1Any.
-/
namespace Go.Proofs.Ytekdipmioogohaa
set_option linter.unusedVariables false
set_option linter.unusedSimpArgs false
open Go.RowKit

theorem validB_is2 (t : Tr) (vars defs : Int) (h : 0 ≤ vars ∧ vars ≤ 4 ∧ 0 ≤ defs ∧ defs ≤ 6) : validB t vars defs = isB t vars defs := by
  unfold validB isB
  rw [decide_eq_true h, Bool.true_and]
  congr 1
  exact decide_eq_decide.2 (by omega)
set_option maxHeartbeats 400000 in
theorem l1Any_calls (t : Tr) (c : Value) (w : World) (hk : In w t.kids c) :
    Calls Try.prog 40 #[.agg #[.int .i64 t.op, .int .i64 t.num, c]] w fun e w' => e = .returned (.bool (validB t 4 6)) ∧ Below w.heap.size w w' := by
  have HK : Hid (In w t.kids c) := hk
  obtain ⟨ad, cap, rfl, -, -, -⟩ := hk
  rw [validB_is2 t 4 6 (by omega)]
  go_enter Try.func40, Try.ntmps40
  go_wp2_with fail
  refine (l1Is_calls t 4 6 _ _ (HK.out.next (box_below _ _))).mono ?_
  rintro e w1 ⟨rfl, hb1⟩
  obtain ⟨-, -, -, -, HB1⟩ := box_after hb1
  have HB1 : Hid (Below w.heap.size w w1) := HB1
  clear hb1
  go_wp2_with fail
  go_ret
  exact ⟨rfl, HB1.out⟩

end Go.Proofs.Ytekdipmioogohaa
/-
  THE MODEL's l8Compile AND CompileExpr.
-/
namespace Go.Proofs.Ytekdipmioogohaa
set_option linter.unusedVariables false
set_option linter.unusedSimpArgs false
open Go.RowKit

def CompSaid (t : Tr) : Prop := ∀ (out : List Ins) (v c : Value) (lo : Nat) (w : World), StkP w lo out v → KidsOn w (Lt lo) t.kids c → lo ≤ w.heap.size → out.length + 1 + szT t ≤ 1048576 →
  Calls Try.prog 41 #[v, .agg #[.int .i64 t.op, .int .i64 t.num, c]] w fun e w' => ∃ v', e = .returned v' ∧ GrowK w lo (out ++ cdT t) v v' w'

set_option maxRecDepth 100000 in
set_option maxHeartbeats 1600000 in
theorem comp_step (t : Tr) (ih : ∀ i (hi : i < t.kids.length), CompSaid (t.kids[i])) : CompSaid t := by
  intro out v c lo w hst hk hlo hz
  have HI := mkHid ih
  have HK := mkHid hk
  have HST := mkHid hst
  have hlz : t.kids.length ≤ szT t := by rw [szT_eq, szL_sum]; omega
  obtain ⟨ad, cap, rfl, -, hm, -⟩ := hk
  unfold maxLen at hm
  obtain ⟨adv, capv, rfl⟩ := hst.form
  obtain ⟨wb, hwb⟩ : ∃ wb : World, wb = w.alloc (.cells #[.int .i64 t.op, .int .i64 t.num, .slice ad t.kids.length cap] 32) := ⟨_, rfl⟩
  have HWB := mkHid hwb
  have HBW : Hid (Below w.heap.size w wb) := by rw [hwb]; exact box_below _ _
  have HBX : Hid (wb.heap[w.heap.size]? = some (.cells #[.int .i64 t.op, .int .i64 t.num, .slice ad t.kids.length cap] 32)) := by rw [hwb]; exact Deep.blk_alloc_new _ _
  have HSB : Hid (wb.heap.size = w.heap.size + 1) := by rw [hwb]; exact Deep.nblk_alloc _ _
  have HS0 : Hid (StkP wb lo out (.slice adv out.length capv)) := by rw [hwb]; exact hst.alloc _
  have HNV : Hid (some w.heap.size ≠ (Value.slice adv out.length capv).ownBlock) := fun e => by have := (HST.out.lt e).2; omega
  clear ih hst hwb
  go_enter Try.func41, Try.ntmps41
  go_wp2_with fail
  rw [← HWB.out]
  go_loopw [0, 5] (fun o i wr => ∃ k : Nat, k ≤ t.kids.length ∧ i = .int .i64 k ∧ GrowK wb lo (out ++ cdL (t.kids.take k)) (.slice adv out.length capv) o wr) (fun _ i _ => t.kids.length - (intOf i).toNat)
  case atStart => exact ⟨0, Nat.zero_le _, rfl, by simpa [cdL] using GrowK.refl HS0.out⟩
  case round =>
    obtain ⟨k, hk, rfl, hg⟩ := hrel
    obtain ⟨os, hos⟩ : ∃ os, os = out ++ cdL (t.kids.take k) := ⟨_, rfl⟩
    have HOS := mkHid hos
    rw [← hos] at hg
    clear hos
    have HG := mkHid hg
    obtain ⟨ado, capo, rfl⟩ := hg.1.form
    have hbx := (hg.other (by have := HSB.out; omega) HNV.out).trans HBX.out
    have r0 := cell_of_blk hbx 0 _ rfl
    have r1 := cell_of_blk hbx 1 _ rfl
    have r2 := cell_of_blk hbx 2 _ rfl
    have HKR : Hid (KidsOn wr (Lt lo) t.kids (.slice ad t.kids.length cap)) := HK.out.mono (fun _ h => h) fun j (hj : j < lo) => (hg.other (by have := HSB.out; omega) (fun e => by have := (HS0.out.lt e).1; omega)).trans (HBW.out.block j (by omega))
    have hsz : lo ≤ wr.heap.size := by have h1 := hg.2.1.size; have := HSB.out; omega
    clear hg hbx
    by_cases hlt : k < t.kids.length
    · obtain ⟨_, _, he, -, -, hr⟩ := HKR.out
      cases he
      rcases hr with hnil | ⟨bl, off, rfl, hbl, hr⟩
      · rw [hnil] at hlt; simp at hlt
      obtain ⟨p, q, r, e0, e1, e2, ht⟩ := RowOn.at t.kids off k hlt hr
      obtain ⟨rfl, rfl, -, -, hkk⟩ := trOn_iff.1 ht
      have HKK := mkHid hkk
      have HE := mkHid (cdL_take_succ t.kids k hlt)
      have HZK : Hid (os.length + 1 + szT t.kids[k] ≤ 1048576) := by
        have h1 := szL_take_succ t.kids k hlt
        have h2 := szL_take_le t.kids (k + 1)
        have h3 := szT_eq t
        unfold Hid
        rw [HOS.out, List.length_append, cdL_length]
        omega
      clear hr ht hkk hbl
      go_wp2_with fail
      refine (HI.out k hlt _ _ _ lo wr HG.out.1 HKK.out hsz HZK.out).mono ?_
      rintro e w1 ⟨v1, rfl, hg1⟩
      have HG1 : Hid (GrowK wb lo (out ++ cdL (t.kids.take (k + 1))) (.slice adv out.length capv) v1 w1) := by rw [HE.out, ← List.append_assoc, ← HOS.out]; exact HG.out.trans hg1
      obtain ⟨ad1, n1, cap1, rfl⟩ : ∃ ad n cap, v1 = .slice ad n cap := ⟨_, _, _, hg1.1.form.choose_spec.choose_spec⟩
      clear hg1
      go_wp2_with fail
      go_roundw
      case rel => exact ⟨k + 1, by omega, by go_num, HG1.out⟩
      case measure => simp [intOf]; omega
    · have hke : k = t.kids.length := by omega
      have HL : Hid (os.length + 1 ≤ 1048576) := by
        have h3 := szT_eq t
        unfold Hid
        rw [HOS.out, hke, List.take_length, List.length_append, cdL_length]
        omega
      have HE : Hid (out ++ cdT t = os ++ [⟨t.op, t.num⟩]) := by rw [Hid, HOS.out, hke, List.take_length, cdT_eq, List.append_assoc]
      have hlen := HL.out
      obtain ⟨iE, zE, hII⟩ := infoK2
      have HII := mkHid hII
      clear hke hII
      go_wp2_with (at_builtin; go_must (refine wpList_append_where _ rfl _ _ 23 rfl lo 37 iE zE 2 16 Try.underlying23 HII.out.1 HII.out.2.1 HII.out.2.2.1 HII.out.2.2.2.1 HII.out.2.2.2.2 (by decide) (.slice ado os.length capo) os.length (insV os) rfl (HG.out.1.alloc _) ⟨wr.heap.size, 0, none⟩ 1 1 [.int .i64 t.op, .int .i64 t.num] rfl rfl (news2 wr _ _ _) (by simp [Value.oneCell']) (by unfold maxLen; omega) (by omega) (by rw [Deep.nblk_alloc]; omega) (by omega) ?_); go_must (intro v' w3 hown hgrow hwh); go_must (have HG3 : Hid (GrowK wb lo (out ++ cdT t) (.slice adv out.length capv) v' w3) := by rw [HE.out]; exact HG.out.trans (GrowK.from' (box_below wr _) ⟨by unfold StkP; rw [insV_append, List.length_append]; exact hown, hgrow, hwh⟩)); clear hown hgrow hwh)
      go_ret
      exact ⟨_, rfl, HG3.out.from' HBW.out⟩
theorem comp_any : ∀ (n : Nat) (t : Tr), szT t ≤ n → CompSaid t := by
  intro n
  induction n with
  | zero =>
    intro t h
    exact comp_step t fun i hi => absurd (szT_lt_szL t.kids i hi) (by rw [szT_eq] at h; omega)
  | succ n ih =>
    intro t h
    exact comp_step t fun i hi => ih _ (by have := szT_lt_szL t.kids i hi; rw [szT_eq] at h; omega)
theorem comp_calls (t : Tr) : CompSaid t := comp_any _ t (Nat.le_refl _)

/-- the code of a valid expression -/
def compO (t : Tr) : List Ins × Bool := if validB t 4 6 = true then (cdT t, true) else ([], false)
/-- code in new memory, and whether there is one -/
def CompGot (r : List Ins × Bool) (w : World) (e : Ending) (w' : World) : Prop := ∃ v, e = .returned (.tuple #[v, .bool r.2]) ∧ InsRow w' w.heap.size r.1 v ∧ Below w.heap.size w w'

set_option maxRecDepth 100000 in
set_option maxHeartbeats 1600000 in
theorem specComp_calls (t : Tr) (c : Value) (w : World) (hk : In w t.kids c) : Calls Try.prog 29 #[.agg #[.int .i64 t.op, .int .i64 t.num, c]] w (CompGot (compO t) w) := by
  have HK := mkHid hk
  obtain ⟨ad, cap, rfl, -, -, -⟩ := hk
  obtain ⟨wb, hwb⟩ : ∃ wb : World, wb = w.alloc (.cells #[.int .i64 t.op, .int .i64 t.num, .slice ad t.kids.length cap] 32) := ⟨_, rfl⟩
  have HWB := mkHid hwb
  have HBW : Hid (Below w.heap.size w wb) := by rw [hwb]; exact box_below _ _
  have HBX : Hid (wb.heap[w.heap.size]? = some (.cells #[.int .i64 t.op, .int .i64 t.num, .slice ad t.kids.length cap] 32)) := by rw [hwb]; exact Deep.blk_alloc_new _ _
  have HQ := mkHid (l1Any_calls t (.slice ad t.kids.length cap) wb (HK.out.next HBW.out))
  clear hwb
  cases hv : validB t 4 6 with
  | false =>
    have HV : Hid (compO t = ([], false)) := by unfold Hid compO; rw [hv]; rfl
    rw [hv] at HQ
    clear hv
    go_enter Try.func29, Try.ntmps29
    go_wp2_with fail
    rw [← HWB.out]
    refine HQ.out.mono ?_
    rintro e w1 ⟨rfl, hb⟩
    have HB1 : Hid (Below w.heap.size w w1) := HBW.out.trans (hb.mono HBW.out.size)
    clear hb
    go_wp2_with fail
    go_ret2
    rw [HV.out]
    exact ⟨_, rfl, (StkP.nil w1 w.heap.size HB1.out.size).row, HB1.out.alloc HB1.out.size _⟩
  | true =>
    have HV : Hid (compO t = (cdT t, true)) := by unfold Hid compO; rw [hv]; rfl
    have HZ : Hid (1 + szT t ≤ 60) := by
      simp only [validB, Bool.and_eq_true, decide_eq_true_eq] at hv
      exact hv.2.2
    rw [hv] at HQ
    clear hv
    go_enter Try.func29, Try.ntmps29
    go_wp2_with fail
    rw [← HWB.out]
    refine HQ.out.mono ?_
    rintro e w1 ⟨rfl, hb⟩
    have HB1 : Hid (Below w.heap.size w w1) := HBW.out.trans (hb.mono HBW.out.size)
    have hbx := (hb.block w.heap.size (Array.getElem?_eq_some_iff.1 HBX.out).1).trans HBX.out
    have HBA : Hid (Below w1.heap.size w1 (w1.alloc (.cells #[] 37))) := box_below _ _
    have r0 := cell_of_blk hbx 0 _ rfl
    have r1 := cell_of_blk hbx 1 _ rfl
    have r2 := cell_of_blk hbx 2 _ rfl
    have s0 := old_cell r0 (.cells #[] 37)
    have s1 := old_cell r1 (.cells #[] 37)
    have s2 := old_cell r2 (.cells #[] 37)
    have HS1 : Hid (StkP (w1.alloc (.cells #[] 37)) w1.heap.size [] (.slice (some ⟨w1.heap.size, 0, none⟩) 0 0)) := StkP.nil w1 _ (Nat.le_refl _)
    have HK1 : Hid (KidsOn (w1.alloc (.cells #[] 37)) (Lt w1.heap.size) t.kids (.slice ad t.kids.length cap)) := (HK.out.next HB1.out).mono (fun _ h => h) fun j (hj : j < _) => HBA.out.block j hj
    clear hb hbx
    go_wp2_with fail
    refine (comp_calls t [] _ _ w1.heap.size _ HS1.out HK1.out HBA.out.size (by have := HZ.out; simp; omega)).mono ?_
    rintro e w2 ⟨v2, rfl, hg⟩
    have HG := mkHid hg
    obtain ⟨ad2, cap2, rfl⟩ := hg.1.form
    clear hg
    go_wp2_with fail
    go_ret2
    rw [HV.out]
    refine ⟨_, rfl, (HG.out.1.row).keep HB1.out.size (fun _ _ _ => rfl), ?_⟩
    have h1 : Below w1.heap.size w1 w2 := HBA.out.trans ((HG.out.below (fun k hk => (HS1.out.lt hk).1) HBA.out.size))
    exact HB1.out.trans (h1.mono HB1.out.size)
end Go.Proofs.Ytekdipmioogohaa
/-
  slices.Grow OF NOTHING AND slices.Concat, at code: the lists one behind the other, in a row of its own.
-/
namespace Go.Proofs.Ytekdipmioogohaa
set_option linter.unusedVariables false
set_option linter.unusedSimpArgs false
open Go.RowKit

/-- an empty row of a call's own -/
def GrowRes (w : World) (e : Ending) (w' : World) : Prop := ∃ v, e = .returned v ∧ StkP w' w.heap.size [] v ∧ Below w.heap.size w w'
theorem stkP_grown {lo : Nat} {w0 w w' : World} {cs : List Ins} {v : Value} (hst : StkP w lo cs v) (hb : Below lo w0 w) (hl : lo ≤ w0.heap.size) (hg : w.grownBy w' v.ownBlock) : Below lo w0 w' :=
  ⟨by rw [hg.os]; exact hb.os, by rw [hg.tape]; exact hb.tape, by rw [hg.output]; exact hb.output, Nat.le_trans hb.size hg.size, fun k hk => (hg.block k (Nat.lt_of_lt_of_le hk (Nat.le_trans hl hb.size)) (fun e => by have := (hst.lt e).1; omega)).trans (hb.block k hk)⟩
/-- a slice of lists of code -/
def RowSl (w : World) (css : List (List Ins)) (v : Value) : Prop :=
  ∃ ad cap, v = .slice ad css.length cap ∧ css.length ≤ cap ∧ cap ≤ maxLen ∧ (css = [] ∨ ∃ bl off, ad = some ⟨bl, off, none⟩ ∧ bl < w.heap.size ∧ ∀ i (h : i < css.length), ∃ u, w.cell? ⟨bl, off + i, none⟩ = some u ∧ InsIn w css[i] u)
theorem RowSl.next {w w' : World} {css : List (List Ins)} {v : Value} (h : RowSl w css v) (hb : Below w.heap.size w w') : RowSl w' css v := by
  obtain ⟨ad, cap, e, l1, l2, h⟩ := h
  refine ⟨ad, cap, e, l1, l2, h.imp id ?_⟩
  rintro ⟨bl, off, rfl, hbl, hc⟩
  refine ⟨bl, off, rfl, Nat.lt_of_lt_of_le hbl hb.size, fun i hi => ?_⟩
  obtain ⟨u, h1, h2⟩ := hc i hi
  exact ⟨u, (hb.cell (p := ⟨bl, off + i, none⟩) hbl).trans h1, h2.next hb⟩
theorem RowSl.at {w : World} {css : List (List Ins)} {ad : Option Addr} {n cap : Nat} (h : RowSl w css (.slice ad n cap)) (i : Nat) (hi : i < css.length) : ∃ bl off u, ad = some ⟨bl, off, none⟩ ∧ w.cell? ⟨bl, off + i, none⟩ = some u ∧ InsIn w css[i] u := by
  obtain ⟨ad', cap', he, -, -, hr⟩ := h
  cases he
  rcases hr with rfl | ⟨bl, off, rfl, -, r⟩
  · simp at hi
  obtain ⟨u, h1, h2⟩ := r i hi
  exact ⟨bl, off, u, rfl, h1, h2⟩
theorem ins_news {w : World} {cs : List Ins} {ad : Addr} {n cap : Nat} (h : InsIn w cs (.slice (some ad) n cap)) : ∀ j u, (insV cs)[j]? = some u → w.cell? (ad.add j) = some u := by
  intro j u hj
  obtain ⟨ad', cap', he, -, -, hr⟩ := h
  have hjl := (List.getElem?_eq_some_iff.1 hj).1
  rw [insV_length] at hjl
  simp only [Value.slice.injEq, Option.some.injEq] at he
  obtain ⟨rfl, -, -⟩ := he
  rcases hr with rfl | ⟨bl, off, e, -, r⟩
  · simp at hjl
  simp only [Option.some.injEq] at e
  subst e
  rw [WideShapes.add_plain]
  have hi : j / 2 < cs.length := by omega
  obtain ⟨e1, e2⟩ := insV_get cs (j / 2) hi
  obtain ⟨c1, c2⟩ := r (j / 2) hi
  have hm : j % 2 = 0 ∨ j % 2 = 1 := by omega
  rcases hm with hm | hm
  · rw [show j / 2 * 2 = j by omega] at e1 c1
    rw [hj] at e1
    cases e1
    exact c1
  · rw [show j / 2 * 2 + 1 = j by omega] at e2
    rw [show off + j / 2 * 2 + 1 = off + j by omega] at c2
    rw [hj] at e2
    cases e2
    exact c2
theorem flat_take {α : Type} (l : List (List α)) (i : Nat) (h : i < l.length) : (l.take (i + 1)).flatten = (l.take i).flatten ++ l[i] := by
  rw [List.take_succ_eq_append_getElem h, List.flatten_append]; simp
theorem flat_le {α : Type} (l : List (List α)) (i : Nat) : (l.take i).flatten.length ≤ l.flatten.length := by
  conv => rhs; rw [← List.take_append_drop i l, List.flatten_append, List.length_append]
  omega

/-- the lists, one behind the other -/
def CatRes (css : List (List Ins)) (w : World) (e : Ending) (w' : World) : Prop := ∃ v, e = .returned v ∧ StkP w' w.heap.size css.flatten v ∧ Below w.heap.size w w'
end Go.Proofs.Ytekdipmioogohaa
/-
  THE MODEL's DRAWN CODE (l8Draw): some code, of at most 61 instructions; nothing is changed but the reader's own block.
-/
namespace Go.Proofs.Ytekdipmioogohaa
set_option linter.unusedVariables false
set_option linter.unusedSimpArgs false
open Go.RowKit

/-! ### A drawn expression is valid -/
def bndT : Nat → Nat
  | 0 => 0
  | d + 1 => 1 + 3 * bndT d
theorem sumT_bound (ks : List Tr) (B : Nat) (h : ∀ k ∈ ks, 1 + szT k ≤ B) : szL ks ≤ ks.length * B := by
  induction ks with
  | nil => simp [szL]
  | cons t ts ih =>
    have h1 := h t (by simp)
    have h2 := ih (fun k hk => h k (by simp [hk]))
    simp only [szL, List.length_cons, Nat.add_mul, Nat.one_mul]
    omega
theorem shB_size {vars defs : Int} : ∀ (d : Nat) (t : Tr), shB vars defs d t = true → 1 + szT t ≤ bndT d
  | 0, _, h => by simp [shB] at h
  | d + 1, t, h => by
    simp only [shB, Bool.and_eq_true, List.all_eq_true, decide_eq_true_eq] at h
    obtain ⟨⟨h1, h2⟩, h3⟩ := h
    have h4 := sumT_bound t.kids (bndT d) (fun k hk => shB_size d k (h3 k hk))
    have h5 : t.kids.length ≤ 3 := by
      rcases arity_cases t.op with e | ⟨-, e, e2⟩ <;> omega
    have h6 : t.kids.length * bndT d ≤ 3 * bndT d := Nat.mul_le_mul_right _ h5
    rw [szT_eq, bndT]
    omega
theorem shB_deeper {vars defs : Int} : ∀ (d e : Nat) (t : Tr), d ≤ e → shB vars defs d t = true → shB vars defs e t = true
  | 0, _, _, _, h => by simp [shB] at h
  | d + 1, 0, _, hd, _ => by omega
  | d + 1, e + 1, t, hd, h => by
    simp only [shB, Bool.and_eq_true, List.all_eq_true] at h ⊢
    exact ⟨h.1, fun k hk => shB_deeper d e k (by omega) (h.2 k hk)⟩
theorem drawn_valid {d : Nat} {t : Tr} (h : SzSh 2 3 d t) (hd : d ≤ 4) : validB t 4 6 = true ∧ 1 + szT t ≤ 40 := by
  have hdd : ddp d ≤ 4 := by unfold ddp; split <;> omega
  have h1 := shB_deeper (ddp d) 4 t hdd h.2
  have h2 := shB_size 4 t h1
  have h3 : bndT 4 = 40 := rfl
  refine ⟨?_, by omega⟩
  have h4 := shB_mono (vars := 2) (vars' := 4) (defs := 3) (defs' := 6) (by omega) (by omega) 16 t (shB_deeper 4 16 t (by omega) h1)
  unfold validB
  rw [h4]
  simp
  omega

theorem ints_gen (L : List Int) : ∀ i (hi : i < L.length), ((L.map fun (a : Int) => Value.int .i64 a).toArray)[i]? = some (.int .i64 L[i]) := by
  intro i hi
  simp [hi]

/-- some code was drawn -/
def DrewC (w : World) (b p : Nat) (e : Ending) (w' : World) : Prop :=
  ∃ (cs : List Ins) (v : Value) (p' : Nat), e = .returned v ∧ InsOn w' (fun k => b < k ∧ k < w'.heap.size) cs v ∧ (∀ c ∈ cs, I64 c.op ∧ I64 c.num) ∧ cs.length ≤ 61 ∧ RdOn w' b p' ∧ p' ≤ p + 3000 ∧ But b w w'
theorem cdT_i64 {vars defs : Int} : ∀ (d : Nat) (t : Tr), shB vars defs d t = true → vars ≤ 1000000 → defs ≤ 1000000 → ∀ c ∈ cdT t, I64 c.op ∧ I64 c.num
  | 0, _, h, _, _ => by simp [shB] at h
  | d + 1, t, h, hv, hf => by
    simp only [shB, Bool.and_eq_true, List.all_eq_true, decide_eq_true_eq] at h
    obtain ⟨⟨h1, h2⟩, h3⟩ := h
    intro c hc
    rw [cdT_eq, List.mem_append, List.mem_singleton] at hc
    rcases hc with hc | rfl
    · rw [cdL_flatten, List.mem_flatten] at hc
      obtain ⟨l, hl, hcl⟩ := hc
      obtain ⟨k, hk, rfl⟩ := List.mem_map.1 hl
      exact cdT_i64 d k (h3 k hk) hv hf c hcl
    · have ho : 1 ≤ t.op ∧ t.op ≤ 10 := by
        unfold arity at h1
        repeat' split at h1
        all_goals omega
      refine ⟨show I64 t.op by unfold I64; omega, show I64 t.num from ?_⟩
      unfold ownB at h2
      repeat' split at h2
      all_goals (simp at h2; unfold I64; omega)

/-! ### An instruction is overwritten -/
theorem insRow_op {w : World} {lo g n cap : Nat} {cs : List Ins} (h : InsRow w lo cs (.slice (some ⟨g, 0, none⟩) n cap)) (k : Nat) (hk : k < cs.length) (o : Int) :
    InsRow (w.setCell ⟨g, k * 2, none⟩ (.int .i64 o)) lo (cs.set k ⟨o, cs[k].num⟩) (.slice (some ⟨g, 0, none⟩) n cap) := by
  obtain ⟨ad', cap', e, l1, l2, h⟩ := h
  cases e
  rcases h with rfl | ⟨b, f, e, hb, hr, hf⟩
  · simp at hk
  simp only [Option.some.injEq, Addr.mk.injEq, and_true] at e
  subst e
  refine ⟨_, cap, by rw [List.length_set], by rw [List.length_set]; exact l1, l2, Or.inr ⟨g, _, rfl, hb, hr.set (k * 2) (.int .i64 o), fun i hi => ?_⟩⟩
  rw [List.length_set] at hi
  obtain ⟨h1, h2⟩ := hf i hi
  by_cases hik : i = k
  · subst hik
    simp only [List.getElem_set_self, if_neg (show ¬ (i * 2 + 1 = i * 2) by omega)]
    exact ⟨by simp, h2⟩
  · simp only [List.getElem_set_ne (Ne.symm hik), if_neg (show ¬ (i * 2 = k * 2) by omega), if_neg (show ¬ (i * 2 + 1 = k * 2) by omega)]
    exact ⟨h1, h2⟩
theorem insRow_num {w : World} {lo g n cap : Nat} {cs : List Ins} (h : InsRow w lo cs (.slice (some ⟨g, 0, none⟩) n cap)) (k : Nat) (hk : k < cs.length) (o : Int) :
    InsRow (w.setCell ⟨g, k * 2 + 1, none⟩ (.int .i64 o)) lo (cs.set k ⟨cs[k].op, o⟩) (.slice (some ⟨g, 0, none⟩) n cap) := by
  obtain ⟨ad', cap', e, l1, l2, h⟩ := h
  cases e
  rcases h with rfl | ⟨b, f, e, hb, hr, hf⟩
  · simp at hk
  simp only [Option.some.injEq, Addr.mk.injEq, and_true] at e
  subst e
  refine ⟨_, cap, by rw [List.length_set], by rw [List.length_set]; exact l1, l2, Or.inr ⟨g, _, rfl, hb, hr.set (k * 2 + 1) (.int .i64 o), fun i hi => ?_⟩⟩
  rw [List.length_set] at hi
  obtain ⟨h1, h2⟩ := hf i hi
  by_cases hik : i = k
  · subst hik
    simp only [List.getElem_set_self, if_neg (show ¬ (i * 2 = i * 2 + 1) by omega)]
    exact ⟨h1, by simp⟩
  · simp only [List.getElem_set_ne (Ne.symm hik), if_neg (show ¬ (i * 2 = k * 2 + 1) by omega), if_neg (show ¬ (i * 2 + 1 = k * 2 + 1) by omega)]
    exact ⟨h1, h2⟩
theorem set_i64 {cs : List Ins} (h : ∀ c ∈ cs, I64 c.op ∧ I64 c.num) {k : Nat} {d : Ins} (hd : I64 d.op ∧ I64 d.num) : ∀ c ∈ cs.set k d, I64 c.op ∧ I64 c.num := by
  intro c hc
  rcases List.mem_or_eq_of_mem_set hc with hc | rfl
  · exact h c hc
  · exact hd
theorem InsOn.take {w : World} {S : Nat → Prop} {cs : List Ins} {ad : Option Addr} {n cap : Nat} (h : InsOn w S cs (.slice ad n cap)) {k : Nat} (hk : k ≤ cs.length) : InsOn w S (cs.take k) (.slice ad k cap) := by
  obtain ⟨ad', cap', e, l1, l2, h⟩ := h
  cases e
  have hl : (cs.take k).length = k := by rw [List.length_take]; omega
  refine ⟨ad, cap, by rw [hl], by rw [hl]; omega, l2, ?_⟩
  rcases h with rfl | ⟨b, off, e, hb, hc⟩
  · left; simp
  · right
    refine ⟨b, off, e, hb, fun i hi => ?_⟩
    rw [hl] at hi
    have := hc i (by omega)
    rw [List.getElem_take]
    exact this
end Go.Proofs.Ytekdipmioogohaa
/-
  THE MODEL's DRAWN CODE: l8Draw, DrawStackOf, DrawCodeValid.
-/
namespace Go.Proofs.Ytekdipmioogohaa
set_option linter.unusedVariables false
set_option linter.unusedSimpArgs false
open Go.RowKit

theorem row_on {w : World} {lo b : Nat} {cs : List Ins} {v : Value} (h : InsRow w lo cs v) (hb : b < lo) : InsOn w (fun k => b < k ∧ k < w.heap.size) cs v := h.on.mono (fun k hk => ⟨Nat.lt_of_lt_of_le hb hk.1, hk.2⟩) (fun _ _ => rfl)
theorem drewC_of {cs : List Ins} {v : Value} {w w' : World} {b p p' : Nat} (h1 : InsOn w' (fun k => b < k ∧ k < w'.heap.size) cs v) (h2 : ∀ c ∈ cs, I64 c.op ∧ I64 c.num) (h3 : cs.length ≤ 61) (h4 : RdOn w' b p') (h5 : p' ≤ p + 3000) (h6 : But b w w') : DrewC w b p (.returned v) w' := ⟨cs, v, p', rfl, h1, h2, h3, h4, h5, h6⟩

theorem stkP_some {w : World} {lo : Nat} {cs : List Ins} {v : Value} (h : StkP w lo cs v) (hl : 1 ≤ cs.length) : ∃ g cap, v = .slice (some ⟨g, 0, none⟩) cs.length cap := by
  rcases h.2 with ⟨-, h0⟩ | ⟨g, cap, cur, e, -⟩
  · omega
  · exact ⟨g, cap, e⟩
theorem stkP_cells {w : World} {lo g n cap : Nat} {cs : List Ins} (h : StkP w lo cs (.slice (some ⟨g, 0, none⟩) n cap)) (k : Nat) (hk : k < cs.length) :
    w.cell? ⟨g, k * 2, none⟩ = some (.int .i64 cs[k].op) ∧ w.cell? ⟨g, k * 2 + 1, none⟩ = some (.int .i64 cs[k].num) ∧ w.frozen? ⟨g, k * 2, none⟩ = false ∧ w.frozen? ⟨g, k * 2 + 1, none⟩ = false := by
  obtain ⟨e1, e2⟩ := insV_get cs k hk
  rcases h.2 with ⟨e, -⟩ | ⟨g', cap', cur, e, -, hh, -⟩
  · cases e
  · cases e
    exact ⟨by rw [h.cellAt (k * 2) (by omega)]; exact e1, by rw [h.cellAt (k * 2 + 1) (by omega)]; exact e2, frz_of_blk hh _, frz_of_blk hh _⟩
set_option maxRecDepth 100000 in
set_option maxHeartbeats 3200000 in
theorem l8Draw_calls (w : World) (b p : Nat) (h : RdOn w b p) (hp : p ≤ 1000000) : Calls Try.prog 18 #[.pointer (some ⟨b, 0, none⟩)] w (DrewC w b p) := by
  have hbw := h.lt
  have HR := mkHid h
  clear h
  go_enter Try.func18, Try.ntmps18
  go_wp2_with fail
  refine (num_calls [3, 4, 2] (.slice (some ⟨w.heap.size, 0, none⟩) 3 3) _ b p (HR.out.next (box_below _ _)) (by omega) (ints_at w w.heap.size rfl b [3, 4, 2] #[.int .i64 3, .int .i64 4, .int .i64 2] hbw rfl (ints_gen [3, 4, 2])) (by simp) (by simp)).mono ?_
  rintro e w1 ⟨y, rfl, hy, hr1, hb1⟩
  have HR1 := mkHid hr1
  have HB1 : Hid (But b w w1) := (But.of_below (box_below _ _)).trans hb1
  obtain ⟨d, hd, rfl⟩ : ∃ d : Nat, d ≤ 4 ∧ y = (d : Int) := by
    simp at hy
    rcases hy with rfl | rfl | rfl
    · exact ⟨3, by omega, rfl⟩
    · exact ⟨4, by omega, rfl⟩
    · exact ⟨2, by omega, rfl⟩
  have h4d : 4 ^ d ≤ 256 := Nat.le_trans (Nat.pow_le_pow_right (by omega) hd) (by decide)
  have HD := mkHid hd
  clear hr1 hb1 hy hd
  go_wp2_with fail
  refine (sm_any d (by have := HD.out; omega) 2 3 w1 b (p + 1) (by omega) (by omega) HR1.out (by omega)).mono ?_
  rintro e w2 ⟨t, c, p2, rfl, -, -, hk, hsz, hr2, hp2, hb2⟩
  have HR2 := mkHid hr2
  have HB2 : Hid (But b w w2) := HB1.out.trans hb2
  have HK2 : Hid (In w2 t.kids c) := hk.mono (fun _ h => h.2) (fun _ _ => rfl)
  have HV := mkHid (drawn_valid hsz HD.out)
  have HI : Hid (∀ c ∈ cdT t, I64 c.op ∧ I64 c.num) := cdT_i64 _ t hsz.2 (by omega) (by omega)
  have hp2' : p2 ≤ p + 2100 := by omega
  obtain ⟨adc, capc, rfl, -, -, -⟩ := hk
  clear hr2 hb2 hsz hp2 h4d
  go_wp2_with fail
  refine (specComp_calls t _ w2 HK2.out).mono ?_
  rw [show compO t = (cdT t, true) by unfold compO; rw [if_pos HV.out.1]]
  rintro e w3 ⟨v3, rfl, hi3, hb3⟩
  obtain ⟨cs, hcs⟩ : ∃ cs, cs = cdT t := ⟨_, rfl⟩
  have hlen : 1 ≤ cs.length ∧ cs.length ≤ 40 := by rw [hcs, cdT_length]; have := HV.out.2; omega
  obtain ⟨hl1, hl2⟩ := hlen
  rw [← hcs] at HI hi3
  replace hi3 : InsRow w3 w2.heap.size cs v3 := hi3
  have HI3 : Hid (InsIn w3 cs v3) := hi3.inn
  have HR3 := mkHid (HR2.out.next hb3)
  have HB3 : Hid (But b w w3) := HB2.out.trans (But.of_below hb3)
  have HBW3 : Hid (w.heap.size ≤ w3.heap.size) := HB3.out.size
  obtain ⟨ad3, cap3, rfl, -, hm3, hr3⟩ := hi3
  obtain ⟨bl, f3, rfl⟩ : ∃ bl, ∃ f3 : Unit, ad3 = some ⟨bl, 0, none⟩ := by
    rcases hr3 with hn | ⟨bl, f, e, -⟩
    · rw [hn] at hl1; simp at hl1
    · exact ⟨bl, (), e⟩
  obtain ⟨iE, zE, hII⟩ := infoK2
  have HII := mkHid hII
  have HE0 : Hid (StkP (w3.alloc (.cells #[] 37)) w3.heap.size [] (.slice (some ⟨w3.heap.size, 0, none⟩) 0 0)) := StkP.nil w3 _ (Nat.le_refl _)
  clear hcs hb3 hm3 hr3 hII
  go_wp2_with (at_builtin; go_must (refine wpList_append_own _ rfl _ _ 23 rfl w3.heap.size 37 iE zE 2 16 Try.underlying23 HII.out.1 HII.out.2.1 HII.out.2.2.1 HII.out.2.2.2.1 HII.out.2.2.2.2 (by decide) (.slice (some ⟨w3.heap.size, 0, none⟩) 0 0) 0 [] rfl HE0.out ⟨bl, 0, none⟩ cs.length cap3 (insV cs) rfl (insV_length cs) (ins_news (HI3.out.next (box_below _ _))) (insV_one cs) (by unfold maxLen; omega) (by omega) (by rw [Deep.nblk_alloc]; omega) ?_); go_must (intro v4 w4 hown hgrow hwh); go_must (have HS4 : Hid (StkP w4 w3.heap.size cs v4) := by have h := hown; rw [Nat.zero_add, List.nil_append] at h; exact h); go_must (have hb4 : Below w3.heap.size w3 w4 := stkP_grown HE0.out (box_below _ _) (Nat.le_refl _) hgrow); go_must (have HR4 := mkHid (HR3.out.next hb4)); go_must (have HB4 : Hid (But b w w4) := HB3.out.trans (But.of_below hb4)); go_must (obtain ⟨g, cap4, rfl⟩ : ∃ g cap, v4 = .slice (some ⟨g, 0, none⟩) cs.length cap := stkP_some HS4.out hl1); clear hown hgrow hwh hb4)
  have HG : Hid (w3.heap.size ≤ g ∧ g < w4.heap.size) := HS4.out.lt rfl
  refine (pick_calls (cs.length : Int) _ b p2 HR4.out (by omega) (by omega)).mono ?_
  rintro e w5 ⟨x, rfl, x0, xu, -, hr5, hb5⟩
  have hxl := xu (by omega)
  obtain ⟨k, rfl⟩ := Int.eq_ofNat_of_zero_le x0
  have hk : k < cs.length := by omega
  have HR5 := mkHid hr5
  have HB5 : Hid (But b w w5) := HB4.out.trans hb5
  have HS5 : Hid (StkP w5 w3.heap.size cs (.slice (some ⟨g, 0, none⟩) cs.length cap4)) := HS4.out.keep (fun q hq => hb5.block q (HS4.out.lt hq).2 (by have := (HS4.out.lt hq).1; have := HBW3.out; omega))
  clear xu hr5 hb5 x0 hxl
  go_wp2_with fail
  refine (pick_calls 16 _ b (p2 + 1) HR5.out (by omega) (by omega)).mono ?_
  rintro e w6 ⟨s, rfl, s0, su, -, hr6, hb6⟩
  have hsl := su (by omega)
  have HR6 := mkHid hr6
  have HB6 : Hid (But b w w6) := HB5.out.trans hb6
  have HS6 : Hid (StkP w6 w3.heap.size cs (.slice (some ⟨g, 0, none⟩) cs.length cap4)) := HS5.out.keep (fun q hq => hb6.block q (HS5.out.lt hq).2 (by have := (HS5.out.lt hq).1; have := HBW3.out; omega))
  have HG6 : Hid (g < w6.heap.size) := (HS6.out.lt (k := g) rfl).2
  have hg3 : b ≠ g := by have := HG.out; have := HBW3.out; omega
  clear su hr6 hb6

  by_cases s0e : s = 0
  · subst s0e
    go_wp2_with fail
    refine (num_calls [0, 11, 1, 4] (.slice (some ⟨w6.heap.size, 0, none⟩) 4 4) _ b (p2 + 2) (HR6.out.next (box_below _ _)) (by omega) (ints_at w6 w6.heap.size rfl b [0, 11, 1, 4] #[.int .i64 0, .int .i64 11, .int .i64 1, .int .i64 4] (by have := HB6.out.size; omega) rfl (ints_gen [0, 11, 1, 4])) (by simp) (by simp)).mono ?_
    rintro e w7 ⟨y, rfl, hy, hr7, hb7⟩
    have HR7 := mkHid hr7
    have hbb : But b w6 w7 := (But.of_below (box_below _ _)).trans hb7
    have HB7 : Hid (But b w w7) := HB6.out.trans hbb
    have HS7 : Hid (StkP w7 w3.heap.size cs (.slice (some ⟨g, 0, none⟩) cs.length cap4)) := HS6.out.keep (fun q hq => hbb.block q (HS6.out.lt hq).2 (by have := (HS6.out.lt hq).1; have := HBW3.out; omega))
    have HY : Hid (I64 y) := by simp at hy; unfold Hid I64; omega
    obtain ⟨c0, c1, f0, f1⟩ := stkP_cells HS7.out k hk
    have HRW := mkHid (insRow_op HS7.out.row k hk y)
    clear hr7 hb7 hbb hy
    go_wp2_with fail
    go_ret
    exact drewC_of (row_on HRW.out (by have := HBW3.out; omega)) (set_i64 HI.out ⟨HY.out, (HI.out _ (List.getElem_mem hk)).2⟩) (by rw [List.length_set]; omega) (HR7.out.setCell (by show b < g; have := HG.out; have := HBW3.out; omega) _) (by omega) (HB7.out.setNew (by show w.heap.size ≤ g; have := HG.out; have := HBW3.out; omega) _)
  by_cases s1e : s = 1
  · subst s1e
    go_wp2_with fail
    refine (num_calls [1000, (-1), 3, 7] (.slice (some ⟨w6.heap.size, 0, none⟩) 4 4) _ b (p2 + 2) (HR6.out.next (box_below _ _)) (by omega) (ints_at w6 w6.heap.size rfl b [1000, (-1), 3, 7] #[.int .i64 1000, .int .i64 (-1), .int .i64 3, .int .i64 7] (by have := HB6.out.size; omega) rfl (ints_gen [1000, (-1), 3, 7])) (by simp) (by simp)).mono ?_
    rintro e w7 ⟨y, rfl, hy, hr7, hb7⟩
    have HR7 := mkHid hr7
    have hbb : But b w6 w7 := (But.of_below (box_below _ _)).trans hb7
    have HB7 : Hid (But b w w7) := HB6.out.trans hbb
    have HS7 : Hid (StkP w7 w3.heap.size cs (.slice (some ⟨g, 0, none⟩) cs.length cap4)) := HS6.out.keep (fun q hq => hbb.block q (HS6.out.lt hq).2 (by have := (HS6.out.lt hq).1; have := HBW3.out; omega))
    have HY : Hid (I64 y) := by simp at hy; unfold Hid I64; omega
    obtain ⟨c0, c1, f0, f1⟩ := stkP_cells HS7.out k hk
    have HRW := mkHid (insRow_num HS7.out.row k hk y)
    clear hr7 hb7 hbb hy
    go_wp2_with fail
    go_ret
    exact drewC_of (row_on HRW.out (by have := HBW3.out; omega)) (set_i64 HI.out ⟨(HI.out _ (List.getElem_mem hk)).1, HY.out⟩) (by rw [List.length_set]; omega) (HR7.out.setCell (by show b < g; have := HG.out; have := HBW3.out; omega) _) (by omega) (HB7.out.setNew (by show w.heap.size ≤ g; have := HG.out; have := HBW3.out; omega) _)
  by_cases s2e : s = 2
  · subst s2e
    have hkc : k ≤ cap4 := by
      rcases HS6.out.2 with ⟨e, -⟩ | ⟨_, _, _, e, -, -, h1, -⟩
      · cases e
      · cases e; omega
    go_wp2_with fail
    go_ret
    exact drewC_of (InsOn.take (row_on HS6.out.row (by have := HBW3.out; omega)) (Nat.le_of_lt hk)) (fun c hc => HI.out c (List.mem_of_mem_take hc)) (by rw [List.length_take]; omega) HR6.out (by omega) HB6.out
  by_cases s3e : s = 3
  · subst s3e
    have hap : Hid True := trivial
    go_wp2_with (at_builtin; go_must (refine wpList_append_where _ rfl _ _ 23 rfl w3.heap.size 37 iE zE 2 16 Try.underlying23 HII.out.1 HII.out.2.1 HII.out.2.2.1 HII.out.2.2.2.1 HII.out.2.2.2.2 (by decide) (.slice (some ⟨g, 0, none⟩) cs.length cap4) cs.length (insV cs) rfl (HS6.out.alloc _) ⟨w6.heap.size, 0, none⟩ 1 1 [.int .i64 2, .int .i64 0] rfl rfl (news2 w6 _ _ _) (by simp [Value.oneCell']) (by unfold maxLen; omega) (by omega) (by rw [Deep.nblk_alloc]; have := HG.out; have := HG6.out; omega) (by omega) ?_); go_must (intro v8 w8 hown hgrow hwh); go_must (have HS8 : Hid (StkP w8 w3.heap.size (cs ++ [⟨2, 0⟩]) v8) := by unfold StkP Hid; rw [insV_append, List.length_append]; exact hown); go_must (have HG8 := mkHid hgrow); clear hown hgrow hwh)
    have hsame : ∀ q, q < w3.heap.size → w8.heap[q]? = w6.heap[q]? := fun q hq => (HG8.out.block q (by rw [Deep.nblk_alloc]; have := HG.out; have := HG6.out; omega) (by simp only [Value.ownBlock, ne_eq, Option.some.injEq]; have := HG.out; omega)).trans (Deep.blk_alloc_lt _ _ _ (by have := HG.out; have := HG6.out; omega))
    have HBU : Hid (But b w w8) := ⟨HG8.out.os.trans HB6.out.os, HG8.out.tape.trans HB6.out.tape, HG8.out.output.trans HB6.out.output, by have h : (w6.alloc _).heap.size ≤ w8.heap.size := HG8.out.size; rw [Deep.nblk_alloc] at h; have := HB6.out.size; omega, fun q hq hqb => (hsame q (by have := HBW3.out; omega)).trans (HB6.out.block q hq hqb)⟩
    have HR8 : Hid (RdOn w8 b (p2 + 1 + 1)) := HR6.out.keep fun q hq => hsame q (by have := HBW3.out; omega)
    obtain ⟨ad8, n8, cap8, rfl⟩ : ∃ ad n cap, v8 = .slice ad n cap := ⟨_, _, _, HS8.out.form.choose_spec.choose_spec⟩
    go_ret
    exact drewC_of (row_on HS8.out.row (by have := HBW3.out; omega)) (fun c hc => by
      rw [List.mem_append, List.mem_singleton] at hc
      rcases hc with hc | rfl
      · exact HI.out c hc
      · exact ⟨by unfold I64; simp, by unfold I64; simp⟩) (by rw [List.length_append]; simp; omega) HR8.out (by omega) HBU.out
  · have e0 : (s == 0) = false := by simpa using s0e
    have e1 : (s == 1) = false := by simpa using s1e
    have e2 : (s == 2) = false := by simpa using s2e
    have e3 : (s == 3) = false := by simpa using s3e
    clear s0e s1e s2e s3e
    go_wp2_with fail
    go_ret
    exact drewC_of (row_on HS6.out.row (by have := HBW3.out; omega)) HI.out (by omega) HR6.out (by omega) HB6.out

/-- code that was drawn out of bytes -/
def DrawnC (w : World) (e : Ending) (w' : World) : Prop :=
  ∃ (cs : List Ins) (v : Value), e = .returned v ∧ InsIn w' cs v ∧ (∀ c ∈ cs, I64 c.op ∧ I64 c.num) ∧ cs.length ≤ 61 ∧ Below w.heap.size w w'

set_option maxHeartbeats 1600000 in
theorem drawStackOf_calls (len : Nat) (v : Value) (w : World) (h : BytesOn w (Lt w.heap.size) len v) : Calls Try.prog 7 #[v] w (DrawnC w) := by
  have H := mkHid h
  obtain ⟨ad, cap, rfl, -, -, -⟩ := h
  go_enter Try.func7, Try.ntmps7
  go_wp2_with fail
  refine (open_calls len _ w H.out).mono ?_
  rintro e w1 ⟨rfl, hr1, hb1⟩
  have HB1 := mkHid hb1
  clear hb1
  go_wp2_with fail
  refine (l8Draw_calls w1 _ 0 hr1 (by omega)).mono ?_
  rintro e w2 ⟨cs, v2, p', rfl, hi, h64, hl, -, -, hb2⟩
  have HI : Hid (InsIn w2 cs v2) := hi.mono (fun _ h => h.2) (fun _ _ => rfl)
  have HB2 : Hid (Below w.heap.size w w2) := HB1.out.trans (hb2.below (Nat.le_refl _) HB1.out.size)
  have HF := mkHid (And.intro h64 hl)
  obtain ⟨ad2, cap2, rfl, -, -, -⟩ := hi
  clear hb2 h64 hl hr1
  go_wp2_with fail
  go_ret
  exact ⟨cs, _, rfl, HI.out, HF.out.1, HF.out.2, HB2.out⟩

set_option maxHeartbeats 1600000 in
theorem drawDec_calls (len : Nat) (v : Value) (w : World) (h : BytesOn w (Lt w.heap.size) len v) : Calls Try.prog 15 #[v] w (DrawnC w) := by
  have H := mkHid h
  obtain ⟨ad, cap, rfl, -, -, -⟩ := h
  go_enter Try.func15, Try.ntmps15
  go_wp2_with fail
  refine (open_calls len _ w H.out).mono ?_
  rintro e w1 ⟨rfl, hr1, hb1⟩
  have HB1 := mkHid hb1
  clear hb1
  go_wp2_with fail
  refine (l8Draw_calls w1 _ 0 hr1 (by omega)).mono ?_
  rintro e w2 ⟨cs, v2, p', rfl, hi, h64, hl, -, -, hb2⟩
  have HI : Hid (InsIn w2 cs v2) := hi.mono (fun _ h => h.2) (fun _ _ => rfl)
  have HB2 : Hid (Below w.heap.size w w2) := HB1.out.trans (hb2.below (Nat.le_refl _) HB1.out.size)
  have HF := mkHid (And.intro h64 hl)
  obtain ⟨ad2, cap2, rfl, -, -, -⟩ := hi
  clear hb2 h64 hl hr1
  go_wp2_with fail
  go_ret
  exact ⟨cs, _, rfl, HI.out, HF.out.1, HF.out.2, HB2.out⟩

/-- code, a number of variables and one of functions that were drawn -/
def DrawnK (w : World) (e : Ending) (w' : World) : Prop :=
  ∃ (cs : List Ins) (v : Value) (x y : Int), e = .returned (.tuple #[v, .int .i64 x, .int .i64 y]) ∧ InsIn w' cs v ∧ (∀ c ∈ cs, I64 c.op ∧ I64 c.num) ∧ cs.length ≤ 61 ∧ Below w.heap.size w w'
set_option maxRecDepth 100000 in
set_option maxHeartbeats 1600000 in
theorem drawCodeValid_calls (len : Nat) (v : Value) (w : World) (h : BytesOn w (Lt w.heap.size) len v) : Calls Try.prog 10 #[v] w (DrawnK w) := by
  have H := mkHid h
  obtain ⟨ad, cap, rfl, -, -, -⟩ := h
  go_enter Try.func10, Try.ntmps10
  go_wp2_with fail
  refine (open_calls len _ w H.out).mono ?_
  rintro e w1 ⟨rfl, hr1, hb1⟩
  have HB1 := mkHid hb1
  obtain ⟨b, hbd⟩ : ∃ b, b = w.heap.size := ⟨_, rfl⟩
  have HBD := mkHid hbd
  rw [← hbd] at hr1 ⊢
  clear hb1 hbd
  go_wp2_with fail
  refine (l8Draw_calls w1 b 0 hr1 (by omega)).mono ?_
  rintro e w2 ⟨cs, v2, p', rfl, hi, h64, hl, hr2, hp2, hb2⟩
  have HI := mkHid hi
  have HR2 := mkHid hr2
  have HB2 : Hid (Below w.heap.size w w2) := HB1.out.trans (hb2.below (by rw [HBD.out]; exact Nat.le_refl _) HB1.out.size)
  have HF := mkHid (And.intro h64 hl)
  have hlt2 := hr2.lt
  obtain ⟨ad2, cap2, rfl, -, -, -⟩ := hi
  clear hb2 h64 hl hr1 hr2
  go_wp2_with fail
  refine (num_calls [2, 3, 1, 5, (-1)] (.slice (some ⟨w2.heap.size, 0, none⟩) 5 5) _ b p' (HR2.out.next (box_below _ _)) (by omega) (ints_at w2 w2.heap.size rfl b [2, 3, 1, 5, (-1)] #[.int .i64 2, .int .i64 3, .int .i64 1, .int .i64 5, .int .i64 (-1)] hlt2 rfl (ints_gen [2, 3, 1, 5, (-1)])) (by simp) (by simp)).mono ?_
  rintro e w3 ⟨x, rfl, hx, hr3, hb3⟩
  have HR3 := mkHid hr3
  have hbb3 : But b w2 w3 := (But.of_below (box_below _ _)).trans hb3
  have HI3 : Hid (InsOn w3 (fun k => b < k ∧ k < w3.heap.size) cs (.slice ad2 cs.length cap2)) := HI.out.mono (fun k hk => ⟨hk.1, Nat.lt_of_lt_of_le hk.2 hbb3.size⟩) (fun k hk => hbb3.block k hk.2 (Nat.ne_of_gt hk.1))
  have HB3 : Hid (Below w.heap.size w w3) := HB2.out.trans (hbb3.below (by rw [HBD.out]; exact Nat.le_refl _) HB2.out.size)
  have hlt3 := hr3.lt
  clear hr3 hb3 hbb3 hx
  go_wp2_with fail
  refine (num_calls [3, 6, 2, 7, (-1)] (.slice (some ⟨w3.heap.size, 0, none⟩) 5 5) _ b (p' + 1) (HR3.out.next (box_below _ _)) (by omega) (ints_at w3 w3.heap.size rfl b [3, 6, 2, 7, (-1)] #[.int .i64 3, .int .i64 6, .int .i64 2, .int .i64 7, .int .i64 (-1)] hlt3 rfl (ints_gen [3, 6, 2, 7, (-1)])) (by simp) (by simp)).mono ?_
  rintro e w4 ⟨y, rfl, hy, hr4, hb4⟩
  have hbb4 : But b w3 w4 := (But.of_below (box_below _ _)).trans hb4
  have HI4 : Hid (InsOn w4 (fun k => b < k ∧ k < w4.heap.size) cs (.slice ad2 cs.length cap2)) := HI3.out.mono (fun k hk => ⟨hk.1, Nat.lt_of_lt_of_le hk.2 hbb4.size⟩) (fun k hk => hbb4.block k hk.2 (Nat.ne_of_gt hk.1))
  have HB4 : Hid (Below w.heap.size w w4) := HB3.out.trans (hbb4.below (by rw [HBD.out]; exact Nat.le_refl _) HB3.out.size)
  clear hr4 hb4 hbb4 hy
  go_wp2_with fail
  refine bodyPost_ret (v := .tuple #[.slice ad2 cs.length cap2, .int .i64 x, .int .i64 y]) (by simp [results, Try.results10, go_sem]) rfl ⟨cs, _, x, y, rfl, HI4.out.mono (fun _ h => h.2) (fun _ _ => rfl), HF.out.1, HF.out.2, HB4.out⟩
end Go.Proofs.Ytekdipmioogohaa
