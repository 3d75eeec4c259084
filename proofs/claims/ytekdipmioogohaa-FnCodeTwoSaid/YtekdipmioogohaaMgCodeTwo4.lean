/-
  PLAIN FACTS ON CODE: the stack's height is bounded by the number of instructions; a beginning of code has a lower stack; more variables and functions.
-/
import Derived.Test.YtekdipmioogohaaMgCodeTwo3
import Derived.Test.YtekdipmioogohaaMgCodeTwo1
import Derived.Test.YtekdipmioogohaaProg
import Derived.Deep.DeepMust
import Derived.Maps.Own
import Derived.Maps.OwnOps
import Derived.LaidEqlPtr
import Derived.Laws.AppendOwn
import Derived.WalkSpells
import Derived.Deep.RegionHeld3
namespace Go.Proofs.Ytekdipmioogohaa
set_option linter.unusedVariables false
set_option linter.unusedSimpArgs false

theorem mxL_append (a b : List Nat) : mxL a ≤ mxL (a ++ b) := by
  induction b generalizing a with
  | nil => simp
  | cons x b ih =>
    have h := ih (a ++ [x])
    rw [mxL_snoc, List.append_assoc] at h
    exact Nat.le_trans (Nat.le_max_left _ _) h
theorem dsC_ext {s d : List Nat} {cs : List Ins} (h : dsC s cs = some d) : ∃ r, d = s ++ r := by
  induction cs generalizing s with
  | nil => simp only [dsC, Option.some.injEq] at h; subst h; exact ⟨[], by simp⟩
  | cons c cs ih =>
    simp only [dsC] at h
    cases e : dstp s c with
    | none => rw [e] at h; cases h
    | some s' =>
      rw [e, Option.bind_some] at h
      obtain ⟨r, hr⟩ := ih h
      unfold dstp at e
      cases e2 : hstp (topH s) c with
      | none => rw [e2] at e; cases e
      | some x =>
        rw [e2] at e
        simp only [Option.map_some, Option.some.injEq] at e
        exact ⟨x :: r, by rw [hr, ← e]; simp⟩
theorem stackO_some {cs : List Ins} {ds : List Nat} (h : dsC [] cs = some ds) : stackO cs = mxL ds := by unfold stackO; rw [h]
theorem stackO_none {cs : List Ins} (h : dsC [] cs = none) : stackO cs = 0 := by unfold stackO; rw [h]
theorem mxL_le {s d : List Nat} {cs : List Ins} {B : Nat} (h : dsC s cs = some d) (h1 : mxL s ≤ B) (h2 : topH s + cs.length ≤ B) : mxL d ≤ B := by
  induction cs generalizing s with
  | nil => simp only [dsC, Option.some.injEq] at h; subst h; exact h1
  | cons c cs ih =>
    simp only [dsC] at h
    cases e : dstp s c with
    | none => rw [e] at h; cases h
    | some s' =>
      rw [e, Option.bind_some] at h
      unfold dstp at e
      cases e2 : hstp (topH s) c with
      | none => rw [e2] at e; cases e
      | some x =>
        rw [e2] at e
        simp only [Option.map_some, Option.some.injEq] at e
        subst e
        have hx : x ≤ topH s + 1 := by
          unfold hstp at e2
          split at e2
          · simp only [Option.some.injEq] at e2; omega
          · cases e2
        simp only [List.length_cons] at h2
        exact ih h (by rw [mxL_snoc]; omega) (by rw [topH_snoc]; omega)
theorem stackO_le (cs : List Ins) : stackO cs ≤ cs.length := by
  cases h : dsC [] cs with
  | none => rw [stackO_none h]; omega
  | some ds => rw [stackO_some h]; exact mxL_le h (by simp [mxL]) (by simp [topH])
theorem stackO_take {cs : List Ins} (k : Nat) (h : stackO cs ≠ 0) : stackO (cs.take k) ≤ stackO cs := by
  cases hd : dsC [] cs with
  | none => exact absurd (stackO_none hd) h
  | some ds =>
    rw [stackO_some hd]
    have h2 := hd
    rw [← List.take_append_drop k cs, dsC_append] at h2
    cases hd2 : dsC [] (cs.take k) with
    | none => rw [stackO_none hd2]; omega
    | some d2 =>
      rw [hd2, Option.bind_some] at h2
      obtain ⟨r, hr⟩ := dsC_ext h2
      rw [stackO_some hd2, hr]
      exact mxL_append d2 r
theorem stackO_nil : stackO [] = 0 := rfl
/-- code that is valid leaves something on the stack -/
theorem stackO_pos {cs : List Ins} {vars defs : Int} (h : codeB cs vars defs = true) : 0 < stackO cs := by
  cases e : oneC cs with
  | none => rw [codeB_none e] at h; cases h
  | some t =>
    have h1 := oneC_some e
    have h2 := runC_ds [] [] cs rfl
    rw [h1] at h2
    cases hd : dsC [] cs with
    | none => rw [hd] at h2; cases h2
    | some ds =>
      rw [hd] at h2
      simp only [Option.map_some, Option.some.injEq, List.length_cons, List.length_nil] at h2
      rw [stackO_some hd]
      cases hl : ds.reverse with
      | nil =>
        have : ds = [] := by simpa using hl
        rw [this] at h2
        simp [topH] at h2
      | cons x r =>
        have : ds = r.reverse ++ [x] := by
          have := congrArg List.reverse hl
          simpa using this
        rw [this, topH_snoc] at h2
        rw [this, mxL_snoc]
        omega
theorem validB_wide {t : Tr} {v d v' d' : Int} (h : validB t v d = true) (hv : v ≤ v') (hd : d ≤ d') (hv4 : v' ≤ 4) (hd6 : d' ≤ 6) : validB t v' d' = true := by
  simp only [validB, Bool.and_eq_true, decide_eq_true_eq] at h ⊢
  obtain ⟨⟨a, b, c, e⟩, h1, h2⟩ := h
  exact ⟨⟨by omega, hv4, by omega, hd6⟩, shB_mono hv hd 16 t h1, h2⟩
theorem codeB_wide {cs : List Ins} {v d v' d' : Int} (h : codeB cs v d = true) (hv : v ≤ v') (hd : d ≤ d') (hv4 : v' ≤ 4) (hd6 : d' ≤ 6) : codeB cs v' d' = true := by
  have hl : cs.length ≤ 60 := by
    rcases Nat.lt_or_ge 60 cs.length with h2 | h2
    · rw [codeB_long h2] at h; cases h
    · exact h2
  cases e : oneC cs with
  | none => rw [codeB_none e] at h; cases h
  | some t =>
    rw [codeB_one e hl] at h ⊢
    exact validB_wide h hv hd hv4 hd6
theorem codeB_bnd {cs : List Ins} {v d : Int} (h : codeB cs v d = true) : 0 ≤ v ∧ v ≤ 4 ∧ 0 ≤ d ∧ d ≤ 6 := by
  cases e : oneC cs with
  | none => rw [codeB_none e] at h; cases h
  | some t =>
    have hl : cs.length ≤ 60 := by
      rcases Nat.lt_or_ge 60 cs.length with h2 | h2
      · rw [codeB_long h2] at h; cases h
      · exact h2
    rw [codeB_one e hl] at h
    simp only [validB, Bool.and_eq_true, decide_eq_true_eq] at h
    exact h.1
/-- valid with some variables and functions: valid with all, and the expression with some -/
theorem codeB_dec (cs : List Ins) (v d : Int) : codeB cs v d = ((decO cs 4 6).2 && validB (decO cs 4 6).1 v d) := by
  cases h : codeB cs 4 6 with
  | false =>
    rw [decO_false h]
    cases h2 : codeB cs v d with
    | false => rfl
    | true =>
      have hb := codeB_bnd h2
      rw [codeB_wide h2 hb.2.1 hb.2.2.2 (by omega) (by omega)] at h
      cases h
  | true =>
    obtain ⟨t, ht, hd⟩ := decO_true h
    have hl : cs.length ≤ 60 := by
      rcases Nat.lt_or_ge 60 cs.length with h2 | h2
      · rw [codeB_long h2] at h; cases h
      · exact h2
    rw [hd, codeB_one ht hl]
    rfl
end Go.Proofs.Ytekdipmioogohaa
/-
  CODE TWICE: what is run on more elements below leaves them; code for a tree, twice, is no code of a tree; with an instruction of two operands behind it it is that of the pair. Plain lists, no memory.
-/
namespace Go.Proofs.Ytekdipmioogohaa
set_option linter.unusedVariables false
set_option linter.unusedSimpArgs false
open Go.RowKit

theorem stp_pre (p : List Tr) {s s' : List Tr} {c : Ins} (h : stp s c = some s') : stp (p ++ s) c = some (p ++ s') := by
  unfold stp at h ⊢
  split at h
  · rename_i hc
    simp only [Option.some.injEq] at h
    subst h
    rw [if_pos ⟨hc.1, by rw [List.length_append]; omega⟩]
    have e : (p ++ s).length - arN c.op = p.length + (s.length - arN c.op) := by rw [List.length_append]; omega
    rw [e, List.take_length_add_append, List.drop_length_add_append, List.append_assoc]
  · cases h
theorem runC_pre (p : List Tr) : ∀ (cs : List Ins) {s s' : List Tr}, runC s cs = some s' → runC (p ++ s) cs = some (p ++ s')
  | [], s, s', h => by
    simp only [runC, Option.some.injEq] at h ⊢
    rw [h]
  | c :: cs, s, s', h => by
    simp only [runC] at h ⊢
    cases hs : stp s c with
    | none => rw [hs] at h; cases h
    | some s1 =>
      rw [hs, Option.bind_some] at h
      rw [stp_pre p hs, Option.bind_some]
      exact runC_pre p cs h
theorem run_two {cs : List Ins} {t : Tr} (h : runC [] cs = some [t]) : runC [] (cs ++ cs) = some [t, t] := by
  rw [runC_append, h, Option.bind_some]
  exact runC_pre [t] cs h
theorem two_false {cs : List Ins} {t : Tr} (h : oneC cs = some t) : decO (cs ++ cs) 4 6 = (.node 0 0 [], false) := by
  refine decO_false (codeB_none ?_)
  unfold oneC
  rw [run_two (oneC_some h)]
theorem pair_dec {cs : List Ins} {t : Tr} (h : oneC cs = some t) : decO (cs ++ cs ++ [⟨5, 0⟩]) 4 6 = (.node 0 0 [], false) ∨ decO (cs ++ cs ++ [⟨5, 0⟩]) 4 6 = (.node 5 0 [t, t], true) := by
  have e : runC [] (cs ++ cs ++ [⟨5, 0⟩]) = some [.node 5 0 [t, t]] := by
    rw [runC_append, run_two (oneC_some h), Option.bind_some]
    rfl
  cases hv : codeB (cs ++ cs ++ [⟨5, 0⟩]) 4 6 with
  | false => exact Or.inl (decO_false hv)
  | true =>
    obtain ⟨t', h1, h2⟩ := decO_true hv
    rw [oneC_of e, Option.some.injEq] at h1
    rw [h2, ← h1]
    exact Or.inr rfl
theorem oneC_pos {cs : List Ins} {t : Tr} (h : oneC cs = some t) : 1 ≤ cs.length := by
  cases cs with
  | nil => cases h
  | cons c cs => simp
theorem decO_one {cs : List Ins} (h : (decO cs 4 6).2 = true) : ∃ t, oneC cs = some t ∧ decO cs 4 6 = (t, true) := decO_true (by rw [← decO_valid]; exact h)
end Go.Proofs.Ytekdipmioogohaa
/-
  TREES WHOSE BLOCKS ARE ALL DISTINCT: a footprint, the list of the blocks of a tree's rows; what a write into them leaves.
-/
namespace Go.Proofs.Ytekdipmioogohaa
set_option linter.unusedVariables false
set_option linter.unusedSimpArgs false
open Go.RowKit

mutual
/-- the three cells of a tree, its rows in the blocks fp -/
def TrFp (w : World) (T : TypeId) : Tr → List Nat → Value → Value → Value → Prop
  | .node op n ks, fp, a, b, c => a = .int .i64 op ∧ b = .int .i64 n ∧ I64 op ∧ I64 n ∧
      ∃ ad cap, c = .slice ad ks.length cap ∧ ks.length ≤ cap ∧ cap ≤ maxLen ∧
        ((ks = [] ∧ fp = []) ∨ ∃ bl off C fps, ad = some ⟨bl, off, none⟩ ∧ w.heap[bl]? = some (.cells C T) ∧ fp = bl :: fps.flatten ∧ RowFp w T bl off ks fps)
/-- the trees of a row, each with its own blocks -/
def RowFp (w : World) (T : TypeId) (bl off : Nat) : List Tr → List (List Nat) → Prop
  | [], fps => fps = []
  | t :: ts, fps => ∃ f fs, fps = f :: fs ∧ (∃ a b c, w.cell? ⟨bl, off, none⟩ = some a ∧ w.cell? ⟨bl, off + 1, none⟩ = some b ∧ w.cell? ⟨bl, off + 2, none⟩ = some c ∧ TrFp w T t f a b c) ∧ RowFp w T bl (off + 3) ts fs
end

/-- a slice value that holds these trees, in the blocks fp -/
def KidsFp (w : World) (T : TypeId) (ks : List Tr) (fp : List Nat) (c : Value) : Prop :=
  ∃ ad cap, c = .slice ad ks.length cap ∧ ks.length ≤ cap ∧ cap ≤ maxLen ∧
    ((ks = [] ∧ fp = []) ∨ ∃ bl off C fps, ad = some ⟨bl, off, none⟩ ∧ w.heap[bl]? = some (.cells C T) ∧ fp = bl :: fps.flatten ∧ RowFp w T bl off ks fps)

theorem trFp_iff {w : World} {T : TypeId} {t : Tr} {fp : List Nat} {a b c : Value} : TrFp w T t fp a b c ↔ a = .int .i64 t.op ∧ b = .int .i64 t.num ∧ I64 t.op ∧ I64 t.num ∧ KidsFp w T t.kids fp c := by
  cases t; simp [TrFp, KidsFp]

mutual
theorem TrFp.keep {w w' : World} {T : TypeId} : ∀ (t : Tr) (fp : List Nat) (a b c : Value), (∀ k ∈ fp, w'.heap[k]? = w.heap[k]?) → TrFp w T t fp a b c → TrFp w' T t fp a b c
  | .node op n ks, fp, a, b, c, hw, h => by
    simp only [TrFp] at h ⊢
    obtain ⟨h1, h2, h3, h4, ad, cap, e, l1, l2, h5⟩ := h
    refine ⟨h1, h2, h3, h4, ad, cap, e, l1, l2, ?_⟩
    rcases h5 with h5 | ⟨bl, off, C, fps, e, hb, rfl, r⟩
    · exact Or.inl h5
    · exact Or.inr ⟨bl, off, C, fps, e, (hw bl (by simp)).trans hb, rfl, RowFp.keep bl off ks fps (hw bl (by simp)) (fun f hf k hk => hw k (by simp only [List.mem_cons, List.mem_flatten]; exact Or.inr ⟨f, hf, hk⟩)) r⟩
theorem RowFp.keep {w w' : World} {T : TypeId} (bl off : Nat) : ∀ (ks : List Tr) (fps : List (List Nat)), w'.heap[bl]? = w.heap[bl]? → (∀ f ∈ fps, ∀ k ∈ f, w'.heap[k]? = w.heap[k]?) → RowFp w T bl off ks fps → RowFp w' T bl off ks fps
  | [], fps, _, _, h => by simpa [RowFp] using h
  | t :: ts, fps, hb, hw, h => by
    simp only [RowFp] at h ⊢
    obtain ⟨f, fs, rfl, ⟨a, b, c, ha, hbb, hc, ht⟩, hr⟩ := h
    refine ⟨f, fs, rfl, ⟨a, b, c, ?_, ?_, ?_, TrFp.keep t f a b c (hw f (by simp)) ht⟩, RowFp.keep bl (off + 3) ts fs hb (fun g hg => hw g (by simp [hg])) hr⟩
    · rw [World.cell?_of_block (w := w) hb]; exact ha
    · rw [World.cell?_of_block (w := w) hb]; exact hbb
    · rw [World.cell?_of_block (w := w) hb]; exact hc
end
theorem KidsFp.keep {w w' : World} {T : TypeId} {ks : List Tr} {fp : List Nat} {c : Value} (h : KidsFp w T ks fp c) (hw : ∀ k ∈ fp, w'.heap[k]? = w.heap[k]?) : KidsFp w' T ks fp c := by
  obtain ⟨ad, cap, e, l1, l2, h5⟩ := h
  refine ⟨ad, cap, e, l1, l2, ?_⟩
  rcases h5 with h5 | ⟨bl, off, C, fps, e, hb, rfl, r⟩
  · exact Or.inl h5
  · exact Or.inr ⟨bl, off, C, fps, e, (hw bl (by simp)).trans hb, rfl, RowFp.keep bl off ks fps (hw bl (by simp)) (fun f hf k hk => hw k (by simp only [List.mem_cons, List.mem_flatten]; exact Or.inr ⟨f, hf, hk⟩)) r⟩

/-- the blocks lie in the heap -/
theorem cellsOf_lt {w : World} {b : Nat} {o : Obj} (h : w.heap[b]? = some o) : b < w.heap.size := (Array.getElem?_eq_some_iff.1 h).1
mutual
theorem TrFp.on {w : World} {T : TypeId} {S : Nat → Prop} : ∀ (t : Tr) (fp : List Nat) (a b c : Value), (∀ k ∈ fp, S k) → TrFp w T t fp a b c → TrOn w S t a b c
  | .node op n ks, fp, a, b, c, hS, h => by
    simp only [TrFp] at h
    simp only [TrOn]
    obtain ⟨h1, h2, h3, h4, ad, cap, e, l1, l2, h5⟩ := h
    refine ⟨h1, h2, h3, h4, ad, cap, e, l1, l2, ?_⟩
    rcases h5 with ⟨h5, _⟩ | ⟨bl, off, C, fps, e, hb, rfl, r⟩
    · exact Or.inl h5
    · exact Or.inr ⟨bl, off, e, hS bl (by simp), RowFp.on bl off ks fps (fun f hf k hk => hS k (by simp only [List.mem_cons, List.mem_flatten]; exact Or.inr ⟨f, hf, hk⟩)) r⟩
theorem RowFp.on {w : World} {T : TypeId} {S : Nat → Prop} (bl off : Nat) : ∀ (ks : List Tr) (fps : List (List Nat)), (∀ f ∈ fps, ∀ k ∈ f, S k) → RowFp w T bl off ks fps → RowOn w S bl off ks
  | [], fps, _, h => by simp [RowOn]
  | t :: ts, fps, hS, h => by
    simp only [RowFp] at h
    simp only [RowOn]
    obtain ⟨f, fs, rfl, ⟨a, b, c, ha, hbb, hc, ht⟩, hr⟩ := h
    exact ⟨⟨a, b, c, ha, hbb, hc, TrFp.on t f a b c (hS f (by simp)) ht⟩, RowFp.on bl (off + 3) ts fs (fun g hg => hS g (by simp [hg])) hr⟩
end
theorem KidsFp.on {w : World} {T : TypeId} {S : Nat → Prop} {ks : List Tr} {fp : List Nat} {c : Value} (h : KidsFp w T ks fp c) (hS : ∀ k ∈ fp, S k) : KidsOn w S ks c := by
  obtain ⟨ad, cap, e, l1, l2, h5⟩ := h
  refine ⟨ad, cap, e, l1, l2, ?_⟩
  rcases h5 with ⟨h5, _⟩ | ⟨bl, off, C, fps, e, hb, rfl, r⟩
  · exact Or.inl h5
  · exact Or.inr ⟨bl, off, e, hS bl (by simp), RowFp.on bl off ks fps (fun f hf k hk => hS k (by simp only [List.mem_cons, List.mem_flatten]; exact Or.inr ⟨f, hf, hk⟩)) r⟩

/-- element i of a row -/
theorem RowFp.at {w : World} {T : TypeId} {bl : Nat} : ∀ (ks : List Tr) (fps : List (List Nat)) (off i : Nat) (hi : i < ks.length), RowFp w T bl off ks fps →
    fps.length = ks.length ∧ ∃ f, fps[i]? = some f ∧ ∃ a b c, w.cell? ⟨bl, off + i * 3, none⟩ = some a ∧ w.cell? ⟨bl, off + i * 3 + 1, none⟩ = some b ∧ w.cell? ⟨bl, off + i * 3 + 2, none⟩ = some c ∧ TrFp w T ks[i] f a b c
  | [], _, _, _, hi, _ => by simp at hi
  | t :: ts, fps, off, 0, _, h => by
    simp only [RowFp] at h
    obtain ⟨f, fs, rfl, h1, h2⟩ := h
    refine ⟨?_, f, rfl, by simpa using h1⟩
    cases ts with
    | nil => simp only [RowFp] at h2; simp [h2]
    | cons u us => simp [(RowFp.at (u :: us) fs (off + 3) 0 (by simp) h2).1]
  | t :: ts, fps, off, i + 1, hi, h => by
    simp only [RowFp] at h
    obtain ⟨f, fs, rfl, h1, h2⟩ := h
    have := RowFp.at ts fs (off + 3) i (by simpa using hi) h2
    have e : off + 3 + i * 3 = off + (i + 1) * 3 := by omega
    rw [e] at this
    exact ⟨by simp [this.1], by simpa using this.2⟩

/-- a row from its elements -/
theorem RowFp.of {w : World} {T : TypeId} {bl : Nat} : ∀ (ks : List Tr) (fps : List (List Nat)) (off : Nat), fps.length = ks.length →
    (∀ i (hi : i < ks.length), ∃ f, fps[i]? = some f ∧ ∃ a b c, w.cell? ⟨bl, off + i * 3, none⟩ = some a ∧ w.cell? ⟨bl, off + i * 3 + 1, none⟩ = some b ∧ w.cell? ⟨bl, off + i * 3 + 2, none⟩ = some c ∧ TrFp w T ks[i] f a b c) → RowFp w T bl off ks fps
  | [], fps, _, hl, _ => by simpa [RowFp] using hl
  | t :: ts, [], _, hl, _ => by simp at hl
  | t :: ts, f :: fs, off, hl, h => by
    simp only [RowFp]
    refine ⟨f, fs, rfl, ?_, RowFp.of ts fs (off + 3) (by simpa using hl) fun i hi => ?_⟩
    · obtain ⟨f', hf, a, b, c, h1⟩ := h 0 (by simp)
      simp only [List.getElem?_cons_zero, Option.some.injEq] at hf
      subst hf
      simp only [Nat.zero_mul, Nat.add_zero, List.getElem_cons_zero] at h1
      exact ⟨a, b, c, h1⟩
    · have := h (i + 1) (by simpa using hi)
      have e : off + (i + 1) * 3 = off + 3 + i * 3 := by omega
      rw [e] at this
      simpa using this

/-! ### Numbered trees -/
/-- the trees of a list with their numbers replaced, in order, from k on -/
def labL : List Tr → Int → List Tr
  | [], _ => []
  | .node _ _ ks :: ts, k => .node k (k + 1) (labL ks (k + 2)) :: labL ts (k + 2 + 2 * (szL ks : Int))
theorem labL_length : ∀ (ts : List Tr) (k : Int), (labL ts k).length = ts.length
  | [], _ => by simp [labL]
  | .node _ _ ks :: ts, k => by simp [labL, labL_length ts]
theorem labL_cons (t : Tr) (ts : List Tr) (k : Int) : labL (t :: ts) k = .node k (k + 1) (labL t.kids (k + 2)) :: labL ts (k + 2 + 2 * (szT t : Int)) := by
  cases t; simp [labL, szT]
theorem labL_append : ∀ (a b : List Tr) (k : Int), labL (a ++ b) k = labL a k ++ labL b (k + 2 * (szL a : Int))
  | [], b, k => by simp [labL, szL]
  | t :: a, b, k => by
    rw [List.cons_append, labL_cons, labL_cons, labL_append a b]
    simp only [List.cons_append, szL]
    congr 3
    push_cast
    omega
end Go.Proofs.Ytekdipmioogohaa
/-
  THE NUMBERS THAT MARKED TREES BEAR, element by element.
-/
namespace Go.Proofs.Ytekdipmioogohaa
set_option linter.unusedVariables false
set_option linter.unusedSimpArgs false
open Go.RowKit

/-- the number that stands at element i -/
def labAt (ks : List Tr) (k : Int) (i : Nat) : Int := k + 2 * (szL (ks.take i) : Int)
theorem labAt_zero (ks : List Tr) (k : Int) : labAt ks k 0 = k := by simp [labAt, szL]
theorem labAt_end (ks : List Tr) (k : Int) : labAt ks k ks.length = k + 2 * (szL ks : Int) := by simp [labAt]
theorem labAt_succ (ks : List Tr) (k : Int) (i : Nat) (hi : i < ks.length) : labAt ks k (i + 1) = labAt ks k i + 2 + 2 * (szL ks[i].kids : Int) := by
  unfold labAt
  rw [szL_take_succ ks i hi, szT_eq]
  push_cast
  omega
theorem labAt_le (ks : List Tr) (k : Int) (i : Nat) : k ≤ labAt ks k i ∧ labAt ks k i ≤ k + 2 * (szL ks : Int) := by
  have := szL_take_le ks i
  unfold labAt
  omega
theorem labL_get : ∀ (ks : List Tr) (k : Int) (i : Nat) (hi : i < ks.length) (hj : i < (labL ks k).length), (labL ks k)[i] = .node (labAt ks k i) (labAt ks k i + 1) (labL ks[i].kids (labAt ks k i + 2))
  | [], _, _, hi, _ => by simp at hi
  | t :: ts, k, 0, _, _ => by simp [labL_cons, labAt_zero]
  | t :: ts, k, i + 1, hi, hj => by
    have := labL_get ts (k + 2 + 2 * (szT t : Int)) i (by simpa using hi) (by rw [labL_length]; simpa using hi)
    simp only [labL_cons, List.getElem_cons_succ, this]
    have e : labAt ts (k + 2 + 2 * (szT t : Int)) i = labAt (t :: ts) k (i + 1) := by
      unfold labAt
      simp only [List.take_succ_cons, szL]
      push_cast
      omega
    rw [e]

end Go.Proofs.Ytekdipmioogohaa
/-
  A WORLD IN WHICH NOTHING BUT SOME BLOCKS HAS BEEN WRITTEN.
-/
namespace Go.Proofs.Ytekdipmioogohaa
set_option linter.unusedVariables false
set_option linter.unusedSimpArgs false
open Go.RowKit

/-- all blocks but those of a list are as they were -/
structure ButL (fp : List Nat) (w w' : World) : Prop where
  os : w'.os = w.os
  tape : w'.tape = w.tape
  output : w'.output = w.output
  size : w.heap.size ≤ w'.heap.size
  block : ∀ k, k < w.heap.size → k ∉ fp → w'.heap[k]? = w.heap[k]?
theorem ButL.refl (fp : List Nat) (w : World) : ButL fp w w := ⟨rfl, rfl, rfl, Nat.le_refl _, fun _ _ _ => rfl⟩
theorem ButL.trans {fp : List Nat} {a c d : World} (h : ButL fp a c) (k : ButL fp c d) : ButL fp a d :=
  ⟨k.os.trans h.os, k.tape.trans h.tape, k.output.trans h.output, Nat.le_trans h.size k.size, fun i hi hb => (k.block i (Nat.lt_of_lt_of_le hi h.size) hb).trans (h.block i hi hb)⟩
theorem ButL.mono {fp fq : List Nat} {w w' : World} (h : ButL fp w w') (hs : ∀ k ∈ fp, k ∈ fq) : ButL fq w w' := ⟨h.os, h.tape, h.output, h.size, fun k hk hb => h.block k hk fun hm => hb (hs k hm)⟩
theorem ButL.of_below {fp : List Nat} {w w' : World} (h : Below w.heap.size w w') : ButL fp w w' := ⟨h.os, h.tape, h.output, h.size, fun k hk _ => h.block k hk⟩
theorem ButL.below {fp : List Nat} {B : Nat} {w w' : World} (h : ButL fp w w') (hf : ∀ k ∈ fp, B ≤ k) (hB : B ≤ w.heap.size) : Below B w w' :=
  ⟨h.os, h.tape, h.output, h.size, fun k hk => h.block k (by omega) (fun hm => by have := hf k hm; omega)⟩
theorem ButL.setCell {fp : List Nat} (w : World) (b o : Nat) (hb : b ∈ fp) (u : Value) : ButL fp w (w.setCell ⟨b, o, none⟩ u) :=
  ⟨rfl, rfl, rfl, by simp [World.setCell], fun k hk hn => Below.heap_setCell _ _ _ _ (fun e => hn (e ▸ hb))⟩
end Go.Proofs.Ytekdipmioogohaa
/-
  THE LAWS' OWN MARKING OF TREES (markExprS, markExpr): a list of trees whose blocks are all distinct bears its numbers in order afterwards; no other block is changed.
-/
namespace Go.Proofs.Ytekdipmioogohaa
set_option linter.unusedVariables false
set_option linter.unusedSimpArgs false
open Go.RowKit


mutual
theorem TrFp.lt {w : World} {T : TypeId} : ∀ (t : Tr) (fp : List Nat) (a b c : Value), TrFp w T t fp a b c → ∀ k ∈ fp, k < w.heap.size
  | .node op n ks, fp, a, b, c, h, k, hk => by
    simp only [TrFp] at h
    obtain ⟨-, -, -, -, ad, cap, e, l1, l2, h5⟩ := h
    rcases h5 with ⟨-, rfl⟩ | ⟨bl, off, C, fps, e, hb, rfl, r⟩
    · simp at hk
    · simp only [List.mem_cons, List.mem_flatten] at hk
      rcases hk with rfl | ⟨f, hf, hk⟩
      · exact cellsOf_lt hb
      · exact RowFp.lt bl off ks fps r f hf k hk
theorem RowFp.lt {w : World} {T : TypeId} (bl off : Nat) : ∀ (ks : List Tr) (fps : List (List Nat)), RowFp w T bl off ks fps → ∀ f ∈ fps, ∀ k ∈ f, k < w.heap.size
  | [], fps, h, f, hf, k, hk => by simp only [RowFp] at h; subst h; simp at hf
  | t :: ts, fps, h, f, hf, k, hk => by
    simp only [RowFp] at h
    obtain ⟨g, gs, rfl, ⟨a, b, c, -, -, -, ht⟩, hr⟩ := h
    simp only [List.mem_cons] at hf
    rcases hf with rfl | hf
    · exact TrFp.lt t f a b c ht k hk
    · exact RowFp.lt bl (off + 3) ts gs hr f hf k hk
end
theorem KidsFp.lt {w : World} {T : TypeId} {ks : List Tr} {fp : List Nat} {c : Value} (h : KidsFp w T ks fp c) : ∀ k ∈ fp, k < w.heap.size := by
  obtain ⟨ad, cap, e, l1, l2, h5⟩ := h
  intro k hk
  rcases h5 with ⟨-, rfl⟩ | ⟨bl, off, C, fps, e, hb, rfl, r⟩
  · simp at hk
  · simp only [List.mem_cons, List.mem_flatten] at hk
    rcases hk with rfl | ⟨f, hf, hk⟩
    · exact cellsOf_lt hb
    · exact RowFp.lt bl off ks fps r f hf k hk

/-- two lists out of a list of lists have no block in common -/
theorem flatten_disj : ∀ {fps : List (List Nat)} (h : fps.flatten.Nodup) {i j : Nat} {f g : List Nat}, fps[i]? = some f → fps[j]? = some g → i ≠ j → ∀ k ∈ f, k ∉ g
  | [], _, _, _, _, _, hi, _, _, _, _ => by simp at hi
  | x :: xs, h, 0, 0, _, _, _, _, hne, _, _ => absurd rfl hne
  | x :: xs, h, 0, j + 1, f, g, hi, hj, _, k, hk => by
    simp only [List.flatten_cons, List.nodup_append] at h
    simp only [List.getElem?_cons_zero, Option.some.injEq] at hi
    simp only [List.getElem?_cons_succ] at hj
    subst hi
    exact fun hg => h.2.2 k hk k (List.mem_flatten.2 ⟨g, List.mem_of_getElem? hj, hg⟩) rfl
  | x :: xs, h, i + 1, 0, f, g, hi, hj, _, k, hk => by
    simp only [List.flatten_cons, List.nodup_append] at h
    simp only [List.getElem?_cons_zero, Option.some.injEq] at hj
    simp only [List.getElem?_cons_succ] at hi
    subst hj
    exact fun hg => h.2.2 k hg k (List.mem_flatten.2 ⟨f, List.mem_of_getElem? hi, hk⟩) rfl
  | x :: xs, h, i + 1, j + 1, f, g, hi, hj, hne, k, hk => by
    simp only [List.flatten_cons, List.nodup_append] at h
    exact flatten_disj h.2.1 (by simpa using hi) (by simpa using hj) (by omega) k hk
theorem flatten_one : ∀ {fps : List (List Nat)} (h : fps.flatten.Nodup) {i : Nat} {f : List Nat}, fps[i]? = some f → f.Nodup
  | [], _, _, _, hi => by simp at hi
  | x :: xs, h, 0, f, hi => by
    simp only [List.flatten_cons, List.nodup_append] at h
    simp only [List.getElem?_cons_zero, Option.some.injEq] at hi
    subst hi
    exact h.1
  | x :: xs, h, i + 1, f, hi => by
    simp only [List.flatten_cons, List.nodup_append] at h
    exact flatten_one h.2.1 (by simpa using hi)

/-- a store into a block: the block, the cell, the other cells -/
theorem set_block {w : World} {b : Nat} {C : Array Value} {T : TypeId} (h : w.heap[b]? = some (.cells C T)) (o : Nat) (u : Value) : ∃ C', (w.setCell ⟨b, o, none⟩ u).heap[b]? = some (.cells C' T) := by
  simp [World.setCell, Array.getElem?_modify, h]
theorem set_at {w : World} {b o : Nat} {C : Array Value} {T : TypeId} (h : w.heap[b]? = some (.cells C T)) {v : Value} (hv : w.cell? ⟨b, o, none⟩ = some v) (u : Value) : (w.setCell ⟨b, o, none⟩ u).cell? ⟨b, o, none⟩ = some u := by
  simp only [World.cell?, h] at hv
  have hlt := (Array.getElem?_eq_some_iff.1 (by simpa using hv)).1
  simp [World.cell?, World.setCell, Array.getElem?_modify, h, Array.getElem?_setIfInBounds, hlt]
theorem set_off {w : World} {b o i : Nat} {C : Array Value} {T : TypeId} (h : w.heap[b]? = some (.cells C T)) (hi : i ≠ o) (u : Value) : (w.setCell ⟨b, o, none⟩ u).cell? ⟨b, i, none⟩ = w.cell? ⟨b, i, none⟩ := by
  simp [World.cell?, World.setCell, Array.getElem?_modify, h, Array.getElem?_setIfInBounds, Ne.symm hi]
theorem cells_thawed {w : World} {b : Nat} {C : Array Value} {T : TypeId} (h : w.heap[b]? = some (.cells C T)) (o : Nat) : w.frozen? ⟨b, o, none⟩ = false := by simp [World.frozen?, h]

/-- element j of a row was marked: its two numbers, then the trees below it -/
theorem RowFp.mark {w w1 : World} {T : TypeId} {bl off : Nat} {ks : List Tr} {fps : List (List Nat)} {C : Array Value} (hb : w.heap[bl]? = some (.cells C T)) (hr : RowFp w T bl off ks fps) (hn : (bl :: fps.flatten).Nodup)
    (j : Nat) (hj : j < ks.length) (x y : Int) (hx : I64 x) (hy : I64 y) (f : List Nat) (hf : fps[j]? = some f) (r : Value) (hc : w.cell? ⟨bl, off + j * 3 + 2, none⟩ = some r) (ks' : List Tr) (h1 : KidsFp w1 T ks' f r)
    (hbut : ButL f ((w.setCell ⟨bl, off + j * 3, none⟩ (.int .i64 x)).setCell ⟨bl, off + j * 3 + 1, none⟩ (.int .i64 y)) w1) :
    RowFp w1 T bl off (ks.set j (.node x y ks')) fps ∧ ∃ C', w1.heap[bl]? = some (.cells C' T) := by
  have hbl : bl < w.heap.size := cellsOf_lt hb
  simp only [List.nodup_cons] at hn
  obtain ⟨hn1, hn2⟩ := hn
  have hblf : bl ∉ f := fun hm => hn1 (List.mem_flatten.2 ⟨f, List.mem_of_getElem? hf, hm⟩)
  obtain ⟨C1, hC1⟩ := set_block hb (off + j * 3) (.int .i64 x)
  obtain ⟨C2, hC2⟩ := set_block hC1 (off + j * 3 + 1) (.int .i64 y)
  have hsz : ((w.setCell ⟨bl, off + j * 3, none⟩ (.int .i64 x)).setCell ⟨bl, off + j * 3 + 1, none⟩ (.int .i64 y)).heap.size = w.heap.size := by rw [size_setCell, size_setCell]
  have hblk : w1.heap[bl]? = ((w.setCell ⟨bl, off + j * 3, none⟩ (.int .i64 x)).setCell ⟨bl, off + j * 3 + 1, none⟩ (.int .i64 y)).heap[bl]? := hbut.block bl (by rw [hsz]; exact hbl) hblf
  have hcell : ∀ i, w1.cell? ⟨bl, i, none⟩ = ((w.setCell ⟨bl, off + j * 3, none⟩ (.int .i64 x)).setCell ⟨bl, off + j * 3 + 1, none⟩ (.int .i64 y)).cell? ⟨bl, i, none⟩ := fun i => World.cell?_of_block hblk
  have hsame : ∀ i, i ≠ off + j * 3 → i ≠ off + j * 3 + 1 → w1.cell? ⟨bl, i, none⟩ = w.cell? ⟨bl, i, none⟩ := fun i h1 h2 => by rw [hcell, set_off hC1 h2, set_off hb h1]
  refine ⟨RowFp.of _ _ _ ?_ ?_, C2, hblk.trans hC2⟩
  · rw [List.length_set]; exact (RowFp.at ks fps off j hj hr).1
  intro i hi
  rw [List.length_set] at hi
  obtain ⟨-, g, hg, a, b, c, ha, hbb, hcc, ht⟩ := RowFp.at ks fps off i hi hr
  refine ⟨g, hg, ?_⟩
  by_cases hij : i = j
  · subst hij
    rw [hf] at hg
    cases hg
    rw [hc] at hcc
    cases hcc
    refine ⟨.int .i64 x, .int .i64 y, r, ?_, ?_, ?_, ?_⟩
    · rw [hcell, set_off hC1 (by omega), set_at hb ha]
    · rw [hcell]
      exact set_at hC1 (v := b) (by rw [set_off hb (by omega)]; exact hbb) _
    · rw [hsame _ (by omega) (by omega)]; exact hc
    · simp only [List.getElem_set_self]
      exact trFp_iff.2 ⟨rfl, rfl, hx, hy, h1⟩
  · refine ⟨a, b, c, ?_, ?_, ?_, ?_⟩
    · rw [hsame _ (by omega) (by omega)]; exact ha
    · rw [hsame _ (by omega) (by omega)]; exact hbb
    · rw [hsame _ (by omega) (by omega)]; exact hcc
    · rw [List.getElem_set_ne (by omega)]
      refine TrFp.keep _ g a b c (fun k hk => ?_) ht
      have hkl := TrFp.lt _ g a b c ht k hk
      have hkb : k ≠ bl := fun e => hn1 (List.mem_flatten.2 ⟨g, List.mem_of_getElem? hg, e ▸ hk⟩)
      rw [hbut.block k (by rw [hsz]; exact hkl) (flatten_disj hn2 hg hf hij k hk)]
      exact (Below.heap_setCell _ _ _ _ hkb).trans (Below.heap_setCell _ _ _ _ hkb)
end Go.Proofs.Ytekdipmioogohaa
/-
  THE LAWS' OWN COPY OF AN ARGUMENT (toExpr, toExprS), ITS BLOCKS ALL DISTINCT: the same trees, in new memory; nothing that was there is changed.
-/
namespace Go.Proofs.Ytekdipmioogohaa
set_option linter.unusedVariables false
set_option linter.unusedSimpArgs false
open Go.RowKit

/-- trees whose blocks are distinct, from lo on -/
def Fresh (w : World) (lo : Nat) (ks : List Tr) (c : Value) : Prop := ∃ fp, KidsFp w 32 ks fp c ∧ fp.Nodup ∧ ∀ k ∈ fp, lo ≤ k
theorem Fresh.on {w : World} {lo : Nat} {ks : List Tr} {c : Value} (h : Fresh w lo ks c) : KidsOn w (Btw lo w.heap.size) ks c := by
  obtain ⟨fp, h1, h2, h3⟩ := h
  exact h1.on fun k hk => ⟨h3 k hk, h1.lt k hk⟩
theorem Fresh.mono {w w' : World} {lo lo' : Nat} {ks : List Tr} {c : Value} (h : Fresh w lo ks c) (hl : lo' ≤ lo) (hw : ∀ k, lo ≤ k → k < w.heap.size → w'.heap[k]? = w.heap[k]?) : Fresh w' lo' ks c := by
  obtain ⟨fp, h1, h2, h3⟩ := h
  exact ⟨fp, h1.keep fun k hk => hw k (h3 k hk) (h1.lt k hk), h2, fun k hk => Nat.le_trans hl (h3 k hk)⟩
theorem Fresh.next {w w' : World} {lo : Nat} {ks : List Tr} {c : Value} (h : Fresh w lo ks c) (hb : Below w.heap.size w w') : Fresh w' lo ks c := h.mono (Nat.le_refl _) fun k _ hk => hb.block k hk
theorem Fresh.setCell {w : World} {lo : Nat} {ks : List Tr} {c : Value} (h : Fresh w lo ks c) {a : Addr} (ha : a.block < lo) (u : Value) : Fresh (w.setCell a u) lo ks c :=
  h.mono (Nat.le_refl _) fun k hk _ => Below.heap_setCell _ _ _ _ (by omega)

/-- a call has handed back these trees in new memory, all blocks distinct -/
def FreshKids (ks : List Tr) (w : World) (e : Ending) (w' : World) : Prop := ∃ v, e = .returned v ∧ Fresh w' w.heap.size ks v ∧ Below w.heap.size w w'
/-- .. one tree -/
def FreshTr (o n : Int) (ks : List Tr) (w : World) (e : Ending) (w' : World) : Prop := ∃ v, e = .returned (.agg #[.int .i64 o, .int .i64 n, v]) ∧ Fresh w' w.heap.size ks v ∧ Below w.heap.size w w'

/-- what holds of the copy of a list behind k rounds -/
def FToRel (ks : List Tr) (w : World) (k : Nat) (wr : World) : Prop :=
  ∃ (f : Nat → Value) (fps : List (List Nat)), fps.length = k ∧ wr.rowIs w.heap.size 32 (ks.length * 3) f ∧ (∀ j (_ : j < k) (hj : j < ks.length), ∃ g, fps[j]? = some g ∧ TrFp wr 32 ks[j] g (f (j * 3)) (f (j * 3 + 1)) (f (j * 3 + 2))) ∧ fps.flatten.Nodup ∧ (∀ b ∈ fps.flatten, w.heap.size < b ∧ b < wr.heap.size) ∧ Below w.heap.size w wr

theorem ftoRel_start (ks : List Tr) (w : World) (C : Array Value) (h : C.size = ks.length * 3) : FToRel ks w 0 (w.alloc (.cells C 32)) := by
  refine ⟨fun i => C.getD i undef, [], rfl, ⟨C, Deep.blk_alloc_new _ _, h, fun i hi => ?_⟩, fun j hj => absurd hj (by omega), by simp, by simp, (Below.refl _ _).alloc (Nat.le_refl _) _⟩
  simp [Array.getElem?_eq_getElem (h ▸ hi : i < C.size), Array.getD, (h ▸ hi : i < C.size)]

theorem ftoRel_step (ks : List Tr) (w wr w1 : World) (k : Nat) (hk : k < ks.length) (h : FToRel ks w k wr) (v : Value) (hb : Below wr.heap.size wr w1) (hv : Fresh w1 wr.heap.size (ks[k]).kids v) (ho : I64 (ks[k]).op) (hn : I64 (ks[k]).num) :
    FToRel ks w (k + 1) (((w1.setCell ⟨w.heap.size, k * 3, none⟩ (.int .i64 (ks[k]).op)).setCell ⟨w.heap.size, k * 3 + 1, none⟩ (.int .i64 (ks[k]).num)).setCell ⟨w.heap.size, k * 3 + 2, none⟩ v) := by
  obtain ⟨f, fps, hfl, hr, ht, hnd, hfb, hbw⟩ := h
  obtain ⟨fp, v1, v2, v3⟩ := hv
  have hlt := hr.lt
  have hr1 : w1.rowIs w.heap.size 32 (ks.length * 3) f := hr.of_block (hb.block _ hlt)
  have hsz := hb.size
  have keep : ∀ b, b ≠ w.heap.size → (((w1.setCell ⟨w.heap.size, k * 3, none⟩ (.int .i64 (ks[k]).op)).setCell ⟨w.heap.size, k * 3 + 1, none⟩ (.int .i64 (ks[k]).num)).setCell ⟨w.heap.size, k * 3 + 2, none⟩ v).heap[b]? = w1.heap[b]? :=
    fun b hne => ((Below.heap_setCell _ _ _ _ hne).trans (Below.heap_setCell _ _ _ _ hne)).trans (Below.heap_setCell _ _ _ _ hne)
  have hs3 : k * 3 + 2 < ks.length * 3 := by omega
  refine ⟨_, fps ++ [fp], by simp [hfl], ((hr1.set (k * 3) _).set (k * 3 + 1) _).set (k * 3 + 2) _, fun j hj hjl => ?_, ?_, ?_, ?_⟩
  · by_cases hjk : j = k
    · subst hjk
      have : TrFp w1 32 ks[j] fp (.int .i64 (ks[j]).op) (.int .i64 (ks[j]).num) v := trFp_iff.2 ⟨rfl, rfl, ho, hn, v1⟩
      have h2 := TrFp.keep _ _ _ _ _ (fun b hbm => keep b (by have := v3 b hbm; omega)) this
      refine ⟨fp, by rw [← hfl]; simp, ?_⟩
      simpa using h2
    · obtain ⟨g, hg, h0⟩ := ht j (by omega) hjl
      have hgm : ∀ b ∈ g, w.heap.size < b ∧ b < wr.heap.size := fun b hbm => hfb b (List.mem_flatten.2 ⟨g, List.mem_of_getElem? hg, hbm⟩)
      have h2 := TrFp.keep _ _ _ _ _ (fun b hbm => (keep b (by have := hgm b hbm; omega)).trans (hb.block b (hgm b hbm).2)) h0
      have e1 : ∀ m, m < 3 → j * 3 + m ≠ k * 3 + 2 ∧ j * 3 + m ≠ k * 3 + 1 ∧ j * 3 + m ≠ k * 3 := fun m hm => by omega
      have a0 := e1 0 (by omega)
      have a1 := e1 1 (by omega)
      have a2 := e1 2 (by omega)
      simp only [Nat.add_zero] at a0
      refine ⟨g, by rw [List.getElem?_append_left (by omega)]; exact hg, ?_⟩
      simpa [a0, a1, a2] using h2
  · rw [List.flatten_append, List.nodup_append]
    refine ⟨hnd, by simpa using v2, fun x hx y hy e => ?_⟩
    have h1 := (hfb x hx).2
    have h2 := v3 y (by simpa using hy)
    omega
  · intro b hbm
    simp only [size_setCell]
    simp only [List.flatten_append, List.mem_append] at hbm
    rcases hbm with hbm | hbm
    · have := hfb b hbm; omega
    · have hbm' : b ∈ fp := by simpa using hbm
      have h1 := v3 b hbm'
      have h2 := v1.lt b hbm'
      omega
  · exact (((hbw.trans (hb.mono (Nat.le_of_lt hlt))).setCell (by simp) _).setCell (by simp) _).setCell (by simp) _

theorem ftoRel_end (ks : List Tr) (w wr : World) (h : FToRel ks w ks.length wr) (hl : ks.length ≤ 1048576) : FreshKids ks w (.returned (.slice (some ⟨w.heap.size, 0, none⟩) ks.length ks.length)) wr := by
  obtain ⟨f, fps, hfl, hr, ht, hnd, hfb, hbw⟩ := h
  have hlt := hr.lt
  obtain ⟨C, hC, _, _⟩ := id hr
  refine ⟨_, rfl, ⟨w.heap.size :: fps.flatten, ⟨_, _, rfl, Nat.le_refl _, by unfold maxLen; omega, Or.inr ⟨_, _, C, fps, rfl, hC, rfl, RowFp.of _ _ _ hfl fun i hi => ?_⟩⟩, ?_, ?_⟩, hbw⟩
  · obtain ⟨g, hg, h1⟩ := ht i hi hi
    refine ⟨g, hg, f (i * 3), f (i * 3 + 1), f (i * 3 + 2), ?_, ?_, ?_, h1⟩
    · simpa using hr.cell (i := i * 3) (by omega)
    · simpa [Nat.zero_add] using hr.cell (i := i * 3 + 1) (by omega)
    · simpa [Nat.zero_add] using hr.cell (i := i * 3 + 2) (by omega)
  · rw [List.nodup_cons]
    exact ⟨fun hm => by have := (hfb _ hm).1; omega, hnd⟩
  · intro b hbm
    rw [List.mem_cons] at hbm
    rcases hbm with rfl | hbm
    · exact Nat.le_refl _
    · have := (hfb b hbm).1; omega

end Go.Proofs.Ytekdipmioogohaa
/-
  MAPS KEYED BY ADDRESSES (pointers, or structs of them): what a look-up finds and what a store leaves, the map seen as a function from keys to values.
-/
namespace Go.Proofs.Ytekdipmioogohaa
set_option linter.unusedVariables false
set_option linter.unusedSimpArgs false
open Go.RowKit Go.MapKept

section
variable {κ : Type} [DecidableEq κ]

/-- where a key stands in a list, and its value -/
def pfind (c : κ) : List (κ × Value) → Nat → Option (Nat × Value)
  | [], _ => none
  | x :: xs, i => if c = x.1 then some (i, x.2) else pfind c xs (i + 1)

theorem pfind_some {c : κ} : ∀ {L : List (κ × Value)} {i j : Nat} {v : Value}, pfind c L i = some (j, v) → ∃ n, j = i + n ∧ L[n]? = some (c, v)
  | [], i, j, v, h => by simp [pfind] at h
  | x :: xs, i, j, v, h => by
    unfold pfind at h
    split at h
    · rename_i hc
      simp only [Option.some.injEq, Prod.mk.injEq] at h
      exact ⟨0, by omega, by rw [← h.2, hc]; simp⟩
    · obtain ⟨n, hn, hg⟩ := pfind_some h
      exact ⟨n + 1, by omega, by simpa using hg⟩

theorem pfind_push_same {c : κ} {v : Value} : ∀ {L : List (κ × Value)} {i : Nat}, pfind c L i = none → pfind c (L ++ [(c, v)]) i = some (i + L.length, v)
  | [], i, _ => by simp [pfind]
  | x :: xs, i, h => by
    unfold pfind at h
    split at h
    · simp at h
    · rename_i hc
      rw [List.cons_append, pfind, if_neg hc, pfind_push_same h]
      simp; omega

theorem pfind_push_other {c d : κ} {v : Value} (hd : d ≠ c) : ∀ {L : List (κ × Value)} {i : Nat}, pfind d (L ++ [(c, v)]) i = pfind d L i
  | [], i => by simp [pfind, hd]
  | x :: xs, i => by rw [List.cons_append, pfind, pfind, pfind_push_other hd]

theorem pfind_set_same {c : κ} {u v : Value} : ∀ {L : List (κ × Value)} {i n : Nat}, pfind c L i = some (i + n, u) → pfind c (L.set n (c, v)) i = some (i + n, v)
  | [], i, n, h => by simp [pfind] at h
  | x :: xs, i, n, h => by
    unfold pfind at h
    split at h
    · rename_i hc
      simp only [Option.some.injEq, Prod.mk.injEq] at h
      have : n = 0 := by omega
      subst this
      simp [pfind]
    · rename_i hc
      obtain ⟨m, hm, _⟩ := pfind_some h
      have : n = m + 1 := by omega
      subst this
      rw [List.set_cons_succ, pfind, if_neg hc]
      have e : i + (m + 1) = i + 1 + m := by omega
      rw [e] at h ⊢
      exact pfind_set_same h

theorem pfind_set_other {c d : κ} {u v : Value} (hd : d ≠ c) : ∀ {L : List (κ × Value)} {i n : Nat}, L[n]? = some (c, u) → pfind d (L.set n (c, v)) i = pfind d L i
  | [], i, n, h => by simp at h
  | x :: xs, i, 0, h => by
    simp only [List.getElem?_cons_zero, Option.some.injEq] at h
    subst h
    simp [pfind, hd]
  | x :: xs, i, n + 1, h => by
    rw [List.set_cons_succ, pfind, pfind, pfind_set_other hd (by simpa using h)]

/-- what is asked of the keys of a type: how they lie in values, and when they are compared -/
structure PKey (P : Program) (kt : TypeId) (emb : κ → Value) (ok : World → κ → Prop) : Prop where
  check : ∀ (w : World) (e : Bool) (x : κ), (Instr.checkKey e 10000 kt (emb x)).run P w = .ok () w
  under : ∃ d, P.underlying kt = some d ∧ ∀ x y, Instr.sameNow d (emb x) (emb y) = none
  eq : ∀ (w : World) (x y : κ), ok w x → ok w y → (Op.equal kt (emb x) (emb y)).run P w = .ok (decide (x = y)) w
  stays : ∀ x, Instr.sameBits 10000 (emb x) (emb x) = true

/-- block b is a map, its keys of K, seen as the function M -/
def PMap (emb : κ → Value) (w : World) (b : Nat) (K : κ → Prop) (M : κ → Option Value) : Prop :=
  ∃ es clock L, w.heap[b]? = some (.map es clock) ∧ es.toList.map (fun e => (e.key, e.val)) = L.map (fun x : κ × Value => (emb x.1, x.2)) ∧ (∀ x ∈ L, K x.1) ∧ ∀ c, M c = (pfind c L 0).map (·.2)

/-- a function changed at one place -/
def pput (M : κ → Option Value) (a : κ) (v : Value) : κ → Option Value := fun c => if c = a then some v else M c
@[simp] theorem pput_same (M : κ → Option Value) (a : κ) (v : Value) : pput M a v a = some v := by simp [pput]
theorem pput_other (M : κ → Option Value) {a c : κ} (v : Value) (h : c ≠ a) : pput M a v c = M c := by simp [pput, h]

variable {P : Program} {kt et mt : TypeId} {emb : κ → Value} {ok : World → κ → Prop} {w : World} {b : Nat} {K : κ → Prop} {M : κ → Option Value}

theorem PMap.made (w : World) (K : κ → Prop) : PMap emb (w.alloc (.map #[] 0)) w.heap.size K (fun _ => none) :=
  ⟨#[], 0, [], (heap_alloc w _).1, rfl, by simp, fun c => rfl⟩
theorem PMap.keep {w' : World} (h : PMap emb w b K M) (hb : w'.heap[b]? = w.heap[b]?) : PMap emb w' b K M := by
  obtain ⟨es, clock, L, h1, h2⟩ := h
  exact ⟨es, clock, L, hb.trans h1, h2⟩
theorem PMap.lt (h : PMap emb w b K M) : b < w.heap.size := by
  obtain ⟨es, clock, L, h1, h2⟩ := h
  exact (Array.getElem?_eq_some_iff.1 h1).1
theorem PMap.keys {K' : κ → Prop} (h : PMap emb w b K M) (hK : ∀ x, K x → K' x) : PMap emb w b K' M := by
  obtain ⟨es, clock, L, h1, h2, h3, h4⟩ := h
  exact ⟨es, clock, L, h1, h2, fun x hx => hK _ (h3 x hx), h4⟩
theorem PMap.key_of (h : PMap emb w b K M) {c : κ} {v : Value} (hc : M c = some v) : K c := by
  obtain ⟨es, clock, L, h1, h2, h3, h4⟩ := h
  rw [h4] at hc
  cases hf : pfind c L 0 with
  | none => rw [hf] at hc; simp at hc
  | some z =>
    obtain ⟨n, _, hg⟩ := pfind_some (j := z.1) (v := z.2) hf
    exact h3 _ (List.mem_of_getElem? hg)

theorem run_findAsking (Q : PKey P kt emb ok) (a : κ) (ha : ok w a) : ∀ (l : List MapEntry) (L : List (κ × Value)) (i : Nat), l.map (fun e => (e.key, e.val)) = L.map (fun x : κ × Value => (emb x.1, x.2)) → (∀ x ∈ L, ok w x.1) →
    (Instr.findAsking kt (emb a) l i).run P w = .ok (pfind a L i) w
  | [], L, i, h, _ => by
    cases L with
    | nil => simp [Instr.findAsking, pfind]
    | cons x xs => simp at h
  | e :: es, L, i, h, hL => by
    cases L with
    | nil => simp at h
    | cons x xs =>
      simp only [List.map_cons, List.cons.injEq, Prod.mk.injEq] at h
      obtain ⟨⟨h1, h2⟩, h3⟩ := h
      have ih := run_findAsking Q a ha es xs (i + 1) h3 (fun y hy => hL y (by simp [hy]))
      have he := Q.eq w a x.1 ha (hL x (by simp))
      rw [← h1] at he
      unfold Instr.findAsking pfind
      simp only [Sem.run_bind, he, Result.andThen]
      by_cases hc : a = x.1
      · simp [hc, h2]
      · simp [hc, ih]

theorem run_findKey_p (Q : PKey P kt emb ok) (a : κ) (ha : ok w a) (l : List MapEntry) (L : List (κ × Value)) (h : l.map (fun e => (e.key, e.val)) = L.map (fun x : κ × Value => (emb x.1, x.2))) (hL : ∀ x ∈ L, ok w x.1) :
    (Instr.findKey kt (emb a) l).run P w = .ok (pfind a L 0) w := by
  obtain ⟨d, hd, hn⟩ := Q.under
  have hf := run_findAsking Q a ha l L 0 h hL
  cases l with
  | nil =>
    cases L with
    | nil => simp [Instr.findKey, run_underlying hd, Result.andThen, Instr.findNow, pfind]
    | cons x xs => simp at h
  | cons e es =>
    cases L with
    | nil => simp at h
    | cons x xs =>
      have h1 : e.key = emb x.1 := by simp only [List.map_cons, List.cons.injEq, Prod.mk.injEq] at h; exact h.1.1
      have hnow : Instr.findNow d (emb a) (e :: es) 0 = none := by simp [Instr.findNow, h1, hn]
      simp [Instr.findKey, run_underlying hd, Result.andThen, hnow, hf]

/-- 'm[k]' -/
theorem PMap.look (h : PMap emb w b K M) (Q : PKey P kt emb ok) (hm : P.underlying mt = some (.map kt et)) (hK : ∀ x, K x → ok w x) {z : Value} (hz : (zeroValue et).run P w = .ok z w) (a : κ) (ha : ok w a) :
    (Instr.lookup mt (.map (some b)) (emb a) false).run P w = .ok ((M a).getD z) w ∧
    (Instr.lookup mt (.map (some b)) (emb a) true).run P w = .ok (.tuple #[(M a).getD z, .bool (M a).isSome]) w := by
  obtain ⟨es, clock, L, h1, h2, h3, h4⟩ := h
  have hf := run_findKey_p Q a ha es.toList L h2 (fun x hx => hK _ (h3 x hx))
  rw [h4 a]
  cases hp : pfind a L 0 with
  | none =>
    rw [hp] at hf
    constructor <;> simp [Instr.lookup, run_underlying hm, MapKept.run_getObj_map h1, Q.check, hf, hz, Result.andThen]
  | some y =>
    obtain ⟨n, v⟩ := y
    rw [hp] at hf
    constructor <;> simp [Instr.lookup, run_underlying hm, MapKept.run_getObj_map h1, Q.check, hf, Result.andThen]

/-- 'm[k] = v' -/
theorem PMap.store (h : PMap emb w b K M) (Q : PKey P kt emb ok) (hm : P.underlying mt = some (.map kt et)) (hK : ∀ x, K x → ok w x) (a : κ) (ha : ok w a) (hKa : K a) (v : Value) :
    ∃ o, (Instr.mapUpdate mt (.map (some b)) (emb a) v).run P w = .ok () { w with heap := w.heap.setIfInBounds b o } ∧ PMap emb { w with heap := w.heap.setIfInBounds b o } b K (pput M a v) := by
  obtain ⟨es, clock, L, h1, h2, h3, h4⟩ := h
  have hf := run_findKey_p Q a ha es.toList L h2 (fun x hx => hK _ (h3 x hx))
  cases hp : pfind a L 0 with
  | none =>
    rw [hp] at hf
    refine ⟨_, by simp [Instr.mapUpdate, run_underlying hm, MapKept.run_getObj_map h1, Q.check, hf, MapKept.run_setObj_map _ h1, Result.andThen]; rfl, _, _, L ++ [(a, v)], (heap_set h1).1, by simp [h2], ?_, ?_⟩
    · intro x hx
      simp only [List.mem_append, List.mem_singleton] at hx
      rcases hx with hx | rfl
      · exact h3 x hx
      · exact hKa
    · intro c
      by_cases hc : c = a
      · subst hc; simp [pfind_push_same hp]
      · rw [pput_other M v hc, pfind_push_other hc, h4]
  | some y =>
    obtain ⟨n, u⟩ := y
    rw [hp] at hf
    obtain ⟨m, hm', hg⟩ := pfind_some hp
    have hnm : n = m := by omega
    subst hnm
    have hlen : es.toList.length = L.length := by have := congrArg List.length h2; simpa using this
    have hlt : n < L.length := (List.getElem?_eq_some_iff.1 hg).1
    have hj : ∃ e, es[n]? = some e ∧ e.key = emb a ∧ e.val = u := by
      have : (es.toList.map (fun e => (e.key, e.val)))[n]? = (L.map (fun x : κ × Value => (emb x.1, x.2)))[n]? := by rw [h2]
      rw [List.getElem?_map, List.getElem?_map, hg] at this
      cases he : es[n]? with
      | none => rw [Array.getElem?_toList, he] at this; simp at this
      | some e =>
        rw [Array.getElem?_toList, he] at this
        simp only [Option.map_some, Option.some.injEq, Prod.mk.injEq] at this
        exact ⟨e, rfl, this.1, this.2⟩
    obtain ⟨e, he, hek, hev⟩ := hj
    have hks : (Instr.keyThatStays (emb a) (emb a)).run P w = .ok (emb a) w := by simp [Instr.keyThatStays, Q.stays]
    refine ⟨_, by simp [Instr.mapUpdate, run_underlying hm, MapKept.run_getObj_map h1, Q.check, hf, he, hek, hks, MapKept.run_setObj_map _ h1, Result.andThen]; rfl, _, _, L.set n (a, v), (heap_set h1).1, ?_, ?_, ?_⟩
    · apply List.ext_getElem?
      intro j
      have hj : (es.toList.map (fun e => (e.key, e.val)))[j]? = (L.map (fun x : κ × Value => (emb x.1, x.2)))[j]? := by rw [h2]
      simp only [List.getElem?_map, Array.getElem?_toList] at hj
      simp only [List.getElem?_map, Array.getElem?_toList, Array.getElem?_modify, List.getElem?_set]
      by_cases hij : n = j
      · subst hij
        simp [he, hlt]
      · simp [hij, hj]
    · intro x hx
      rcases List.mem_or_eq_of_mem_set hx with hx | rfl
      · exact h3 x hx
      · exact hKa
    · intro c
      by_cases hc : c = a
      · subst hc
        rw [pput_same, pfind_set_same (by simpa using hp)]
        rfl
      · rw [pput_other M v hc, pfind_set_other hc hg, h4]
end

/-! ### Keys that are pointers -/
/-- an address into cells that are not frozen -/
def PlainAt (w : World) (a : Addr) : Prop := ∃ C T, w.heap[a.block]? = some (.cells C T (0, 0))
/-- pointers as keys -/
def embP (a : Addr) : Value := .pointer (some a)

theorem eq_ptr {P : Program} {kt te : TypeId} {j : TypeInfo} (hp : P.underlying kt = some (.pointer te)) (hte : P.info? te = some j) (hsz : j.size ≠ 0) (w : World) (x y : Addr) (hx : PlainAt w x) (hy : PlainAt w y) (d : Nat) :
    (Op.equalIn (d + 1) kt (.pointer (some x)) (.pointer (some y))).run P w = .ok (decide (x = y)) w := by
  obtain ⟨C, T, hx⟩ := hx
  obtain ⟨D, U, hy⟩ := hy
  by_cases h : x = y
  · subst h
    simp [Op.equalIn, run_underlying hp, sizeOf, typeInfo, hte, hsz, run_sameAddr_same]
  · simp [Op.equalIn, run_underlying hp, sizeOf, typeInfo, hte, hsz, run_sameAddr_other w h hx hy, h]

theorem ptr_key {P : Program} {kt te : TypeId} {j : TypeInfo} (hp : P.underlying kt = some (.pointer te)) (hte : P.info? te = some j) (hsz : j.size ≠ 0) : PKey P kt embP PlainAt where
  check w e x := by
    unfold Instr.checkKey embP
    simp [run_underlying hp, Result.andThen]
  under := ⟨_, hp, fun x y => by simp [embP, Instr.sameNow]⟩
  eq w x y hx hy := by
    unfold Op.equal Op.maxDepth embP
    exact eq_ptr hp hte hsz w x y hx hy 9999
  stays x := by simp [embP, Instr.sameBits]

/-! ### The operations, for the walk -/
section
variable {κ : Type} [DecidableEq κ] {P : Program} {emb : κ → Value} {ok : World → κ → Prop}
theorem wpList_look_p (w : World) {ops : Array Oper} {rest : List Oper} {o : Oper} {a : Act} {Q : Exit → Act → World → Prop}
    (hg : o.guard = none) (m x : Operand) (t : TypeId) (hop : o.op = Op.lookup t m x false)
    (kt et : TypeId) (hq : PKey P kt emb ok) (ht : P.underlying t = some (.map kt et)) (z : Value) (hz : (zeroValue et).run P w = .ok z w) (b : Nat) (K : κ → Prop) (M : κ → Option Value)
    (hm : a.eval m = .map (some b)) (hown : PMap emb w b K M) (hK : ∀ x, K x → ok w x) (key : κ) (hx : a.eval x = emb key) (hkey : ok w key)
    (hk : wpList P ops Q rest (a.put o.dst ((M key).getD z)) w) : wpList P ops Q (o :: rest) a w := by
  refine wpList_plain hg fun K' hK' => ?_
  have hrun := (hown.look hq ht hK hz key hkey).1
  unfold Oper.wp
  simp [execOp, hop, hm, hx, hrun, Result.andThen]
  exact hK' _ _ hk

theorem wpList_look_ok_p (w : World) {ops : Array Oper} {rest : List Oper} {o : Oper} {a : Act} {Q : Exit → Act → World → Prop}
    (hg : o.guard = none) (m x : Operand) (t : TypeId) (hop : o.op = Op.lookup t m x true)
    (kt et : TypeId) (hq : PKey P kt emb ok) (ht : P.underlying t = some (.map kt et)) (z : Value) (hz : (zeroValue et).run P w = .ok z w) (b : Nat) (K : κ → Prop) (M : κ → Option Value)
    (hm : a.eval m = .map (some b)) (hown : PMap emb w b K M) (hK : ∀ x, K x → ok w x) (key : κ) (hx : a.eval x = emb key) (hkey : ok w key)
    (hk : wpList P ops Q rest (a.put o.dst (.tuple #[(M key).getD z, .bool (M key).isSome])) w) : wpList P ops Q (o :: rest) a w := by
  refine wpList_plain hg fun K' hK' => ?_
  have hrun := (hown.look hq ht hK hz key hkey).2
  unfold Oper.wp
  simp [execOp, hop, hm, hx, hrun, Result.andThen]
  exact hK' _ _ hk

theorem wpList_store_p (w : World) {ops : Array Oper} {rest : List Oper} {o : Oper} {a : Act} {Q : Exit → Act → World → Prop}
    (hg : o.guard = none) (m x v : Operand) (t : TypeId) (hop : o.op = Op.mapUpdate t m x v)
    (kt et : TypeId) (hq : PKey P kt emb ok) (ht : P.underlying t = some (.map kt et)) (b : Nat) (K : κ → Prop) (M : κ → Option Value)
    (hm : a.eval m = .map (some b)) (hown : PMap emb w b K M) (hK : ∀ x, K x → ok w x) (key : κ) (hx : a.eval x = emb key) (hkey : ok w key) (hKk : K key) (val : Value) (hv : a.eval v = val)
    (hk : ∀ o', PMap emb { w with heap := w.heap.setIfInBounds b o' } b K (pput M key val) → wpList P ops Q rest (a.put o.dst undef) { w with heap := w.heap.setIfInBounds b o' }) : wpList P ops Q (o :: rest) a w := by
  refine wpList_plain hg fun K' hK' => ?_
  obtain ⟨o', hrun, hp⟩ := hown.store hq ht hK key hkey hKk val
  unfold Oper.wp
  simp [execOp, hop, hm, hx, hv, hrun, Result.andThen]
  exact hK' _ _ (hk o' hp)
end

/-- .. the world behind it under a name -/
theorem wpList_store_v {κ : Type} [DecidableEq κ] {P : Program} {emb : κ → Value} {ok : World → κ → Prop} (w : World) {ops : Array Oper} {rest : List Oper} {o : Oper} {a : Act} {Q : Exit → Act → World → Prop}
    (hg : o.guard = none) (m x v : Operand) (t : TypeId) (hop : o.op = Op.mapUpdate t m x v)
    (kt et : TypeId) (hq : PKey P kt emb ok) (ht : P.underlying t = some (.map kt et)) (b : Nat) (K : κ → Prop) (M : κ → Option Value)
    (hm : a.eval m = .map (some b)) (hown : PMap emb w b K M) (hK : ∀ x, K x → ok w x) (key : κ) (hx : a.eval x = emb key) (hkey : ok w key) (hKk : K key) (val : Value) (hv : a.eval v = val)
    (hk : ∀ w1, PMap emb w1 b K (pput M key val) → w.grownBy w1 (some b) → w1.heap.size = w.heap.size → wpList P ops Q rest (a.put o.dst undef) w1) : wpList P ops Q (o :: rest) a w :=
  wpList_store_p w hg m x v t hop kt et hq ht b K M hm hown hK key hx hkey hKk val hv fun o' hp => hk _ hp ⟨rfl, rfl, rfl, by simp, fun k _ hk => by simp only [ne_eq, Option.some.injEq] at hk; simp [Ne.symm hk]⟩ (by simp)

/-- a store into a map, seen from the other blocks -/
theorem set_other_block (w : World) (b : Nat) (o : Obj) {k : Nat} (h : k ≠ b) : ({ w with heap := w.heap.setIfInBounds b o } : World).heap[k]? = w.heap[k]? := by
  simp [Ne.symm h]
theorem set_size (w : World) (b : Nat) (o : Obj) : ({ w with heap := w.heap.setIfInBounds b o } : World).heap.size = w.heap.size := by simp
theorem set_below {B : Nat} (w : World) (b : Nat) (o : Obj) (hb : B ≤ b) : Below B w { w with heap := w.heap.setIfInBounds b o } :=
  ⟨rfl, rfl, rfl, by simp, fun k hk => set_other_block w b o (by omega)⟩
end Go.Proofs.Ytekdipmioogohaa
/-
  AN ADDRESS HOLDS ONE TREE; blocks of plain cells; trees that lie in such blocks; the way down nested applications.
-/
namespace Go.Proofs.Ytekdipmioogohaa
set_option linter.unusedVariables false
set_option linter.unusedSimpArgs false
open Go.RowKit

mutual
theorem TrOn.uniq {w : World} {S S' : Nat → Prop} : ∀ (t t' : Tr) (a b c : Value), TrOn w S t a b c → TrOn w S' t' a b c → t = t'
  | .node o n ks, .node o' n' ks', a, b, c, h, h' => by
    simp only [TrOn] at h h'
    obtain ⟨rfl, rfl, -, -, ad, cap, rfl, -, -, h⟩ := h
    obtain ⟨e1, e2, -, -, ad', cap', e3, -, -, h'⟩ := h'
    simp only [Value.int.injEq, true_and] at e1 e2
    simp only [Value.slice.injEq] at e3
    obtain ⟨rfl, hl, rfl⟩ := e3
    subst e1
    subst e2
    congr 1
    rcases h with rfl | ⟨bl, off, rfl, -, hr⟩
    · exact (List.eq_nil_of_length_eq_zero (by simpa using hl.symm)).symm
    · rcases h' with rfl | ⟨bl', off', e, -, hr'⟩
      · exact List.eq_nil_of_length_eq_zero (by simpa using hl)
      · simp only [Option.some.injEq, Addr.mk.injEq] at e
        obtain ⟨rfl, rfl, -⟩ := e
        exact RowOn.uniq bl off ks ks' hl hr hr'
theorem RowOn.uniq {w : World} {S S' : Nat → Prop} (bl off : Nat) : ∀ (ks ks' : List Tr), ks.length = ks'.length → RowOn w S bl off ks → RowOn w S' bl off ks' → ks = ks'
  | [], [], _, _, _ => rfl
  | [], _ :: _, hl, _, _ => by simp at hl
  | _ :: _, [], hl, _, _ => by simp at hl
  | t :: ts, t' :: ts', hl, h, h' => by
    simp only [RowOn] at h h'
    obtain ⟨⟨a, b, c, ha, hb, hc, ht⟩, hr⟩ := h
    obtain ⟨⟨a', b', c', ha', hb', hc', ht'⟩, hr'⟩ := h'
    rw [ha] at ha'
    rw [hb] at hb'
    rw [hc] at hc'
    cases ha'
    cases hb'
    cases hc'
    rw [TrOn.uniq t t' a b c ht ht', RowOn.uniq bl (off + 3) ts ts' (by simpa using hl) hr hr']
end

/-- plain blocks of cells -/
def Pl (w : World) : Nat → Prop := fun k => k < w.heap.size ∧ ∃ C T, w.heap[k]? = some (.cells C T (0, 0))
/-- trees that lie in plain blocks -/
abbrev InP (w : World) (ks : List Tr) (c : Value) : Prop := KidsOn w (Pl w) ks c
theorem Pl.next {w w' : World} (hb : Below w.heap.size w w') {k : Nat} (h : Pl w k) : Pl w' k :=
  ⟨Nat.lt_of_lt_of_le h.1 hb.size, by obtain ⟨C, T, e⟩ := h.2; exact ⟨C, T, (hb.block k h.1).trans e⟩⟩
theorem KidsOn.inP {w : World} {ks : List Tr} {c : Value} (h : InP w ks c) : In w ks c := KidsOn.mono h (fun k hk => hk.1) (fun _ _ => rfl)
theorem KidsOn.nextP {w w' : World} {ks : List Tr} {c : Value} (h : InP w ks c) (hb : Below w.heap.size w w') : InP w' ks c := KidsOn.mono h (fun k hk => hk.next hb) (fun k hk => hb.block k hk.1)
theorem TrOn.nextP {w w' : World} {t : Tr} {a b c : Value} (h : TrOn w (Pl w) t a b c) (hb : Below w.heap.size w w') : TrOn w' (Pl w') t a b c := TrOn.mono (fun k hk => hk.next hb) (fun k hk => hb.block k hk.1) _ _ _ _ h

/-- a tree that lies at an address -/
def LiesAt (w : World) (S : Nat → Prop) (a : Addr) (t : Tr) : Prop :=
  ∃ bl off x y z, a = ⟨bl, off, none⟩ ∧ S bl ∧ w.cell? ⟨bl, off, none⟩ = some x ∧ w.cell? ⟨bl, off + 1, none⟩ = some y ∧ w.cell? ⟨bl, off + 2, none⟩ = some z ∧ TrOn w S t x y z
theorem LiesAt.uniq {w : World} {S S' : Nat → Prop} {a : Addr} {t t' : Tr} (h : LiesAt w S a t) (h' : LiesAt w S' a t') : t = t' := by
  obtain ⟨bl, off, x, y, z, rfl, -, hx, hy, hz, ht⟩ := h
  obtain ⟨bl', off', x', y', z', e, -, hx', hy', hz', ht'⟩ := h'
  simp only [Addr.mk.injEq] at e
  obtain ⟨rfl, rfl, -⟩ := e
  rw [hx] at hx'
  rw [hy] at hy'
  rw [hz] at hz'
  cases hx'
  cases hy'
  cases hz'
  exact TrOn.uniq t t' x y z ht ht'
theorem LiesAt.plain {w w' : World} {a : Addr} {t : Tr} (h : LiesAt w (Pl w) a t) (hb : Below w.heap.size w w') : PlainAt w' a := by
  obtain ⟨bl, off, x, y, z, rfl, hp, -⟩ := h
  exact (hp.next hb).2
/-- element i of a row, as a node -/
theorem RowOn.liesAt {w : World} {S : Nat → Prop} {bl off i : Nat} {ks : List Tr} (hi : i < ks.length) (hS : S bl) (h : RowOn w S bl off ks) : LiesAt w S ⟨bl, off + i * 3, none⟩ ks[i] := by
  obtain ⟨a, b, c, ha, hb, hc, ht⟩ := RowOn.at ks off i hi h
  exact ⟨bl, off + i * 3, a, b, c, rfl, hS, ha, hb, hc, ht⟩

/-- the function of nested applications, and its arguments -/
def unwT : Tr → List Tr → Tr × List Tr
  | .node o n [f, x], acc => if o = 4 then unwT f (x :: acc) else (.node o n [f, x], acc)
  | t, acc => (t, acc)
termination_by t => SizeOf.sizeOf t
decreasing_by simp_wf; omega

theorem unwT_app {t f x : Tr} (ho : t.op = 4) (hk : t.kids = [f, x]) (acc : List Tr) : unwT t acc = unwT f (x :: acc) := by
  cases t with
  | node o n ks =>
    simp only [Tr.op_node, Tr.kids_node] at ho hk
    subst ho
    subst hk
    rw [unwT, if_pos rfl]
theorem unwT_stop {t : Tr} (h : ¬ (t.op = 4 ∧ t.kids.length = 2)) (acc : List Tr) : unwT t acc = (t, acc) := by
  cases t with
  | node o n ks =>
    simp only [Tr.op_node, Tr.kids_node] at h
    match ks, h with
    | [], _ => rw [unwT]; intro o' n' f' x' h'; cases h'
    | [a], _ => rw [unwT]; intro o' n' f' x' h'; cases h'
    | [a, b], h =>
      rw [unwT, if_neg]
      intro e
      exact h ⟨e, by simp⟩
    | a :: b :: c :: l, _ => rw [unwT]; intro o' n' f' x' h'; cases h'

/-- an argument with its three cells -/
abbrev Cd := Tr × Value × Value × Value
/-- the way down nested applications, from a tree and its operands' slice: where it stands, and the arguments met, in order -/
inductive Unw (w : World) (a : Tr) (c : Value) : Tr → Value → List Cd → Prop
  | here : Unw w a c a c []
  | down {t f x : Tr} {ct cf u v r : Value} {l : List Cd} {bl off cap : Nat} : Unw w a c t ct l → t.op = 4 → t.kids = [f, x] → ct = .slice (some ⟨bl, off, none⟩) 2 cap →
      w.cell? ⟨bl, off + 2, none⟩ = some cf → w.cell? ⟨bl, off + 3, none⟩ = some u → w.cell? ⟨bl, off + 4, none⟩ = some v → w.cell? ⟨bl, off + 5, none⟩ = some r → Unw w a c f cf (l ++ [(x, u, v, r)])

theorem Unw.unw {w : World} {a t : Tr} {c ct : Value} {l : List Cd} (h : Unw w a c t ct l) : unwT a [] = unwT t (l.map (·.1)).reverse := by
  induction h with
  | here => rfl
  | down h ho hk _ _ _ _ _ ih => rw [ih, unwT_app ho hk]; simp

/-- two operands, in their cells -/
theorem KidsOn.two {w : World} {S : Nat → Prop} {f x : Tr} {c : Value} (h : KidsOn w S [f, x] c) : ∃ bl off cap a b cf u v r, c = .slice (some ⟨bl, off, none⟩) 2 cap ∧ 2 ≤ cap ∧ cap ≤ maxLen ∧ S bl ∧ RowOn w S bl off [f, x] ∧
    w.cell? ⟨bl, off, none⟩ = some a ∧ w.cell? ⟨bl, off + 1, none⟩ = some b ∧ w.cell? ⟨bl, off + 2, none⟩ = some cf ∧ TrOn w S f a b cf ∧
    w.cell? ⟨bl, off + 3, none⟩ = some u ∧ w.cell? ⟨bl, off + 4, none⟩ = some v ∧ w.cell? ⟨bl, off + 5, none⟩ = some r ∧ TrOn w S x u v r := by
  obtain ⟨ad, cap, rfl, l1, l2, h⟩ := h
  rcases h with h | ⟨bl, off, rfl, hs, hr⟩
  · simp at h
  obtain ⟨a, b, cf, h0, h1, h2, h3⟩ := RowOn.at _ off 0 (by simp) hr
  obtain ⟨u, v, r, g0, g1, g2, g3⟩ := RowOn.at _ off 1 (by simp) hr
  simp only [Nat.zero_mul, Nat.add_zero, Nat.one_mul, List.getElem_cons_zero, List.getElem_cons_succ, Nat.add_assoc] at h0 h1 h2 h3 g0 g1 g2 g3
  exact ⟨bl, off, cap, a, b, cf, u, v, r, rfl, l1, l2, hs, hr, h0, h1, h2, h3, g0, g1, g2, g3⟩

theorem Unw.on {w : World} {S : Nat → Prop} {a t : Tr} {c ct : Value} {l : List Cd} (h : Unw w a c t ct l) (hc : KidsOn w S a.kids c) (ha : I64 a.op ∧ I64 a.num) :
    KidsOn w S t.kids ct ∧ I64 t.op ∧ I64 t.num ∧ (∀ d ∈ l, TrOn w S d.1 d.2.1 d.2.2.1 d.2.2.2) ∧ szT t + l.length ≤ szT a := by
  induction h with
  | here => exact ⟨hc, ha.1, ha.2, by simp, by simp⟩
  | @down t f x ct cf u v r l bl off cap h ho hk hct hcf hu hv hr ih =>
    obtain ⟨i1, i2, i3, i4, i5⟩ := ih
    rw [hk] at i1
    obtain ⟨bl', off', cap', p, q, cf', u', v', r', e, -, -, -, -, h0, h1, h2, h3, g0, g1, g2, g3⟩ := i1.two
    rw [hct] at e
    simp only [Value.slice.injEq, Option.some.injEq, Addr.mk.injEq] at e
    obtain ⟨⟨rfl, rfl, -⟩, -, rfl⟩ := e
    rw [hcf] at h2
    rw [hu] at g0
    rw [hv] at g1
    rw [hr] at g2
    cases h2
    cases g0
    cases g1
    cases g2
    have h4 := trOn_iff.1 h3
    refine ⟨h4.2.2.2.2, h4.2.2.1, h4.2.2.2.1, fun d hd => ?_, ?_⟩
    · simp only [List.mem_append, List.mem_singleton] at hd
      rcases hd with hd | rfl
      · exact i4 d hd
      · exact g3
    · have e1 : szT t = szL [f, x] := by rw [szT_eq, hk]
      simp only [szL, List.length_append, List.length_cons, List.length_nil] at e1 ⊢
      omega
end Go.Proofs.Ytekdipmioogohaa
/-
  TREES WHOSE BLOCKS ARE DISTINCT LIE IN PLAIN BLOCKS.
-/
namespace Go.Proofs.Ytekdipmioogohaa
set_option linter.unusedVariables false
set_option linter.unusedSimpArgs false
open Go.RowKit

mutual
theorem TrFp.plain {w : World} {T : TypeId} : ∀ (t : Tr) (fp : List Nat) (a b c : Value), TrFp w T t fp a b c → ∀ k ∈ fp, Pl w k
  | .node op n ks, fp, a, b, c, h => by
    simp only [TrFp] at h
    obtain ⟨-, -, -, -, ad, cap, -, -, -, h5⟩ := h
    rcases h5 with ⟨-, rfl⟩ | ⟨bl, off, C, fps, -, hb, rfl, r⟩
    · simp
    · intro k hk
      rw [List.mem_cons] at hk
      rcases hk with rfl | hk
      · exact ⟨cellsOf_lt hb, C, T, hb⟩
      · obtain ⟨f, hf, hkf⟩ := List.mem_flatten.1 hk
        exact RowFp.plain bl off ks fps r f hf k hkf
theorem RowFp.plain {w : World} {T : TypeId} (bl off : Nat) : ∀ (ks : List Tr) (fps : List (List Nat)), RowFp w T bl off ks fps → ∀ f ∈ fps, ∀ k ∈ f, Pl w k
  | [], fps, h => by
    simp only [RowFp] at h
    subst h
    simp
  | t :: ts, fps, h => by
    simp only [RowFp] at h
    obtain ⟨f, fs, rfl, ⟨a, b, c, -, -, -, ht⟩, hr⟩ := h
    intro g hg k hk
    rw [List.mem_cons] at hg
    rcases hg with rfl | hg
    · exact TrFp.plain t _ a b c ht k hk
    · exact RowFp.plain bl (off + 3) ts fs hr g hg k hk
end
theorem KidsFp.plain {w : World} {T : TypeId} {ks : List Tr} {fp : List Nat} {c : Value} (h : KidsFp w T ks fp c) : ∀ k ∈ fp, Pl w k :=
  TrFp.plain (.node 0 0 ks) fp _ _ c (trFp_iff.2 ⟨rfl, rfl, by simp [I64], by simp [I64], h⟩)
theorem Fresh.inP {w : World} {lo : Nat} {ks : List Tr} {c : Value} (h : Fresh w lo ks c) : InP w ks c := by
  obtain ⟨fp, h1, -, -⟩ := h
  exact h1.on h1.plain
end Go.Proofs.Ytekdipmioogohaa
/-
  LISTS OF TREES WITH DISTINCT BLOCKS THAT A CALL BUILDS BY append.
-/
namespace Go.Proofs.Ytekdipmioogohaa
set_option linter.unusedVariables false
set_option linter.unusedSimpArgs false
open Go.RowKit

/-- a list of trees that a call has built by append: the row is its own, each tree has its own blocks, all from lo on -/
def OwnF (w : World) (lo hi : Nat) (ts : List Tr) (v : Value) : Prop :=
  ∃ (xs : List Value) (fps : List (List Nat)), w.ownsRow lo 32 3 v ts.length xs ∧ fps.length = ts.length ∧
    (∀ j (hj : j < ts.length), ∃ f, fps[j]? = some f ∧ ∃ a b c, xs[j * 3]? = some a ∧ xs[j * 3 + 1]? = some b ∧ xs[j * 3 + 2]? = some c ∧ TrFp w 32 ts[j] f a b c) ∧
    fps.flatten.Nodup ∧ ∀ k ∈ fps.flatten, lo ≤ k ∧ k < hi ∧ some k ≠ v.ownBlock

theorem OwnF.nil (w : World) (lo hi : Nat) : OwnF w lo hi [] (.slice none 0 0) := ⟨[], [], World.ownsRow_nil w lo _ _, rfl, fun j hj => absurd hj (by simp), by simp, by simp⟩
theorem OwnF.next {w w' : World} {lo hi hi' : Nat} {ts : List Tr} {v : Value} (h : OwnF w lo hi ts v) (hh : hi ≤ hi') (hs : hi ≤ w.heap.size) (hb : ∀ k, lo ≤ k → k < w.heap.size → w'.heap[k]? = w.heap[k]?) : OwnF w' lo hi' ts v := by
  obtain ⟨xs, fps, h1, h2, h3, h4, h5⟩ := h
  refine ⟨xs, fps, own_keep h1 hb, h2, fun j hj => ?_, h4, fun k hk => ⟨(h5 k hk).1, Nat.lt_of_lt_of_le (h5 k hk).2.1 hh, (h5 k hk).2.2⟩⟩
  obtain ⟨f, e0, a, b, c, e1, e2, e3, e4⟩ := h3 j hj
  exact ⟨f, e0, a, b, c, e1, e2, e3, TrFp.keep _ _ _ _ _ (fun k hk => by
    have := h5 k (List.mem_flatten.2 ⟨f, List.mem_of_getElem? e0, hk⟩)
    exact hb k this.1 (Nat.lt_of_lt_of_le this.2.1 hs)) e4⟩
theorem OwnF.row {w : World} {lo hi : Nat} {ts : List Tr} {v : Value} (h : OwnF w lo hi ts v) : ∃ xs, w.ownsRow lo 32 3 v ts.length xs := by
  obtain ⟨xs, -, h1, -⟩ := h; exact ⟨xs, h1⟩
/-- one tree more -/
theorem OwnF.step {w w' : World} {lo hi : Nat} {ts : List Tr} {v v' : Value} {t : Tr} {a b c : Value} {f : List Nat} (h : OwnF w lo hi ts v) (hlo : lo ≤ hi) (hs : hi ≤ w.heap.size)
    (hn : TrFp w 32 t f a b c) (hf : f.Nodup) (hfl : ∀ k ∈ f, hi ≤ k ∧ k < w.heap.size ∧ some k ≠ v.ownBlock) (xs : List Value) (hx : w.ownsRow lo 32 3 v ts.length xs)
    (hown : w'.ownsRow lo 32 3 v' (ts.length + 1) (xs ++ [a, b, c])) (hg : w.grownBy w' v.ownBlock) (hw : v'.ownBlock = v.ownBlock ∨ ∃ g, v'.ownBlock = some g ∧ w.heap.size ≤ g) : OwnF w' lo w.heap.size (ts ++ [t]) v' := by
  obtain ⟨xs2, fps, h1, h2, h3, h4, h5⟩ := h
  -- the row's cells are the same
  have hxs : xs2 = xs := by
    rcases h1.2 with ⟨rfl, h0⟩ | ⟨g, cap, cur, rfl, hg', hh, hn', hc, hs, htk⟩
    · have a1 := h1.1
      have a2 := hx.1
      rw [h0] at a1 a2
      rw [List.eq_nil_of_length_eq_zero (by omega : xs2.length = 0), List.eq_nil_of_length_eq_zero (by omega : xs.length = 0)]
    · rcases hx.2 with ⟨e, -⟩ | ⟨g2, cap2, cur2, e, -, hh2, -, -, -, htk2⟩
      · cases e
      · cases e
        rw [hh] at hh2
        cases hh2
        rw [← htk, ← htk2]
  subst hxs
  have hlen := h1.1
  have keepB : ∀ k, lo ≤ k ∧ k < w.heap.size ∧ some k ≠ v.ownBlock → w'.heap[k]? = w.heap[k]? := fun k hk => hg.block k hk.2.1 hk.2.2
  have nb : ∀ k, k < w.heap.size → some k ≠ v.ownBlock → some k ≠ v'.ownBlock := fun k hk hkv => by
    rcases hw with hw | ⟨g, hw, hge⟩
    · rw [hw]; exact hkv
    · rw [hw]; intro e; simp only [Option.some.injEq] at e; omega
  refine ⟨xs2 ++ [a, b, c], fps ++ [f], by simpa using hown, by simp [h2], fun j hj => ?_, ?_, ?_⟩
  · by_cases hjl : j < ts.length
    · obtain ⟨f', e0, x, y, z, e1, e2, e3, e4⟩ := h3 j hjl
      refine ⟨f', ?_, x, y, z, ?_, ?_, ?_, ?_⟩
      · rw [List.getElem?_append_left (by omega)]; exact e0
      · rw [List.getElem?_append_left (by omega)]; exact e1
      · rw [List.getElem?_append_left (by omega)]; exact e2
      · rw [List.getElem?_append_left (by omega)]; exact e3
      · rw [List.getElem_append_left hjl]
        exact TrFp.keep _ _ _ _ _ (fun k hk => by
          have := h5 k (List.mem_flatten.2 ⟨f', List.mem_of_getElem? e0, hk⟩)
          exact keepB k ⟨this.1, Nat.lt_of_lt_of_le this.2.1 hs, this.2.2⟩) e4
    · have hj' : j = ts.length := by simp at hj; omega
      subst hj'
      refine ⟨f, ?_, a, b, c, ?_, ?_, ?_, ?_⟩
      · rw [List.getElem?_append_right (by omega)]; simp [h2]
      · rw [List.getElem?_append_right (by omega)]; simp [hlen]
      · rw [List.getElem?_append_right (by omega)]; simp [hlen]
      · rw [List.getElem?_append_right (by omega)]; simp [hlen]
      · simpa using TrFp.keep _ _ _ _ _ (fun k hk => keepB k ⟨Nat.le_trans hlo (hfl k hk).1, (hfl k hk).2⟩) hn
  · rw [List.flatten_append, List.nodup_append]
    refine ⟨h4, by simpa using hf, fun x hx y hy e => ?_⟩
    subst e
    have e1 := (h5 x hx).2.1
    have e2 := (hfl x (by simpa using hy)).1
    omega
  · intro k hk
    simp only [List.flatten_append, List.mem_append] at hk
    rcases hk with hk | hk
    · have := h5 k hk
      exact ⟨this.1, Nat.lt_of_lt_of_le this.2.1 hs, nb k (Nat.lt_of_lt_of_le this.2.1 hs) this.2.2⟩
    · have := hfl k (by simpa using hk)
      exact ⟨Nat.le_trans hlo this.1, this.2.1, nb k this.2.1 this.2.2⟩
/-- the list, as trees with distinct blocks -/
theorem OwnF.fresh {w : World} {lo hi : Nat} {ts : List Tr} {v : Value} (h : OwnF w lo hi ts v) : Fresh w lo ts v := by
  obtain ⟨xs, fps, h1, h2, h3, h4, h5⟩ := h
  rcases h1.2 with ⟨rfl, h0⟩ | ⟨g, cap, cur, rfl, hg, hh, hn, hc, hs, htk⟩
  · obtain rfl : ts = [] := List.eq_nil_of_length_eq_zero h0
    exact ⟨[], ⟨none, 0, rfl, Nat.le_refl _, by simp [maxLen], Or.inl ⟨rfl, rfl⟩⟩, by simp, by simp⟩
  · refine ⟨g :: fps.flatten, ⟨_, cap, rfl, hn, hc, Or.inr ⟨g, 0, cur, fps, rfl, hh, rfl, RowFp.of _ _ _ h2 fun i hi => ?_⟩⟩, ?_, ?_⟩
    · obtain ⟨f, e0, a, b, c, e1, e2, e3, e4⟩ := h3 i hi
      refine ⟨f, e0, a, b, c, ?_, ?_, ?_, e4⟩
      · rw [Nat.zero_add, h1.cellAt (i * 3) (by omega)]; exact e1
      · rw [Nat.zero_add, h1.cellAt (i * 3 + 1) (by omega)]; exact e2
      · rw [Nat.zero_add, h1.cellAt (i * 3 + 2) (by omega)]; exact e3
    · rw [List.nodup_cons]
      exact ⟨fun hm => (h5 g hm).2.2 rfl, h4⟩
    · intro k hk
      rw [List.mem_cons] at hk
      rcases hk with rfl | hk
      · exact hg
      · exact (h5 k hk).1
end Go.Proofs.Ytekdipmioogohaa
/-
  slices.Clone of a slice of expressions: the same cells in a row of its own. A tail of a row that a call owns.
-/
namespace Go.Proofs.Ytekdipmioogohaa
set_option linter.unusedVariables false
set_option linter.unusedSimpArgs false
open Go.RowKit

/-- a slice value of n expressions, with their cells -/
def ECells (w : World) (n : Nat) (news : List Value) (v : Value) : Prop :=
  news.length = n * 3 ∧ (∀ u ∈ news, u.oneCell' = true) ∧ ∃ ad cap, v = .slice ad n cap ∧ ((ad = none ∧ n = 0) ∨ ∃ bl off, ad = some ⟨bl, off, none⟩ ∧ bl < w.heap.size ∧ ∀ j u, news[j]? = some u → w.cell? ⟨bl, off + j, none⟩ = some u)
theorem ECells.next {w w' : World} {n : Nat} {news : List Value} {v : Value} (h : ECells w n news v) (hb : Below w.heap.size w w') : ECells w' n news v := by
  obtain ⟨h1, h2, ad, cap, e, h3⟩ := h
  refine ⟨h1, h2, ad, cap, e, h3.imp id ?_⟩
  rintro ⟨bl, off, e, hbl, hc⟩
  exact ⟨bl, off, e, Nat.lt_of_lt_of_le hbl hb.size, fun j u hj => (hb.cell (p := ⟨bl, off + j, none⟩) hbl).trans (hc j u hj)⟩
/-- the copy -/
def CloneERes (n : Nat) (news : List Value) (w : World) (e : Ending) (w' : World) : Prop := ∃ v, e = .returned v ∧ w'.ownsRow w.heap.size 32 3 v n news ∧ Below w.heap.size w w'
theorem cloneE_below {wr w1 : World} {o : Obj} (h : (wr.alloc o).grownBy w1 (Value.slice (some ⟨wr.heap.size, 0, none⟩) 0 0).ownBlock) : Below wr.heap.size wr w1 :=
  ⟨h.os, h.tape, h.output, by have h1 : (wr.alloc o).heap.size ≤ w1.heap.size := h.size; rw [Deep.nblk_alloc] at h1; omega, fun k hk => (h.block k (by show k < (wr.alloc o).heap.size; rw [Deep.nblk_alloc]; omega) (by simp only [Value.ownBlock, ne_eq, Option.some.injEq]; omega)).trans (Deep.blk_alloc_lt _ _ _ hk)⟩

set_option maxRecDepth 100000 in
set_option maxHeartbeats 1600000 in
theorem cloneE_calls (n : Nat) (news : List Value) (v : Value) (w : World) (hk : ECells w n news v) (hl : n ≤ 1048576) : Calls Try.prog 43 #[v] w (CloneERes n news w) := by
  obtain ⟨hnl, h1, ad, cap, rfl, hr⟩ := hk
  obtain ⟨iE, zE, hiE, hzE, hsE, hbE, hcE⟩ := infoE3
  rcases hr with ⟨rfl, rfl⟩ | ⟨bl, off, rfl, hbl, hc⟩
  · have hnil : news = [] := List.eq_nil_of_length_eq_zero (by omega)
    subst hnil
    have q : (binOp .eql 30 (.slice none 0 cap) (.slice none 0 0)).run Try.prog w = .ok (.bool true) w := Lib.run_eql_slice_nil w _ _ none 0 cap 0 0 Try.underlying30
    go_enter Try.func43, Try.ntmps43
    go_wp2_with fail
    go_ret
    exact ⟨_, rfl, World.ownsRow_nil _ _ _ _, Below.refl _ _⟩
  · have q : (binOp .eql 30 (.slice (some ⟨bl, off, none⟩) n cap) (.slice none 0 0)).run Try.prog w = .ok (.bool false) w := Lib.run_eql_slice_nil w _ _ (some ⟨bl, off, none⟩) n cap 0 0 Try.underlying30
    have HE : Hid (Try.prog.info? 32 = some iE ∧ iE.zero = some zE ∧ iE.size = 3 ∧ iE.bytes = 40 ∧ zE.cells.size = 3) := ⟨hiE, hzE, hsE, hbE, hcE⟩
    have HNL := mkHid hnl
    have H1 := mkHid h1
    have HN : Hid (∀ j u, news[j]? = some u → (w.alloc (.cells #[] 32)).cell? ((⟨bl, off, none⟩ : Addr).add j) = some u) := fun j u hj => by
      rw [WideShapes.add_plain]; exact old_cell (hc j u hj) _
    have HO : Hid ((w.alloc (.cells #[] 32)).ownsRow w.heap.size 32 3 (.slice (some ⟨w.heap.size, 0, none⟩) 0 0) 0 []) :=
      ⟨rfl, Or.inr ⟨w.heap.size, 0, #[], rfl, Nat.le_refl _, Deep.blk_alloc_new w (.cells #[] 32), Nat.le_refl _, by unfold maxLen; omega, rfl, rfl⟩⟩
    clear hiE hzE hsE hbE hcE hnl h1 hc hbl
    go_enter Try.func43, Try.ntmps43
    go_wp2_with (at_builtin; go_must (refine wpList_append_own _ rfl _ _ 30 rfl w.heap.size 32 iE zE 3 40 Try.underlying30 HE.out.1 HE.out.2.1 HE.out.2.2.1 HE.out.2.2.2.1 HE.out.2.2.2.2 (by decide) (.slice (some ⟨w.heap.size, 0, none⟩) 0 0) 0 [] rfl HO.out ⟨bl, off, none⟩ n cap news rfl HNL.out HN.out H1.out (by unfold maxLen; omega) (by omega) (by rw [Deep.nblk_alloc]; omega) ?_); go_must (intro v1 w1 hown1 hg1 hwh1); go_must (have HO1 : Hid (w1.ownsRow w.heap.size 32 3 v1 n news) := by have h := hown1; rw [Nat.zero_add, List.nil_append] at h; exact h); go_must (have HB1 : Hid (Below w.heap.size w w1) := cloneE_below hg1); clear hown1 hg1 hwh1)
    go_ret
    exact ⟨_, rfl, HO1.out, HB1.out⟩

/-- the first elements of an owned row -/
theorem own_take {w : World} {lo n cap : Nat} {T : TypeId} {ad : Option Addr} {xs : List Value} (h : w.ownsRow lo T 3 (.slice ad n cap) n xs) {m : Nat} (hm : m ≤ n) : w.ownsRow lo T 3 (.slice ad m cap) m (xs.take (m * 3)) := by
  have hl := h.1
  refine ⟨by rw [List.length_take]; omega, ?_⟩
  rcases h.2 with ⟨e, h0⟩ | ⟨g, c, cur, e, hg, hh, hn, hc, hs, htk⟩
  · cases e
    exact Or.inl ⟨by rw [show m = 0 by omega], by omega⟩
  · cases e
    refine Or.inr ⟨g, cap, cur, rfl, hg, hh, by omega, hc, hs, ?_⟩
    rw [← htk, List.take_take, Nat.min_eq_left (by omega)]
/-- .. and the last ones: the slice values that the walk makes of them -/
theorem own_tail {w : World} {lo n cap : Nat} {ad : Option Addr} {xs : List Value} (h : w.ownsRow lo 32 3 (.slice ad n cap) n xs) (h1 : ∀ u ∈ xs, u.oneCell' = true) {m : Nat} (hm : m ≤ n) (v : Value)
    (hv : (ad = none ∧ v = .slice none 0 0) ∨ (∃ g, ad = some ⟨g, 0, none⟩ ∧ v = .slice (if cap = m then some ⟨g, 0, none⟩ else some ⟨g, m * 3, none⟩) (n - m) (cap - m))) : ECells w (n - m) (xs.drop (m * 3)) v := by
  have hl := h.1
  refine ⟨by rw [List.length_drop, hl, Nat.sub_mul], fun u hu => h1 u (List.mem_of_mem_drop hu), ?_⟩
  rcases h.2 with ⟨e, h0⟩ | ⟨g, c, cur, e, hg, hh, hn, hc, hs, htk⟩
  · cases e
    rcases hv with ⟨-, rfl⟩ | ⟨g, e, -⟩
    · exact ⟨none, 0, by simp, Or.inl ⟨rfl, by omega⟩⟩
    · cases e
  · cases e
    have hlt := (Array.getElem?_eq_some_iff.1 hh).1
    have key : ∀ j u, (xs.drop (m * 3))[j]? = some u → w.cell? ⟨g, m * 3 + j, none⟩ = some u := by
      intro j u hj
      rw [List.getElem?_drop] at hj
      rw [h.cellAt (m * 3 + j) (by have := (List.getElem?_eq_some_iff.1 hj).1; omega)]
      exact hj
    rcases hv with ⟨e, -⟩ | ⟨g', e, rfl⟩
    · cases e
    · cases e
      by_cases hme : cap = m
      · rw [if_pos hme]
        refine ⟨_, _, rfl, Or.inr ⟨g, 0, rfl, hlt, fun j u hj => ?_⟩⟩
        have := (List.getElem?_eq_some_iff.1 hj).1
        rw [List.length_drop, hl] at this
        omega
      · rw [if_neg hme]
        exact ⟨_, _, rfl, Or.inr ⟨g, m * 3, rfl, hlt, key⟩⟩
/-- .. the first ones -/
theorem own_head {w : World} {lo n cap g : Nat} {xs : List Value} (h : w.ownsRow lo 32 3 (.slice (some ⟨g, 0, none⟩) n cap) n xs) (h1 : ∀ u ∈ xs, u.oneCell' = true) {m : Nat} (hm : m ≤ n) : ECells w m (xs.take (m * 3)) (.slice (some ⟨g, 0, none⟩) m cap) := by
  have h2 := own_take h hm
  refine ⟨h2.1, fun u hu => h1 u (List.mem_of_mem_take hu), _, _, rfl, Or.inr ⟨g, 0, rfl, (h.lt g rfl).2, fun j u hj => ?_⟩⟩
  rw [Nat.zero_add, h2.cellAt j (by have := (List.getElem?_eq_some_iff.1 hj).1; rw [h2.1] at this; exact this)]
  exact hj
theorem OwnF.one {w : World} {lo hi : Nat} {ts : List Tr} {v : Value} (h : OwnF w lo hi ts v) : ∃ xs, w.ownsRow lo 32 3 v ts.length xs ∧ ∀ u ∈ xs, u.oneCell' = true := by
  obtain ⟨xs, fps, h1, h2, h3, -, -⟩ := h
  refine ⟨xs, h1, fun u hu => ?_⟩
  obtain ⟨i, hi, rfl⟩ := List.getElem_of_mem hu
  have hl := h1.1
  have hj : i / 3 < ts.length := by omega
  obtain ⟨f, -, a, b, c, e1, e2, e3, e4⟩ := h3 (i / 3) hj
  obtain ⟨ha, hb, -, -, ad, cap, hc, -⟩ := trFp_iff.1 e4
  have hm : i % 3 = 0 ∨ i % 3 = 1 ∨ i % 3 = 2 := by omega
  rcases hm with hm | hm | hm
  · have : xs[i / 3 * 3]? = some xs[i] := by rw [show i / 3 * 3 = i by omega]; exact List.getElem?_eq_getElem hi
    rw [e1] at this; cases this; rw [ha]; rfl
  · have : xs[i / 3 * 3 + 1]? = some xs[i] := by rw [show i / 3 * 3 + 1 = i by omega]; exact List.getElem?_eq_getElem hi
    rw [e2] at this; cases this; rw [hb]; rfl
  · have : xs[i / 3 * 3 + 2]? = some xs[i] := by rw [show i / 3 * 3 + 2 = i by omega]; exact List.getElem?_eq_getElem hi
    rw [e3] at this; cases this; rw [hc]; rfl

/-- the last trees are taken from a list and put back as the operands of one -/
theorem OwnF.popK {w w5 w6 : World} {lo n cap m : Nat} {ts : List Tr} {ad : Option Addr} {v' kv : Value} {o nn : Int} {xs : List Value}
    (h : OwnF w lo w.heap.size ts (.slice ad n cap)) (hn : n = ts.length) (hm : m ≤ n) (hlo : lo ≤ w.heap.size) (hx : w.ownsRow lo 32 3 (.slice ad n cap) n xs)
    (hb : Below w.heap.size w w5) (hk : w5.ownsRow w.heap.size 32 3 kv (n - m) (xs.drop (m * 3))) (ho : I64 o) (hnn : I64 nn)
    (hown : w6.ownsRow lo 32 3 v' (m + 1) (xs.take (m * 3) ++ [.int .i64 o, .int .i64 nn, kv])) (keepB : ∀ k, k < w5.heap.size → some k ≠ (Value.slice ad m cap).ownBlock → w6.heap[k]? = w5.heap[k]?) (h6 : w5.heap.size ≤ w6.heap.size)
    (hw : v'.ownBlock = (Value.slice ad m cap).ownBlock ∨ ∃ g, v'.ownBlock = some g ∧ w5.heap.size ≤ g) :
    OwnF w6 lo w6.heap.size (ts.take m ++ [.node o nn (ts.drop m)]) v' := by
  obtain ⟨xs2, fps, h1, h2, h3, h4, h5⟩ := h
  have hxs : xs2 = xs := by
    rcases h1.2 with ⟨e, h0⟩ | ⟨g, c, cur, e, hg', hh, hn', hc, hs, htk⟩
    · have a1 := h1.1
      have a2 := hx.1
      rw [List.eq_nil_of_length_eq_zero (by omega : xs2.length = 0), List.eq_nil_of_length_eq_zero (by omega : xs.length = 0)]
    · rcases hx.2 with ⟨e2, -⟩ | ⟨g2, cap2, cur2, e2, -, hh2, -, -, -, htk2⟩
      · cases e; cases e2
      · cases e; cases e2
        rw [hh] at hh2
        cases hh2
        rw [← htk, ← htk2]
  subst hxs
  have hlen := h1.1
  have hsz := hb.size
  have hob : ∀ k, some k = (Value.slice ad m cap).ownBlock → k < w.heap.size := by
    intro k e
    rcases h1.2 with ⟨e2, -⟩ | ⟨g, c, cur, e2, hg', hh, -⟩
    · cases e2; simp [Value.ownBlock] at e
    · cases e2
      simp only [Value.ownBlock, Option.some.injEq] at e
      subst e
      exact (Array.getElem?_eq_some_iff.1 hh).1
  have hob2 : (Value.slice ad m cap).ownBlock = (Value.slice ad n cap).ownBlock := by cases ad <;> rfl
  -- what stays from the first world to the last
  have keepA : ∀ k, k < w.heap.size → some k ≠ (Value.slice ad m cap).ownBlock → w6.heap[k]? = w.heap[k]? := fun k hk hne => (keepB k (by omega) hne).trans (hb.block k hk)
  have inF : ∀ k ∈ fps.flatten, lo ≤ k ∧ k < w.heap.size ∧ some k ≠ (Value.slice ad m cap).ownBlock := fun k hk => by rw [hob2]; exact h5 k hk
  have nb : ∀ k, k < w5.heap.size → some k ≠ (Value.slice ad m cap).ownBlock → some k ≠ v'.ownBlock := fun k hk hkv => by
    rcases hw with hw | ⟨g, hw, hge⟩
    · rw [hw]; exact hkv
    · rw [hw]; intro e; simp only [Option.some.injEq] at e; omega
  have hdl : (ts.drop m).length = n - m := by simp; omega
  -- the new tree
  have hnew : ∃ f, TrFp w6 32 (.node o nn (ts.drop m)) f (.int .i64 o) (.int .i64 nn) kv ∧ (f = [] ∨ ∃ g', f = g' :: (fps.drop m).flatten ∧ w.heap.size ≤ g' ∧ g' < w5.heap.size) := by
    rcases hk.2 with ⟨rfl, h0⟩ | ⟨g', cap', cur', rfl, hg', hh', hn', hc', hs', htk'⟩
    · have hnil : ts.drop m = [] := List.eq_nil_of_length_eq_zero (by omega)
      rw [hnil]
      exact ⟨[], trFp_iff.2 ⟨rfl, rfl, ho, hnn, none, 0, rfl, Nat.le_refl _, by simp [maxLen], Or.inl ⟨rfl, rfl⟩⟩, Or.inl rfl⟩
    · have hg5 := (Array.getElem?_eq_some_iff.1 hh').1
      have hgne : some g' ≠ (Value.slice ad m cap).ownBlock := fun e => by have := hob g' e; omega
      refine ⟨g' :: (fps.drop m).flatten, trFp_iff.2 ⟨rfl, rfl, ho, hnn, some ⟨g', 0, none⟩, cap', by rw [Tr.kids_node, hdl], by rw [Tr.kids_node, hdl]; exact hn', hc', Or.inr ⟨g', 0, cur', fps.drop m, rfl, (keepB g' hg5 hgne).trans hh', rfl, RowFp.of _ _ _ ?_ fun i hi => ?_⟩⟩, Or.inr ⟨g', rfl, hg', hg5⟩⟩
      · rw [Tr.kids_node, hdl, List.length_drop, h2, hn]
      · rw [Tr.kids_node, hdl] at hi
        obtain ⟨f, e0, a, b, c, e1, e2, e3, e4⟩ := h3 (m + i) (by omega)
        have hcell : ∀ q, q < 3 → w6.cell? ⟨g', 0 + i * 3 + q, none⟩ = xs2[(m + i) * 3 + q]? := fun q hq => by
          rw [World.cell?_of_block (w := w5) (keepB g' hg5 hgne), Nat.zero_add, hk.cellAt (i * 3 + q) (by omega), List.getElem?_drop]
          congr 1
          omega
        have hh0 := hcell 0 (by omega)
        have hh1 := hcell 1 (by omega)
        have hh2 := hcell 2 (by omega)
        rw [Nat.add_zero] at hh0
        rw [Nat.add_zero] at hh0
        refine ⟨f, by rw [List.getElem?_drop]; exact e0, a, b, c, hh0.trans e1, hh1.trans e2, hh2.trans e3, ?_⟩
        have hmem : ∀ k ∈ f, k ∈ fps.flatten := fun k hk => List.mem_flatten.2 ⟨f, List.mem_of_getElem? e0, hk⟩
        simp only [Tr.kids_node, List.getElem_drop]
        exact TrFp.keep _ _ _ _ _ (fun k hk => keepA k (inF k (hmem k hk)).2.1 (inF k (hmem k hk)).2.2) e4
  obtain ⟨f, hf, hfp⟩ := hnew
  have hfl : (fps.take m).flatten ++ (fps.drop m).flatten = fps.flatten := by rw [← List.flatten_append, List.take_append_drop]
  have hnd := h4
  rw [← hfl, List.nodup_append] at hnd
  have htl : (ts.take m).length = m := by rw [List.length_take]; omega
  refine ⟨xs2.take (m * 3) ++ [.int .i64 o, .int .i64 nn, kv], fps.take m ++ [f], by rw [List.length_append, htl]; exact hown, by rw [List.length_append, List.length_append, htl, List.length_take]; simp; omega, fun j hj => ?_, ?_, fun k hkm => ?_⟩
  · rw [List.length_append, htl] at hj
    by_cases hjm : j < m
    · obtain ⟨f', e0, a, b, c, e1, e2, e3, e4⟩ := h3 j (by omega)
      have hmem : ∀ k ∈ f', k ∈ fps.flatten := fun k hk => List.mem_flatten.2 ⟨f', List.mem_of_getElem? e0, hk⟩
      have hxt : ∀ q, q < 3 → (xs2.take (m * 3) ++ [Value.int .i64 o, .int .i64 nn, kv])[j * 3 + q]? = xs2[j * 3 + q]? := fun q hq => by
        rw [List.getElem?_append_left (by rw [List.length_take]; omega), List.getElem?_take_of_lt (by omega)]
      have x0 := hxt 0 (by omega)
      rw [Nat.add_zero] at x0
      refine ⟨f', ?_, a, b, c, x0.trans e1, (hxt 1 (by omega)).trans e2, (hxt 2 (by omega)).trans e3, ?_⟩
      · rw [List.getElem?_append_left (by rw [List.length_take]; omega), List.getElem?_take_of_lt hjm]; exact e0
      · rw [List.getElem_append_left (by rw [htl]; exact hjm), List.getElem_take]
        exact TrFp.keep _ _ _ _ _ (fun k hk => keepA k (inF k (hmem k hk)).2.1 (inF k (hmem k hk)).2.2) e4
    · have hjm' : j = m := by simp at hj; omega
      subst hjm'
      have hxl : (xs2.take (j * 3)).length = j * 3 := by rw [List.length_take]; omega
      refine ⟨f, ?_, .int .i64 o, .int .i64 nn, kv, ?_, ?_, ?_, ?_⟩
      · rw [List.getElem?_append_right (by rw [List.length_take]; omega), List.length_take, show j - min j fps.length = 0 by omega]; rfl
      · rw [List.getElem?_append_right (by omega), hxl, show j * 3 - j * 3 = 0 by omega]; rfl
      · rw [List.getElem?_append_right (by omega), hxl, show j * 3 + 1 - j * 3 = 1 by omega]; rfl
      · rw [List.getElem?_append_right (by omega), hxl, show j * 3 + 2 - j * 3 = 2 by omega]; rfl
      · have e : (ts.take j ++ [Tr.node o nn (ts.drop j)])[j]'(by rw [List.length_append, htl]; simp) = Tr.node o nn (ts.drop j) := by
          rw [List.getElem_append_right (by omega)]; simp
        rw [e]
        exact hf
  · rw [List.flatten_append, List.nodup_append]
    have hlow : ∀ k ∈ (fps.take m).flatten, k < w.heap.size := fun k hk => (inF k (by rw [← hfl]; exact List.mem_append_left _ hk)).2.1
    rcases hfp with rfl | ⟨g', rfl, hg1, hg2⟩
    · exact ⟨hnd.1, by simp, fun x _ y hy => by simp at hy⟩
    · refine ⟨hnd.1, ?_, fun x hx' y hy => ?_⟩
      · simp only [List.flatten_cons, List.flatten_nil, List.append_nil, List.nodup_cons]
        refine ⟨fun hm' => ?_, hnd.2.1⟩
        have := (inF g' (by rw [← hfl]; exact List.mem_append_right _ hm')).2.1
        omega
      · simp only [List.flatten_cons, List.flatten_nil, List.append_nil, List.mem_cons] at hy
        rcases hy with rfl | hy
        · have := hlow x hx'; omega
        · exact hnd.2.2 x hx' y hy
  · rw [List.flatten_append, List.mem_append] at hkm
    rcases hkm with hkm | hkm
    · have := inF k (by rw [← hfl]; exact List.mem_append_left _ hkm)
      exact ⟨this.1, by omega, nb k (by omega) this.2.2⟩
    · rcases hfp with rfl | ⟨g', rfl, hg1, hg2⟩
      · simp at hkm
      · simp only [List.flatten_cons, List.flatten_nil, List.append_nil, List.mem_cons] at hkm
        rcases hkm with rfl | hkm
        · exact ⟨by omega, by omega, nb k hg2 (fun e => by have := hob k e; omega)⟩
        · have := inF k (by rw [← hfl]; exact List.mem_append_right _ hkm)
          exact ⟨this.1, by omega, nb k (by omega) this.2.2⟩
theorem OwnF.pop {w w5 w6 : World} {lo n cap m : Nat} {ts : List Tr} {ad : Option Addr} {v' kv : Value} {o nn : Int} {xs : List Value} {obj : Obj}
    (h : OwnF w lo w.heap.size ts (.slice ad n cap)) (hn : n = ts.length) (hm : m ≤ n) (hlo : lo ≤ w.heap.size) (hx : w.ownsRow lo 32 3 (.slice ad n cap) n xs)
    (hb : Below w.heap.size w w5) (hk : w5.ownsRow w.heap.size 32 3 kv (n - m) (xs.drop (m * 3))) (ho : I64 o) (hnn : I64 nn)
    (hown : w6.ownsRow lo 32 3 v' (m + 1) (xs.take (m * 3) ++ [.int .i64 o, .int .i64 nn, kv])) (hg : (w5.alloc obj).grownBy w6 (Value.slice ad m cap).ownBlock)
    (hw : v'.ownBlock = (Value.slice ad m cap).ownBlock ∨ ∃ g, v'.ownBlock = some g ∧ (w5.alloc obj).heap.size ≤ g) :
    OwnF w6 lo w6.heap.size (ts.take m ++ [.node o nn (ts.drop m)]) v' := by
  have hal := Deep.nblk_alloc w5 obj
  have h7 : (w5.alloc obj).heap.size ≤ w6.heap.size := hg.size
  refine OwnF.popK h hn hm hlo hx hb hk ho hnn hown (fun k hk hne => (hg.block k (by omega) hne).trans (Deep.blk_alloc_lt _ _ _ hk)) (by omega) (hw.imp id ?_)
  rintro ⟨g, e, h⟩
  exact ⟨g, e, by omega⟩
end Go.Proofs.Ytekdipmioogohaa
/-
  append TO A FRESH EMPTY SLICE OF EXPRESSIONS, of any expressions, none too: as one step of a region that draws its order.
-/
namespace Go.Proofs.Ytekdipmioogohaa
set_option linter.unusedVariables false
set_option linter.unusedSimpArgs false
open Go.RowKit

theorem run_append_fresh (w : World) (ty : TypeId) (G : Nat) (hG : w.heap[G]? = some (.cells #[] 32)) (n : Nat) (news : List Value) (v : Value) (hv : ECells w n news v) (hb : n ≤ 1048576) :
    ∃ v' w', (Builtin.append_ #[30, 30] ty #[.slice (some ⟨G, 0, none⟩) 0 0, v]).run Try.prog w = .ok v' w' ∧ w'.ownsRow G 32 3 v' n news ∧ w.grownBy w' (some G) ∧ (v'.ownBlock = some G ∨ ∃ g, v'.ownBlock = some g ∧ w.heap.size ≤ g) := by
  obtain ⟨hl, h1, ad, cap, rfl, hr⟩ := hv
  obtain ⟨i, z, hi, hz, hs, hby, hzs⟩ := infoE3
  have hlt := (Array.getElem?_eq_some_iff.1 hG).1
  have hown : w.ownsRow G 32 3 (.slice (some ⟨G, 0, none⟩) 0 0) 0 [] := ⟨rfl, Or.inr ⟨G, 0, #[], rfl, Nat.le_refl _, hG, Nat.le_refl _, by unfold maxLen; omega, rfl, rfl⟩⟩
  by_cases hn : n = 0
  · subst hn
    obtain rfl : news = [] := List.eq_nil_of_length_eq_zero (by omega)
    refine ⟨.slice (some ⟨G, 0, none⟩) 0 0, w, ?_, hown, ⟨rfl, rfl, rfl, Nat.le_refl _, fun _ _ _ => rfl⟩, Or.inl rfl⟩
    rcases hr with ⟨rfl, -⟩ | ⟨bl, off, rfl, hbl, -⟩
    · simp [Builtin.append_, run_underlying Try.underlying30, sizeOf, typeInfo, hi, Builtin.lenOf, Builtin.firstCells, storeCells]
    · simp [Builtin.append_, run_underlying Try.underlying30, sizeOf, typeInfo, hi, Builtin.lenOf, Builtin.firstCells, storeCells, loadCells, loadCellsFrom]
  · rcases hr with ⟨-, h0⟩ | ⟨bl, off, rfl, hbl, hc⟩
    · exact absurd h0 hn
    · obtain ⟨v', w', hrun, h2, h3, h4⟩ := run_append_where (P := Try.prog) w G 30 ty 32 i z 3 40 Try.underlying30 hi hz hs hby hzs (by decide) (.slice (some ⟨G, 0, none⟩) 0 0) 0 [] hown ⟨bl, off, none⟩ n cap news hl (fun j u hj => by rw [WideShapes.add_plain]; exact hc j u hj) h1 (by unfold maxLen; omega) (by omega) (by omega) (by omega)
      exact ⟨v', w', hrun, by rw [Nat.zero_add, List.nil_append] at h2; exact h2, h3, h4⟩
theorem step_append_fresh {ops : Array Oper} {o : Oper} {a : Act} {w : World} {K : Act → World → Prop} {Q : Exit → Act → World → Prop} {E : Prop} (hgd : o.guard = none) (s x : Operand)
    (ho : o.op = .call { callee := .builtin .append, args := #[s, x], argTypes := #[30, 30] })
    (G : Nat) (hG : w.heap[G]? = some (.cells #[] 32)) (n : Nat) (news : List Value) (v : Value) (hs : a.eval s = .slice (some ⟨G, 0, none⟩) 0 0) (hx : a.eval x = v) (hv : ECells w n news v) (hb : n ≤ 1048576)
    (h : ∀ v' w', w'.ownsRow G 32 3 v' n news → w.grownBy w' (some G) → (v'.ownBlock = some G ∨ ∃ g, v'.ownBlock = some g ∧ w.heap.size ≤ g) → K (a.put o.dst v') w') : if Region.wanted o (yielded ops a.tmps) = true then Oper.wp Try.prog o a w K Q else E := by
  have hw : Region.wanted o (yielded ops a.tmps) = true := by simp [Region.wanted, hgd]
  rw [if_pos hw]
  obtain ⟨v', w', hrun, h2, h3, h4⟩ := run_append_fresh w o.type G hG n news v hv hb
  unfold Oper.wp
  simp [execOp, ho, resolve, invoke, builtin, hs, hx, hrun, Result.andThen]
  exact h _ _ h2 h3 h4
end Go.Proofs.Ytekdipmioogohaa
