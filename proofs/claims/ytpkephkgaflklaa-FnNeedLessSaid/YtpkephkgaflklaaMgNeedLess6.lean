/-
  NEEDS THAT HOLD, AND THE GREATEST OF THEM, as plain lists: more needs make an expression need more; what is the greatest is one.
-/
import Derived.Test.YtpkephkgaflklaaMgNeedLess1
import Derived.Test.YtpkephkgaflklaaMgNeedLess5
import Derived.Test.YtpkephkgaflklaaProg
import Derived.Deep.QuietTactic
import Derived.BigQuiet
import Derived.WalkSmall
import Derived.Deep.RegionHeld3
import Derived.Deep.RegionWith
import Derived.Deep.DeepMust
import Derived.Test.YtpkephkgaflklaaMgNeedLess4
namespace Go.Proofs.Ytpkephkgaflklaa
set_option linter.unusedVariables false
set_option linter.unusedSimpArgs false
open Go.RowKit

/-- it has a row for each function, as long as its arity says -/
def FitN (ds : List Df) (need : List (List Bool)) : Prop := need.length = ds.length ∧ ∀ i (h : i < ds.length) (h' : i < need.length), (need[i].length : Int) = ds[i].1
/-- .. and the bodies need what it says -/
def HoldN (ds : List Df) (need : List (List Bool)) : Prop := FitN ds need ∧ ∀ i (h : i < ds.length) (h' : i < need.length) (v : Nat) (hv : v < need[i].length), need[i][v] = true → needB need (v : Int) ds[i].2 = true
/-- so long are its rows, and it says no more -/
def LeR (a b : List Bool) : Prop := a.length = b.length ∧ ∀ v (h : v < a.length) (h' : v < b.length), a[v] = true → b[v] = true
def LeN (a b : List (List Bool)) : Prop := a.length = b.length ∧ ∀ i (h : i < a.length) (h' : i < b.length), LeR a[i] b[i]
theorem LeR.refl (a : List Bool) : LeR a a := ⟨rfl, fun _ _ _ h => h⟩
theorem LeN.refl (a : List (List Bool)) : LeN a a := ⟨rfl, fun _ _ _ => LeR.refl _⟩
theorem LeR.cons {x y : Bool} {a b : List Bool} (h : x = true → y = true) (hl : LeR a b) : LeR (x :: a) (y :: b) := by
  refine ⟨by simp [hl.1], fun v h1 h2 => ?_⟩
  cases v with
  | zero => exact h
  | succ v => exact hl.2 v (by simpa using h1) (by simpa using h2)
theorem callB_mono {a b : List (List Bool)} (h : LeN a b) (n : Int) {x y : List Bool} (hx : LeR x y) (hc : callB a n x = true) : callB b n y = true := by
  unfold callB at hc ⊢
  simp only [Bool.and_eq_true] at hc ⊢
  refine ⟨hc.1, ?_⟩
  by_cases hl : n.toNat < a.length
  · have hl' : n.toNat < b.length := h.1 ▸ hl
    have hr := h.2 _ hl hl'
    rw [List.getElem?_eq_getElem hl] at hc
    rw [List.getElem?_eq_getElem hl']
    simp only [Bool.and_eq_true, decide_eq_true_eq] at hc ⊢
    obtain ⟨-, hc1, hc2⟩ := hc
    refine ⟨by rw [← hr.1, ← hx.1]; exact hc1, ?_⟩
    rw [List.any_eq_true] at hc2
    obtain ⟨p, hp, hpp⟩ := hc2
    obtain ⟨k, hk, rfl⟩ := List.getElem_of_mem hp
    simp only [List.length_zip] at hk
    simp only [List.getElem_zip, Bool.and_eq_true] at hpp
    have h1 := hr.2 k (by omega) (by have := hr.1; omega) hpp.1
    have h2 := hx.2 k (by omega) (by have := hx.1; omega) hpp.2
    exact anyTo_true _ _ k (by have := hr.1; omega) (by have := hx.1; omega) (by rw [← hr.1, ← hx.1]; exact hc1) h1 h2
  · rw [List.getElem?_eq_none (by omega)] at hc
    simp at hc
theorem needG_mono {a b : List (List Bool)} (h : LeN a b) (v : Int) : ∀ (n : Nat) (t : Tr) (x y : List Bool), szT t ≤ n → LeR x y → needG a v t x = true → needG b v t y = true := by
  intro n
  induction n using Nat.strongRecOn with
  | ind n ih =>
    intro t x y hz hx hg
    have hz' : szL t.kids ≤ n := by rw [← szT_eq]; exact hz
    have kid : ∀ k, k ∈ t.kids → ∀ x y, LeR x y → needG a v k x = true → needG b v k y = true := by
      intro k hk x y hxy hg
      obtain ⟨i, hi, rfl⟩ := List.getElem_of_mem hk
      have := szT_lt_szL t.kids i hi
      exact ih _ (by omega) _ x y (Nat.le_refl _) hxy hg
    have kidB : ∀ k, k ∈ t.kids → needB a v k = true → needB b v k = true := fun k hk hg => kid k hk [] [] (LeR.refl _) hg
    match hk : t.kids with
    | [] =>
      rw [needG_leaf hk] at hg ⊢
      split
      · rename_i h1; rw [if_pos h1] at hg; exact hg
      · rename_i h1
        rw [if_neg h1] at hg
        split
        · rename_i h3; rw [if_pos h3] at hg; exact callB_mono h _ hx hg
        · rename_i h3; rw [if_neg h3] at hg; exact hg
    | [p] =>
      rw [needG_one hk] at hg ⊢
      split
      · rename_i h1; rw [if_pos h1] at hg; exact kidB p (by rw [hk]; simp) hg
      · rename_i h1; rw [if_neg h1] at hg; exact hg
    | [p, q] =>
      rw [needG_two hk] at hg ⊢
      split
      · rename_i h1
        rw [if_pos h1] at hg
        exact kid p (by rw [hk]; simp) _ _ (LeR.cons (kidB q (by rw [hk]; simp)) hx) hg
      · rename_i h1
        rw [if_neg h1] at hg
        split
        · rename_i h2
          rw [if_pos h2] at hg
          simp only [Bool.or_eq_true] at hg ⊢
          exact hg.imp (kidB p (by rw [hk]; simp)) (kidB q (by rw [hk]; simp))
        · rename_i h2; rw [if_neg h2] at hg; exact hg
    | [p, q, r] =>
      rw [needG_three hk] at hg ⊢
      split
      · rename_i h1
        rw [if_pos h1] at hg
        simp only [Bool.or_eq_true, Bool.and_eq_true] at hg ⊢
        exact hg.imp (kidB p (by rw [hk]; simp)) fun h => ⟨kidB q (by rw [hk]; simp) h.1, kidB r (by rw [hk]; simp) h.2⟩
      · rename_i h1; rw [if_neg h1] at hg; exact hg
    | p :: q :: r :: s :: l => rw [needG_more hk] at hg; cases hg
theorem needB_mono {a b : List (List Bool)} (h : LeN a b) (v : Int) (t : Tr) (hg : needB a v t = true) : needB b v t = true := needG_mono h v _ t [] [] (Nat.le_refl _) (LeR.refl _) hg

/-- the greatest need that holds -/
def Great (ds : List Df) (g : List (List Bool)) : Prop := HoldN ds g ∧ ∀ h, HoldN ds h → LeN h g
theorem LeR.antisymm {a b : List Bool} (h : LeR a b) (k : LeR b a) : a = b := by
  refine List.ext_getElem h.1 fun i h1 h2 => ?_
  have e1 := h.2 i h1 h2
  have e2 := k.2 i h2 h1
  cases ha : a[i] <;> cases hb : b[i] <;> simp_all
theorem LeN.antisymm {a b : List (List Bool)} (h : LeN a b) (k : LeN b a) : a = b :=
  List.ext_getElem h.1 fun i h1 h2 => (h.2 i h1 h2).antisymm (k.2 i h2 h1)
theorem Great.uniq {ds : List Df} {a b : List (List Bool)} (h : Great ds a) (k : Great ds b) : a = b := (k.2 a h.1).antisymm (h.2 b k.1)

/-- how much is said -/
def trues (l : List Bool) : Nat := (l.filter id).length
def truesN (l : List (List Bool)) : Nat := (l.map trues).sum
theorem trues_set {l : List Bool} : ∀ {v : Nat} (h : v < l.length), l[v] = true → trues (l.set v false) + 1 = trues l := by
  induction l with
  | nil => intro v h; simp at h
  | cons x l ih =>
    intro v h hv
    cases v with
    | zero => simp only [List.getElem_cons_zero] at hv; subst hv; simp [trues]
    | succ v =>
      have := ih (v := v) (by simpa using h) (by simpa using hv)
      cases x <;> simp [trues] at this ⊢ <;> omega
theorem truesN_set {l : List (List Bool)} : ∀ {i : Nat} (h : i < l.length) (r : List Bool), truesN (l.set i r) + trues l[i] = truesN l + trues r := by
  induction l with
  | nil => intro i h; simp at h
  | cons x l ih =>
    intro i h r
    cases i with
    | zero => simp [truesN]; omega
    | succ i =>
      have := ih (i := i) (by simpa using h) r
      simp [truesN] at this ⊢
      omega
/-- what the bodies do not need is said no longer -/
def dropN (need : List (List Bool)) (i v : Nat) : List (List Bool) := need.set i (((need[i]?).getD []).set v false)
theorem dropN_trues {need : List (List Bool)} {i v : Nat} (h : i < need.length) (hv : v < need[i].length) (hb : need[i][v] = true) : truesN (dropN need i v) + 1 = truesN need := by
  unfold dropN
  rw [List.getElem?_eq_getElem h, Option.getD_some]
  have h1 := truesN_set h (need[i].set v false)
  have h2 := trues_set hv hb
  omega
theorem dropN_fit {ds : List Df} {need : List (List Bool)} {i v : Nat} (h : FitN ds need) : FitN ds (dropN need i v) := by
  by_cases hi : i < need.length
  · unfold dropN
    rw [List.getElem?_eq_getElem hi, Option.getD_some]
    refine ⟨by rw [List.length_set]; exact h.1, fun j hj hj' => ?_⟩
    rw [List.getElem_set]
    split
    · rename_i e; subst e; rw [List.length_set]; exact h.2 _ hj hi
    · exact h.2 j hj (by simpa using hj')
  · unfold dropN
    rw [List.set_eq_of_length_le (by omega)]
    exact h
/-- what is greater than every need that holds stays so -/
theorem dropN_great {ds : List Df} {need : List (List Bool)} {i v : Nat} (hf : FitN ds need) (h : ∀ k, HoldN ds k → LeN k need) (hi : i < need.length) (hi' : i < ds.length) (hn : needB need (v : Int) ds[i].2 = false) :
    ∀ k, HoldN ds k → LeN k (dropN need i v) := by
  intro k hk
  have hl := h k hk
  unfold dropN
  rw [List.getElem?_eq_getElem hi, Option.getD_some]
  refine ⟨by rw [List.length_set]; exact hl.1, fun j hj hj' => ?_⟩
  rw [List.getElem_set]
  split
  · rename_i e
    subst e
    have hr := hl.2 i hj hi
    refine ⟨by rw [List.length_set]; exact hr.1, fun u hu hu' => ?_⟩
    rw [List.getElem_set]
    split
    · rename_i e
      subst e
      intro ht
      have := hk.2 i hi' hj v hu ht
      have := needB_mono hl (v : Int) ds[i].2 this
      rw [hn] at this
      cases this
    · exact hr.2 u hu (by simpa using hu')
  · exact hl.2 j hj (by simpa using hj')

/-- everything is said -/
def topN (ds : List Df) : List (List Bool) := ds.map fun d => List.replicate d.1.toNat true
theorem topN_fit {ds : List Df} (h : ∀ d ∈ ds, 0 ≤ d.1) : FitN ds (topN ds) := by
  refine ⟨by simp [topN], fun i h1 h2 => ?_⟩
  have := h _ (List.getElem_mem h1)
  simp only [topN, List.getElem_map, List.length_replicate]
  omega
theorem topN_great {ds : List Df} (h : ∀ d ∈ ds, 0 ≤ d.1) : ∀ k, HoldN ds k → LeN k (topN ds) := by
  intro k hk
  have hf := topN_fit h
  refine ⟨hk.1.1.trans hf.1.symm, fun i h1 h2 => ⟨?_, fun v h3 h4 _ => ?_⟩⟩
  · have e1 := hk.1.2 i (by rw [← hk.1.1]; exact h1) h1
    have e2 := hf.2 i (by rw [← hk.1.1]; exact h1) h2
    omega
  · simp [topN]
/-- what is great and holds is the greatest -/
theorem great_of {ds : List Df} {need : List (List Bool)} (h : HoldN ds need) (hg : ∀ k, HoldN ds k → LeN k need) : Great ds need := ⟨h, hg⟩
theorem exists_great {ds : List Df} (h : ∀ d ∈ ds, 0 ≤ d.1) : ∃ g, Great ds g := by
  have key : ∀ (n : Nat) (need : List (List Bool)), truesN need ≤ n → FitN ds need → (∀ k, HoldN ds k → LeN k need) → ∃ g, Great ds g := by
    intro n
    induction n with
    | zero =>
      intro need hz hf hg
      by_cases hh : HoldN ds need
      · exact ⟨need, hh, hg⟩
      exfalso
      refine hh ⟨hf, fun i h1 h2 v hv hb => ?_⟩
      have := dropN_trues h2 hv hb
      omega
    | succ n ih =>
      intro need hz hf hg
      by_cases hh : HoldN ds need
      · exact ⟨need, hh, hg⟩
      have : ∃ i, ∃ (h1 : i < ds.length) (h2 : i < need.length), ∃ v, ∃ (hv : v < need[i].length), need[i][v] = true ∧ needB need (v : Int) ds[i].2 = false := by
        apply Classical.byContradiction
        intro hno
        refine hh ⟨hf, fun i h1 h2 v hv hb => ?_⟩
        cases hc : needB need (v : Int) ds[i].2 with
        | true => rfl
        | false => exact absurd ⟨i, h1, h2, v, hv, hb, hc⟩ hno
      obtain ⟨i, h1, h2, v, hv, hb, hc⟩ := this
      have e := dropN_trues h2 hv hb
      exact ih (dropN need i v) (by omega) (dropN_fit hf) (dropN_great hf hg h2 h1 hc)
  exact key _ _ (Nat.le_refl _) (topN_fit h) (topN_great h)
open Classical in
/-- the answer of StrictArgs -/
noncomputable def strictA (ds : List Df) : List (List Bool) := if h : progB ds = true ∧ ∃ g, Great ds g then Classical.choose h.2 else []
theorem progB_ar {ds : List Df} (h : progB ds = true) : ∀ d ∈ ds, 0 ≤ d.1 ∧ d.1 ≤ 4 := by
  intro d hd
  unfold progB at h
  simp only [Bool.and_eq_true, decide_eq_true_eq, List.all_eq_true] at h
  have := h.2 d hd
  unfold validB at this
  simp only [Bool.and_eq_true, decide_eq_true_eq] at this
  omega
theorem strictA_no {ds : List Df} (h : progB ds = false) : strictA ds = [] := by unfold strictA; rw [dif_neg]; rw [h]; simp
theorem strictA_great {ds : List Df} (h : progB ds = true) : Great ds (strictA ds) := by
  have he := exists_great fun d hd => (progB_ar h d hd).1
  unfold strictA
  rw [dif_pos ⟨h, he⟩]
  exact Classical.choose_spec he
theorem strictA_of {ds : List Df} {g : List (List Bool)} (h : progB ds = true) (hg : Great ds g) : strictA ds = g := (strictA_great h).uniq hg
theorem progB_body {ds : List Df} (h : progB ds = true) (i : Nat) (hi : i < ds.length) : ShE ds[i].2 := by
  unfold progB at h
  simp only [Bool.and_eq_true, decide_eq_true_eq, List.all_eq_true] at h
  exact ShE.of_valid (h.2 _ (List.getElem_mem hi))
theorem progB_len {ds : List Df} (h : progB ds = true) : ds.length ≤ 6 := by
  unfold progB at h
  simp only [Bool.and_eq_true, decide_eq_true_eq] at h
  exact h.1
open Classical in
/-- the answer of NeedHolds -/
noncomputable def holdsO (ds : List Df) (need : List (List Bool)) : Bool := progB ds && decide (HoldN ds need)
end Go.Proofs.Ytpkephkgaflklaa
/-
  make, OF SO MANY INTS: a new row of zeros.
-/
namespace Go.Proofs.Ytpkephkgaflklaa
set_option linter.unusedVariables false
set_option linter.unusedSimpArgs false
open Go.RowKit

theorem infoI : (Try.prog.info? 3).map (fun i => (i.zero, i.size, i.bytes)) = some (some (.int .i64 0), 1, 8) := by kernel_rfl
/-- make, of so many ints: a new row of zeros -/
theorem make_ints (n : Nat) (h : n ≤ 1048576) : ∀ w : World, (Instr.makeSlice 38 (.int .i64 (n : Int)) (.int .i64 (n : Int))).run Try.prog w = .ok (.slice (some ⟨w.heap.size, 0, none⟩) n n) (w.alloc (.cells (madeCells #[.int .i64 0] n) 3)) := by
  obtain ⟨i, hi, hzz⟩ := Option.map_eq_some_iff.1 infoI
  simp only [Prod.mk.injEq] at hzz
  obtain ⟨hz, hs, hb⟩ := hzz
  intro w
  have hr := run_make (P := Try.prog) w 38 3 i _ Try.underlying38 hi hz .i64 .i64 n n (by omega) (Int.le_refl _) (by rw [hb]; omega) (by omega)
  simp only [Int.toNat_natCast, hs, Nat.mul_one] at hr
  exact hr
theorem zero_row (w : World) (n : Nat) : (w.alloc (.cells (madeCells #[.int .i64 0] n) 3)).rowIs w.heap.size 3 n (fun i => .int .i64 (((fun _ => 0 : Nat → Nat) i : Nat) : Int)) := by
  have hl : (madeCells #[.int .i64 0] n).toList = List.replicate n (.int .i64 0) := toList_madeCells_one _ _
  have hsz : (madeCells #[.int .i64 0] n).size = n := by rw [← Array.length_toList, hl, List.length_replicate]
  refine ⟨_, Deep.blk_alloc_new _ _, hsz, fun i hi => ?_⟩
  rw [← Array.getElem?_toList, hl, List.getElem?_replicate, if_pos hi]
  rfl
end Go.Proofs.Ytpkephkgaflklaa
/-
  SLICES OF TRUTH VALUES IN MEMORY; the laws' own count, copy and comparison of them (szBoolS, toBoolS, eqBoolS).
-/
namespace Go.Proofs.Ytpkephkgaflklaa
set_option linter.unusedVariables false
set_option linter.unusedSimpArgs false
open Go.RowKit

/-- a slice value that holds these truth values, its block out of S -/
def BoolsOn (w : World) (S : Nat → Prop) (xs : List Bool) (v : Value) : Prop :=
  ∃ ad cap, v = .slice ad xs.length cap ∧ xs.length ≤ cap ∧ cap ≤ maxLen ∧ (xs = [] ∨ ∃ bl off, ad = some ⟨bl, off, none⟩ ∧ S bl ∧ ∀ i (h : i < xs.length), w.cell? ⟨bl, off + i, none⟩ = some (.bool xs[i]))
/-- .. in a row of its own, from block lo on -/
def BoolRow (w : World) (lo : Nat) (xs : List Bool) (v : Value) : Prop :=
  ∃ ad cap, v = .slice ad xs.length cap ∧ xs.length ≤ cap ∧ cap ≤ maxLen ∧ (xs = [] ∨ ∃ g f, ad = some ⟨g, 0, none⟩ ∧ lo ≤ g ∧ w.rowIs g 4 cap f ∧ ∀ i (h : i < xs.length), f i = .bool xs[i])
theorem BoolRow.on {w : World} {lo : Nat} {xs : List Bool} {v : Value} (h : BoolRow w lo xs v) : BoolsOn w (fun k => lo ≤ k ∧ k < w.heap.size) xs v := by
  obtain ⟨ad, cap, e, l1, l2, h⟩ := h
  refine ⟨ad, cap, e, l1, l2, h.imp id ?_⟩
  rintro ⟨g, f, rfl, hg, hr, hf⟩
  refine ⟨g, 0, rfl, ⟨hg, hr.lt⟩, fun i hi => ?_⟩
  rw [Nat.zero_add, hr.cell (by omega), hf i hi]
theorem BoolsOn.mono {w w' : World} {S S' : Nat → Prop} {xs : List Bool} {v : Value} (h : BoolsOn w S xs v) (hS : ∀ k, S k → S' k) (hw : ∀ k, S k → w'.heap[k]? = w.heap[k]?) : BoolsOn w' S' xs v := by
  obtain ⟨ad, cap, e, l1, l2, h⟩ := h
  refine ⟨ad, cap, e, l1, l2, h.imp id ?_⟩
  rintro ⟨bl, off, rfl, hb, hc⟩
  exact ⟨bl, off, rfl, hS _ hb, fun i hi => (World.cell?_of_block (a := ⟨bl, off + i, none⟩) (hw _ hb)).trans (hc i hi)⟩
theorem BoolRow.keep {w w' : World} {lo lo' : Nat} {xs : List Bool} {v : Value} (h : BoolRow w lo xs v) (hl : lo' ≤ lo) (hw : ∀ k, lo ≤ k → k < w.heap.size → w'.heap[k]? = w.heap[k]?) : BoolRow w' lo' xs v := by
  obtain ⟨ad, cap, e, l1, l2, h⟩ := h
  refine ⟨ad, cap, e, l1, l2, h.imp id ?_⟩
  rintro ⟨g, f, rfl, hg, hr, hf⟩
  exact ⟨g, f, rfl, by omega, hr.of_block (hw g hg hr.lt), hf⟩
theorem BoolRow.next {w w' : World} {lo : Nat} {xs : List Bool} {v : Value} (h : BoolRow w lo xs v) (hb : Below w.heap.size w w') : BoolRow w' lo xs v := h.keep (Nat.le_refl _) fun k _ hk => hb.block k hk
/-- truth values that lie in a world, wherever -/
abbrev BIn (w : World) (xs : List Bool) (v : Value) : Prop := BoolsOn w (Lt w.heap.size) xs v
theorem BoolRow.inn {w : World} {lo : Nat} {xs : List Bool} {v : Value} (h : BoolRow w lo xs v) : BIn w xs v := h.on.mono (fun k hk => hk.2) fun _ _ => rfl
theorem BoolsOn.next {w w' : World} {xs : List Bool} {v : Value} (h : BIn w xs v) (hb : Below w.heap.size w w') : BIn w' xs v :=
  h.mono (fun k (hk : k < _) => Nat.lt_of_lt_of_le hk hb.size) fun k hk => hb.block k hk
theorem BoolsOn.drew {w : World} {xs : List Bool} {v : Value} (h : BIn w xs v) : BIn w.drew xs v := h.next ((Below.refl _ _).drew)
/-- value i, opened -/
theorem BoolsOn.at {w : World} {xs : List Bool} {ad : Option Addr} {n cap : Nat} (h : BIn w xs (.slice ad n cap)) (i : Nat) (hi : i < xs.length) :
    ∃ bl off, ad = some ⟨bl, off, none⟩ ∧ bl < w.heap.size ∧ w.cell? ⟨bl, off + i, none⟩ = some (.bool xs[i]) := by
  obtain ⟨ad', cap', he, -, -, hr⟩ := h
  cases he
  rcases hr with rfl | ⟨bl, off, rfl, hb, r⟩
  · simp at hi
  exact ⟨bl, off, rfl, hb, r i hi⟩
theorem BoolRow.none (w : World) (lo : Nat) : BoolRow w lo [] (.slice none 0 0) := ⟨_, _, rfl, Nat.le_refl _, by simp [maxLen], Or.inl rfl⟩
theorem BoolRow.down {w : World} {lo lo' : Nat} {xs : List Bool} {v : Value} (h : BoolRow w lo xs v) (hl : lo' ≤ lo) : BoolRow w lo' xs v := h.keep hl fun _ _ _ => rfl
theorem BoolRow.setCell {w : World} {lo : Nat} {xs : List Bool} {v : Value} (h : BoolRow w lo xs v) {a : Addr} (ha : a.block < lo) (u : Value) : BoolRow (w.setCell a u) lo xs v :=
  h.keep (Nat.le_refl _) fun k hk _ => Below.heap_setCell _ _ _ _ (fun e => by omega)
/-- the answer: the truth values in a row of their own -/
def NewBools (xs : List Bool) (w : World) (e : Ending) (w' : World) : Prop := ∃ v, e = .returned v ∧ BoolRow w' w.heap.size xs v ∧ Below w.heap.size w w'

/-! ### The copy -/
theorem infoBx : (Try.prog.info? 4).map (fun i => (i.zero, i.size, i.bytes)) = some (some (.bool false), 1, 1) := by kernel_rfl
/-- make, of so many truth values: a new row of false -/
theorem make_boolx (n : Nat) (h : n ≤ 1048576) : ∀ w : World, (Instr.makeSlice 28 (.int .i64 (n : Int)) (.int .i64 (n : Int))).run Try.prog w = .ok (.slice (some ⟨w.heap.size, 0, none⟩) n n) (w.alloc (.cells (madeCells #[.bool false] n) 4)) := by
  obtain ⟨i, hi, hzz⟩ := Option.map_eq_some_iff.1 infoBx
  simp only [Prod.mk.injEq] at hzz
  obtain ⟨hz, hs, hb⟩ := hzz
  intro w
  have hr := run_make (P := Try.prog) w 28 4 i _ Try.underlying28 hi hz .i64 .i64 n n (by omega) (Int.le_refl _) (by rw [hb]; omega) (by omega)
  simp only [Int.toNat_natCast, hs, Nat.mul_one] at hr
  exact hr
theorem false_row (w : World) (n : Nat) : (w.alloc (.cells (madeCells #[.bool false] n) 4)).rowIs w.heap.size 4 n (fun i => .bool (((fun _ => false : Nat → Bool)) i)) := by
  have hl : (madeCells #[.bool false] n).toList = List.replicate n (.bool false) := toList_madeCells_one _ _
  have hsz : (madeCells #[.bool false] n).size = n := by rw [← Array.length_toList, hl, List.length_replicate]
  refine ⟨_, Deep.blk_alloc_new _ _, hsz, fun i hi => ?_⟩
  rw [← Array.getElem?_toList, hl, List.getElem?_replicate, if_pos hi]
/-- what holds of the copy behind k rounds -/
def ToBRel (xs : List Bool) (w : World) (k : Nat) (wr : World) : Prop :=
  ∃ f : Nat → Value, wr.rowIs w.heap.size 4 xs.length f ∧ (∀ j (_ : j < k) (hj : j < xs.length), f j = .bool xs[j]) ∧ Below w.heap.size w wr
theorem toBRel_start (xs : List Bool) (w : World) : ToBRel xs w 0 (w.alloc (.cells (madeCells #[.bool false] xs.length) 4)) :=
  ⟨_, false_row w xs.length, fun j hj => absurd hj (by omega), (Below.refl _ _).alloc (Nat.le_refl _) _⟩
theorem toBRel_step {xs : List Bool} {w wr : World} {k : Nat} (h : ToBRel xs w k wr) (hk : k < xs.length) : ToBRel xs w (k + 1) (wr.setCell ⟨w.heap.size, k, none⟩ (.bool xs[k])) := by
  obtain ⟨f, hr, ht, hb⟩ := h
  refine ⟨_, hr.set k _, fun j hj hl => ?_, hb.setCell (Nat.le_refl _) _⟩
  by_cases hjk : j = k
  · subst hjk; simp
  · simp [hjk, ht j (by omega) hl]
theorem toBRel_end {xs : List Bool} {w wr : World} (h : ToBRel xs w xs.length wr) (hl : xs.length ≤ 1048576) : NewBools xs w (.returned (.slice (some ⟨w.heap.size, 0, none⟩) xs.length xs.length)) wr := by
  obtain ⟨f, hr, ht, hb⟩ := h
  exact ⟨_, rfl, ⟨_, _, rfl, Nat.le_refl _, by unfold maxLen; omega, Or.inr ⟨_, f, rfl, Nat.le_refl _, hr, fun i hi => ht i hi hi⟩⟩, hb⟩

end Go.Proofs.Ytpkephkgaflklaa
/-
  NEEDS IN MEMORY: a slice of slices of truth values; the laws' own count, copy and comparison of them (szBoolSS, toBoolSS, eqBoolSS).
-/
namespace Go.Proofs.Ytpkephkgaflklaa
set_option linter.unusedVariables false
set_option linter.unusedSimpArgs false
open Go.RowKit

/-- a slice value that holds these rows, its blocks out of S -/
def NeedsOn (w : World) (S : Nat → Prop) (g : List (List Bool)) (v : Value) : Prop :=
  ∃ ad cap, v = .slice ad g.length cap ∧ g.length ≤ cap ∧ cap ≤ maxLen ∧ (g = [] ∨ ∃ bl off, ad = some ⟨bl, off, none⟩ ∧ S bl ∧ ∀ i (hi : i < g.length), ∃ c,
    w.cell? ⟨bl, off + i, none⟩ = some c ∧ BoolsOn w S g[i] c)
theorem NeedsOn.mono {w w' : World} {S S' : Nat → Prop} {g : List (List Bool)} {v : Value} (h : NeedsOn w S g v) (hS : ∀ k, S k → S' k) (hw : ∀ k, S k → w'.heap[k]? = w.heap[k]?) : NeedsOn w' S' g v := by
  obtain ⟨ad, cap, e, l1, l2, h5⟩ := h
  refine ⟨ad, cap, e, l1, l2, ?_⟩
  rcases h5 with h5 | ⟨bl, off, e, s, r⟩
  · exact Or.inl h5
  · refine Or.inr ⟨bl, off, e, hS _ s, fun i hi => ?_⟩
    obtain ⟨c, h1, g3⟩ := r i hi
    exact ⟨c, (World.cell?_of_block (a := ⟨bl, off + i, none⟩) (hw bl s)).trans h1, g3.mono hS hw⟩
/-- needs that lie in a world, wherever -/
abbrev NIn (w : World) (g : List (List Bool)) (v : Value) : Prop := NeedsOn w (Lt w.heap.size) g v
theorem NeedsOn.next {w w' : World} {g : List (List Bool)} {v : Value} (h : NIn w g v) (hb : Below w.heap.size w w') : NIn w' g v :=
  h.mono (fun k (hk : k < w.heap.size) => Nat.lt_of_lt_of_le hk hb.size) (fun k hk => hb.block k hk)
theorem NeedsOn.drew {w : World} {g : List (List Bool)} {v : Value} (h : NIn w g v) : NIn w.drew g v := h.next ((Below.refl _ _).drew)
/-- row i, opened -/
theorem NeedsOn.at {w : World} {g : List (List Bool)} {ad : Option Addr} {n cap : Nat} (h : NIn w g (.slice ad n cap)) (i : Nat) (hi : i < g.length) :
    ∃ bl off c, ad = some ⟨bl, off, none⟩ ∧ bl < w.heap.size ∧ w.cell? ⟨bl, off + i, none⟩ = some c ∧ BIn w g[i] c := by
  obtain ⟨ad', cap', he, -, -, hr⟩ := h
  cases he
  rcases hr with rfl | ⟨bl, off, rfl, hb, r⟩
  · simp at hi
  obtain ⟨c, h1, h4⟩ := r i hi
  exact ⟨bl, off, c, rfl, hb, h1, h4⟩

/-! ### The count -/
/-- the values of the first rows -/
def sumB (l : List (List Bool)) : Nat := (l.map (·.length)).sum
theorem sumB_append (a b : List (List Bool)) : sumB (a ++ b) = sumB a + sumB b := by simp [sumB]
theorem sumB_take_succ (l : List (List Bool)) (i : Nat) (h : i < l.length) : sumB (l.take (i + 1)) = sumB (l.take i) + l[i].length := by
  rw [List.take_succ_eq_append_getElem h, sumB_append]; simp [sumB]
theorem sumB_take_le (l : List (List Bool)) (i : Nat) : sumB (l.take i) ≤ sumB l := by
  conv => rhs; rw [← List.take_append_drop i l, sumB_append]
  omega
theorem row_le_sumB (l : List (List Bool)) (i : Nat) (h : i < l.length) : l[i].length ≤ sumB l := by
  have := sumB_take_succ l i h
  have := sumB_take_le l (i + 1)
  omega
/-- what the law's own count leaves of a budget -/
def szN (g : List (List Bool)) (left : Int) : Int := if (g.length : Int) + sumB g ≤ left then left - (g.length + sumB g) else -1
theorem szN_range (g : List (List Bool)) (left : Int) (h : 0 ≤ left) : -1 ≤ szN g left ∧ szN g left ≤ left := by unfold szN; split <;> omega
def szNAt (g : List (List Bool)) (left : Int) (k : Nat) : Int := left - g.length - sumB (g.take k)
theorem szN_kid (g : List (List Bool)) (left : Int) (k : Nat) (hk : k < g.length) (h : (g[k].length : Int) ≤ szNAt g left k) : szNAt g left k - g[k].length = szNAt g left (k + 1) := by
  have e := sumB_take_succ g k hk
  unfold szNAt; rw [e]; omega
theorem szN_neg (g : List (List Bool)) (left : Int) (k : Nat) (hk : k < g.length) (h : ¬ (g[k].length : Int) ≤ szNAt g left k) : szN g left = -1 := by
  have e := sumB_take_succ g k hk
  have e2 := sumB_take_le g (k + 1)
  unfold szN; rw [if_neg]; unfold szNAt at h; omega
theorem szN_end (g : List (List Bool)) (left : Int) (h : 0 ≤ szNAt g left g.length) : szN g left = szNAt g left g.length := by
  unfold szNAt at h ⊢; rw [List.take_length] at h ⊢; unfold szN; rw [if_pos (by omega)]; omega

/-! ### The copy -/
/-- a slice value that holds these rows in a row of its own, the rows in such too, from block lo on -/
def NeedRow (w : World) (lo : Nat) (g : List (List Bool)) (v : Value) : Prop :=
  ∃ ad cap, v = .slice ad g.length cap ∧ g.length ≤ cap ∧ cap ≤ maxLen ∧ (g = [] ∨ ∃ b f, ad = some ⟨b, 0, none⟩ ∧ lo ≤ b ∧ w.rowIs b 28 cap f ∧ ∀ i (h : i < g.length), BoolRow w lo g[i] (f i))
theorem NeedRow.inn {w : World} {lo : Nat} {g : List (List Bool)} {v : Value} (h : NeedRow w lo g v) : NIn w g v := by
  obtain ⟨ad, cap, e, l1, l2, h⟩ := h
  refine ⟨ad, cap, e, l1, l2, h.imp id ?_⟩
  rintro ⟨b, f, rfl, hg, hr, hf⟩
  refine ⟨b, 0, rfl, hr.lt, fun i hi => ?_⟩
  refine ⟨_, ?_, (hf i hi).inn⟩
  rw [Nat.zero_add, hr.cell (by omega)]
theorem NeedRow.keep {w w' : World} {lo lo' : Nat} {g : List (List Bool)} {v : Value} (h : NeedRow w lo g v) (hl : lo' ≤ lo) (hw : ∀ k, lo ≤ k → k < w.heap.size → w'.heap[k]? = w.heap[k]?) : NeedRow w' lo' g v := by
  obtain ⟨ad, cap, e, l1, l2, h⟩ := h
  refine ⟨ad, cap, e, l1, l2, h.imp id ?_⟩
  rintro ⟨b, f, rfl, hg, hr, hf⟩
  exact ⟨b, f, rfl, by omega, hr.of_block (hw b hg hr.lt), fun i hi => (hf i hi).keep hl hw⟩
theorem NeedRow.next {w w' : World} {lo : Nat} {g : List (List Bool)} {v : Value} (h : NeedRow w lo g v) (hb : Below w.heap.size w w') : NeedRow w' lo g v := h.keep (Nat.le_refl _) fun k _ hk => hb.block k hk
theorem NeedRow.none (w : World) (lo : Nat) : NeedRow w lo [] (.slice none 0 0) := ⟨_, _, rfl, Nat.le_refl _, by simp [maxLen], Or.inl rfl⟩
def NewNeeds (g : List (List Bool)) (w : World) (e : Ending) (w' : World) : Prop := ∃ v, e = .returned v ∧ NeedRow w' w.heap.size g v ∧ Below w.heap.size w w'

theorem infoBB : (Try.prog.info? 28).map (fun i => (i.zero, i.size, i.bytes)) = some (some (.slice none 0 0), 1, 24) := by kernel_rfl
theorem make_needs (n : Nat) (h : n ≤ 1048576) : ∃ C : Array Value, C.size = n ∧ (∀ i, i < n → C[i]? = some (.slice none 0 0)) ∧ ∀ w : World, (Instr.makeSlice 24 (.int .i64 (n : Int)) (.int .i64 (n : Int))).run Try.prog w = .ok (.slice (some ⟨w.heap.size, 0, none⟩) n n) (w.alloc (.cells C 28)) := by
  obtain ⟨i, hi, hzz⟩ := Option.map_eq_some_iff.1 infoBB
  simp only [Prod.mk.injEq] at hzz
  obtain ⟨hz, hs, hb⟩ := hzz
  have hl : (madeCells #[.slice none 0 0] n).toList = List.replicate n (.slice none 0 0) := toList_madeCells_one _ _
  refine ⟨madeCells #[.slice none 0 0] n, by rw [← Array.length_toList, hl, List.length_replicate], fun i hi => by rw [← Array.getElem?_toList, hl, List.getElem?_replicate, if_pos hi], fun w => ?_⟩
  have hr := run_make (P := Try.prog) w 24 28 i _ Try.underlying24 hi hz .i64 .i64 n n (by omega) (Int.le_refl _) (by rw [hb]; omega) (by omega)
  simp only [Int.toNat_natCast, hs, Nat.mul_one] at hr
  exact hr

/-- what holds of the copy behind k rounds -/
def ToNRel (g : List (List Bool)) (w : World) (k : Nat) (wr : World) : Prop :=
  ∃ f : Nat → Value, wr.rowIs w.heap.size 28 g.length f ∧ (∀ j (_ : j < k) (hj : j < g.length), BoolRow wr (w.heap.size + 1) g[j] (f j)) ∧ Below w.heap.size w wr
theorem toNRel_start (g : List (List Bool)) (w : World) (C : Array Value) (h : C.size = g.length) : ToNRel g w 0 (w.alloc (.cells C 28)) := by
  refine ⟨fun i => C.getD i undef, ⟨C, Deep.blk_alloc_new _ _, h, fun i hi => ?_⟩, fun j hj => absurd hj (by omega), (Below.refl _ _).alloc (Nat.le_refl _) _⟩
  simp [Array.getElem?_eq_getElem (h ▸ hi : i < C.size), Array.getD, (h ▸ hi : i < C.size)]
theorem toNRel_step (g : List (List Bool)) (w wr w1 : World) (k : Nat) (hk : k < g.length) (h : ToNRel g w k wr) (v : Value) (hb : Below wr.heap.size wr w1) (hv : BoolRow w1 wr.heap.size g[k] v) :
    ToNRel g w (k + 1) (w1.setCell ⟨w.heap.size, k, none⟩ v) := by
  obtain ⟨f, hr, ht, hbw⟩ := h
  have hlt := hr.lt
  have hr1 : w1.rowIs w.heap.size 28 g.length f := hr.of_block (hb.block _ hlt)
  have hsz := hb.size
  refine ⟨_, hr1.set k _, fun j hj hjl => ?_, (hbw.trans (hb.mono (Nat.le_of_lt hlt))).setCell (by simp) _⟩
  by_cases hjk : j = k
  · subst hjk
    have h1 : BoolRow w1 (w.heap.size + 1) g[j] v := hv.down (by omega)
    simpa using h1.setCell (a := ⟨w.heap.size, j, none⟩) (by simp) v
  · have h1 : BoolRow w1 (w.heap.size + 1) g[j] (f j) := (ht j (by omega) hjl).next hb
    simp only [if_neg hjk]
    exact h1.setCell (by simp) v
theorem toNRel_end (g : List (List Bool)) (w wr : World) (h : ToNRel g w g.length wr) (hl : g.length ≤ 1048576) : NewNeeds g w (.returned (.slice (some ⟨w.heap.size, 0, none⟩) g.length g.length)) wr := by
  obtain ⟨f, hr, ht, hbw⟩ := h
  exact ⟨_, rfl, ⟨_, _, rfl, Nat.le_refl _, by unfold maxLen; omega, Or.inr ⟨_, f, rfl, Nat.le_refl _, hr, fun i hi => (ht i hi hi).down (by omega)⟩⟩, hbw⟩

end Go.Proofs.Ytpkephkgaflklaa
/-
  THE MODEL's l2Args: the function of nested applications, and its arguments in order; nothing that was there is changed.
-/
namespace Go.Proofs.Ytpkephkgaflklaa
set_option linter.unusedVariables false
set_option linter.unusedSimpArgs false
open Go.RowKit

/-- what holds on the way down -/
def ARel (w : World) (a : Tr) (c : Value) (v : Value) (wr : World) : Prop :=
  ∃ (t : Tr) (ct : Value) (l : List Cd), Unw w a c t ct l ∧ wr.rowIs w.heap.size 31 3 (boxF t.op t.num ct) ∧ wr.rowIs (w.heap.size + 1) 31 3 (boxF 0 0 (.slice none 0 0)) ∧
    wr.ownsRow (w.heap.size + 2) 31 3 v l.length (cdCells l.reverse) ∧ (∃ g cap, v = .slice (some ⟨g, 0, none⟩) l.length cap) ∧ Below w.heap.size w wr

theorem cdCells_length (l : List Cd) : (cdCells l).length = l.length * 3 := by
  induction l with
  | nil => rfl
  | cons d l ih =>
    show ([d.2.1, d.2.2.1, d.2.2.2] ++ cdCells l).length = _
    rw [List.length_append, ih]
    simp
    omega
theorem own_cells {w : World} {base n size g cap : Nat} {e : TypeId} {xs : List Value} (h : w.ownsRow base e size (.slice (some ⟨g, 0, none⟩) n cap) n xs) (j : Nat) (u : Value) (hu : xs[j]? = some u) : w.cell? ((⟨g, 0, none⟩ : Addr).add j) = some u := by
  rw [WideShapes.add_plain, Nat.zero_add]
  rcases h.2 with ⟨h, -⟩ | ⟨g', cap', cur, e, hg, hh, hn, hc, hs, htk⟩
  · cases h
  · cases e
    have hlt : j < n * size := by
      have := (List.getElem?_eq_some_iff.1 hu).1
      rw [h.1] at this
      exact this
    rw [← htk, List.getElem?_take_of_lt hlt, Array.getElem?_toList] at hu
    simp only [World.cell?, hh]
    exact hu

set_option maxRecDepth 100000 in
set_option maxHeartbeats 800000 in
theorem l2Args_calls (a : Tr) (c : Value) (w : World) (hk : In w a.kids c) (ha : I64 a.op ∧ I64 a.num) (hz : szT a ≤ 1099511627776) :
    Calls Try.prog 68 #[.agg #[.int .i64 a.op, .int .i64 a.num, c]] w fun e w' => ∃ (t : Tr) (ct : Value) (l : List Cd) (v : Value), e = .returned (.tuple #[.agg #[.int .i64 t.op, .int .i64 t.num, ct], v]) ∧ Unw w a c t ct l ∧ ¬ (t.op = 4 ∧ t.kids.length = 2) ∧ CdRow w' w.heap.size l.reverse v ∧ Below w.heap.size w w' := by
  have HK : Hid (In w a.kids c) := hk
  have HA : Hid (I64 a.op ∧ I64 a.num) := ha
  obtain ⟨ad, cap, rfl, -, -, -⟩ := hk
  clear ha
  go_enter Try.func68, Try.ntmps68
  go_wp2_with fail
  obtain ⟨iE, zE, hiE, hzE, hsE, hbE, hcE⟩ := infoE3
  have HE : Hid (Try.prog.info? 31 = some iE ∧ iE.zero = some zE ∧ iE.size = 3 ∧ iE.bytes = 40 ∧ zE.cells.size = 3) := ⟨hiE, hzE, hsE, hbE, hcE⟩
  clear hiE hzE hsE hbE hcE
  go_loopw [4] (fun v wr => ARel w a (.slice ad a.kids.length cap) v wr) (fun v _ => szT a - slLen v)
  case atStart =>
    refine ⟨a, _, [], Unw.here, ?_, ?_, ?_, ⟨_, _, rfl⟩, ?_⟩
    · exact ((World.rowIs_alloc w #[.int .i64 a.op, .int .i64 a.num, .slice ad a.kids.length cap] 31 (boxF a.op a.num (.slice ad a.kids.length cap)) (box3 _ _ _)).alloc _).alloc _
    · have h := World.rowIs_alloc (w.alloc (.cells #[.int .i64 a.op, .int .i64 a.num, .slice ad a.kids.length cap] 31)) #[.int .i64 0, .int .i64 0, .slice none 0 0] 31 (boxF 0 0 (.slice none 0 0)) (box3 _ _ _)
      rw [Deep.nblk_alloc] at h
      exact h.alloc _
    · have h := Deep.blk_alloc_new ((w.alloc (.cells #[.int .i64 a.op, .int .i64 a.num, .slice ad a.kids.length cap] 31)).alloc (.cells #[.int .i64 0, .int .i64 0, .slice none 0 0] 31)) (.cells #[] 31)
      rw [Deep.nblk_alloc, Deep.nblk_alloc] at h
      exact ⟨rfl, Or.inr ⟨_, 0, #[], rfl, Nat.le_refl _, h, Nat.le_refl _, by unfold maxLen; omega, rfl, rfl⟩⟩
    · exact (((Below.refl _ _).alloc (Nat.le_refl _) _).alloc (by simp) _).alloc (by simp; omega) _
  case round =>
    obtain ⟨t, ct, l, hu, hbox, hres, hown, ⟨g, capg, rfl⟩, hb⟩ := hrel
    have HRs : Hid (wr.rowIs (w.heap.size + 1) 31 3 (boxF 0 0 (.slice none 0 0))) := hres
    have HU : Hid (Unw w a (.slice ad a.kids.length cap) t ct l) := hu
    have HBx : Hid (wr.rowIs w.heap.size 31 3 (boxF t.op t.num ct)) := hbox
    have HB : Hid (Below w.heap.size w wr) := hb
    have HO : Hid (wr.ownsRow (w.heap.size + 2) 31 3 (.slice (some ⟨g, 0, none⟩) l.length capg) l.length (cdCells l.reverse)) := hown
    obtain ⟨hkt, hot, hnt, hlt, hsz⟩ := hu.on HK.out HA.out
    have c0 := hbox.cell (i := 0) (by omega)
    have c1 := hbox.cell (i := 1) (by omega)
    have c2 := hbox.cell (i := 2) (by omega)
    simp only [boxF, if_pos, if_neg, show (1 : Nat) ≠ 0 from by omega, show (2 : Nat) ≠ 0 from by omega, show (2 : Nat) ≠ 1 from by omega] at c0 c1 c2
    have fz := hbox.frozen
    have hlo : w.heap.size + 2 ≤ wr.heap.size := by
      have := hres.lt; omega
    clear hu hbox hb hown hres
    obtain ⟨act, capt, rfl, hl1, hl2, -⟩ := id hkt
    unfold maxLen at hl2
    have hgl : Hid (w.heap.size + 2 ≤ g) := own_block HO.out rfl
    have hfm : Hid (∀ u ∈ cdCells l.reverse, u.oneCell' = true) := by
      intro u hu
      simp only [cdCells, List.mem_flatMap, List.mem_reverse] at hu
      obtain ⟨d, hd, hu⟩ := hu
      obtain ⟨e1, e2, -, -, ad', c', e3, -⟩ := trOn_iff.1 (hlt d hd)
      simp only [List.mem_cons, List.not_mem_nil, or_false] at hu
      rcases hu with rfl | rfl | rfl
      · rw [e1]; rfl
      · rw [e2]; rfl
      · rw [e3]; rfl
    clear hlt
    by_cases ho : t.op = 4
    · by_cases hlen : t.kids.length = 2
      · obtain ⟨f, x, hkk⟩ : ∃ f x, t.kids = [f, x] := by
          match hks : t.kids, hlen with
          | [f, x], _ => exact ⟨f, x, rfl⟩
        have HT : Hid (t.op = 4 ∧ t.kids = [f, x]) := ⟨ho, hkk⟩
        rw [hkk] at hkt
        obtain ⟨bl, off, cap', p, q, cf, u, v, r, e, -, -, hS, hrow, h0, h1, h2, h3, g0, g1, g2, g3⟩ := hkt.two
        simp only [Value.slice.injEq] at e
        obtain ⟨rfl, -, rfl⟩ := e
        obtain ⟨rfl, rfl, hfo, hfn, hkf⟩ := trOn_iff.1 h3
        obtain ⟨rfl, rfl, hxo, hxn, hkx⟩ := trOn_iff.1 g3
        obtain ⟨adf, capf, rfl, -, -, -⟩ := id hkf
        obtain ⟨adx, capx, rfl, -, -, -⟩ := id hkx
        have hSl : bl < w.heap.size := hS
        have b0 := (HB.out.cell (p := ⟨bl, off, none⟩) hSl).trans h0
        have b1 := (HB.out.cell (p := ⟨bl, off + 1, none⟩) hSl).trans h1
        have b2 := (HB.out.cell (p := ⟨bl, off + 2, none⟩) hSl).trans h2
        have b3 := (HB.out.cell (p := ⟨bl, off + 3, none⟩) hSl).trans g0
        have b4 := (HB.out.cell (p := ⟨bl, off + 4, none⟩) hSl).trans g1
        have b5 := (HB.out.cell (p := ⟨bl, off + 5, none⟩) hSl).trans g2
        have HBx2 : Hid (wr.rowIs w.heap.size 31 3 (boxF t.op t.num (.slice (some ⟨bl, off, none⟩) 2 capt))) := by have := HBx.out; rw [hlen] at this; exact this
        rw [ho] at c0
        rw [hlen] at c2
        have HN : Hid (Unw w a (.slice ad a.kids.length cap) f (.slice adf f.kids.length capf) (l ++ [(x, .int .i64 x.op, .int .i64 x.num, .slice adx x.kids.length capx)])) := by
          have h := HU.out
          rw [hlen] at h
          exact Unw.down h ho hkk rfl h2 g0 g1 g2
        have hsn := (HN.out.on HK.out HA.out).2.2.2.2
        simp only [List.length_append, List.length_cons, List.length_nil] at hsn
        clear hkt hrow h0 h1 h2 h3 g0 g1 g2 g3 ho hlen hkk
        have hlit : ∀ W : World, w.heap.size + 2 ≤ W.heap.size → (W.alloc (.cells #[.int .i64 x.op, .int .i64 x.num, .slice adx x.kids.length capx] 31)).ownsRow (w.heap.size + 2) 31 3 (.slice (some ⟨W.heap.size, 0, none⟩) 1 1) 1 [.int .i64 x.op, .int .i64 x.num, .slice adx x.kids.length capx] := fun W hW =>
          ⟨rfl, Or.inr ⟨_, 1, _, rfl, hW, Deep.blk_alloc_new _ _, Nat.le_refl _, by unfold maxLen; omega, rfl, rfl⟩⟩
        have HL : Hid _ := hlit
        clear hlit
        go_wp2_with (first
          | (at_builtin; refine wpList_append_own _ rfl _ _ 29 rfl (w.heap.size + 2) 31 iE zE 3 40 Try.underlying29 HE.out.1 HE.out.2.1 HE.out.2.2.1 HE.out.2.2.2.1 HE.out.2.2.2.2 (by decide) _ _ _ rfl (HL.out wr hlo) ⟨g, 0, none⟩ l.length capg (cdCells l.reverse) rfl (by rw [cdCells_length, List.length_reverse]) (fun j u hu => old_cell (own_cells HO.out j u hu) _) hfm.out (by unfold maxLen; omega) (by omega) (by rw [Deep.nblk_alloc]; omega) ?_; intro v' w3 hown' hgrow hnil; have hXX : ∀ k, k < wr.heap.size → w3.heap[k]? = wr.heap[k]? := (fun k hk => (hgrow.block k (by rw [Deep.nblk_alloc]; omega) (fun e => by have e' : k = wr.heap.size := Option.some.inj e; omega)).trans (Deep.blk_alloc_lt _ _ k hk)); have HO3 : Hid (w3.ownsRow (w.heap.size + 2) 31 3 v' (1 + l.length) ([.int .i64 x.op, .int .i64 x.num, .slice adx x.kids.length capx] ++ cdCells l.reverse)) := hown'; have HX3 : Hid (w3.rowIs w.heap.size 31 3 (boxF t.op t.num (.slice (some ⟨bl, off, none⟩) 2 capt))) := HBx2.out.of_block (hXX _ (by omega)); have HRs3 : Hid (w3.rowIs (w.heap.size + 1) 31 3 (boxF 0 0 (.slice none 0 0))) := HRs.out.of_block (hXX _ (by omega)); have hsz3 : wr.heap.size ≤ w3.heap.size := (by have := hgrow.size; rw [Deep.nblk_alloc] at this; omega); have HB3 : Hid (Below w.heap.size w w3) := (by have hb1 := HB.out; exact ⟨by rw [hgrow.os]; exact hb1.os, by rw [hgrow.tape]; exact hb1.tape, by rw [hgrow.output]; exact hb1.output, Nat.le_trans hb1.size hsz3, fun k hk => (hXX k (by omega)).trans (hb1.block k hk)⟩); have d0 := (World.cell?_of_block (a := ⟨bl, off, none⟩) (hXX _ (by show bl < _; omega))).trans b0; have d1 := (World.cell?_of_block (a := ⟨bl, off + 1, none⟩) (hXX _ (by show bl < _; omega))).trans b1; have d2 := (World.cell?_of_block (a := ⟨bl, off + 2, none⟩) (hXX _ (by show bl < _; omega))).trans b2; have e0 := HX3.out.cell (i := 0) (by omega); have e1 := HX3.out.cell (i := 1) (by omega); have e2 := HX3.out.cell (i := 2) (by omega); simp only [boxF, if_pos, if_neg, show (1 : Nat) ≠ 0 from by omega, show (2 : Nat) ≠ 0 from by omega, show (2 : Nat) ≠ 1 from by omega] at e0 e1 e2; have ef := HX3.out.frozen; clear hXX hown' hgrow hnil c0 c1 c2 b0 b1 b2 b3 b4 b5 fz)
          | go_in)
        have keep : ∀ k, k ≠ w.heap.size → (((w3.setCell ⟨w.heap.size, 0, none⟩ (.int .i64 f.op)).setCell ⟨w.heap.size, 1, none⟩ (.int .i64 f.num)).setCell ⟨w.heap.size, 2, none⟩ (.slice adf f.kids.length capf)).heap[k]? = w3.heap[k]? := fun k hk =>
          ((Below.heap_setCell _ _ _ _ hk).trans (Below.heap_setCell _ _ _ _ hk)).trans (Below.heap_setCell _ _ _ _ hk)
        have hsv : ∃ g c, v' = .slice (some ⟨g, 0, none⟩) (l.length + 1) c := by
          rcases HO3.out.2 with ⟨-, h⟩ | ⟨g, c, cur, rfl, -⟩
          · omega
          · exact ⟨g, c, by rw [Nat.add_comm]⟩
        obtain ⟨g', c', rfl⟩ := hsv
        refine ⟨⟨f, _, _, HN.out, ?_, HRs3.out.of_block (keep _ (by omega)), ?_, ⟨g', c', by simp⟩, ?_⟩, by simp [slLen]; omega⟩
        · refine (((HX3.out.set 0 _).set 1 _).set 2 _).congr fun i hi => ?_
          rcases (by omega : i = 0 ∨ i = 1 ∨ i = 2) with rfl | rfl | rfl <;> simp [boxF]
        · have h := own_keep HO3.out (fun k hk _ => keep k (by omega))
          rw [Nat.add_comm 1 l.length] at h
          simpa [cdCells] using h
        · exact ((HB3.out.setCell (by simp) _).setCell (by simp) _).setCell (by simp) _
      · have hstop : Hid (¬ (t.op = 4 ∧ t.kids.length = 2)) := fun h => hlen h.2
        have t2 : ((t.kids.length : Int) == 2) = false := by simp; omega
        rw [ho] at c0
        have r0 := HRs.out.cell (i := 0) (by omega)
        have r1 := HRs.out.cell (i := 1) (by omega)
        have r2 := HRs.out.cell (i := 2) (by omega)
        simp only [boxF, if_pos, if_neg, show (1 : Nat) ≠ 0 from by omega, show (2 : Nat) ≠ 0 from by omega, show (2 : Nat) ≠ 1 from by omega] at r0 r1 r2
        have rf := HRs.out.frozen
        go_wp2_with fail
        refine bodyPost_ret (v := .tuple #[.agg #[.int .i64 4, .int .i64 t.num, .slice act t.kids.length capt], .slice (some ⟨g, 0, none⟩) l.length capg]) (by simp [results, Try.results68, go_sem, r0, r1, r2, rf]) rfl ⟨t, _, l, _, by rw [ho], HU.out, hstop.out, ?_, ?_⟩
        · exact CdRow.keep (lo := w.heap.size + 2) (own_cd (by rw [List.length_reverse]; exact HO.out)) (by omega) fun k hk _ => ((Below.heap_setCell _ _ _ _ (by show k ≠ w.heap.size + 1; omega)).trans (Below.heap_setCell _ _ _ _ (by show k ≠ w.heap.size + 1; omega))).trans (Below.heap_setCell _ _ _ _ (by show k ≠ w.heap.size + 1; omega))
        · exact ((HB.out.setCell (by simp) _).setCell (by simp) _).setCell (by simp) _
    · have hstop : Hid (¬ (t.op = 4 ∧ t.kids.length = 2)) := fun h => ho h.1
      have t1 : (t.op == 4) = false := by simpa using ho
      have r0 := HRs.out.cell (i := 0) (by omega)
      have r1 := HRs.out.cell (i := 1) (by omega)
      have r2 := HRs.out.cell (i := 2) (by omega)
      simp only [boxF, if_pos, if_neg, show (1 : Nat) ≠ 0 from by omega, show (2 : Nat) ≠ 0 from by omega, show (2 : Nat) ≠ 1 from by omega] at r0 r1 r2
      have rf := HRs.out.frozen
      go_wp2_with fail
      refine bodyPost_ret (v := .tuple #[.agg #[.int .i64 t.op, .int .i64 t.num, .slice act t.kids.length capt], .slice (some ⟨g, 0, none⟩) l.length capg]) (by simp [results, Try.results68, go_sem, r0, r1, r2, rf]) rfl ⟨t, _, l, _, rfl, HU.out, hstop.out, ?_, ?_⟩
      · exact CdRow.keep (lo := w.heap.size + 2) (own_cd (by rw [List.length_reverse]; exact HO.out)) (by omega) fun k hk _ => ((Below.heap_setCell _ _ _ _ (by show k ≠ w.heap.size + 1; omega)).trans (Below.heap_setCell _ _ _ _ (by show k ≠ w.heap.size + 1; omega))).trans (Below.heap_setCell _ _ _ _ (by show k ≠ w.heap.size + 1; omega))
      · exact ((HB.out.setCell (by simp) _).setCell (by simp) _).setCell (by simp) _
end Go.Proofs.Ytpkephkgaflklaa
/-
  NEEDS IN ROWS OF THEIR OWN: a list that grows by append, its rows in blocks that are all distinct.
-/
namespace Go.Proofs.Ytpkephkgaflklaa
set_option linter.unusedVariables false
set_option linter.unusedSimpArgs false
open Go.RowKit

/-- the truth values of a row, in the first cells of a block -/
def RowAt (w : World) (b cap : Nat) (r : List Bool) : Prop := r.length ≤ cap ∧ cap ≤ maxLen ∧ ∃ f, w.rowIs b 4 cap f ∧ ∀ j (h : j < r.length), f j = .bool r[j]
theorem RowAt.blk {w w' : World} {b cap : Nat} {r : List Bool} (h : RowAt w b cap r) (hk : w'.heap[b]? = w.heap[b]?) : RowAt w' b cap r := by
  obtain ⟨h1, h2, f, hr, hf⟩ := h
  exact ⟨h1, h2, f, hr.of_block hk, hf⟩
theorem RowAt.lt {w : World} {b cap : Nat} {r : List Bool} (h : RowAt w b cap r) : b < w.heap.size := by obtain ⟨-, -, f, hr, -⟩ := h; exact hr.lt
theorem RowAt.row {w : World} {b cap lo : Nat} {r : List Bool} (h : RowAt w b cap r) (hl : lo ≤ b) : BoolRow w lo r (.slice (some ⟨b, 0, none⟩) r.length cap) := by
  obtain ⟨h1, h2, f, hr, hf⟩ := h
  exact ⟨_, _, rfl, h1, h2, Or.inr ⟨b, f, rfl, hl, hr, hf⟩⟩
theorem RowAt.set {w : World} {b cap : Nat} {r : List Bool} (h : RowAt w b cap r) (v : Nat) (x : Bool) : RowAt (w.setCell ⟨b, v, none⟩ (.bool x)) b cap (r.set v x) := by
  obtain ⟨h1, h2, f, hr, hf⟩ := h
  refine ⟨by rw [List.length_set]; exact h1, h2, _, hr.set v _, fun j hj => ?_⟩
  rw [List.length_set] at hj
  by_cases e : j = v
  · subst e; simp
  · simp only [if_neg e, hf j hj]
    rw [List.getElem_set_ne (fun h => e h.symm)]
theorem RowAt.no {w : World} {b cap : Nat} {r : List Bool} (h : RowAt w b cap r) {C : Array Value} {q : Nat × Nat} (hh : w.heap[b]? = some (.cells C 28 q)) : False := by
  obtain ⟨-, -, f, ⟨c, hc, -⟩, -⟩ := h
  rw [hc] at hh
  simp at hh
/-- the cells of the list -/
def cellsN (g : List (List Bool)) (bs : List (Nat × Nat)) : List Value := (g.zip bs).map fun p => .slice (some ⟨p.2.1, 0, none⟩) p.1.length p.2.2
/-- a list in a row of its own, its rows in blocks of their own -/
def NOwn (w : World) (lo : Nat) (g : List (List Bool)) (v : Value) : Prop :=
  ∃ bs : List (Nat × Nat), bs.length = g.length ∧ (bs.map (·.1)).Nodup ∧ w.ownsRow lo 28 1 v g.length (cellsN g bs) ∧ ∀ i (h1 : i < g.length) (h2 : i < bs.length), lo ≤ bs[i].1 ∧ RowAt w bs[i].1 bs[i].2 g[i]
theorem cellsN_at {g : List (List Bool)} {bs : List (Nat × Nat)} (i : Nat) (h1 : i < g.length) (h2 : i < bs.length) : (cellsN g bs)[i]? = some (.slice (some ⟨bs[i].1, 0, none⟩) g[i].length bs[i].2) := by
  unfold cellsN
  rw [List.getElem?_map, List.getElem?_eq_getElem (by simp; omega)]
  simp
theorem NOwn.nil (w : World) (lo : Nat) : NOwn w lo [] (.slice none 0 0) := ⟨[], rfl, by simp, ⟨rfl, Or.inl ⟨rfl, rfl⟩⟩, fun i h => by simp at h⟩
theorem NOwn.nil_of {w : World} {lo : Nat} {v : Value} (h : w.ownsRow lo 28 1 v 0 []) : NOwn w lo [] v := ⟨[], rfl, by simp, h, fun i h => by simp at h⟩
theorem NOwn.keep {w w' : World} {lo : Nat} {g : List (List Bool)} {v : Value} (h : NOwn w lo g v) (hk : ∀ k, lo ≤ k → k < w.heap.size → w'.heap[k]? = w.heap[k]?) : NOwn w' lo g v := by
  obtain ⟨bs, h1, h2, h3, h4⟩ := h
  exact ⟨bs, h1, h2, own_keep h3 hk, fun i a b => ⟨(h4 i a b).1, (h4 i a b).2.blk (hk _ (h4 i a b).1 (h4 i a b).2.lt)⟩⟩
theorem NOwn.next {w w' : World} {lo : Nat} {g : List (List Bool)} {v : Value} (h : NOwn w lo g v) (hb : Below w.heap.size w w') : NOwn w' lo g v := h.keep fun k _ hk => hb.block k hk
theorem NOwn.down {w : World} {lo lo' : Nat} {g : List (List Bool)} {v : Value} (h : NOwn w lo g v) (hl : lo' ≤ lo) : NOwn w lo' g v := by
  obtain ⟨bs, h1, h2, h3, h4⟩ := h
  refine ⟨bs, h1, h2, ⟨h3.1, ?_⟩, fun i a b => ⟨Nat.le_trans hl (h4 i a b).1, (h4 i a b).2⟩⟩
  rcases h3.2 with h | ⟨b, cap, cur, e, hb, r⟩
  · exact Or.inl h
  · exact Or.inr ⟨b, cap, cur, e, Nat.le_trans hl hb, r⟩
theorem NOwn.form {w : World} {lo : Nat} {g : List (List Bool)} {v : Value} (h : NOwn w lo g v) : ∃ ad cap, v = .slice ad g.length cap ∧ g.length ≤ cap ∧ cap ≤ maxLen := by
  obtain ⟨bs, -, -, h3, -⟩ := h
  rcases h3.2 with ⟨rfl, h⟩ | ⟨b, cap, cur, rfl, -, -, hn, hc, -⟩
  · exact ⟨_, _, by rw [h], by omega, by simp [maxLen]⟩
  · exact ⟨_, _, rfl, hn, hc⟩
/-- it can be read -/
theorem NOwn.nin {w : World} {lo : Nat} {g : List (List Bool)} {v : Value} (h : NOwn w lo g v) : NIn w g v := by
  obtain ⟨bs, h1, h2, h3, h4⟩ := h
  rcases h3.2 with ⟨rfl, h⟩ | ⟨b, cap, cur, rfl, hb, hh, hn, hc, hs, ht⟩
  · exact ⟨_, _, by rw [h], by omega, by simp [maxLen], Or.inl (List.eq_nil_of_length_eq_zero h)⟩
  · refine ⟨_, _, rfl, hn, hc, Or.inr ⟨b, 0, rfl, (Array.getElem?_eq_some_iff.1 hh).1, fun i hi => ?_⟩⟩
    have hi2 : i < bs.length := by omega
    refine ⟨_, ?_, ((h4 i hi hi2).2.row (h4 i hi hi2).1).inn⟩
    have := own_cells (w := w) (base := lo) (n := g.length) (size := 1) (g := b) (cap := cap) h3 i _ (cellsN_at i hi hi2)
    rw [WideShapes.add_plain] at this
    exact this
/-- a row, opened for a store -/
theorem NOwn.at {w : World} {lo : Nat} {g : List (List Bool)} {ad : Option Addr} {n cap : Nat} (h : NOwn w lo g (.slice ad n cap)) (i : Nat) (hi : i < g.length) :
    ∃ b rb rc, ad = some ⟨b, 0, none⟩ ∧ b < w.heap.size ∧ lo ≤ rb ∧ w.cell? ⟨b, i, none⟩ = some (.slice (some ⟨rb, 0, none⟩) g[i].length rc) ∧ RowAt w rb rc g[i] ∧
      ∀ (v : Nat) (x : Bool), NOwn (w.setCell ⟨rb, v, none⟩ (.bool x)) lo (g.set i (g[i].set v x)) (.slice ad n cap) := by
  obtain ⟨bs, h1, h2, h3, h4⟩ := h
  have hi2 : i < bs.length := by omega
  rcases id h3.2 with ⟨e, h⟩ | ⟨b, cap', cur, e, hb, hh, hn, hc, hs, ht⟩
  · omega
  simp only [Value.slice.injEq] at e
  obtain ⟨rfl, rfl, rfl⟩ := e
  have hc0 := own_cells h3 i _ (cellsN_at i hi hi2)
  rw [WideShapes.add_plain, Nat.zero_add] at hc0
  obtain ⟨hlo, hra⟩ := h4 i hi hi2
  have hne : b ≠ bs[i].1 := by
    rintro rfl
    exact hra.no hh
  refine ⟨b, _, _, rfl, (Array.getElem?_eq_some_iff.1 hh).1, hlo, hc0, hra, fun v x => ⟨bs, by rw [List.length_set]; exact h1, h2, ?_, fun j hj hj2 => ?_⟩⟩
  · have e : cellsN (g.set i (g[i].set v x)) bs = cellsN g bs := by
      apply List.ext_getElem?
      intro k
      by_cases hk : k < g.length
      · rw [cellsN_at k hk (by omega), cellsN_at k (by rw [List.length_set]; exact hk) (by omega)]
        congr 2
        rw [List.getElem_set]
        split
        · rename_i e; subst e; rw [List.length_set]
        · rfl
      · unfold cellsN
        rw [List.getElem?_eq_none (by simp; omega), List.getElem?_eq_none (by simp; omega)]
    rw [e, List.length_set]
    refine ⟨h3.1, Or.inr ⟨b, cap, cur, rfl, hb, (Below.heap_setCell _ _ _ _ hne).trans hh, hn, hc, hs, ht⟩⟩
  · rw [List.length_set] at hj
    refine ⟨(h4 j hj hj2).1, ?_⟩
    by_cases e : i = j
    · subst e
      simp only [List.getElem_set_self]
      exact hra.set v x
    · rw [List.getElem_set_ne e]
      have hne2 : bs[j].1 ≠ bs[i].1 := by
        intro hbb
        have hp := List.pairwise_iff_getElem.1 h2
        rcases Nat.lt_or_gt_of_ne e with h | h
        · exact hp i j (by simpa using hi2) (by simpa using hj2) h (by simpa using hbb.symm)
        · exact hp j i (by simpa using hj2) (by simpa using hi2) h (by simpa using hbb)
      exact (h4 j hj hj2).2.blk (Below.heap_setCell _ _ _ _ hne2)
/-- a row more -/
theorem NOwn.push {w w1 w3 : World} {lo b cap : Nat} {g : List (List Bool)} {r : List Bool} {v v' : Value} {bs : List (Nat × Nat)} (h1 : bs.length = g.length) (h2 : (bs.map (·.1)).Nodup) (h3 : w.ownsRow lo 28 1 v g.length (cellsN g bs)) (h4 : ∀ i (h1 : i < g.length) (h2 : i < bs.length), lo ≤ bs[i].1 ∧ RowAt w bs[i].1 bs[i].2 g[i]) (hk : ∀ k, lo ≤ k → k < w.heap.size → w1.heap[k]? = w.heap[k]?) (hb : w.heap.size ≤ b) (hlo : lo ≤ b) (hr : RowAt w1 b cap r)
    (hown : w3.ownsRow lo 28 1 v' (g.length + 1) (cellsN g bs ++ [.slice (some ⟨b, 0, none⟩) r.length cap])) (hg : ∀ k, k < w1.heap.size → some k ≠ v.ownBlock → w3.heap[k]? = w1.heap[k]?) (hsz : w.heap.size ≤ w1.heap.size) : NOwn w3 lo (g ++ [r]) v' := by
  have hvb : ∀ k C q, some k = v.ownBlock → w1.heap[k]? = some (.cells C 4 q) → False := by
    intro k C q hk2 hh
    rcases h3.2 with ⟨rfl, -⟩ | ⟨b', c', cur, rfl, hb', hh', -⟩
    · simp [Value.ownBlock] at hk2
    · simp only [Value.ownBlock, Option.some.injEq] at hk2
      subst hk2
      rw [hk _ hb' (Array.getElem?_eq_some_iff.1 hh').1, hh'] at hh
      simp at hh
  have hrow : ∀ {k c r}, RowAt w1 k c r → RowAt w3 k c r := by
    intro k c r hr
    refine hr.blk (hg k hr.lt fun e => ?_)
    obtain ⟨-, -, f, ⟨cc, hc, -⟩, -⟩ := hr
    exact hvb k _ _ e hc
  refine ⟨bs ++ [(b, cap)], by simp [h1], ?_, ?_, fun i hi hi2 => ?_⟩
  · rw [List.map_append, List.nodup_append]
    refine ⟨h2, by simp, ?_⟩
    intro x hx y hy hxy
    simp only [List.map_cons, List.map_nil, List.mem_singleton] at hy
    obtain ⟨i, hi, rfl⟩ := List.getElem_of_mem hx
    have hi2 : i < bs.length := by simpa using hi
    have := (h4 i (by omega) hi2).2.lt
    simp only [List.getElem_map] at hxy
    omega
  · have := hown
    rw [List.length_append]
    have e : cellsN (g ++ [r]) (bs ++ [(b, cap)]) = cellsN g bs ++ [.slice (some ⟨b, 0, none⟩) r.length cap] := by
      unfold cellsN
      rw [List.zip_append h1.symm]
      simp
    rw [e]
    exact this
  · simp only [List.length_append, List.length_singleton] at hi
    by_cases e : i < g.length
    · have hi3 : i < bs.length := by omega
      rw [List.getElem_append_left e, List.getElem_append_left hi3]
      obtain ⟨ha, hra⟩ := h4 i e hi3
      exact ⟨ha, hrow (hra.blk (hk _ ha hra.lt))⟩
    · obtain rfl : i = g.length := by omega
      rw [List.getElem_append_right (by omega), List.getElem_append_right (by omega)]
      simp only [h1, Nat.sub_self, List.getElem_cons_zero]
      exact ⟨hlo, hrow hr⟩
/-- an answer: needs in new memory -/
def NewN (g : List (List Bool)) (w : World) (e : Ending) (w' : World) : Prop := ∃ v, e = .returned v ∧ NOwn w' w.heap.size g v ∧ Below w.heap.size w w'
theorem infoE1 : ∃ i z, Try.prog.info? 28 = some i ∧ i.zero = some z ∧ i.size = 1 ∧ i.bytes = 24 ∧ z.cells.size = 1 := by
  obtain ⟨i, hi, hzz⟩ := Option.map_eq_some_iff.1 infoBB
  simp only [Prod.mk.injEq] at hzz
  obtain ⟨hz, hs, hb⟩ := hzz
  exact ⟨i, _, hi, hz, hs, hb, rfl⟩
/-- the row under way, in a block that was laid for it -/
theorem rowAt_start (w : World) (n : Nat) (h : n ≤ 1048576) : RowAt (w.alloc (.cells (madeCells #[.bool false] n) 4)) w.heap.size n (List.replicate n false) :=
  ⟨by simp, by unfold maxLen; omega, _, false_row w n, fun j hj => by simp⟩

/-- how many arguments function i has -/
def arN (ds : List Df) (i : Nat) : Nat := ((ds[i]?.map fun d => d.1.toNat)).getD 0
/-- what is said of each argument of each function -/
def gridN (ds : List Df) (f : Nat → Nat → Bool) : List (List Bool) := (List.range ds.length).map fun i => (List.range (arN ds i)).map (f i)
def gridK (ds : List Df) (f : Nat → Nat → Bool) (k : Nat) : List (List Bool) := (List.range k).map fun i => (List.range (arN ds i)).map (f i)
theorem gridK_succ (ds : List Df) (f : Nat → Nat → Bool) (k : Nat) : gridK ds f (k + 1) = gridK ds f k ++ [(List.range (arN ds k)).map (f k)] := by simp [gridK, List.range_succ]
theorem gridK_length (ds : List Df) (f : Nat → Nat → Bool) (k : Nat) : (gridK ds f k).length = k := by simp [gridK]
/-- a row half made -/
def halfR (n : Nat) (f : Nat → Bool) (q : Nat) : List Bool := (List.range n).map fun v => decide (v < q) && f v
theorem halfR_zero (n : Nat) (f : Nat → Bool) : halfR n f 0 = List.replicate n false := by
  refine List.ext_getElem (by simp [halfR]) fun i h1 h2 => by simp [halfR]
theorem halfR_succ (n : Nat) (f : Nat → Bool) (q : Nat) : (halfR n f q).set q (f q) = halfR n f (q + 1) := by
  refine List.ext_getElem (by simp [halfR]) fun i h1 h2 => ?_
  rw [List.getElem_set]
  split
  · rename_i e; subst e; simp [halfR]
  · rename_i e
    have : decide (i < q + 1) = decide (i < q) := decide_eq_decide.2 (by omega)
    simp [halfR, this]
theorem halfR_end (n : Nat) (f : Nat → Bool) : halfR n f n = (List.range n).map f := by
  refine List.ext_getElem (by simp [halfR]) fun i h1 h2 => ?_
  have : i < n := by simpa [halfR] using h1
  simp [halfR, this]
theorem halfR_length (n : Nat) (f : Nat → Bool) (q : Nat) : (halfR n f q).length = n := by simp [halfR]
end Go.Proofs.Ytpkephkgaflklaa
/-
  THE MODEL's l2Head, l2Closed, IsHead: which closed expressions are values; nothing that was there is changed.
-/
namespace Go.Proofs.Ytpkephkgaflklaa
set_option linter.unusedVariables false
set_option linter.unusedSimpArgs false
open Go.RowKit

end Go.Proofs.Ytpkephkgaflklaa
/-
  THE MODEL's l9In, l9Call AND StrictIn: which variables an expression needs; nothing that was there is changed.
-/
namespace Go.Proofs.Ytpkephkgaflklaa
set_option linter.unusedVariables false
set_option linter.unusedSimpArgs false
open Go.RowKit

/-- what l9In does at a tree -/
def InSaid (need : List (List Bool)) (v : Int) (t : Tr) : Prop := ∀ (c p : Value) (w : World), In w t.kids c → NIn w need p → I64 t.op ∧ I64 t.num →
  Calls Try.prog 32 #[.agg #[.int .i64 t.op, .int .i64 t.num, c], .int .i64 v, p] w fun e w' => e = .returned (.bool (needB need v t)) ∧ Below w.heap.size w w'

/-- an argument, in its cells -/
theorem cd_at {w : World} {lo : Nat} {l : List Cd} {va : Value} (hrow : CdRow w lo l va) (hl : ∀ d ∈ l, TrOn w (Lt w.heap.size) d.1 d.2.1 d.2.2.1 d.2.2.2) (j : Nat) (hj : j < l.length) :
    ∃ g cap cv, va = .slice (some ⟨g, 0, none⟩) l.length cap ∧ l.length ≤ cap ∧ w.cell? ⟨g, j * 3, none⟩ = some (.int .i64 l[j].1.op) ∧ w.cell? ⟨g, j * 3 + 1, none⟩ = some (.int .i64 l[j].1.num) ∧ w.cell? ⟨g, j * 3 + 2, none⟩ = some cv ∧ In w l[j].1.kids cv ∧ I64 l[j].1.op ∧ I64 l[j].1.num := by
  rcases hrow with ⟨rfl, -⟩ | ⟨g, cap, f, rfl, -, hc, -, hr, hf⟩
  · simp at hj
  obtain ⟨f0, f1, f2⟩ := hf j hj
  obtain ⟨e0, e1, i0, i1, hk⟩ := trOn_iff.1 (hl _ (List.getElem_mem hj))
  refine ⟨g, cap, l[j].2.2.2, rfl, hc, ?_, ?_, ?_, hk, i0, i1⟩
  · rw [hr.cell (by omega), f0, e0]
  · rw [hr.cell (by omega), f1, e1]
  · rw [hr.cell (by omega), f2]

theorem needG_fun {need : List (List Bool)} {v : Int} {F : Tr} {k : Nat} (h3 : F.op = 3) (hk : F.kids = []) (hn : F.num = (k : Int)) (acc : List Bool) : needG need v F acc = callB need (k : Int) acc := by
  rw [needG_leaf hk, if_neg (by omega), if_pos h3, hn]

set_option maxRecDepth 100000 in
set_option maxHeartbeats 800000 in
theorem l9Call_calls (need : List (List Bool)) (v : Int) (F : Tr) (cf : Value) (l : List Cd) (lo : Nat) (va p : Value) (w : World) (hk : In w F.kids cf) (hi : I64 F.op ∧ I64 F.num) (hl : ∀ d ∈ l, TrOn w (Lt w.heap.size) d.1 d.2.1 d.2.2.1 d.2.2.2) (hll : l.length ≤ 1099511627776) (hrow : CdRow w lo l va) (hn : NIn w need p)
    (hs : ¬ (F.op = 4 ∧ F.kids.length = 2)) (h3 : F.op = 3 → 0 ≤ F.num ∧ F.num < 6 ∧ F.kids = []) (ihF : F.op ≠ 3 → InSaid need v F) (ihl : ∀ d ∈ l, InSaid need v d.1) :
    Calls Try.prog 69 #[.agg #[.int .i64 F.op, .int .i64 F.num, cf], va, .int .i64 v, p] w fun e w' => e = .returned (.bool (needG need v F (l.map fun d => needB need v d.1))) ∧ Below w.heap.size w w' := by
  have HK := mkHid hk
  have HN := mkHid hn
  have HL := mkHid hl
  have HR := mkHid hrow
  have HLL := mkHid hll
  have HIL := mkHid ihl
  obtain ⟨adf, capf, rfl, -, -, -⟩ := hk
  obtain ⟨adp, capp, rfl, hpl, hpm, -⟩ := hn
  obtain ⟨ada, capa, rfl⟩ := hrow.form
  unfold maxLen at hpm
  have HBX : Hid (Below w.heap.size w (w.alloc (.cells #[.int .i64 F.op, .int .i64 F.num, .slice adf F.kids.length capf] 31))) := box_below _ _
  have hbx : (w.alloc (.cells #[.int .i64 F.op, .int .i64 F.num, .slice adf F.kids.length capf] 31)).heap[w.heap.size]? = some (.cells #[.int .i64 F.op, .int .i64 F.num, .slice adf F.kids.length capf] 31) := Deep.blk_alloc_new _ _
  by_cases ho : F.op = 3
  case neg =>
    have t3 : (F.op != 3) = true := by simpa using ho
    have HV := mkHid (needG_acc (need := need) (v := v) ho hs (l.map fun d => needB need v d.1))
    have HIF := mkHid (ihF ho)
    have HI := mkHid hi
    rw [HV.out]
    clear ho hs h3 ihF ihl hl hi hll hpl hpm hrow
    go_enter Try.func69, Try.ntmps69
    go_wp2_with fail
    refine (HIF.out _ _ _ (HK.out.next HBX.out) (HN.out.next HBX.out) HI.out).mono ?_
    rintro e w1 ⟨rfl, hb1⟩
    have HB1 : Hid (Below w.heap.size w w1) := HBX.out.trans (hb1.mono HBX.out.size)
    clear hb1
    go_wp2_with fail
    go_ret
    exact ⟨rfl, HB1.out⟩
  obtain ⟨hn0, hn6, hkn⟩ := h3 ho
  obtain ⟨k, hkk⟩ : ∃ k : Nat, F.num = (k : Int) := ⟨F.num.toNat, by omega⟩
  have hk6 : k < 6 := by omega
  have HV := mkHid (needG_fun (need := need) (v := v) ho hkn hkk (l.map fun d => needB need v d.1))
  rw [HV.out]
  have t3 : (F.op != 3) = false := by simp [ho]
  have HX : Hid ((w.alloc (.cells #[.int .i64 F.op, .int .i64 (k : Int), .slice adf F.kids.length capf] 31)).heap[w.heap.size]? = some (.cells #[.int .i64 F.op, .int .i64 (k : Int), .slice adf F.kids.length capf] 31)) := Deep.blk_alloc_new _ _
  rw [hkk] at HBX ⊢
  clear ho hs h3 ihF ihl hl hi hrow hn0 hn6 hkn hkk hbx HV
  by_cases hge : need.length ≤ k
  · have hgI : (need.length : Int) ≤ (k : Int) := by omega
    have HV := mkHid (callB_none (bs := l.map fun d => needB need v d.1) hge)
    rw [HV.out]
    clear hge hpl hpm HLL hll
    go_enter Try.func69, Try.ntmps69
    go_wp2_with fail
    go_ret
    exact ⟨rfl, HBX.out⟩
  have hlt : k < need.length := by omega
  obtain ⟨nb, noff, rv, rfl, hnb, hn0, hrw⟩ := HN.out.at k hlt
  obtain ⟨adr, capr, rfl, hrl, hrm, -⟩ := id hrw
  unfold maxLen at hrm
  have hltI : (k : Int) < (need.length : Int) := by omega
  have n0 := old_cell hn0 (.cells #[.int .i64 F.op, .int .i64 (k : Int), .slice adf F.kids.length capf] 31)
  by_cases hfew : l.length < need[k].length
  · have hfI : (l.length : Int) < (need[k].length : Int) := by omega
    have HV := mkHid (callB_few (bs := l.map fun d => needB need v d.1) hlt (by rw [List.length_map]; exact hfew))
    rw [HV.out]
    generalize need[k].length = m at *
    clear hge hfew hrl hrw hnb
    go_enter Try.func69, Try.ntmps69
    go_wp2_with fail
    go_ret
    exact ⟨rfl, HBX.out⟩
  have HV := mkHid (callB_some (bs := l.map fun d => needB need v d.1) hlt (by rw [List.length_map]; omega))
  obtain ⟨row, hrow⟩ : ∃ row, row = need[k] := ⟨_, rfl⟩
  rw [← hrow] at hfew n0 hn0 hrw hrl HV
  rw [HV.out]
  have HRW := mkHid hrw
  have hrl2 : row.length ≤ l.length := by omega
  have hfI : (row.length : Int) ≤ (l.length : Int) := by omega
  have HN0 := mkHid hn0
  have d1 : decide (need.length ≤ k) = false := by simpa using hlt
  have d2 : decide (l.length < row.length) = false := by simpa using hrl2
  have d3 : decide ((k : Int) < 0) = false := by simp
  clear hge hfew hrow hrw hnb hn0
  go_enter Try.func69, Try.ntmps69
  go_wp2_with fail
  go_loopw [9] (fun i wr => ∃ j : Nat, j ≤ row.length ∧ i = .int .i64 j ∧ anyTo row (l.map fun d => needB need v d.1) j = false ∧ Below (w.alloc (.cells #[.int .i64 F.op, .int .i64 (k : Int), .slice adf F.kids.length capf] 31)).heap.size (w.alloc (.cells #[.int .i64 F.op, .int .i64 (k : Int), .slice adf F.kids.length capf] 31)) wr) (fun i _ => row.length - (intOf i).toNat)
  case atStart => exact ⟨0, Nat.zero_le _, rfl, anyTo_zero _ _, Below.refl _ _⟩
  case round =>
    obtain ⟨j, hj, rfl, hany, hb⟩ := hrel
    have HA := mkHid hany
    have HBW : Hid (Below w.heap.size w wr) := HBX.out.trans (hb.mono HBX.out.size)
    have HB := mkHid hb
    have hXr := (hb.block w.heap.size (by rw [Deep.nblk_alloc]; omega)).trans HX.out
    have x1 := cell_of_blk hXr 1 _ rfl
    have m0 := (HBW.out.cell (cell_lt HN0.out)).trans HN0.out
    clear hany hb n0
    by_cases hjl : j < row.length
    · obtain ⟨rb, roff, rfl, hrb, hr0⟩ := HRW.out.at j hjl
      obtain ⟨b, hbe⟩ : ∃ b, b = row[j] := ⟨_, rfl⟩
      rw [← hbe] at hr0
      have r0 := (HBW.out.cell (cell_lt hr0)).trans hr0
      obtain ⟨ga, ca, cv, hea, hcl, a0', a1', a2', hka, hia, hin⟩ := cd_at HR.out HL.out j (by omega)
      simp only [Value.slice.injEq] at hea
      obtain ⟨rfl, -, rfl⟩ := hea
      have a0 := (HBW.out.cell (cell_lt a0')).trans a0'
      have a1 := (HBW.out.cell (cell_lt a1')).trans a1'
      have a2 := (HBW.out.cell (cell_lt a2')).trans a2'
      have HC := mkHid (HIL.out l[j] (List.getElem_mem _))
      have HKA := mkHid hka
      have HIA := mkHid (And.intro hia hin)
      obtain ⟨adx, capx, rfl, -, -, -⟩ := id hka
      obtain ⟨x, hx⟩ : ∃ x, x = l[j].1 := ⟨_, rfl⟩
      have hjl2 : j < (l.map fun d => needB need v d.1).length := by rw [List.length_map]; omega
      have HS := mkHid (anyTo_succ row (l.map fun d => needB need v d.1) j hjl hjl2)
      have HT := mkHid (anyTo_true row (l.map fun d => needB need v d.1) j hjl hjl2 (by rw [List.length_map]; omega))
      have hmj : (l.map fun d => needB need v d.1)[j] = needB need v x := by rw [hx, List.getElem_map]
      rw [hmj, ← hbe] at HS HT
      rw [← hx] at HC HKA HIA a0 a1 a2
      obtain ⟨bb, hbb⟩ : ∃ bb, bb = needB need v x := ⟨_, rfl⟩
      have HCC : Hid (∀ W, Below wr.heap.size wr W → Calls Try.prog 32 #[.agg #[.int .i64 x.op, .int .i64 x.num, .slice adx x.kids.length capx], .int .i64 v, .slice (some ⟨nb, noff, none⟩) need.length capp] W fun e w' => e = .returned (.bool bb) ∧ Below W.heap.size W w') := fun W hW => by
        rw [hbb]
        exact HC.out _ _ W ((HKA.out.next HBW.out).next hW) ((HN.out.next HBW.out).next hW) HIA.out
      rw [← hbb] at HS HT
      clear hbe hr0 hka hia hin hx hmj hbb a0' a1' a2' hXr hrb HC
      have hjaI : (j : Int) < (l.length : Int) := by omega
      cases b with
      | false =>
        have HS2 : Hid (anyTo row (l.map fun d => needB need v d.1) (j + 1) = false) := by rw [Hid, HS.out, HA.out]; rfl
        clear a0 a1 a2
        go_wp2_with fail
        go_roundw
        case rel => exact ⟨j + 1, by omega, by go_num, HS2.out, HB.out⟩
        case measure => simp [intOf]; omega
      | true =>
        go_wp2_with fail
        refine (HCC.out _ (Below.refl _ _)).mono ?_
        rintro e w1 ⟨rfl, hb1⟩
        have HB1 := mkHid (HB.out.trans (hb1.mono HB.out.size))
        have HBW1 : Hid (Below w.heap.size w w1) := HBW.out.trans (hb1.mono HBW.out.size)
        clear hb1 x1 m0 r0 a0 a1 a2
        cases bb with
        | false =>
          have HS2 : Hid (anyTo row (l.map fun d => needB need v d.1) (j + 1) = false) := by rw [Hid, HS.out, HA.out]; rfl
          go_wp2_with fail
          go_roundw
          case rel => exact ⟨j + 1, by omega, by go_num, HS2.out, HB1.out⟩
          case measure => simp [intOf]; omega
        | true =>
          have HV2 := mkHid (HT.out (by trivial) (by trivial))
          go_wp2_with fail
          go_ret
          exact ⟨ret_bool HV2.out.symm, HBW1.out⟩
    · have hje : j = row.length := by omega
      have HV2 : Hid (((row.zip (l.map fun d => needB need v d.1)).any fun p => p.1 && p.2) = false) := by rw [Hid, ← anyTo_all _ _ (by rw [List.length_map]; exact hrl2), ← hje]; exact HA.out
      clear hje
      go_wp2_with fail
      go_ret
      exact ⟨ret_bool HV2.out.symm, HBW.out⟩

/-! ### l9In -/
theorem needB_call {need : List (List Bool)} {v : Int} {w : World} {a F : Tr} {c cf : Value} {l : List Cd} (h : Unw w a c F cf l) (hs : ¬ (F.op = 4 ∧ F.kids.length = 2)) : needB need v a = needG need v F (l.reverse.map fun d => needB need v d.1) := by
  rw [needB_unw, h.value hs, ← List.map_reverse, List.map_map]
  rfl

set_option maxRecDepth 100000 in
set_option maxHeartbeats 800000 in
theorem l9In_app (need : List (List Bool)) (v : Int) (t : Tr) (ad : Option Addr) (cap : Nat) (adp : Option Addr) (capp : Nat) (w : World) (h34 : t.op = 3 ∨ t.op = 4) (hsh : ShE t) (hz : szT t ≤ 1099511627776) (ih : ∀ x, szT x < szT t → ShE x → InSaid need v x)
    (hk : In w t.kids (.slice ad t.kids.length cap)) (hn : NIn w need (.slice adp need.length capp)) (ht : I64 t.op ∧ I64 t.num) :
    Calls Try.prog 32 #[.agg #[.int .i64 t.op, .int .i64 t.num, .slice ad t.kids.length cap], .int .i64 v, .slice adp need.length capp] w fun e w' => e = .returned (.bool (needB need v t)) ∧ Below w.heap.size w w' := by
  have HK := mkHid hk
  have HN := mkHid hn
  have HT := mkHid ht
  have HS := mkHid hsh
  have HI := mkHid ih
  have HBX : Hid (Below w.heap.size w (w.alloc (.cells #[.int .i64 t.op, .int .i64 t.num, .slice ad t.kids.length cap] 31))) := box_below _ _
  have HL := mkHid (l2Args_calls t _ _ (HK.out.next HBX.out) HT.out hz)
  have HZ := mkHid hz
  obtain ⟨r, hr⟩ : ∃ r, r = needB need v t := ⟨_, rfl⟩
  rw [← hr]
  have HRR : Hid (∀ (F : Tr) (cf va : Value) (l : List Cd) (W : World), Below (w.alloc (.cells #[.int .i64 t.op, .int .i64 t.num, .slice ad t.kids.length cap] 31)).heap.size (w.alloc (.cells #[.int .i64 t.op, .int .i64 t.num, .slice ad t.kids.length cap] 31)) W → Unw (w.alloc (.cells #[.int .i64 t.op, .int .i64 t.num, .slice ad t.kids.length cap] 31)) t (.slice ad t.kids.length cap) F cf l → ¬ (F.op = 4 ∧ F.kids.length = 2) →
      (∃ lo, CdRow W lo l.reverse va) → (F.op == 4) = false ∧ (∃ adf capf, cf = .slice adf F.kids.length capf) ∧ Calls Try.prog 69 #[.agg #[.int .i64 F.op, .int .i64 F.num, cf], va, .int .i64 v, .slice adp need.length capp] W fun e w' => e = .returned (.bool r) ∧ Below W.heap.size W w') := by
    intro F cf va l W hb hu hs ⟨lo, hcd⟩
    have hsE := hu.shE HS.out
    have hon := hu.on (HK.out.next HBX.out) HT.out
    have h4 : F.op ≠ 4 := by
      intro e
      have ha := hsE.1.ar
      rw [e] at ha
      exact hs ⟨e, by have : arity 4 = 2 := by decide
                      omega⟩
    refine ⟨by simpa using h4, ?_, ?_⟩
    · obtain ⟨adf, capf, rfl, -, -, -⟩ := hon.1; exact ⟨_, _, rfl⟩
    rw [hr, needB_call hu hs]
    refine l9Call_calls need v F cf l.reverse lo va _ W (hon.1.next hb) ⟨hon.2.1, hon.2.2.1⟩ (fun d hd => ?_) ?_ hcd ((HN.out.next HBX.out).next hb) hs (fun h3 => ?_) (fun h3 => ?_) fun d hd => ?_
    · exact TrOn.mono (fun k (hk : k < _) => Nat.lt_of_lt_of_le hk hb.size) (fun k hk => hb.block k hk) _ _ _ _ (hon.2.2.2.1 d (by simpa using hd))
    · have := hon.2.2.2.2; rw [List.length_reverse]; have := HZ.out; omega
    · refine ⟨(hsE.1.num h3).1, (hsE.1.num h3).2, ?_⟩
      have ha := hsE.1.ar
      rw [h3] at ha
      exact List.eq_nil_of_length_eq_zero (by have : arity 3 = 0 := by decide
                                              omega)
    · rcases hu.small with ⟨rfl, rfl⟩ | ⟨h1, -⟩
      · omega
      · exact HI.out F h1 hsE.1
    · have hd' : d ∈ l := by simpa using hd
      rcases hu.small with ⟨rfl, rfl⟩ | ⟨-, h1⟩
      · simp at hd'
      · exact HI.out d.1 (h1 d hd') (hsE.2 d hd')
  clear hsh ih ht hk hn hz hr
  rcases h34 with h | h
  all_goals
    rw [h] at HBX HL HRR ⊢
    clear h
    go_enter Try.func32, Try.ntmps32
    go_wp2_with fail
    refine HL.out.mono ?_
    rintro e w1 ⟨F, cf, l, va, rfl, hu, hs, hcd, hb1⟩
    have HBF : Hid (∀ o, Below w1.heap.size w1 (w1.alloc o)) := fun o => box_below _ _
    have HB1 : Hid (Below w.heap.size w w1) := HBX.out.trans (hb1.mono HBX.out.size)
    obtain ⟨ada, capa, hva⟩ := hcd.form
    rw [List.length_reverse] at hva
    subst hva
    have hcall := fun o => HRR.out F cf _ l (w1.alloc o) (hb1.trans ((HBF.out o).mono hb1.size)) hu hs ⟨_, hcd.keep (Nat.le_refl _) fun k _ hk => (HBF.out o).block k hk⟩
    obtain ⟨t4, ⟨adf, capf, rfl⟩, -⟩ := hcall (.cells #[] 31)
    have HCL := mkHid fun o => (hcall o).2.2
    clear hu hs hcd hb1 hcall
    go_wp2_with fail
    refine (HCL.out _).mono ?_
    rintro e w2 ⟨rfl, hb2⟩
    have HB2 : Hid (Below w.heap.size w w2) := HB1.out.trans (((HBF.out _).trans (hb2.mono (HBF.out _).size)).mono HB1.out.size)
    clear hb2
    go_wp2_with fail
    go_ret
    exact ⟨rfl, HB2.out⟩

set_option maxRecDepth 100000 in
set_option maxHeartbeats 800000 in
theorem l9In_step (need : List (List Bool)) (v : Int) (t : Tr) (hsh : ShE t) (hz : szT t ≤ 1099511627776) (ih : ∀ x, szT x < szT t → ShE x → InSaid need v x) : InSaid need v t := by
  intro c p w hk hn ht
  have HK := mkHid hk
  have HN := mkHid hn
  have HT := mkHid ht
  have HS := mkHid hsh
  have HI := mkHid ih
  obtain ⟨ad, cap, rfl, -, -, -⟩ := hk
  obtain ⟨adp, capp, rfl, -, -, -⟩ := hn
  have HBX : Hid (Below w.heap.size w (w.alloc (.cells #[.int .i64 t.op, .int .i64 t.num, .slice ad t.kids.length cap] 31))) := box_below _ _
  have kid : ∀ (i : Nat) (hi : i < t.kids.length), ∃ bl off adk capk, ad = some ⟨bl, off, none⟩ ∧ w.cell? ⟨bl, off + i * 3, none⟩ = some (.int .i64 t.kids[i].op) ∧ w.cell? ⟨bl, off + i * 3 + 1, none⟩ = some (.int .i64 t.kids[i].num) ∧ w.cell? ⟨bl, off + i * 3 + 2, none⟩ = some (.slice adk t.kids[i].kids.length capk) ∧
      ∀ W, Below w.heap.size w W → Calls Try.prog 32 #[.agg #[.int .i64 t.kids[i].op, .int .i64 t.kids[i].num, .slice adk t.kids[i].kids.length capk], .int .i64 v, .slice adp need.length capp] W fun e w' => e = .returned (.bool (needB need v t.kids[i])) ∧ Below W.heap.size W w' := by
    intro i hi
    obtain ⟨_, _, he, -, -, hr⟩ := HK.out
    cases he
    rcases hr with hnil | ⟨bl, off, rfl, -, hr⟩
    · rw [hnil] at hi; simp at hi
    obtain ⟨a, b, r, e0, e1, e2, htr⟩ := RowOn.at t.kids off i hi hr
    obtain ⟨rfl, rfl, i0, i1, hkk⟩ := trOn_iff.1 htr
    obtain ⟨adk, capk, rfl, -, -, -⟩ := id hkk
    exact ⟨bl, off, adk, capk, rfl, e0, e1, e2, fun W hW => HI.out _ (by have := szT_lt_szL t.kids i hi; rw [szT_eq t]; exact this) (HS.out.kid (List.getElem_mem hi)) _ _ W (hkk.next hW) (HN.out.next hW) ⟨i0, i1⟩⟩
  have HKI := mkHid kid
  have HAP : Hid ((t.op = 3 ∨ t.op = 4) → Calls Try.prog 32 #[.agg #[.int .i64 t.op, .int .i64 t.num, .slice ad t.kids.length cap], .int .i64 v, .slice adp need.length capp] w fun e w' => e = .returned (.bool (needB need v t)) ∧ Below w.heap.size w w') :=
    fun h => l9In_app need v t ad cap adp capp w h HS.out hz HI.out HK.out HN.out HT.out
  clear hsh ih ht kid
  rcases HS.out.cases with ⟨ho, hk0⟩ | ⟨ho, a, hk1⟩ | ⟨ho, a, b, hk2⟩ | ⟨ho, a, b, d, hk3⟩
  · by_cases h1 : t.op = 1
    · have t1 : (t.op == 1) = true := by simpa using h1
      have HV : Hid (needB need v t = decide (t.num = v)) := by unfold Hid needB; rw [needG_leaf hk0, if_pos h1]
      clear h1 ho hk0
      go_enter Try.func32, Try.ntmps32
      go_wp2_with fail
      go_ret
      exact ⟨ret_bool (by rw [HV.out]; rfl), HBX.out⟩
    by_cases h2 : t.op = 2
    · have HV : Hid (needB need v t = false) := by unfold Hid needB; rw [needG_leaf hk0, if_neg h1, if_neg (by omega)]
      have t2 : t.op = 2 := h2
      rw [HV.out, t2]
      rw [t2] at HBX
      clear h1 ho hk0 h2 t2
      go_enter Try.func32, Try.ntmps32
      go_wp2_with fail
      go_ret
      exact ⟨rfl, HBX.out⟩
    have h3 : t.op = 3 := by omega
    exact HAP.out (Or.inl h3)
  · have hl1 : t.kids.length = 1 := by rw [hk1]; rfl
    have hkf := HKI.out 0 (by omega)
    simp only [hk1, List.getElem_cons_zero] at hkf
    obtain ⟨bl, off, adk, capk, rfl, c0, c1, c2, hc⟩ := hkf
    have HC := mkHid hc
    have HV : Hid (needB need v t = needB need v a) := by unfold Hid; conv => lhs; unfold needB; rw [needG_one hk1, if_pos ho]
    have k0 := old_cell c0 (.cells #[.int .i64 t.op, .int .i64 t.num, .slice (some ⟨bl, off, none⟩) 1 cap] 31)
    have k1 := old_cell c1 (.cells #[.int .i64 t.op, .int .i64 t.num, .slice (some ⟨bl, off, none⟩) 1 cap] 31)
    have k2 := old_cell c2 (.cells #[.int .i64 t.op, .int .i64 t.num, .slice (some ⟨bl, off, none⟩) 1 cap] 31)
    rw [HV.out]
    rw [hl1] at HBX ⊢
    simp only [Nat.zero_mul, Nat.add_zero] at k0 k1 k2
    clear hk1 hl1 c0 c1 c2 hc
    rcases ho with ho | ho
    all_goals
      rw [ho] at HBX k0 k1 k2 ⊢
      clear ho
      go_enter Try.func32, Try.ntmps32
      go_wp2_with fail
      refine (HC.out _ HBX.out).mono ?_
      rintro e w1 ⟨rfl, hb1⟩
      have HB1 : Hid (Below w.heap.size w w1) := HBX.out.trans (hb1.mono HBX.out.size)
      clear hb1 k0 k1 k2
      go_wp2_with fail
      go_ret
      exact ⟨rfl, HB1.out⟩
  · by_cases h4 : t.op = 4
    · exact HAP.out (Or.inr h4)
    by_cases h5 : t.op = 5
    · have HV : Hid (needB need v t = false) := by unfold Hid needB; rw [needG_two hk2, if_neg h4, if_neg (by omega)]
      rw [HV.out]
      rw [h5] at HBX ⊢
      clear ho h4 h5 hk2
      go_enter Try.func32, Try.ntmps32
      go_wp2_with fail
      go_ret
      exact ⟨rfl, HBX.out⟩
    have hl2 : t.kids.length = 2 := by rw [hk2]; rfl
    have hkf := HKI.out 0 (by omega)
    have hkg := HKI.out 1 (by omega)
    simp only [hk2, List.getElem_cons_zero, List.getElem_cons_succ] at hkf hkg
    obtain ⟨bl, off, adk, capk, rfl, c0, c1, c2, hc⟩ := hkf
    obtain ⟨bl', off', adk', capk', he, d0, d1, d2, hd⟩ := hkg
    simp only [Option.some.injEq, Addr.mk.injEq, and_true] at he
    obtain ⟨rfl, rfl⟩ := he
    have ho8 : t.op = 8 ∨ t.op = 9 := by omega
    obtain ⟨x, hx⟩ : ∃ x, x = needB need v a := ⟨_, rfl⟩
    obtain ⟨y, hy⟩ : ∃ y, y = needB need v b := ⟨_, rfl⟩
    have HV : Hid (needB need v t = (x || y)) := by rw [hx, hy]; unfold Hid; conv => lhs; unfold needB; rw [needG_two hk2, if_neg h4, if_pos ho8]
    rw [← hx] at hc
    rw [← hy] at hd
    have HC := mkHid hc
    have HD := mkHid hd
    have HB0 := mkHid (Below.refl w.heap.size w)
    have e0 := fun W (h : Below w.heap.size w W) => (h.cell (cell_lt c0)).trans c0
    have e1 := fun W (h : Below w.heap.size w W) => (h.cell (cell_lt c1)).trans c1
    have e2 := fun W (h : Below w.heap.size w W) => (h.cell (cell_lt c2)).trans c2
    have g0 := fun W (h : Below w.heap.size w W) => (h.cell (cell_lt d0)).trans d0
    have g1 := fun W (h : Below w.heap.size w W) => (h.cell (cell_lt d1)).trans d1
    have g2 := fun W (h : Below w.heap.size w W) => (h.cell (cell_lt d2)).trans d2
    simp only [Nat.zero_mul, Nat.add_zero, Nat.one_mul] at e0 e1 e2 g0 g1 g2
    have HE := mkHid (And.intro e0 (And.intro e1 (And.intro e2 (And.intro g0 (And.intro g1 g2)))))
    rw [HV.out]
    rw [hl2] at HBX ⊢
    have hbx : (w.alloc (.cells #[.int .i64 t.op, .int .i64 t.num, .slice (some ⟨bl, off, none⟩) 2 cap] 31)).heap[w.heap.size]? = some (.cells #[.int .i64 t.op, .int .i64 t.num, .slice (some ⟨bl, off, none⟩) 2 cap] 31) := Deep.blk_alloc_new _ _
    have hbz : w.heap.size < (w.alloc (.cells #[.int .i64 t.op, .int .i64 t.num, .slice (some ⟨bl, off, none⟩) 2 cap] 31)).heap.size := by rw [Deep.nblk_alloc]; omega
    have k0 := HE.out.1 _ HBX.out
    have k1 := HE.out.2.1 _ HBX.out
    have k2 := HE.out.2.2.1 _ HBX.out
    clear hk2 hl2 c0 c1 c2 d0 d1 d2 hc hd e0 e1 e2 g0 g1 g2 ho hx hy h4 h5
    have HX := mkHid hbx
    have HZ := mkHid hbz
    clear hbx hbz
    rcases ho8 with ho | ho
    all_goals
      rw [ho] at HBX k0 k1 k2 HX HZ ⊢
      clear ho
      cases x with
      | true =>
        rw [Bool.true_or]
        go_enter Try.func32, Try.ntmps32
        go_wp2_with fail
        refine (HC.out _ HBX.out).mono ?_
        rintro e w1 ⟨rfl, hb1⟩
        have HB1 : Hid (Below w.heap.size w w1) := HBX.out.trans (hb1.mono HBX.out.size)
        clear hb1 k0 k1 k2
        go_wp2_with fail
        go_ret
        exact ⟨rfl, HB1.out⟩
      | false =>
        rw [Bool.false_or]
        go_enter Try.func32, Try.ntmps32
        go_wp2_with fail
        refine (HC.out _ HBX.out).mono ?_
        rintro e w1 ⟨rfl, hb1⟩
        have HB1 : Hid (Below w.heap.size w w1) := HBX.out.trans (hb1.mono HBX.out.size)
        have x2 := cell_of_blk ((hb1.block _ HZ.out).trans HX.out) 2 _ rfl
        have l0 := HE.out.2.2.2.1 _ HB1.out
        have l1 := HE.out.2.2.2.2.1 _ HB1.out
        have l2 := HE.out.2.2.2.2.2 _ HB1.out
        clear hb1 k0 k1 k2
        go_wp2_with fail
        refine (HD.out _ HB1.out).mono ?_
        rintro e w2 ⟨rfl, hb2⟩
        have HB2 : Hid (Below w.heap.size w w2) := HB1.out.trans (hb2.mono HB1.out.size)
        clear hb2 l0 l1 l2 x2
        go_wp2_with fail
        go_ret
        exact ⟨rfl, HB2.out⟩
  · have hl3 : t.kids.length = 3 := by rw [hk3]; rfl
    have hkf := HKI.out 0 (by omega)
    have hkg := HKI.out 1 (by omega)
    have hkh := HKI.out 2 (by omega)
    simp only [hk3, List.getElem_cons_zero, List.getElem_cons_succ] at hkf hkg hkh
    obtain ⟨bl, off, adk, capk, rfl, c0, c1, c2, hc⟩ := hkf
    obtain ⟨bl', off', adk', capk', he, d0, d1, d2, hd⟩ := hkg
    simp only [Option.some.injEq, Addr.mk.injEq, and_true] at he
    obtain ⟨rfl, rfl⟩ := he
    obtain ⟨bl', off', adk2, capk2, he, f0, f1, f2, hf⟩ := hkh
    simp only [Option.some.injEq, Addr.mk.injEq, and_true] at he
    obtain ⟨rfl, rfl⟩ := he
    obtain ⟨x, hx⟩ : ∃ x, x = needB need v a := ⟨_, rfl⟩
    obtain ⟨y, hy⟩ : ∃ y, y = needB need v b := ⟨_, rfl⟩
    obtain ⟨z, hz2⟩ : ∃ z, z = needB need v d := ⟨_, rfl⟩
    have HV : Hid (needB need v t = (x || (y && z))) := by rw [hx, hy, hz2]; unfold Hid; conv => lhs; unfold needB; rw [needG_three hk3, if_pos ho]
    rw [← hx] at hc
    rw [← hy] at hd
    rw [← hz2] at hf
    have HC := mkHid hc
    have HD := mkHid hd
    have HF := mkHid hf
    have e0 := fun W (h : Below w.heap.size w W) => (h.cell (cell_lt c0)).trans c0
    have e1 := fun W (h : Below w.heap.size w W) => (h.cell (cell_lt c1)).trans c1
    have e2 := fun W (h : Below w.heap.size w W) => (h.cell (cell_lt c2)).trans c2
    have g0 := fun W (h : Below w.heap.size w W) => (h.cell (cell_lt d0)).trans d0
    have g1 := fun W (h : Below w.heap.size w W) => (h.cell (cell_lt d1)).trans d1
    have g2 := fun W (h : Below w.heap.size w W) => (h.cell (cell_lt d2)).trans d2
    have i0 := fun W (h : Below w.heap.size w W) => (h.cell (cell_lt f0)).trans f0
    have i1 := fun W (h : Below w.heap.size w W) => (h.cell (cell_lt f1)).trans f1
    have i2 := fun W (h : Below w.heap.size w W) => (h.cell (cell_lt f2)).trans f2
    simp only [Nat.zero_mul, Nat.add_zero, Nat.one_mul] at e0 e1 e2 g0 g1 g2 i0 i1 i2
    have HE := mkHid (And.intro e0 (And.intro e1 e2))
    have HG := mkHid (And.intro g0 (And.intro g1 g2))
    have HI := mkHid (And.intro i0 (And.intro i1 i2))
    rw [HV.out]
    rw [hl3] at HBX ⊢
    rw [ho] at HBX ⊢
    have HX : Hid ((w.alloc (.cells #[.int .i64 10, .int .i64 t.num, .slice (some ⟨bl, off, none⟩) 3 cap] 31)).heap[w.heap.size]? = some (.cells #[.int .i64 10, .int .i64 t.num, .slice (some ⟨bl, off, none⟩) 3 cap] 31)) := Deep.blk_alloc_new _ _
    have HZ : Hid (w.heap.size < (w.alloc (.cells #[.int .i64 10, .int .i64 t.num, .slice (some ⟨bl, off, none⟩) 3 cap] 31)).heap.size) := by rw [Hid, Deep.nblk_alloc]; omega
    have k0 := HE.out.1 _ HBX.out
    have k1 := HE.out.2.1 _ HBX.out
    have k2 := HE.out.2.2 _ HBX.out
    clear hk3 hl3 c0 c1 c2 d0 d1 d2 f0 f1 f2 hc hd hf e0 e1 e2 g0 g1 g2 i0 i1 i2 ho hx hy hz2
    cases x with
    | true =>
      rw [Bool.true_or]
      go_enter Try.func32, Try.ntmps32
      go_wp2_with fail
      refine (HC.out _ HBX.out).mono ?_
      rintro e w1 ⟨rfl, hb1⟩
      have HB1 : Hid (Below w.heap.size w w1) := HBX.out.trans (hb1.mono HBX.out.size)
      clear hb1 k0 k1 k2
      go_wp2_with fail
      go_ret
      exact ⟨rfl, HB1.out⟩
    | false =>
      rw [Bool.false_or]
      cases y with
      | false =>
        rw [Bool.false_and]
        go_enter Try.func32, Try.ntmps32
        go_wp2_with fail
        refine (HC.out _ HBX.out).mono ?_
        rintro e w1 ⟨rfl, hb1⟩
        have HB1 : Hid (Below w.heap.size w w1) := HBX.out.trans (hb1.mono HBX.out.size)
        have HX1 : Hid (w1.heap[w.heap.size]? = some (.cells #[.int .i64 10, .int .i64 t.num, .slice (some ⟨bl, off, none⟩) 3 cap] 31)) := (hb1.block _ HZ.out).trans HX.out
        have x2 := cell_of_blk HX1.out 2 _ rfl
        have l0 := HG.out.1 _ HB1.out
        have l1 := HG.out.2.1 _ HB1.out
        have l2 := HG.out.2.2 _ HB1.out
        have HZ1 : Hid (w.heap.size < w1.heap.size) := Nat.lt_of_lt_of_le HZ.out hb1.size
        clear hb1 k0 k1 k2
        go_wp2_with fail
        refine (HD.out _ HB1.out).mono ?_
        rintro e w2 ⟨rfl, hb2⟩
        have HB2 : Hid (Below w.heap.size w w2) := HB1.out.trans (hb2.mono HB1.out.size)
        have y2 := cell_of_blk ((hb2.block _ HZ1.out).trans HX1.out) 2 _ rfl
        have m0 := HI.out.1 _ HB2.out
        have m1 := HI.out.2.1 _ HB2.out
        have m2 := HI.out.2.2 _ HB2.out
        clear hb2 l0 l1 l2 x2 m0 m1 m2 y2
        go_wp2_with fail
        go_ret
        exact ⟨rfl, HB2.out⟩
      | true =>
        rw [Bool.true_and]
        go_enter Try.func32, Try.ntmps32
        go_wp2_with fail
        refine (HC.out _ HBX.out).mono ?_
        rintro e w1 ⟨rfl, hb1⟩
        have HB1 : Hid (Below w.heap.size w w1) := HBX.out.trans (hb1.mono HBX.out.size)
        have HX1 : Hid (w1.heap[w.heap.size]? = some (.cells #[.int .i64 10, .int .i64 t.num, .slice (some ⟨bl, off, none⟩) 3 cap] 31)) := (hb1.block _ HZ.out).trans HX.out
        have x2 := cell_of_blk HX1.out 2 _ rfl
        have l0 := HG.out.1 _ HB1.out
        have l1 := HG.out.2.1 _ HB1.out
        have l2 := HG.out.2.2 _ HB1.out
        have HZ1 : Hid (w.heap.size < w1.heap.size) := Nat.lt_of_lt_of_le HZ.out hb1.size
        clear hb1 k0 k1 k2
        go_wp2_with fail
        refine (HD.out _ HB1.out).mono ?_
        rintro e w2 ⟨rfl, hb2⟩
        have HB2 : Hid (Below w.heap.size w w2) := HB1.out.trans (hb2.mono HB1.out.size)
        have y2 := cell_of_blk ((hb2.block _ HZ1.out).trans HX1.out) 2 _ rfl
        have m0 := HI.out.1 _ HB2.out
        have m1 := HI.out.2.1 _ HB2.out
        have m2 := HI.out.2.2 _ HB2.out
        clear hb2 l0 l1 l2 x2
        go_wp2_with fail
        refine (HF.out _ HB2.out).mono ?_
        rintro e w3 ⟨rfl, hb3⟩
        have HB3 : Hid (Below w.heap.size w w3) := HB2.out.trans (hb3.mono HB2.out.size)
        clear hb3 m0 m1 m2 y2
        go_wp2_with fail
        go_ret
        exact ⟨rfl, HB3.out⟩

theorem l9In_calls (need : List (List Bool)) (v : Int) (t : Tr) (hsh : ShE t) (hz : szT t ≤ 1099511627776) : InSaid need v t := by
  have key : ∀ (n : Nat) (t : Tr), szT t ≤ n → szT t ≤ 1099511627776 → ShE t → InSaid need v t := by
    intro n
    induction n with
    | zero => intro t h0 h1 h2; exact l9In_step need v t h2 h1 fun x hx => by omega
    | succ n ih => intro t h0 h1 h2; exact l9In_step need v t h2 h1 fun x hx hsx => ih x (by omega) (by omega) hsx
  exact key _ t (Nat.le_refl _) hz hsh

/-- the answer of StrictIn -/
def strictO (t : Tr) (v : Int) (ne : List (List Bool)) : Bool := validB t 4 6 && (decide (ne.length ≤ 6) && needB ne v t)
end Go.Proofs.Ytpkephkgaflklaa
