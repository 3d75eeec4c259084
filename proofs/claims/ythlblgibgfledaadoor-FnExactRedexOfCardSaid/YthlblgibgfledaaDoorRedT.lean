/-
  PLAIN FACTS ON REDEXES.
-/
import Derived.Test.YthlblgibgfledaaDoorValT
namespace Go.Proofs.YthlblgibgfledaaDoor
set_option linter.unusedVariables false
set_option linter.unusedSimpArgs false

def rdI (o : Option Nat) : Int := match o with | some b => (b : Int) | none => 0
/-- 0: there is one; 2: stuck -/
def rdC (o : Option Nat) : Nat := match o with | some _ => 0 | none => 2

theorem redexN_none {ars : List Int} {g : List Ce} {n a : Nat} (h : spine g a = none) : redexN ars g n a = none := by
  cases n with
  | zero => rfl
  | succ n => unfold redexN; rw [h]
theorem redexN_glob {ars : List Int} {g : List Ce} {n a f : Nat} {l : List Nat} (h : spine g a = some (f, l)) (ho : opAt g f = 3) : redexN ars g (n + 1) a = some (callAt f l (arOf ars (numAt g f))) := by
  unfold redexN; rw [h]; exact if_pos ho
theorem redexN_val {ars : List Int} {g : List Ce} {n a f : Nat} {l : List Nat} (h : spine g a = some (f, l)) (ho : opAt g f = 2 ∨ opAt g f = 5) : redexN ars g (n + 1) a = none := by
  unfold redexN; rw [h]
  show (if opAt g f = 3 then _ else if opAt g f = 2 ∨ opAt g f = 5 then _ else _) = _
  rw [if_neg (by omega), if_pos ho]
theorem redexN_op {ars : List Int} {g : List Ce} {n a f : Nat} {l : List Nat} (h : spine g a = some (f, l)) (h3 : opAt g f ≠ 3) (h2 : opAt g f ≠ 2) (h5 : opAt g f ≠ 5) :
    redexN ars g (n + 1) a = (match waits ars g f with | none => none | some none => some f | some (some k) => redexN ars g n k) := by
  conv => lhs; unfold redexN
  rw [h]
  show (if opAt g f = 3 then _ else if opAt g f = 2 ∨ opAt g f = 5 then _ else _) = _
  rw [if_neg h3, if_neg (by omega)]
  cases waits ars g f with
  | none => rfl
  | some o => cases o <;> rfl
/-- the kinds of a cell that is neither application nor indirection -/
theorem op_kinds {g : List Ce} {defs : Int} (h : graphB g defs = true) (f : Nat) (hf : f < g.length) (h4 : g[f].op ≠ 4) (h11 : g[f].op ≠ 11) (h2 : g[f].op ≠ 2) (h3 : g[f].op ≠ 3) (h5 : g[f].op ≠ 5) : (g[f].op = 6 ∨ g[f].op = 7 ∨ g[f].op = 8 ∨ g[f].op = 9 ∨ g[f].op = 10) ∧ (g[f].kids.length : Int) = (if g[f].op = 6 ∨ g[f].op = 7 then 1 else if g[f].op = 10 then 3 else 2) := by
  have hc := graphB_cell h f hf
  have hv := @ownB_var g[f].num defs
  unfold cellB fitsB at hc
  simp only [Bool.and_eq_true, decide_eq_true_eq] at hc
  have h1 : g[f].op ≠ 1 := fun e => by have := hc.1.2; rw [e, hv] at this; cases this
  have hk := hc.1.1
  unfold cArity arity at hk
  rw [if_neg h11] at hk
  generalize g[f].op = o at *
  by_cases a6 : o = 6
  · subst a6; simp at hk ⊢; omega
  by_cases a7 : o = 7
  · subst a7; simp at hk ⊢; omega
  by_cases a8 : o = 8
  · subst a8; simp at hk ⊢; omega
  by_cases a9 : o = 9
  · subst a9; simp at hk ⊢; omega
  by_cases a10 : o = 10
  · subst a10; simp at hk ⊢; omega
  rw [if_neg (by omega), if_neg (by omega), if_neg (by omega), if_neg a10] at hk
  omega
/-- a cell that stands for a value stands for a cell -/
theorem val_follow {ars : List Int} {g : List Ce} {k : Nat} (h : valB ars g k = true) : ∃ b, followN g g.length k = some b := by
  cases hf : followN g g.length k with
  | some b => exact ⟨b, rfl⟩
  | none =>
    have hs : spine g k = none := by unfold spine spineN; rw [hf]
    rw [valB_none hs] at h; cases h
theorem waits1 {ars : List Int} {g : List Ce} {f : Nat} (ho : opAt g f = 6 ∨ opAt g f = 7) : waits ars g f = waitOne ars g (kidAt g f 0) 5 (some none) := by unfold waits; rw [if_pos ho]
theorem waits10 {ars : List Int} {g : List Ce} {f : Nat} (ho : opAt g f = 10) : waits ars g f = waitOne ars g (kidAt g f 0) 2 (some none) := by unfold waits; rw [if_neg (by omega), if_pos ho]
theorem waits2 {ars : List Int} {g : List Ce} {f : Nat} (ho : opAt g f = 8 ∨ opAt g f = 9) : waits ars g f = waitOne ars g (kidAt g f 0) 2 (waitOne ars g (kidAt g f 1) 2 (some none)) := by unfold waits; rw [if_neg (by omega), if_neg (by omega)]
theorem wait_go {ars : List Int} {g : List Ce} {k : Nat} {kind : Int} {r : Option (Option Nat)} (h : valB ars g k = false) : waitOne ars g k kind r = some (some k) := by unfold waitOne; rw [if_pos h]
theorem wait_stuck {ars : List Int} {g : List Ce} {k b : Nat} {kind : Int} {r : Option (Option Nat)} (h : valB ars g k = true) (hf : followN g g.length k = some b) (ho : opAt g b ≠ kind) : waitOne ars g k kind r = none := by
  unfold waitOne kindOf; rw [if_neg (by rw [h]; simp), hf]
  exact if_neg (by simpa using ho)
theorem wait_ok {ars : List Int} {g : List Ce} {k b : Nat} {kind : Int} {r : Option (Option Nat)} (h : valB ars g k = true) (hf : followN g g.length k = some b) (ho : opAt g b = kind) : waitOne ars g k kind r = r := by
  unfold waitOne kindOf; rw [if_neg (by rw [h]; simp), hf]
  exact if_pos (by simpa using ho)
/-- a call's place among the applications -/
theorem call_idx {ds : List Df} {g : List Ce} {a f : Nat} {l : List Nat} {n : Nat} (hs : spine g a = some (f, l)) (ho : opAt g f = 3) (hn : numAt g f = (n : Int)) (hnl : n < ds.length) (hv : valB (arsOf ds) g a = false) : ds[n].1 ≤ l.length := by
  rw [valB_glob hs ho, hn, arOf_at ds n hnl, decide_eq_false_iff_not] at hv
  omega
theorem prog_ar {ds : List Df} (h : progB ds = true) (n : Nat) (hn : n < ds.length) : 0 ≤ ds[n].1 := by
  unfold progB at h
  simp only [Bool.and_eq_true, List.all_eq_true] at h
  have h1 := h.2 _ (List.getElem_mem hn)
  unfold validB at h1
  simp only [Bool.and_eq_true, decide_eq_true_eq] at h1
  omega
theorem callAt_zero {f : Nat} {l : List Nat} : callAt f l 0 = f := by unfold callAt; rw [if_pos rfl]
theorem callAt_at {f : Nat} {l : List Nat} {ar m : Nat} (h0 : ar ≠ 0) (hm : m + ar = l.length) : callAt f l (ar : Int) = l[m]'(by omega) := by
  unfold callAt
  rw [if_neg (by omega), Int.toNat_natCast, show l.length - ar = m by omega, getD_at]

/-! ### Waiting for operands, one after the other -/
def waitsL (ars : List Int) (g : List Ce) (kind : Int) : List Nat → Option (Option Nat)
  | [] => some none
  | k :: ks => waitOne ars g k kind (waitsL ars g kind ks)
/-- how many operands of a kind must have values, and of which kind -/
def manyOf (op : Int) : Nat := if op = 6 ∨ op = 7 ∨ op = 10 then 1 else 2
def kindIn (op : Int) : Int := if op = 6 ∨ op = 7 then 5 else 2
theorem kids_take {g : List Ce} {defs : Int} (h : graphB g defs = true) (f : Nat) (hf : f < g.length) (j : Nat) (hj : j < g[f].kids.length) : (kidsN g f)[j]? = some (kidAt g f j) := by
  obtain ⟨k, h1, h2, h3⟩ := kidsN_get h f hf j hj
  unfold kidAt
  rw [List.getD_eq_getElem?_getD, h3]; rfl
theorem waits_list {ars : List Int} {g : List Ce} {f : Nat} (ho : opAt g f = 6 ∨ opAt g f = 7 ∨ opAt g f = 8 ∨ opAt g f = 9 ∨ opAt g f = 10) :
    waits ars g f = waitsL ars g (kindIn (opAt g f)) (((List.range (manyOf (opAt g f))).map (kidAt g f))) := by
  by_cases h : opAt g f = 6 ∨ opAt g f = 7
  · rw [waits1 h]
    have e1 : manyOf (opAt g f) = 1 := by unfold manyOf; rw [if_pos (by omega)]
    have e2 : kindIn (opAt g f) = 5 := by unfold kindIn; rw [if_pos h]
    rw [e1, e2]; rfl
  · by_cases h10 : opAt g f = 10
    · rw [waits10 h10]
      have e1 : manyOf (opAt g f) = 1 := by unfold manyOf; rw [if_pos (by omega)]
      have e2 : kindIn (opAt g f) = 2 := by unfold kindIn; rw [if_neg h]
      rw [e1, e2]; rfl
    · rw [waits2 (by omega)]
      have e1 : manyOf (opAt g f) = 2 := by unfold manyOf; rw [if_neg (by omega)]
      have e2 : kindIn (opAt g f) = 2 := by unfold kindIn; rw [if_neg h]
      rw [e1, e2]; rfl

/-! ### What RedexOf answers -/
def rxI (ds : List Df) (g : List Ce) (a : Int) : Int := if rightB ds g a = true then (if valB (arsOf ds) g a.toNat = true then a else rdI (redex (arsOf ds) g a.toNat)) else 0
def rxC (ds : List Df) (g : List Ce) (a : Int) : Int := if rightB ds g a = true then (if valB (arsOf ds) g a.toNat = true then 0 else (rdC (redex (arsOf ds) g a.toNat) : Int)) else 4
theorem rx_no {ds : List Df} {g : List Ce} {a : Int} (h : rightB ds g a = false) : rxI ds g a = 0 ∧ rxC ds g a = 4 := by
  unfold rxI rxC; rw [if_neg (by rw [h]; simp), if_neg (by rw [h]; simp)]; exact ⟨rfl, rfl⟩
theorem rx_val {ds : List Df} {g : List Ce} {a : Nat} (h : rightB ds g (a : Int) = true) (hv : valB (arsOf ds) g a = true) : rxI ds g (a : Int) = a ∧ rxC ds g (a : Int) = 0 := by
  unfold rxI rxC; rw [if_pos h, if_pos h, Int.toNat_natCast, if_pos hv, if_pos hv]; exact ⟨rfl, rfl⟩
theorem rx_red {ds : List Df} {g : List Ce} {a : Nat} (h : rightB ds g (a : Int) = true) (hv : valB (arsOf ds) g a = false) : rxI ds g (a : Int) = rdI (redex (arsOf ds) g a) ∧ rxC ds g (a : Int) = (rdC (redex (arsOf ds) g a) : Int) := by
  unfold rxI rxC; rw [if_pos h, if_pos h, Int.toNat_natCast, if_neg (by rw [hv]; simp), if_neg (by rw [hv]; simp)]; exact ⟨rfl, rfl⟩
theorem right_parts {ds : List Df} {g : List Ce} {a : Int} (h : rightB ds g a = true) : progB ds = true ∧ graphB g ds.length = true ∧ 0 ≤ a ∧ a < g.length := by
  unfold rightB isAt at h
  simp only [Bool.and_eq_true, decide_eq_true_eq] at h
  exact ⟨h.1, h.2.1, h.2.2⟩
end Go.Proofs.YthlblgibgfledaaDoor
