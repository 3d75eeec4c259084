/-
  WHAT IS STILL NEEDED, as plain lists: a need holds if it stays.
-/
import Derived.Test.YtocnkjicmchbdaaNeedM
import Derived.Test.YtocnkjicmchbdaaNeedOwn
import Derived.Test.YtocnkjicmchbdaaSpecNh
namespace Go.Proofs.Ytocnkjicmchbdaa
set_option linter.unusedVariables false
set_option linter.unusedSimpArgs false
open Go.RowKit

def bitN (need : List (List Bool)) (i v : Nat) : Bool := (((need[i]?).getD [])[v]?).getD false
theorem bitN_at {need : List (List Bool)} {i v : Nat} (h : i < need.length) (hv : v < need[i].length) : bitN need i v = need[i][v] := by
  unfold bitN
  rw [List.getElem?_eq_getElem h, Option.getD_some, List.getElem?_eq_getElem hv, Option.getD_some]
def bodyN (ds : List Df) (i : Nat) : Tr := ((ds[i]?).map (·.2)).getD (.node 0 0 [])
theorem bodyN_at {ds : List Df} {i : Nat} (h : i < ds.length) : bodyN ds i = ds[i].2 := by
  unfold bodyN
  rw [List.getElem?_eq_getElem h]
  rfl
def stillF (ds : List Df) (need : List (List Bool)) (i v : Nat) : Bool := bitN need i v && needB need (v : Int) (bodyN ds i)
theorem fit_arN {ds : List Df} {need : List (List Bool)} (h : FitN ds need) {i : Nat} (h1 : i < ds.length) (h2 : i < need.length) : arN ds i = need[i].length := by
  have := h.2 i h1 h2
  unfold arN
  rw [List.getElem?_eq_getElem h1]
  simp only [Option.map_some, Option.getD_some]
  omega
theorem gridN_at {ds : List Df} {f : Nat → Nat → Bool} {i : Nat} (h : i < (gridN ds f).length) : (gridN ds f)[i] = (List.range (arN ds i)).map (f i) := by simp [gridN]
theorem gridN_length (ds : List Df) (f : Nat → Nat → Bool) : (gridN ds f).length = ds.length := by simp [gridN]
theorem grid_fit {ds : List Df} (har : ∀ d ∈ ds, 0 ≤ d.1 ∧ d.1 ≤ 4) (f : Nat → Nat → Bool) : FitN ds (gridN ds f) := by
  refine ⟨gridN_length _ _, fun i h1 h2 => ?_⟩
  rw [gridN_at h2, List.length_map, List.length_range]
  have := har _ (List.getElem_mem h1)
  unfold arN
  rw [List.getElem?_eq_getElem h1]
  simp only [Option.map_some, Option.getD_some]
  omega
/-- a need that stays holds -/
theorem still_holds {ds : List Df} {need : List (List Bool)} (hf : FitN ds need) (h : gridN ds (stillF ds need) = need) : HoldN ds need := by
  refine ⟨hf, fun i h1 h2 v hv hb => ?_⟩
  have h3 : i < (gridN ds (stillF ds need)).length := by rw [gridN_length]; exact h1
  have e := List.getElem_of_eq h h3
  rw [gridN_at] at e
  have hv2 : v < ((List.range (arN ds i)).map (stillF ds need i)).length := by rw [List.length_map, List.length_range, fit_arN hf h1 h2]; exact hv
  have e2 := List.getElem_of_eq e hv2
  rw [List.getElem_map, List.getElem_range] at e2
  rw [hb] at e2
  unfold stillF at e2
  rw [bodyN_at h1, Bool.and_eq_true] at e2
  exact e2.2
theorem holds_still {ds : List Df} {need : List (List Bool)} (h : HoldN ds need) : gridN ds (stillF ds need) = need := by
  refine List.ext_getElem (by rw [gridN_length]; exact h.1.1.symm) fun i h1 h2 => ?_
  rw [gridN_length] at h1
  rw [gridN_at]
  refine List.ext_getElem (by rw [List.length_map, List.length_range, fit_arN h.1 h1 h2]) fun v h3 h4 => ?_
  rw [List.getElem_map, List.getElem_range]
  unfold stillF
  rw [bitN_at h2 h4, bodyN_at h1]
  cases hb : need[i][v] with
  | false => rfl
  | true => rw [h.2 i h1 h2 v h4 hb]; rfl
theorem holdsO_still {ds : List Df} {need : List (List Bool)} (hp : progB ds = true) (hf : FitN ds need) : holdsO ds need = decide (gridN ds (stillF ds need) = need) := by
  by_cases h : gridN ds (stillF ds need) = need
  · rw [decide_eq_true h, holdsO_yes hp (still_holds hf h)]
  · rw [decide_eq_false h]
    cases hh : holdsO ds need with
    | false => rfl
    | true =>
      unfold holdsO at hh
      rw [Bool.and_eq_true] at hh
      exact absurd (holds_still (@of_decide_eq_true _ (Classical.propDecidable _) hh.2)) h
/-- what stays is no more, and every need that holds stays below it -/
theorem still_great {ds : List Df} {need : List (List Bool)} (hf : FitN ds need) (hg : ∀ k, HoldN ds k → LeN k need) : ∀ k, HoldN ds k → LeN k (gridN ds (stillF ds need)) := by
  intro k hk
  have hl := hg k hk
  refine ⟨by rw [gridN_length]; exact hk.1.1, fun i h1 h2 => ?_⟩
  have hd : i < ds.length := by rw [← hk.1.1]; exact h1
  have hn : i < need.length := by rw [hf.1]; exact hd
  have hr := hl.2 i h1 hn
  rw [gridN_at]
  refine ⟨by rw [List.length_map, List.length_range, fit_arN hf hd hn]; exact hr.1, fun v h3 h4 hb => ?_⟩
  rw [List.getElem_map, List.getElem_range]
  have hv : v < need[i].length := by rw [← hr.1]; exact h3
  unfold stillF
  rw [bitN_at hn hv, bodyN_at hd, hr.2 v h3 hv hb, needB_mono hl _ _ (hk.2 i hd h1 v h3 hb)]
  rfl
theorem filter_lt {α : Type} (p q : α → Bool) : ∀ (l : List α), (∀ x ∈ l, p x = true → q x = true) → (∃ x ∈ l, p x = false ∧ q x = true) → (l.filter p).length < (l.filter q).length
  | [], _, h => by obtain ⟨x, hx, -⟩ := h; simp at hx
  | a :: l, hi, h => by
    have hle : ∀ (l : List α), (∀ x ∈ l, p x = true → q x = true) → (l.filter p).length ≤ (l.filter q).length := by
      intro l
      induction l with
      | nil => intro _; simp
      | cons b l ih =>
        intro hi
        have := ih fun x hx => hi x (List.mem_cons_of_mem _ hx)
        have hb := hi b (by simp)
        cases hp : p b with
        | true => rw [List.filter_cons_of_pos hp, List.filter_cons_of_pos (hb hp)]; simpa using this
        | false =>
          rw [List.filter_cons_of_neg (by simp [hp])]
          cases hq : q b with
          | true => rw [List.filter_cons_of_pos hq]; simp; omega
          | false => rw [List.filter_cons_of_neg (by simp [hq])]; exact this
    have ha := hi a (by simp)
    have hi2 : ∀ x ∈ l, p x = true → q x = true := fun x hx => hi x (List.mem_cons_of_mem _ hx)
    cases hp : p a with
    | true =>
      rw [List.filter_cons_of_pos hp, List.filter_cons_of_pos (ha hp)]
      have := filter_lt p q l hi2 (by
        obtain ⟨x, hx, h1, h2⟩ := h
        simp only [List.mem_cons] at hx
        rcases hx with rfl | hx
        · rw [hp] at h1; cases h1
        · exact ⟨x, hx, h1, h2⟩)
      simpa using this
    | false =>
      rw [List.filter_cons_of_neg (by simp [hp])]
      cases hq : q a with
      | true =>
        rw [List.filter_cons_of_pos hq]
        have := hle l hi2
        simp; omega
      | false =>
        rw [List.filter_cons_of_neg (by simp [hq])]
        refine filter_lt p q l hi2 ?_
        obtain ⟨x, hx, h1, h2⟩ := h
        simp only [List.mem_cons] at hx
        rcases hx with rfl | hx
        · rw [hq] at h2; cases h2
        · exact ⟨x, hx, h1, h2⟩
/-- how much a grid says -/
def cntG (ds : List Df) (f : Nat → Nat → Bool) : Nat := (((List.range ds.length).flatMap fun i => (List.range (arN ds i)).map fun v => (i, v)).filter fun p => f p.1 p.2).length
/-- a step that changes something says less -/
theorem still_less {ds : List Df} {need : List (List Bool)} (hf : FitN ds need) (h : gridN ds (stillF ds need) ≠ need) : cntG ds (stillF ds need) < cntG ds (bitN need) := by
  refine filter_lt _ _ _ (fun x _ hx => by simp only [stillF, Bool.and_eq_true] at hx; exact hx.1) ?_
  apply Classical.byContradiction
  intro hno
  refine h (List.ext_getElem (by rw [gridN_length]; exact hf.1.symm) fun i h1 h2 => ?_)
  rw [gridN_length] at h1
  rw [gridN_at]
  refine List.ext_getElem (by rw [List.length_map, List.length_range, fit_arN hf h1 h2]) fun v h3 h4 => ?_
  rw [List.getElem_map, List.getElem_range]
  rw [← bitN_at h2 h4]
  have hm : (i, v) ∈ (List.range ds.length).flatMap fun i => (List.range (arN ds i)).map fun v => (i, v) := by
    simp only [List.mem_flatMap, List.mem_range, List.mem_map, Prod.mk.injEq]
    exact ⟨i, h1, v, by rw [fit_arN hf h1 h2]; exact h4, rfl, rfl⟩
  cases hs : stillF ds need i v with
  | true =>
    unfold stillF at hs
    rw [Bool.and_eq_true] at hs
    exact hs.1.symm
  | false =>
    cases hb : bitN need i v with
    | false => rfl
    | true => exact absurd ⟨(i, v), hm, hs, hb⟩ hno
theorem bitN_grid {ds : List Df} {f : Nat → Nat → Bool} {i v : Nat} (h : i < ds.length) (hv : v < arN ds i) : bitN (gridN ds f) i v = f i v := by
  have h1 : i < (gridN ds f).length := by rw [gridN_length]; exact h
  have h2 : v < (gridN ds f)[i].length := by rw [gridN_at]; simpa using hv
  rw [bitN_at h1 h2]
  have e := List.getElem_of_eq (gridN_at h1) h2
  rw [e, List.getElem_map, List.getElem_range]
theorem cntG_grid (ds : List Df) (f : Nat → Nat → Bool) : cntG ds (bitN (gridN ds f)) = cntG ds f := by
  unfold cntG
  congr 1
  refine List.filter_congr fun p hp => ?_
  simp only [List.mem_flatMap, List.mem_range, List.mem_map] at hp
  obtain ⟨i, hi, v, hv, rfl⟩ := hp
  exact bitN_grid hi hv
theorem cntG_le (ds : List Df) (f : Nat → Nat → Bool) : cntG ds f ≤ ((List.range ds.length).flatMap fun i => (List.range (arN ds i)).map fun v => (i, v)).length := List.length_filter_le _ _
theorem topN_grid {ds : List Df} : topN ds = gridN ds fun _ _ => true := by
  refine List.ext_getElem (by simp [topN, gridN]) fun i h1 h2 => ?_
  rw [gridN_length] at h2
  rw [gridN_at]
  unfold arN
  rw [List.getElem?_eq_getElem h2]
  refine List.ext_getElem (by simp [topN]) fun v h3 h4 => by simp [topN]
end Go.Proofs.Ytocnkjicmchbdaa
