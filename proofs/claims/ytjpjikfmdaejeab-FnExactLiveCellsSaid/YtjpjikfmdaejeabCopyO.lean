/-
  PLAIN: what CopyGraph, CopyOrder and CollectGraph answer. No program is named here.
-/
import Derived.Test.YtjpjikfmdaejeabOrdM
namespace Go.Proofs.Ytjpjikfmdaejeab
set_option linter.unusedVariables false
set_option linter.unusedSimpArgs false

theorem order_closed {g : List Ce} {roots : List Nat} (hg : graphB g 6 = true) (hr : ∀ x ∈ roots, x < g.length) : ∀ a ∈ orderG g roots, ∀ k ∈ kidsN g a, k ∈ orderG g roots := by
  obtain ⟨i, h, hi⟩ := order_rel hg hr
  intro a ha k hk
  obtain ⟨j, hj, rfl⟩ := List.getElem_of_mem ha
  refine h.cl j (by omega) k ?_
  rw [getD_at _ _ _ hj]; exact hk
theorem order_cs {g : List Ce} {roots : List Nat} (hg : graphB g 6 = true) (hr : ∀ x ∈ roots, x < g.length) : Cs g.length (orderG g roots) := by
  obtain ⟨i, h, hi⟩ := order_rel hg hr
  exact h.cs
theorem order_root {g : List Ce} {roots : List Nat} (hg : graphB g 6 = true) (hr : ∀ x ∈ roots, x < g.length) : ∀ x ∈ roots, x ∈ orderG g roots := by
  obtain ⟨i, h, hi⟩ := order_rel hg hr
  exact h.rt
/-- what CopyGraph answers, but for whether -/
def copyO (g : List Ce) (rs : List Int) : List Ce × List Nat := if rootB g rs = true then (copyG g (natL rs), topsG g (natL rs)) else ([], [])
theorem copyO_no {g : List Ce} {rs : List Int} (h : rootB g rs = false) : copyO g rs = ([], []) := by unfold copyO; rw [if_neg (by rw [h]; simp)]
theorem copyO_yes {g : List Ce} {rs : List Int} (h : rootB g rs = true) : copyO g rs = (copyG g (natL rs), topsG g (natL rs)) := by unfold copyO; rw [if_pos h]
/-- what CopyOrder answers -/
def orderO (g : List Ce) (rs : List Int) : List Nat := if rootB g rs = true then orderG g (natL rs) else []
theorem orderO_no {g : List Ce} {rs : List Int} (h : rootB g rs = false) : orderO g rs = [] := by unfold orderO; rw [if_neg (by rw [h]; simp)]
theorem orderO_yes {g : List Ce} {rs : List Int} (h : rootB g rs = true) : orderO g rs = orderG g (natL rs) := by unfold orderO; rw [if_pos h]

/-! ### Past indirections -/
def skipN (g : List Ce) (a : Nat) : Nat := (followN g g.length a).getD a
def shortC (g : List Ce) (c : Ce) : Ce := ⟨c.op, c.num, (c.kids.map Int.toNat).map fun k => (skipN g k : Int)⟩
def shortG (g : List Ce) : List Ce := g.map (shortC g)
theorem skip_lt {g : List Ce} {defs : Int} (h : graphB g defs = true) {a : Nat} (ha : a < g.length) : skipN g a < g.length := by
  unfold skipN
  cases hf : followN g g.length a with
  | none => exact ha
  | some b => exact (followN_lt h _ a b ha hf).1
theorem shortG_len (g : List Ce) : (shortG g).length = g.length := by simp [shortG]
theorem shortG_at (g : List Ce) (i : Nat) (h : i < g.length) : (shortG g)[i]'(by rw [shortG_len]; exact h) = shortC g g[i] := by simp [shortG]
theorem shortG_valid {g : List Ce} {defs : Int} (h : graphB g defs = true) : graphB (shortG g) defs = true := by
  have h' := h
  unfold graphB at h ⊢
  simp only [Bool.and_eq_true, List.all_eq_true, decide_eq_true_eq] at h ⊢
  rw [shortG_len]
  refine ⟨h.1, fun c hc => ?_⟩
  obtain ⟨i, hi, rfl⟩ := List.getElem_of_mem hc
  rw [shortG_len] at hi
  rw [shortG_at g i hi]
  have hc := graphB_cell h' i hi
  unfold cellB fitsB shortC at *
  simp only [Bool.and_eq_true, decide_eq_true_eq, List.length_map] at hc ⊢
  refine ⟨hc.1, ?_⟩
  rw [List.all_eq_true]
  intro x hx
  simp only [List.mem_map] at hx
  obtain ⟨k, ⟨y, hy, rfl⟩, rfl⟩ := hx
  have hy2 := (kids_graph h' i hi).2 y hy
  have := skip_lt h' (a := y.toNat) (by omega)
  simp only [isAt, decide_eq_true_eq]
  omega
/-- what CollectGraph answers -/
def collO (g : List Ce) (rs : List Int) : List Ce × List Nat := if rootB g rs = true then (copyG (shortG g) ((natL rs).map (skipN g)), topsG (shortG g) ((natL rs).map (skipN g))) else ([], [])
theorem collO_no {g : List Ce} {rs : List Int} (h : rootB g rs = false) : collO g rs = ([], []) := by unfold collO; rw [if_neg (by rw [h]; simp)]
theorem collO_yes {g : List Ce} {rs : List Int} (h : rootB g rs = true) : collO g rs = (copyG (shortG g) ((natL rs).map (skipN g)), topsG (shortG g) ((natL rs).map (skipN g))) := by unfold collO; rw [if_pos h]
theorem coll_lt {g : List Ce} {rs : List Int} (h : rootB g rs = true) : ∀ x ∈ (natL rs).map (skipN g), x < (shortG g).length := by
  intro x hx
  simp only [List.mem_map] at hx
  obtain ⟨a, ha, rfl⟩ := hx
  rw [shortG_len]
  exact skip_lt (rootB_iff.1 h).1 (root_lt h a ha)

/-! ### How large -/
theorem kidsSum_le3 : ∀ (g : List Ce), (∀ c ∈ g, c.kids.length ≤ 3) → sumK g ≤ 3 * g.length
  | [], _ => by simp [sumK]
  | c :: g, h => by
    have h1 := h c (List.mem_cons_self ..)
    have h2 := kidsSum_le3 g fun d hd => h d (List.mem_cons_of_mem _ hd)
    have h3 : sumK (c :: g) = c.kids.length + sumK g := by simp [sumK]
    rw [h3]
    simp only [List.length_cons]
    omega
theorem copyG_small {g : List Ce} {roots : List Nat} (hg : graphB g 6 = true) (hr : ∀ x ∈ roots, x < g.length) : (copyG g roots).length + sumK (copyG g roots) ≤ 2000 := by
  have hl := (order_cs hg hr).len
  have h4 := graphB_len hg
  have h3 : sumK (copyG g roots) ≤ 3 * (copyG g roots).length := by
    refine kidsSum_le3 _ fun c hc => ?_
    unfold copyG at hc
    simp only [List.mem_map] at hc
    obtain ⟨a, ha, rfl⟩ := hc
    simp only [cpCell, List.length_map]
    exact kidsN_len hg a ((order_cs hg hr).2 a ha)
  rw [copyG_len] at h3 ⊢
  omega
theorem copyO_small (g : List Ce) (rs : List Int) : (copyO g rs).1.length + sumK (copyO g rs).1 ≤ 2000 ∧ (copyO g rs).2.length ≤ 2000 := by
  cases h : rootB g rs with
  | false => rw [copyO_no h]; simp [sumK]
  | true =>
    rw [copyO_yes h]
    refine ⟨copyG_small (rootB_iff.1 h).1 (root_lt h), ?_⟩
    have := (rootB_iff.1 h).2.1
    simp only [topsG, List.length_map, natL_len]; omega
theorem orderO_small (g : List Ce) (rs : List Int) : (orderO g rs).length ≤ 2000 := by
  cases h : rootB g rs with
  | false => rw [orderO_no h]; simp
  | true =>
    rw [orderO_yes h]
    have := (order_cs (rootB_iff.1 h).1 (root_lt h)).len
    have := graphB_len (rootB_iff.1 h).1
    omega
theorem collO_small (g : List Ce) (rs : List Int) : (collO g rs).1.length + sumK (collO g rs).1 ≤ 2000 ∧ (collO g rs).2.length ≤ 2000 := by
  cases h : rootB g rs with
  | false => rw [collO_no h]; simp [sumK]
  | true =>
    rw [collO_yes h]
    refine ⟨copyG_small (shortG_valid (rootB_iff.1 h).1) (coll_lt h), ?_⟩
    have := (rootB_iff.1 h).2.1
    simp only [topsG, List.length_map, natL_len]; omega
end Go.Proofs.Ytjpjikfmdaejeab
