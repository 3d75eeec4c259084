/-
  THE ANSWERS ARE SMALL: at most six rows, of at most four truth values each.
-/
import Derived.Test.YtocnkjicmchbdaaStillT
namespace Go.Proofs.Ytocnkjicmchbdaa
set_option linter.unusedVariables false
set_option linter.unusedSimpArgs false
open Go.RowKit

theorem sum_le4 : ∀ (l : List Nat), (∀ x ∈ l, x ≤ 4) → l.sum ≤ 4 * l.length
  | [], _ => by simp
  | a :: l, h => by
    have h1 := h a (by simp)
    have h2 := sum_le4 l fun x hx => h x (List.mem_cons_of_mem _ hx)
    simp only [List.sum_cons, List.length_cons]
    omega
theorem fit_small {ds : List Df} {g : List (List Bool)} (h : FitN ds g) (h6 : ds.length ≤ 6) (har : ∀ d ∈ ds, 0 ≤ d.1 ∧ d.1 ≤ 4) : g.length ≤ 6 ∧ (g.map (·.length)).sum ≤ 24 := by
  have hl := h.1
  refine ⟨by omega, ?_⟩
  have := sum_le4 (g.map (·.length)) fun x hx => by
    obtain ⟨r, hr, rfl⟩ := List.mem_map.1 hx
    obtain ⟨i, hi, rfl⟩ := List.getElem_of_mem hr
    have hd : i < ds.length := by omega
    have h1 := h.2 i hd hi
    have h2 := har _ (List.getElem_mem hd)
    show g[i].length ≤ 4
    omega
  rw [List.length_map] at this
  omega
theorem strictA_small (ds : List Df) : (strictA ds).length ≤ 6 ∧ ((strictA ds).map (·.length)).sum ≤ 24 := by
  cases hp : progB ds with
  | false => rw [strictA_no hp]; simp
  | true => exact fit_small (strictA_great hp).1.1 (progB_len hp) (progB_ar hp)
end Go.Proofs.Ytocnkjicmchbdaa
