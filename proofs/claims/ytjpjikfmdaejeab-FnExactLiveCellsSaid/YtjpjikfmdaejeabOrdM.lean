/-
  PLAIN: roots of a graph; the marks of an order. No program is named here.
-/
import Derived.Test.YtjpjikfmdaejeabCopyT
namespace Go.Proofs.Ytjpjikfmdaejeab
set_option linter.unusedVariables false
set_option linter.unusedSimpArgs false

/-- a graph and some of its cells -/
def rootB (g : List Ce) (rs : List Int) : Bool := graphB g 6 && (decide (rs.length ≤ 20) && rs.all (isAt g.length))
def natL (rs : List Int) : List Nat := rs.map Int.toNat
theorem natL_len (rs : List Int) : (natL rs).length = rs.length := by simp [natL]
theorem rootB_iff {g : List Ce} {rs : List Int} : rootB g rs = true ↔ graphB g 6 = true ∧ rs.length ≤ 20 ∧ rs.all (isAt g.length) = true := by unfold rootB; simp
theorem root_lt {g : List Ce} {rs : List Int} (h : rootB g rs = true) : ∀ x ∈ natL rs, x < g.length := by
  intro x hx
  have h3 := (rootB_iff.1 h).2.2
  simp only [natL, List.mem_map] at hx
  obtain ⟨a, ha, rfl⟩ := hx
  rw [List.all_eq_true] at h3
  have := h3 a ha
  simp only [isAt, decide_eq_true_eq] at this
  omega
theorem root_back {g : List Ce} {rs : List Int} (h : rootB g rs = true) : rs = (natL rs).map fun (a : Nat) => (a : Int) := by
  have h3 := (rootB_iff.1 h).2.2
  rw [List.all_eq_true] at h3
  unfold natL
  rw [List.map_map]
  conv => lhs; rw [← List.map_id rs]
  refine List.map_congr_left fun a ha => ?_
  have := h3 a ha
  simp only [isAt, decide_eq_true_eq] at this
  simp; omega
/-- is a cell in a list? -/
def memB (o : List Nat) (x : Nat) : Bool := decide (x ∈ o)
theorem memB_nil : memB [] = fun _ => false := by funext x; simp [memB]
theorem memB_yes {o : List Nat} {x : Nat} (h : memB o x = true) : visit o x = o := visit_in (by simpa [memB] using h)
theorem memB_no {o : List Nat} {x : Nat} (h : memB o x = false) : visit o x = o ++ [x] := visit_new (by simpa [memB] using h)
theorem memB_snoc (o : List Nat) (x : Nat) : memB (o ++ [x]) = setF (memB o) x := by
  funext y
  unfold setF memB
  by_cases e : y = x
  · simp [e]
  · simp [e]
theorem visitL_lt {n : Nat} {o l : List Nat} (ho : ∀ x ∈ o, x < n) (hl : ∀ x ∈ l, x < n) : ∀ x ∈ visitL o l, x < n := fun x hx => by
  rcases visitL_of _ _ _ hx with h | h
  · exact ho x h
  · exact hl x h
/-- different cells of a graph -/
def Cs (n : Nat) (o : List Nat) : Prop := o.Nodup ∧ ∀ x ∈ o, x < n
theorem Cs.len {n : Nat} {o : List Nat} (h : Cs n o) : o.length ≤ n := nodup_len h.1 h.2
theorem Cs.nil (n : Nat) : Cs n [] := ⟨by simp, fun x hx => by simp at hx⟩
theorem Cs.visit {n : Nat} {o : List Nat} {x : Nat} (h : Cs n o) (hx : x < n) : Cs n (visit o x) := ⟨visit_nodup h.1, fun y hy => by
  rcases visit_of hy with h1 | rfl
  · exact h.2 y h1
  · exact hx⟩
theorem OrdRel.cs {g : List Ce} {roots : List Nat} {i : Nat} {out : List Nat} (h : OrdRel g roots i out) : Cs g.length out := ⟨h.nd, h.lt⟩
/-- the place of a copy, or -1 -/
def placeV (o : List Nat) (x : Nat) : Int := if x ∈ o then (posN o x : Int) else -1
theorem placeV_nil : placeV [] = fun _ => -1 := by funext x; simp [placeV]
theorem placeV_snoc {o : List Nat} {x : Nat} (h : x ∉ o) (y : Nat) : placeV (o ++ [x]) y = if y = x then (o.length : Int) else placeV o y := by
  unfold placeV
  by_cases e : y = x
  · subst e
    rw [if_pos (by simp), if_pos rfl, posN_snoc o y h]
  · rw [if_neg e]
    by_cases hy : y ∈ o
    · rw [if_pos (by simp [hy]), if_pos hy, posN_app _ _ _ hy]
    · rw [if_neg (by simp [hy, e]), if_neg hy]
theorem placeV_in {o : List Nat} {x : Nat} (h : x ∈ o) : placeV o x = (posN o x : Int) := if_pos h
theorem take_not {o : List Nat} (hn : o.Nodup) {i x : Nat} (h : o[i]? = some x) : x ∉ o.take i := by
  intro hx
  obtain ⟨j, hj, e⟩ := List.getElem_of_mem hx
  rw [List.length_take] at hj
  rw [List.getElem_take] at e
  have hi : i < o.length := (List.getElem?_eq_some_iff.1 h).1
  have e2 : o[i] = x := (List.getElem?_eq_some_iff.1 h).2
  have := posN_at o j (by omega) hn
  rw [e, ← e2, posN_at o i hi hn] at this
  omega
end Go.Proofs.Ytjpjikfmdaejeab
