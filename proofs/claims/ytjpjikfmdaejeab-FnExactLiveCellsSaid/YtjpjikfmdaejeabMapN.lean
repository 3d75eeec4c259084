/-
  A MAP FROM PLACES TO PLACES: the places of a list.
-/
import Derived.Test.YtjpjikfmdaejeabStk
import Derived.Test.YtjpjikfmdaejeabOrdM
import Derived.Maps.OwnSet
namespace Go.Proofs.Ytjpjikfmdaejeab
set_option linter.unusedVariables false
set_option linter.unusedSimpArgs false
open Go.RowKit Go.Maps

theorem keyedI : Keyed Try.prog 3 := int_keyed Try.underlying3
theorem zeroI (w : World) : (zeroValue 3).run Try.prog w = .ok (.int .i64 0) w := by kernel_rfl
theorem litI_wf (x : Nat) (h : x ≤ 1048576) : (Lit.int .i64 (x : Int)).wf = true := by
  simp only [Lit.wf, IntKind.min, IntKind.max, IntKind.signed, IntKind.bits, Bool.and_eq_true, decide_eq_true_eq, if_true]
  omega
theorem litI_ne {a b : Nat} (h : a ≠ b) : Lit.int .i64 (a : Int) ≠ Lit.int .i64 (b : Int) := by
  intro e
  simp only [Lit.int.injEq] at e
  omega
/-- block M is a map that holds the place of each cell of a list, and nothing else -/
def MapN (w : World) (M : Nat) (o : List Nat) : Prop :=
  ∃ (n : Nat) (D : DataW Unit), w.ownsMap Try.prog 3 (plainElem Try.prog 3) M n D ∧ n ≤ o.length ∧ ∀ x : Nat, x ≤ 1048576 → has D (.int .i64 (x : Int)) = memB o x ∧ (x ∈ o → D.atKey (.int .i64 (x : Int)) (.lit (.int .i64 0)) = .lit (.int .i64 (posN o x : Int)))
theorem MapN.made (w : World) : MapN (w.alloc (.map #[] 0)) w.heap.size [] := ⟨0, _, World.ownsMap_made w _ _ _, Nat.le_refl _, fun x _ => ⟨by simp [has, memB], fun h => by simp at h⟩⟩
theorem MapN.lt {w : World} {M : Nat} {o : List Nat} (h : MapN w M o) : M < w.heap.size := by obtain ⟨n, D, h1, -⟩ := h; exact h1.lt
theorem MapN.of_block {w w' : World} {M : Nat} {o : List Nat} (h : MapN w M o) (hb : w'.heap[M]? = w.heap[M]?) : MapN w' M o := by
  obtain ⟨n, D, ⟨es, clock, h1, h2⟩, h3⟩ := h
  exact ⟨n, D, ⟨es, clock, hb.trans h1, h2⟩, h3⟩
/-- it is no row -/
theorem MapN.ne_row {w : World} {M : Nat} {o : List Nat} (h : MapN w M o) {b : Nat} {C : Array Value} {T : TypeId} (hb : w.heap[b]? = some (.cells C T)) : b ≠ M := by
  intro e
  subst e
  obtain ⟨n, D, ⟨es, clock, h1, h2⟩, h3⟩ := h
  rw [h1] at hb
  cases hb
theorem keyLitI (x : Nat) : WideAt.IsKeyLit (Lit.int .i64 (x : Int)) := by simp [WideAt.IsKeyLit]
theorem mapN_put {w : World} {M n : Nat} {o : List Nat} {D : DataW Unit} {x : Nat} (h : w.ownsMap Try.prog 3 (plainElem Try.prog 3) M (n + 1) (D.put (.int .i64 (x : Int)) (.lit (.int .i64 (o.length : Int))))) (hm : IsMap D) (hn : n ≤ o.length)
    (hs : ∀ x : Nat, x ≤ 1048576 → has D (.int .i64 (x : Int)) = memB o x ∧ (x ∈ o → D.atKey (.int .i64 (x : Int)) (.lit (.int .i64 0)) = .lit (.int .i64 (posN o x : Int)))) (hx : x ∉ o) : MapN w M (o ++ [x]) := by
  refine ⟨n + 1, _, h, by simp; omega, fun y hy => ?_⟩
  by_cases e : y = x
  · subst e
    refine ⟨?_, fun _ => ?_⟩
    · rw [has_put_same hm (keyLitI y)]; simp [memB]
    · rw [atKey_put_same hm (keyLitI y), posN_snoc o y hx]
  · have hne : Lit.int .i64 (y : Int) ≠ Lit.int .i64 (x : Int) := litI_ne e
    refine ⟨?_, fun hy2 => ?_⟩
    · rw [has_put_other hne, (hs y hy).1]; simp [memB, e]
    · have hyo : y ∈ o := by
        rcases List.mem_append.1 hy2 with h | h
        · exact h
        · exact absurd (by simpa using h) e
      rw [atKey_put_other hne, (hs y hy).2 hyo, posN_app _ _ _ hyo]
end Go.Proofs.Ytjpjikfmdaejeab
