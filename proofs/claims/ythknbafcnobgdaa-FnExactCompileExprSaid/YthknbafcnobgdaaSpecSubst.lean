/-
  THE MODEL's SubstExpr: the variables replaced, in new memory; nothing that was there is changed.
-/
import Derived.Test.YthknbafcnobgdaaSpecSub
import Derived.Test.YthknbafcnobgdaaSmall
import Derived.Test.YthknbafcnobgdaaSubImpl
namespace Go.Proofs.Ythknbafcnobgdaa
set_option linter.unusedVariables false
set_option linter.unusedSimpArgs false
open Go.RowKit

def SpecSubGot (args : List Tr) (e : Tr) (w : World) (en : Ending) (w' : World) : Prop :=
  ∃ v, en = .returned (.tuple #[.agg #[.int .i64 (subT args e).op, .int .i64 (subT args e).num, v], .bool (subB args e)]) ∧ KidsOn w' (Btw w.heap.size w'.heap.size) (subT args e).kids v ∧ Below w.heap.size w w'
theorem kidsNone (w : World) (S : Nat → Prop) : KidsOn w S [] (.slice none 0 0) := ⟨none, 0, rfl, Nat.le_refl _, by simp [maxLen], Or.inl rfl⟩
theorem SpecSubGot.no {args : List Tr} {e : Tr} {w w' : World} (h : subB args e = false) (hb : Below w.heap.size w w') : SpecSubGot args e w (.returned (.tuple #[.agg #[.int .i64 0, .int .i64 0, .slice none 0 0], .bool false])) w' := by
  have ht : subT args e = .node 0 0 [] := by unfold subT; rw [h]; rfl
  exact ⟨_, by rw [ht, h]; rfl, by rw [ht]; exact kidsNone _ _, hb⟩
set_option maxHeartbeats 400000 in
theorem any_calls (t : Tr) (c : Value) (w : World) (hk : In w t.kids c) :
    Calls Try.prog 50 #[.agg #[.int .i64 t.op, .int .i64 t.num, c]] w fun e w' => e = .returned (.bool (validB t 4 6)) ∧ Below w.heap.size w w' := by
  have HK : Hid (In w t.kids c) := hk
  obtain ⟨ad, cap, rfl, -, -, -⟩ := hk
  rw [valid_is t 4 6 (by omega)]
  go_enter Try.func50, Try.ntmps50
  go_wp2_with fail
  refine (l1Is_calls t 4 6 _ _ (HK.out.next (box_below _ _))).mono ?_
  rintro e w1 ⟨rfl, hb1⟩
  obtain ⟨-, -, -, -, HB1⟩ := box_after hb1
  have HB1 : Hid (Below w.heap.size w w1) := HB1
  clear hb1
  go_wp2_with fail
  go_ret
  exact ⟨rfl, HB1.out⟩

end Go.Proofs.Ythknbafcnobgdaa
