/-
  THE PROGRAM's SubstExpr: the variables replaced, in new memory; nothing that was there is changed.
-/
import Derived.Test.YthknbafcnobgdaaSubJoin
import Derived.Test.YthknbafcnobgdaaNodesLeft
namespace Go.Proofs.Ythknbafcnobgdaa
set_option linter.unusedVariables false
set_option linter.unusedSimpArgs false
open Go.RowKit

/-- does the replacement exist? -/
def subB (args : List Tr) (e : Tr) : Bool := (validB e args.length 6 && args.all (fun a => validB a 4 6)) && validB (sbT args e) 4 6
/-- the answer's tree -/
def subT (args : List Tr) (e : Tr) : Tr := if subB args e = true then sbT args e else .node 0 0 []
def SubGot (args : List Tr) (e : Tr) (w : World) (en : Ending) (w' : World) : Prop :=
  ∃ v, en = .returned (.tuple #[.agg #[.int .i64 (subT args e).op, .int .i64 (subT args e).num, v], .bool (subB args e)]) ∧ Fresh w' w.heap.size (subT args e).kids v ∧ I64 (subT args e).op ∧ I64 (subT args e).num ∧ Below w.heap.size w w'
theorem Fresh.none (w : World) (lo : Nat) : Fresh w lo [] (.slice none 0 0) := ⟨[], ⟨Option.none, 0, rfl, Nat.le_refl _, by simp [maxLen], Or.inl ⟨rfl, rfl⟩⟩, by simp, by simp⟩
theorem SubGot.no {args : List Tr} {e : Tr} {w w' : World} (h : subB args e = false) (hb : Below w.heap.size w w') : SubGot args e w (.returned (.tuple #[.agg #[.int .i64 0, .int .i64 0, .slice none 0 0], .bool false])) w' := by
  have ht : subT args e = .node 0 0 [] := by unfold subT; rw [h]; rfl
  exact ⟨_, by rw [ht, h]; rfl, by rw [ht]; exact Fresh.none _ _, by rw [ht]; simp [I64], by rw [ht]; simp [I64], hb⟩

set_option maxHeartbeats 400000 in
theorem fits_calls (t : Tr) (c : Value) (w : World) (hk : In w t.kids c) :
    Calls Try.prog 53 #[.agg #[.int .i64 t.op, .int .i64 t.num, c]] w fun e w' => e = .returned (.bool (validB t 4 6)) ∧ Below w.heap.size w w' := by
  have HK : Hid (In w t.kids c) := hk
  obtain ⟨ad, cap, rfl, -, -, -⟩ := hk
  go_enter Try.func53, Try.ntmps53
  go_wp2_with fail
  refine (implValid_calls t 4 6 _ _ (HK.out.next (box_below _ _))).mono ?_
  rintro e w1 ⟨rfl, hb1⟩
  obtain ⟨-, -, -, -, HB1⟩ := box_after hb1
  have HB1 : Hid (Below w.heap.size w w1) := HB1
  clear hb1
  go_wp2_with fail
  go_ret
  exact ⟨rfl, HB1.out⟩

def SRow (w : World) (c av : Value) (o n : Int) : World := ((w.alloc (.cells #[.int .i64 o, .int .i64 n, c] 37)).alloc (.cells #[av] 35)).alloc (.cells #[.int .i64 0, .int .i64 0, .slice none 0 0] 37)
theorem sRow (w : World) (c av : Value) (o n : Int) : (SRow w c av o n).heap.size = w.heap.size + 3 ∧ Below w.heap.size w (SRow w c av o n) ∧
    (SRow w c av o n).heap[w.heap.size]? = some (.cells #[.int .i64 o, .int .i64 n, c] 37) ∧ (SRow w c av o n).heap[w.heap.size + 1]? = some (.cells #[av] 35) ∧ (SRow w c av o n).heap[w.heap.size + 2]? = some (.cells #[.int .i64 0, .int .i64 0, .slice none 0 0] 37) := by
  unfold SRow
  have e1 : (w.alloc (.cells #[.int .i64 o, .int .i64 n, c] 37)).heap.size = w.heap.size + 1 := Deep.nblk_alloc _ _
  have e2 : ((w.alloc (.cells #[.int .i64 o, .int .i64 n, c] 37)).alloc (.cells #[av] 35)).heap.size = w.heap.size + 2 := by rw [Deep.nblk_alloc, e1]
  refine ⟨by rw [Deep.nblk_alloc, e2], (((Below.refl _ _).alloc (Nat.le_refl _) _).alloc (by rw [e1]; omega) _).alloc (by rw [e2]; omega) _, ?_, ?_, ?_⟩
  · rw [Deep.blk_alloc_lt _ _ _ (by rw [e2]; omega), Deep.blk_alloc_lt _ _ _ (by rw [e1]; omega)]; exact Deep.blk_alloc_new _ _
  · rw [Deep.blk_alloc_lt _ _ _ (by rw [e2]; omega), ← e1]; exact Deep.blk_alloc_new _ _
  · rw [← e2]; exact Deep.blk_alloc_new _ _

end Go.Proofs.Ythknbafcnobgdaa
