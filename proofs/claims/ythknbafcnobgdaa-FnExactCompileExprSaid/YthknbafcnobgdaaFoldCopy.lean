/-
  THE PROGRAM's foldExpr, with one function to join by: the joined tree, in new memory, its blocks distinct; nothing that was there is changed.
-/
import Derived.Test.YthknbafcnobgdaaOwnF
import Derived.Test.YthknbafcnobgdaaSubT
namespace Go.Proofs.Ythknbafcnobgdaa.foldCopy
set_option linter.unusedVariables false
set_option linter.unusedSimpArgs false
open Go.RowKit

/-- the tree of an answer, in new memory from lo on -/
def Got (lo : Nat) (g : Tr) (w : World) (e : Ending) (w' : World) : Prop :=
  ∃ v, e = .returned (.agg #[.int .i64 g.op, .int .i64 g.num, v]) ∧ Fresh w' lo g.kids v ∧ I64 g.op ∧ I64 g.num ∧ Below w.heap.size w w'
def ERow (w : World) (c : Value) (o n : Int) : World := (w.alloc (.cells #[.int .i64 o, .int .i64 n, c] 37)).alloc (.cells #[.int .i64 0, .int .i64 0, .slice none 0 0] 37)
theorem eRow (w : World) (c : Value) (o n : Int) : (ERow w c o n).heap.size = w.heap.size + 2 ∧ Below w.heap.size w (ERow w c o n) ∧
    (ERow w c o n).heap[w.heap.size]? = some (.cells #[.int .i64 o, .int .i64 n, c] 37) ∧ (ERow w c o n).heap[w.heap.size + 1]? = some (.cells #[.int .i64 0, .int .i64 0, .slice none 0 0] 37) := by
  unfold ERow
  refine ⟨by rw [Deep.nblk_alloc, Deep.nblk_alloc], (box_below w _).trans ((box_below _ _).mono (by simp)), ?_, ?_⟩
  · rw [Deep.blk_alloc_lt _ _ _ (by simp)]; exact Deep.blk_alloc_new _ _
  · have := Deep.blk_alloc_new (w.alloc (.cells #[.int .i64 o, .int .i64 n, c] 37)) (.cells #[.int .i64 0, .int .i64 0, .slice none 0 0] 37)
    rw [Deep.nblk_alloc] at this
    exact this

theorem fold_push {wr w1 w3 : World} {lo : Nat} {G : Tr → Tr} {ks : List Tr} {k : Nat} (hk : k < ks.length) {v v' v2 : Value} (h : OwnF wr lo wr.heap.size ((ks.take k).map G) v) (hlo : lo ≤ wr.heap.size) (hb : Below wr.heap.size wr w1) (hf : Fresh w1 (wr.heap.size + 1) (G ks[k]).kids v2) (ho : I64 (G ks[k]).op) (hn : I64 (G ks[k]).num)
    {obj : Obj} {xs : List Value} (hx : (w1.alloc obj).ownsRow lo 37 3 v k xs) (hown : w3.ownsRow lo 37 3 v' (k + 1) (xs ++ [.int .i64 (G ks[k]).op, .int .i64 (G ks[k]).num, v2])) (hg : (w1.alloc obj).grownBy w3 v.ownBlock)
    (hw : v'.ownBlock = v.ownBlock ∨ ∃ g, v'.ownBlock = some g ∧ (w1.alloc obj).heap.size ≤ g) : OwnF w3 lo w3.heap.size ((ks.take (k + 1)).map G) v' := by
  have hl : ((ks.take k).map G).length = k := by simp; omega
  have hal := Deep.nblk_alloc w1 obj
  have hsz := hb.size
  obtain ⟨fp, f1, f2, f3⟩ := hf
  obtain ⟨xs0, h0⟩ := h.row
  have h2 : OwnF (w1.alloc obj) lo wr.heap.size ((ks.take k).map G) v := h.next (Nat.le_refl _) (Nat.le_refl _) fun j _ hj => (Deep.blk_alloc_lt _ _ _ (by omega)).trans (hb.block j hj)
  have h3 := h2.step (t := G ks[k]) hlo (by rw [hal]; omega) (trFp_iff.2 ⟨rfl, rfl, ho, hn, f1.keep fun j hj => Deep.blk_alloc_lt _ _ _ (f1.lt j hj)⟩) f2
    (fun j hj => ⟨by have := f3 j hj; omega, by rw [hal]; have := f1.lt j hj; omega, fun e => by have := (h0.lt j e.symm).2; have := f3 j hj; omega⟩) xs (by rw [hl]; exact hx) (by rw [hl]; exact hown) hg hw
  rw [List.take_succ_eq_append_getElem hk, List.map_append]
  exact h3.next hg.size hg.size fun _ _ _ => rfl

end Go.Proofs.Ythknbafcnobgdaa.foldCopy
