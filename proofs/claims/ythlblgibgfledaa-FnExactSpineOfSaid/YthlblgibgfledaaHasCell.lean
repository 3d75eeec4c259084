/-
  THE PROGRAM's hasCell.
-/
import Derived.Test.YthlblgibgfledaaImplGraph
namespace Go.Proofs.Ythlblgibgfledaa
set_option linter.unusedVariables false
set_option linter.unusedSimpArgs false
open Go.RowKit

set_option maxHeartbeats 800000 in
theorem hasCell_calls (g : List Ce) (a : Int) (v : Value) (w : World) (hk : CIn w g v) :
    Calls Try.prog 45 #[v, .int .i64 a] w fun e w' => e = .returned (.bool (graphB g 6 && isAt g.length a)) ∧ Below w.heap.size w w' := by
  have HK : Hid (CIn w g v) := hk
  obtain ⟨ad, cap, rfl, hl, hm, -⟩ := hk
  unfold maxLen at hm
  go_enter Try.func45, Try.ntmps45
  go_wp2_with fail
  refine (implGraph_calls g 6 _ _ HK.out).mono ?_
  rintro e w1 ⟨rfl, hb1⟩
  have HB1 : Hid (Below w.heap.size w w1) := hb1
  clear hb1
  cases hg : graphB g 6 with
  | false =>
    have HV : Hid ((graphB g 6 && isAt g.length a) = false) := by rw [Hid, hg]; rfl
    go_wp2_with fail
    go_ret
    exact ⟨ret_bool HV.out.symm, HB1.out⟩
  | true =>
    have HV : Hid ((graphB g 6 && isAt g.length a) = isAt g.length a) := by rw [Hid, hg]; rfl
    go_wp2_with fail
    refine (isCell_calls g.length cap ad a _ (by omega)).mono ?_
    rintro e w2 ⟨rfl, hb2⟩
    have HB2 : Hid (Below w.heap.size w w2) := HB1.out.trans (hb2.mono HB1.out.size)
    clear hb2
    go_wp2_with fail
    go_ret
    exact ⟨ret_bool HV.out.symm, HB2.out⟩

theorem isAt_iff {n a : Int} : isAt n a = true ↔ 0 ≤ a ∧ a < n := by unfold isAt; simp
end Go.Proofs.Ythlblgibgfledaa
