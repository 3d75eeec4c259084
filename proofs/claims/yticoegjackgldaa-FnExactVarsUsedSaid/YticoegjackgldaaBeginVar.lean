/-
  THE BEGINNING OF A COUNT (countNodes$1): the node with what it counts itself; nothing that was there is changed.
-/
import Derived.Test.YticoegjackgldaaTally
import Derived.Test.YticoegjackgldaaAppW
import Derived.Deep.LoopGhost
import Derived.Deep.QuietTactic
import Derived.Deep.RegionWith
import Derived.Deep.DeepMust
import Derived.BigQuiet
import Derived.WalkSmall
namespace Go.Proofs.Yticoegjackgldaa.cntVar
set_option linter.unusedVariables false
set_option linter.unusedSimpArgs false
open Go.RowKit

/-- a function value that tells which nodes are wanted -/
def WantSaid (w0 : World) (vb : Nat) (p : Tr → Bool) : Prop :=
  ∀ (t : Tr) (c : Value) (W : World), Below w0.heap.size w0 W → In W t.kids c → Calls Try.prog 67 #[.agg #[.int .i64 t.op, .int .i64 t.num, c], .pointer (some ⟨vb, 0, none⟩)] W fun e w' => e = .returned (.bool (p t)) ∧ Below W.heap.size W w'

set_option maxRecDepth 100000 in
set_option maxHeartbeats 800000 in
theorem begin_calls {w0 : World} {vb : Nat} {p : Tr → Bool} (hw : WantSaid w0 vb p) (x : Addr) (t : Tr) (wb : Nat) (W : World) (hx : LiesAt W (Lt W.heap.size) x t) (hwb : W.cell? ⟨wb, 0, none⟩ = some (.func (.func 67) #[] #[.pointer (some ⟨vb, 0, none⟩)])) (hb : Below w0.heap.size w0 W) :
    Calls Try.prog 85 #[.pointer (some x), .pointer (some ⟨wb, 0, none⟩)] W fun e w' => e = .returned (.agg #[.pointer (some x), .int .i64 0, .int .i64 ((if p t then 1 else 0 : Nat) : Int)]) ∧ Below W.heap.size W w' := by
  have HW : Hid (WantSaid w0 vb p) := hw
  have HB : Hid (Below w0.heap.size w0 W) := hb
  obtain ⟨bl, off, a, b, c, rfl, hbl, h0, h1, h2, ht⟩ := hx
  obtain ⟨rfl, rfl, -, -, hk⟩ := trOn_iff.1 ht
  have HK : Hid (In W t.kids c) := hk
  obtain ⟨ad, cap, rfl, -, -, -⟩ := hk
  have hbl' : bl < W.heap.size := hbl
  have hwl : wb < W.heap.size := cell_lt hwb
  clear hw hb ht hbl
  have hq : Hid (∀ W', Below w0.heap.size w0 W' → In W' t.kids (.slice ad t.kids.length cap) → Calls Try.prog 67 #[.agg #[.int .i64 t.op, .int .i64 t.num, .slice ad t.kids.length cap], .pointer (some ⟨vb, 0, none⟩)] W' fun e w' => e = .returned (.bool (p t)) ∧ Below W'.heap.size W' w') := fun W' h1 h2 => HW.out t _ W' h1 h2
  cases hp : p t with
  | true =>
    rw [hp] at hq
    clear hp
    go_enter Try.func85, Try.ntmps85
    go_wp2_with fail
    go_region_with ((go_at_call 67; go_must (refine (hq.out _ ?_ ?_).mono ?_); go_must (exact (HB.out.trans ((box_below W _).mono HB.out.size)).drew); go_must (exact (HK.out.next (box_below W _)).drew); go_must (rintro e w2 ⟨rfl, hb2⟩); go_must (have HB2 : Hid (Below (W.heap.size + 1) (W.alloc (.cells #[.pointer none, .int .i64 0, .int .i64 0] 108)) w2) := (by have h := (Below.refl (W.alloc (.cells #[.pointer none, .int .i64 0, .int .i64 0] 108)).heap.size (W.alloc (.cells #[.pointer none, .int .i64 0, .int .i64 0] 108))).drew.trans hb2; rw [Deep.nblk_alloc] at h; exact h)); clear hb2))
    all_goals
      have c0 := (HB2.out.cell (p := ⟨W.heap.size, 0, none⟩) (Nat.lt_succ_self _)).trans (box_cell W _ _ 0 _ rfl)
      have c1 := (HB2.out.cell (p := ⟨W.heap.size, 1, none⟩) (Nat.lt_succ_self _)).trans (box_cell W _ _ 1 _ rfl)
      have c2 := (HB2.out.cell (p := ⟨W.heap.size, 2, none⟩) (Nat.lt_succ_self _)).trans (box_cell W _ _ 2 _ rfl)
      have hf := fun i => frz_of_blk (w := w2) (b := W.heap.size) ((HB2.out.block _ (Nat.lt_succ_self _)).trans (Deep.blk_alloc_new W _)) i
      have HB3 : Hid (Below W.heap.size W w2) := (box_below W _).trans (HB2.out.mono (Nat.le_succ _))
      go_wp2_with fail
      exact bodyPost_ret (v := .agg #[.pointer (some ⟨bl, off, none⟩), .int .i64 0, .int .i64 1]) (by simp [results, Try.results85, go_sem, c0, c1, c2]) rfl ⟨by simp, ((HB3.out.setCell (by simp) _).setCell (by simp) _).setCell (by simp) _⟩
  | false =>
    rw [hp] at hq
    clear hp
    go_enter Try.func85, Try.ntmps85
    go_wp2_with fail
    go_region_with ((go_at_call 67; go_must (refine (hq.out _ ?_ ?_).mono ?_); go_must (exact (HB.out.trans ((box_below W _).mono HB.out.size)).drew); go_must (exact (HK.out.next (box_below W _)).drew); go_must (rintro e w2 ⟨rfl, hb2⟩); go_must (have HB2 : Hid (Below (W.heap.size + 1) (W.alloc (.cells #[.pointer none, .int .i64 0, .int .i64 0] 108)) w2) := (by have h := (Below.refl (W.alloc (.cells #[.pointer none, .int .i64 0, .int .i64 0] 108)).heap.size (W.alloc (.cells #[.pointer none, .int .i64 0, .int .i64 0] 108))).drew.trans hb2; rw [Deep.nblk_alloc] at h; exact h)); clear hb2))
    all_goals
      have c0 := (HB2.out.cell (p := ⟨W.heap.size, 0, none⟩) (Nat.lt_succ_self _)).trans (box_cell W _ _ 0 _ rfl)
      have c1 := (HB2.out.cell (p := ⟨W.heap.size, 1, none⟩) (Nat.lt_succ_self _)).trans (box_cell W _ _ 1 _ rfl)
      have c2 := (HB2.out.cell (p := ⟨W.heap.size, 2, none⟩) (Nat.lt_succ_self _)).trans (box_cell W _ _ 2 _ rfl)
      have hf := fun i => frz_of_blk (w := w2) (b := W.heap.size) ((HB2.out.block _ (Nat.lt_succ_self _)).trans (Deep.blk_alloc_new W _)) i
      have HB3 : Hid (Below W.heap.size W w2) := (box_below W _).trans (HB2.out.mono (Nat.le_succ _))
      go_wp2_with fail
      exact bodyPost_ret (v := .agg #[.pointer (some ⟨bl, off, none⟩), .int .i64 0, .int .i64 0]) (by simp [results, Try.results85, go_sem, c0, c1, c2]) rfl ⟨by simp, ((HB3.out.setCell (by simp) _).setCell (by simp) _).setCell (by simp) _⟩
end Go.Proofs.Yticoegjackgldaa.cntVar
