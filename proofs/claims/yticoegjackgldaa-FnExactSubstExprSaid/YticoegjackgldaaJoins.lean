/-
  WHAT foldExpr JOINS BY: withKids (so: copyExpr) and the closure of SubstExpr.
-/
import Derived.Test.YticoegjackgldaaFoldCopy
import Derived.Test.YticoegjackgldaaFoldSub
namespace Go.Proofs.Yticoegjackgldaa
set_option linter.unusedVariables false
set_option linter.unusedSimpArgs false
open Go.RowKit

theorem fresh_form {w : World} {lo : Nat} {ks : List Tr} {v : Value} (h : Fresh w lo ks v) : ∃ ad cap, v = .slice ad ks.length cap := by
  obtain ⟨fp, ⟨ad, cap, rfl, -⟩, -⟩ := h
  exact ⟨ad, cap, rfl⟩

set_option maxHeartbeats 400000 in
theorem with_same (t : Tr) (c : Value) (ad : Option Addr) (n cap : Nat) (W : World) (hk : In W t.kids c) :
    Calls Try.prog 63 #[.agg #[.int .i64 t.op, .int .i64 t.num, c], .slice ad n cap] W fun e w' => e = .returned (.agg #[.int .i64 t.op, .int .i64 t.num, .slice ad n cap]) ∧ Below W.heap.size W w' := by
  obtain ⟨adc, capc, rfl, -, -, -⟩ := hk
  have HB : Hid (Below W.heap.size W ((W.alloc (.cells #[.int .i64 t.op, .int .i64 t.num, .slice adc t.kids.length capc] 29)).alloc (.cells #[.int .i64 t.op, .int .i64 t.num, .slice ad n cap] 29))) := (box_below W _).trans ((box_below _ _).mono (by simp))
  go_enter Try.func63, Try.ntmps63
  go_wp2_with fail
  exact bodyPost_ret (v := .agg #[.int .i64 t.op, .int .i64 t.num, .slice ad n cap]) (by simp [results, Try.results63, go_sem]) rfl ⟨rfl, HB.out⟩
theorem with_calls (t : Tr) (c kv : Value) (g : List Tr) (lo : Nat) (W : World) (hk : In W t.kids c) (hf : Fresh W lo g kv) (hlo : lo ≤ W.heap.size) (ho : I64 t.op) (hn : I64 t.num) :
    Calls Try.prog 63 #[.agg #[.int .i64 t.op, .int .i64 t.num, c], kv] W (foldCopy.Got lo (.node t.op t.num g) W) := by
  obtain ⟨adk, capk, rfl⟩ := fresh_form hf
  refine (with_same t c adk g.length capk W hk).mono ?_
  rintro e w' ⟨rfl, hb⟩
  exact ⟨_, rfl, hf.next hb, ho, hn, hb⟩

theorem copy_join (w0 : World) (vb : Nat) : foldCopy.JSaid w0 vb (fun _ => True) id := by
  intro t c kv lo W _ hk hf hlo ho hn _
  rw [List.map_id] at hf
  refine (with_calls t c kv t.kids lo W hk hf hlo ho hn).mono fun e w' h => ?_
  rw [← Tr.eta] at h
  exact h

set_option maxHeartbeats 400000 in
/-- THE PROGRAM's COPY OF A TREE -/
theorem copy_calls (t : Tr) (c : Value) (w : World) (hk : In w t.kids c) (hz : szL t.kids ≤ 1048576) (ho : I64 t.op) (hn : I64 t.num) :
    Calls Try.prog 62 #[.agg #[.int .i64 t.op, .int .i64 t.num, c]] w (foldCopy.Got w.heap.size t w) := by
  have HK : Hid (In w t.kids c) := hk
  obtain ⟨ad, cap, rfl, -, -, -⟩ := hk
  have HT : Hid (I64 t.op ∧ I64 t.num) := ⟨ho, hn⟩
  clear ho hn
  go_enter Try.func62, Try.ntmps62
  obtain ⟨wb, hwb⟩ : ∃ wb : World, wb = foldCopy.ERow w (.slice ad t.kids.length cap) t.op t.num := ⟨_, rfl⟩
  obtain ⟨hs, hbw, hb0, hb1⟩ := foldCopy.eRow w (.slice ad t.kids.length cap) t.op t.num
  rw [← hwb] at hs hbw hb0 hb1
  have HWB : Hid (wb = (w.alloc (.cells #[.int .i64 t.op, .int .i64 t.num, .slice ad t.kids.length cap] 29)).alloc (.cells #[.int .i64 0, .int .i64 0, .slice none 0 0] 29)) := hwb
  have HBW : Hid (Below w.heap.size w wb) := hbw
  have HS : Hid (wb.heap.size = w.heap.size + 2) := hs
  have HB1 : Hid (wb.heap[w.heap.size + 1]? = some (.cells #[.int .i64 0, .int .i64 0, .slice none 0 0] 29)) := hb1
  clear hwb hs hbw hb0 hb1
  go_wp2_with (go_at_call 60; go_must (rw [← HWB.out]); go_must (refine (foldCopy.fold_calls (copy_join wb 0) t _ wb (Below.refl _ _) (HK.out.next HBW.out) hz HT.out.1 HT.out.2 (allT_true _ (fun _ => trivial) _ t (Nat.le_refl _))).mono ?_); go_must (rintro e w1 ⟨v2, rfl, hv2, hg1, hg2, hb1⟩); go_must (have HV2 : Hid (Fresh w1 wb.heap.size t.kids v2) := hv2); go_must (have hrb := (hb1.block (w.heap.size + 1) (by have := HS.out; omega)).trans HB1.out); go_must (have r0 := cell_of_blk hrb 0 _ rfl); go_must (have r1 := cell_of_blk hrb 1 _ rfl); go_must (have r2 := cell_of_blk hrb 2 _ rfl); go_must (have rf := fun i => frz_of_blk hrb i); go_must (have HB2 : Hid (Below w.heap.size w w1) := HBW.out.trans (hb1.mono HBW.out.size)); go_must (obtain ⟨ad2, cap2, rfl⟩ := fresh_form hv2); simp only [id_eq] at *; clear hg1 hg2 hb1 hrb hv2)
  refine bodyPost_ret (v := .agg #[.int .i64 t.op, .int .i64 t.num, .slice ad2 t.kids.length cap2]) (by simp [results, Try.results62, go_sem, r0, r1, r2]) rfl ⟨_, rfl, ?_, HT.out.1, HT.out.2, ?_⟩
  · exact (((HV2.out.setCell (by have := HS.out; show w.heap.size + 1 < _; omega) _).setCell (by have := HS.out; show w.heap.size + 1 < _; omega) _).setCell (by have := HS.out; show w.heap.size + 1 < _; omega) _).mono (by have := HS.out; omega) (fun _ _ _ => rfl)
  · exact ((HB2.out.setCell (by simp) _).setCell (by simp) _).setCell (by simp) _
end Go.Proofs.Yticoegjackgldaa
