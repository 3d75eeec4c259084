/-
  THE CLOSURE OF SubstExpr: a variable becomes a copy of its argument, another node keeps its operands' trees.
-/
import Derived.Test.YticoegjackgldaaJoins
namespace Go.Proofs.Yticoegjackgldaa
set_option linter.unusedVariables false
set_option linter.unusedSimpArgs false
open Go.RowKit

set_option maxRecDepth 100000 in
set_option maxHeartbeats 800000 in
theorem sub_join (w0 : World) (vb : Nat) (args : List Tr) (av : Value) (hv : w0.cell? ⟨vb, 0, none⟩ = some av) (ha : In w0 args av) (hz : szL args ≤ 1048576) : foldSub.JSaid w0 vb (VarOk args.length) (sbT args) := by
  intro t c kv lo W hb hk hf hlo ho hn hp
  have HF : Hid (Fresh W lo (t.kids.map (sbT args)) kv) := hf
  have HK : Hid (In W t.kids c) := hk
  have HA : Hid (In W args av) := ha.next hb
  have HT : Hid (I64 t.op ∧ I64 t.num) := ⟨ho, hn⟩
  have hvb := (hb.cell (p := ⟨vb, 0, none⟩) (cell_lt hv)).trans hv
  have hvl : vb < W.heap.size := cell_lt hvb
  obtain ⟨ad, cap, rfl, -, -, -⟩ := hk
  obtain ⟨ada, capa, rfl, -, hma, -⟩ := ha
  obtain ⟨adk, capk, rfl⟩ := fresh_form hf
  unfold maxLen at hma
  obtain ⟨wb, hwb⟩ : ∃ wb : World, wb = foldCopy.ERow W (.slice ad t.kids.length cap) t.op t.num := ⟨_, rfl⟩
  obtain ⟨hs, hbw, hb0, hb1⟩ := foldCopy.eRow W (.slice ad t.kids.length cap) t.op t.num
  rw [← hwb] at hs hbw hb0 hb1
  have HWB : Hid (wb = (W.alloc (.cells #[.int .i64 t.op, .int .i64 t.num, .slice ad t.kids.length cap] 29)).alloc (.cells #[.int .i64 0, .int .i64 0, .slice none 0 0] 29)) := hwb
  have HBW : Hid (Below W.heap.size W wb) := hbw
  have HS : Hid (wb.heap.size = W.heap.size + 2) := hs
  have HB1 : Hid (wb.heap[W.heap.size + 1]? = some (.cells #[.int .i64 0, .int .i64 0, .slice none 0 0] 29)) := hb1
  clear hwb hs hbw hb0 hb1 hf hb ho hn hv
  by_cases h1 : t.op = 1
  · have t1 : (t.op == 1) = true := by simpa using h1
    obtain ⟨p1, p2, p3⟩ := hp h1
    obtain ⟨n, hn⟩ : ∃ n : Nat, t.num = n := ⟨t.num.toNat, by omega⟩
    have hlt : n < args.length := by omega
    have hg : sbT args t = args[n] := by rw [sbT_eq, if_pos h1, hn]; simp [hlt]
    rw [hg]
    obtain ⟨_, _, he, -, -, hr⟩ := HA.out
    cases he
    rcases hr with hnil | ⟨bl, off, rfl, hbl, hr⟩
    · rw [hnil] at hlt; simp at hlt
    obtain ⟨p, q, r, e0, e1, e2, ht⟩ := RowOn.at args off n hlt hr
    obtain ⟨rfl, rfl, io, iN, hkk⟩ := trOn_iff.1 ht
    have HKK : Hid (In W args[n].kids r) := hkk
    have HIO : Hid (I64 args[n].op ∧ I64 args[n].num) := ⟨io, iN⟩
    have HZK : Hid (szL args[n].kids ≤ 1048576) := by have := szL_kids_lt args n hlt; unfold Hid; omega
    have hbl' : bl < W.heap.size := hbl
    obtain ⟨adn, capn, rfl, -, -, -⟩ := hkk
    rw [hn] at HWB ⊢
    clear ht hr io iN hbl h1 p1 p2 p3 hg hp hn
    go_enter Try.func61, Try.ntmps61
    go_wp2_with (go_at_call 62; go_must (rw [← HWB.out]); go_must (refine (copy_calls args[n] _ wb (HKK.out.next HBW.out) HZK.out HIO.out.1 HIO.out.2).mono ?_); go_must (rintro e w1 ⟨v2, rfl, hv2, hg1, hg2, hb1⟩); go_must (have HV2 : Hid (Fresh w1 wb.heap.size args[n].kids v2) := hv2); go_must (have hrb := (hb1.block (W.heap.size + 1) (by have := HS.out; omega)).trans HB1.out); go_must (have r0 := cell_of_blk hrb 0 _ rfl); go_must (have r1 := cell_of_blk hrb 1 _ rfl); go_must (have r2 := cell_of_blk hrb 2 _ rfl); go_must (have rf := fun i => frz_of_blk hrb i); go_must (have HB2 : Hid (Below W.heap.size W w1) := HBW.out.trans (hb1.mono HBW.out.size)); go_must (obtain ⟨ad2, cap2, rfl⟩ := fresh_form hv2); clear hg1 hg2 hb1 hrb hv2)
    refine bodyPost_ret (v := .agg #[.int .i64 args[n].op, .int .i64 args[n].num, .slice ad2 args[n].kids.length cap2]) (by simp [results, Try.results61, go_sem, r0, r1, r2]) rfl ⟨_, rfl, ?_, HIO.out.1, HIO.out.2, ?_⟩
    · exact (((HV2.out.setCell (by have := HS.out; show W.heap.size + 1 < _; omega) _).setCell (by have := HS.out; show W.heap.size + 1 < _; omega) _).setCell (by have := HS.out; show W.heap.size + 1 < _; omega) _).mono (by have := HS.out; omega) (fun _ _ _ => rfl)
    · exact ((HB2.out.setCell (by simp) _).setCell (by simp) _).setCell (by simp) _
  · have t1 : (t.op == 1) = false := by simpa using h1
    have hg : sbT args t = .node t.op t.num (t.kids.map (sbT args)) := by rw [sbT_eq, if_neg h1, sbL_map]
    rw [hg]
    have HFv : Hid (Fresh W lo (t.kids.map (sbT args)) (.slice adk (t.kids.map (sbT args)).length capk)) := HF.out
    clear h1 hg hp
    generalize t.kids.map (sbT args) = gs at *
    go_enter Try.func61, Try.ntmps61
    go_wp2_with (go_at_call 63; go_must (rw [← HWB.out]); go_must (refine (with_same t _ _ _ _ wb (HK.out.next HBW.out)).mono ?_); go_must (rintro e w1 ⟨rfl, hb1⟩); go_must (have hrb := (hb1.block (W.heap.size + 1) (by have := HS.out; omega)).trans HB1.out); go_must (have r0 := cell_of_blk hrb 0 _ rfl); go_must (have r1 := cell_of_blk hrb 1 _ rfl); go_must (have r2 := cell_of_blk hrb 2 _ rfl); go_must (have rf := fun i => frz_of_blk hrb i); go_must (have HB2 : Hid (Below W.heap.size W w1) := HBW.out.trans (hb1.mono HBW.out.size)); clear hb1 hrb)
    have HB3 : Below W.heap.size W (((w1.setCell ⟨W.heap.size + 1, 0, none⟩ (.int .i64 t.op)).setCell ⟨W.heap.size + 1, 1, none⟩ (.int .i64 t.num)).setCell ⟨W.heap.size + 1, 2, none⟩ (.slice adk gs.length capk)) := ((HB2.out.setCell (by simp) _).setCell (by simp) _).setCell (by simp) _
    exact bodyPost_ret (v := .agg #[.int .i64 t.op, .int .i64 t.num, .slice adk gs.length capk]) (by simp [results, Try.results61, go_sem, r0, r1, r2]) rfl ⟨_, rfl, HFv.out.next HB3, HT.out.1, HT.out.2, HB3⟩
end Go.Proofs.Yticoegjackgldaa
