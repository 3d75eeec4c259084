/-
  THE MODEL's BuildGraph AND AddExpr.
-/
import Derived.Test.YticoegjackgldabAddOut
import Derived.Test.YticoegjackgldabSpecAdd
import Derived.Test.YticoegjackgldabSpecCopy
import Derived.Test.YticoegjackgldabSpecGraph
import Derived.Test.YticoegjackgldabSpecExpr
namespace Go.Proofs.Yticoegjackgldab
set_option linter.unusedVariables false
set_option linter.unusedSimpArgs false
open Go.RowKit

theorem below_grown {w w1 w2 : World} {v : Value} (hb : Below w.heap.size w w1) (h : w1.grownBy w2 v.ownBlock) (ho : ∀ k, v.ownBlock = some k → w.heap.size ≤ k) : Below w.heap.size w w2 :=
  ⟨h.os.trans hb.os, h.tape.trans hb.tape, h.output.trans hb.output, Nat.le_trans hb.size h.size, fun k hk => (h.block k (Nat.lt_of_lt_of_le hk hb.size) fun e => by have := ho k e.symm; omega).trans (hb.block k hk)⟩
theorem validB_small {t : Tr} {vars defs : Int} (h : validB t vars defs = true) : 1 + szT t ≤ 60 ∧ shB vars defs 16 t = true ∧ 0 ≤ vars ∧ vars ≤ 4 := by
  unfold validB at h
  simp only [Bool.and_eq_true, decide_eq_true_eq] at h
  exact ⟨h.2.2, h.2.1, h.1.1, h.1.2.1⟩

set_option maxRecDepth 100000 in
set_option maxHeartbeats 1600000 in
theorem specBuild_calls (t : Tr) (defs : Int) (c : Value) (w : World) (hk : In w t.kids c) (ho : I64 t.op) (hn : I64 t.num) :
    Calls Try.prog 26 #[.agg #[.int .i64 t.op, .int .i64 t.num, c], .int .i64 defs] w (AddOut (addOut [] t [] defs) w) := by
  have HK : Hid (In w t.kids c) := hk
  have HT : Hid (I64 t.op ∧ I64 t.num) := ⟨ho, hn⟩
  obtain ⟨ad, cap, rfl, -, hm, -⟩ := hk
  unfold maxLen at hm
  clear ho hn
  go_enter Try.func26, Try.ntmps26
  go_wp2_with fail
  refine (specValid_calls t 0 defs _ _ (HK.out.next (box_below _ _))).mono ?_
  rintro e w1 ⟨rfl, hb1⟩
  have HB1 : Hid (Below w.heap.size w w1) := (box_below _ _).trans (hb1.mono (by rw [Deep.nblk_alloc]; omega))
  have hz1 : w.heap.size < w1.heap.size := by have := hb1.size; rw [Deep.nblk_alloc] at this; omega
  have hr1 : w1.heap[w.heap.size]? = some (.cells #[.int .i64 t.op, .int .i64 t.num, .slice ad t.kids.length cap] 28) := (hb1.block _ (by rw [Deep.nblk_alloc]; omega)).trans (Deep.blk_alloc_new _ _)
  have r0 := cell_of_blk hr1 0 _ rfl
  have r1 := cell_of_blk hr1 1 _ rfl
  have r2 := cell_of_blk hr1 2 _ rfl
  clear hb1 hr1
  by_cases hv : validB t 0 defs = true
  · obtain ⟨v1, v2, -, -⟩ := validB_small hv
    have HV : Hid (addOut [] t [] defs = ((addT [] t []).1, (addT [] t []).2, true)) := by rw [Hid, addOut_closed, if_pos hv]
    have HP : Hid (AllT (VarOk 0) t) := varOk_of_sh 0 defs 16 t v2
    have HSZ : Hid (szT t ≤ 500000) := by rw [Hid]; omega
    rw [hv]
    clear hv v1 v2
    go_wp2_with fail
    have hc := ad_calls [] t (.slice (some ⟨w1.heap.size, 0, none⟩) 0 0) (.slice none 0 0) (.slice ad t.kids.length cap) w.heap.size (fun b => w.heap.size ≤ b) [] (w1.alloc (.cells #[] 71)) (OwnC.zero (Deep.blk_alloc_new _ _) HB1.out.size) (by rw [Deep.nblk_alloc]; omega) ⟨none, 0, rfl, Nat.le_refl _, by simp [maxLen], Or.inl rfl⟩ (HK.out.mono (fun _ h => h) (fun k hk => by have h : k < w.heap.size := hk; exact (Deep.blk_alloc_lt _ _ _ (by omega)).trans (HB1.out.block k h))) (by have := HSZ.out; simp only [List.length_nil]; omega) (by simp) HT.out.1 HT.out.2 HP.out
    refine hc.mono ?_
    rintro e w2 ⟨gv', rfl, hg2, hgr2, how2⟩
    have HG2 : Hid (OwnC w2 w.heap.size (fun b => w.heap.size ≤ b) (addT [] t []).1 gv') := hg2.next (fun b hb _ => by rcases hb with hb | hb; exact hb; rw [Deep.nblk_alloc] at hb; omega) (fun _ _ _ => rfl) (fun _ _ _ => rfl)
    have HB2 : Hid (Below w.heap.size w w2) := below_grown (HB1.out.alloc HB1.out.size _) hgr2 (fun k hk => by simp only [Value.ownBlock, Option.some.injEq] at hk; omega)
    clear hc hg2 hgr2 how2
    go_wp2_with fail
    refine bodyPost_ret (v := .tuple #[gv', .int .i64 ((addT [] t []).2 : Int), .bool true]) (by simp [results, Try.results26, go_sem]) rfl ?_
    rw [HV.out]
    exact ⟨gv', rfl, HG2.out, HB2.out⟩
  · have HV : Hid (addOut [] t [] defs = ([], 0, false)) := by rw [Hid, addOut_closed, if_neg hv]
    rw [Bool.not_eq_true] at hv
    rw [hv]
    clear hv
    go_wp2_with fail
    refine bodyPost_ret (v := .tuple #[.slice (some ⟨w1.heap.size, 0, none⟩) 0 0, .int .i64 0, .bool false]) (by simp [results, Try.results26, go_sem]) rfl ?_
    rw [HV.out]
    exact ⟨_, rfl, OwnC.zero (Deep.blk_alloc_new _ _) HB1.out.size, HB1.out.alloc HB1.out.size _⟩
end Go.Proofs.Yticoegjackgldab
