/-
  THE WALK OF FnExactCompileExpr.
-/
import Derived.Test.YthknbafcnobgdaaSpecCp
import Derived.Test.YthknbafcnobgdaaImplCx
import Derived.Test.YthknbafcnobgdaaInsM
import Derived.Test.YthknbafcnobgdaaFresh
import Derived.Test.YthknbafcnobgdaaMarkE
import Derived.Test.YthknbafcnobgdaaSz
import Derived.Test.YthknbafcnobgdaaEq
namespace Go.Proofs.Ythknbafcnobgdaa.lawExactCompileExpr
open Go.ChangeShapes Go.WideShapes Go.ChangeAt Go.RowKit
set_option linter.unusedVariables false
set_option linter.unusedSimpArgs false

theorem compO_sz (t : Tr) : (compO t).1.length ≤ 60 := by
  unfold compO
  cases h : validB t 4 6 with
  | false => simp
  | true =>
    simp only [validB, Bool.and_eq_true, decide_eq_true_eq] at h
    have := cdT_length t
    simp only [if_true]
    omega

set_option maxRecDepth 100000 in
set_option maxHeartbeats 6400000 in
theorem walk (t : Tr) (c : Value) (w : World) (hk : In w t.kids c) (ht : I64 t.op ∧ I64 t.num) :
    Calls Try.prog 4 #[.agg #[.int .i64 t.op, .int .i64 t.num, c]] w fun e w' => e = .returned (.bool true) ∧ Below w.heap.size w w' := by
  have HK : Hid (In w t.kids c) := hk
  have HT : Hid (I64 t.op ∧ I64 t.num) := ht
  obtain ⟨ad, cap, rfl, -, -, -⟩ := hk
  obtain ⟨cs, hcs⟩ : ∃ cs, cs = (compO t).1 := ⟨_, rfl⟩
  obtain ⟨b, hb⟩ : ∃ b, b = (compO t).2 := ⟨_, rfl⟩
  have HGS : Hid (cs.length ≤ 60) := by rw [hcs]; exact compO_sz t
  have HSI : Hid (∀ (v2 : Value) (W : World), In W t.kids v2 → Calls Try.prog 17 #[.agg #[.int .i64 t.op, .int .i64 t.num, v2]] W fun en w' => ∃ v, en = .returned (.tuple #[v, .bool b]) ∧ InsRow w' W.heap.size cs v ∧ Below W.heap.size W w') := fun v2 W h2 => (implComp_calls t v2 W h2).mono fun en w' h => by
    obtain ⟨v, e1, e2, e3⟩ := h
    rw [hcs, hb]
    exact ⟨v, e1, e2, e3⟩
  have HSS : Hid (∀ (v2 : Value) (W : World), In W t.kids v2 → Calls Try.prog 15 #[.agg #[.int .i64 t.op, .int .i64 t.num, v2]] W fun en w' => ∃ v, en = .returned (.tuple #[v, .bool b]) ∧ InsRow w' W.heap.size cs v ∧ Below W.heap.size W w') := fun v2 W h2 => (specComp_calls t v2 W h2).mono fun en w' h => by
    obtain ⟨v, e1, e2, e3⟩ := h
    rw [hcs, hb]
    exact ⟨v, e1, e2, e3⟩
  have hrg := szOut_range t.kids 1048576 (by omega)
  clear ht hcs hb
  go_enter Try.func4, Try.ntmps4
  go_wp2_with fail
  refine (sz_calls t.kids _ _ _ _ _ (HK.out.next (box_below _ _)) (by omega) (by omega)).mono ?_
  rintro en w1 ⟨rfl, hb1⟩
  have BA_w1 : Hid (w1.heap[w.heap.size]? = some (.cells #[.int .i64 t.op, .int .i64 t.num, (.slice ad t.kids.length cap)] 31)) := (hb1.block _ (by rw [Deep.nblk_alloc]; exact Nat.lt_succ_self _)).trans (Deep.blk_alloc_new _ _)
  have HB_w1 : Hid (Below w.heap.size w w1) := (box_below w _).trans (hb1.mono (by rw [Deep.nblk_alloc]; omega))
  clear hb1
  have ba0 := cell_of_blk BA_w1.out 0 _ rfl
  have ba1 := cell_of_blk BA_w1.out 1 _ rfl
  have ba2 := cell_of_blk BA_w1.out 2 _ rfl
  have baz := cellsOf_lt BA_w1.out
  by_cases hneg : szOut t.kids 1048576 < 0
  · go_wp2_with fail
    go_ret
    exact ⟨rfl, HB_w1.out⟩
  have HZ : Hid (szL t.kids ≤ 1048576) := by unfold szOut at hneg; unfold Hid; split at hneg <;> omega
  clear hrg
  generalize szOut t.kids 1048576 = left at *
  go_wp2_with fail
  -- the model's answer
  refine (to_calls t.kids _ _ _ _ (HK.out.next HB_w1.out) HZ.out).mono ?_
  rintro en w3 ⟨v3, rfl, hv3, hb3⟩
  clear ba0 ba1 ba2 baz
  have BA_w3 : Hid (w3.heap[w.heap.size]? = some (.cells #[.int .i64 t.op, .int .i64 t.num, (.slice ad t.kids.length cap)] 31)) := (hb3.block _ (cellsOf_lt BA_w1.out)).trans BA_w1.out
  have HB_w3 : Hid (Below w.heap.size w w3) := HB_w1.out.trans (hb3.mono HB_w1.out.size)
  have V3_w3 : Hid (In w3 t.kids v3) := hv3.btw_in
  clear hv3 hb3
  go_wp2_with fail
  refine (HSS.out _ _ V3_w3.out).mono ?_
  rintro en w5 ⟨v5, rfl, hv5, hb5⟩
  have BA_w5 : Hid (w5.heap[w.heap.size]? = some (.cells #[.int .i64 t.op, .int .i64 t.num, (.slice ad t.kids.length cap)] 31)) := (hb5.block _ (cellsOf_lt BA_w3.out)).trans BA_w3.out
  have HB_w5 : Hid (Below w.heap.size w w5) := HB_w3.out.trans (hb5.mono HB_w3.out.size)
  obtain ⟨ad5, cap5, rfl, -, -, -⟩ := id hv5
  have W0_w5 : Hid (InsOn w5 (Lt w5.heap.size) cs (.slice ad5 cs.length cap5)) := hv5.inn
  have LE_w5 : Hid (w5.heap.size ≤ w5.heap.size) := Nat.le_refl _
  have S5 : Hid (w.heap.size < w5.heap.size) := cellsOf_lt BA_w5.out
  clear hb5 hv5
  have ba0 := cell_of_blk BA_w5.out 0 _ rfl
  have ba1 := cell_of_blk BA_w5.out 1 _ rfl
  have ba2 := cell_of_blk BA_w5.out 2 _ rfl
  have baz := cellsOf_lt BA_w5.out
  go_wp2_with fail
  -- the program's argument
  refine (fto_calls t.kids _ _ _ _ (HK.out.next HB_w5.out) HZ.out).mono ?_
  rintro en w7 ⟨v7, rfl, hv7, hb7⟩
  obtain ⟨f1, hkf, hnd, hlo⟩ := hv7
  clear ba0 ba1 ba2 baz
  have S7 : Hid (w5.heap.size ≤ w7.heap.size) := hb7.size
  have BA_w7 : Hid (w7.heap[w.heap.size]? = some (.cells #[.int .i64 t.op, .int .i64 t.num, (.slice ad t.kids.length cap)] 31)) := (hb7.block _ (cellsOf_lt BA_w5.out)).trans BA_w5.out
  have W0_w7 : Hid (InsOn w7 (Lt w5.heap.size) cs (.slice ad5 cs.length cap5)) := W0_w5.out.mono (fun _ hk => hk) fun k hk => hb7.block k (Nat.lt_of_lt_of_le hk LE_w5.out)
  have LE_w7 : Hid (w5.heap.size ≤ w7.heap.size) := Nat.le_trans LE_w5.out hb7.size
  have HB_w7 : Hid (Below w.heap.size w w7) := HB_w5.out.trans (hb7.mono HB_w5.out.size)
  have HF_f1 : Hid (f1.Nodup ∧ ∀ k ∈ f1, w5.heap.size ≤ k ∧ k < w7.heap.size) := ⟨hnd, fun k hk => ⟨hlo k hk, hkf.lt k hk⟩⟩
  have HKF : Hid _ := hkf
  obtain ⟨ad7, cap7, rfl, -, -, -⟩ := hkf
  have K1_w7 : Hid (KidsFp w7 37 t.kids f1 (.slice ad7 t.kids.length cap7)) := HKF.out
  clear HKF hnd hlo hb7
  go_wp2_with fail
  obtain ⟨w8, hw8⟩ : ∃ w8 : World, w8 = w7.alloc (.cells #[.int .i64 t.op, .int .i64 t.num, .slice ad7 t.kids.length cap7] 37) := ⟨_, rfl⟩
  rw [← hw8]
  have hbw8 : Below w7.heap.size w7 w8 := by rw [hw8]; exact box_below _ _
  have BA_w8 : Hid (w8.heap[w.heap.size]? = some (.cells #[.int .i64 t.op, .int .i64 t.num, (.slice ad t.kids.length cap)] 31)) := (hbw8.block _ (cellsOf_lt BA_w7.out)).trans BA_w7.out
  have W0_w8 : Hid (InsOn w8 (Lt w5.heap.size) cs (.slice ad5 cs.length cap5)) := W0_w7.out.mono (fun _ hk => hk) fun k hk => hbw8.block k (Nat.lt_of_lt_of_le hk LE_w7.out)
  have LE_w8 : Hid (w5.heap.size ≤ w8.heap.size) := Nat.le_trans LE_w7.out hbw8.size
  have K1_w8 : Hid (KidsFp w8 37 t.kids f1 (.slice ad7 t.kids.length cap7)) := K1_w7.out.keep fun k hk => hbw8.block k (K1_w7.out.lt k hk)
  have HB_w8 : Hid (Below w.heap.size w w8) := HB_w7.out.trans (hbw8.mono HB_w7.out.size)
  have BX_w8 : Hid (w8.heap[w7.heap.size]? = some (.cells #[.int .i64 t.op, .int .i64 t.num, (.slice ad7 t.kids.length cap7)] 37)) := by rw [hw8]; exact Deep.blk_alloc_new _ _
  have S8 : Hid (w8.heap.size = w7.heap.size + 1) := by rw [hw8]; exact Deep.nblk_alloc _ _
  clear hw8 hbw8
  -- the program's answer
  refine (HSI.out _ _ (K1_w8.out.on fun k hk => K1_w8.out.lt k hk)).mono ?_
  rintro en w10 ⟨v10, rfl, hv10, hb10⟩
  obtain ⟨f3, hif, hlo⟩ := ins_fp hv10
  have S10 : Hid (w8.heap.size ≤ w10.heap.size) := hb10.size
  have BA_w10 : Hid (w10.heap[w.heap.size]? = some (.cells #[.int .i64 t.op, .int .i64 t.num, (.slice ad t.kids.length cap)] 31)) := (hb10.block _ (cellsOf_lt BA_w8.out)).trans BA_w8.out
  have W0_w10 : Hid (InsOn w10 (Lt w5.heap.size) cs (.slice ad5 cs.length cap5)) := W0_w8.out.mono (fun _ hk => hk) fun k hk => hb10.block k (Nat.lt_of_lt_of_le hk LE_w8.out)
  have LE_w10 : Hid (w5.heap.size ≤ w10.heap.size) := Nat.le_trans LE_w8.out hb10.size
  have K1_w10 : Hid (KidsFp w10 37 t.kids f1 (.slice ad7 t.kids.length cap7)) := K1_w8.out.keep fun k hk => hb10.block k (K1_w8.out.lt k hk)
  have BX_w10 : Hid (w10.heap[w7.heap.size]? = some (.cells #[.int .i64 t.op, .int .i64 t.num, (.slice ad7 t.kids.length cap7)] 37)) := (hb10.block _ (cellsOf_lt BX_w8.out)).trans BX_w8.out
  have HB_w10 : Hid (Below w.heap.size w w10) := HB_w8.out.trans (hb10.mono HB_w8.out.size)
  have HF_f3 : Hid (True ∧ ∀ k ∈ f3, w8.heap.size ≤ k ∧ k < w10.heap.size) := ⟨trivial, hlo⟩
  have HIF := mkHid hif
  obtain ⟨ad10, cap10, rfl⟩ := hif.form
  have K3_w10 : Hid (InsFp w10 f3 cs (.slice ad10 cs.length cap10)) := HIF.out
  clear HIF hif hlo hb10 hv10
  have tb : (b != b) = false := by simp
  go_wp2_with fail
  refine (eqCode_calls cs _ _ _ K3_w10.out.inn (W0_w10.out.mono (fun k hk => Nat.lt_of_lt_of_le hk LE_w10.out) fun _ _ => rfl)).mono ?_
  rintro en w12 ⟨rfl, hb12⟩
  have BA_w12 : Hid (w12.heap[w.heap.size]? = some (.cells #[.int .i64 t.op, .int .i64 t.num, (.slice ad t.kids.length cap)] 31)) := (hb12.block _ (cellsOf_lt BA_w10.out)).trans BA_w10.out
  have W0_w12 : Hid (InsOn w12 (Lt w5.heap.size) cs (.slice ad5 cs.length cap5)) := W0_w10.out.mono (fun _ hk => hk) fun k hk => hb12.block k (Nat.lt_of_lt_of_le hk LE_w10.out)
  have LE_w12 : Hid (w5.heap.size ≤ w12.heap.size) := Nat.le_trans LE_w10.out hb12.size
  have K1_w12 : Hid (KidsFp w12 37 t.kids f1 (.slice ad7 t.kids.length cap7)) := K1_w10.out.keep fun k hk => hb12.block k (K1_w10.out.lt k hk)
  have BX_w12 : Hid (w12.heap[w7.heap.size]? = some (.cells #[.int .i64 t.op, .int .i64 t.num, (.slice ad7 t.kids.length cap7)] 37)) := (hb12.block _ (cellsOf_lt BX_w10.out)).trans BX_w10.out
  have K3_w12 : Hid (InsFp w12 f3 cs (.slice ad10 cs.length cap10)) := K3_w10.out.keep fun k hk => hb12.block k (K3_w10.out.lt k hk)
  have HB_w12 : Hid (Below w.heap.size w w12) := HB_w10.out.trans (hb12.mono HB_w10.out.size)
  clear hb12
  have bx0 := cell_of_blk BX_w12.out 0 _ rfl
  have bx1 := cell_of_blk BX_w12.out 1 _ rfl
  have bx2 := cell_of_blk BX_w12.out 2 _ rfl
  have bxz := cellsOf_lt BX_w12.out
  have ba0 := cell_of_blk BA_w12.out 0 _ rfl
  have ba1 := cell_of_blk BA_w12.out 1 _ rfl
  have ba2 := cell_of_blk BA_w12.out 2 _ rfl
  have baz := cellsOf_lt BA_w12.out
  go_wp2_with fail
  have HKA : Hid (In w12 t.kids (.slice ad t.kids.length cap)) := HK.out.next HB_w12.out
  have HKX : Hid (In w12 t.kids (.slice ad7 t.kids.length cap7)) := (K1_w12.out.on fun k hk => K1_w12.out.lt k hk)
  go_region_with (first
    | (go_at_call 16; go_must (refine (to_calls t.kids _ _ _ _ ?_ HZ.out).mono ?_); go_must (exact HKA.out.drew); go_must (rintro en w13 ⟨v13, rfl, hv13, hb13⟩); go_must (have HV13 : Hid (In w13 t.kids v13) := hv13.btw_in); go_must (have HB13 : Hid (Below w12.heap.size w12 w13) := (Below.refl _ _).drew.trans hb13); go_must (have bxx := (HB13.out.block _ bxz).trans BX_w12.out); go_must (have y0 := cell_of_blk bxx 0 _ rfl); go_must (have y1 := cell_of_blk bxx 1 _ rfl); go_must (have y2 := cell_of_blk bxx 2 _ rfl); clear hv13 hb13 bxx)
    | (go_at_call 18; go_must (refine (eq_calls t.kids _ _ _ _ _ ?_ ?_).mono ?_); go_must (exact HKX.out.next HB13.out); go_must (exact HV13.out); go_must (rintro en w14 ⟨rfl, hb14⟩); go_must (have HB14 : Hid (Below w12.heap.size w12 w14) := HB13.out.trans (hb14.mono HB13.out.size)); clear hb14))
  all_goals
    clear bx0 bx1 bx2 bxz ba0 ba1 ba2 baz
    try clear y0 y1 y2
    have BA_w14 : Hid (w14.heap[w.heap.size]? = some (.cells #[.int .i64 t.op, .int .i64 t.num, (.slice ad t.kids.length cap)] 31)) := (HB14.out.block _ (cellsOf_lt BA_w12.out)).trans BA_w12.out
    have W0_w14 : Hid (InsOn w14 (Lt w5.heap.size) cs (.slice ad5 cs.length cap5)) := W0_w12.out.mono (fun _ hk => hk) fun k hk => HB14.out.block k (Nat.lt_of_lt_of_le hk LE_w12.out)
    have LE_w14 : Hid (w5.heap.size ≤ w14.heap.size) := Nat.le_trans LE_w12.out HB14.out.size
    have K1_w14 : Hid (KidsFp w14 37 t.kids f1 (.slice ad7 t.kids.length cap7)) := K1_w12.out.keep fun k hk => HB14.out.block k (K1_w12.out.lt k hk)
    have BX_w14 : Hid (w14.heap[w7.heap.size]? = some (.cells #[.int .i64 t.op, .int .i64 t.num, (.slice ad7 t.kids.length cap7)] 37)) := (HB14.out.block _ (cellsOf_lt BX_w12.out)).trans BX_w12.out
    have K3_w14 : Hid (InsFp w14 f3 cs (.slice ad10 cs.length cap10)) := K3_w12.out.keep fun k hk => HB14.out.block k (K3_w12.out.lt k hk)
    have HB_w14 : Hid (Below w.heap.size w w14) := HB_w12.out.trans (HB14.out.mono HB_w12.out.size)
    have bx0 := cell_of_blk BX_w14.out 0 _ rfl
    have bx1 := cell_of_blk BX_w14.out 1 _ rfl
    have bx2 := cell_of_blk BX_w14.out 2 _ rfl
    have bxz := cellsOf_lt BX_w14.out
    go_wp2_with fail
    -- the argument is marked
    refine (mark_calls t.kids _ _ f1 _ 1 w14 K1_w14.out HF_f1.out.1 (by omega) (by have := HZ.out; omega)).mono ?_
    rintro en w17 ⟨rfl, -, hb17⟩
    clear bx0 bx1 bx2 bxz
    have BA_w17 : Hid (w17.heap[w.heap.size]? = some (.cells #[.int .i64 t.op, .int .i64 t.num, (.slice ad t.kids.length cap)] 31)) := (hb17.block _ (cellsOf_lt BA_w14.out) (fun h => by have := (HF_f1.out.2 _ h); have := S5.out; have := S7.out; have := S8.out; have := S10.out; omega)).trans BA_w14.out
    have W0_w17 : Hid (InsOn w17 (Lt w5.heap.size) cs (.slice ad5 cs.length cap5)) := W0_w14.out.mono (fun _ hk => hk) fun k (hk : k < _) => hb17.block k (Nat.lt_of_lt_of_le hk LE_w14.out) (fun h => by have := (HF_f1.out.2 _ h); have := S5.out; have := S7.out; have := S8.out; have := S10.out; omega)
    have LE_w17 : Hid (w5.heap.size ≤ w17.heap.size) := Nat.le_trans LE_w14.out hb17.size
    have K3_w17 : Hid (InsFp w17 f3 cs (.slice ad10 cs.length cap10)) := K3_w14.out.keep fun k hk => hb17.block k (K3_w14.out.lt k hk) (fun h => by have := (HF_f1.out.2 _ h); have := (HF_f3.out.2 _ hk); have := S5.out; have := S7.out; have := S8.out; have := S10.out; omega)
    have HB_w17 : Hid (Below w.heap.size w w17) := HB_w14.out.trans (hb17.below (fun k h => by have := (HF_f1.out.2 _ h); have := S5.out; have := S7.out; have := S8.out; have := S10.out; omega) HB_w14.out.size)
    clear hb17
    obtain ⟨kk, hkk⟩ : ∃ kk : Int, kk = 1 + 2 * (szL t.kids : Int) := ⟨_, rfl⟩
    have hk0 : 0 ≤ kk := by omega
    rw [← hkk]
    clear hkk
    go_wp2_with fail
    refine (eqCode_calls cs _ _ _ K3_w17.out.inn (W0_w17.out.mono (fun k hk => Nat.lt_of_lt_of_le hk LE_w17.out) fun _ _ => rfl)).mono ?_
    rintro en w19 ⟨rfl, hb19⟩
    have BA_w19 : Hid (w19.heap[w.heap.size]? = some (.cells #[.int .i64 t.op, .int .i64 t.num, (.slice ad t.kids.length cap)] 31)) := (hb19.block _ (cellsOf_lt BA_w17.out)).trans BA_w17.out
    have W0_w19 : Hid (InsOn w19 (Lt w5.heap.size) cs (.slice ad5 cs.length cap5)) := W0_w17.out.mono (fun _ hk => hk) fun k hk => hb19.block k (Nat.lt_of_lt_of_le hk LE_w17.out)
    have LE_w19 : Hid (w5.heap.size ≤ w19.heap.size) := Nat.le_trans LE_w17.out hb19.size
    have K3_w19 : Hid (InsFp w19 f3 cs (.slice ad10 cs.length cap10)) := K3_w17.out.keep fun k hk => hb19.block k (K3_w17.out.lt k hk)
    have HB_w19 : Hid (Below w.heap.size w w19) := HB_w17.out.trans (hb19.mono HB_w17.out.size)
    clear hb19
    go_wp2_with fail
    -- the answer is marked
    refine (markFp_calls cs f3 _ 1 w19 K3_w19.out (by omega) (by have := HGS.out; omega)).mono ?_
    rintro en w20 ⟨rfl, hk20, hb20⟩
    have BA_w20 : Hid (w20.heap[w.heap.size]? = some (.cells #[.int .i64 t.op, .int .i64 t.num, (.slice ad t.kids.length cap)] 31)) := (hb20.block _ (cellsOf_lt BA_w19.out) (fun h => by have := (HF_f3.out.2 _ h); have := S5.out; have := S7.out; have := S8.out; have := S10.out; omega)).trans BA_w19.out
    have W0_w20 : Hid (InsOn w20 (Lt w5.heap.size) cs (.slice ad5 cs.length cap5)) := W0_w19.out.mono (fun _ hk => hk) fun k (hk : k < _) => hb20.block k (Nat.lt_of_lt_of_le hk LE_w19.out) (fun h => by have := (HF_f3.out.2 _ h); have := S5.out; have := S7.out; have := S8.out; have := S10.out; omega)
    have LE_w20 : Hid (w5.heap.size ≤ w20.heap.size) := Nat.le_trans LE_w19.out hb20.size
    have HB_w20 : Hid (Below w.heap.size w w20) := HB_w19.out.trans (hb20.below (fun k h => by have := (HF_f3.out.2 _ h); have := S5.out; have := S7.out; have := S8.out; have := S10.out; omega) HB_w19.out.size)
    have K4_w20 : Hid (InsFp w20 f3 (labI 1 cs.length) (.slice ad10 cs.length cap10)) := hk20
    clear hb20 hk20
    obtain ⟨mm, hmm⟩ : ∃ mm : Int, mm = 1 + 2 * (cs.length : Int) := ⟨_, rfl⟩
    have HM : Hid (mm = 1 + 2 * (cs.length : Int)) := hmm
    have hm0 : 0 ≤ mm := by omega
    rw [← hmm]
    clear hmm
    go_wp2_with fail
    refine (heldIns_calls cs.length _ 1 w20 K4_w20.out.inn (by omega) (by have := HGS.out; omega)).mono ?_
    rintro en w21 ⟨rfl, hb21⟩
    rw [← HM.out]
    have BA_w21 : Hid (w21.heap[w.heap.size]? = some (.cells #[.int .i64 t.op, .int .i64 t.num, (.slice ad t.kids.length cap)] 31)) := (hb21.block _ (cellsOf_lt BA_w20.out)).trans BA_w20.out
    have W0_w21 : Hid (InsOn w21 (Lt w5.heap.size) cs (.slice ad5 cs.length cap5)) := W0_w20.out.mono (fun _ hk => hk) fun k hk => hb21.block k (Nat.lt_of_lt_of_le hk LE_w20.out)
    have LE_w21 : Hid (w5.heap.size ≤ w21.heap.size) := Nat.le_trans LE_w20.out hb21.size
    have K4_w21 : Hid (InsFp w21 f3 (labI 1 cs.length) (.slice ad10 cs.length cap10)) := K4_w20.out.keep fun k hk => hb21.block k (K4_w20.out.lt k hk)
    have HB_w21 : Hid (Below w.heap.size w w21) := HB_w20.out.trans (hb21.mono HB_w20.out.size)
    clear hb21
    have tm : (mm != mm) = false := by simp
    have ba0 := cell_of_blk BA_w21.out 0 _ rfl
    have ba1 := cell_of_blk BA_w21.out 1 _ rfl
    have ba2 := cell_of_blk BA_w21.out 2 _ rfl
    have baz := cellsOf_lt BA_w21.out
    go_wp2_with fail
    -- called once more
    refine (to_calls t.kids _ _ _ _ (HK.out.next HB_w21.out) HZ.out).mono ?_
    rintro en w22 ⟨v22, rfl, hv22, hb22⟩
    clear ba0 ba1 ba2 baz
    have W0_w22 : Hid (InsOn w22 (Lt w5.heap.size) cs (.slice ad5 cs.length cap5)) := W0_w21.out.mono (fun _ hk => hk) fun k hk => hb22.block k (Nat.lt_of_lt_of_le hk LE_w21.out)
    have LE_w22 : Hid (w5.heap.size ≤ w22.heap.size) := Nat.le_trans LE_w21.out hb22.size
    have K4_w22 : Hid (InsFp w22 f3 (labI 1 cs.length) (.slice ad10 cs.length cap10)) := K4_w21.out.keep fun k hk => hb22.block k (K4_w21.out.lt k hk)
    have HB_w22 : Hid (Below w.heap.size w w22) := HB_w21.out.trans (hb22.mono HB_w21.out.size)
    have V22_w22 : Hid (In w22 t.kids v22) := hv22.btw_in
    clear hv22 hb22
    go_wp2_with fail
    refine (HSI.out _ _ V22_w22.out).mono ?_
    rintro en w24 ⟨v24, rfl, hv24, hb24⟩
    have W0_w24 : Hid (InsOn w24 (Lt w5.heap.size) cs (.slice ad5 cs.length cap5)) := W0_w22.out.mono (fun _ hk => hk) fun k hk => hb24.block k (Nat.lt_of_lt_of_le hk LE_w22.out)
    have LE_w24 : Hid (w5.heap.size ≤ w24.heap.size) := Nat.le_trans LE_w22.out hb24.size
    have K4_w24 : Hid (InsFp w24 f3 (labI 1 cs.length) (.slice ad10 cs.length cap10)) := K4_w22.out.keep fun k hk => hb24.block k (K4_w22.out.lt k hk)
    have HB_w24 : Hid (Below w.heap.size w w24) := HB_w22.out.trans (hb24.mono HB_w22.out.size)
    obtain ⟨ad24, cap24, rfl, -, -, -⟩ := id hv24
    have V24_w24 : Hid (InsIn w24 cs (.slice ad24 cs.length cap24)) := hv24.inn
    clear hv24 hb24
    go_wp2_with fail
    refine (eqCode_calls cs _ _ _ V24_w24.out (W0_w24.out.mono (fun k hk => Nat.lt_of_lt_of_le hk LE_w24.out) fun _ _ => rfl)).mono ?_
    rintro en w25 ⟨rfl, hb25⟩
    have W0_w25 : Hid (InsOn w25 (Lt w5.heap.size) cs (.slice ad5 cs.length cap5)) := W0_w24.out.mono (fun _ hk => hk) fun k hk => hb25.block k (Nat.lt_of_lt_of_le hk LE_w24.out)
    have LE_w25 : Hid (w5.heap.size ≤ w25.heap.size) := Nat.le_trans LE_w24.out hb25.size
    have K4_w25 : Hid (InsFp w25 f3 (labI 1 cs.length) (.slice ad10 cs.length cap10)) := K4_w24.out.keep fun k hk => hb25.block k (K4_w24.out.lt k hk)
    have HB_w25 : Hid (Below w.heap.size w w25) := HB_w24.out.trans (hb25.mono HB_w24.out.size)
    clear hb25
    go_wp2_with fail
    refine (heldIns_calls cs.length _ 1 w25 K4_w25.out.inn (by omega) (by have := HGS.out; omega)).mono ?_
    rintro en w26 ⟨rfl, hb26⟩
    rw [← HM.out]
    have HB_w26 : Hid (Below w.heap.size w w26) := HB_w25.out.trans (hb26.mono HB_w25.out.size)
    clear hb26
    go_wp2_with fail
    go_ret
    exact ⟨rfl, HB_w26.out⟩
end Go.Proofs.Ythknbafcnobgdaa.lawExactCompileExpr
