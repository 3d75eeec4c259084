/-
  THE WALK OF FnExactSubstExpr.
-/
import Derived.Test.YticoegjackgldaaSpecSubst
import Derived.Test.YticoegjackgldaaSubImpl
import Derived.Test.YticoegjackgldaaFresh
import Derived.Test.YticoegjackgldaaMarkS
import Derived.Test.YticoegjackgldaaSz
import Derived.Test.YticoegjackgldaaEq
namespace Go.Proofs.Yticoegjackgldaa.lawExactSubstExpr
open Go.ChangeShapes Go.WideShapes Go.ChangeAt Go.RowKit
set_option linter.unusedVariables false
set_option linter.unusedSimpArgs false

theorem subT_sz (args : List Tr) (e : Tr) : szL (subT args e).kids ≤ 60 := by
  unfold subT
  split
  · rename_i h
    unfold subB at h
    simp only [Bool.and_eq_true] at h
    have := valid_sz h.2
    rw [← szT_eq]
    omega
  · simp [szL]

set_option maxRecDepth 100000 in
set_option maxHeartbeats 6400000 in
theorem walk (t : Tr) (c : Value) (args : List Tr) (av : Value) (w : World) (hk : In w t.kids c) (ha : In w args av) (ht : I64 t.op ∧ I64 t.num) :
    Calls Try.prog 8 #[.agg #[.int .i64 t.op, .int .i64 t.num, c], av] w fun e w' => e = .returned (.bool true) ∧ Below w.heap.size w w' := by
  have HK : Hid (In w t.kids c) := hk
  have HA : Hid (In w args av) := ha
  have HT : Hid (I64 t.op ∧ I64 t.num) := ht
  obtain ⟨ad, cap, rfl, -, -, -⟩ := hk
  obtain ⟨ada, capa, rfl, -, hma, -⟩ := ha
  unfold maxLen at hma
  obtain ⟨g, hg⟩ : ∃ g : Tr, g = subT args t := ⟨_, rfl⟩
  obtain ⟨b, hb⟩ : ∃ b : Bool, b = subB args t := ⟨_, rfl⟩
  have HG : Hid (g = subT args t ∧ b = subB args t) := ⟨hg, hb⟩
  have HGS : Hid (szL g.kids ≤ 60) := by rw [hg]; exact subT_sz args t
  have HSI : Hid (∀ (v1 v2 : Value) (W : World), In W args v1 → In W t.kids v2 → szL args ≤ 1048576 → szL t.kids ≤ 1048576 → Calls Try.prog 33 #[.agg #[.int .i64 t.op, .int .i64 t.num, v2], v1] W fun en w' => ∃ v, en = .returned (.tuple #[.agg #[.int .i64 g.op, .int .i64 g.num, v], .bool b]) ∧ Fresh w' W.heap.size g.kids v ∧ Below W.heap.size W w') := fun v1 v2 W h1 h2 h3 h4 => (implSubst_calls args v1 t v2 W h1 h2 HT.out h3 h4).mono fun en w' h => by
    obtain ⟨v, e1, e2, -, -, e3⟩ := h
    rw [hg, hb]
    exact ⟨v, e1, e2, e3⟩
  have HSS : Hid (∀ (v1 v2 : Value) (W : World), In W args v1 → In W t.kids v2 → szL args ≤ 1048576 → szL t.kids ≤ 1048576 → Calls Try.prog 31 #[.agg #[.int .i64 t.op, .int .i64 t.num, v2], v1] W fun en w' => ∃ v, en = .returned (.tuple #[.agg #[.int .i64 g.op, .int .i64 g.num, v], .bool b]) ∧ In w' g.kids v ∧ Below W.heap.size W w') := fun v1 v2 W h1 h2 h3 h4 => (specSubst_calls args v1 t v2 W h1 h2 HT.out h3 h4).mono fun en w' h => by
    obtain ⟨v, e1, e2, e3⟩ := h
    rw [hg, hb]
    exact ⟨v, e1, e2.btw_in, e3⟩
  have hrg := szOut_range t.kids 1048576 (by omega)
  clear ht hg hb
  go_enter Try.func8, Try.ntmps8
  go_wp2_with fail
  refine (sz_calls t.kids _ _ _ _ _ (HK.out.next (box_below _ _)) (by omega) (by omega)).mono ?_
  rintro en w1 ⟨rfl, hb1⟩
  have BA_w1 : Hid (w1.heap[w.heap.size]? = some (.cells #[.int .i64 t.op, .int .i64 t.num, (.slice ad t.kids.length cap)] 24)) := (hb1.block _ (by rw [Deep.nblk_alloc]; exact Nat.lt_succ_self _)).trans (Deep.blk_alloc_new _ _)
  have HB_w1 : Hid (Below w.heap.size w w1) := (box_below w _).trans (hb1.mono (by rw [Deep.nblk_alloc]; omega))
  clear hb1
  have ba0 := cell_of_blk BA_w1.out 0 _ rfl
  have ba1 := cell_of_blk BA_w1.out 1 _ rfl
  have ba2 := cell_of_blk BA_w1.out 2 _ rfl
  have baz := cellsOf_lt BA_w1.out
  by_cases hneg : szOut t.kids 1048576 < 0
  · go_wp2_with fail
    go_ret
    exact ⟨rfl, HB_w1.out⟩
  have HZ : Hid (szL t.kids ≤ 1048576) := by unfold szOut at hneg; unfold Hid; split at hneg <;> omega
  generalize szOut t.kids 1048576 = left at *
  go_wp2_with fail
  refine (szS_calls args _ _ _ (HA.out.next HB_w1.out) (by omega) (by omega)).mono ?_
  rintro en w2 ⟨rfl, hb2⟩
  clear ba0 ba1 ba2 baz
  have BA_w2 : Hid (w2.heap[w.heap.size]? = some (.cells #[.int .i64 t.op, .int .i64 t.num, (.slice ad t.kids.length cap)] 24)) := (hb2.block _ (cellsOf_lt BA_w1.out)).trans BA_w1.out
  have HB_w2 : Hid (Below w.heap.size w w2) := HB_w1.out.trans (hb2.mono HB_w1.out.size)
  clear hb2
  have ba0 := cell_of_blk BA_w2.out 0 _ rfl
  have ba1 := cell_of_blk BA_w2.out 1 _ rfl
  have ba2 := cell_of_blk BA_w2.out 2 _ rfl
  have baz := cellsOf_lt BA_w2.out
  by_cases hneg2 : szOut args left < 0
  · go_wp2_with fail
    go_ret
    exact ⟨rfl, HB_w2.out⟩
  have HZ2 : Hid (szL args ≤ 1048576) := by unfold szOut at hneg2; unfold Hid; split at hneg2 <;> omega
  clear hrg
  generalize szOut args left = left2 at *
  go_wp2_with fail
  -- the model's answer
  refine (to_calls t.kids _ _ _ _ (HK.out.next HB_w2.out) HZ.out).mono ?_
  rintro en w3 ⟨v3, rfl, hv3, hb3⟩
  clear ba0 ba1 ba2 baz
  have BA_w3 : Hid (w3.heap[w.heap.size]? = some (.cells #[.int .i64 t.op, .int .i64 t.num, (.slice ad t.kids.length cap)] 24)) := (hb3.block _ (cellsOf_lt BA_w2.out)).trans BA_w2.out
  have HB_w3 : Hid (Below w.heap.size w w3) := HB_w2.out.trans (hb3.mono HB_w2.out.size)
  have V3_w3 : Hid (In w3 t.kids v3) := hv3.btw_in
  clear hv3 hb3
  go_wp2_with fail
  refine (toS_calls args _ _ (HA.out.next HB_w3.out) HZ2.out).mono ?_
  rintro en w4 ⟨v4, rfl, hv4, hb4⟩
  have BA_w4 : Hid (w4.heap[w.heap.size]? = some (.cells #[.int .i64 t.op, .int .i64 t.num, (.slice ad t.kids.length cap)] 24)) := (hb4.block _ (cellsOf_lt BA_w3.out)).trans BA_w3.out
  have V3_w4 : Hid (In w4 t.kids v3) := V3_w3.out.next hb4
  have HB_w4 : Hid (Below w.heap.size w w4) := HB_w3.out.trans (hb4.mono HB_w3.out.size)
  have V4_w4 : Hid (In w4 args v4) := hv4.btw_in
  clear hv4 hb4
  go_wp2_with fail
  refine (HSS.out _ _ _ V4_w4.out V3_w4.out HZ2.out HZ.out).mono ?_
  rintro en w5 ⟨v5, rfl, hv5, hb5⟩
  have BA_w5 : Hid (w5.heap[w.heap.size]? = some (.cells #[.int .i64 t.op, .int .i64 t.num, (.slice ad t.kids.length cap)] 24)) := (hb5.block _ (cellsOf_lt BA_w4.out)).trans BA_w4.out
  have HB_w5 : Hid (Below w.heap.size w w5) := HB_w4.out.trans (hb5.mono HB_w4.out.size)
  have W0_w5 : Hid (KidsOn w5 (Lt w5.heap.size) g.kids v5) := hv5
  have LE_w5 : Hid (w5.heap.size ≤ w5.heap.size) := Nat.le_refl _
  obtain ⟨ad5, cap5, rfl, -, -, -⟩ := hv5
  clear hb5
  have ba0 := cell_of_blk BA_w5.out 0 _ rfl
  have ba1 := cell_of_blk BA_w5.out 1 _ rfl
  have ba2 := cell_of_blk BA_w5.out 2 _ rfl
  have baz := cellsOf_lt BA_w5.out
  go_wp2_with fail
  obtain ⟨w6, hw6⟩ : ∃ w6 : World, w6 = w5.alloc (.cells #[.int .i64 g.op, .int .i64 g.num, .slice ad5 g.kids.length cap5] 29) := ⟨_, rfl⟩
  rw [← hw6]
  have hbw6 : Below w5.heap.size w5 w6 := by rw [hw6]; exact box_below _ _
  clear ba0 ba1 ba2 baz
  have BA_w6 : Hid (w6.heap[w.heap.size]? = some (.cells #[.int .i64 t.op, .int .i64 t.num, (.slice ad t.kids.length cap)] 24)) := (hbw6.block _ (cellsOf_lt BA_w5.out)).trans BA_w5.out
  have W0_w6 : Hid (KidsOn w6 (Lt w5.heap.size) g.kids (.slice ad5 g.kids.length cap5)) := W0_w5.out.mono (fun _ hk => hk) fun k hk => hbw6.block k (Nat.lt_of_lt_of_le hk LE_w5.out)
  have LE_w6 : Hid (w5.heap.size ≤ w6.heap.size) := Nat.le_trans LE_w5.out hbw6.size
  have HB_w6 : Hid (Below w.heap.size w w6) := HB_w5.out.trans (hbw6.mono HB_w5.out.size)
  have BW_w6 : Hid (w6.heap[w5.heap.size]? = some (.cells #[.int .i64 g.op, .int .i64 g.num, (.slice ad5 g.kids.length cap5)] 29)) := by rw [hw6]; exact Deep.blk_alloc_new _ _
  have S6 : Hid (w6.heap.size = w5.heap.size + 1) := by rw [hw6]; exact Deep.nblk_alloc _ _
  clear hw6 hbw6
  -- the program's arguments
  refine (fto_calls t.kids _ _ _ _ (HK.out.next HB_w6.out) HZ.out).mono ?_
  rintro en w7 ⟨v7, rfl, hv7, hb7⟩
  obtain ⟨f1, hkf, hnd, hlo⟩ := hv7
  have S5 : Hid (w.heap.size < w5.heap.size) := cellsOf_lt BA_w5.out
  have S7 : Hid (w6.heap.size ≤ w7.heap.size) := hb7.size
  have BA_w7 : Hid (w7.heap[w.heap.size]? = some (.cells #[.int .i64 t.op, .int .i64 t.num, (.slice ad t.kids.length cap)] 24)) := (hb7.block _ (cellsOf_lt BA_w6.out)).trans BA_w6.out
  have W0_w7 : Hid (KidsOn w7 (Lt w5.heap.size) g.kids (.slice ad5 g.kids.length cap5)) := W0_w6.out.mono (fun _ hk => hk) fun k hk => hb7.block k (Nat.lt_of_lt_of_le hk LE_w6.out)
  have LE_w7 : Hid (w5.heap.size ≤ w7.heap.size) := Nat.le_trans LE_w6.out hb7.size
  have BW_w7 : Hid (w7.heap[w5.heap.size]? = some (.cells #[.int .i64 g.op, .int .i64 g.num, (.slice ad5 g.kids.length cap5)] 29)) := (hb7.block _ (cellsOf_lt BW_w6.out)).trans BW_w6.out
  have HB_w7 : Hid (Below w.heap.size w w7) := HB_w6.out.trans (hb7.mono HB_w6.out.size)
  have HF_f1 : Hid (f1.Nodup ∧ ∀ k ∈ f1, w6.heap.size ≤ k ∧ k < w7.heap.size) := ⟨hnd, fun k hk => ⟨hlo k hk, hkf.lt k hk⟩⟩
  have HKF : Hid _ := hkf
  obtain ⟨ad7, cap7, rfl, -, -, -⟩ := hkf
  have K1_w7 : Hid (KidsFp w7 29 t.kids f1 (.slice ad7 t.kids.length cap7)) := HKF.out
  clear HKF hnd hlo hb7
  have ba0 := cell_of_blk BA_w7.out 0 _ rfl
  have ba1 := cell_of_blk BA_w7.out 1 _ rfl
  have ba2 := cell_of_blk BA_w7.out 2 _ rfl
  have baz := cellsOf_lt BA_w7.out
  go_wp2_with fail
  obtain ⟨w8, hw8⟩ : ∃ w8 : World, w8 = w7.alloc (.cells #[.int .i64 t.op, .int .i64 t.num, .slice ad7 t.kids.length cap7] 29) := ⟨_, rfl⟩
  rw [← hw8]
  have hbw8 : Below w7.heap.size w7 w8 := by rw [hw8]; exact box_below _ _
  clear ba0 ba1 ba2 baz
  have BA_w8 : Hid (w8.heap[w.heap.size]? = some (.cells #[.int .i64 t.op, .int .i64 t.num, (.slice ad t.kids.length cap)] 24)) := (hbw8.block _ (cellsOf_lt BA_w7.out)).trans BA_w7.out
  have W0_w8 : Hid (KidsOn w8 (Lt w5.heap.size) g.kids (.slice ad5 g.kids.length cap5)) := W0_w7.out.mono (fun _ hk => hk) fun k hk => hbw8.block k (Nat.lt_of_lt_of_le hk LE_w7.out)
  have LE_w8 : Hid (w5.heap.size ≤ w8.heap.size) := Nat.le_trans LE_w7.out hbw8.size
  have BW_w8 : Hid (w8.heap[w5.heap.size]? = some (.cells #[.int .i64 g.op, .int .i64 g.num, (.slice ad5 g.kids.length cap5)] 29)) := (hbw8.block _ (cellsOf_lt BW_w7.out)).trans BW_w7.out
  have K1_w8 : Hid (KidsFp w8 29 t.kids f1 (.slice ad7 t.kids.length cap7)) := K1_w7.out.keep fun k hk => hbw8.block k (K1_w7.out.lt k hk)
  have HB_w8 : Hid (Below w.heap.size w w8) := HB_w7.out.trans (hbw8.mono HB_w7.out.size)
  have BX_w8 : Hid (w8.heap[w7.heap.size]? = some (.cells #[.int .i64 t.op, .int .i64 t.num, (.slice ad7 t.kids.length cap7)] 29)) := by rw [hw8]; exact Deep.blk_alloc_new _ _
  have S8 : Hid (w8.heap.size = w7.heap.size + 1) := by rw [hw8]; exact Deep.nblk_alloc _ _
  clear hw8 hbw8
  refine (ftoS_calls args _ _ (HA.out.next HB_w8.out) HZ2.out).mono ?_
  rintro en w9 ⟨v9, rfl, hv9, hb9⟩
  obtain ⟨f2, hkf, hnd, hlo⟩ := hv9
  have S9 : Hid (w8.heap.size ≤ w9.heap.size) := hb9.size
  have BA_w9 : Hid (w9.heap[w.heap.size]? = some (.cells #[.int .i64 t.op, .int .i64 t.num, (.slice ad t.kids.length cap)] 24)) := (hb9.block _ (cellsOf_lt BA_w8.out)).trans BA_w8.out
  have W0_w9 : Hid (KidsOn w9 (Lt w5.heap.size) g.kids (.slice ad5 g.kids.length cap5)) := W0_w8.out.mono (fun _ hk => hk) fun k hk => hb9.block k (Nat.lt_of_lt_of_le hk LE_w8.out)
  have LE_w9 : Hid (w5.heap.size ≤ w9.heap.size) := Nat.le_trans LE_w8.out hb9.size
  have BW_w9 : Hid (w9.heap[w5.heap.size]? = some (.cells #[.int .i64 g.op, .int .i64 g.num, (.slice ad5 g.kids.length cap5)] 29)) := (hb9.block _ (cellsOf_lt BW_w8.out)).trans BW_w8.out
  have K1_w9 : Hid (KidsFp w9 29 t.kids f1 (.slice ad7 t.kids.length cap7)) := K1_w8.out.keep fun k hk => hb9.block k (K1_w8.out.lt k hk)
  have BX_w9 : Hid (w9.heap[w7.heap.size]? = some (.cells #[.int .i64 t.op, .int .i64 t.num, (.slice ad7 t.kids.length cap7)] 29)) := (hb9.block _ (cellsOf_lt BX_w8.out)).trans BX_w8.out
  have HB_w9 : Hid (Below w.heap.size w w9) := HB_w8.out.trans (hb9.mono HB_w8.out.size)
  have HF_f2 : Hid (f2.Nodup ∧ ∀ k ∈ f2, w8.heap.size ≤ k ∧ k < w9.heap.size) := ⟨hnd, fun k hk => ⟨hlo k hk, hkf.lt k hk⟩⟩
  have HKF : Hid _ := hkf
  obtain ⟨ad9, cap9, rfl, -, -, -⟩ := hkf
  have K2_w9 : Hid (KidsFp w9 29 args f2 (.slice ad9 args.length cap9)) := HKF.out
  clear HKF hnd hlo hb9
  have bx0 := cell_of_blk BX_w9.out 0 _ rfl
  have bx1 := cell_of_blk BX_w9.out 1 _ rfl
  have bx2 := cell_of_blk BX_w9.out 2 _ rfl
  have bxz := cellsOf_lt BX_w9.out
  go_wp2_with fail
  -- the program's answer
  refine (HSI.out _ _ _ (K2_w9.out.on fun k hk => K2_w9.out.lt k hk) (K1_w9.out.on fun k hk => K1_w9.out.lt k hk) HZ2.out HZ.out).mono ?_
  rintro en w10 ⟨v10, rfl, hv10, hb10⟩
  obtain ⟨f3, hkf, hnd, hlo⟩ := hv10
  clear bx0 bx1 bx2 bxz
  have S10 : Hid (w9.heap.size ≤ w10.heap.size) := hb10.size
  have BA_w10 : Hid (w10.heap[w.heap.size]? = some (.cells #[.int .i64 t.op, .int .i64 t.num, (.slice ad t.kids.length cap)] 24)) := (hb10.block _ (cellsOf_lt BA_w9.out)).trans BA_w9.out
  have W0_w10 : Hid (KidsOn w10 (Lt w5.heap.size) g.kids (.slice ad5 g.kids.length cap5)) := W0_w9.out.mono (fun _ hk => hk) fun k hk => hb10.block k (Nat.lt_of_lt_of_le hk LE_w9.out)
  have LE_w10 : Hid (w5.heap.size ≤ w10.heap.size) := Nat.le_trans LE_w9.out hb10.size
  have BW_w10 : Hid (w10.heap[w5.heap.size]? = some (.cells #[.int .i64 g.op, .int .i64 g.num, (.slice ad5 g.kids.length cap5)] 29)) := (hb10.block _ (cellsOf_lt BW_w9.out)).trans BW_w9.out
  have K1_w10 : Hid (KidsFp w10 29 t.kids f1 (.slice ad7 t.kids.length cap7)) := K1_w9.out.keep fun k hk => hb10.block k (K1_w9.out.lt k hk)
  have BX_w10 : Hid (w10.heap[w7.heap.size]? = some (.cells #[.int .i64 t.op, .int .i64 t.num, (.slice ad7 t.kids.length cap7)] 29)) := (hb10.block _ (cellsOf_lt BX_w9.out)).trans BX_w9.out
  have K2_w10 : Hid (KidsFp w10 29 args f2 (.slice ad9 args.length cap9)) := K2_w9.out.keep fun k hk => hb10.block k (K2_w9.out.lt k hk)
  have HB_w10 : Hid (Below w.heap.size w w10) := HB_w9.out.trans (hb10.mono HB_w9.out.size)
  have HF_f3 : Hid (f3.Nodup ∧ ∀ k ∈ f3, w9.heap.size ≤ k ∧ k < w10.heap.size) := ⟨hnd, fun k hk => ⟨hlo k hk, hkf.lt k hk⟩⟩
  have HKF : Hid _ := hkf
  obtain ⟨ad10, cap10, rfl, -, -, -⟩ := hkf
  have K3_w10 : Hid (KidsFp w10 29 g.kids f3 (.slice ad10 g.kids.length cap10)) := HKF.out
  clear HKF hnd hlo hb10
  have bw0 := cell_of_blk BW_w10.out 0 _ rfl
  have bw1 := cell_of_blk BW_w10.out 1 _ rfl
  have bw2 := cell_of_blk BW_w10.out 2 _ rfl
  have bwz := cellsOf_lt BW_w10.out
  go_wp2_with fail
  obtain ⟨w11, hw11⟩ : ∃ w11 : World, w11 = w10.alloc (.cells #[.int .i64 g.op, .int .i64 g.num, .slice ad10 g.kids.length cap10] 29) := ⟨_, rfl⟩
  rw [← hw11]
  have hbw11 : Below w10.heap.size w10 w11 := by rw [hw11]; exact box_below _ _
  clear bw0 bw1 bw2 bwz
  have BA_w11 : Hid (w11.heap[w.heap.size]? = some (.cells #[.int .i64 t.op, .int .i64 t.num, (.slice ad t.kids.length cap)] 24)) := (hbw11.block _ (cellsOf_lt BA_w10.out)).trans BA_w10.out
  have W0_w11 : Hid (KidsOn w11 (Lt w5.heap.size) g.kids (.slice ad5 g.kids.length cap5)) := W0_w10.out.mono (fun _ hk => hk) fun k hk => hbw11.block k (Nat.lt_of_lt_of_le hk LE_w10.out)
  have LE_w11 : Hid (w5.heap.size ≤ w11.heap.size) := Nat.le_trans LE_w10.out hbw11.size
  have BW_w11 : Hid (w11.heap[w5.heap.size]? = some (.cells #[.int .i64 g.op, .int .i64 g.num, (.slice ad5 g.kids.length cap5)] 29)) := (hbw11.block _ (cellsOf_lt BW_w10.out)).trans BW_w10.out
  have K1_w11 : Hid (KidsFp w11 29 t.kids f1 (.slice ad7 t.kids.length cap7)) := K1_w10.out.keep fun k hk => hbw11.block k (K1_w10.out.lt k hk)
  have BX_w11 : Hid (w11.heap[w7.heap.size]? = some (.cells #[.int .i64 t.op, .int .i64 t.num, (.slice ad7 t.kids.length cap7)] 29)) := (hbw11.block _ (cellsOf_lt BX_w10.out)).trans BX_w10.out
  have K2_w11 : Hid (KidsFp w11 29 args f2 (.slice ad9 args.length cap9)) := K2_w10.out.keep fun k hk => hbw11.block k (K2_w10.out.lt k hk)
  have K3_w11 : Hid (KidsFp w11 29 g.kids f3 (.slice ad10 g.kids.length cap10)) := K3_w10.out.keep fun k hk => hbw11.block k (K3_w10.out.lt k hk)
  have HB_w11 : Hid (Below w.heap.size w w11) := HB_w10.out.trans (hbw11.mono HB_w10.out.size)
  have BG_w11 : Hid (w11.heap[w10.heap.size]? = some (.cells #[.int .i64 g.op, .int .i64 g.num, (.slice ad10 g.kids.length cap10)] 29)) := by rw [hw11]; exact Deep.blk_alloc_new _ _
  clear hw11 hbw11
  have tb : (b != b) = false := by simp
  refine (eq_calls g.kids _ _ _ _ _ (K3_w11.out.on fun k hk => K3_w11.out.lt k hk) (W0_w11.out.mono (fun k hk => Nat.lt_of_lt_of_le hk LE_w11.out) fun _ _ => rfl)).mono ?_
  rintro en w12 ⟨rfl, hb12⟩
  have BA_w12 : Hid (w12.heap[w.heap.size]? = some (.cells #[.int .i64 t.op, .int .i64 t.num, (.slice ad t.kids.length cap)] 24)) := (hb12.block _ (cellsOf_lt BA_w11.out)).trans BA_w11.out
  have W0_w12 : Hid (KidsOn w12 (Lt w5.heap.size) g.kids (.slice ad5 g.kids.length cap5)) := W0_w11.out.mono (fun _ hk => hk) fun k hk => hb12.block k (Nat.lt_of_lt_of_le hk LE_w11.out)
  have LE_w12 : Hid (w5.heap.size ≤ w12.heap.size) := Nat.le_trans LE_w11.out hb12.size
  have BW_w12 : Hid (w12.heap[w5.heap.size]? = some (.cells #[.int .i64 g.op, .int .i64 g.num, (.slice ad5 g.kids.length cap5)] 29)) := (hb12.block _ (cellsOf_lt BW_w11.out)).trans BW_w11.out
  have K1_w12 : Hid (KidsFp w12 29 t.kids f1 (.slice ad7 t.kids.length cap7)) := K1_w11.out.keep fun k hk => hb12.block k (K1_w11.out.lt k hk)
  have BX_w12 : Hid (w12.heap[w7.heap.size]? = some (.cells #[.int .i64 t.op, .int .i64 t.num, (.slice ad7 t.kids.length cap7)] 29)) := (hb12.block _ (cellsOf_lt BX_w11.out)).trans BX_w11.out
  have K2_w12 : Hid (KidsFp w12 29 args f2 (.slice ad9 args.length cap9)) := K2_w11.out.keep fun k hk => hb12.block k (K2_w11.out.lt k hk)
  have K3_w12 : Hid (KidsFp w12 29 g.kids f3 (.slice ad10 g.kids.length cap10)) := K3_w11.out.keep fun k hk => hb12.block k (K3_w11.out.lt k hk)
  have BG_w12 : Hid (w12.heap[w10.heap.size]? = some (.cells #[.int .i64 g.op, .int .i64 g.num, (.slice ad10 g.kids.length cap10)] 29)) := (hb12.block _ (cellsOf_lt BG_w11.out)).trans BG_w11.out
  have HB_w12 : Hid (Below w.heap.size w w12) := HB_w11.out.trans (hb12.mono HB_w11.out.size)
  clear hb12
  have bx0 := cell_of_blk BX_w12.out 0 _ rfl
  have bx1 := cell_of_blk BX_w12.out 1 _ rfl
  have bx2 := cell_of_blk BX_w12.out 2 _ rfl
  have bxz := cellsOf_lt BX_w12.out
  have ba0 := cell_of_blk BA_w12.out 0 _ rfl
  have ba1 := cell_of_blk BA_w12.out 1 _ rfl
  have ba2 := cell_of_blk BA_w12.out 2 _ rfl
  have baz := cellsOf_lt BA_w12.out
  go_wp2_with fail
  have HKA : Hid (In w12 t.kids (.slice ad t.kids.length cap)) := HK.out.next HB_w12.out
  have HKX : Hid (In w12 t.kids (.slice ad7 t.kids.length cap7)) := (K1_w12.out.on fun k hk => K1_w12.out.lt k hk)
  go_region_with (first
    | (go_at_call 14; go_must (refine (to_calls t.kids _ _ _ _ ?_ HZ.out).mono ?_); go_must (exact HKA.out.drew); go_must (rintro en w13 ⟨v13, rfl, hv13, hb13⟩); go_must (have HV13 : Hid (In w13 t.kids v13) := hv13.btw_in); go_must (have HB13 : Hid (Below w12.heap.size w12 w13) := (Below.refl _ _).drew.trans hb13); go_must (have bxx := (HB13.out.block _ bxz).trans BX_w12.out); go_must (have y0 := cell_of_blk bxx 0 _ rfl); go_must (have y1 := cell_of_blk bxx 1 _ rfl); go_must (have y2 := cell_of_blk bxx 2 _ rfl); clear hv13 hb13 bxx)
    | (go_at_call 16; go_must (refine (eq_calls t.kids _ _ _ _ _ ?_ ?_).mono ?_); go_must (exact HKX.out.next HB13.out); go_must (exact HV13.out); go_must (rintro en w14 ⟨rfl, hb14⟩); go_must (have HB14 : Hid (Below w12.heap.size w12 w14) := HB13.out.trans (hb14.mono HB13.out.size)); clear hb14))
  all_goals
    clear bx0 bx1 bx2 bxz ba0 ba1 ba2 baz
    try clear y0 y1 y2
    have BA_w14 : Hid (w14.heap[w.heap.size]? = some (.cells #[.int .i64 t.op, .int .i64 t.num, (.slice ad t.kids.length cap)] 24)) := (HB14.out.block _ (cellsOf_lt BA_w12.out)).trans BA_w12.out
    have W0_w14 : Hid (KidsOn w14 (Lt w5.heap.size) g.kids (.slice ad5 g.kids.length cap5)) := W0_w12.out.mono (fun _ hk => hk) fun k hk => HB14.out.block k (Nat.lt_of_lt_of_le hk LE_w12.out)
    have LE_w14 : Hid (w5.heap.size ≤ w14.heap.size) := Nat.le_trans LE_w12.out HB14.out.size
    have BW_w14 : Hid (w14.heap[w5.heap.size]? = some (.cells #[.int .i64 g.op, .int .i64 g.num, (.slice ad5 g.kids.length cap5)] 29)) := (HB14.out.block _ (cellsOf_lt BW_w12.out)).trans BW_w12.out
    have K1_w14 : Hid (KidsFp w14 29 t.kids f1 (.slice ad7 t.kids.length cap7)) := K1_w12.out.keep fun k hk => HB14.out.block k (K1_w12.out.lt k hk)
    have BX_w14 : Hid (w14.heap[w7.heap.size]? = some (.cells #[.int .i64 t.op, .int .i64 t.num, (.slice ad7 t.kids.length cap7)] 29)) := (HB14.out.block _ (cellsOf_lt BX_w12.out)).trans BX_w12.out
    have K2_w14 : Hid (KidsFp w14 29 args f2 (.slice ad9 args.length cap9)) := K2_w12.out.keep fun k hk => HB14.out.block k (K2_w12.out.lt k hk)
    have K3_w14 : Hid (KidsFp w14 29 g.kids f3 (.slice ad10 g.kids.length cap10)) := K3_w12.out.keep fun k hk => HB14.out.block k (K3_w12.out.lt k hk)
    have BG_w14 : Hid (w14.heap[w10.heap.size]? = some (.cells #[.int .i64 g.op, .int .i64 g.num, (.slice ad10 g.kids.length cap10)] 29)) := (HB14.out.block _ (cellsOf_lt BG_w12.out)).trans BG_w12.out
    have HB_w14 : Hid (Below w.heap.size w w14) := HB_w12.out.trans (HB14.out.mono HB_w12.out.size)
    go_wp2_with fail
    refine (toS_calls args _ _ (HA.out.next HB_w14.out) HZ2.out).mono ?_
    rintro en w15 ⟨v15, rfl, hv15, hb15⟩
    have BA_w15 : Hid (w15.heap[w.heap.size]? = some (.cells #[.int .i64 t.op, .int .i64 t.num, (.slice ad t.kids.length cap)] 24)) := (hb15.block _ (cellsOf_lt BA_w14.out)).trans BA_w14.out
    have W0_w15 : Hid (KidsOn w15 (Lt w5.heap.size) g.kids (.slice ad5 g.kids.length cap5)) := W0_w14.out.mono (fun _ hk => hk) fun k hk => hb15.block k (Nat.lt_of_lt_of_le hk LE_w14.out)
    have LE_w15 : Hid (w5.heap.size ≤ w15.heap.size) := Nat.le_trans LE_w14.out hb15.size
    have BW_w15 : Hid (w15.heap[w5.heap.size]? = some (.cells #[.int .i64 g.op, .int .i64 g.num, (.slice ad5 g.kids.length cap5)] 29)) := (hb15.block _ (cellsOf_lt BW_w14.out)).trans BW_w14.out
    have K1_w15 : Hid (KidsFp w15 29 t.kids f1 (.slice ad7 t.kids.length cap7)) := K1_w14.out.keep fun k hk => hb15.block k (K1_w14.out.lt k hk)
    have BX_w15 : Hid (w15.heap[w7.heap.size]? = some (.cells #[.int .i64 t.op, .int .i64 t.num, (.slice ad7 t.kids.length cap7)] 29)) := (hb15.block _ (cellsOf_lt BX_w14.out)).trans BX_w14.out
    have K2_w15 : Hid (KidsFp w15 29 args f2 (.slice ad9 args.length cap9)) := K2_w14.out.keep fun k hk => hb15.block k (K2_w14.out.lt k hk)
    have K3_w15 : Hid (KidsFp w15 29 g.kids f3 (.slice ad10 g.kids.length cap10)) := K3_w14.out.keep fun k hk => hb15.block k (K3_w14.out.lt k hk)
    have BG_w15 : Hid (w15.heap[w10.heap.size]? = some (.cells #[.int .i64 g.op, .int .i64 g.num, (.slice ad10 g.kids.length cap10)] 29)) := (hb15.block _ (cellsOf_lt BG_w14.out)).trans BG_w14.out
    have HB_w15 : Hid (Below w.heap.size w w15) := HB_w14.out.trans (hb15.mono HB_w14.out.size)
    have HV15 : Hid (In w15 args v15) := hv15.btw_in
    clear hv15 hb15
    go_wp2_with fail
    refine (eqS_calls args _ _ _ (K2_w15.out.on fun k hk => K2_w15.out.lt k hk) HV15.out).mono ?_
    rintro en w16 ⟨rfl, hb16⟩
    have BA_w16 : Hid (w16.heap[w.heap.size]? = some (.cells #[.int .i64 t.op, .int .i64 t.num, (.slice ad t.kids.length cap)] 24)) := (hb16.block _ (cellsOf_lt BA_w15.out)).trans BA_w15.out
    have W0_w16 : Hid (KidsOn w16 (Lt w5.heap.size) g.kids (.slice ad5 g.kids.length cap5)) := W0_w15.out.mono (fun _ hk => hk) fun k hk => hb16.block k (Nat.lt_of_lt_of_le hk LE_w15.out)
    have LE_w16 : Hid (w5.heap.size ≤ w16.heap.size) := Nat.le_trans LE_w15.out hb16.size
    have BW_w16 : Hid (w16.heap[w5.heap.size]? = some (.cells #[.int .i64 g.op, .int .i64 g.num, (.slice ad5 g.kids.length cap5)] 29)) := (hb16.block _ (cellsOf_lt BW_w15.out)).trans BW_w15.out
    have K1_w16 : Hid (KidsFp w16 29 t.kids f1 (.slice ad7 t.kids.length cap7)) := K1_w15.out.keep fun k hk => hb16.block k (K1_w15.out.lt k hk)
    have BX_w16 : Hid (w16.heap[w7.heap.size]? = some (.cells #[.int .i64 t.op, .int .i64 t.num, (.slice ad7 t.kids.length cap7)] 29)) := (hb16.block _ (cellsOf_lt BX_w15.out)).trans BX_w15.out
    have K2_w16 : Hid (KidsFp w16 29 args f2 (.slice ad9 args.length cap9)) := K2_w15.out.keep fun k hk => hb16.block k (K2_w15.out.lt k hk)
    have K3_w16 : Hid (KidsFp w16 29 g.kids f3 (.slice ad10 g.kids.length cap10)) := K3_w15.out.keep fun k hk => hb16.block k (K3_w15.out.lt k hk)
    have BG_w16 : Hid (w16.heap[w10.heap.size]? = some (.cells #[.int .i64 g.op, .int .i64 g.num, (.slice ad10 g.kids.length cap10)] 29)) := (hb16.block _ (cellsOf_lt BG_w15.out)).trans BG_w15.out
    have HB_w16 : Hid (Below w.heap.size w w16) := HB_w15.out.trans (hb16.mono HB_w15.out.size)
    clear hb16
    have bx0 := cell_of_blk BX_w16.out 0 _ rfl
    have bx1 := cell_of_blk BX_w16.out 1 _ rfl
    have bx2 := cell_of_blk BX_w16.out 2 _ rfl
    have bxz := cellsOf_lt BX_w16.out
    go_wp2_with fail
    -- the arguments are marked
    refine (mark_calls t.kids _ _ f1 _ 1 w16 K1_w16.out HF_f1.out.1 (by omega) (by have := HZ.out; omega)).mono ?_
    rintro en w17 ⟨rfl, -, hb17⟩
    clear bx0 bx1 bx2 bxz
    have BA_w17 : Hid (w17.heap[w.heap.size]? = some (.cells #[.int .i64 t.op, .int .i64 t.num, (.slice ad t.kids.length cap)] 24)) := (hb17.block _ (cellsOf_lt BA_w16.out) (fun h => by have := (HF_f1.out.2 _ h); have := S5.out; have := S6.out; have := S7.out; have := S8.out; have := S9.out; have := S10.out; omega)).trans BA_w16.out
    have W0_w17 : Hid (KidsOn w17 (Lt w5.heap.size) g.kids (.slice ad5 g.kids.length cap5)) := W0_w16.out.mono (fun _ hk => hk) fun k (hk : k < _) => hb17.block k (Nat.lt_of_lt_of_le hk LE_w16.out) (fun h => by have := (HF_f1.out.2 _ h); have := S5.out; have := S6.out; have := S7.out; have := S8.out; have := S9.out; have := S10.out; omega)
    have LE_w17 : Hid (w5.heap.size ≤ w17.heap.size) := Nat.le_trans LE_w16.out hb17.size
    have BW_w17 : Hid (w17.heap[w5.heap.size]? = some (.cells #[.int .i64 g.op, .int .i64 g.num, (.slice ad5 g.kids.length cap5)] 29)) := (hb17.block _ (cellsOf_lt BW_w16.out) (fun h => by have := (HF_f1.out.2 _ h); have := S5.out; have := S6.out; have := S7.out; have := S8.out; have := S9.out; have := S10.out; omega)).trans BW_w16.out
    have K2_w17 : Hid (KidsFp w17 29 args f2 (.slice ad9 args.length cap9)) := K2_w16.out.keep fun k hk => hb17.block k (K2_w16.out.lt k hk) (fun h => by have := (HF_f1.out.2 _ h); have := (HF_f2.out.2 _ hk); have := S5.out; have := S6.out; have := S7.out; have := S8.out; have := S9.out; have := S10.out; omega)
    have K3_w17 : Hid (KidsFp w17 29 g.kids f3 (.slice ad10 g.kids.length cap10)) := K3_w16.out.keep fun k hk => hb17.block k (K3_w16.out.lt k hk) (fun h => by have := (HF_f1.out.2 _ h); have := (HF_f3.out.2 _ hk); have := S5.out; have := S6.out; have := S7.out; have := S8.out; have := S9.out; have := S10.out; omega)
    have BG_w17 : Hid (w17.heap[w10.heap.size]? = some (.cells #[.int .i64 g.op, .int .i64 g.num, (.slice ad10 g.kids.length cap10)] 29)) := (hb17.block _ (cellsOf_lt BG_w16.out) (fun h => by have := (HF_f1.out.2 _ h); have := S5.out; have := S6.out; have := S7.out; have := S8.out; have := S9.out; have := S10.out; omega)).trans BG_w16.out
    have HB_w17 : Hid (Below w.heap.size w w17) := HB_w16.out.trans (hb17.below (fun k h => by have := (HF_f1.out.2 _ h); have := S5.out; have := S6.out; have := S7.out; have := S8.out; have := S9.out; have := S10.out; omega) HB_w16.out.size)
    clear hb17
    obtain ⟨kk, hkk⟩ : ∃ kk : Int, kk = 1 + 2 * (szL t.kids : Int) := ⟨_, rfl⟩
    have hkb : 0 ≤ kk ∧ kk ≤ 4194304 := by have := HZ.out; omega
    obtain ⟨hk0, hk1⟩ := hkb
    rw [← hkk]
    clear hkk
    go_wp2_with fail
    refine (markS_calls args f2 _ kk w17 K2_w17.out HF_f2.out.1 hk0 (by have := HZ2.out; omega)).mono ?_
    rintro en w18 ⟨rfl, -, hb18⟩
    have BA_w18 : Hid (w18.heap[w.heap.size]? = some (.cells #[.int .i64 t.op, .int .i64 t.num, (.slice ad t.kids.length cap)] 24)) := (hb18.block _ (cellsOf_lt BA_w17.out) (fun h => by have := (HF_f2.out.2 _ h); have := S5.out; have := S6.out; have := S7.out; have := S8.out; have := S9.out; have := S10.out; omega)).trans BA_w17.out
    have W0_w18 : Hid (KidsOn w18 (Lt w5.heap.size) g.kids (.slice ad5 g.kids.length cap5)) := W0_w17.out.mono (fun _ hk => hk) fun k (hk : k < _) => hb18.block k (Nat.lt_of_lt_of_le hk LE_w17.out) (fun h => by have := (HF_f2.out.2 _ h); have := S5.out; have := S6.out; have := S7.out; have := S8.out; have := S9.out; have := S10.out; omega)
    have LE_w18 : Hid (w5.heap.size ≤ w18.heap.size) := Nat.le_trans LE_w17.out hb18.size
    have BW_w18 : Hid (w18.heap[w5.heap.size]? = some (.cells #[.int .i64 g.op, .int .i64 g.num, (.slice ad5 g.kids.length cap5)] 29)) := (hb18.block _ (cellsOf_lt BW_w17.out) (fun h => by have := (HF_f2.out.2 _ h); have := S5.out; have := S6.out; have := S7.out; have := S8.out; have := S9.out; have := S10.out; omega)).trans BW_w17.out
    have K3_w18 : Hid (KidsFp w18 29 g.kids f3 (.slice ad10 g.kids.length cap10)) := K3_w17.out.keep fun k hk => hb18.block k (K3_w17.out.lt k hk) (fun h => by have := (HF_f2.out.2 _ h); have := (HF_f3.out.2 _ hk); have := S5.out; have := S6.out; have := S7.out; have := S8.out; have := S9.out; have := S10.out; omega)
    have BG_w18 : Hid (w18.heap[w10.heap.size]? = some (.cells #[.int .i64 g.op, .int .i64 g.num, (.slice ad10 g.kids.length cap10)] 29)) := (hb18.block _ (cellsOf_lt BG_w17.out) (fun h => by have := (HF_f2.out.2 _ h); have := S5.out; have := S6.out; have := S7.out; have := S8.out; have := S9.out; have := S10.out; omega)).trans BG_w17.out
    have HB_w18 : Hid (Below w.heap.size w w18) := HB_w17.out.trans (hb18.below (fun k h => by have := (HF_f2.out.2 _ h); have := S5.out; have := S6.out; have := S7.out; have := S8.out; have := S9.out; have := S10.out; omega) HB_w17.out.size)
    clear hb18
    obtain ⟨kl, hkl⟩ : ∃ kl : Int, kl = kk + 2 * (szL args : Int) := ⟨_, rfl⟩
    have hl0 : 0 ≤ kl := by omega
    rw [← hkl]
    clear hkl
    have bg0 := cell_of_blk BG_w18.out 0 _ rfl
    have bg1 := cell_of_blk BG_w18.out 1 _ rfl
    have bg2 := cell_of_blk BG_w18.out 2 _ rfl
    have bgz := cellsOf_lt BG_w18.out
    have bw0 := cell_of_blk BW_w18.out 0 _ rfl
    have bw1 := cell_of_blk BW_w18.out 1 _ rfl
    have bw2 := cell_of_blk BW_w18.out 2 _ rfl
    have bwz := cellsOf_lt BW_w18.out
    go_wp2_with fail
    refine (eq_calls g.kids _ _ _ _ _ (K3_w18.out.on fun k hk => K3_w18.out.lt k hk) (W0_w18.out.mono (fun k hk => Nat.lt_of_lt_of_le hk LE_w18.out) fun _ _ => rfl)).mono ?_
    rintro en w19 ⟨rfl, hb19⟩
    clear bg0 bg1 bg2 bgz bw0 bw1 bw2 bwz
    have BA_w19 : Hid (w19.heap[w.heap.size]? = some (.cells #[.int .i64 t.op, .int .i64 t.num, (.slice ad t.kids.length cap)] 24)) := (hb19.block _ (cellsOf_lt BA_w18.out)).trans BA_w18.out
    have W0_w19 : Hid (KidsOn w19 (Lt w5.heap.size) g.kids (.slice ad5 g.kids.length cap5)) := W0_w18.out.mono (fun _ hk => hk) fun k hk => hb19.block k (Nat.lt_of_lt_of_le hk LE_w18.out)
    have LE_w19 : Hid (w5.heap.size ≤ w19.heap.size) := Nat.le_trans LE_w18.out hb19.size
    have BW_w19 : Hid (w19.heap[w5.heap.size]? = some (.cells #[.int .i64 g.op, .int .i64 g.num, (.slice ad5 g.kids.length cap5)] 29)) := (hb19.block _ (cellsOf_lt BW_w18.out)).trans BW_w18.out
    have K3_w19 : Hid (KidsFp w19 29 g.kids f3 (.slice ad10 g.kids.length cap10)) := K3_w18.out.keep fun k hk => hb19.block k (K3_w18.out.lt k hk)
    have BG_w19 : Hid (w19.heap[w10.heap.size]? = some (.cells #[.int .i64 g.op, .int .i64 g.num, (.slice ad10 g.kids.length cap10)] 29)) := (hb19.block _ (cellsOf_lt BG_w18.out)).trans BG_w18.out
    have HB_w19 : Hid (Below w.heap.size w w19) := HB_w18.out.trans (hb19.mono HB_w18.out.size)
    clear hb19
    have bg0 := cell_of_blk BG_w19.out 0 _ rfl
    have bg1 := cell_of_blk BG_w19.out 1 _ rfl
    have bg2 := cell_of_blk BG_w19.out 2 _ rfl
    have bgz := cellsOf_lt BG_w19.out
    go_wp2_with fail
    -- the answer is marked
    refine (mark_calls g.kids _ _ f3 _ 1 w19 K3_w19.out HF_f3.out.1 (by omega) (by have := HGS.out; omega)).mono ?_
    rintro en w20 ⟨rfl, hk20, hb20⟩
    clear bg0 bg1 bg2 bgz
    have BA_w20 : Hid (w20.heap[w.heap.size]? = some (.cells #[.int .i64 t.op, .int .i64 t.num, (.slice ad t.kids.length cap)] 24)) := (hb20.block _ (cellsOf_lt BA_w19.out) (fun h => by have := (HF_f3.out.2 _ h); have := S5.out; have := S6.out; have := S7.out; have := S8.out; have := S9.out; have := S10.out; omega)).trans BA_w19.out
    have W0_w20 : Hid (KidsOn w20 (Lt w5.heap.size) g.kids (.slice ad5 g.kids.length cap5)) := W0_w19.out.mono (fun _ hk => hk) fun k (hk : k < _) => hb20.block k (Nat.lt_of_lt_of_le hk LE_w19.out) (fun h => by have := (HF_f3.out.2 _ h); have := S5.out; have := S6.out; have := S7.out; have := S8.out; have := S9.out; have := S10.out; omega)
    have LE_w20 : Hid (w5.heap.size ≤ w20.heap.size) := Nat.le_trans LE_w19.out hb20.size
    have BW_w20 : Hid (w20.heap[w5.heap.size]? = some (.cells #[.int .i64 g.op, .int .i64 g.num, (.slice ad5 g.kids.length cap5)] 29)) := (hb20.block _ (cellsOf_lt BW_w19.out) (fun h => by have := (HF_f3.out.2 _ h); have := S5.out; have := S6.out; have := S7.out; have := S8.out; have := S9.out; have := S10.out; omega)).trans BW_w19.out
    have BG_w20 : Hid (w20.heap[w10.heap.size]? = some (.cells #[.int .i64 g.op, .int .i64 g.num, (.slice ad10 g.kids.length cap10)] 29)) := (hb20.block _ (cellsOf_lt BG_w19.out) (fun h => by have := (HF_f3.out.2 _ h); have := S5.out; have := S6.out; have := S7.out; have := S8.out; have := S9.out; have := S10.out; omega)).trans BG_w19.out
    have HB_w20 : Hid (Below w.heap.size w w20) := HB_w19.out.trans (hb20.below (fun k h => by have := (HF_f3.out.2 _ h); have := S5.out; have := S6.out; have := S7.out; have := S8.out; have := S9.out; have := S10.out; omega) HB_w19.out.size)
    have K4_w20 : Hid (KidsFp w20 29 (labL g.kids 1) f3 (.slice ad10 g.kids.length cap10)) := hk20
    clear hb20 hk20
    obtain ⟨mm, hmm⟩ : ∃ mm : Int, mm = 1 + 2 * (szL g.kids : Int) := ⟨_, rfl⟩
    have HM : Hid (mm = 1 + 2 * (szL g.kids : Int)) := hmm
    have hm0 : 0 ≤ mm := by omega
    rw [← hmm]
    clear hmm
    have bg0 := cell_of_blk BG_w20.out 0 _ rfl
    have bg1 := cell_of_blk BG_w20.out 1 _ rfl
    have bg2 := cell_of_blk BG_w20.out 2 _ rfl
    have bgz := cellsOf_lt BG_w20.out
    go_wp2_with fail
    refine (held_calls g.kids _ _ _ 1 w20 (K4_w20.out.on fun k hk => K4_w20.out.lt k hk) (by omega) (by have := HGS.out; omega)).mono ?_
    rintro en w21 ⟨rfl, hb21⟩
    rw [← HM.out]
    clear bg0 bg1 bg2 bgz
    have BA_w21 : Hid (w21.heap[w.heap.size]? = some (.cells #[.int .i64 t.op, .int .i64 t.num, (.slice ad t.kids.length cap)] 24)) := (hb21.block _ (cellsOf_lt BA_w20.out)).trans BA_w20.out
    have W0_w21 : Hid (KidsOn w21 (Lt w5.heap.size) g.kids (.slice ad5 g.kids.length cap5)) := W0_w20.out.mono (fun _ hk => hk) fun k hk => hb21.block k (Nat.lt_of_lt_of_le hk LE_w20.out)
    have LE_w21 : Hid (w5.heap.size ≤ w21.heap.size) := Nat.le_trans LE_w20.out hb21.size
    have BW_w21 : Hid (w21.heap[w5.heap.size]? = some (.cells #[.int .i64 g.op, .int .i64 g.num, (.slice ad5 g.kids.length cap5)] 29)) := (hb21.block _ (cellsOf_lt BW_w20.out)).trans BW_w20.out
    have BG_w21 : Hid (w21.heap[w10.heap.size]? = some (.cells #[.int .i64 g.op, .int .i64 g.num, (.slice ad10 g.kids.length cap10)] 29)) := (hb21.block _ (cellsOf_lt BG_w20.out)).trans BG_w20.out
    have K4_w21 : Hid (KidsFp w21 29 (labL g.kids 1) f3 (.slice ad10 g.kids.length cap10)) := K4_w20.out.keep fun k hk => hb21.block k (K4_w20.out.lt k hk)
    have HB_w21 : Hid (Below w.heap.size w w21) := HB_w20.out.trans (hb21.mono HB_w20.out.size)
    clear hb21
    have tm : (mm != mm) = false := by simp
    have ba0 := cell_of_blk BA_w21.out 0 _ rfl
    have ba1 := cell_of_blk BA_w21.out 1 _ rfl
    have ba2 := cell_of_blk BA_w21.out 2 _ rfl
    have baz := cellsOf_lt BA_w21.out
    go_wp2_with fail
    -- called once more
    refine (to_calls t.kids _ _ _ _ (HK.out.next HB_w21.out) HZ.out).mono ?_
    rintro en w22 ⟨v22, rfl, hv22, hb22⟩
    clear ba0 ba1 ba2 baz
    have W0_w22 : Hid (KidsOn w22 (Lt w5.heap.size) g.kids (.slice ad5 g.kids.length cap5)) := W0_w21.out.mono (fun _ hk => hk) fun k hk => hb22.block k (Nat.lt_of_lt_of_le hk LE_w21.out)
    have LE_w22 : Hid (w5.heap.size ≤ w22.heap.size) := Nat.le_trans LE_w21.out hb22.size
    have BW_w22 : Hid (w22.heap[w5.heap.size]? = some (.cells #[.int .i64 g.op, .int .i64 g.num, (.slice ad5 g.kids.length cap5)] 29)) := (hb22.block _ (cellsOf_lt BW_w21.out)).trans BW_w21.out
    have BG_w22 : Hid (w22.heap[w10.heap.size]? = some (.cells #[.int .i64 g.op, .int .i64 g.num, (.slice ad10 g.kids.length cap10)] 29)) := (hb22.block _ (cellsOf_lt BG_w21.out)).trans BG_w21.out
    have K4_w22 : Hid (KidsFp w22 29 (labL g.kids 1) f3 (.slice ad10 g.kids.length cap10)) := K4_w21.out.keep fun k hk => hb22.block k (K4_w21.out.lt k hk)
    have HB_w22 : Hid (Below w.heap.size w w22) := HB_w21.out.trans (hb22.mono HB_w21.out.size)
    have V22_w22 : Hid (In w22 t.kids v22) := hv22.btw_in
    clear hv22 hb22
    go_wp2_with fail
    refine (toS_calls args _ _ (HA.out.next HB_w22.out) HZ2.out).mono ?_
    rintro en w23 ⟨v23, rfl, hv23, hb23⟩
    have W0_w23 : Hid (KidsOn w23 (Lt w5.heap.size) g.kids (.slice ad5 g.kids.length cap5)) := W0_w22.out.mono (fun _ hk => hk) fun k hk => hb23.block k (Nat.lt_of_lt_of_le hk LE_w22.out)
    have LE_w23 : Hid (w5.heap.size ≤ w23.heap.size) := Nat.le_trans LE_w22.out hb23.size
    have BW_w23 : Hid (w23.heap[w5.heap.size]? = some (.cells #[.int .i64 g.op, .int .i64 g.num, (.slice ad5 g.kids.length cap5)] 29)) := (hb23.block _ (cellsOf_lt BW_w22.out)).trans BW_w22.out
    have BG_w23 : Hid (w23.heap[w10.heap.size]? = some (.cells #[.int .i64 g.op, .int .i64 g.num, (.slice ad10 g.kids.length cap10)] 29)) := (hb23.block _ (cellsOf_lt BG_w22.out)).trans BG_w22.out
    have K4_w23 : Hid (KidsFp w23 29 (labL g.kids 1) f3 (.slice ad10 g.kids.length cap10)) := K4_w22.out.keep fun k hk => hb23.block k (K4_w22.out.lt k hk)
    have V22_w23 : Hid (In w23 t.kids v22) := V22_w22.out.next hb23
    have HB_w23 : Hid (Below w.heap.size w w23) := HB_w22.out.trans (hb23.mono HB_w22.out.size)
    have HV23 : Hid (In w23 args v23) := hv23.btw_in
    clear hv23 hb23
    go_wp2_with fail
    refine (HSI.out _ _ _ HV23.out V22_w23.out HZ2.out HZ.out).mono ?_
    rintro en w24 ⟨v24, rfl, hv24, hb24⟩
    have W0_w24 : Hid (KidsOn w24 (Lt w5.heap.size) g.kids (.slice ad5 g.kids.length cap5)) := W0_w23.out.mono (fun _ hk => hk) fun k hk => hb24.block k (Nat.lt_of_lt_of_le hk LE_w23.out)
    have LE_w24 : Hid (w5.heap.size ≤ w24.heap.size) := Nat.le_trans LE_w23.out hb24.size
    have BW_w24 : Hid (w24.heap[w5.heap.size]? = some (.cells #[.int .i64 g.op, .int .i64 g.num, (.slice ad5 g.kids.length cap5)] 29)) := (hb24.block _ (cellsOf_lt BW_w23.out)).trans BW_w23.out
    have BG_w24 : Hid (w24.heap[w10.heap.size]? = some (.cells #[.int .i64 g.op, .int .i64 g.num, (.slice ad10 g.kids.length cap10)] 29)) := (hb24.block _ (cellsOf_lt BG_w23.out)).trans BG_w23.out
    have K4_w24 : Hid (KidsFp w24 29 (labL g.kids 1) f3 (.slice ad10 g.kids.length cap10)) := K4_w23.out.keep fun k hk => hb24.block k (K4_w23.out.lt k hk)
    have HB_w24 : Hid (Below w.heap.size w w24) := HB_w23.out.trans (hb24.mono HB_w23.out.size)
    have V24_w24 : Hid (In w24 g.kids v24) := hv24.on.btw_in
    obtain ⟨ad24, cap24, rfl⟩ := fresh_form hv24
    clear hv24 hb24
    have bw0 := cell_of_blk BW_w24.out 0 _ rfl
    have bw1 := cell_of_blk BW_w24.out 1 _ rfl
    have bw2 := cell_of_blk BW_w24.out 2 _ rfl
    have bwz := cellsOf_lt BW_w24.out
    go_wp2_with fail
    obtain ⟨w25, hw25⟩ : ∃ w25 : World, w25 = w24.alloc (.cells #[.int .i64 g.op, .int .i64 g.num, .slice ad24 g.kids.length cap24] 29) := ⟨_, rfl⟩
    rw [← hw25]
    have hbw25 : Below w24.heap.size w24 w25 := by rw [hw25]; exact box_below _ _
    clear bw0 bw1 bw2 bwz
    have W0_w25 : Hid (KidsOn w25 (Lt w5.heap.size) g.kids (.slice ad5 g.kids.length cap5)) := W0_w24.out.mono (fun _ hk => hk) fun k hk => hbw25.block k (Nat.lt_of_lt_of_le hk LE_w24.out)
    have LE_w25 : Hid (w5.heap.size ≤ w25.heap.size) := Nat.le_trans LE_w24.out hbw25.size
    have BW_w25 : Hid (w25.heap[w5.heap.size]? = some (.cells #[.int .i64 g.op, .int .i64 g.num, (.slice ad5 g.kids.length cap5)] 29)) := (hbw25.block _ (cellsOf_lt BW_w24.out)).trans BW_w24.out
    have BG_w25 : Hid (w25.heap[w10.heap.size]? = some (.cells #[.int .i64 g.op, .int .i64 g.num, (.slice ad10 g.kids.length cap10)] 29)) := (hbw25.block _ (cellsOf_lt BG_w24.out)).trans BG_w24.out
    have K4_w25 : Hid (KidsFp w25 29 (labL g.kids 1) f3 (.slice ad10 g.kids.length cap10)) := K4_w24.out.keep fun k hk => hbw25.block k (K4_w24.out.lt k hk)
    have V24_w25 : Hid (In w25 g.kids (.slice ad24 g.kids.length cap24)) := V24_w24.out.next hbw25
    have HB_w25 : Hid (Below w.heap.size w w25) := HB_w24.out.trans (hbw25.mono HB_w24.out.size)
    clear hw25 hbw25
    refine (eq_calls g.kids _ _ _ _ _ V24_w25.out (W0_w25.out.mono (fun k hk => Nat.lt_of_lt_of_le hk LE_w25.out) fun _ _ => rfl)).mono ?_
    rintro en w26 ⟨rfl, hb26⟩
    have W0_w26 : Hid (KidsOn w26 (Lt w5.heap.size) g.kids (.slice ad5 g.kids.length cap5)) := W0_w25.out.mono (fun _ hk => hk) fun k hk => hb26.block k (Nat.lt_of_lt_of_le hk LE_w25.out)
    have LE_w26 : Hid (w5.heap.size ≤ w26.heap.size) := Nat.le_trans LE_w25.out hb26.size
    have BW_w26 : Hid (w26.heap[w5.heap.size]? = some (.cells #[.int .i64 g.op, .int .i64 g.num, (.slice ad5 g.kids.length cap5)] 29)) := (hb26.block _ (cellsOf_lt BW_w25.out)).trans BW_w25.out
    have BG_w26 : Hid (w26.heap[w10.heap.size]? = some (.cells #[.int .i64 g.op, .int .i64 g.num, (.slice ad10 g.kids.length cap10)] 29)) := (hb26.block _ (cellsOf_lt BG_w25.out)).trans BG_w25.out
    have K4_w26 : Hid (KidsFp w26 29 (labL g.kids 1) f3 (.slice ad10 g.kids.length cap10)) := K4_w25.out.keep fun k hk => hb26.block k (K4_w25.out.lt k hk)
    have V24_w26 : Hid (In w26 g.kids (.slice ad24 g.kids.length cap24)) := V24_w25.out.next hb26
    have HB_w26 : Hid (Below w.heap.size w w26) := HB_w25.out.trans (hb26.mono HB_w25.out.size)
    clear hb26
    have bg0 := cell_of_blk BG_w26.out 0 _ rfl
    have bg1 := cell_of_blk BG_w26.out 1 _ rfl
    have bg2 := cell_of_blk BG_w26.out 2 _ rfl
    have bgz := cellsOf_lt BG_w26.out
    go_wp2_with fail
    refine (held_calls g.kids _ _ _ 1 w26 (K4_w26.out.on fun k hk => K4_w26.out.lt k hk) (by omega) (by have := HGS.out; omega)).mono ?_
    rintro en w27 ⟨rfl, hb27⟩
    rw [← HM.out]
    clear bg0 bg1 bg2 bgz
    have HB_w27 : Hid (Below w.heap.size w w27) := HB_w26.out.trans (hb27.mono HB_w26.out.size)
    clear hb27
    go_wp2_with fail
    go_ret
    exact ⟨rfl, HB_w27.out⟩
end Go.Proofs.Yticoegjackgldaa.lawExactSubstExpr
