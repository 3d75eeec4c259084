/-
  THE WALK OF FnExactReadGraph.
-/
import Derived.Test.YticoegjackgldabSpecReadG
import Derived.Test.YticoegjackgldabImplReadG
import Derived.Test.YticoegjackgldabMarkS
import Derived.Test.YticoegjackgldabMarkC
import Derived.Test.YticoegjackgldabEq
import Derived.Test.YticoegjackgldabCRow
namespace Go.Proofs.Yticoegjackgldab.lawExactReadGraph
open Go.ChangeShapes Go.WideShapes Go.ChangeAt Go.RowKit
set_option linter.unusedVariables false
set_option linter.unusedSimpArgs false

set_option maxRecDepth 100000 in
set_option maxHeartbeats 6400000 in
theorem walk (g : List Ce) (c : Value) (root defs : Int) (w : World) (hk : CIn w g c) (hr0 : I64 root) (hd0 : I64 defs) :
    Calls Try.prog 7 #[c, .int .i64 root, .int .i64 defs] w fun e w' => e = .returned (.bool true) ∧ Below w.heap.size w w' := by
  have HK : Hid (CIn w g c) := hk
  obtain ⟨t, b, hsz, hout⟩ := readOut_one (readB g root defs) (readB_sz g root defs)
  have HTS : Hid (szL t.kids ≤ 60) := hsz
  have HSI : Hid (∀ (v1 : Value) (W : World), CIn W g v1 → Calls Try.prog 36 #[v1, .int .i64 root, .int .i64 defs] W fun en w' => ∃ v, en = .returned (.tuple #[.agg #[.int .i64 t.op, .int .i64 t.num, v], .bool b]) ∧ Fresh w' W.heap.size t.kids v ∧ Below W.heap.size W w') := fun v1 W h1 => (implRead_calls g root defs v1 W h1).mono fun en w' h => hout W en w' h
  have HSS : Hid (∀ (v1 : Value) (W : World), CIn W g v1 → Calls Try.prog 35 #[v1, .int .i64 root, .int .i64 defs] W fun en w' => ∃ v, en = .returned (.tuple #[.agg #[.int .i64 t.op, .int .i64 t.num, v], .bool b]) ∧ Fresh w' W.heap.size t.kids v ∧ Below W.heap.size W w') := fun v1 W h1 => (specRead_calls g root defs v1 W h1).mono fun en w' h => hout W en w' h
  have hrg := szC_range g 1048576 (by omega)
  clear hk hr0 hd0 hsz hout
  go_enter Try.func7, Try.ntmps7
  go_wp2_with fail
  refine (szCells_calls g c _ _ HK.out (by omega) (by omega)).mono ?_
  rintro en w1 ⟨rfl, hb1⟩
  have HB_w1 : Hid (Below w.heap.size w w1) := hb1
  clear hb1
  by_cases hneg : szC g 1048576 < 0
  · go_wp2_with fail
    go_ret
    exact ⟨rfl, HB_w1.out⟩
  have HZ : Hid (g.length + sumK g ≤ 1048576) := by unfold szC at hneg; unfold Hid; split at hneg <;> omega
  generalize szC g 1048576 = left at *
  clear hrg
  go_wp2_with fail
  -- the model's answer
  refine (toCells_calls g c _ (HK.out.next HB_w1.out) HZ.out).mono ?_
  rintro en w2 ⟨v2, rfl, hv2, hb2⟩
  have HB_w2 : Hid (Below w.heap.size w w2) := HB_w1.out.trans (hb2.mono HB_w1.out.size)
  have V2_w2 : Hid (CIn w2 g v2) := hv2.inn
  clear hv2 hb2
  go_wp2_with fail
  refine (HSS.out _ _ V2_w2.out).mono ?_
  rintro en w3 ⟨v3, rfl, hv3, hb3⟩
  have HB_w3 : Hid (Below w.heap.size w w3) := HB_w2.out.trans (hb3.mono HB_w2.out.size)
  have W0_w3 : Hid (KidsOn w3 (Lt w3.heap.size) t.kids v3) := hv3.on.btw_in
  have LE_w3 : Hid (w3.heap.size ≤ w3.heap.size) := Nat.le_refl _
  obtain ⟨ad3, cap3, rfl⟩ := fresh_shape hv3
  clear hv3 hb3
  go_wp2_with fail
  obtain ⟨w4, hw4⟩ : ∃ w4 : World, w4 = w3.alloc (.cells #[.int .i64 t.op, .int .i64 t.num, .slice ad3 t.kids.length cap3] 28) := ⟨_, rfl⟩
  rw [← hw4]
  have hbw4 : Below w3.heap.size w3 w4 := by rw [hw4]; exact box_below _ _
  have W0_w4 : Hid (KidsOn w4 (Lt w3.heap.size) t.kids (.slice ad3 t.kids.length cap3)) := W0_w3.out.mono (fun _ hk => hk) fun k hk => hbw4.block k (Nat.lt_of_lt_of_le hk LE_w3.out)
  have LE_w4 : Hid (w3.heap.size ≤ w4.heap.size) := Nat.le_trans LE_w3.out hbw4.size
  have HB_w4 : Hid (Below w.heap.size w w4) := HB_w3.out.trans (hbw4.mono HB_w3.out.size)
  have BW_w4 : Hid (w4.heap[w3.heap.size]? = some (.cells #[.int .i64 t.op, .int .i64 t.num, (.slice ad3 t.kids.length cap3)] 28)) := by rw [hw4]; exact Deep.blk_alloc_new _ _
  have S4 : Hid (w4.heap.size = w3.heap.size + 1) := by rw [hw4]; exact Deep.nblk_alloc _ _
  have S3 : Hid (w.heap.size ≤ w3.heap.size) := HB_w3.out.size
  clear hw4 hbw4
  -- the program's argument
  refine (toCells_calls g c _ (HK.out.next HB_w4.out) HZ.out).mono ?_
  rintro en w5 ⟨v5, rfl, hv5, hb5⟩
  have W0_w5 : Hid (KidsOn w5 (Lt w3.heap.size) t.kids (.slice ad3 t.kids.length cap3)) := W0_w4.out.mono (fun _ hk => hk) fun k hk => hb5.block k (Nat.lt_of_lt_of_le hk LE_w4.out)
  have LE_w5 : Hid (w3.heap.size ≤ w5.heap.size) := Nat.le_trans LE_w4.out hb5.size
  have BW_w5 : Hid (w5.heap[w3.heap.size]? = some (.cells #[.int .i64 t.op, .int .i64 t.num, (.slice ad3 t.kids.length cap3)] 28)) := (hb5.block _ (cellsOf_lt BW_w4.out)).trans BW_w4.out
  have HB_w5 : Hid (Below w.heap.size w w5) := HB_w4.out.trans (hb5.mono HB_w4.out.size)
  obtain ⟨f1, hf1⟩ : ∃ f1, f1 = List.range' w4.heap.size (w5.heap.size - w4.heap.size) := ⟨_, rfl⟩
  have S5 : Hid (w4.heap.size ≤ w5.heap.size) := hb5.size
  have HF_f1 : Hid (True ∧ ∀ k ∈ f1, w4.heap.size ≤ k ∧ k < w5.heap.size) := ⟨trivial, fun k hk => by rw [hf1, List.mem_range'_1] at hk; have := S5.out; omega⟩
  have V5_w5 : Hid (CIn w5 g v5) := hv5.inn
  have LF_w5 : Hid (w5.heap.size ≤ w5.heap.size) := Nat.le_refl _
  have CS_w5 : Hid (CShape w5 f1 (g.map (·.kids.length)) v5) := by rw [Hid, hf1]; exact CellRow.shape hv5
  clear hv5 hb5 hf1
  go_wp2_with fail
  -- the program's answer
  refine (HSI.out _ _ V5_w5.out).mono ?_
  rintro en w6 ⟨v6, rfl, hv6, hb6⟩
  obtain ⟨f3, hkf, hnd, hlo⟩ := hv6
  have S6 : Hid (w5.heap.size ≤ w6.heap.size) := hb6.size
  have W0_w6 : Hid (KidsOn w6 (Lt w3.heap.size) t.kids (.slice ad3 t.kids.length cap3)) := W0_w5.out.mono (fun _ hk => hk) fun k hk => hb6.block k (Nat.lt_of_lt_of_le hk LE_w5.out)
  have LE_w6 : Hid (w3.heap.size ≤ w6.heap.size) := Nat.le_trans LE_w5.out hb6.size
  have BW_w6 : Hid (w6.heap[w3.heap.size]? = some (.cells #[.int .i64 t.op, .int .i64 t.num, (.slice ad3 t.kids.length cap3)] 28)) := (hb6.block _ (cellsOf_lt BW_w5.out)).trans BW_w5.out
  have V5_w6 : Hid (CIn w6 g v5) := V5_w5.out.next hb6
  have LF_w6 : Hid (w5.heap.size ≤ w6.heap.size) := Nat.le_trans LF_w5.out hb6.size
  have CS_w6 : Hid (CShape w6 f1 (g.map (·.kids.length)) v5) := CShape.blocks CS_w5.out fun b hb => hb6.block b (Nat.lt_of_lt_of_le (HF_f1.out.2 b hb).2 LF_w5.out)
  have HB_w6 : Hid (Below w.heap.size w w6) := HB_w5.out.trans (hb6.mono HB_w5.out.size)
  have HF_f3 : Hid (f3.Nodup ∧ ∀ k ∈ f3, w5.heap.size ≤ k ∧ k < w6.heap.size) := ⟨hnd, fun k hk => ⟨hlo k hk, hkf.lt k hk⟩⟩
  have HKF : Hid _ := hkf
  obtain ⟨ad6, cap6, rfl, -, -, -⟩ := hkf
  have K3_w6 : Hid (KidsFp w6 28 t.kids f3 (.slice ad6 t.kids.length cap6)) := HKF.out
  clear HKF hnd hlo hb6
  have bw0 := cell_of_blk BW_w6.out 0 _ rfl
  have bw1 := cell_of_blk BW_w6.out 1 _ rfl
  have bw2 := cell_of_blk BW_w6.out 2 _ rfl
  have bwz := cellsOf_lt BW_w6.out
  go_wp2_with fail
  obtain ⟨w7, hw7⟩ : ∃ w7 : World, w7 = w6.alloc (.cells #[.int .i64 t.op, .int .i64 t.num, .slice ad6 t.kids.length cap6] 28) := ⟨_, rfl⟩
  rw [← hw7]
  have hbw7 : Below w6.heap.size w6 w7 := by rw [hw7]; exact box_below _ _
  clear bw0 bw1 bw2 bwz
  have W0_w7 : Hid (KidsOn w7 (Lt w3.heap.size) t.kids (.slice ad3 t.kids.length cap3)) := W0_w6.out.mono (fun _ hk => hk) fun k hk => hbw7.block k (Nat.lt_of_lt_of_le hk LE_w6.out)
  have LE_w7 : Hid (w3.heap.size ≤ w7.heap.size) := Nat.le_trans LE_w6.out hbw7.size
  have BW_w7 : Hid (w7.heap[w3.heap.size]? = some (.cells #[.int .i64 t.op, .int .i64 t.num, (.slice ad3 t.kids.length cap3)] 28)) := (hbw7.block _ (cellsOf_lt BW_w6.out)).trans BW_w6.out
  have V5_w7 : Hid (CIn w7 g v5) := V5_w6.out.next hbw7
  have LF_w7 : Hid (w5.heap.size ≤ w7.heap.size) := Nat.le_trans LF_w6.out hbw7.size
  have CS_w7 : Hid (CShape w7 f1 (g.map (·.kids.length)) v5) := CShape.blocks CS_w6.out fun b hb => hbw7.block b (Nat.lt_of_lt_of_le (HF_f1.out.2 b hb).2 LF_w6.out)
  have K3_w7 : Hid (KidsFp w7 28 t.kids f3 (.slice ad6 t.kids.length cap6)) := K3_w6.out.keep fun k hk => hbw7.block k (K3_w6.out.lt k hk)
  have HB_w7 : Hid (Below w.heap.size w w7) := HB_w6.out.trans (hbw7.mono HB_w6.out.size)
  have BG_w7 : Hid (w7.heap[w6.heap.size]? = some (.cells #[.int .i64 t.op, .int .i64 t.num, (.slice ad6 t.kids.length cap6)] 28)) := by rw [hw7]; exact Deep.blk_alloc_new _ _
  clear hw7 hbw7
  have tb : (b != b) = false := by simp
  refine (eq_calls t.kids _ _ _ _ _ (K3_w7.out.on fun k hk => K3_w7.out.lt k hk) (W0_w7.out.mono (fun k hk => Nat.lt_of_lt_of_le hk LE_w7.out) fun _ _ => rfl)).mono ?_
  rintro en w8 ⟨rfl, hb8⟩
  have W0_w8 : Hid (KidsOn w8 (Lt w3.heap.size) t.kids (.slice ad3 t.kids.length cap3)) := W0_w7.out.mono (fun _ hk => hk) fun k hk => hb8.block k (Nat.lt_of_lt_of_le hk LE_w7.out)
  have LE_w8 : Hid (w3.heap.size ≤ w8.heap.size) := Nat.le_trans LE_w7.out hb8.size
  have BW_w8 : Hid (w8.heap[w3.heap.size]? = some (.cells #[.int .i64 t.op, .int .i64 t.num, (.slice ad3 t.kids.length cap3)] 28)) := (hb8.block _ (cellsOf_lt BW_w7.out)).trans BW_w7.out
  have V5_w8 : Hid (CIn w8 g v5) := V5_w7.out.next hb8
  have LF_w8 : Hid (w5.heap.size ≤ w8.heap.size) := Nat.le_trans LF_w7.out hb8.size
  have CS_w8 : Hid (CShape w8 f1 (g.map (·.kids.length)) v5) := CShape.blocks CS_w7.out fun b hb => hb8.block b (Nat.lt_of_lt_of_le (HF_f1.out.2 b hb).2 LF_w7.out)
  have K3_w8 : Hid (KidsFp w8 28 t.kids f3 (.slice ad6 t.kids.length cap6)) := K3_w7.out.keep fun k hk => hb8.block k (K3_w7.out.lt k hk)
  have BG_w8 : Hid (w8.heap[w6.heap.size]? = some (.cells #[.int .i64 t.op, .int .i64 t.num, (.slice ad6 t.kids.length cap6)] 28)) := (hb8.block _ (cellsOf_lt BG_w7.out)).trans BG_w7.out
  have HB_w8 : Hid (Below w.heap.size w w8) := HB_w7.out.trans (hb8.mono HB_w7.out.size)
  clear hb8
  go_wp2_with fail
  refine (toCells_calls g c _ (HK.out.next HB_w8.out) HZ.out).mono ?_
  rintro en w9 ⟨v9, rfl, hv9, hb9⟩
  have W0_w9 : Hid (KidsOn w9 (Lt w3.heap.size) t.kids (.slice ad3 t.kids.length cap3)) := W0_w8.out.mono (fun _ hk => hk) fun k hk => hb9.block k (Nat.lt_of_lt_of_le hk LE_w8.out)
  have LE_w9 : Hid (w3.heap.size ≤ w9.heap.size) := Nat.le_trans LE_w8.out hb9.size
  have BW_w9 : Hid (w9.heap[w3.heap.size]? = some (.cells #[.int .i64 t.op, .int .i64 t.num, (.slice ad3 t.kids.length cap3)] 28)) := (hb9.block _ (cellsOf_lt BW_w8.out)).trans BW_w8.out
  have V5_w9 : Hid (CIn w9 g v5) := V5_w8.out.next hb9
  have LF_w9 : Hid (w5.heap.size ≤ w9.heap.size) := Nat.le_trans LF_w8.out hb9.size
  have CS_w9 : Hid (CShape w9 f1 (g.map (·.kids.length)) v5) := CShape.blocks CS_w8.out fun b hb => hb9.block b (Nat.lt_of_lt_of_le (HF_f1.out.2 b hb).2 LF_w8.out)
  have K3_w9 : Hid (KidsFp w9 28 t.kids f3 (.slice ad6 t.kids.length cap6)) := K3_w8.out.keep fun k hk => hb9.block k (K3_w8.out.lt k hk)
  have BG_w9 : Hid (w9.heap[w6.heap.size]? = some (.cells #[.int .i64 t.op, .int .i64 t.num, (.slice ad6 t.kids.length cap6)] 28)) := (hb9.block _ (cellsOf_lt BG_w8.out)).trans BG_w8.out
  have HB_w9 : Hid (Below w.heap.size w w9) := HB_w8.out.trans (hb9.mono HB_w8.out.size)
  have HV9 : Hid (CIn w9 g v9) := hv9.inn
  clear hv9 hb9
  go_wp2_with fail
  refine (eqCells_calls g v5 v9 _ V5_w9.out HV9.out).mono ?_
  rintro en w10 ⟨rfl, hb10⟩
  have W0_w10 : Hid (KidsOn w10 (Lt w3.heap.size) t.kids (.slice ad3 t.kids.length cap3)) := W0_w9.out.mono (fun _ hk => hk) fun k hk => hb10.block k (Nat.lt_of_lt_of_le hk LE_w9.out)
  have LE_w10 : Hid (w3.heap.size ≤ w10.heap.size) := Nat.le_trans LE_w9.out hb10.size
  have BW_w10 : Hid (w10.heap[w3.heap.size]? = some (.cells #[.int .i64 t.op, .int .i64 t.num, (.slice ad3 t.kids.length cap3)] 28)) := (hb10.block _ (cellsOf_lt BW_w9.out)).trans BW_w9.out
  have V5_w10 : Hid (CIn w10 g v5) := V5_w9.out.next hb10
  have LF_w10 : Hid (w5.heap.size ≤ w10.heap.size) := Nat.le_trans LF_w9.out hb10.size
  have CS_w10 : Hid (CShape w10 f1 (g.map (·.kids.length)) v5) := CShape.blocks CS_w9.out fun b hb => hb10.block b (Nat.lt_of_lt_of_le (HF_f1.out.2 b hb).2 LF_w9.out)
  have K3_w10 : Hid (KidsFp w10 28 t.kids f3 (.slice ad6 t.kids.length cap6)) := K3_w9.out.keep fun k hk => hb10.block k (K3_w9.out.lt k hk)
  have BG_w10 : Hid (w10.heap[w6.heap.size]? = some (.cells #[.int .i64 t.op, .int .i64 t.num, (.slice ad6 t.kids.length cap6)] 28)) := (hb10.block _ (cellsOf_lt BG_w9.out)).trans BG_w9.out
  have HB_w10 : Hid (Below w.heap.size w w10) := HB_w9.out.trans (hb10.mono HB_w9.out.size)
  clear hb10
  go_wp2_with fail
  -- the argument is marked
  refine (markCells_calls _ f1 v5 1 w10 CS_w10.out (by omega) (by omega) (by rw [sum_shape, List.length_map]; exact HZ.out)).mono ?_
  rintro en w11 ⟨rfl, hb11⟩
  have W0_w11 : Hid (KidsOn w11 (Lt w3.heap.size) t.kids (.slice ad3 t.kids.length cap3)) := W0_w10.out.mono (fun _ hk => hk) fun k (hk : k < _) => hb11.block k (Nat.lt_of_lt_of_le hk LE_w10.out) (fun h => by have := (HF_f1.out.2 _ h); have := S3.out; have := S4.out; have := S5.out; have := S6.out; omega)
  have LE_w11 : Hid (w3.heap.size ≤ w11.heap.size) := Nat.le_trans LE_w10.out hb11.size
  have BW_w11 : Hid (w11.heap[w3.heap.size]? = some (.cells #[.int .i64 t.op, .int .i64 t.num, (.slice ad3 t.kids.length cap3)] 28)) := (hb11.block _ (cellsOf_lt BW_w10.out) (fun h => by have := (HF_f1.out.2 _ h); have := S3.out; have := S4.out; have := S5.out; have := S6.out; omega)).trans BW_w10.out
  have LF_w11 : Hid (w5.heap.size ≤ w11.heap.size) := Nat.le_trans LF_w10.out hb11.size
  have K3_w11 : Hid (KidsFp w11 28 t.kids f3 (.slice ad6 t.kids.length cap6)) := K3_w10.out.keep fun k hk => hb11.block k (K3_w10.out.lt k hk) (fun h => by have := (HF_f1.out.2 _ h); have := (HF_f3.out.2 _ hk); have := S3.out; have := S4.out; have := S5.out; have := S6.out; omega)
  have BG_w11 : Hid (w11.heap[w6.heap.size]? = some (.cells #[.int .i64 t.op, .int .i64 t.num, (.slice ad6 t.kids.length cap6)] 28)) := (hb11.block _ (cellsOf_lt BG_w10.out) (fun h => by have := (HF_f1.out.2 _ h); have := S3.out; have := S4.out; have := S5.out; have := S6.out; omega)).trans BG_w10.out
  have HB_w11 : Hid (Below w.heap.size w w11) := HB_w10.out.trans (hb11.below (fun k h => by have := (HF_f1.out.2 _ h); have := S3.out; have := S4.out; have := S5.out; have := S6.out; omega) HB_w10.out.size)
  clear hb11
  obtain ⟨kk, hkk⟩ : ∃ kk : Int, kk = 1 + ((2 * (g.map (·.kids.length)).length + sumN' (g.map (·.kids.length)) : Nat) : Int) := ⟨_, rfl⟩
  rw [← hkk]
  have hk0 : 0 ≤ kk := by omega
  clear hkk
  have bg0 := cell_of_blk BG_w11.out 0 _ rfl
  have bg1 := cell_of_blk BG_w11.out 1 _ rfl
  have bg2 := cell_of_blk BG_w11.out 2 _ rfl
  have bgz := cellsOf_lt BG_w11.out
  have bw0 := cell_of_blk BW_w11.out 0 _ rfl
  have bw1 := cell_of_blk BW_w11.out 1 _ rfl
  have bw2 := cell_of_blk BW_w11.out 2 _ rfl
  have bwz := cellsOf_lt BW_w11.out
  go_wp2_with fail
  refine (eq_calls t.kids _ _ _ _ _ (K3_w11.out.on fun k hk => K3_w11.out.lt k hk) (W0_w11.out.mono (fun k hk => Nat.lt_of_lt_of_le hk LE_w11.out) fun _ _ => rfl)).mono ?_
  rintro en w12 ⟨rfl, hb12⟩
  clear bg0 bg1 bg2 bgz bw0 bw1 bw2 bwz
  have W0_w12 : Hid (KidsOn w12 (Lt w3.heap.size) t.kids (.slice ad3 t.kids.length cap3)) := W0_w11.out.mono (fun _ hk => hk) fun k hk => hb12.block k (Nat.lt_of_lt_of_le hk LE_w11.out)
  have LE_w12 : Hid (w3.heap.size ≤ w12.heap.size) := Nat.le_trans LE_w11.out hb12.size
  have BW_w12 : Hid (w12.heap[w3.heap.size]? = some (.cells #[.int .i64 t.op, .int .i64 t.num, (.slice ad3 t.kids.length cap3)] 28)) := (hb12.block _ (cellsOf_lt BW_w11.out)).trans BW_w11.out
  have LF_w12 : Hid (w5.heap.size ≤ w12.heap.size) := Nat.le_trans LF_w11.out hb12.size
  have K3_w12 : Hid (KidsFp w12 28 t.kids f3 (.slice ad6 t.kids.length cap6)) := K3_w11.out.keep fun k hk => hb12.block k (K3_w11.out.lt k hk)
  have BG_w12 : Hid (w12.heap[w6.heap.size]? = some (.cells #[.int .i64 t.op, .int .i64 t.num, (.slice ad6 t.kids.length cap6)] 28)) := (hb12.block _ (cellsOf_lt BG_w11.out)).trans BG_w11.out
  have HB_w12 : Hid (Below w.heap.size w w12) := HB_w11.out.trans (hb12.mono HB_w11.out.size)
  clear hb12
  have bg0 := cell_of_blk BG_w12.out 0 _ rfl
  have bg1 := cell_of_blk BG_w12.out 1 _ rfl
  have bg2 := cell_of_blk BG_w12.out 2 _ rfl
  have bgz := cellsOf_lt BG_w12.out
  go_wp2_with fail
  -- the answer is marked
  refine (mark_calls t.kids _ _ f3 _ 1 w12 K3_w12.out HF_f3.out.1 (by omega) (by have := HTS.out; omega)).mono ?_
  rintro en w13 ⟨rfl, hk13, hb13⟩
  clear bg0 bg1 bg2 bgz
  have W0_w13 : Hid (KidsOn w13 (Lt w3.heap.size) t.kids (.slice ad3 t.kids.length cap3)) := W0_w12.out.mono (fun _ hk => hk) fun k (hk : k < _) => hb13.block k (Nat.lt_of_lt_of_le hk LE_w12.out) (fun h => by have := (HF_f3.out.2 _ h); have := S3.out; have := S4.out; have := S5.out; have := S6.out; omega)
  have LE_w13 : Hid (w3.heap.size ≤ w13.heap.size) := Nat.le_trans LE_w12.out hb13.size
  have BW_w13 : Hid (w13.heap[w3.heap.size]? = some (.cells #[.int .i64 t.op, .int .i64 t.num, (.slice ad3 t.kids.length cap3)] 28)) := (hb13.block _ (cellsOf_lt BW_w12.out) (fun h => by have := (HF_f3.out.2 _ h); have := S3.out; have := S4.out; have := S5.out; have := S6.out; omega)).trans BW_w12.out
  have LF_w13 : Hid (w5.heap.size ≤ w13.heap.size) := Nat.le_trans LF_w12.out hb13.size
  have BG_w13 : Hid (w13.heap[w6.heap.size]? = some (.cells #[.int .i64 t.op, .int .i64 t.num, (.slice ad6 t.kids.length cap6)] 28)) := (hb13.block _ (cellsOf_lt BG_w12.out) (fun h => by have := (HF_f3.out.2 _ h); have := S3.out; have := S4.out; have := S5.out; have := S6.out; omega)).trans BG_w12.out
  have HB_w13 : Hid (Below w.heap.size w w13) := HB_w12.out.trans (hb13.below (fun k h => by have := (HF_f3.out.2 _ h); have := S3.out; have := S4.out; have := S5.out; have := S6.out; omega) HB_w12.out.size)
  have K4_w13 : Hid (KidsFp w13 28 (labL t.kids 1) f3 (.slice ad6 t.kids.length cap6)) := hk13
  clear hb13 hk13
  obtain ⟨mm, hmm⟩ : ∃ mm : Int, mm = 1 + 2 * (szL t.kids : Int) := ⟨_, rfl⟩
  have HM : Hid (mm = 1 + 2 * (szL t.kids : Int)) := hmm
  have hm0 : 0 ≤ mm := by omega
  rw [← hmm]
  clear hmm
  have bg0 := cell_of_blk BG_w13.out 0 _ rfl
  have bg1 := cell_of_blk BG_w13.out 1 _ rfl
  have bg2 := cell_of_blk BG_w13.out 2 _ rfl
  have bgz := cellsOf_lt BG_w13.out
  go_wp2_with fail
  refine (held_calls t.kids _ _ _ 1 w13 (K4_w13.out.on fun k hk => K4_w13.out.lt k hk) (by omega) (by have := HTS.out; omega)).mono ?_
  rintro en w14 ⟨rfl, hb14⟩
  rw [← HM.out]
  clear bg0 bg1 bg2 bgz
  have W0_w14 : Hid (KidsOn w14 (Lt w3.heap.size) t.kids (.slice ad3 t.kids.length cap3)) := W0_w13.out.mono (fun _ hk => hk) fun k hk => hb14.block k (Nat.lt_of_lt_of_le hk LE_w13.out)
  have LE_w14 : Hid (w3.heap.size ≤ w14.heap.size) := Nat.le_trans LE_w13.out hb14.size
  have BW_w14 : Hid (w14.heap[w3.heap.size]? = some (.cells #[.int .i64 t.op, .int .i64 t.num, (.slice ad3 t.kids.length cap3)] 28)) := (hb14.block _ (cellsOf_lt BW_w13.out)).trans BW_w13.out
  have LF_w14 : Hid (w5.heap.size ≤ w14.heap.size) := Nat.le_trans LF_w13.out hb14.size
  have BG_w14 : Hid (w14.heap[w6.heap.size]? = some (.cells #[.int .i64 t.op, .int .i64 t.num, (.slice ad6 t.kids.length cap6)] 28)) := (hb14.block _ (cellsOf_lt BG_w13.out)).trans BG_w13.out
  have K4_w14 : Hid (KidsFp w14 28 (labL t.kids 1) f3 (.slice ad6 t.kids.length cap6)) := K4_w13.out.keep fun k hk => hb14.block k (K4_w13.out.lt k hk)
  have HB_w14 : Hid (Below w.heap.size w w14) := HB_w13.out.trans (hb14.mono HB_w13.out.size)
  clear hb14
  have tm : (mm != mm) = false := by simp
  go_wp2_with fail
  -- called once more
  refine (toCells_calls g c _ (HK.out.next HB_w14.out) HZ.out).mono ?_
  rintro en w15 ⟨v15, rfl, hv15, hb15⟩
  have W0_w15 : Hid (KidsOn w15 (Lt w3.heap.size) t.kids (.slice ad3 t.kids.length cap3)) := W0_w14.out.mono (fun _ hk => hk) fun k hk => hb15.block k (Nat.lt_of_lt_of_le hk LE_w14.out)
  have LE_w15 : Hid (w3.heap.size ≤ w15.heap.size) := Nat.le_trans LE_w14.out hb15.size
  have BW_w15 : Hid (w15.heap[w3.heap.size]? = some (.cells #[.int .i64 t.op, .int .i64 t.num, (.slice ad3 t.kids.length cap3)] 28)) := (hb15.block _ (cellsOf_lt BW_w14.out)).trans BW_w14.out
  have LF_w15 : Hid (w5.heap.size ≤ w15.heap.size) := Nat.le_trans LF_w14.out hb15.size
  have BG_w15 : Hid (w15.heap[w6.heap.size]? = some (.cells #[.int .i64 t.op, .int .i64 t.num, (.slice ad6 t.kids.length cap6)] 28)) := (hb15.block _ (cellsOf_lt BG_w14.out)).trans BG_w14.out
  have K4_w15 : Hid (KidsFp w15 28 (labL t.kids 1) f3 (.slice ad6 t.kids.length cap6)) := K4_w14.out.keep fun k hk => hb15.block k (K4_w14.out.lt k hk)
  have HB_w15 : Hid (Below w.heap.size w w15) := HB_w14.out.trans (hb15.mono HB_w14.out.size)
  have V15_w15 : Hid (CIn w15 g v15) := hv15.inn
  clear hv15 hb15
  go_wp2_with fail
  refine (HSI.out _ _ V15_w15.out).mono ?_
  rintro en w16 ⟨v16, rfl, hv16, hb16⟩
  have W0_w16 : Hid (KidsOn w16 (Lt w3.heap.size) t.kids (.slice ad3 t.kids.length cap3)) := W0_w15.out.mono (fun _ hk => hk) fun k hk => hb16.block k (Nat.lt_of_lt_of_le hk LE_w15.out)
  have LE_w16 : Hid (w3.heap.size ≤ w16.heap.size) := Nat.le_trans LE_w15.out hb16.size
  have BW_w16 : Hid (w16.heap[w3.heap.size]? = some (.cells #[.int .i64 t.op, .int .i64 t.num, (.slice ad3 t.kids.length cap3)] 28)) := (hb16.block _ (cellsOf_lt BW_w15.out)).trans BW_w15.out
  have LF_w16 : Hid (w5.heap.size ≤ w16.heap.size) := Nat.le_trans LF_w15.out hb16.size
  have BG_w16 : Hid (w16.heap[w6.heap.size]? = some (.cells #[.int .i64 t.op, .int .i64 t.num, (.slice ad6 t.kids.length cap6)] 28)) := (hb16.block _ (cellsOf_lt BG_w15.out)).trans BG_w15.out
  have K4_w16 : Hid (KidsFp w16 28 (labL t.kids 1) f3 (.slice ad6 t.kids.length cap6)) := K4_w15.out.keep fun k hk => hb16.block k (K4_w15.out.lt k hk)
  have HB_w16 : Hid (Below w.heap.size w w16) := HB_w15.out.trans (hb16.mono HB_w15.out.size)
  have V16_w16 : Hid (In w16 t.kids v16) := hv16.on.btw_in
  obtain ⟨ad16, cap16, rfl⟩ := fresh_shape hv16
  clear hv16 hb16
  have bw0 := cell_of_blk BW_w16.out 0 _ rfl
  have bw1 := cell_of_blk BW_w16.out 1 _ rfl
  have bw2 := cell_of_blk BW_w16.out 2 _ rfl
  have bwz := cellsOf_lt BW_w16.out
  go_wp2_with fail
  obtain ⟨w17, hw17⟩ : ∃ w17 : World, w17 = w16.alloc (.cells #[.int .i64 t.op, .int .i64 t.num, .slice ad16 t.kids.length cap16] 28) := ⟨_, rfl⟩
  rw [← hw17]
  have hbw17 : Below w16.heap.size w16 w17 := by rw [hw17]; exact box_below _ _
  clear bw0 bw1 bw2 bwz
  have W0_w17 : Hid (KidsOn w17 (Lt w3.heap.size) t.kids (.slice ad3 t.kids.length cap3)) := W0_w16.out.mono (fun _ hk => hk) fun k hk => hbw17.block k (Nat.lt_of_lt_of_le hk LE_w16.out)
  have LE_w17 : Hid (w3.heap.size ≤ w17.heap.size) := Nat.le_trans LE_w16.out hbw17.size
  have BW_w17 : Hid (w17.heap[w3.heap.size]? = some (.cells #[.int .i64 t.op, .int .i64 t.num, (.slice ad3 t.kids.length cap3)] 28)) := (hbw17.block _ (cellsOf_lt BW_w16.out)).trans BW_w16.out
  have LF_w17 : Hid (w5.heap.size ≤ w17.heap.size) := Nat.le_trans LF_w16.out hbw17.size
  have BG_w17 : Hid (w17.heap[w6.heap.size]? = some (.cells #[.int .i64 t.op, .int .i64 t.num, (.slice ad6 t.kids.length cap6)] 28)) := (hbw17.block _ (cellsOf_lt BG_w16.out)).trans BG_w16.out
  have K4_w17 : Hid (KidsFp w17 28 (labL t.kids 1) f3 (.slice ad6 t.kids.length cap6)) := K4_w16.out.keep fun k hk => hbw17.block k (K4_w16.out.lt k hk)
  have V16_w17 : Hid (In w17 t.kids (.slice ad16 t.kids.length cap16)) := V16_w16.out.next hbw17
  have HB_w17 : Hid (Below w.heap.size w w17) := HB_w16.out.trans (hbw17.mono HB_w16.out.size)
  clear hw17 hbw17
  refine (eq_calls t.kids _ _ _ _ _ V16_w17.out (W0_w17.out.mono (fun k hk => Nat.lt_of_lt_of_le hk LE_w17.out) fun _ _ => rfl)).mono ?_
  rintro en w18 ⟨rfl, hb18⟩
  have W0_w18 : Hid (KidsOn w18 (Lt w3.heap.size) t.kids (.slice ad3 t.kids.length cap3)) := W0_w17.out.mono (fun _ hk => hk) fun k hk => hb18.block k (Nat.lt_of_lt_of_le hk LE_w17.out)
  have LE_w18 : Hid (w3.heap.size ≤ w18.heap.size) := Nat.le_trans LE_w17.out hb18.size
  have BW_w18 : Hid (w18.heap[w3.heap.size]? = some (.cells #[.int .i64 t.op, .int .i64 t.num, (.slice ad3 t.kids.length cap3)] 28)) := (hb18.block _ (cellsOf_lt BW_w17.out)).trans BW_w17.out
  have LF_w18 : Hid (w5.heap.size ≤ w18.heap.size) := Nat.le_trans LF_w17.out hb18.size
  have BG_w18 : Hid (w18.heap[w6.heap.size]? = some (.cells #[.int .i64 t.op, .int .i64 t.num, (.slice ad6 t.kids.length cap6)] 28)) := (hb18.block _ (cellsOf_lt BG_w17.out)).trans BG_w17.out
  have K4_w18 : Hid (KidsFp w18 28 (labL t.kids 1) f3 (.slice ad6 t.kids.length cap6)) := K4_w17.out.keep fun k hk => hb18.block k (K4_w17.out.lt k hk)
  have V16_w18 : Hid (In w18 t.kids (.slice ad16 t.kids.length cap16)) := V16_w17.out.next hb18
  have HB_w18 : Hid (Below w.heap.size w w18) := HB_w17.out.trans (hb18.mono HB_w17.out.size)
  clear hb18
  have bg0 := cell_of_blk BG_w18.out 0 _ rfl
  have bg1 := cell_of_blk BG_w18.out 1 _ rfl
  have bg2 := cell_of_blk BG_w18.out 2 _ rfl
  have bgz := cellsOf_lt BG_w18.out
  go_wp2_with fail
  refine (held_calls t.kids _ _ _ 1 w18 (K4_w18.out.on fun k hk => K4_w18.out.lt k hk) (by omega) (by have := HTS.out; omega)).mono ?_
  rintro en w19 ⟨rfl, hb19⟩
  rw [← HM.out]
  clear bg0 bg1 bg2 bgz
  have HB_w19 : Hid (Below w.heap.size w w19) := HB_w18.out.trans (hb19.mono HB_w18.out.size)
  clear hb19
  go_wp2_with fail
  go_ret
  exact ⟨rfl, HB_w19.out⟩
end Go.Proofs.Yticoegjackgldab.lawExactReadGraph
