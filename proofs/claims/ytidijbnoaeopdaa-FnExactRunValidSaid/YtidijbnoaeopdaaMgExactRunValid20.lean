/-
  THE WALK OF FnExactRunValid.
-/
import Derived.Test.YtidijbnoaeopdaaMgExactRunValid18
import Derived.Test.YtidijbnoaeopdaaMgExactRunValid19
import Derived.Test.YtidijbnoaeopdaaMgExactRunValid17
import Derived.Test.YtidijbnoaeopdaaMgExactRunValid15
import Derived.Test.YtidijbnoaeopdaaMgExactRunValid1
import Derived.Test.YtidijbnoaeopdaaMgExactRunValid2
import Derived.Test.YtidijbnoaeopdaaMgExactRunValid3
import Derived.Deep.RegionHeld3
namespace Go.Proofs.Ytidijbnoaeopdaa.lawExactRunValid
open Go.ChangeShapes Go.WideShapes Go.ChangeAt Go.RowKit
set_option linter.unusedVariables false
set_option linter.unusedSimpArgs false

set_option maxRecDepth 100000 in
set_option maxHeartbeats 3200000 in
theorem walk (ds : List Df) (p : Value) (x : Rn) (a : Int) (c : Value) (w : World) (hp : DIn w ds p) (hk : CIn w x.g c) (h64 : rn64 a x) :
    Calls Try.prog 4 #[p, .agg (rnA c a x)] w fun e w' => e = .returned (.bool true) ∧ Below w.heap.size w w' := by
  have HK := mkHid hk
  have HP : Hid (DIn w ds p) := hp
  obtain ⟨adg, capg, rfl, -, -, -⟩ := hk
  obtain ⟨r, hr⟩ : ∃ r : Bool, r = rvB ds x a := ⟨_, rfl⟩
  have HSS : Hid (∀ (u z : Value) (W : World), DIn W ds u → CIn W x.g z → Calls Try.prog 20 #[u, .agg (rnA z a x)] W fun en w' => en = .returned (.bool r) ∧ Below W.heap.size W w') := fun u z W h1 h2 => by
    rw [hr]; exact specRv_calls ds x a u z W h1 h2
  have HSI : Hid (∀ (u z : Value) (W : World), DIn W ds u → CIn W x.g z → Calls Try.prog 22 #[u, .agg (rnA z a x)] W fun en w' => en = .returned (.bool r) ∧ Below W.heap.size W w') := fun u z W h1 h2 => by
    rw [hr]; exact implRv_calls ds x a u z W h1 h2
  have hrg := szOut_range (bodies ds) 1048576 (by omega)
  obtain ⟨W, hW⟩ : ∃ W, W = w.alloc (.cells #[.slice adg x.g.length capg, .int .i64 a, .int .i64 x.steps, .int .i64 x.moved, .int .i64 x.peak, .int .i64 x.ticks, .int .i64 x.rounds] 48) := ⟨_, rfl⟩
  have HBW : Hid (Below w.heap.size w W) := by rw [hW]; exact box_below _ _
  have HXW : Hid (W.heap[w.heap.size]? = some (.cells #[.slice adg x.g.length capg, .int .i64 a, .int .i64 x.steps, .int .i64 x.moved, .int .i64 x.peak, .int .i64 x.ticks, .int .i64 x.rounds] 48)) := by rw [hW]; exact Deep.blk_alloc_new _ _
  have HLW : Hid (w.heap.size < W.heap.size) := by rw [hW, Hid, Deep.nblk_alloc]; exact Nat.lt_succ_self _
  clear hp hr h64
  unfold rnA
  go_enter Try.func4, Try.ntmps4
  go_wp2_with fail
  rw [← hW]
  clear hW
  refine (szDefS_calls ds _ _ W (HP.out.next HBW.out) (by omega) (by omega)).mono ?_
  rintro e w1 ⟨rfl, hb⟩
  have HB1 : Hid (Below w.heap.size w w1) := HBW.out.trans (hb.mono HBW.out.size)
  have HX1 := mkHid ((hb.block _ HLW.out).trans HXW.out)
  have HL1 : Hid (w.heap.size < w1.heap.size) := Nat.lt_of_lt_of_le HLW.out hb.size
  clear hb
  by_cases hneg : szOut (bodies ds) 1048576 < 0
  · go_wp2_with fail
    go_ret
    exact ⟨rfl, HB1.out⟩
  have HZD : Hid (szL (bodies ds) ≤ 1048576) := by unfold szOut at hneg; unfold Hid; split at hneg <;> omega
  generalize szOut (bodies ds) 1048576 = left at *
  have hrc := szC_range x.g left (by omega)
  have x0 := cell_of_blk HX1.out 0 _ rfl
  have x1 := cell_of_blk HX1.out 1 _ rfl
  have x2 := cell_of_blk HX1.out 2 _ rfl
  have x3 := cell_of_blk HX1.out 3 _ rfl
  have x4 := cell_of_blk HX1.out 4 _ rfl
  have x5 := cell_of_blk HX1.out 5 _ rfl
  have x6 := cell_of_blk HX1.out 6 _ rfl
  go_wp2_with fail
  clear x0 x1 x2 x3 x4 x5 x6
  refine (szRun_calls x a (.slice adg x.g.length capg) left w1 (HK.out.next HB1.out) (by omega) (by omega)).mono ?_
  rintro e w2 ⟨rfl, hb⟩
  have HB2 : Hid (Below w.heap.size w w2) := HB1.out.trans (hb.mono HB1.out.size)
  have HX2 := mkHid ((hb.block _ HL1.out).trans HX1.out)
  have HL2 : Hid (w.heap.size < w2.heap.size) := Nat.lt_of_lt_of_le HL1.out hb.size
  clear hb
  by_cases hnegc : szC x.g left < 0
  · go_wp2_with fail
    go_ret
    exact ⟨rfl, HB2.out⟩
  have HZG : Hid (x.g.length + sumK x.g ≤ 1048576) := by unfold szC at hnegc; unfold Hid; split at hnegc <;> omega
  generalize szC x.g left = left2 at *
  clear hrg hrc hneg
  have x0 := cell_of_blk HX2.out 0 _ rfl
  have x1 := cell_of_blk HX2.out 1 _ rfl
  have x2 := cell_of_blk HX2.out 2 _ rfl
  have x3 := cell_of_blk HX2.out 3 _ rfl
  have x4 := cell_of_blk HX2.out 4 _ rfl
  have x5 := cell_of_blk HX2.out 5 _ rfl
  have x6 := cell_of_blk HX2.out 6 _ rfl
  go_wp2_with fail
  -- the model's answer
  go_region_held3 (fun w' => w'.cell? ⟨w.heap.size, 0, none⟩ = some (.slice adg x.g.length capg) ∧ w'.cell? ⟨w.heap.size, 1, none⟩ = some (.int .i64 a) ∧ w'.cell? ⟨w.heap.size, 2, none⟩ = some (.int .i64 x.steps) ∧ w'.cell? ⟨w.heap.size, 3, none⟩ = some (.int .i64 x.moved) ∧ w'.cell? ⟨w.heap.size, 4, none⟩ = some (.int .i64 x.peak) ∧ w'.cell? ⟨w.heap.size, 5, none⟩ = some (.int .i64 x.ticks) ∧ w'.cell? ⟨w.heap.size, 6, none⟩ = some (.int .i64 x.rounds))
    (first
      | go_keep
      | exact ⟨o0, o1, o2, o3, o4, o5, o6⟩
      | exact ⟨n0, n1, n2, n3, n4, n5, n6⟩
      | exact ⟨m0, m1, m2, m3, m4, m5, m6⟩
      | exact ⟨x0, x1, x2, x3, x4, x5, x6⟩)
    (first
      | (go_at_call 9; refine (toDefS_calls ds _ w2.drew ((HP.out.next HB2.out).drew) HZD.out).mono ?_; rintro e w3 ⟨v3, rfl, hv3, hb3⟩; have HB3 : Hid (Below w2.heap.size w2 w3) := ((Below.refl _ _).drew).trans hb3; have HV3 : Hid (DIn w3 ds v3) := hv3.btw_in; have HX3 := mkHid ((HB3.out.block _ HL2.out).trans HX2.out); have m0 := cell_of_blk HX3.out 0 _ rfl; have m1 := cell_of_blk HX3.out 1 _ rfl; have m2 := cell_of_blk HX3.out 2 _ rfl; have m3 := cell_of_blk HX3.out 3 _ rfl; have m4 := cell_of_blk HX3.out 4 _ rfl; have m5 := cell_of_blk HX3.out 5 _ rfl; have m6 := cell_of_blk HX3.out 6 _ rfl; clear hv3 hb3)
      | (go_at_call 21; refine (toRun_calls x a (.slice adg x.g.length capg) w3 (HK.out.next (HB2.out.trans (HB3.out.mono HB2.out.size))) HZG.out).mono ?_; rintro e w4 ⟨v4, rfl, hv4, hb4⟩; have HB4 : Hid (Below w2.heap.size w2 w4) := HB3.out.trans (hb4.mono HB3.out.size); have HV4 := mkHid hv4.inn; have HV3' := mkHid (HV3.out.next hb4); have HX4 := mkHid ((HB4.out.block _ HL2.out).trans HX2.out); have n0 := cell_of_blk HX4.out 0 _ rfl; have n1 := cell_of_blk HX4.out 1 _ rfl; have n2 := cell_of_blk HX4.out 2 _ rfl; have n3 := cell_of_blk HX4.out 3 _ rfl; have n4 := cell_of_blk HX4.out 4 _ rfl; have n5 := cell_of_blk HX4.out 5 _ rfl; have n6 := cell_of_blk HX4.out 6 _ rfl; clear hv4 hb4)
      | (go_at_call 20; refine (HSS.out _ _ w4 HV3'.out HV4.out).mono ?_; rintro e w5 ⟨rfl, hb5⟩; have HB5 : Hid (Below w2.heap.size w2 w5) := HB4.out.trans (hb5.mono HB4.out.size); have HX5 := mkHid ((HB5.out.block _ HL2.out).trans HX2.out); have o0 := cell_of_blk HX5.out 0 _ rfl; have o1 := cell_of_blk HX5.out 1 _ rfl; have o2 := cell_of_blk HX5.out 2 _ rfl; have o3 := cell_of_blk HX5.out 3 _ rfl; have o4 := cell_of_blk HX5.out 4 _ rfl; have o5 := cell_of_blk HX5.out 5 _ rfl; have o6 := cell_of_blk HX5.out 6 _ rfl; clear hb5))
  clear x0 x1 x2 x3 x4 x5 x6 m0 m1 m2 m3 m4 m5 m6 n0 n1 n2 n3 n4 n5 n6 o0 o1 o2 o3 o4 o5 o6
  have HB6 : Hid (Below w.heap.size w w5) := HB2.out.trans (HB5.out.mono HB2.out.size)
  have HL5 : Hid (w.heap.size < w5.heap.size) := Nat.lt_of_lt_of_le HL2.out HB5.out.size
  go_wp2_with fail
  -- the program's arguments
  refine (toDefS_calls ds _ _ (HP.out.next HB6.out) HZD.out).mono ?_
  rintro e w6 ⟨v6, rfl, hv6, hb⟩
  have HV6 : Hid (DIn w6 ds v6) := hv6.btw_in
  have HB7 : Hid (Below w.heap.size w w6) := HB6.out.trans (hb.mono HB6.out.size)
  have HX6 := mkHid ((hb.block _ HL5.out).trans HX5.out)
  have HL6 : Hid (w.heap.size < w6.heap.size) := Nat.lt_of_lt_of_le HL5.out hb.size
  clear hb hv6
  have x0 := cell_of_blk HX6.out 0 _ rfl
  have x1 := cell_of_blk HX6.out 1 _ rfl
  have x2 := cell_of_blk HX6.out 2 _ rfl
  have x3 := cell_of_blk HX6.out 3 _ rfl
  have x4 := cell_of_blk HX6.out 4 _ rfl
  have x5 := cell_of_blk HX6.out 5 _ rfl
  have x6 := cell_of_blk HX6.out 6 _ rfl
  go_wp2_with fail
  clear x0 x1 x2 x3 x4 x5 x6
  refine (toRun_calls x a (.slice adg x.g.length capg) w6 (HK.out.next HB7.out) HZG.out).mono ?_
  rintro e w7 ⟨v7, rfl, hv7, hb⟩
  obtain ⟨ad7, cap7, rfl, -, -, -⟩ := id hv7
  have HV7 := mkHid hv7.inn
  have HV6' := mkHid (HV6.out.next hb)
  have HB8 : Hid (Below w.heap.size w w7) := HB7.out.trans (hb.mono HB7.out.size)
  have HX7 := mkHid ((hb.block _ HL6.out).trans HX6.out)
  have HL7 : Hid (w.heap.size < w7.heap.size) := Nat.lt_of_lt_of_le HL6.out hb.size
  clear hb hv7
  unfold rnA
  obtain ⟨w8, hw8⟩ : ∃ w8 : World, w8 = w7.alloc (.cells #[.slice ad7 x.g.length cap7, .int .i64 a, .int .i64 x.steps, .int .i64 x.moved, .int .i64 x.peak, .int .i64 x.ticks, .int .i64 x.rounds] 30) := ⟨_, rfl⟩
  have hbw8 : Below w7.heap.size w7 w8 := by rw [hw8]; exact box_below _ _
  have HB9 : Hid (Below w.heap.size w w8) := HB8.out.trans (hbw8.mono HB8.out.size)
  have HX8 := mkHid ((hbw8.block _ HL7.out).trans HX7.out)
  have HY8 : Hid (w8.heap[w7.heap.size]? = some (.cells #[.slice ad7 x.g.length cap7, .int .i64 a, .int .i64 x.steps, .int .i64 x.moved, .int .i64 x.peak, .int .i64 x.ticks, .int .i64 x.rounds] 30)) := by rw [hw8]; exact Deep.blk_alloc_new _ _
  have HL8 : Hid (w7.heap.size < w8.heap.size) := by rw [hw8, Hid, Deep.nblk_alloc]; exact Nat.lt_succ_self _
  have HV8 := mkHid (HV7.out.next hbw8)
  have HV6'' := mkHid (HV6'.out.next hbw8)
  clear hbw8
  go_wp2_with fail
  rw [← hw8]
  clear hw8
  -- the program's answer
  refine (HSI.out _ (.slice ad7 x.g.length cap7) w8 HV6''.out HV8.out).mono ?_
  rintro e w9 ⟨rfl, hb⟩
  have HB10 : Hid (Below w.heap.size w w9) := HB9.out.trans (hb.mono HB9.out.size)
  have HX9 := mkHid ((hb.block _ (Nat.lt_trans HL7.out HL8.out)).trans HX8.out)
  have HY9 := mkHid ((hb.block _ HL8.out).trans HY8.out)
  have HL9 : Hid (w7.heap.size < w9.heap.size) := Nat.lt_of_lt_of_le HL8.out hb.size
  have HV9 := mkHid (HV8.out.next hb)
  have HV69 := mkHid (HV6''.out.next hb)
  clear hb
  have tr : (r != r) = false := by simp
  go_wp2_with fail
  refine (toDefS_calls ds _ _ (HP.out.next HB10.out) HZD.out).mono ?_
  rintro e w10 ⟨v10, rfl, hv10, hb⟩
  have HV10 : Hid (DIn w10 ds v10) := hv10.btw_in
  have HB11 : Hid (Below w.heap.size w w10) := HB10.out.trans (hb.mono HB10.out.size)
  have HX10 := mkHid ((hb.block _ (Nat.lt_trans HL7.out HL9.out)).trans HX9.out)
  have HY10 := mkHid ((hb.block _ HL9.out).trans HY9.out)
  have HL10 : Hid (w7.heap.size < w10.heap.size) := Nat.lt_of_lt_of_le HL9.out hb.size
  have HVR := mkHid (HV9.out.next hb)
  have HV610 := mkHid (HV69.out.next hb)
  clear hb hv10
  go_wp2_with fail
  refine (eqDefS_calls ds v6 v10 _ HV610.out HV10.out).mono ?_
  rintro e w11 ⟨rfl, hb⟩
  have HB12 : Hid (Below w.heap.size w w11) := HB11.out.trans (hb.mono HB11.out.size)
  have HX11 := mkHid ((hb.block _ (Nat.lt_trans HL7.out HL10.out)).trans HX10.out)
  have HY11 := mkHid ((hb.block _ HL10.out).trans HY10.out)
  have HL11 : Hid (w7.heap.size < w11.heap.size) := Nat.lt_of_lt_of_le HL10.out hb.size
  have HVS := mkHid (HVR.out.next hb)
  clear hb
  have x0 := cell_of_blk HX11.out 0 _ rfl
  have x1 := cell_of_blk HX11.out 1 _ rfl
  have x2 := cell_of_blk HX11.out 2 _ rfl
  have x3 := cell_of_blk HX11.out 3 _ rfl
  have x4 := cell_of_blk HX11.out 4 _ rfl
  have x5 := cell_of_blk HX11.out 5 _ rfl
  have x6 := cell_of_blk HX11.out 6 _ rfl
  have y0 := cell_of_blk HY11.out 0 _ rfl
  have y1 := cell_of_blk HY11.out 1 _ rfl
  have y2 := cell_of_blk HY11.out 2 _ rfl
  have y3 := cell_of_blk HY11.out 3 _ rfl
  have y4 := cell_of_blk HY11.out 4 _ rfl
  have y5 := cell_of_blk HY11.out 5 _ rfl
  have y6 := cell_of_blk HY11.out 6 _ rfl
  go_wp2_with fail
  go_region_held3 (fun w' => w'.cell? ⟨w.heap.size, 0, none⟩ = some (.slice adg x.g.length capg) ∧ w'.cell? ⟨w.heap.size, 1, none⟩ = some (.int .i64 a) ∧ w'.cell? ⟨w.heap.size, 2, none⟩ = some (.int .i64 x.steps) ∧ w'.cell? ⟨w.heap.size, 3, none⟩ = some (.int .i64 x.moved) ∧ w'.cell? ⟨w.heap.size, 4, none⟩ = some (.int .i64 x.peak) ∧ w'.cell? ⟨w.heap.size, 5, none⟩ = some (.int .i64 x.ticks) ∧ w'.cell? ⟨w.heap.size, 6, none⟩ = some (.int .i64 x.rounds) ∧ w'.cell? ⟨w7.heap.size, 0, none⟩ = some (.slice ad7 x.g.length cap7) ∧ w'.cell? ⟨w7.heap.size, 1, none⟩ = some (.int .i64 a) ∧ w'.cell? ⟨w7.heap.size, 2, none⟩ = some (.int .i64 x.steps) ∧ w'.cell? ⟨w7.heap.size, 3, none⟩ = some (.int .i64 x.moved) ∧ w'.cell? ⟨w7.heap.size, 4, none⟩ = some (.int .i64 x.peak) ∧ w'.cell? ⟨w7.heap.size, 5, none⟩ = some (.int .i64 x.ticks) ∧ w'.cell? ⟨w7.heap.size, 6, none⟩ = some (.int .i64 x.rounds))
    (first
      | go_keep
      | exact ⟨m0, m1, m2, m3, m4, m5, m6, n0, n1, n2, n3, n4, n5, n6⟩
      | exact ⟨x0, x1, x2, x3, x4, x5, x6, y0, y1, y2, y3, y4, y5, y6⟩)
    (first
      | (go_at_call 21; refine (toRun_calls x a (.slice adg x.g.length capg) w11.drew ((HK.out.next HB12.out).drew) HZG.out).mono ?_; rintro e w12 ⟨v12, rfl, hv12, hb12⟩; have HB13 : Hid (Below w11.heap.size w11 w12) := ((Below.refl _ _).drew).trans hb12; have HV12 := mkHid hv12.inn; have HX12 := mkHid ((HB13.out.block _ (Nat.lt_trans HL7.out HL11.out)).trans HX11.out); have HY12 := mkHid ((HB13.out.block _ HL11.out).trans HY11.out); have HVT := mkHid (HVS.out.next HB13.out); have m0 := cell_of_blk HX12.out 0 _ rfl; have m1 := cell_of_blk HX12.out 1 _ rfl; have m2 := cell_of_blk HX12.out 2 _ rfl; have m3 := cell_of_blk HX12.out 3 _ rfl; have m4 := cell_of_blk HX12.out 4 _ rfl; have m5 := cell_of_blk HX12.out 5 _ rfl; have m6 := cell_of_blk HX12.out 6 _ rfl; have n0 := cell_of_blk HY12.out 0 _ rfl; have n1 := cell_of_blk HY12.out 1 _ rfl; have n2 := cell_of_blk HY12.out 2 _ rfl; have n3 := cell_of_blk HY12.out 3 _ rfl; have n4 := cell_of_blk HY12.out 4 _ rfl; have n5 := cell_of_blk HY12.out 5 _ rfl; have n6 := cell_of_blk HY12.out 6 _ rfl; clear hv12 hb12)
      | (go_at_call 12; refine (eqRun_calls x a (.slice ad7 x.g.length cap7) _ w12 HVT.out HV12.out).mono ?_; rintro e w13 ⟨rfl, hb13⟩; have HB14 : Hid (Below w11.heap.size w11 w13) := HB13.out.trans (hb13.mono HB13.out.size); have HX13 := mkHid ((HB14.out.block _ (Nat.lt_trans HL7.out HL11.out)).trans HX11.out); have HY13 := mkHid ((HB14.out.block _ HL11.out).trans HY11.out); clear m0 m1 m2 m3 m4 m5 m6 n0 n1 n2 n3 n4 n5 n6; have m0 := cell_of_blk HX13.out 0 _ rfl; have m1 := cell_of_blk HX13.out 1 _ rfl; have m2 := cell_of_blk HX13.out 2 _ rfl; have m3 := cell_of_blk HX13.out 3 _ rfl; have m4 := cell_of_blk HX13.out 4 _ rfl; have m5 := cell_of_blk HX13.out 5 _ rfl; have m6 := cell_of_blk HX13.out 6 _ rfl; have n0 := cell_of_blk HY13.out 0 _ rfl; have n1 := cell_of_blk HY13.out 1 _ rfl; have n2 := cell_of_blk HY13.out 2 _ rfl; have n3 := cell_of_blk HY13.out 3 _ rfl; have n4 := cell_of_blk HY13.out 4 _ rfl; have n5 := cell_of_blk HY13.out 5 _ rfl; have n6 := cell_of_blk HY13.out 6 _ rfl; clear hb13))
  clear x0 x1 x2 x3 x4 x5 x6 y0 y1 y2 y3 y4 y5 y6 m0 m1 m2 m3 m4 m5 m6 n0 n1 n2 n3 n4 n5 n6
  go_wp2_with fail
  go_ret
  exact ⟨rfl, HB12.out.trans (HB14.out.mono HB12.out.size)⟩
end Go.Proofs.Ytidijbnoaeopdaa.lawExactRunValid
