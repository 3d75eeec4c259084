/-
  THE WALK OF FnExactExprSame.
-/
import Derived.Test.YticoegjackgldaaSame
import Derived.Test.YticoegjackgldaaSpecSame
import Derived.Test.YticoegjackgldaaFresh
import Derived.Test.YticoegjackgldaaSz
import Derived.Test.YticoegjackgldaaEq
namespace Go.Proofs.Yticoegjackgldaa.lawExactExprSame
open Go.ChangeShapes Go.WideShapes Go.ChangeAt Go.RowKit
set_option linter.unusedVariables false
set_option linter.unusedSimpArgs false

theorem carry {w w' : World} (hb : Below w.heap.size w w') {a : Addr} {v : Value} (h : w.cell? a = some v) : w'.cell? a = some v := (hb.cell (cell_lt h)).trans h
theorem boxes {w : World} {a b c a' b' c' : Value} {T T' : TypeId} {wb : World} (hw : wb = (w.alloc (.cells #[a, b, c] T)).alloc (.cells #[a', b', c'] T')) :
    wb.cell? ⟨w.heap.size, 0, none⟩ = some a ∧ wb.cell? ⟨w.heap.size, 1, none⟩ = some b ∧ wb.cell? ⟨w.heap.size, 2, none⟩ = some c ∧ wb.cell? ⟨w.heap.size + 1, 0, none⟩ = some a' ∧ wb.cell? ⟨w.heap.size + 1, 1, none⟩ = some b' ∧ wb.cell? ⟨w.heap.size + 1, 2, none⟩ = some c' ∧ wb.heap.size = w.heap.size + 2 ∧ Below w.heap.size w wb := by
  have h := fun i v h => box_cell (w.alloc (.cells #[a, b, c] T)) #[a', b', c'] T' i v h
  rw [Deep.nblk_alloc, ← hw] at h
  refine ⟨?_, ?_, ?_, h 0 _ rfl, h 1 _ rfl, h 2 _ rfl, ?_, ?_⟩
  · rw [hw]; exact old_cell (box_cell w _ _ 0 _ rfl) _
  · rw [hw]; exact old_cell (box_cell w _ _ 1 _ rfl) _
  · rw [hw]; exact old_cell (box_cell w _ _ 2 _ rfl) _
  · rw [hw, Deep.nblk_alloc, Deep.nblk_alloc]
  · rw [hw]; exact (box_below w _).trans ((box_below _ _).mono (by simp))

set_option maxRecDepth 100000 in
set_option maxHeartbeats 3200000 in
theorem walk (s t : Tr) (c d : Value) (w : World) (hk : In w s.kids c) (hk2 : In w t.kids d) (hs : I64 s.op ∧ I64 s.num) (ht : I64 t.op ∧ I64 t.num) :
    Calls Try.prog 5 #[.agg #[.int .i64 s.op, .int .i64 s.num, c], .agg #[.int .i64 t.op, .int .i64 t.num, d]] w fun e w' => e = .returned (.bool true) ∧ Below w.heap.size w w' := by
  have HK : Hid (In w s.kids c) := hk
  have HL : Hid (In w t.kids d) := hk2
  have HT : Hid ((I64 s.op ∧ I64 s.num) ∧ I64 t.op ∧ I64 t.num) := ⟨hs, ht⟩
  obtain ⟨ad, cap, rfl, -, -, -⟩ := hk
  obtain ⟨ad', cap', rfl, -, -, -⟩ := hk2
  have hrg := szOut_range s.kids 1048576 (by omega)
  clear hs ht
  go_enter Try.func5, Try.ntmps5
  go_wp2_with fail
  obtain ⟨wb, hwb⟩ : ∃ wb : World, wb = (w.alloc (.cells #[.int .i64 s.op, .int .i64 s.num, .slice ad s.kids.length cap] 24)).alloc (.cells #[.int .i64 t.op, .int .i64 t.num, .slice ad' t.kids.length cap'] 24) := ⟨_, rfl⟩
  rw [← hwb]
  obtain ⟨a0, a1, a2, b0, b1, b2, hzb, hbb⟩ := boxes hwb
  have HB0 : Hid (Below w.heap.size w wb) := hbb
  clear hwb hzb hbb
  refine (sz_calls s.kids _ _ _ _ _ (HK.out.next HB0.out) (by omega) (by omega)).mono ?_
  rintro e w1 ⟨rfl, hb1⟩
  have HB1 : Hid (Below w.heap.size w w1) := HB0.out.trans (hb1.mono HB0.out.size)
  replace a0 := carry hb1 a0
  replace a1 := carry hb1 a1
  replace a2 := carry hb1 a2
  replace b0 := carry hb1 b0
  replace b1 := carry hb1 b1
  replace b2 := carry hb1 b2
  clear hb1
  by_cases hneg : szOut s.kids 1048576 < 0
  · clear a0 a1 a2 b0 b1 b2
    go_wp2_with fail
    go_ret
    exact ⟨rfl, HB1.out⟩
  have HZ : Hid (szL s.kids ≤ 1048576) := by unfold szOut at hneg; unfold Hid; split at hneg <;> omega
  generalize szOut s.kids 1048576 = left at *
  go_wp2_with fail
  refine (sz_calls t.kids _ _ _ _ _ (HL.out.next HB1.out) (by omega) (by omega)).mono ?_
  rintro e w2 ⟨rfl, hb2⟩
  have HB2 : Hid (Below w.heap.size w w2) := HB1.out.trans (hb2.mono HB1.out.size)
  replace a0 := carry hb2 a0
  replace a1 := carry hb2 a1
  replace a2 := carry hb2 a2
  replace b0 := carry hb2 b0
  replace b1 := carry hb2 b1
  replace b2 := carry hb2 b2
  clear hb2
  by_cases hneg2 : szOut t.kids left < 0
  · clear a0 a1 a2 b0 b1 b2
    go_wp2_with fail
    go_ret
    exact ⟨rfl, HB2.out⟩
  have HZ2 : Hid (szL t.kids ≤ 1048576) := by unfold szOut at hneg2; unfold Hid; split at hneg2 <;> omega
  clear hrg
  generalize szOut t.kids left = left2 at *
  go_wp2_with fail
  have HK2 : Hid (In w2 s.kids (.slice ad s.kids.length cap)) := HK.out.next HB2.out
  have HL2 : Hid (In w2 t.kids (.slice ad' t.kids.length cap')) := HL.out.next HB2.out
  have tok1 : True := trivial
  go_region_with (first
    | (go_at_call 14; have _tk := tok1; go_must (refine (to_calls s.kids _ _ _ _ ?_ HZ.out).mono ?_); go_must (exact HK2.out.drew); go_must (rintro e w3 ⟨v3, rfl, hv3, hb3⟩); go_must (have HV3 : Hid (In w3 s.kids v3) := hv3.btw_in); go_must (have HB3 : Hid (Below w2.heap.size w2 w3) := (Below.refl _ _).drew.trans hb3); go_must (have d0 := carry HB3.out a0); go_must (have d1 := carry HB3.out a1); go_must (have d2 := carry HB3.out a2); go_must (have e0 := carry HB3.out b0); go_must (have e1 := carry HB3.out b1); go_must (have e2 := carry HB3.out b2); clear hb3 hv3 tok1 _tk)
    | (go_at_call 14; go_must (refine (to_calls t.kids _ _ _ _ ?_ HZ2.out).mono ?_); go_must (exact HL2.out.next HB3.out); go_must (rintro e w4 ⟨v4, rfl, hv4, hb4⟩); go_must (have HV4 : Hid (In w4 t.kids v4) := hv4.btw_in); go_must (have HV3' : Hid (In w4 s.kids v3) := HV3.out.next hb4); go_must (have HB4 : Hid (Below w2.heap.size w2 w4) := HB3.out.trans (hb4.mono HB3.out.size)); go_must (have f0 := carry hb4 d0); go_must (have f1 := carry hb4 d1); go_must (have f2 := carry hb4 d2); go_must (have h0 := carry hb4 e0); go_must (have h1 := carry hb4 e1); go_must (have h2 := carry hb4 e2); clear hb4 hv4)
    | (go_at_call 22; go_must (refine (same_calls s t _ _ _ HV3'.out HV4.out).mono ?_); go_must (rintro e w5 ⟨⟨bv, rfl, hbv⟩, hb5⟩); go_must (have HBV : Hid (bv = true ↔ s = t) := hbv); go_must (have HB5' : Hid (Below w2.heap.size w2 w5) := HB4.out.trans (hb5.mono HB4.out.size)); go_must (have g0 := carry hb5 f0); go_must (have g1 := carry hb5 f1); go_must (have g2 := carry hb5 f2); go_must (have i0 := carry hb5 h0); go_must (have i1 := carry hb5 h1); go_must (have i2 := carry hb5 h2); clear hb5 hbv))
  all_goals
    have HB5 : Hid (Below w.heap.size w w5) := HB2.out.trans (HB5'.out.mono HB2.out.size)
    clear a0 a1 a2 b0 b1 b2 d0 d1 d2 e0 e1 e2 f0 f1 f2 h0 h1 h2
    go_wp2_with fail
    refine (fto_calls s.kids _ _ _ _ (HK.out.next HB5.out) HZ.out).mono ?_
    rintro e w6 ⟨v6, rfl, hv6, hb6⟩
    have HV6 : Hid (InP w6 s.kids v6) := hv6.inP
    have HV6' := HV6.out
    have HB6 : Hid (Below w.heap.size w w6) := HB5.out.trans (hb6.mono HB5.out.size)
    replace g0 := carry hb6 g0
    replace g1 := carry hb6 g1
    replace g2 := carry hb6 g2
    replace i0 := carry hb6 i0
    replace i1 := carry hb6 i1
    replace i2 := carry hb6 i2
    obtain ⟨ad6, cap6, rfl, -, -, -⟩ := HV6'
    have hz6 : w.heap.size + 1 < w6.heap.size := cell_lt i0
    clear hb6 hv6
    go_wp2_with fail
    obtain ⟨w7, hw7⟩ : ∃ w7 : World, w7 = w6.alloc (.cells #[.int .i64 s.op, .int .i64 s.num, .slice ad6 s.kids.length cap6] 29) := ⟨_, rfl⟩
    have hb7 : Below w6.heap.size w6 w7 := by rw [hw7]; exact box_below _ _
    have hz7 : w7.heap.size = w6.heap.size + 1 := by rw [hw7]; exact Deep.nblk_alloc _ _
    have x0 : w7.cell? ⟨w6.heap.size, 0, none⟩ = some (.int .i64 s.op) := by rw [hw7]; exact box_cell w6 _ _ 0 _ rfl
    have x1 : w7.cell? ⟨w6.heap.size, 1, none⟩ = some (.int .i64 s.num) := by rw [hw7]; exact box_cell w6 _ _ 1 _ rfl
    have x2 : w7.cell? ⟨w6.heap.size, 2, none⟩ = some (.slice ad6 s.kids.length cap6) := by rw [hw7]; exact box_cell w6 _ _ 2 _ rfl
    rw [← hw7]
    have HV7 : Hid (InP w7 s.kids (.slice ad6 s.kids.length cap6)) := HV6.out.nextP hb7
    have HB7 : Hid (Below w.heap.size w w7) := HB6.out.trans (hb7.mono HB6.out.size)
    replace g0 := carry hb7 g0
    replace g1 := carry hb7 g1
    replace g2 := carry hb7 g2
    replace i0 := carry hb7 i0
    replace i1 := carry hb7 i1
    replace i2 := carry hb7 i2
    clear hw7 hb7 hz7 hz6
    refine (fto_calls t.kids _ _ _ _ (HL.out.next HB7.out) HZ2.out).mono ?_
    rintro e w8 ⟨v8, rfl, hv8, hb8⟩
    have HV8 : Hid (InP w8 t.kids v8) := hv8.inP
    have HV8' := HV8.out
    have HW8 : Hid (InP w8 s.kids (.slice ad6 s.kids.length cap6)) := HV7.out.nextP hb8
    have HB8 : Hid (Below w.heap.size w w8) := HB7.out.trans (hb8.mono HB7.out.size)
    replace g0 := carry hb8 g0
    replace g1 := carry hb8 g1
    replace g2 := carry hb8 g2
    replace i0 := carry hb8 i0
    replace i1 := carry hb8 i1
    replace i2 := carry hb8 i2
    replace x0 := carry hb8 x0
    replace x1 := carry hb8 x1
    replace x2 := carry hb8 x2
    obtain ⟨ad8, cap8, rfl, -, -, -⟩ := HV8'
    have hz8 : w6.heap.size < w8.heap.size := cell_lt x0
    clear hb8 hv8
    go_wp2_with fail
    obtain ⟨w9, hw9⟩ : ∃ w9 : World, w9 = w8.alloc (.cells #[.int .i64 t.op, .int .i64 t.num, .slice ad8 t.kids.length cap8] 29) := ⟨_, rfl⟩
    have hb9 : Below w8.heap.size w8 w9 := by rw [hw9]; exact box_below _ _
    have y0 : w9.cell? ⟨w8.heap.size, 0, none⟩ = some (.int .i64 t.op) := by rw [hw9]; exact box_cell w8 _ _ 0 _ rfl
    have y1 : w9.cell? ⟨w8.heap.size, 1, none⟩ = some (.int .i64 t.num) := by rw [hw9]; exact box_cell w8 _ _ 1 _ rfl
    have y2 : w9.cell? ⟨w8.heap.size, 2, none⟩ = some (.slice ad8 t.kids.length cap8) := by rw [hw9]; exact box_cell w8 _ _ 2 _ rfl
    rw [← hw9]
    have HV9 : Hid (InP w9 t.kids (.slice ad8 t.kids.length cap8)) := HV8.out.nextP hb9
    have HW9 : Hid (InP w9 s.kids (.slice ad6 s.kids.length cap6)) := HW8.out.nextP hb9
    have HB9 : Hid (Below w.heap.size w w9) := HB8.out.trans (hb9.mono HB8.out.size)
    replace g0 := carry hb9 g0
    replace g1 := carry hb9 g1
    replace g2 := carry hb9 g2
    replace i0 := carry hb9 i0
    replace i1 := carry hb9 i1
    replace i2 := carry hb9 i2
    replace x0 := carry hb9 x0
    replace x1 := carry hb9 x1
    replace x2 := carry hb9 x2
    clear hw9 hb9 hz8
    refine (implSame_calls s t _ _ _ HW9.out HV9.out HT.out.1 HT.out.2 (by rw [szT_eq]; have := HZ.out; omega)).mono ?_
    rintro e w10 ⟨⟨bw, rfl, hbw⟩, hb10⟩
    have HBW : Hid (bw = bv) := by
      have h1 := HBV.out
      unfold Hid
      cases bw <;> cases bv <;> simp_all
    obtain rfl := HBW.out
    have HV10 : Hid (In w10 t.kids (.slice ad8 t.kids.length cap8)) := HV9.out.inP.next hb10
    have HW10 : Hid (In w10 s.kids (.slice ad6 s.kids.length cap6)) := HW9.out.inP.next hb10
    have HB10 : Hid (Below w.heap.size w w10) := HB9.out.trans (hb10.mono HB9.out.size)
    replace g0 := carry hb10 g0
    replace g1 := carry hb10 g1
    replace g2 := carry hb10 g2
    replace i0 := carry hb10 i0
    replace i1 := carry hb10 i1
    replace i2 := carry hb10 i2
    replace x0 := carry hb10 x0
    replace x1 := carry hb10 x1
    replace x2 := carry hb10 x2
    replace y0 := carry hb10 y0
    replace y1 := carry hb10 y1
    replace y2 := carry hb10 y2
    have tb : (bw != bw) = false := by simp
    clear hb10 hbw
    go_wp2_with fail
    have HK10 : Hid (In w10 s.kids (.slice ad s.kids.length cap)) := HK.out.next HB10.out
    go_region_with (first
      | (go_at_call 14; go_must (refine (to_calls s.kids _ _ _ _ ?_ HZ.out).mono ?_); go_must (exact HK10.out.drew); go_must (rintro e w11 ⟨v11, rfl, hv11, hb11⟩); go_must (have HV11 : Hid (In w11 s.kids v11) := hv11.btw_in); go_must (have HB11 : Hid (Below w10.heap.size w10 w11) := (Below.refl _ _).drew.trans hb11); go_must (have j0 := carry HB11.out x0); go_must (have j1 := carry HB11.out x1); go_must (have j2 := carry HB11.out x2); clear hv11 hb11)
      | (go_at_call 16; go_must (refine (eq_calls s.kids _ _ _ _ _ ?_ ?_).mono ?_); go_must (exact HW10.out.next HB11.out); go_must (exact HV11.out); go_must (rintro e w12 ⟨rfl, hb12⟩); go_must (have HB12' : Hid (Below w10.heap.size w10 w12) := HB11.out.trans (hb12.mono HB11.out.size)); clear hb12))
    all_goals
      have HB12 : Hid (Below w.heap.size w w12) := HB10.out.trans (HB12'.out.mono HB10.out.size)
      replace i0 := carry HB12'.out i0
      replace i1 := carry HB12'.out i1
      replace i2 := carry HB12'.out i2
      replace y0 := carry HB12'.out y0
      replace y1 := carry HB12'.out y1
      replace y2 := carry HB12'.out y2
      have HV12 : Hid (In w12 t.kids (.slice ad8 t.kids.length cap8)) := HV10.out.next HB12'.out
      clear g0 g1 g2 x0 x1 x2
      try clear j0 j1 j2
      go_wp2_with fail
      have HK12 : Hid (In w12 t.kids (.slice ad' t.kids.length cap')) := HL.out.next HB12.out
      go_region_with (first
        | (go_at_call 14; go_must (refine (to_calls t.kids _ _ _ _ ?_ HZ2.out).mono ?_); go_must (exact HK12.out.drew); go_must (rintro e w13 ⟨v13, rfl, hv13, hb13⟩); go_must (have HV13 : Hid (In w13 t.kids v13) := hv13.btw_in); go_must (have HB13 : Hid (Below w12.heap.size w12 w13) := (Below.refl _ _).drew.trans hb13); go_must (have j0 := carry HB13.out y0); go_must (have j1 := carry HB13.out y1); go_must (have j2 := carry HB13.out y2); clear hv13 hb13)
        | (go_at_call 16; go_must (refine (eq_calls t.kids _ _ _ _ _ ?_ ?_).mono ?_); go_must (exact HV12.out.next HB13.out); go_must (exact HV13.out); go_must (rintro e w14 ⟨rfl, hb14⟩)))
      all_goals
        have HB14 : Hid (Below w.heap.size w w14) := HB12.out.trans ((HB13.out.trans (hb14.mono HB13.out.size)).mono HB12.out.size)
        clear hb14
        go_wp2_with fail
        go_ret
        exact ⟨rfl, HB14.out⟩
end Go.Proofs.Yticoegjackgldaa.lawExactExprSame
