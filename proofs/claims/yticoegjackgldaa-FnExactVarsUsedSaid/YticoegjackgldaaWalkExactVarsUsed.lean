/-
  THE WALK OF FnExactVarsUsed.
-/
import Derived.Test.YticoegjackgldaaVars
import Derived.Test.YticoegjackgldaaFresh
import Derived.Test.YticoegjackgldaaMarkS
import Derived.Test.YticoegjackgldaaSz
import Derived.Test.YticoegjackgldaaEq
namespace Go.Proofs.Yticoegjackgldaa.lawExactVarsUsed
open Go.ChangeShapes Go.WideShapes Go.ChangeAt Go.RowKit
set_option linter.unusedVariables false
set_option linter.unusedSimpArgs false

theorem carry {w w' : World} (hb : Below w.heap.size w w') {a : Addr} {v : Value} (h : w.cell? a = some v) : w'.cell? a = some v := (hb.cell (cell_lt h)).trans h
theorem carryL {fp : List Nat} {w w' : World} (hb : ButL fp w w') {a : Addr} {v : Value} (h : w.cell? a = some v) (hn : a.block ∉ fp) : w'.cell? a = some v := (World.cell?_of_block (hb.block _ (cell_lt h) hn)).trans h
theorem carryB {lo : Nat} {w w' : World} (hb : Below lo w w') {a : Addr} {v : Value} (h : w.cell? a = some v) (hn : a.block < lo) : w'.cell? a = some v := (hb.cell hn).trans h
/-- numbers below a block -/
abbrev ILow (w : World) (hi : Nat) (xs : List Int) (v : Value) : Prop := IntsOn w (Lt hi) xs v
theorem low_next {w w' : World} {hi B : Nat} {xs : List Int} {v : Value} (h : ILow w hi xs v) (hb : Below B w w') (hl : hi ≤ B) : ILow w' hi xs v := h.mono (fun _ hk => hk) fun k hk => hb.block k (Nat.lt_of_lt_of_le hk hl)
theorem low_in {w : World} {hi : Nat} {xs : List Int} {v : Value} (h : ILow w hi xs v) (hl : hi ≤ w.heap.size) : IIn w xs v := h.mono (fun k hk => Nat.lt_of_lt_of_le hk hl) fun _ _ => rfl

set_option maxRecDepth 100000 in
set_option maxHeartbeats 3200000 in
theorem walk (t : Tr) (c : Value) (vars : Int) (w : World) (hk : In w t.kids c) (ht : I64 t.op ∧ I64 t.num) (hv : I64 vars) :
    Calls Try.prog 10 #[.agg #[.int .i64 t.op, .int .i64 t.num, c], .int .i64 vars] w fun e w' => e = .returned (.bool true) ∧ Below w.heap.size w w' := by
  have HK : Hid (In w t.kids c) := hk
  have HT : Hid ((I64 t.op ∧ I64 t.num) ∧ I64 vars) := ⟨ht, hv⟩
  obtain ⟨ad, cap, rfl, -, -, -⟩ := hk
  have hrg := szOut_range t.kids 1048576 (by omega)
  obtain ⟨xs, hxs⟩ : ∃ xs, xs = varsB vars t := ⟨_, rfl⟩
  have HXS : Hid (xs = varsB vars t) := hxs
  have hxl : xs.length ≤ 4 := by
    rw [hxs]
    unfold varsB
    split
    · rw [varsOf_length]; omega
    · simp
  clear ht hv hxs
  go_enter Try.func10, Try.ntmps10
  go_wp2_with fail
  refine (sz_calls t.kids _ _ _ _ _ (HK.out.next (box_below _ _)) (by omega) (by omega)).mono ?_
  rintro e w1 ⟨rfl, hb1⟩
  obtain ⟨a0, a1, a2, hz1, HB1⟩ := box_after hb1
  have HB1 : Hid (Below w.heap.size w w1) := HB1
  clear hb1
  by_cases hneg : szOut t.kids 1048576 < 0
  · clear a0 a1 a2
    go_wp2_with fail
    go_ret
    exact ⟨rfl, HB1.out⟩
  have HZ : Hid (szL t.kids ≤ 1048576) := by unfold szOut at hneg; unfold Hid; split at hneg <;> omega
  generalize szOut t.kids 1048576 = left at *
  clear hrg
  go_wp2_with fail
  -- the model's answer
  refine (to_calls t.kids _ _ _ _ (HK.out.next HB1.out) HZ.out).mono ?_
  rintro e w2 ⟨v2, rfl, hv2, hb2⟩
  have HV2 : Hid (In w2 t.kids v2) := hv2.btw_in
  have HB2 : Hid (Below w.heap.size w w2) := HB1.out.trans (hb2.mono HB1.out.size)
  replace a0 := carry hb2 a0
  replace a1 := carry hb2 a1
  replace a2 := carry hb2 a2
  clear hv2 hb2
  go_wp2_with fail
  refine (specVars_calls t _ _ _ HV2.out (by rw [szT_eq]; exact HZ.out) HT.out.2).mono ?_
  rintro e w3 ⟨v3, rfl, hi3, hb3⟩
  rw [← HXS.out] at hi3
  have HI3 : Hid (ILow w3 w3.heap.size xs v3) := hi3.inn
  have HB3 : Hid (Below w.heap.size w w3) := HB2.out.trans (hb3.mono HB2.out.size)
  replace a0 := carry hb3 a0
  replace a1 := carry hb3 a1
  replace a2 := carry hb3 a2
  obtain ⟨ad3, cap3, rfl, -, -, -⟩ := hi3
  clear hb3
  go_wp2_with fail
  -- the program's argument
  refine (fto_calls t.kids _ _ _ _ (HK.out.next HB3.out) HZ.out).mono ?_
  rintro e w4 ⟨v4, rfl, hv4, hb4⟩
  have hv4p := hv4.inP
  obtain ⟨fp, hkf, hnd, hlo⟩ := hv4
  have HFP : Hid (fp.Nodup ∧ ∀ k ∈ fp, w3.heap.size ≤ k ∧ k < w4.heap.size) := ⟨hnd, fun k hk => ⟨hlo k hk, hkf.lt k hk⟩⟩
  have HKF4 : Hid (KidsFp w4 29 t.kids fp v4) := hkf
  have HI4 : Hid (ILow w4 w3.heap.size xs (.slice ad3 xs.length cap3)) := low_next HI3.out hb4 (Nat.le_refl _)
  have HB4 : Hid (Below w.heap.size w w4) := HB3.out.trans (hb4.mono HB3.out.size)
  have HS34 : Hid (w3.heap.size ≤ w4.heap.size) := hb4.size
  have HA3 : Hid (w.heap.size < w3.heap.size) := cell_lt a0
  replace a0 := carry hb4 a0
  replace a1 := carry hb4 a1
  replace a2 := carry hb4 a2
  obtain ⟨ad4, cap4, rfl, -, -, -⟩ := hv4p
  clear hkf hnd hlo hb4
  go_wp2_with fail
  obtain ⟨w5, hw5⟩ : ∃ w5 : World, w5 = w4.alloc (.cells #[.int .i64 t.op, .int .i64 t.num, .slice ad4 t.kids.length cap4] 29) := ⟨_, rfl⟩
  have hb5 : Below w4.heap.size w4 w5 := by rw [hw5]; exact box_below _ _
  have HS45 : Hid (w5.heap.size = w4.heap.size + 1) := by rw [hw5]; exact Deep.nblk_alloc _ _
  have x0 : w5.cell? ⟨w4.heap.size, 0, none⟩ = some (.int .i64 t.op) := by rw [hw5]; exact box_cell w4 _ _ 0 _ rfl
  have x1 : w5.cell? ⟨w4.heap.size, 1, none⟩ = some (.int .i64 t.num) := by rw [hw5]; exact box_cell w4 _ _ 1 _ rfl
  have x2 : w5.cell? ⟨w4.heap.size, 2, none⟩ = some (.slice ad4 t.kids.length cap4) := by rw [hw5]; exact box_cell w4 _ _ 2 _ rfl
  rw [← hw5]
  have HKF5 : Hid (KidsFp w5 29 t.kids fp (.slice ad4 t.kids.length cap4)) := HKF4.out.keep fun k hk => hb5.block k (HFP.out.2 k hk).2
  have HI5 : Hid (ILow w5 w3.heap.size xs (.slice ad3 xs.length cap3)) := low_next HI4.out hb5 HS34.out
  have HB5 : Hid (Below w.heap.size w w5) := HB4.out.trans (hb5.mono HB4.out.size)
  replace a0 := carry hb5 a0
  replace a1 := carry hb5 a1
  replace a2 := carry hb5 a2
  clear hw5 hb5
  -- the program's answer
  refine (implVars_calls t _ vars w5 (HKF5.out.on HKF5.out.plain) HT.out.1 (by rw [szT_eq]; exact HZ.out) HT.out.2).mono ?_
  rintro e w6 ⟨v6, rfl, hi6, hb6⟩
  rw [← HXS.out] at hi6
  have HG6 : Hid (IntRow w6 w5.heap.size xs v6) := hi6
  have HKF6 : Hid (KidsFp w6 29 t.kids fp (.slice ad4 t.kids.length cap4)) := HKF5.out.keep fun k hk => hb6.block k (by have := (HFP.out.2 k hk).2; have := HS45.out; omega)
  have HI6 : Hid (ILow w6 w3.heap.size xs (.slice ad3 xs.length cap3)) := low_next HI5.out hb6 (by have := HS34.out; have := HS45.out; omega)
  have HB6 : Hid (Below w.heap.size w w6) := HB5.out.trans (hb6.mono HB5.out.size)
  have HS56 : Hid (w5.heap.size ≤ w6.heap.size) := hb6.size
  replace a0 := carry hb6 a0
  replace a1 := carry hb6 a1
  replace a2 := carry hb6 a2
  replace x0 := carry hb6 x0
  replace x1 := carry hb6 x1
  replace x2 := carry hb6 x2
  obtain ⟨ad6, cap6, rfl, -, -, -⟩ := hi6
  clear hb6
  go_wp2_with fail
  refine (eqInts_calls xs _ _ w6 HG6.out.inn (low_in HI6.out (by have := HS34.out; have := HS45.out; have := HS56.out; omega))).mono ?_
  rintro e w7 ⟨rfl, hb7⟩
  have HG7 : Hid (IntRow w7 w5.heap.size xs (.slice ad6 xs.length cap6)) := HG6.out.next hb7
  have HS67 : Hid (w5.heap.size ≤ w7.heap.size) := Nat.le_trans HS56.out hb7.size
  have HKF7 : Hid (KidsFp w7 29 t.kids fp (.slice ad4 t.kids.length cap4)) := HKF6.out.keep fun k hk => hb7.block k (by have := (HFP.out.2 k hk).2; have := HS45.out; have := HS56.out; omega)
  have HI7 : Hid (ILow w7 w3.heap.size xs (.slice ad3 xs.length cap3)) := low_next HI6.out hb7 (by have := HS34.out; have := HS45.out; have := HS56.out; omega)
  have HB7 : Hid (Below w.heap.size w w7) := HB6.out.trans (hb7.mono HB6.out.size)
  replace a0 := carry hb7 a0
  replace a1 := carry hb7 a1
  replace a2 := carry hb7 a2
  replace x0 := carry hb7 x0
  replace x1 := carry hb7 x1
  replace x2 := carry hb7 x2
  clear hb7
  go_wp2_with fail
  have HK7 : Hid (In w7 t.kids (.slice ad t.kids.length cap)) := HK.out.next HB7.out
  have HV7 : Hid (In w7 t.kids (.slice ad4 t.kids.length cap4)) := (HKF7.out.on HKF7.out.plain).inP
  go_region_with (first
    | (go_at_call 14; go_must (refine (to_calls t.kids _ _ _ _ ?_ HZ.out).mono ?_); go_must (exact HK7.out.drew); go_must (rintro e w8 ⟨v8, rfl, hv8, hb8⟩); go_must (have HV8 : Hid (In w8 t.kids v8) := hv8.btw_in); go_must (have HB8 : Hid (Below w7.heap.size w7 w8) := (Below.refl _ _).drew.trans hb8); go_must (have y0 := carry HB8.out x0); go_must (have y1 := carry HB8.out x1); go_must (have y2 := carry HB8.out x2); clear hv8 hb8)
    | (go_at_call 16; go_must (refine (eq_calls t.kids _ _ _ _ _ ?_ ?_).mono ?_); go_must (exact HV7.out.next HB8.out); go_must (exact HV8.out); go_must (rintro e w9 ⟨rfl, hb9⟩); go_must (have HB9' : Hid (Below w7.heap.size w7 w9) := HB8.out.trans (hb9.mono HB8.out.size)); clear hb9))
  all_goals
    try clear y0 y1 y2
    have HB9 : Hid (Below w.heap.size w w9) := HB7.out.trans (HB9'.out.mono HB7.out.size)
    have HG9 : Hid (IntRow w9 w5.heap.size xs (.slice ad6 xs.length cap6)) := HG7.out.next HB9'.out
    have HS9 : Hid (w5.heap.size ≤ w9.heap.size) := Nat.le_trans HS67.out HB9'.out.size
    have HKF9 : Hid (KidsFp w9 29 t.kids fp (.slice ad4 t.kids.length cap4)) := HKF7.out.keep fun k hk => HB9'.out.block k (by have := (HFP.out.2 k hk).2; have := HS45.out; have := HS67.out; omega)
    have HI9 : Hid (ILow w9 w3.heap.size xs (.slice ad3 xs.length cap3)) := low_next HI7.out HB9'.out (by have := HS34.out; have := HS45.out; have := HS67.out; omega)
    replace a0 := carry HB9'.out a0
    replace a1 := carry HB9'.out a1
    replace a2 := carry HB9'.out a2
    replace x0 := carry HB9'.out x0
    replace x1 := carry HB9'.out x1
    replace x2 := carry HB9'.out x2
    go_wp2_with fail
    -- the argument is marked
    refine (mark_calls t.kids _ _ fp _ 1 w9 HKF9.out HFP.out.1 (by omega) (by have := HZ.out; omega)).mono ?_
    rintro e w10 ⟨rfl, -, hb10⟩
    have HA10 : Hid (w.heap.size ∉ fp) := fun h => by have := (HFP.out.2 _ h).1; have := HA3.out; omega
    have HG10 : Hid (IntRow w10 w5.heap.size xs (.slice ad6 xs.length cap6)) := HG9.out.keep (Nat.le_refl _) fun k h1 h2 => hb10.block k h2 (fun h => by have := (HFP.out.2 _ h).2; have := HS45.out; omega)
    have HI10 : Hid (ILow w10 w3.heap.size xs (.slice ad3 xs.length cap3)) := HI9.out.mono (fun _ hk => hk) fun k (hk : k < _) => hb10.block k (by have := HS34.out; have := HS45.out; have := HS9.out; omega) (fun h => by have := (HFP.out.2 _ h).1; omega)
    have HB10 : Hid (Below w.heap.size w w10) := HB9.out.trans (hb10.below (fun k h => by have := (HFP.out.2 _ h).1; have := HA3.out; omega) HB9.out.size)
    have HS10 : Hid (w5.heap.size ≤ w10.heap.size) := Nat.le_trans HS9.out hb10.size
    replace a0 := carryL hb10 a0 HA10.out
    replace a1 := carryL hb10 a1 HA10.out
    replace a2 := carryL hb10 a2 HA10.out
    clear hb10 x0 x1 x2
    obtain ⟨kk, hkk⟩ : ∃ kk : Int, kk = 1 + 2 * (szL t.kids : Int) := ⟨_, rfl⟩
    rw [← hkk]
    have hk0 : 0 ≤ kk := by omega
    clear hkk
    go_wp2_with fail
    refine (eqInts_calls xs _ _ w10 HG10.out.inn (low_in HI10.out (by have := HS34.out; have := HS45.out; have := HS10.out; omega))).mono ?_
    rintro e w11 ⟨rfl, hb11⟩
    have HG11 : Hid (IntRow w11 w5.heap.size xs (.slice ad6 xs.length cap6)) := HG10.out.next hb11
    have HI11 : Hid (ILow w11 w3.heap.size xs (.slice ad3 xs.length cap3)) := low_next HI10.out hb11 (by have := HS34.out; have := HS45.out; have := HS10.out; omega)
    have HB11 : Hid (Below w.heap.size w w11) := HB10.out.trans (hb11.mono HB10.out.size)
    have HS11 : Hid (w5.heap.size ≤ w11.heap.size) := Nat.le_trans HS10.out hb11.size
    replace a0 := carry hb11 a0
    replace a1 := carry hb11 a1
    replace a2 := carry hb11 a2
    clear hb11
    go_wp2_with fail
    -- the answer is marked
    refine (markInts_calls xs w5.heap.size _ 1 w11 HG11.out (by omega) (by omega)).mono ?_
    rintro e w12 ⟨rfl, hi12, hb12⟩
    have HA5 : Hid (w.heap.size < w5.heap.size) := by have := HA3.out; have := HS34.out; have := HS45.out; unfold Hid; omega
    have HG12 : Hid (IntRow w12 w5.heap.size (upFrom 1 xs.length) (.slice ad6 xs.length cap6)) := hi12
    have HI12 : Hid (ILow w12 w3.heap.size xs (.slice ad3 xs.length cap3)) := low_next HI11.out hb12 (by have := HS34.out; have := HS45.out; omega)
    have HB12 : Hid (Below w.heap.size w w12) := HB11.out.trans (hb12.mono (by have := HA5.out; omega))
    have HS12 : Hid (w5.heap.size ≤ w12.heap.size) := Nat.le_trans HS11.out hb12.size
    replace a0 := carryB hb12 a0 HA5.out
    replace a1 := carryB hb12 a1 HA5.out
    replace a2 := carryB hb12 a2 HA5.out
    clear hi12 hb12
    go_wp2_with fail
    refine (heldInts_calls xs.length _ 1 w12 HG12.out.inn (by omega) (by omega)).mono ?_
    rintro e w13 ⟨rfl, hb13⟩
    have HG13 : Hid (IntRow w13 w5.heap.size (upFrom 1 xs.length) (.slice ad6 xs.length cap6)) := HG12.out.next hb13
    have HI13 : Hid (ILow w13 w3.heap.size xs (.slice ad3 xs.length cap3)) := low_next HI12.out hb13 (by have := HS34.out; have := HS45.out; have := HS12.out; omega)
    have HB13 : Hid (Below w.heap.size w w13) := HB12.out.trans (hb13.mono HB12.out.size)
    have HS13 : Hid (w5.heap.size ≤ w13.heap.size) := Nat.le_trans HS12.out hb13.size
    replace a0 := carry hb13 a0
    replace a1 := carry hb13 a1
    replace a2 := carry hb13 a2
    clear hb13
    have tq : ((1 + (xs.length : Int)) != 1 + (xs.length : Int)) = false := by simp
    go_wp2_with fail
    -- called once more
    refine (fto_calls t.kids _ _ _ _ (HK.out.next HB13.out) HZ.out).mono ?_
    rintro e w14 ⟨v14, rfl, hv14, hb14⟩
    have HV14 : Hid (InP w14 t.kids v14) := hv14.inP
    have HG14 : Hid (IntRow w14 w5.heap.size (upFrom 1 xs.length) (.slice ad6 xs.length cap6)) := HG13.out.next hb14
    have HI14 : Hid (ILow w14 w3.heap.size xs (.slice ad3 xs.length cap3)) := low_next HI13.out hb14 (by have := HS34.out; have := HS45.out; have := HS13.out; omega)
    have HB14 : Hid (Below w.heap.size w w14) := HB13.out.trans (hb14.mono HB13.out.size)
    have HS14 : Hid (w5.heap.size ≤ w14.heap.size) := Nat.le_trans HS13.out hb14.size
    clear hv14 hb14 a0 a1 a2
    go_wp2_with fail
    refine (implVars_calls t _ vars w14 HV14.out HT.out.1 (by rw [szT_eq]; exact HZ.out) HT.out.2).mono ?_
    rintro e w15 ⟨v15, rfl, hi15, hb15⟩
    rw [← HXS.out] at hi15
    have HH15 : Hid (IntRow w15 w14.heap.size xs v15) := hi15
    have HG15 : Hid (IntRow w15 w5.heap.size (upFrom 1 xs.length) (.slice ad6 xs.length cap6)) := HG14.out.next hb15
    have HI15 : Hid (ILow w15 w3.heap.size xs (.slice ad3 xs.length cap3)) := low_next HI14.out hb15 (by have := HS34.out; have := HS45.out; have := HS14.out; omega)
    have HB15 : Hid (Below w.heap.size w w15) := HB14.out.trans (hb15.mono HB14.out.size)
    have HS15 : Hid (w5.heap.size ≤ w15.heap.size) := Nat.le_trans HS14.out hb15.size
    obtain ⟨ad15, cap15, rfl, -, -, -⟩ := hi15
    clear hb15
    go_wp2_with fail
    refine (eqInts_calls xs _ _ w15 HH15.out.inn (low_in HI15.out (by have := HS34.out; have := HS45.out; have := HS15.out; omega))).mono ?_
    rintro e w16 ⟨rfl, hb16⟩
    have HG16 : Hid (IntRow w16 w5.heap.size (upFrom 1 xs.length) (.slice ad6 xs.length cap6)) := HG15.out.next hb16
    have HB16 : Hid (Below w.heap.size w w16) := HB15.out.trans (hb16.mono HB15.out.size)
    clear hb16
    go_wp2_with fail
    refine (heldInts_calls xs.length _ 1 w16 HG16.out.inn (by omega) (by omega)).mono ?_
    rintro e w17 ⟨rfl, hb17⟩
    have HB17 : Hid (Below w.heap.size w w17) := HB16.out.trans (hb17.mono HB16.out.size)
    clear hb17
    go_wp2_with fail
    go_ret
    exact ⟨rfl, HB17.out⟩
end Go.Proofs.Yticoegjackgldaa.lawExactVarsUsed
