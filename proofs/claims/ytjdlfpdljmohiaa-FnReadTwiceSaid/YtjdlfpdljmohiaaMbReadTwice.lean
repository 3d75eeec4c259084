/-
  THE WALK OF FnReadTwice.
-/
import Derived.Test.YtjdlfpdljmohiaaMb12
import Derived.Test.YtjdlfpdljmohiaaMb17
import Derived.Test.YtjdlfpdljmohiaaMb13
import Derived.Test.YtjdlfpdljmohiaaMb18
import Derived.Test.YtjdlfpdljmohiaaRows
import Derived.Test.YtjdlfpdljmohiaaMb14
import Derived.ShutString
import Derived.ChangeOld
namespace Go.Proofs.Ytjdlfpdljmohiaa.lawReadTwice
open Go.ChangeShapes Go.WideShapes Go.ChangeAt Go.RowKit
set_option linter.unusedVariables false
set_option linter.unusedSimpArgs false

set_option maxRecDepth 100000 in
set_option maxHeartbeats 3200000 in
theorem walk (len : Nat) (v : Value) (w : World) (h : BytesOn w (Lt w.heap.size) len v) : Calls Try.prog 7 #[v] w fun e w' => e = .returned (.bool true) ∧ Below w.heap.size w w' := by
  have H := mkHid h
  obtain ⟨ad, cap, rfl, hl, hm, -⟩ := h
  unfold maxLen at hm
  go_enter Try.func7, Try.ntmps7
  by_cases hlen : (1048576 : Int) < (len : Int)
  · go_wp2_with fail
    go_ret
    exact ⟨rfl, Below.refl _ _⟩
  clear hl hm
  go_wp2_with fail
  refine (drawRead_calls len _ w H.out).mono ?_
  rintro e w1 ⟨G, gv, root, n, rfl, hi, hn6, hlG, hc, hb1⟩
  have HG1 : Hid (CIn w1 G gv) := hc.mono (fun k hk => hk.2) fun _ _ => rfl
  have HB1 := mkHid hb1
  obtain ⟨adg, capg, rfl, hcg1, hcg2, -⟩ := id hc
  unfold maxLen at hcg2
  obtain ⟨t, bq, hbs, hts, htn, hsz, hout⟩ := readOut_two (readB G root n) (readB_sz G root n)
  have HSZ : Hid (szT t ≤ 60) := hsz
  have HRI : Hid (∀ (W : World), CIn W G (.slice adg G.length capg) → Calls Try.prog 16 #[.slice adg G.length capg, .int .i64 root, .int .i64 (n : Int)] W (RdOne t bq W)) := fun W h => (implRead_calls G root n _ W h).mono fun e w' h => hout W e w' h
  have HRS : Hid (∀ (W : World), CIn W G (.slice adg G.length capg) → Calls Try.prog 24 #[.slice adg G.length capg, .int .i64 root, .int .i64 (n : Int)] W (RdOne t bq W)) := fun W h => (specRead_calls G root n _ W h).mono fun e w' h => hout W e w' h
  have HBS := mkHid hbs
  have HTS := mkHid hts
  have bq1 : (bq != bq) = false := by simp
  have bq2 : (bq == bq) = true := by simp
  clear hc hb1 hsz hout hbs hts htn
  go_wp2_with fail
  refine (HRI.out w1 HG1.out).mono ?_
  rintro e w2 ⟨v2, rfl, hf2, hi2, hb2⟩
  obtain ⟨ad2, cap2, rfl⟩ := fresh_shape hf2
  have HX2 := mkHid (BoxT.new hf2.inP hi2)
  have hbA : Below w2.heap.size w2 (w2.alloc (.cells #[.int .i64 t.op, .int .i64 t.num, .slice ad2 t.kids.length cap2] 30)) := box_below _ _
  have HGA := mkHid ((HG1.out.next hb2).next hbA)
  have HBA : Hid (Below w.heap.size w (w2.alloc (.cells #[.int .i64 t.op, .int .i64 t.num, .slice ad2 t.kids.length cap2] 30))) := HB1.out.trans ((hb2.trans (hbA.mono hb2.size)).mono HB1.out.size)
  clear hf2 hi2 hb2 hbA
  go_wp2_with fail
  refine (HRS.out _ HGA.out).mono ?_
  rintro e w3 ⟨v3, rfl, hf3, hi3, hb3⟩
  obtain ⟨ad3, cap3, rfl⟩ := fresh_shape hf3
  have HY3 := mkHid (BoxT.new hf3.inP hi3)
  have hbB : Below w3.heap.size w3 (w3.alloc (.cells #[.int .i64 t.op, .int .i64 t.num, .slice ad3 t.kids.length cap3] 30)) := box_below _ _
  have HX3 := mkHid ((HX2.out.next hb3).next hbB)
  have HG3 := mkHid ((HGA.out.next hb3).next hbB)
  have HB3 : Hid (Below w.heap.size w (w3.alloc (.cells #[.int .i64 t.op, .int .i64 t.num, .slice ad3 t.kids.length cap3] 30))) := HBA.out.trans ((hb3.trans (hbB.mono hb3.size)).mono HBA.out.size)
  obtain ⟨x0, x1, x2⟩ := HX3.out.cells
  obtain ⟨y0, y1, y2⟩ := HY3.out.cells
  clear hf3 hi3 hb3 hbB
  go_wp2_with fail
  refine (sameBox_calls HX3.out HY3.out HSZ.out).mono ?_
  rintro e w4 ⟨rfl, hb4⟩
  have HX4 := mkHid (HX3.out.next hb4)
  have HY4 := mkHid (HY3.out.next hb4)
  have HG4 := mkHid (HG3.out.next hb4)
  have HB4 : Hid (Below w.heap.size w w4) := HB3.out.trans (hb4.mono HB3.out.size)
  clear hb4 x0 x1 x2 y0 y1 y2
  obtain ⟨x0, x1, x2⟩ := HX4.out.cells
  obtain ⟨y0, y1, y2⟩ := HY4.out.cells
  cases bq with
  | false =>
    go_wp2_with fail
    refine (sameBox_calls HX4.out HY4.out HSZ.out).mono ?_
    rintro e w5 ⟨rfl, hb5⟩
    have HB5 : Hid (Below w.heap.size w w5) := HB4.out.trans (hb5.mono HB4.out.size)
    clear hb5
    go_wp2_with fail
    go_ret
    exact ⟨rfl, HB5.out⟩
  | true =>
    have hr : readB G root n = some t := by
      have h := HBS.out
      cases hq : readB G root n with
      | none => rw [hq] at h; cases h
      | some u => rw [HTS.out u hq]
    have hv := readB_valid hr
    obtain ⟨G5, r5, hao, hG5, hr5, hl5⟩ := addOut_goal hv
    have hrd := built_read hv hao hG5 hr5
    have HIB : Hid (∀ (W : World) (v : Value), In W t.kids v → Calls Try.prog 28 #[.agg #[.int .i64 t.op, .int .i64 t.num, v], .int .i64 (n : Int)] W fun e w' => ∃ gv, e = .returned (.tuple #[gv, .int .i64 (r5 : Int), .bool true]) ∧ OwnC w' W.heap.size (fun x => W.heap.size ≤ x) G5 gv ∧ Below W.heap.size W w') := fun W v h => (implBuild_calls t n v W h HX4.out.2.2.1 HX4.out.2.2.2).mono fun e w' ho => by rw [hao] at ho; exact ho
    have HRQ : Hid (∀ (W : World) (v : Value), CIn W G5 v → Calls Try.prog 16 #[v, .int .i64 (r5 : Int), .int .i64 (n : Int)] W fun e w' => ∃ v, e = .returned (.tuple #[.agg #[.int .i64 t.op, .int .i64 t.num, v], .bool true]) ∧ Fresh w' W.heap.size t.kids v ∧ I64 t.op ∧ I64 t.num ∧ Below W.heap.size W w') := fun W v h => (implRead_calls G5 r5 n v W h).mono fun e w' ho => by rw [hrd] at ho; exact ho
    have HX5 : Hid (In w4 t.kids (.slice ad2 t.kids.length cap2)) := HX4.out.2.1.inP
    clear hr hv hao hG5 hr5 hl5 hrd
    go_wp2_with fail
    refine (HIB.out w4 _ HX5.out).mono ?_
    rintro e w5 ⟨gv5, rfl, ho5, hb5⟩
    have HC5 := mkHid ho5.cin
    have HX5 := mkHid (HX4.out.next hb5)
    have HB5 : Hid (Below w.heap.size w w5) := HB4.out.trans (hb5.mono HB4.out.size)
    obtain ⟨ad5, cap5, rfl⟩ := ho5.form
    clear ho5 hb5
    go_wp2_with fail
    refine (HRQ.out w5 _ HC5.out).mono ?_
    rintro e w6 ⟨v6, rfl, hf6, hi6, hi7, hb6⟩
    obtain ⟨ad6, cap6, rfl⟩ := fresh_shape hf6
    have HY6 := mkHid (BoxT.new hf6.inP ⟨hi6, hi7⟩)
    have hbC : Below w6.heap.size w6 (w6.alloc (.cells #[.int .i64 t.op, .int .i64 t.num, .slice ad6 t.kids.length cap6] 30)) := box_below _ _
    have HX6 := mkHid ((HX5.out.next hb6).next hbC)
    have HB6 : Hid (Below w.heap.size w (w6.alloc (.cells #[.int .i64 t.op, .int .i64 t.num, .slice ad6 t.kids.length cap6] 30))) := HB5.out.trans ((hb6.trans (hbC.mono hb6.size)).mono HB5.out.size)
    clear x0 x1 x2 y0 y1 y2 hf6 hi6 hi7 hb6 hbC
    obtain ⟨x0, x1, x2⟩ := HX6.out.cells
    obtain ⟨y0, y1, y2⟩ := HY6.out.cells
    go_wp2_with fail
    refine (sameBox_calls HY6.out HX6.out HSZ.out).mono ?_
    rintro e w7 ⟨rfl, hb7⟩
    have HB7 : Hid (Below w.heap.size w w7) := HB6.out.trans (hb7.mono HB6.out.size)
    clear hb7
    go_wp2_with fail
    go_ret
    exact ⟨rfl, HB7.out⟩
end Go.Proofs.Ytjdlfpdljmohiaa.lawReadTwice
/-
  FnReadTwice: for every argument the program's function answers as the model's, and changes nothing. No condition.
-/
namespace Go.Proofs.Ytjdlfpdljmohiaa.lawReadTwice
open Go.ChangeShapes Go.WideShapes Go.ChangeAt Go.RowKit
set_option linter.unusedVariables false
set_option linter.unusedSimpArgs false

theorem own : ownKnob Try.prog.godebug = none := by kernel_rfl
theorem laidOut : laidOutB Try.prog = true := by kernel_rfl

set_option maxRecDepth 100000 in
theorem lifted (os : Os) (started : os.Started) (H : Type) (enc : TypeId × Value → H) :
    ReturnsInHanded {} Try.checked os 7 .any (Rows.fnReadTwiceSpec.pre6 enc Try.prog Try.f7 Rows.fnReadTwiceRow.domain false) (Rows.fnReadTwiceSpec.post enc Try.prog Try.f7 false true false false) := by
  refine returnsInHanded_of_change (C := Try.checked) own started (by kernel_rfl) Try.func7
    (ChangeSpec.witness6 (enc := enc) (C := Try.checked) false ⟨#[], #[.slice none 0 0], []⟩ 8 (by kernel_rfl) (by kernel_rfl) (by kernel_rfl) (by kernel_rfl)) ?_
  intro W base args ds gs before hval0 hW hcnd _
  have hval : ∀ (j : Nat) t v, Try.f7.params[j]? = some t → args[j]? = some v → Value.okWide Try.prog W .any base t v := hval0
  have hW' := hW
  obtain ⟨p, q, hA0, hV, rfl, hfz, hnd⟩ := hW
  have hA : DataW.TrodAll enc Try.prog W 0 (fun _ => true) true Try.f7.params.toList args.toList ds p := hA0
  rw [Try.params7] at hA hval
  obtain ⟨v0, vs0, d0, ds0, p0, q0, hargs, rfl, rfl, h0, r0⟩ := trodAll_cons hA
  obtain ⟨rfl, rfl, rfl⟩ := trodAll_nil r0
  obtain rfl : args = #[v0] := by cases args; simp_all
  obtain ⟨rfl, rfl⟩ := trodVars_none hV
  have k0 := h0
  have lt0 : ∀ x ∈ p0, x.block < W.heap.size := by obtain ⟨m, hm⟩ := k0; exact DataW.trod_lt m _ _ _ hm
  obtain ⟨a0, len0, cap0, rfl⟩ := okWide_slice Try.underlying22 (hval 0 22 v0 rfl rfl)
  obtain ⟨fuel0, hf0⟩ := h0
  obtain ⟨ln0, hk0⟩ := trod_bytes fuel0 _ _ (by simpa [Value.cells] using hf0)
  clear hA0 hval0
  refine (walk ln0 _ W hk0).mono fun e W' ⟨he, bel⟩ => ?_
  subst he
  exact ⟨_, rfl, _, _, _, [], _, [], hW', trodAll_mk1 (shut_bool Try.underlying4 _), (trodAll_cons_mk (Below.trod laidOut (by kernel_rfl) (of_decide_eq_true (by kernel_rfl)) k0 bel lt0) trodAll_mk0), rfl, bel.frame _, fun h => by cases h⟩

theorem over : Rows.fnReadTwiceRow.holds Try.pinned (OpenSpec.ofChange Rows.fnReadTwiceSpec) :=
  OpenClaim.holds_of_wide 7 Try.f7 rfl rfl rfl rfl rfl rfl rfl ⟨rfl, rfl, rfl, rfl, rfl⟩ rfl rfl rfl rfl rfl (by kernel_rfl) Try.func7 (by kernel_rfl)
    (of_decide_eq_true (by kernel_rfl)) (by unfold Func.isWrapper; first | (rw [if_pos (by decide +kernel)]; kernel_rfl) | (rw [if_neg (by decide +kernel)]; exact ⟨rfl, rfl⟩))
    (fun os started H enc _ => lifted os started H enc)

theorem proved : Rows.FnReadTwiceSaid := over
end Go.Proofs.Ytjdlfpdljmohiaa.lawReadTwice
