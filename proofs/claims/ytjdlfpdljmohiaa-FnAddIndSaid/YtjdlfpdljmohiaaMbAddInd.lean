/-
  THE WALK OF FnAddInd.
-/
import Derived.Test.YtjdlfpdljmohiaaMb12
import Derived.Test.YtjdlfpdljmohiaaMb17
import Derived.Test.YtjdlfpdljmohiaaMb13
import Derived.Test.YtjdlfpdljmohiaaMb19
import Derived.Test.YtjdlfpdljmohiaaRows
import Derived.Test.YtjdlfpdljmohiaaMb14
import Derived.ShutString
import Derived.ChangeOld
namespace Go.Proofs.Ytjdlfpdljmohiaa.lawAddInd
open Go.ChangeShapes Go.WideShapes Go.ChangeAt Go.RowKit
set_option linter.unusedVariables false
set_option linter.unusedSimpArgs false

set_option maxRecDepth 100000 in
set_option maxHeartbeats 3200000 in
theorem walk (len : Nat) (v : Value) (w : World) (h : BytesOn w (Lt w.heap.size) len v) : Calls Try.prog 6 #[v] w fun e w' => e = .returned (.bool true) ∧ Below w.heap.size w w' := by
  have H := mkHid h
  obtain ⟨ad, cap, rfl, hl, hm, -⟩ := h
  unfold maxLen at hm
  go_enter Try.func6, Try.ntmps6
  by_cases hlen : (1048576 : Int) < (len : Int)
  · go_wp2_with fail
    go_ret
    exact ⟨rfl, Below.refl _ _⟩
  clear hl hm
  go_wp2_with fail
  refine (drawRead_calls len _ w H.out).mono ?_
  rintro e w1 ⟨G, gv, root, n, rfl, hi, hn6, hlG, hc, hb1⟩
  have HG1 : Hid (CIn w1 G gv) := hc.mono (fun k hk => hk.2) fun _ _ => rfl
  have HB1 := mkHid hb1
  obtain ⟨adg, capg, rfl, hcg1, hcg2, -⟩ := id hc
  unfold maxLen at hcg2
  obtain ⟨t, bq, hbs, hts, htn, hsz, hout⟩ := readOut_two (readB G root n) (readB_sz G root n)
  have HSZ : Hid (szT t ≤ 60) := hsz
  have HRI : Hid (∀ (W : World), CIn W G (.slice adg G.length capg) → Calls Try.prog 16 #[.slice adg G.length capg, .int .i64 root, .int .i64 (n : Int)] W (RdOne t bq W)) := fun W h => (implRead_calls G root n _ W h).mono fun e w' h => hout W e w' h
  have HRS : Hid (∀ (W : World), CIn W G (.slice adg G.length capg) → Calls Try.prog 24 #[.slice adg G.length capg, .int .i64 root, .int .i64 (n : Int)] W (RdOne t bq W)) := fun W h => (specRead_calls G root n _ W h).mono fun e w' h => hout W e w' h
  have HBS := mkHid hbs
  have HTS := mkHid hts
  have bq1 : (bq != bq) = false := by simp
  have bq2 : (bq == bq) = true := by simp
  clear hc hb1 hsz hout hbs hts htn
  go_wp2_with fail
  refine (HRI.out w1 HG1.out).mono ?_
  rintro e w2 ⟨v2, rfl, hf2, hi2, hb2⟩
  obtain ⟨ad2, cap2, rfl⟩ := fresh_shape hf2
  have HX2 := mkHid (BoxT.new hf2.inP hi2)
  have hbA : Below w2.heap.size w2 (w2.alloc (.cells #[.int .i64 t.op, .int .i64 t.num, .slice ad2 t.kids.length cap2] 30)) := box_below _ _
  have HGA := mkHid ((HG1.out.next hb2).next hbA)
  have HBA : Hid (Below w.heap.size w (w2.alloc (.cells #[.int .i64 t.op, .int .i64 t.num, .slice ad2 t.kids.length cap2] 30))) := HB1.out.trans ((hb2.trans (hbA.mono hb2.size)).mono HB1.out.size)
  clear hf2 hi2 hb2 hbA
  go_wp2_with fail
  refine (HRS.out _ HGA.out).mono ?_
  rintro e w3 ⟨v3, rfl, hf3, hi3, hb3⟩
  obtain ⟨ad3, cap3, rfl⟩ := fresh_shape hf3
  have HY3 := mkHid (BoxT.new hf3.inP hi3)
  have hbB : Below w3.heap.size w3 (w3.alloc (.cells #[.int .i64 t.op, .int .i64 t.num, .slice ad3 t.kids.length cap3] 30)) := box_below _ _
  have HX3 := mkHid ((HX2.out.next hb3).next hbB)
  have HG3 := mkHid ((HGA.out.next hb3).next hbB)
  have HB3 : Hid (Below w.heap.size w (w3.alloc (.cells #[.int .i64 t.op, .int .i64 t.num, .slice ad3 t.kids.length cap3] 30))) := HBA.out.trans ((hb3.trans (hbB.mono hb3.size)).mono HBA.out.size)
  obtain ⟨x0, x1, x2⟩ := HX3.out.cells
  obtain ⟨y0, y1, y2⟩ := HY3.out.cells
  clear hf3 hi3 hb3 hbB
  go_wp2_with fail
  refine (sameBox_calls HX3.out HY3.out HSZ.out).mono ?_
  rintro e w4 ⟨rfl, hb4⟩
  have HX4 := mkHid (HX3.out.next hb4)
  have HY4 := mkHid (HY3.out.next hb4)
  have HG4 := mkHid (HG3.out.next hb4)
  have HB4 : Hid (Below w.heap.size w w4) := HB3.out.trans (hb4.mono HB3.out.size)
  clear hb4 x0 x1 x2 y0 y1 y2
  obtain ⟨x0, x1, x2⟩ := HX4.out.cells
  obtain ⟨y0, y1, y2⟩ := HY4.out.cells
  have hlGb : ((G.length : Int) == 400) = false := by rw [beq_eq_false_iff_ne]; omega
  cases bq with
  | false =>
    go_wp2_with fail
    refine (sameBox_calls HX4.out HY4.out HSZ.out).mono ?_
    rintro e w5 ⟨rfl, hb5⟩
    have HB5 : Hid (Below w.heap.size w w5) := HB4.out.trans (hb5.mono HB4.out.size)
    clear hb5
    go_wp2_with fail
    go_ret
    exact ⟨rfl, HB5.out⟩
  | true =>
    have hr : readB G root n = some t := by
      have h := HBS.out
      cases hq : readB G root n with
      | none => rw [hq] at h; cases h
      | some u => rw [HTS.out u hq]
    have hgv : graphB G n = true ∧ isAt G.length root = true := by
      unfold readB at hr
      split at hr
      · assumption
      · cases hr
    obtain ⟨hgv, hat⟩ := hgv
    unfold isAt at hat
    simp only [decide_eq_true_eq] at hat
    obtain ⟨ro, rfl⟩ := Int.eq_ofNat_of_zero_le hat.1
    have hrl : ro < G.length := by omega
    have h2 := graphB_ind hgv hrl (by omega)
    have hrd := readB_ind hgv hrl (by omega)
    rw [hr] at hrd
    have HGV : Hid (∀ (W : World) (v : Value), CIn W (G ++ [indTo ro]) v → Calls Try.prog 27 #[v, .int .i64 (n : Int)] W fun e w' => e = .returned (.bool true) ∧ Below W.heap.size W w') := fun W v h => by
      have h3 := implGraph_calls (G ++ [indTo ro]) n v W h
      rw [h2] at h3
      exact h3
    have HRQ : Hid (∀ (W : World) (v : Value), CIn W (G ++ [indTo ro]) v → Calls Try.prog 16 #[v, .int .i64 (G.length : Int), .int .i64 (n : Int)] W fun e w' => ∃ v, e = .returned (.tuple #[.agg #[.int .i64 t.op, .int .i64 t.num, v], .bool true]) ∧ Fresh w' W.heap.size t.kids v ∧ I64 t.op ∧ I64 t.num ∧ Below W.heap.size W w') := fun W v h => (implRead_calls _ _ n v W h).mono fun e w' ho => by rw [hrd] at ho; exact ho
    obtain ⟨bl, off, vals, rfl, hvl, hvn, hv1, hvk⟩ := cellVals HG4.out (by omega)
    have HVL := mkHid hvl
    have HVN : Hid (∀ j u, vals[j]? = some u → (w4.alloc (.cells #[] 35)).cell? ((⟨bl, off, none⟩ : Addr).add j) = some u) := fun j u h => old_cell (hvn j u h) _
    have HV1 := mkHid hv1
    have HVK := mkHid hvk
    have HO4 : Hid ((w4.alloc (.cells #[] 35)).ownsRow w4.heap.size 35 3 (.slice (some ⟨w4.heap.size, 0, none⟩) 0 0) 0 []) := ⟨rfl, Or.inr ⟨w4.heap.size, 0, #[], rfl, Nat.le_refl _, Deep.blk_alloc_new _ _, Nat.le_refl _, by simp [maxLen], rfl, rfl⟩⟩
    obtain ⟨iC, zC, hII⟩ := infoC1
    have HII : Hid (Try.prog.info? 35 = some iC ∧ iC.zero = some zC ∧ iC.size = 3 ∧ iC.bytes = 40 ∧ zC.cells.size = 3) := hII
    clear hr hgv hat h2 hrd hvl hvn hv1 hvk hII x0 x1 x2 y0 y1 y2
    go_wp2_with (at_builtin; first
      | (have tk := HO6; go_must (refine wpList_append_where _ rfl _ _ 23 rfl w4.heap.size 35 iC zC 3 40 Try.underlying23 HII.out.1 HII.out.2.1 HII.out.2.2.1 HII.out.2.2.2.1 HII.out.2.2.2.2 (by decide) (.slice ad5 G.length cap5) G.length vals rfl HO6.out ⟨w5.heap.size + 1, 0, none⟩ 1 1 [.int .i64 11, .int .i64 0, .slice (some ⟨w5.heap.size, 0, none⟩) 1 1] rfl rfl HN6.out (by simp [Value.oneCell']) (by unfold maxLen; omega) (by omega) HS6.out (by omega) ?_); go_must (intro v7 w7 hown hg7 hw7); go_must (have HB7 : Hid (Below w4.heap.size w4 w7) := ⟨hg7.os.trans HBX.out.os, hg7.tape.trans HBX.out.tape, hg7.output.trans HBX.out.output, Nat.le_trans HBX.out.size hg7.size, fun k hk => (hg7.block k (Nat.lt_of_lt_of_le hk HBX.out.size) (fun e => by have := (own_some HO6.out k e.symm).1; omega)).trans (HBX.out.block k hk)⟩); go_must (have HA7 : Hid (w7.heap[w5.heap.size]? = some (.cells #[.int .i64 (ro : Int)] 3)) := (hg7.block _ (by rw [Deep.nblk_alloc, Deep.nblk_alloc]; omega) (fun e => by have := (own_some HO5.out _ e.symm).2; omega)).trans ((Deep.blk_alloc_lt _ _ _ (by rw [Deep.nblk_alloc]; omega)).trans (Deep.blk_alloc_new _ _))); go_must (have HC7 := mkHid (cin_more HB7.out HVL.out HVK.out HA7.out hown)); go_must (obtain ⟨ad7, cap7, rfl⟩ := own_frm hown); clear hown hg7 hw7)
      | (go_must (refine wpList_append_where _ rfl _ _ 23 rfl w4.heap.size 35 iC zC 3 40 Try.underlying23 HII.out.1 HII.out.2.1 HII.out.2.2.1 HII.out.2.2.2.1 HII.out.2.2.2.2 (by decide) (.slice (some ⟨w4.heap.size, 0, none⟩) 0 0) 0 [] rfl HO4.out ⟨bl, off, none⟩ G.length capg vals rfl HVL.out HVN.out HV1.out (by unfold maxLen; omega) (by omega) (by rw [Deep.nblk_alloc]; omega) (by omega) ?_); go_must (intro v5 w5 hown hg5 hw5); go_must (rw [Nat.zero_add, List.nil_append] at hown); go_must (have HO5 := mkHid hown); go_must (have HB5 : Hid (Below w4.heap.size w4 w5) := ⟨hg5.os, hg5.tape, hg5.output, (by have h := hg5.size; rw [Deep.nblk_alloc] at h; omega), fun k hk => (hg5.block k (by rw [Deep.nblk_alloc]; omega) (fun e => by simp only [Value.ownBlock, Option.some.injEq] at e; omega)).trans (Deep.blk_alloc_lt _ _ _ hk)⟩); go_must (have hbX : Below w5.heap.size w5 ((w5.alloc (.cells #[.int .i64 (ro : Int)] 3)).alloc (.cells #[.int .i64 11, .int .i64 0, .slice (some ⟨w5.heap.size, 0, none⟩) 1 1] 35)) := (box_below _ _).trans ((box_below _ _).mono (by rw [Deep.nblk_alloc]; omega))); go_must (have HBX : Hid (Below w4.heap.size w4 ((w5.alloc (.cells #[.int .i64 (ro : Int)] 3)).alloc (.cells #[.int .i64 11, .int .i64 0, .slice (some ⟨w5.heap.size, 0, none⟩) 1 1] 35))) := HB5.out.trans (hbX.mono HB5.out.size)); go_must (have HO6 : Hid (((w5.alloc (.cells #[.int .i64 (ro : Int)] 3)).alloc (.cells #[.int .i64 11, .int .i64 0, .slice (some ⟨w5.heap.size, 0, none⟩) 1 1] 35)).ownsRow w4.heap.size 35 3 v5 G.length vals) := own_keep hown fun k _ hk => hbX.block k hk); go_must (have HN6 : Hid (∀ j u, [Value.int .i64 11, Value.int .i64 0, Value.slice (some ⟨w5.heap.size, 0, none⟩) 1 1][j]? = some u → ((w5.alloc (.cells #[.int .i64 (ro : Int)] 3)).alloc (.cells #[.int .i64 11, .int .i64 0, .slice (some ⟨w5.heap.size, 0, none⟩) 1 1] 35)).cell? ((⟨w5.heap.size + 1, 0, none⟩ : Addr).add j) = some u) := (by have h := news3c (w5.alloc (.cells #[.int .i64 (ro : Int)] 3)) (.int .i64 11) (.int .i64 0) (.slice (some ⟨w5.heap.size, 0, none⟩) 1 1); rw [Deep.nblk_alloc] at h; exact h)); go_must (have HS6 : Hid (w4.heap.size ≤ ((w5.alloc (.cells #[.int .i64 (ro : Int)] 3)).alloc (.cells #[.int .i64 11, .int .i64 0, .slice (some ⟨w5.heap.size, 0, none⟩) 1 1] 35)).heap.size) := HBX.out.size); go_must (obtain ⟨ad5, cap5, rfl⟩ := own_frm hown); clear hown hg5 hw5 hbX))
    have HX7 := mkHid (HX4.out.next HB7.out)
    have HB7w : Hid (Below w.heap.size w w7) := HB4.out.trans (HB7.out.mono HB4.out.size)
    refine (HRQ.out w7 _ HC7.out).mono ?_
    rintro e w8 ⟨v8, rfl, hf8, hi8, hi9, hb8⟩
    obtain ⟨ad8, cap8, rfl⟩ := fresh_shape hf8
    have HY8 := mkHid (BoxT.new hf8.inP ⟨hi8, hi9⟩)
    have hbC : Below w8.heap.size w8 (w8.alloc (.cells #[.int .i64 t.op, .int .i64 t.num, .slice ad8 t.kids.length cap8] 30)) := box_below _ _
    have HX8 := mkHid ((HX7.out.next hb8).next hbC)
    have HC8 := mkHid ((HC7.out.next hb8).next hbC)
    have HB8 : Hid (Below w.heap.size w (w8.alloc (.cells #[.int .i64 t.op, .int .i64 t.num, .slice ad8 t.kids.length cap8] 30))) := HB7w.out.trans ((hb8.trans (hbC.mono hb8.size)).mono HB7w.out.size)
    clear hf8 hi8 hi9 hb8 hbC
    go_wp2_with fail
    refine (HGV.out _ _ HC8.out).mono ?_
    rintro e w9 ⟨rfl, hb9⟩
    have HX9 := mkHid (HX8.out.next hb9)
    have HY9 := mkHid (HY8.out.next hb9)
    have HB9 : Hid (Below w.heap.size w w9) := HB8.out.trans (hb9.mono HB8.out.size)
    clear hb9
    obtain ⟨x0, x1, x2⟩ := HX9.out.cells
    obtain ⟨y0, y1, y2⟩ := HY9.out.cells
    go_wp2_with fail
    refine (sameBox_calls HY9.out HX9.out HSZ.out).mono ?_
    rintro e w10 ⟨rfl, hb10⟩
    have HB10 : Hid (Below w.heap.size w w10) := HB9.out.trans (hb10.mono HB9.out.size)
    clear hb10
    go_wp2_with fail
    go_ret
    exact ⟨rfl, HB10.out⟩
end Go.Proofs.Ytjdlfpdljmohiaa.lawAddInd
/-
  FnAddInd: for every argument the program's function answers as the model's, and changes nothing. No condition.
-/
namespace Go.Proofs.Ytjdlfpdljmohiaa.lawAddInd
open Go.ChangeShapes Go.WideShapes Go.ChangeAt Go.RowKit
set_option linter.unusedVariables false
set_option linter.unusedSimpArgs false

theorem own : ownKnob Try.prog.godebug = none := by kernel_rfl
theorem laidOut : laidOutB Try.prog = true := by kernel_rfl

set_option maxRecDepth 100000 in
theorem lifted (os : Os) (started : os.Started) (H : Type) (enc : TypeId × Value → H) :
    ReturnsInHanded {} Try.checked os 6 .any (Rows.fnAddIndSpec.pre6 enc Try.prog Try.f6 Rows.fnAddIndRow.domain false) (Rows.fnAddIndSpec.post enc Try.prog Try.f6 false true false false) := by
  refine returnsInHanded_of_change (C := Try.checked) own started (by kernel_rfl) Try.func6
    (ChangeSpec.witness6 (enc := enc) (C := Try.checked) false ⟨#[], #[.slice none 0 0], []⟩ 8 (by kernel_rfl) (by kernel_rfl) (by kernel_rfl) (by kernel_rfl)) ?_
  intro W base args ds gs before hval0 hW hcnd _
  have hval : ∀ (j : Nat) t v, Try.f6.params[j]? = some t → args[j]? = some v → Value.okWide Try.prog W .any base t v := hval0
  have hW' := hW
  obtain ⟨p, q, hA0, hV, rfl, hfz, hnd⟩ := hW
  have hA : DataW.TrodAll enc Try.prog W 0 (fun _ => true) true Try.f6.params.toList args.toList ds p := hA0
  rw [Try.params6] at hA hval
  obtain ⟨v0, vs0, d0, ds0, p0, q0, hargs, rfl, rfl, h0, r0⟩ := trodAll_cons hA
  obtain ⟨rfl, rfl, rfl⟩ := trodAll_nil r0
  obtain rfl : args = #[v0] := by cases args; simp_all
  obtain ⟨rfl, rfl⟩ := trodVars_none hV
  have k0 := h0
  have lt0 : ∀ x ∈ p0, x.block < W.heap.size := by obtain ⟨m, hm⟩ := k0; exact DataW.trod_lt m _ _ _ hm
  obtain ⟨a0, len0, cap0, rfl⟩ := okWide_slice Try.underlying22 (hval 0 22 v0 rfl rfl)
  obtain ⟨fuel0, hf0⟩ := h0
  obtain ⟨ln0, hk0⟩ := trod_bytes fuel0 _ _ (by simpa [Value.cells] using hf0)
  clear hA0 hval0
  refine (walk ln0 _ W hk0).mono fun e W' ⟨he, bel⟩ => ?_
  subst he
  exact ⟨_, rfl, _, _, _, [], _, [], hW', trodAll_mk1 (shut_bool Try.underlying4 _), (trodAll_cons_mk (Below.trod laidOut (by kernel_rfl) (of_decide_eq_true (by kernel_rfl)) k0 bel lt0) trodAll_mk0), rfl, bel.frame _, fun h => by cases h⟩

theorem over : Rows.fnAddIndRow.holds Try.pinned (OpenSpec.ofChange Rows.fnAddIndSpec) :=
  OpenClaim.holds_of_wide 6 Try.f6 rfl rfl rfl rfl rfl rfl rfl ⟨rfl, rfl, rfl, rfl, rfl⟩ rfl rfl rfl rfl rfl (by kernel_rfl) Try.func6 (by kernel_rfl)
    (of_decide_eq_true (by kernel_rfl)) (by unfold Func.isWrapper; first | (rw [if_pos (by decide +kernel)]; kernel_rfl) | (rw [if_neg (by decide +kernel)]; exact ⟨rfl, rfl⟩))
    (fun os started H enc _ => lifted os started H enc)

theorem proved : Rows.FnAddIndSaid := over
end Go.Proofs.Ytjdlfpdljmohiaa.lawAddInd
