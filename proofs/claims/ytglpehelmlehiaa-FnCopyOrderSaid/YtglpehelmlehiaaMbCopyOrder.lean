/-
  THE WALK OF FnCopyOrder.
-/
import Derived.Test.YtglpehelmlehiaaMb14
import Derived.Test.YtglpehelmlehiaaMb17
import Derived.Test.YtglpehelmlehiaaMb16
import Derived.Test.YtglpehelmlehiaaRows
import Derived.ShutString
import Derived.ChangeOld
namespace Go.Proofs.Ytglpehelmlehiaa.lawCopyOrder
open Go.ChangeShapes Go.WideShapes Go.ChangeAt Go.RowKit
set_option linter.unusedVariables false
set_option linter.unusedSimpArgs false

set_option maxRecDepth 100000 in
set_option maxHeartbeats 3200000 in
theorem walk (len : Nat) (v : Value) (w : World) (h : BytesOn w (Lt w.heap.size) len v) : Calls Try.prog 4 #[v] w fun e w' => e = .returned (.bool true) ∧ Below w.heap.size w w' := by
  have H := mkHid h
  obtain ⟨ad, cap, rfl, hl, hm, -⟩ := h
  unfold maxLen at hm
  go_enter Try.func4, Try.ntmps4
  by_cases hlen : (1048576 : Int) < (len : Int)
  · go_wp2_with fail
    go_ret
    exact ⟨rfl, Below.refl _ _⟩
  clear hl hm
  go_wp2_with fail
  refine (drawCopyOrder_calls len _ w H.out).mono ?_
  rintro e w1 ⟨G, gv, X, xv, rfl, hlG, hx1, hx4, hxi, hc, hx, hb1⟩
  have HG1 : Hid (CIn w1 G gv) := hc.mono (fun k hk => hk.2) fun _ _ => rfl
  have HX1 : Hid (IIn w1 X xv) := hx.mono (fun k hk => hk.2) fun _ _ => rfl
  have HB1 := mkHid hb1
  obtain ⟨adg, capg, rfl, hcg1, hcg2, -⟩ := id hc
  obtain ⟨adx, capx, rfl, hcx1, hcx2, -⟩ := id hx
  unfold maxLen at hcg2 hcx2
  clear hb1 hxi hc hx
  obtain ⟨xs, hxs⟩ : ∃ xs, xs = plI (orderO G X) := ⟨_, rfl⟩
  have hxl : xs.length ≤ 400 := by rw [hxs, plI_length]; exact Nat.le_trans (orderO_len G X) hlG
  have HFF := mkHid (order_facts hxs)
  have HXS := mkHid hxs
  clear hxs
  go_wp2_with fail
  refine (implOrderG_calls G X _ _ w1 HG1.out HX1.out).mono ?_
  rintro e w2 ⟨v2, rfl, hv2, hb2⟩
  have HG2 := mkHid (HG1.out.next hb2)
  have HX2 := mkHid (HX1.out.next hb2)
  have HB2 : Hid (Below w.heap.size w w2) := HB1.out.trans (hb2.mono HB1.out.size)
  rw [← HXS.out] at hv2
  have HV2 := mkHid hv2.inn
  obtain ⟨ad2, cap2, rfl, hc2a, hc2b, -⟩ := hv2
  unfold maxLen at hc2b
  clear hb2
  go_wp2_with fail
  refine (specOrderG_calls G X _ _ w2 HG2.out HX2.out).mono ?_
  rintro e w3 ⟨v3, rfl, hv3, hb3⟩
  have HG3 := mkHid (HG2.out.next hb3)
  have HX3 := mkHid (HX2.out.next hb3)
  have HB3 : Hid (Below w.heap.size w w3) := HB2.out.trans (hb3.mono HB2.out.size)
  rw [← HXS.out] at hv3
  have HV3 := mkHid hv3.inn
  obtain ⟨ad3, cap3, rfl, hc3a, hc3b, -⟩ := hv3
  unfold maxLen at hc3b
  have HV23 := mkHid (HV2.out.next hb3)
  clear hb3
  go_wp2_with fail
  refine (glInts_same xs _ _ w3 HV23.out HV3.out).mono ?_
  rintro e w4 ⟨rfl, hb4⟩
  have HV4 := mkHid (HV23.out.next hb4)
  have HG4 := mkHid (HG3.out.next hb4)
  have HX4 := mkHid (HX3.out.next hb4)
  have HB4 : Hid (Below w.heap.size w w4) := HB3.out.trans (hb4.mono HB3.out.size)
  clear hb4
  by_cases hx0 : xs.length = 0
  · have hx0i : ((xs.length : Int) == 0) = true := by simp only [beq_iff_eq]; omega
    clear hx0
    go_wp2_with fail
    refine (specOrderG_calls G X _ _ w4 HG4.out HX4.out).mono ?_
    rintro e w5 ⟨v5, rfl, hv5, hb5⟩
    rw [← HXS.out] at hv5
    have HV5 := mkHid hv5.inn
    have HV45 := mkHid (HV4.out.next hb5)
    have HB5 : Hid (Below w.heap.size w w5) := HB4.out.trans (hb5.mono HB4.out.size)
    obtain ⟨ad5, cap5, rfl, -, -, -⟩ := hv5
    clear hb5
    go_wp2_with fail
    refine (glInts_same xs _ _ w5 HV45.out HV5.out).mono ?_
    rintro e w6 ⟨rfl, hb6⟩
    have HB6 : Hid (Below w.heap.size w w6) := HB5.out.trans (hb6.mono HB5.out.size)
    clear hb6
    go_wp2_with fail
    go_ret
    exact ⟨rfl, HB6.out⟩
  have hx0i : ((xs.length : Int) == 0) = false := by rw [beq_eq_false_iff_ne]; omega
  have HF := mkHid (HFF.out hx0 hx1)
  go_wp2_with fail
  go_loopw [6] (fun iv wr => ∃ k : Nat, k ≤ xs.length ∧ iv = .int .i64 (k : Int) ∧ Hid (Below w4.heap.size w4 wr)) (fun iv _ => xs.length - (intOf iv).toNat)
  case atStart => exact ⟨0, Nat.zero_le _, rfl, Below.refl _ _⟩
  case round =>
    obtain ⟨k, hk, rfl, HB⟩ := hrel
    have HVr := mkHid (HV4.out.next HB.out)
    by_cases hlt : k < xs.length
    · have HNI := mkHid (HF.out.1 k hlt)
      have HTK : Hid (IIn wr (xs.take k) (.slice ad2 k cap2)) := ints_take HVr.out hk (by omega)
      have hkc : (k : Int) ≤ (cap2 : Int) := by omega
      have HQ : Hid (∀ n, Calls Try.prog 25 #[.slice ad2 k cap2, .int .i64 xs[k]] (wr.drewN n) fun e w' => e = .returned (.bool false) ∧ w' = wr.drewN n) := fun n => by
        have h := glIn_same (xs.take k) _ xs[k] (wr.drewN n) (HTK.out.mono (fun _ h => h) fun _ _ => rfl)
        rw [show decide (xs[k] ∈ xs.take k) = false from decide_eq_false HNI.out] at h
        exact h
      obtain ⟨bl, off, rfl, c0⟩ := HVr.out.at k hlt
      go_wp2_with fail
      go_quiet (first | (go_at_call 25; refine Calls.quiet_of_same (HQ.out _)))
      rename_i nq
      clear c0
      go_wp2_with fail
      go_roundw
      case rel => exact ⟨k + 1, by omega, by go_num, below_drewN HB.out _⟩
      case measure => simp [intOf]; omega
    · go_wp2_with fail
      obtain ⟨wo, hwo⟩ : ∃ wo, wo = wr := ⟨_, rfl⟩
      subst hwo
      go_loopw [7] (fun jv wi => ∃ j : Nat, j ≤ X.length ∧ jv = .int .i64 (j : Int) ∧ Hid (Below w4.heap.size w4 wi)) (fun jv _ => X.length - (intOf jv).toNat)
      case atStart => exact ⟨0, Nat.zero_le _, rfl, HB.out⟩
      case round =>
        obtain ⟨j, hj, rfl, HBi⟩ := hrel
        have HVi := mkHid (HV4.out.next HBi.out)
        have HXi := mkHid (HX4.out.next HBi.out)
        by_cases hjl : j < X.length
        · have HIN := mkHid (HF.out.2.1 X[j] (List.getElem_mem hjl))
          obtain ⟨bk, ok, rfl, k0⟩ := HXi.out.at j hjl
          go_wp2_with fail
          refine (glIn_calls xs _ X[j] _ HVi.out).mono ?_
          rintro e w7 ⟨rfl, hb7⟩
          rw [show decide (X[j] ∈ xs) = true from decide_eq_true HIN.out]
          have HB7 : Hid (Below w4.heap.size w4 w7) := HBi.out.trans (hb7.mono HBi.out.size)
          clear hb7 k0
          go_wp2_with fail
          go_roundw
          case rel => exact ⟨j + 1, by omega, by go_num, HB7.out⟩
          case measure => simp [intOf]; omega
        · obtain ⟨g0, g1, he⟩ := HF.out.2.2
          obtain ⟨bl, off, rfl, c0⟩ := HVi.out.at 0 g0
          obtain ⟨bk, ok, rfl, k0⟩ := HXi.out.at 0 g1
          obtain ⟨y, hy⟩ : ∃ y, y = X[0] := ⟨_, rfl⟩
          rw [he, ← hy] at c0
          rw [← hy] at k0
          clear hy he
          have c1 := c0
          have k1 := k0
          rw [Nat.add_zero] at c1 k1
          have hyy : (y == y) = true := by simp
          have HBW := mkHid (HB4.out.trans (HBi.out.mono HB4.out.size))
          go_wp2_with fail
          go_quiet (fail)
          rename_i nq
          go_wp2_with fail
          go_ret
          exact ⟨rfl, below_drewN HBW.out _⟩
end Go.Proofs.Ytglpehelmlehiaa.lawCopyOrder
/-
  FnCopyOrder: for every argument the program's function answers as the model's, and changes nothing. No condition.
-/
namespace Go.Proofs.Ytglpehelmlehiaa.lawCopyOrder
open Go.ChangeShapes Go.WideShapes Go.ChangeAt Go.RowKit
set_option linter.unusedVariables false
set_option linter.unusedSimpArgs false

theorem own : ownKnob Try.prog.godebug = none := by kernel_rfl
theorem laidOut : laidOutB Try.prog = true := by kernel_rfl

set_option maxRecDepth 100000 in
theorem lifted (os : Os) (started : os.Started) (H : Type) (enc : TypeId × Value → H) :
    ReturnsInHanded {} Try.checked os 4 .any (Rows.fnCopyOrderSpec.pre6 enc Try.prog Try.f4 Rows.fnCopyOrderRow.domain false) (Rows.fnCopyOrderSpec.post enc Try.prog Try.f4 false true false false) := by
  refine returnsInHanded_of_change (C := Try.checked) own started (by kernel_rfl) Try.func4
    (ChangeSpec.witness6 (enc := enc) (C := Try.checked) false ⟨#[], #[.slice none 0 0], []⟩ 8 (by kernel_rfl) (by kernel_rfl) (by kernel_rfl) (by kernel_rfl)) ?_
  intro W base args ds gs before hval0 hW hcnd _
  have hval : ∀ (j : Nat) t v, Try.f4.params[j]? = some t → args[j]? = some v → Value.okWide Try.prog W .any base t v := hval0
  have hW' := hW
  obtain ⟨p, q, hA0, hV, rfl, hfz, hnd⟩ := hW
  have hA : DataW.TrodAll enc Try.prog W 0 (fun _ => true) true Try.f4.params.toList args.toList ds p := hA0
  rw [Try.params4] at hA hval
  obtain ⟨v0, vs0, d0, ds0, p0, q0, hargs, rfl, rfl, h0, r0⟩ := trodAll_cons hA
  obtain ⟨rfl, rfl, rfl⟩ := trodAll_nil r0
  obtain rfl : args = #[v0] := by cases args; simp_all
  obtain ⟨rfl, rfl⟩ := trodVars_none hV
  have k0 := h0
  have lt0 : ∀ x ∈ p0, x.block < W.heap.size := by obtain ⟨m, hm⟩ := k0; exact DataW.trod_lt m _ _ _ hm
  obtain ⟨a0, len0, cap0, rfl⟩ := okWide_slice Try.underlying22 (hval 0 22 v0 rfl rfl)
  obtain ⟨fuel0, hf0⟩ := h0
  obtain ⟨ln0, hk0⟩ := trod_bytes fuel0 _ _ (by simpa [Value.cells] using hf0)
  clear hA0 hval0
  refine (walk ln0 _ W hk0).mono fun e W' ⟨he, bel⟩ => ?_
  subst he
  exact ⟨_, rfl, _, _, _, [], _, [], hW', trodAll_mk1 (shut_bool Try.underlying4 _), (trodAll_cons_mk (Below.trod laidOut (by kernel_rfl) (of_decide_eq_true (by kernel_rfl)) k0 bel lt0) trodAll_mk0), rfl, bel.frame _, fun h => by cases h⟩

theorem over : Rows.fnCopyOrderRow.holds Try.pinned (OpenSpec.ofChange Rows.fnCopyOrderSpec) :=
  OpenClaim.holds_of_wide 4 Try.f4 rfl rfl rfl rfl rfl rfl rfl ⟨rfl, rfl, rfl, rfl, rfl⟩ rfl rfl rfl rfl rfl (by kernel_rfl) Try.func4 (by kernel_rfl)
    (of_decide_eq_true (by kernel_rfl)) (by unfold Func.isWrapper; first | (rw [if_pos (by decide +kernel)]; kernel_rfl) | (rw [if_neg (by decide +kernel)]; exact ⟨rfl, rfl⟩))
    (fun os started H enc _ => lifted os started H enc)

theorem proved : Rows.FnCopyOrderSaid := over
end Go.Proofs.Ytglpehelmlehiaa.lawCopyOrder
