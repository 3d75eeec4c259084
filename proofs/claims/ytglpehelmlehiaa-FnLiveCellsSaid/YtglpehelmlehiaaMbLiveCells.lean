/-
  THE WALK OF FnLiveCells.
-/
import Derived.Test.YtglpehelmlehiaaMb14
import Derived.Test.YtglpehelmlehiaaMb17
import Derived.Test.YtglpehelmlehiaaMb16
import Derived.Test.YtglpehelmlehiaaRows
import Derived.ShutString
import Derived.ChangeOld
namespace Go.Proofs.Ytglpehelmlehiaa.lawLiveCells
open Go.ChangeShapes Go.WideShapes Go.ChangeAt Go.RowKit
set_option linter.unusedVariables false
set_option linter.unusedSimpArgs false

set_option maxRecDepth 100000 in
set_option maxHeartbeats 3200000 in
theorem walk (len : Nat) (v : Value) (w : World) (h : BytesOn w (Lt w.heap.size) len v) : Calls Try.prog 6 #[v] w fun e w' => e = .returned (.bool true) ∧ Below w.heap.size w w' := by
  have H := mkHid h
  obtain ⟨ad, cap, rfl, hl, hm, -⟩ := h
  unfold maxLen at hm
  go_enter Try.func6, Try.ntmps6
  by_cases hlen : (1048576 : Int) < (len : Int)
  · go_wp2_with fail
    go_ret
    exact ⟨rfl, Below.refl _ _⟩
  clear hl hm
  go_wp2_with fail
  refine (drawLiveCells_calls len _ w H.out).mono ?_
  rintro e w1 ⟨G, gv, X, xv, rfl, hlG, hx1, hx4, hxi, hc, hx, hb1⟩
  have HG1 : Hid (CIn w1 G gv) := hc.mono (fun k hk => hk.2) fun _ _ => rfl
  have HX1 : Hid (IIn w1 X xv) := hx.mono (fun k hk => hk.2) fun _ _ => rfl
  have HB1 := mkHid hb1
  obtain ⟨adg, capg, rfl, hcg1, hcg2, -⟩ := id hc
  obtain ⟨adx, capx, rfl, hcx1, hcx2, -⟩ := id hx
  unfold maxLen at hcg2 hcx2
  clear hb1 hxi hc hx
  obtain ⟨n, hn⟩ : ∃ n, n = liveO G X := ⟨_, rfl⟩
  have HN := mkHid hn
  obtain ⟨xs, hxs⟩ : ∃ xs, xs = plI (orderO G X) := ⟨_, rfl⟩
  have hxl : xs.length ≤ 400 := by rw [hxs, plI_length]; exact Nat.le_trans (orderO_len G X) hlG
  have hnl : n ≤ (xs.length : Int) := by rw [hn, hxs, plI_length]; exact live_le G X
  have HXS := mkHid hxs
  clear hxs hn
  go_wp2_with fail
  refine (implLive_calls G X _ _ w1 HG1.out HX1.out).mono ?_
  rintro e w2 ⟨rfl, hb2⟩
  have HG2 := mkHid (HG1.out.next hb2)
  have HX2 := mkHid (HX1.out.next hb2)
  have HB2 : Hid (Below w.heap.size w w2) := HB1.out.trans (hb2.mono HB1.out.size)
  rw [← HN.out]
  clear hb2
  go_wp2_with fail
  refine (specLive_calls G X _ _ w2 HG2.out HX2.out).mono ?_
  rintro e w3 ⟨rfl, hb3⟩
  have HG3 := mkHid (HG2.out.next hb3)
  have HX3 := mkHid (HX2.out.next hb3)
  have HB3 : Hid (Below w.heap.size w w3) := HB2.out.trans (hb3.mono HB2.out.size)
  rw [← HN.out]
  clear hb3
  go_wp2_with fail
  refine (implOrderG_calls G X _ _ w3 HG3.out HX3.out).mono ?_
  rintro e w4 ⟨v4, rfl, hv4, hb4⟩
  have HG4 := mkHid (HG3.out.next hb4)
  have HX4 := mkHid (HX3.out.next hb4)
  have HB4 : Hid (Below w.heap.size w w4) := HB3.out.trans (hb4.mono HB3.out.size)
  rw [← HXS.out] at hv4
  have HV4 := mkHid hv4.inn
  obtain ⟨ad4, cap4, rfl, hc4a, hc4b, -⟩ := hv4
  unfold maxLen at hc4b
  clear hb4
  have hnn : (n != n) = false := by simp
  have hne : (n == n) = true := by simp
  obtain ⟨rb, hrb⟩ : ∃ rb, rb = rootB G X := ⟨_, rfl⟩
  rw [← hrb]
  have HRB := mkHid hrb
  clear hrb
  have hbb : (rb != rb) = false := by simp
  have hbe : (rb == rb) = true := by simp
  go_wp2_with fail
  refine (specOrderG_calls G X _ _ w4 HG4.out HX4.out).mono ?_
  rintro e w5 ⟨v5, rfl, hv5, hb5⟩
  have HG5 := mkHid (HG4.out.next hb5)
  have HX5 := mkHid (HX4.out.next hb5)
  have HB5 : Hid (Below w.heap.size w w5) := HB4.out.trans (hb5.mono HB4.out.size)
  rw [← HXS.out] at hv5
  have HV5 := mkHid hv5.inn
  obtain ⟨ad5, cap5, rfl, hc5a, hc5b, -⟩ := hv5
  unfold maxLen at hc5b
  have HV45 := mkHid (HV4.out.next hb5)
  clear hb5
  go_wp2_with fail
  refine (glInts_same xs _ _ w5 HV45.out HV5.out).mono ?_
  rintro e w6 ⟨rfl, hb6⟩
  have HV6 := mkHid (HV45.out.next hb6)
  have HG6 := mkHid (HG5.out.next hb6)
  have HX6 := mkHid (HX5.out.next hb6)
  have HB6 : Hid (Below w.heap.size w w6) := HB5.out.trans (hb6.mono HB5.out.size)
  clear hb6
  cases rb with
  | false =>
    go_wp2_with fail
    refine (specOrderG_calls G X _ _ w6 HG6.out HX6.out).mono ?_
    rintro e w7 ⟨v7, rfl, hv7, hb7⟩
    rw [← HXS.out] at hv7
    have HV7 := mkHid hv7.inn
    have HV67 := mkHid (HV6.out.next hb7)
    have HB7 : Hid (Below w.heap.size w w7) := HB6.out.trans (hb7.mono HB6.out.size)
    obtain ⟨ad7, cap7, rfl, -, -, -⟩ := hv7
    clear hb7
    go_wp2_with fail
    refine (glInts_same xs _ _ w7 HV67.out HV7.out).mono ?_
    rintro e w8 ⟨rfl, hb8⟩
    have HB8 : Hid (Below w.heap.size w w8) := HB7.out.trans (hb8.mono HB7.out.size)
    clear hb8
    go_wp2_with fail
    go_ret
    exact ⟨rfl, HB8.out⟩
  | true =>
    have hrb := HRB.out
    obtain ⟨K, hK⟩ : ∃ K, K = (copyO G X).1 := ⟨_, rfl⟩
    have hKl : K.length ≤ 400 := by rw [hK, copyO_yes hrb.symm]; exact Nat.le_trans (copyG_length' hrb.symm) hlG
    have HNV : Hid (n = (liveC K : Int)) := by rw [Hid, HN.out, hK, copyO_yes hrb.symm, liveO_yes hrb.symm, liveC_copy]
    have HK := mkHid hK
    clear hK hrb
    go_wp2_with fail
    refine (implCopyG_calls G X _ _ w6 HG6.out HX6.out).mono ?_
    rintro e w7 ⟨v7, t7, rfl, hgi, hb7⟩
    have HC7 : Hid (CIn w7 K v7) := by rw [HK.out]; exact hgi.inn.1
    have HB7 : Hid (Below w.heap.size w w7) := HB6.out.trans (hb7.mono HB6.out.size)
    obtain ⟨ad7, cap7, rfl, -, -, -⟩ := id HC7.out
    obtain ⟨at7, capt7, rfl, -, -, -⟩ := hgi.inn.2
    clear hgi hb7
    go_wp2_with fail
    go_loopw [13, 14] (fun mv iv wr => ∃ k q : Nat, k ≤ K.length ∧ q ≤ k ∧ iv = .int .i64 (k : Int) ∧ mv = .int .i64 (q : Int) ∧ Hid (q = liveC (K.take k)) ∧ wr = w7) (fun _ iv _ => K.length - (intOf iv).toNat)
    case atStart => exact ⟨0, 0, Nat.zero_le _, Nat.le_refl _, rfl, rfl, rfl, rfl⟩
    case round =>
      obtain ⟨k, q, hk, hqk, rfl, rfl, HQ, rfl⟩ := hrel
      by_cases hlt : k < K.length
      · obtain ⟨bl, off, c, rfl, g0, -, -, -, -, -⟩ := HC7.out.at k hlt
        by_cases ho : K[k].op = 11
        · have HQ2 : Hid (q = liveC (K.take (k + 1))) := by rw [Hid, take_snocC hlt, liveC_snoc, ho, ← HQ.out]; rfl
          have hob : (K[k].op != 11) = false := by rw [ho]; rfl
          clear ho
          go_wp2_with fail
          go_roundw
          case rel => exact ⟨k + 1, q, by omega, by omega, by go_num, rfl, HQ2.out, trivial⟩
          case measure => simp [intOf]; omega
        · have hob : (K[k].op != 11) = true := by simpa using ho
          have HQ2 : Hid (q + 1 = liveC (K.take (k + 1))) := by rw [Hid, take_snocC hlt, liveC_snoc, if_pos hob, ← HQ.out]
          clear ho
          go_wp2_with fail
          go_roundw
          case rel => exact ⟨k + 1, q + 1, by omega, by omega, by go_num, by go_num, HQ2.out, trivial⟩
          case measure => simp [intOf]; omega
      · have hnq : n = (q : Int) := by rw [HNV.out, HQ.out, List.take_of_length_le (by omega)]
        have hqq : (n == (q : Int)) = true := by rw [hnq]; simp
        have HNQ := mkHid hnq
        clear hnq
        go_wp2_with fail
        go_ret
        exact ⟨rfl, HB7.out⟩
end Go.Proofs.Ytglpehelmlehiaa.lawLiveCells
/-
  FnLiveCells: for every argument the program's function answers as the model's, and changes nothing. No condition.
-/
namespace Go.Proofs.Ytglpehelmlehiaa.lawLiveCells
open Go.ChangeShapes Go.WideShapes Go.ChangeAt Go.RowKit
set_option linter.unusedVariables false
set_option linter.unusedSimpArgs false

theorem own : ownKnob Try.prog.godebug = none := by kernel_rfl
theorem laidOut : laidOutB Try.prog = true := by kernel_rfl

set_option maxRecDepth 100000 in
theorem lifted (os : Os) (started : os.Started) (H : Type) (enc : TypeId × Value → H) :
    ReturnsInHanded {} Try.checked os 6 .any (Rows.fnLiveCellsSpec.pre6 enc Try.prog Try.f6 Rows.fnLiveCellsRow.domain false) (Rows.fnLiveCellsSpec.post enc Try.prog Try.f6 false true false false) := by
  refine returnsInHanded_of_change (C := Try.checked) own started (by kernel_rfl) Try.func6
    (ChangeSpec.witness6 (enc := enc) (C := Try.checked) false ⟨#[], #[.slice none 0 0], []⟩ 8 (by kernel_rfl) (by kernel_rfl) (by kernel_rfl) (by kernel_rfl)) ?_
  intro W base args ds gs before hval0 hW hcnd _
  have hval : ∀ (j : Nat) t v, Try.f6.params[j]? = some t → args[j]? = some v → Value.okWide Try.prog W .any base t v := hval0
  have hW' := hW
  obtain ⟨p, q, hA0, hV, rfl, hfz, hnd⟩ := hW
  have hA : DataW.TrodAll enc Try.prog W 0 (fun _ => true) true Try.f6.params.toList args.toList ds p := hA0
  rw [Try.params6] at hA hval
  obtain ⟨v0, vs0, d0, ds0, p0, q0, hargs, rfl, rfl, h0, r0⟩ := trodAll_cons hA
  obtain ⟨rfl, rfl, rfl⟩ := trodAll_nil r0
  obtain rfl : args = #[v0] := by cases args; simp_all
  obtain ⟨rfl, rfl⟩ := trodVars_none hV
  have k0 := h0
  have lt0 : ∀ x ∈ p0, x.block < W.heap.size := by obtain ⟨m, hm⟩ := k0; exact DataW.trod_lt m _ _ _ hm
  obtain ⟨a0, len0, cap0, rfl⟩ := okWide_slice Try.underlying22 (hval 0 22 v0 rfl rfl)
  obtain ⟨fuel0, hf0⟩ := h0
  obtain ⟨ln0, hk0⟩ := trod_bytes fuel0 _ _ (by simpa [Value.cells] using hf0)
  clear hA0 hval0
  refine (walk ln0 _ W hk0).mono fun e W' ⟨he, bel⟩ => ?_
  subst he
  exact ⟨_, rfl, _, _, _, [], _, [], hW', trodAll_mk1 (shut_bool Try.underlying4 _), (trodAll_cons_mk (Below.trod laidOut (by kernel_rfl) (of_decide_eq_true (by kernel_rfl)) k0 bel lt0) trodAll_mk0), rfl, bel.frame _, fun h => by cases h⟩

theorem over : Rows.fnLiveCellsRow.holds Try.pinned (OpenSpec.ofChange Rows.fnLiveCellsSpec) :=
  OpenClaim.holds_of_wide 6 Try.f6 rfl rfl rfl rfl rfl rfl rfl ⟨rfl, rfl, rfl, rfl, rfl⟩ rfl rfl rfl rfl rfl (by kernel_rfl) Try.func6 (by kernel_rfl)
    (of_decide_eq_true (by kernel_rfl)) (by unfold Func.isWrapper; first | (rw [if_pos (by decide +kernel)]; kernel_rfl) | (rw [if_neg (by decide +kernel)]; exact ⟨rfl, rfl⟩))
    (fun os started H enc _ => lifted os started H enc)

theorem proved : Rows.FnLiveCellsSaid := over
end Go.Proofs.Ytglpehelmlehiaa.lawLiveCells
