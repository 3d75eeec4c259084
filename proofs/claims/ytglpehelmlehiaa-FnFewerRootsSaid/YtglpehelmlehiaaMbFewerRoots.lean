/-
  THE WALK OF FnFewerRoots.
-/
import Derived.Test.YtglpehelmlehiaaMb14
import Derived.Test.YtglpehelmlehiaaMb16
import Derived.Test.YtglpehelmlehiaaRows
import Derived.ShutString
import Derived.ChangeOld
namespace Go.Proofs.Ytglpehelmlehiaa.lawFewerRoots
open Go.ChangeShapes Go.WideShapes Go.ChangeAt Go.RowKit
set_option linter.unusedVariables false
set_option linter.unusedSimpArgs false

set_option maxRecDepth 100000 in
set_option maxHeartbeats 3200000 in
theorem walk (len : Nat) (v : Value) (w : World) (h : BytesOn w (Lt w.heap.size) len v) : Calls Try.prog 5 #[v] w fun e w' => e = .returned (.bool true) ∧ Below w.heap.size w w' := by
  have H := mkHid h
  obtain ⟨ad, cap, rfl, hl, hm, -⟩ := h
  unfold maxLen at hm
  go_enter Try.func5, Try.ntmps5
  by_cases hlen : (1048576 : Int) < (len : Int)
  · go_wp2_with fail
    go_ret
    exact ⟨rfl, Below.refl _ _⟩
  clear hl hm
  go_wp2_with fail
  refine (drawLiveCells_calls len _ w H.out).mono ?_
  rintro e w1 ⟨G, gv, X, xv, rfl, hlG, hx1, hx4, hxi, hc, hx, hb1⟩
  have HG1 : Hid (CIn w1 G gv) := hc.mono (fun k hk => hk.2) fun _ _ => rfl
  have HX1 : Hid (IIn w1 X xv) := hx.mono (fun k hk => hk.2) fun _ _ => rfl
  have HB1 := mkHid hb1
  obtain ⟨adg, capg, rfl, hcg1, hcg2, -⟩ := id hc
  obtain ⟨adx, capx, rfl, hcx1, hcx2, -⟩ := id hx
  unfold maxLen at hcg2 hcx2
  clear hb1 hxi hc hx
  obtain ⟨n, hn⟩ : ∃ n, n = liveO G X := ⟨_, rfl⟩
  have HN := mkHid hn
  clear hn
  go_wp2_with fail
  refine (implLive_calls G X _ _ w1 HG1.out HX1.out).mono ?_
  rintro e w2 ⟨rfl, hb2⟩
  have HG2 := mkHid (HG1.out.next hb2)
  have HX2 := mkHid (HX1.out.next hb2)
  have HB2 : Hid (Below w.heap.size w w2) := HB1.out.trans (hb2.mono HB1.out.size)
  rw [← HN.out]
  clear hb2
  go_wp2_with fail
  refine (specLive_calls G X _ _ w2 HG2.out HX2.out).mono ?_
  rintro e w3 ⟨rfl, hb3⟩
  have HG3 := mkHid (HG2.out.next hb3)
  have HX3 := mkHid (HX2.out.next hb3)
  have HB3 : Hid (Below w.heap.size w w3) := HB2.out.trans (hb3.mono HB2.out.size)
  rw [← HN.out]
  clear hb3
  have hnn : (n != n) = false := by simp
  have hne : (n == n) = true := by simp
  cases hr : rootB G X with
  | false =>
    clear hr
    go_wp2_with fail
    go_ret
    exact ⟨rfl, HB3.out⟩
  | true =>
    obtain ⟨m, hm⟩ : ∃ m, m = X.length - 1 := ⟨_, rfl⟩
    have hm1 : m ≤ X.length := by omega
    have hwi : IntKind.i64.wrap ((X.length : Int) - 1) = (m : Int) := by rw [show ((X.length : Int) - 1) = (m : Int) by omega]; exact IntWalk.i64_in _ (by omega)
    have HT := mkHid (root_take hr m)
    obtain ⟨a, ha⟩ : ∃ a, a = liveO G (X.take m) := ⟨_, rfl⟩
    have han : a ≤ n := by rw [ha, HN.out]; exact live_take hr m
    have HA := mkHid ha
    have HE := mkHid (root_nil hr)
    have hx0 : 0 < X.length := by omega
    have HX4 : Hid (IIn w3 (X.take m) (.slice adx m capx)) := ints_take HX3.out hm1 hx0
    clear hr hm ha
    go_wp2_with fail
    refine (implLive_calls G (X.take m) _ _ w3 HG3.out HX4.out).mono ?_
    rintro e w4 ⟨rfl, hb4⟩
    rw [← HA.out, HT.out]
    have HG4 := mkHid (HG3.out.next hb4)
    have HB4 : Hid (Below w.heap.size w w4) := HB3.out.trans (hb4.mono HB3.out.size)
    clear hb4
    go_wp2_with fail
    refine (implLive_calls G [] _ _ w4 HG4.out (ints_none w4)).mono ?_
    rintro e w5 ⟨rfl, hb5⟩
    rw [live_nil, HE.out]
    have HB5 : Hid (Below w.heap.size w w5) := HB4.out.trans (hb5.mono HB4.out.size)
    clear hb5
    go_wp2_with fail
    go_ret
    exact ⟨rfl, HB5.out⟩
end Go.Proofs.Ytglpehelmlehiaa.lawFewerRoots
/-
  FnFewerRoots: for every argument the program's function answers as the model's, and changes nothing. No condition.
-/
namespace Go.Proofs.Ytglpehelmlehiaa.lawFewerRoots
open Go.ChangeShapes Go.WideShapes Go.ChangeAt Go.RowKit
set_option linter.unusedVariables false
set_option linter.unusedSimpArgs false

theorem own : ownKnob Try.prog.godebug = none := by kernel_rfl
theorem laidOut : laidOutB Try.prog = true := by kernel_rfl

set_option maxRecDepth 100000 in
theorem lifted (os : Os) (started : os.Started) (H : Type) (enc : TypeId × Value → H) :
    ReturnsInHanded {} Try.checked os 5 .any (Rows.fnFewerRootsSpec.pre6 enc Try.prog Try.f5 Rows.fnFewerRootsRow.domain false) (Rows.fnFewerRootsSpec.post enc Try.prog Try.f5 false true false false) := by
  refine returnsInHanded_of_change (C := Try.checked) own started (by kernel_rfl) Try.func5
    (ChangeSpec.witness6 (enc := enc) (C := Try.checked) false ⟨#[], #[.slice none 0 0], []⟩ 8 (by kernel_rfl) (by kernel_rfl) (by kernel_rfl) (by kernel_rfl)) ?_
  intro W base args ds gs before hval0 hW hcnd _
  have hval : ∀ (j : Nat) t v, Try.f5.params[j]? = some t → args[j]? = some v → Value.okWide Try.prog W .any base t v := hval0
  have hW' := hW
  obtain ⟨p, q, hA0, hV, rfl, hfz, hnd⟩ := hW
  have hA : DataW.TrodAll enc Try.prog W 0 (fun _ => true) true Try.f5.params.toList args.toList ds p := hA0
  rw [Try.params5] at hA hval
  obtain ⟨v0, vs0, d0, ds0, p0, q0, hargs, rfl, rfl, h0, r0⟩ := trodAll_cons hA
  obtain ⟨rfl, rfl, rfl⟩ := trodAll_nil r0
  obtain rfl : args = #[v0] := by cases args; simp_all
  obtain ⟨rfl, rfl⟩ := trodVars_none hV
  have k0 := h0
  have lt0 : ∀ x ∈ p0, x.block < W.heap.size := by obtain ⟨m, hm⟩ := k0; exact DataW.trod_lt m _ _ _ hm
  obtain ⟨a0, len0, cap0, rfl⟩ := okWide_slice Try.underlying22 (hval 0 22 v0 rfl rfl)
  obtain ⟨fuel0, hf0⟩ := h0
  obtain ⟨ln0, hk0⟩ := trod_bytes fuel0 _ _ (by simpa [Value.cells] using hf0)
  clear hA0 hval0
  refine (walk ln0 _ W hk0).mono fun e W' ⟨he, bel⟩ => ?_
  subst he
  exact ⟨_, rfl, _, _, _, [], _, [], hW', trodAll_mk1 (shut_bool Try.underlying4 _), (trodAll_cons_mk (Below.trod laidOut (by kernel_rfl) (of_decide_eq_true (by kernel_rfl)) k0 bel lt0) trodAll_mk0), rfl, bel.frame _, fun h => by cases h⟩

theorem over : Rows.fnFewerRootsRow.holds Try.pinned (OpenSpec.ofChange Rows.fnFewerRootsSpec) :=
  OpenClaim.holds_of_wide 5 Try.f5 rfl rfl rfl rfl rfl rfl rfl ⟨rfl, rfl, rfl, rfl, rfl⟩ rfl rfl rfl rfl rfl (by kernel_rfl) Try.func5 (by kernel_rfl)
    (of_decide_eq_true (by kernel_rfl)) (by unfold Func.isWrapper; first | (rw [if_pos (by decide +kernel)]; kernel_rfl) | (rw [if_neg (by decide +kernel)]; exact ⟨rfl, rfl⟩))
    (fun os started H enc _ => lifted os started H enc)

theorem proved : Rows.FnFewerRootsSaid := over
end Go.Proofs.Ytglpehelmlehiaa.lawFewerRoots
