/-
  THE WALK OF FnCollectTwice.
-/
import Derived.Test.YtglpehelmlehiaaMb14
import Derived.Test.YtglpehelmlehiaaMb20
import Derived.Test.YtglpehelmlehiaaMb17
import Derived.Test.YtglpehelmlehiaaMb18
import Derived.Test.YtglpehelmlehiaaRows
import Derived.Test.YtglpehelmlehiaaMb16
import Derived.ShutString
import Derived.ChangeOld
namespace Go.Proofs.Ytglpehelmlehiaa.lawCollectTwice
open Go.ChangeShapes Go.WideShapes Go.ChangeAt Go.RowKit
set_option linter.unusedVariables false
set_option linter.unusedSimpArgs false

set_option maxRecDepth 100000 in
set_option maxHeartbeats 3200000 in
theorem walk (len : Nat) (v : Value) (w : World) (h : BytesOn w (Lt w.heap.size) len v) : Calls Try.prog 7 #[v] w fun e w' => e = .returned (.bool true) ∧ Below w.heap.size w w' := by
  have H := mkHid h
  obtain ⟨ad, cap, rfl, hl, hm, -⟩ := h
  unfold maxLen at hm
  go_enter Try.func7, Try.ntmps7
  by_cases hlen : (1048576 : Int) < (len : Int)
  · go_wp2_with fail
    go_ret
    exact ⟨rfl, Below.refl _ _⟩
  clear hl hm
  go_wp2_with fail
  refine (drawCollectGraph_calls len _ w H.out).mono ?_
  rintro e w1 ⟨G, gv, X, xv, rfl, hlG, hx1, hx4, hxi, hc, hx, hb1⟩
  have HG1 : Hid (CIn w1 G gv) := hc.mono (fun k hk => hk.2) fun _ _ => rfl
  have HX1 : Hid (IIn w1 X xv) := hx.mono (fun k hk => hk.2) fun _ _ => rfl
  have HB1 := mkHid hb1
  obtain ⟨adg, capg, rfl, hcg1, hcg2, -⟩ := id hc
  obtain ⟨adx, capx, rfl, hcx1, hcx2, -⟩ := id hx
  unfold maxLen at hcg2 hcx2
  clear hb1 hxi hc hx
  obtain ⟨K, hK⟩ : ∃ K, K = (collO G X).1 := ⟨_, rfl⟩
  obtain ⟨Y, hY⟩ : ∃ Y, Y = plI (collO G X).2 := ⟨_, rfl⟩
  obtain ⟨rb, hrb⟩ : ∃ rb, rb = rootB G X := ⟨_, rfl⟩
  have HK := mkHid hK
  have HY := mkHid hY
  have HRB := mkHid hrb
  have HCI : Hid (∀ W, CIn W G (.slice adg G.length capg) → IIn W X (.slice adx X.length capx) → Calls Try.prog 31 #[.slice adg G.length capg, .slice adx X.length capx] W fun e w' => ∃ gv tv, e = .returned (.tuple #[gv, tv, .bool rb]) ∧ CIn w' K gv ∧ IIn w' Y tv ∧ Below W.heap.size W w') := by
    rw [hK, hY, hrb]
    exact fun W h1 h2 => (implColl_calls G X _ _ W h1 h2).mono fun e w' ⟨gv, tv, he, hgi, hb⟩ => ⟨gv, tv, he, hgi.inn.1, hgi.inn.2, hb⟩
  have HCS : Hid (∀ W, CIn W G (.slice adg G.length capg) → IIn W X (.slice adx X.length capx) → Calls Try.prog 32 #[.slice adg G.length capg, .slice adx X.length capx] W fun e w' => ∃ gv tv, e = .returned (.tuple #[gv, tv, .bool rb]) ∧ CIn w' K gv ∧ IIn w' Y tv ∧ Below W.heap.size W w') := by
    rw [hK, hY, hrb]
    exact fun W h1 h2 => specColl_calls G X _ _ W h1 h2
  have HSG : Hid (∀ (u v : Value) (W : World), CIn W K u → CIn W K v → Calls Try.prog 33 #[u, v] W fun e w' => e = .returned (.bool true) ∧ Below W.heap.size W w') := fun u v W h1 h2 => by
    have h := implSameG_calls K K u v W h1 h2
    rw [sameG_self] at h
    exact h
  have hbb : (rb != rb) = false := by simp
  have hbe : (rb == rb) = true := by simp
  clear hK hY hrb
  go_wp2_with fail
  refine (HCI.out w1 HG1.out HX1.out).mono ?_
  rintro e w2 ⟨kv, yv, rfl, hk2, hy2, hb2⟩
  have HK2 := mkHid hk2
  have HY2 := mkHid hy2
  have HG2 := mkHid (HG1.out.next hb2)
  have HX2 := mkHid (HX1.out.next hb2)
  have HB2 : Hid (Below w.heap.size w w2) := HB1.out.trans (hb2.mono HB1.out.size)
  obtain ⟨adk, capk, rfl, hck1, hck2, -⟩ := id hk2
  obtain ⟨ady, capy, rfl, hcy1, hcy2, -⟩ := id hy2
  unfold maxLen at hck2 hcy2
  clear hk2 hy2 hb2
  go_wp2_with fail
  refine (HCS.out w2 HG2.out HX2.out).mono ?_
  rintro e w3 ⟨kv3, yv3, rfl, hk3, hy3, hb3⟩
  have HKK3 := mkHid hk3
  have HYY3 := mkHid hy3
  have HK3 := mkHid (HK2.out.next hb3)
  have HY3 := mkHid (HY2.out.next hb3)
  have HG3 := mkHid (HG2.out.next hb3)
  have HX3 := mkHid (HX2.out.next hb3)
  have HB3 : Hid (Below w.heap.size w w3) := HB2.out.trans (hb3.mono HB2.out.size)
  obtain ⟨adk3, capk3, rfl, -, -, -⟩ := hk3
  obtain ⟨ady3, capy3, rfl, -, -, -⟩ := hy3
  clear hb3
  go_wp2_with fail
  refine (HSG.out _ _ w3 HK3.out HKK3.out).mono ?_
  rintro e w4 ⟨rfl, hb4⟩
  have HKK4 := mkHid (HKK3.out.next hb4)
  have HYY4 := mkHid (HYY3.out.next hb4)
  have HK4 := mkHid (HK3.out.next hb4)
  have HY4 := mkHid (HY3.out.next hb4)
  have HG4 := mkHid (HG3.out.next hb4)
  have HX4 := mkHid (HX3.out.next hb4)
  have HB4 : Hid (Below w.heap.size w w4) := HB3.out.trans (hb4.mono HB3.out.size)
  clear hb4
  go_wp2_with fail
  refine (glInts_same Y _ _ w4 HY4.out HYY4.out).mono ?_
  rintro e w5 ⟨rfl, hb5⟩
  have HKK5 := mkHid (HKK4.out.next hb5)
  have HYY5 := mkHid (HYY4.out.next hb5)
  have HK5 := mkHid (HK4.out.next hb5)
  have HY5 := mkHid (HY4.out.next hb5)
  have HG5 := mkHid (HG4.out.next hb5)
  have HX5 := mkHid (HX4.out.next hb5)
  have HB5 : Hid (Below w.heap.size w w5) := HB4.out.trans (hb5.mono HB4.out.size)
  clear hb5
  cases rb with
  | false =>
    go_wp2_with fail
    refine (HSG.out _ _ w5 HK5.out HKK5.out).mono ?_
    rintro e w6 ⟨rfl, hb6⟩
    have HYY6 := mkHid (HYY5.out.next hb6)
    have HY6 := mkHid (HY5.out.next hb6)
    have HB6 : Hid (Below w.heap.size w w6) := HB5.out.trans (hb6.mono HB5.out.size)
    clear hb6
    go_wp2_with fail
    refine (glInts_same Y _ _ w6 HY6.out HYY6.out).mono ?_
    rintro e w7 ⟨rfl, hb7⟩
    have HB7 : Hid (Below w.heap.size w w7) := HB6.out.trans (hb7.mono HB6.out.size)
    clear hb7
    go_wp2_with fail
    go_ret
    exact ⟨rfl, HB7.out⟩
  | true =>
    have hr := HRB.out.symm
    have HTW : Hid (collO K Y = collO G X) := by
      rw [Hid, HK.out, HY.out]; exact collO_twice hr
    have HRK : Hid (rootB K Y = true) := by rw [Hid, HK.out, HY.out]; exact root_coll hr
    have HCA : Hid (∀ W, CIn W K (.slice adk K.length capk) → IIn W Y (.slice ady Y.length capy) → Calls Try.prog 31 #[.slice adk K.length capk, .slice ady Y.length capy] W fun e w' => ∃ gv tv, e = .returned (.tuple #[gv, tv, .bool true]) ∧ CIn w' K gv ∧ IIn w' Y tv ∧ Below W.heap.size W w') := fun W h1 h2 => by
      have h := implColl_calls K Y _ _ W h1 h2
      rw [HTW.out, HRK.out] at h
      refine h.mono fun e w' ⟨gv, tv, he, hgi, hb⟩ => ⟨gv, tv, he, ?_, ?_, hb⟩
      · rw [HK.out]; exact hgi.inn.1
      · rw [HY.out]; exact hgi.inn.2
    clear hr
    go_wp2_with fail
    refine (HCA.out _ HK5.out HY5.out).mono ?_
    rintro e w6 ⟨k6, y6, rfl, hk6, hy6, hb6⟩
    have HKK6 := mkHid hk6
    have HYY6 := mkHid hy6
    have HK6 := mkHid (HK5.out.next hb6)
    have HY6 := mkHid (HY5.out.next hb6)
    have HB6 : Hid (Below w.heap.size w w6) := HB5.out.trans (hb6.mono HB5.out.size)
    obtain ⟨adk6, capk6, rfl, -, -, -⟩ := hk6
    obtain ⟨ady6, capy6, rfl, -, -, -⟩ := hy6
    clear hb6
    go_wp2_with fail
    refine (HSG.out _ _ w6 HKK6.out HK6.out).mono ?_
    rintro e w7 ⟨rfl, hb7⟩
    have HYY7 := mkHid (HYY6.out.next hb7)
    have HY7 := mkHid (HY6.out.next hb7)
    have HB7 : Hid (Below w.heap.size w w7) := HB6.out.trans (hb7.mono HB6.out.size)
    clear hb7
    go_wp2_with fail
    refine (glInts_same Y _ _ w7 HYY7.out HY7.out).mono ?_
    rintro e w8 ⟨rfl, hb8⟩
    have HB8 : Hid (Below w.heap.size w w8) := HB7.out.trans (hb8.mono HB7.out.size)
    clear hb8
    go_wp2_with fail
    go_ret
    exact ⟨rfl, HB8.out⟩
end Go.Proofs.Ytglpehelmlehiaa.lawCollectTwice
/-
  FnCollectTwice: for every argument the program's function answers as the model's, and changes nothing. No condition.
-/
namespace Go.Proofs.Ytglpehelmlehiaa.lawCollectTwice
open Go.ChangeShapes Go.WideShapes Go.ChangeAt Go.RowKit
set_option linter.unusedVariables false
set_option linter.unusedSimpArgs false

theorem own : ownKnob Try.prog.godebug = none := by kernel_rfl
theorem laidOut : laidOutB Try.prog = true := by kernel_rfl

set_option maxRecDepth 100000 in
theorem lifted (os : Os) (started : os.Started) (H : Type) (enc : TypeId × Value → H) :
    ReturnsInHanded {} Try.checked os 7 .any (Rows.fnCollectTwiceSpec.pre6 enc Try.prog Try.f7 Rows.fnCollectTwiceRow.domain false) (Rows.fnCollectTwiceSpec.post enc Try.prog Try.f7 false true false false) := by
  refine returnsInHanded_of_change (C := Try.checked) own started (by kernel_rfl) Try.func7
    (ChangeSpec.witness6 (enc := enc) (C := Try.checked) false ⟨#[], #[.slice none 0 0], []⟩ 8 (by kernel_rfl) (by kernel_rfl) (by kernel_rfl) (by kernel_rfl)) ?_
  intro W base args ds gs before hval0 hW hcnd _
  have hval : ∀ (j : Nat) t v, Try.f7.params[j]? = some t → args[j]? = some v → Value.okWide Try.prog W .any base t v := hval0
  have hW' := hW
  obtain ⟨p, q, hA0, hV, rfl, hfz, hnd⟩ := hW
  have hA : DataW.TrodAll enc Try.prog W 0 (fun _ => true) true Try.f7.params.toList args.toList ds p := hA0
  rw [Try.params7] at hA hval
  obtain ⟨v0, vs0, d0, ds0, p0, q0, hargs, rfl, rfl, h0, r0⟩ := trodAll_cons hA
  obtain ⟨rfl, rfl, rfl⟩ := trodAll_nil r0
  obtain rfl : args = #[v0] := by cases args; simp_all
  obtain ⟨rfl, rfl⟩ := trodVars_none hV
  have k0 := h0
  have lt0 : ∀ x ∈ p0, x.block < W.heap.size := by obtain ⟨m, hm⟩ := k0; exact DataW.trod_lt m _ _ _ hm
  obtain ⟨a0, len0, cap0, rfl⟩ := okWide_slice Try.underlying22 (hval 0 22 v0 rfl rfl)
  obtain ⟨fuel0, hf0⟩ := h0
  obtain ⟨ln0, hk0⟩ := trod_bytes fuel0 _ _ (by simpa [Value.cells] using hf0)
  clear hA0 hval0
  refine (walk ln0 _ W hk0).mono fun e W' ⟨he, bel⟩ => ?_
  subst he
  exact ⟨_, rfl, _, _, _, [], _, [], hW', trodAll_mk1 (shut_bool Try.underlying4 _), (trodAll_cons_mk (Below.trod laidOut (by kernel_rfl) (of_decide_eq_true (by kernel_rfl)) k0 bel lt0) trodAll_mk0), rfl, bel.frame _, fun h => by cases h⟩

theorem over : Rows.fnCollectTwiceRow.holds Try.pinned (OpenSpec.ofChange Rows.fnCollectTwiceSpec) :=
  OpenClaim.holds_of_wide 7 Try.f7 rfl rfl rfl rfl rfl rfl rfl ⟨rfl, rfl, rfl, rfl, rfl⟩ rfl rfl rfl rfl rfl (by kernel_rfl) Try.func7 (by kernel_rfl)
    (of_decide_eq_true (by kernel_rfl)) (by unfold Func.isWrapper; first | (rw [if_pos (by decide +kernel)]; kernel_rfl) | (rw [if_neg (by decide +kernel)]; exact ⟨rfl, rfl⟩))
    (fun os started H enc _ => lifted os started H enc)

theorem proved : Rows.FnCollectTwiceSaid := over
end Go.Proofs.Ytglpehelmlehiaa.lawCollectTwice
