/-
  THE WALK OF FnCopyGraph.
-/
import Derived.Test.YtglpehelmlehiaaMb14
import Derived.Test.YtglpehelmlehiaaMb18
import Derived.Test.YtglpehelmlehiaaMb17
import Derived.Test.YtglpehelmlehiaaMb16
import Derived.Test.YtglpehelmlehiaaMb19
import Derived.Test.YtglpehelmlehiaaMb15
import Derived.Test.YtglpehelmlehiaaRows
import Derived.ShutString
import Derived.ChangeOld
namespace Go.Proofs.Ytglpehelmlehiaa.lawCopyGraph
open Go.ChangeShapes Go.WideShapes Go.ChangeAt Go.RowKit
set_option linter.unusedVariables false
set_option linter.unusedSimpArgs false

set_option maxRecDepth 100000 in
set_option maxHeartbeats 3200000 in
theorem walk (len : Nat) (v : Value) (w : World) (h : BytesOn w (Lt w.heap.size) len v) : Calls Try.prog 10 #[v] w fun e w' => e = .returned (.bool true) ∧ Below w.heap.size w w' := by
  have H := mkHid h
  obtain ⟨ad, cap, rfl, hl, hm, -⟩ := h
  unfold maxLen at hm
  go_enter Try.func10, Try.ntmps10
  by_cases hlen : (1048576 : Int) < (len : Int)
  · go_wp2_with fail
    go_ret
    exact ⟨rfl, Below.refl _ _⟩
  clear hl hm
  go_wp2_with fail
  refine (drawCopyGraph_calls len _ w H.out).mono ?_
  rintro e w1 ⟨G, gv, X, xv, rfl, hlG, hx1, hx4, hxi, hc, hx, hb1⟩
  have HG1 : Hid (CIn w1 G gv) := hc.mono (fun k hk => hk.2) fun _ _ => rfl
  have HX1 : Hid (IIn w1 X xv) := hx.mono (fun k hk => hk.2) fun _ _ => rfl
  have HB1 := mkHid hb1
  obtain ⟨adg, capg, rfl, hcg1, hcg2, -⟩ := id hc
  obtain ⟨adx, capx, rfl, hcx1, hcx2, -⟩ := id hx
  unfold maxLen at hcg2 hcx2
  clear hb1 hxi hc hx
  obtain ⟨K, hK⟩ : ∃ K, K = (copyO G X).1 := ⟨_, rfl⟩
  obtain ⟨Y, hY⟩ : ∃ Y, Y = plI (copyO G X).2 := ⟨_, rfl⟩
  obtain ⟨rb, hrb⟩ : ∃ rb, rb = rootB G X := ⟨_, rfl⟩
  have HK := mkHid hK
  have HY := mkHid hY
  have HRB := mkHid hrb
  have HCI : Hid (∀ W, CIn W G (.slice adg G.length capg) → IIn W X (.slice adx X.length capx) → Calls Try.prog 29 #[.slice adg G.length capg, .slice adx X.length capx] W fun e w' => ∃ gv tv, e = .returned (.tuple #[gv, tv, .bool rb]) ∧ CIn w' K gv ∧ IIn w' Y tv ∧ Below W.heap.size W w') := by
    rw [hK, hY, hrb]
    exact fun W h1 h2 => (implCopyG_calls G X _ _ W h1 h2).mono fun e w' ⟨gv, tv, he, hgi, hb⟩ => ⟨gv, tv, he, hgi.inn.1, hgi.inn.2, hb⟩
  have HCS : Hid (∀ W, CIn W G (.slice adg G.length capg) → IIn W X (.slice adx X.length capx) → Calls Try.prog 39 #[.slice adg G.length capg, .slice adx X.length capx] W fun e w' => ∃ gv tv, e = .returned (.tuple #[gv, tv, .bool rb]) ∧ CIn w' K gv ∧ IIn w' Y tv ∧ Below W.heap.size W w') := by
    rw [hK, hY, hrb]
    exact fun W h1 h2 => specCopyH_calls G X _ _ W h1 h2
  have HSG : Hid (∀ (u v : Value) (W : World), CIn W K u → CIn W K v → Calls Try.prog 33 #[u, v] W fun e w' => e = .returned (.bool true) ∧ Below W.heap.size W w') := fun u v W h1 h2 => by
    have h := implSameG_calls K K u v W h1 h2
    rw [sameG_self] at h
    exact h
  have hbb : (rb != rb) = false := by simp
  have hbe : (rb == rb) = true := by simp
  clear hK hY hrb
  go_wp2_with fail
  refine (HCI.out w1 HG1.out HX1.out).mono ?_
  rintro e w2 ⟨kv, yv, rfl, hk2, hy2, hb2⟩
  have HK2 := mkHid hk2
  have HY2 := mkHid hy2
  have HG2 := mkHid (HG1.out.next hb2)
  have HX2 := mkHid (HX1.out.next hb2)
  have HB2 : Hid (Below w.heap.size w w2) := HB1.out.trans (hb2.mono HB1.out.size)
  obtain ⟨adk, capk, rfl, hck1, hck2, -⟩ := id hk2
  obtain ⟨ady, capy, rfl, hcy1, hcy2, -⟩ := id hy2
  unfold maxLen at hck2 hcy2
  clear hk2 hy2 hb2
  go_wp2_with fail
  refine (HCS.out w2 HG2.out HX2.out).mono ?_
  rintro e w3 ⟨kv3, yv3, rfl, hk3, hy3, hb3⟩
  have HKK3 := mkHid hk3
  have HYY3 := mkHid hy3
  have HK3 := mkHid (HK2.out.next hb3)
  have HY3 := mkHid (HY2.out.next hb3)
  have HG3 := mkHid (HG2.out.next hb3)
  have HX3 := mkHid (HX2.out.next hb3)
  have HB3 : Hid (Below w.heap.size w w3) := HB2.out.trans (hb3.mono HB2.out.size)
  obtain ⟨adk3, capk3, rfl, -, -, -⟩ := hk3
  obtain ⟨ady3, capy3, rfl, -, -, -⟩ := hy3
  clear hb3
  go_wp2_with fail
  refine (HSG.out _ _ w3 HK3.out HKK3.out).mono ?_
  rintro e w4 ⟨rfl, hb4⟩
  have HKK4 := mkHid (HKK3.out.next hb4)
  have HYY4 := mkHid (HYY3.out.next hb4)
  have HK4 := mkHid (HK3.out.next hb4)
  have HY4 := mkHid (HY3.out.next hb4)
  have HG4 := mkHid (HG3.out.next hb4)
  have HX4 := mkHid (HX3.out.next hb4)
  have HB4 : Hid (Below w.heap.size w w4) := HB3.out.trans (hb4.mono HB3.out.size)
  clear hb4
  go_wp2_with fail
  refine (glInts_same Y _ _ w4 HY4.out HYY4.out).mono ?_
  rintro e w5 ⟨rfl, hb5⟩
  have HKK5 := mkHid (HKK4.out.next hb5)
  have HYY5 := mkHid (HYY4.out.next hb5)
  have HK5 := mkHid (HK4.out.next hb5)
  have HY5 := mkHid (HY4.out.next hb5)
  have HG5 := mkHid (HG4.out.next hb5)
  have HX5 := mkHid (HX4.out.next hb5)
  have HB5 : Hid (Below w.heap.size w w5) := HB4.out.trans (hb5.mono HB4.out.size)
  clear hb5
  cases rb with
  | false =>
    go_wp2_with fail
    refine (HSG.out _ _ w5 HK5.out HKK5.out).mono ?_
    rintro e w6 ⟨rfl, hb6⟩
    have HYY6 := mkHid (HYY5.out.next hb6)
    have HY6 := mkHid (HY5.out.next hb6)
    have HB6 : Hid (Below w.heap.size w w6) := HB5.out.trans (hb6.mono HB5.out.size)
    clear hb6
    go_wp2_with fail
    refine (glInts_same Y _ _ w6 HY6.out HYY6.out).mono ?_
    rintro e w7 ⟨rfl, hb7⟩
    have HB7 : Hid (Below w.heap.size w w7) := HB6.out.trans (hb7.mono HB6.out.size)
    clear hb7
    go_wp2_with fail
    go_ret
    exact ⟨rfl, HB7.out⟩
  | true =>
    have hr := HRB.out.symm
    have hyl : Y.length = X.length := by rw [HY.out]; exact tops_len hr
    have HYL := mkHid hyl
    have HSF : Hid (∀ k (hk : k < X.length) (hk2 : k < Y.length), sameO G X[k] K Y[k] = true) := by
      rw [Hid, HK.out, HY.out]
      exact fun k hk hk2 => copy_same hr k hk hk2
    have HTW : Hid (copyO K Y = copyO G X ∧ (orderO K Y).length = K.length) := by
      rw [Hid, HK.out, HY.out]; exact copyO_twice hr
    have HRK : Hid (rootB K Y = true) := by rw [Hid, HK.out, HY.out]; exact root_copy hr
    have HGB : Hid (graphB K 6 = true) := (rootB_iff.1 HRK.out).1
    have hyx : ∀ k, k < X.length → (k : Int) < (Y.length : Int) := fun k hk => by omega
    clear hr hyl
    go_wp2_with fail
    go_loopw [11] (fun iv wr => ∃ k : Nat, k ≤ X.length ∧ iv = .int .i64 (k : Int) ∧ Hid (Below w5.heap.size w5 wr)) (fun iv _ => X.length - (intOf iv).toNat)
    case atStart => exact ⟨0, Nat.zero_le _, rfl, Below.refl _ _⟩
    case round =>
      obtain ⟨k, hk, rfl, HB⟩ := hrel
      have HGr := mkHid (HG5.out.next HB.out)
      have HKr := mkHid (HK5.out.next HB.out)
      by_cases hlt : k < X.length
      · have hky : k < Y.length := by have := HYL.out; omega
        have HSK : Hid (∀ W, CIn W G (.slice adg G.length capg) → CIn W K (.slice adk K.length capk) → Calls Try.prog 40 #[.slice adg G.length capg, .int .i64 X[k], .slice adk K.length capk, .int .i64 Y[k]] W fun e w' => e = .returned (.bool true) ∧ Below W.heap.size W w') := fun W h1 h2 => by
          have h := implSF_calls G X[k] K Y[k] _ _ W h1 h2
          rw [HSF.out k hlt hky] at h
          exact h
        obtain ⟨bx, ox, rfl, c0⟩ := (HX5.out.next HB.out).at k hlt
        obtain ⟨byy, oy, rfl, d0⟩ := (HY5.out.next HB.out).at k hky
        clear hyx
        go_wp2_with fail
        go_region_with ((go_at_call 40; refine (HSK.out _ HGr.out.drew HKr.out.drew).mono ?_; rintro e w6 ⟨rfl, hb6⟩))
        all_goals
          have HB6 : Hid (Below w5.heap.size w5 w6) := HB.out.drew.trans (hb6.mono HB.out.drew.size)
          clear hb6 c0 d0
          go_wp2_with fail
          go_roundw
          case rel => exact ⟨k + 1, by omega, by go_num, HB6.out⟩
          case measure => simp [intOf]; omega
      · clear hyx
        have HYr := mkHid (HY5.out.next HB.out)
        have HBW : Hid (Below w.heap.size w wr) := HB5.out.trans (HB.out.mono HB5.out.size)
        have HCA : Hid (∀ W, CIn W K (.slice adk K.length capk) → IIn W Y (.slice ady Y.length capy) → Calls Try.prog 29 #[.slice adk K.length capk, .slice ady Y.length capy] W fun e w' => ∃ gv tv, e = .returned (.tuple #[gv, tv, .bool true]) ∧ CIn w' K gv ∧ IIn w' Y tv ∧ Below W.heap.size W w') := fun W h1 h2 => by
          have h := implCopyG_calls K Y _ _ W h1 h2
          rw [HTW.out.1, HRK.out] at h
          refine h.mono fun e w' ⟨gv, tv, he, hgi, hb⟩ => ⟨gv, tv, he, ?_, ?_, hb⟩
          · rw [HK.out]; exact hgi.inn.1
          · rw [HY.out]; exact hgi.inn.2
        have HGV : Hid (∀ (W : World) (v : Value), CIn W K v → Calls Try.prog 18 #[v, .int .i64 6] W fun e w' => e = .returned (.bool true) ∧ Below W.heap.size W w') := fun W v h1 => by
          have h := implGraph_calls K 6 v W h1
          rw [HGB.out] at h
          exact h
        have HOR : Hid (∀ W, CIn W K (.slice adk K.length capk) → IIn W Y (.slice ady Y.length capy) → Calls Try.prog 22 #[.slice adk K.length capk, .slice ady Y.length capy] W fun e w' => ∃ ad cap, e = .returned (.slice ad K.length cap) ∧ Below W.heap.size W w') := fun W h1 h2 => by
          refine (implOrderG_calls K Y _ _ W h1 h2).mono fun e w' ⟨v, he, hv, hb⟩ => ?_
          obtain ⟨ad, cap, rfl, -, -, -⟩ := hv
          rw [plI_length, HTW.out.2] at he
          exact ⟨ad, cap, he, hb⟩
        go_wp2_with fail
        refine (HCA.out _ HKr.out HYr.out).mono ?_
        rintro e w6 ⟨k6, y6, rfl, hk6, hy6, hb6⟩
        have HKK6 := mkHid hk6
        have HYY6 := mkHid hy6
        have HK6 := mkHid (HKr.out.next hb6)
        have HY6 := mkHid (HYr.out.next hb6)
        have HB6 : Hid (Below w.heap.size w w6) := HBW.out.trans (hb6.mono HBW.out.size)
        obtain ⟨adk6, capk6, rfl, -, -, -⟩ := hk6
        obtain ⟨ady6, capy6, rfl, -, -, -⟩ := hy6
        clear hb6
        go_wp2_with fail
        refine (HGV.out w6 _ HK6.out).mono ?_
        rintro e w7 ⟨rfl, hb7⟩
        have HKK7 := mkHid (HKK6.out.next hb7)
        have HYY7 := mkHid (HYY6.out.next hb7)
        have HK7 := mkHid (HK6.out.next hb7)
        have HY7 := mkHid (HY6.out.next hb7)
        have HB7 : Hid (Below w.heap.size w w7) := HB6.out.trans (hb7.mono HB6.out.size)
        clear hb7
        go_wp2_with fail
        refine (HSG.out _ _ w7 HKK7.out HK7.out).mono ?_
        rintro e w8 ⟨rfl, hb8⟩
        have HYY8 := mkHid (HYY7.out.next hb8)
        have HK8 := mkHid (HK7.out.next hb8)
        have HY8 := mkHid (HY7.out.next hb8)
        have HB8 : Hid (Below w.heap.size w w8) := HB7.out.trans (hb8.mono HB7.out.size)
        clear hb8
        go_wp2_with fail
        refine (glInts_same Y _ _ w8 HYY8.out HY8.out).mono ?_
        rintro e w9 ⟨rfl, hb9⟩
        have HK9 := mkHid (HK8.out.next hb9)
        have HY9 := mkHid (HY8.out.next hb9)
        have HB9 : Hid (Below w.heap.size w w9) := HB8.out.trans (hb9.mono HB8.out.size)
        clear hb9
        go_wp2_with fail
        refine (HOR.out w9 HK9.out HY9.out).mono ?_
        rintro e w10 ⟨ado, capo, rfl, hb10⟩
        have HB10 : Hid (Below w.heap.size w w10) := HB9.out.trans (hb10.mono HB9.out.size)
        have hkk : ((K.length : Int) == (K.length : Int)) = true := by simp
        clear hb10
        go_wp2_with fail
        go_ret
        exact ⟨rfl, HB10.out⟩
end Go.Proofs.Ytglpehelmlehiaa.lawCopyGraph
/-
  FnCopyGraph: for every argument the program's function answers as the model's, and changes nothing. No condition.
-/
namespace Go.Proofs.Ytglpehelmlehiaa.lawCopyGraph
open Go.ChangeShapes Go.WideShapes Go.ChangeAt Go.RowKit
set_option linter.unusedVariables false
set_option linter.unusedSimpArgs false

theorem own : ownKnob Try.prog.godebug = none := by kernel_rfl
theorem laidOut : laidOutB Try.prog = true := by kernel_rfl

set_option maxRecDepth 100000 in
theorem lifted (os : Os) (started : os.Started) (H : Type) (enc : TypeId × Value → H) :
    ReturnsInHanded {} Try.checked os 10 .any (Rows.fnCopyGraphSpec.pre6 enc Try.prog Try.f10 Rows.fnCopyGraphRow.domain false) (Rows.fnCopyGraphSpec.post enc Try.prog Try.f10 false true false false) := by
  refine returnsInHanded_of_change (C := Try.checked) own started (by kernel_rfl) Try.func10
    (ChangeSpec.witness6 (enc := enc) (C := Try.checked) false ⟨#[], #[.slice none 0 0], []⟩ 8 (by kernel_rfl) (by kernel_rfl) (by kernel_rfl) (by kernel_rfl)) ?_
  intro W base args ds gs before hval0 hW hcnd _
  have hval : ∀ (j : Nat) t v, Try.f10.params[j]? = some t → args[j]? = some v → Value.okWide Try.prog W .any base t v := hval0
  have hW' := hW
  obtain ⟨p, q, hA0, hV, rfl, hfz, hnd⟩ := hW
  have hA : DataW.TrodAll enc Try.prog W 0 (fun _ => true) true Try.f10.params.toList args.toList ds p := hA0
  rw [Try.params10] at hA hval
  obtain ⟨v0, vs0, d0, ds0, p0, q0, hargs, rfl, rfl, h0, r0⟩ := trodAll_cons hA
  obtain ⟨rfl, rfl, rfl⟩ := trodAll_nil r0
  obtain rfl : args = #[v0] := by cases args; simp_all
  obtain ⟨rfl, rfl⟩ := trodVars_none hV
  have k0 := h0
  have lt0 : ∀ x ∈ p0, x.block < W.heap.size := by obtain ⟨m, hm⟩ := k0; exact DataW.trod_lt m _ _ _ hm
  obtain ⟨a0, len0, cap0, rfl⟩ := okWide_slice Try.underlying22 (hval 0 22 v0 rfl rfl)
  obtain ⟨fuel0, hf0⟩ := h0
  obtain ⟨ln0, hk0⟩ := trod_bytes fuel0 _ _ (by simpa [Value.cells] using hf0)
  clear hA0 hval0
  refine (walk ln0 _ W hk0).mono fun e W' ⟨he, bel⟩ => ?_
  subst he
  exact ⟨_, rfl, _, _, _, [], _, [], hW', trodAll_mk1 (shut_bool Try.underlying4 _), (trodAll_cons_mk (Below.trod laidOut (by kernel_rfl) (of_decide_eq_true (by kernel_rfl)) k0 bel lt0) trodAll_mk0), rfl, bel.frame _, fun h => by cases h⟩

theorem over : Rows.fnCopyGraphRow.holds Try.pinned (OpenSpec.ofChange Rows.fnCopyGraphSpec) :=
  OpenClaim.holds_of_wide 10 Try.f10 rfl rfl rfl rfl rfl rfl rfl ⟨rfl, rfl, rfl, rfl, rfl⟩ rfl rfl rfl rfl rfl (by kernel_rfl) Try.func10 (by kernel_rfl)
    (of_decide_eq_true (by kernel_rfl)) (by unfold Func.isWrapper; first | (rw [if_pos (by decide +kernel)]; kernel_rfl) | (rw [if_neg (by decide +kernel)]; exact ⟨rfl, rfl⟩))
    (fun os started H enc _ => lifted os started H enc)

theorem proved : Rows.FnCopyGraphSaid := over
end Go.Proofs.Ytglpehelmlehiaa.lawCopyGraph
