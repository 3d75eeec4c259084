/-
  THE WALK OF FnNoShared.
-/
import Derived.Test.YtjdlfpdljmohiaaMb12
import Derived.Test.YtjdlfpdljmohiaaMb17
import Derived.Test.YtjdlfpdljmohiaaMb21
import Derived.Test.YtjdlfpdljmohiaaMb13
import Derived.Test.YtjdlfpdljmohiaaMb14
import Derived.Test.YtjdlfpdljmohiaaMb16
import Derived.Test.YtjdlfpdljmohiaaMb20
import Derived.Test.YtjdlfpdljmohiaaRows
import Derived.ShutString
import Derived.ChangeOld
namespace Go.Proofs.Ytjdlfpdljmohiaa.lawNoShared
open Go.ChangeShapes Go.WideShapes Go.ChangeAt Go.RowKit
set_option linter.unusedVariables false
set_option linter.unusedSimpArgs false

theorem share_none {G : List Ce} {root : Int} {fl : Nat → Bool} {L : List Int} (hL : L = shareB G root fl) (h0 : L.length = 0) (hv : graphB G 6 = true ∧ isAt G.length root = true) : ∀ k, k < G.length → useAt G (numsN fl G.length) k ≤ 1 := by
  intro k hk
  refine Classical.byContradiction fun h => ?_
  rw [shareB_yes hv] at hL
  have : (k : Int) ∈ L := by rw [hL]; exact (numsTo_mem _ _ _).2 ⟨k, rfl, hk, by unfold manyF; simp; omega⟩
  rw [List.eq_nil_of_length_eq_zero h0] at this
  simp at this

set_option maxRecDepth 100000 in
set_option maxHeartbeats 3200000 in
theorem walk (len : Nat) (v : Value) (w : World) (h : BytesOn w (Lt w.heap.size) len v) : Calls Try.prog 9 #[v] w fun e w' => e = .returned (.bool true) ∧ Below w.heap.size w w' := by
  have H := mkHid h
  obtain ⟨ad, cap, rfl, hl, hm, -⟩ := h
  unfold maxLen at hm
  go_enter Try.func9, Try.ntmps9
  by_cases hlen : (1048576 : Int) < (len : Int)
  · go_wp2_with fail
    go_ret
    exact ⟨rfl, Below.refl _ _⟩
  clear hl hm
  go_wp2_with fail
  refine (drawShared_calls len _ w H.out).mono ?_
  rintro e w1 ⟨G, gv, root, rfl, hi, hlG, hc, hb1⟩
  have HG1 : Hid (CIn w1 G gv) := hc.mono (fun k hk => hk.2) fun _ _ => rfl
  have HB1 := mkHid hb1
  obtain ⟨adg, capg, rfl, hcg1, hcg2, -⟩ := id hc
  unfold maxLen at hcg2
  obtain ⟨fl, hfl⟩ := reach_marks G root.toNat
  have HFL : Hid (∀ a, fl a = true ↔ Reach G root.toNat a) := hfl
  obtain ⟨L, hL⟩ : ∃ L, L = shareB G root fl := ⟨_, rfl⟩
  have hLl : L.length ≤ 250 := by have := shareB_len G root fl; rw [hL]; omega
  have HLL := mkHid hL
  clear hc hb1 hfl hL
  go_wp2_with fail
  refine (implShared_calls G root _ w1 fl HFL.out HG1.out (by omega)).mono ?_
  rintro e w2 ⟨v2, rfl, hv2, hb2⟩
  rw [← HLL.out] at hv2
  have HV2 := mkHid hv2.inn
  have HG2 := mkHid (HG1.out.next hb2)
  have HB2 : Hid (Below w.heap.size w w2) := HB1.out.trans (hb2.mono HB1.out.size)
  obtain ⟨ad2, cap2, rfl, hc2a, hc2b, -⟩ := hv2
  unfold maxLen at hc2b
  clear hb2
  go_wp2_with fail
  refine (specShared_calls G root _ w2 fl HFL.out HG2.out).mono ?_
  rintro e w3 ⟨v3, rfl, hv3, hb3⟩
  rw [← HLL.out] at hv3
  have HV3 := mkHid hv3.inn
  have HV23 := mkHid (HV2.out.next hb3)
  have HG3 := mkHid (HG2.out.next hb3)
  have HB3 : Hid (Below w.heap.size w w3) := HB2.out.trans (hb3.mono HB2.out.size)
  obtain ⟨ad3, cap3, rfl, -, -, -⟩ := hv3
  clear hb3
  go_wp2_with fail
  refine (glInts_same L _ _ w3 HV23.out HV3.out).mono ?_
  rintro e w4 ⟨rfl, hb4⟩
  have HV4 := mkHid (HV23.out.next hb4)
  have HG4 := mkHid (HG3.out.next hb4)
  have HB4 : Hid (Below w.heap.size w w4) := HB3.out.trans (hb4.mono HB3.out.size)
  clear hb4
  by_cases hx0 : ¬ L.length = 0
  · have hx0i : (0 : Int) < (L.length : Int) := by omega
    clear hx0
    go_wp2_with fail
    refine (specShared_calls G root _ w4 fl HFL.out HG4.out).mono ?_
    rintro e w5 ⟨v5, rfl, hv5, hb5⟩
    rw [← HLL.out] at hv5
    have HV5 := mkHid hv5.inn
    have HV45 := mkHid (HV4.out.next hb5)
    have HB5 : Hid (Below w.heap.size w w5) := HB4.out.trans (hb5.mono HB4.out.size)
    obtain ⟨ad5, cap5, rfl, -, -, -⟩ := hv5
    clear hb5
    go_wp2_with fail
    refine (glInts_same L _ _ w5 HV45.out HV5.out).mono ?_
    rintro e w6 ⟨rfl, hb6⟩
    have HB6 : Hid (Below w.heap.size w w6) := HB5.out.trans (hb6.mono HB5.out.size)
    clear hb6
    go_wp2_with fail
    go_ret
    exact ⟨rfl, HB6.out⟩
  have hx1 : L.length = 0 := by omega
  have hx0i : ¬ (0 : Int) < (L.length : Int) := by omega
  have HSN : Hid (graphB G 6 = true ∧ isAt G.length root = true → ∀ k, k < G.length → useAt G (numsN fl G.length) k ≤ 1) := share_none HLL.out hx1
  obtain ⟨t, bq, hbs, hts, htn, hsz, hout⟩ := readOut_two (readB G root 6) (readB_sz G root 6)
  have HSZ : Hid (szT t ≤ 60) := hsz
  have HRI : Hid (∀ (W : World), CIn W G (.slice adg G.length capg) → Calls Try.prog 16 #[.slice adg G.length capg, .int .i64 root, .int .i64 6] W (RdOne t bq W)) := fun W h => (implRead_calls G root 6 _ W h).mono fun e w' h => hout W e w' h
  have HBS := mkHid hbs
  have HTS := mkHid hts
  clear hx0 hx1 hsz hout hbs hts htn
  go_wp2_with fail
  refine (HRI.out w4 HG4.out).mono ?_
  rintro e w2' ⟨v2', rfl, hf2, hi2, hb2⟩
  obtain ⟨ad2', cap2', rfl⟩ := fresh_shape hf2
  obtain ⟨w6, hw6⟩ : ∃ w6 : World, w6 = w2'.alloc (.cells #[.int .i64 t.op, .int .i64 t.num, .slice ad2' t.kids.length cap2'] 30) := ⟨_, rfl⟩
  have HX6 : Hid (BoxT w6 w2'.heap.size t (.slice ad2' t.kids.length cap2')) := by rw [hw6]; exact BoxT.new hf2.inP hi2
  have hbA : Below w2'.heap.size w2' w6 := by rw [hw6]; exact box_below _ _
  have HG6 := mkHid ((HG4.out.next hb2).next hbA)
  have HB6 : Hid (Below w.heap.size w w6) := HB4.out.trans ((hb2.trans (hbA.mono hb2.size)).mono HB4.out.size)
  clear hf2 hi2 hb2 hbA
  cases bq with
  | false =>
    go_wp2_with fail
    rw [← hw6]
    go_ret
    exact ⟨rfl, HB6.out⟩
  | true =>
    have hr : readB G root 6 = some t := by
      have h := HBS.out
      cases hq : readB G root 6 with
      | none => rw [hq] at h; cases h
      | some u => rw [HTS.out u hq]
    have hgv : graphB G 6 = true ∧ isAt G.length root = true := by
      have hr' := hr
      unfold readB at hr'
      split at hr'
      · assumption
      · cases hr'
    have hfl := HFL.out
    have HNS := mkHid (noInd_all hr hfl (HSN.out hgv))
    have hF := fromB_yes (fl := fl) hgv
    obtain ⟨N, hN⟩ : ∃ N, N = numsN fl G.length := ⟨_, rfl⟩
    have HNM : Hid (∀ a ∈ N, a < G.length) := fun a ha => by rw [hN] at ha; exact ((numsN_mem fl _ a).1 ha).1
    have hNl : N.length ≤ 250 := by have := numsN_len fl G.length; rw [hN]; omega
    obtain ⟨F, hFe⟩ : ∃ F, F = fromB G root fl := ⟨_, rfl⟩
    have HFE := mkHid hFe
    rw [hF] at hFe
    unfold numsTo at hFe
    rw [← hN] at hFe HNS
    have HFN : Hid (∀ k (hk : k < F.length) (hk2 : k < N.length), F[k] = (N[k] : Int)) := fun k hk hk2 => by simp [hFe]
    have hFl : F.length = N.length := by rw [hFe]; simp
    have hFl2 : F.length ≤ 250 := by omega
    have HFl := mkHid hFl
    clear hr hgv hfl hF hN hFe hFl
    go_wp2_with fail
    rw [← hw6]
    refine (implFrom_calls G root _ w6 fl HFL.out HG6.out).mono ?_
    rintro e w5 ⟨v5, rfl, hv5, hb5⟩
    rw [← HFE.out] at hv5
    have HF5 := mkHid hv5.inn
    have HX5 := mkHid (HX6.out.next hb5)
    have HG5 := mkHid (HG6.out.next hb5)
    have HB5 : Hid (Below w.heap.size w w5) := HB6.out.trans (hb5.mono HB6.out.size)
    obtain ⟨ad5, cap5, rfl, hc5a, hc5b, -⟩ := hv5
    unfold maxLen at hc5b
    clear hb5
    go_wp2_with fail
    go_loopw [8, 10] (fun nv iv wr => ∃ k : Nat, k ≤ F.length ∧ iv = .int .i64 (k : Int) ∧ nv = .int .i64 ((noInd G (N.take k)).length : Int) ∧ Hid (Below w5.heap.size w5 wr)) (fun _ iv _ => F.length - (intOf iv).toNat)
    case atStart => exact ⟨0, Nat.zero_le _, rfl, by simp [noInd], Below.refl _ _⟩
    case round =>
      obtain ⟨k, hk, rfl, rfl, HB⟩ := hrel
      have hml := noInd_le G (N.take k)
      rw [List.length_take] at hml
      by_cases hkl : k < F.length
      · have hkN : k < N.length := by rw [← HFl.out]; exact hkl
        obtain ⟨bf, of', rfl, f0⟩ := (HF5.out.next HB.out).at k hkl
        rw [HFN.out k hkl hkN] at f0
        have haG := HNM.out _ (List.getElem_mem hkN)
        have HST := noInd_take G N k hkN
        obtain ⟨a, hNa⟩ : ∃ a, a = N[k] := ⟨_, rfl⟩
        rw [← hNa] at f0 haG HST
        obtain ⟨bg, og, r, rfl, g0, -, -, -, -, -⟩ := (HG5.out.next HB.out).at a haG
        have hoa : opAt G a = G[a].op := by unfold opAt; rw [getD_at _ _ _ haG]
        rw [hoa] at HST
        clear hNa hoa
        by_cases ho : G[a].op = 11
        · have hob : (G[a].op != 11) = false := by simpa using ho
          rw [if_neg (by simpa using ho)] at HST
          have HST := mkHid HST
          clear ho
          go_wp2_with fail
          go_roundw
          case rel => exact ⟨k + 1, by omega, by go_num, by rw [HST.out]; rfl, HB.out⟩
          case measure => simp [intOf]; omega
        · have hob : (G[a].op != 11) = true := by simpa using ho
          rw [if_pos ho] at HST
          have HST := mkHid HST
          clear ho
          go_wp2_with fail
          go_roundw
          case rel => exact ⟨k + 1, by omega, by go_num, by rw [HST.out]; go_num, HB.out⟩
          case measure => simp [intOf]; omega
      · have hke : k = F.length := by omega
        have hge : ((noInd G (N.take k)).length : Int) = 1 + (szT t : Int) := by
          have h := HNS.out
          rw [List.take_of_length_le (by rw [← HFl.out]; omega)]
          omega
        have HGE := mkHid hge
        clear hge
        clear hke
        have HXr := mkHid (HX5.out.next HB.out)
        obtain ⟨x0, x1, x2⟩ := HXr.out.cells
        have hSZ2 := HSZ.out
        go_wp2_with fail
        refine (implSize_calls t _ wr HXr.out.2.1 HXr.out.2.2 (by omega)).mono ?_
        rintro e w7 ⟨rfl, hb7⟩
        have HB7 : Hid (Below w5.heap.size w5 w7) := HB.out.trans (hb7.mono HB.out.size)
        clear hb7
        rw [← HGE.out]
        go_wp2_with fail
        go_ret
        exact ⟨by simp, HB5.out.trans (HB7.out.mono HB5.out.size)⟩
end Go.Proofs.Ytjdlfpdljmohiaa.lawNoShared
/-
  FnNoShared: for every argument the program's function answers as the model's, and changes nothing. No condition.
-/
namespace Go.Proofs.Ytjdlfpdljmohiaa.lawNoShared
open Go.ChangeShapes Go.WideShapes Go.ChangeAt Go.RowKit
set_option linter.unusedVariables false
set_option linter.unusedSimpArgs false

theorem own : ownKnob Try.prog.godebug = none := by kernel_rfl
theorem laidOut : laidOutB Try.prog = true := by kernel_rfl

set_option maxRecDepth 100000 in
theorem lifted (os : Os) (started : os.Started) (H : Type) (enc : TypeId × Value → H) :
    ReturnsInHanded {} Try.checked os 9 .any (Rows.fnNoSharedSpec.pre6 enc Try.prog Try.f9 Rows.fnNoSharedRow.domain false) (Rows.fnNoSharedSpec.post enc Try.prog Try.f9 false true false false) := by
  refine returnsInHanded_of_change (C := Try.checked) own started (by kernel_rfl) Try.func9
    (ChangeSpec.witness6 (enc := enc) (C := Try.checked) false ⟨#[], #[.slice none 0 0], []⟩ 8 (by kernel_rfl) (by kernel_rfl) (by kernel_rfl) (by kernel_rfl)) ?_
  intro W base args ds gs before hval0 hW hcnd _
  have hval : ∀ (j : Nat) t v, Try.f9.params[j]? = some t → args[j]? = some v → Value.okWide Try.prog W .any base t v := hval0
  have hW' := hW
  obtain ⟨p, q, hA0, hV, rfl, hfz, hnd⟩ := hW
  have hA : DataW.TrodAll enc Try.prog W 0 (fun _ => true) true Try.f9.params.toList args.toList ds p := hA0
  rw [Try.params9] at hA hval
  obtain ⟨v0, vs0, d0, ds0, p0, q0, hargs, rfl, rfl, h0, r0⟩ := trodAll_cons hA
  obtain ⟨rfl, rfl, rfl⟩ := trodAll_nil r0
  obtain rfl : args = #[v0] := by cases args; simp_all
  obtain ⟨rfl, rfl⟩ := trodVars_none hV
  have k0 := h0
  have lt0 : ∀ x ∈ p0, x.block < W.heap.size := by obtain ⟨m, hm⟩ := k0; exact DataW.trod_lt m _ _ _ hm
  obtain ⟨a0, len0, cap0, rfl⟩ := okWide_slice Try.underlying22 (hval 0 22 v0 rfl rfl)
  obtain ⟨fuel0, hf0⟩ := h0
  obtain ⟨ln0, hk0⟩ := trod_bytes fuel0 _ _ (by simpa [Value.cells] using hf0)
  clear hA0 hval0
  refine (walk ln0 _ W hk0).mono fun e W' ⟨he, bel⟩ => ?_
  subst he
  exact ⟨_, rfl, _, _, _, [], _, [], hW', trodAll_mk1 (shut_bool Try.underlying4 _), (trodAll_cons_mk (Below.trod laidOut (by kernel_rfl) (of_decide_eq_true (by kernel_rfl)) k0 bel lt0) trodAll_mk0), rfl, bel.frame _, fun h => by cases h⟩

theorem over : Rows.fnNoSharedRow.holds Try.pinned (OpenSpec.ofChange Rows.fnNoSharedSpec) :=
  OpenClaim.holds_of_wide 9 Try.f9 rfl rfl rfl rfl rfl rfl rfl ⟨rfl, rfl, rfl, rfl, rfl⟩ rfl rfl rfl rfl rfl (by kernel_rfl) Try.func9 (by kernel_rfl)
    (of_decide_eq_true (by kernel_rfl)) (by unfold Func.isWrapper; first | (rw [if_pos (by decide +kernel)]; kernel_rfl) | (rw [if_neg (by decide +kernel)]; exact ⟨rfl, rfl⟩))
    (fun os started H enc _ => lifted os started H enc)

theorem proved : Rows.FnNoSharedSaid := over
end Go.Proofs.Ytjdlfpdljmohiaa.lawNoShared
