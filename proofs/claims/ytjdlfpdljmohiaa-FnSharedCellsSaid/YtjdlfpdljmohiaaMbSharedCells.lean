/-
  THE WALK OF FnSharedCells.
-/
import Derived.Test.YtjdlfpdljmohiaaMb12
import Derived.Test.YtjdlfpdljmohiaaMb13
import Derived.Test.YtjdlfpdljmohiaaMb14
import Derived.Test.YtjdlfpdljmohiaaMb16
import Derived.Test.YtjdlfpdljmohiaaRows
import Derived.ShutString
import Derived.ChangeOld
namespace Go.Proofs.Ytjdlfpdljmohiaa.lawSharedCells
open Go.ChangeShapes Go.WideShapes Go.ChangeAt Go.RowKit
set_option linter.unusedVariables false
set_option linter.unusedSimpArgs false

theorem cntN_pos {l : List Nat} {q : Nat} (h : 0 < cntN l q) : q ∈ l := by
  unfold cntN at h
  rw [List.countP_pos_iff] at h
  obtain ⟨x, hx, e⟩ := h
  have : x = q := by simpa using e
  rwa [this] at hx
theorem useAt_pos {g : List Ce} {q : Nat} : ∀ {l : List Nat}, 0 < useAt g l q → ∃ a ∈ l, q ∈ kidsN g a
  | [], h => by simp [useAt] at h
  | a :: l, h => by
    have e : useAt g (a :: l) q = cntN (kidsN g a) q + useAt g l q := by simp [useAt]
    rw [e] at h
    by_cases h0 : 0 < cntN (kidsN g a) q
    · exact ⟨a, by simp, cntN_pos h0⟩
    · obtain ⟨b, hb, hk⟩ := useAt_pos (g := g) (q := q) (l := l) (by omega)
      exact ⟨b, by simp [hb], hk⟩
theorem useAt_take (g : List Ce) (N : List Nat) (k q : Nat) (hk : k < N.length) : useAt g (N.take (k + 1)) q = useAt g (N.take k) q + cntN (kidsN g N[k]) q := by
  rw [List.take_succ_eq_append_getElem hk, useAt_append, useAt_one]
theorem cntN_take {l : List Nat} {j x q : Nat} (h : l[j]? = some x) : cntN (l.take (j + 1)) q = cntN (l.take j) q + if q = x then 1 else 0 := by
  rw [take_snoc h, cntN_append, cntN_one]
/-- what is shared -/
theorem share_facts {G : List Ce} {root : Int} {fl : Nat → Bool} (hfl : ∀ a, fl a = true ↔ Reach G root.toNat a) {L : List Int} (hL : L = shareB G root fl) (hne : L.length ≠ 0) :
    graphB G 6 = true ∧ fromB G root fl = (numsN fl G.length).map (fun (a : Nat) => (a : Int)) ∧ ∀ i (hi : i < L.length), ∃ q : Nat, L[i] = (q : Int) ∧ q < G.length ∧ 2 ≤ useAt G (numsN fl G.length) q ∧ (q : Int) ∈ fromB G root fl := by
  by_cases hv : graphB G 6 = true ∧ isAt G.length root = true
  · rw [shareB_yes hv] at hL
    subst hL
    refine ⟨hv.1, fromB_yes hv, fun i hi => ?_⟩
    obtain ⟨q, e, hq, hm⟩ := (numsTo_mem _ _ _).1 (List.getElem_mem hi)
    unfold manyF at hm
    simp only [decide_eq_true_eq] at hm
    obtain ⟨a, ha, hk⟩ := useAt_pos (l := numsN fl G.length) (g := G) (q := q) (by omega)
    have ha2 := (numsN_mem fl _ a).1 ha
    rw [fromB_yes hv]
    exact ⟨q, e, hq, by omega, (numsTo_mem _ _ _).2 ⟨q, rfl, hq, (hfl q).2 (.kid a q ((hfl a).1 ha2.2) hk)⟩⟩
  · exact absurd (by rw [hL, shareB_no hv]; rfl) hne

set_option maxRecDepth 100000 in
set_option maxHeartbeats 3200000 in
theorem walk (len : Nat) (v : Value) (w : World) (h : BytesOn w (Lt w.heap.size) len v) : Calls Try.prog 8 #[v] w fun e w' => e = .returned (.bool true) ∧ Below w.heap.size w w' := by
  have H := mkHid h
  obtain ⟨ad, cap, rfl, hl, hm, -⟩ := h
  unfold maxLen at hm
  go_enter Try.func8, Try.ntmps8
  by_cases hlen : (1048576 : Int) < (len : Int)
  · go_wp2_with fail
    go_ret
    exact ⟨rfl, Below.refl _ _⟩
  clear hl hm
  go_wp2_with fail
  refine (drawShared_calls len _ w H.out).mono ?_
  rintro e w1 ⟨G, gv, root, rfl, hi, hlG, hc, hb1⟩
  have HG1 : Hid (CIn w1 G gv) := hc.mono (fun k hk => hk.2) fun _ _ => rfl
  have HB1 := mkHid hb1
  obtain ⟨adg, capg, rfl, hcg1, hcg2, -⟩ := id hc
  unfold maxLen at hcg2
  obtain ⟨fl, hfl⟩ := reach_marks G root.toNat
  have HFL : Hid (∀ a, fl a = true ↔ Reach G root.toNat a) := hfl
  obtain ⟨L, hL⟩ : ∃ L, L = shareB G root fl := ⟨_, rfl⟩
  have hLl : L.length ≤ 250 := by have := shareB_len G root fl; rw [hL]; omega
  have HSF := mkHid (share_facts hfl hL)
  have HLL := mkHid hL
  obtain ⟨N, hN⟩ : ∃ N, N = numsN fl G.length := ⟨_, rfl⟩
  rw [← hN] at HSF
  have hNl : N.length ≤ 250 := by have := numsN_len fl G.length; rw [hN]; omega
  have HNM : Hid (∀ a ∈ N, a < G.length) := fun a ha => by rw [hN] at ha; exact ((numsN_mem fl _ a).1 ha).1
  obtain ⟨F, hF⟩ : ∃ F, F = fromB G root fl := ⟨_, rfl⟩
  rw [← hF] at HSF
  have HF := mkHid hF
  clear hc hb1 hfl hL hN hF
  go_wp2_with fail
  refine (implShared_calls G root _ w1 fl HFL.out HG1.out (by omega)).mono ?_
  rintro e w2 ⟨v2, rfl, hv2, hb2⟩
  rw [← HLL.out] at hv2
  have HV2 := mkHid hv2.inn
  have HG2 := mkHid (HG1.out.next hb2)
  have HB2 : Hid (Below w.heap.size w w2) := HB1.out.trans (hb2.mono HB1.out.size)
  obtain ⟨ad2, cap2, rfl, hc2a, hc2b, -⟩ := hv2
  unfold maxLen at hc2b
  clear hb2
  go_wp2_with fail
  refine (specShared_calls G root _ w2 fl HFL.out HG2.out).mono ?_
  rintro e w3 ⟨v3, rfl, hv3, hb3⟩
  rw [← HLL.out] at hv3
  have HV3 := mkHid hv3.inn
  have HV23 := mkHid (HV2.out.next hb3)
  have HG3 := mkHid (HG2.out.next hb3)
  have HB3 : Hid (Below w.heap.size w w3) := HB2.out.trans (hb3.mono HB2.out.size)
  obtain ⟨ad3, cap3, rfl, -, -, -⟩ := hv3
  clear hb3
  go_wp2_with fail
  refine (glInts_same L _ _ w3 HV23.out HV3.out).mono ?_
  rintro e w4 ⟨rfl, hb4⟩
  have HV4 := mkHid (HV23.out.next hb4)
  have HG4 := mkHid (HG3.out.next hb4)
  have HB4 : Hid (Below w.heap.size w w4) := HB3.out.trans (hb4.mono HB3.out.size)
  clear hb4
  go_wp2_with fail
  refine (implFrom_calls G root _ w4 fl HFL.out HG4.out).mono ?_
  rintro e w5 ⟨v5, rfl, hv5, hb5⟩
  rw [← HF.out] at hv5
  have HF5 := mkHid hv5.inn
  have HV5 := mkHid (HV4.out.next hb5)
  have HG5 := mkHid (HG4.out.next hb5)
  have HB5 : Hid (Below w.heap.size w w5) := HB4.out.trans (hb5.mono HB4.out.size)
  obtain ⟨ad5, cap5, rfl, hc5a, hc5b, -⟩ := hv5
  unfold maxLen at hc5b
  clear hb5
  go_wp2_with fail
  go_loopw [7] (fun iv wr => ∃ k : Nat, k ≤ L.length ∧ iv = .int .i64 (k : Int) ∧ Hid (Below w5.heap.size w5 wr)) (fun iv _ => L.length - (intOf iv).toNat)
  case atStart => exact ⟨0, Nat.zero_le _, rfl, Below.refl _ _⟩
  case round =>
    obtain ⟨i, hi, rfl, HB⟩ := hrel
    by_cases hlt : i < L.length
    · obtain ⟨hg6, hFN, hq⟩ := HSF.out (by omega)
      obtain ⟨q, hLq, hqG, hq2, hqF⟩ := hq i hlt
      have HG6 := mkHid hg6
      have HQ := mkHid (And.intro hq2 hqF)
      have hFl : F.length = N.length := by rw [hFN]; simp
      have HFN : Hid (∀ k (hk : k < F.length) (hk2 : k < N.length), F[k] = (N[k] : Int)) := fun k hk hk2 => by simp [hFN]
      have hFl2 : F.length ≤ 250 := by omega
      have HFl := mkHid hFl
      have HUL : Hid (∀ k, useAt G (N.take k) q ≤ 750) := fun k => by
        have := useAt_le hg6 (N.take k) q fun a ha => HNM.out a (List.mem_of_mem_take ha)
        rw [List.length_take] at this
        omega
      obtain ⟨bl, off, rfl, c0⟩ := (HV5.out.next HB.out).at i hlt
      rw [hLq] at c0
      have hblt := cell_lt c0
      clear hg6 hFN hq hq2 hqF hFl
      go_wp2_with fail
      obtain ⟨wo, hwo⟩ : ∃ wo, wo = wr := ⟨_, rfl⟩
      subst hwo
      go_loopw [8, 9] (fun nv kv wi => ∃ k : Nat, k ≤ F.length ∧ kv = .int .i64 (k : Int) ∧ nv = .int .i64 (useAt G (N.take k) q : Int) ∧ Hid (Below wo.heap.size wo wi)) (fun _ kv _ => F.length - (intOf kv).toNat)
      case atStart => exact ⟨0, Nat.zero_le _, rfl, by simp [useAt], Below.refl _ _⟩
      case round =>
        obtain ⟨k, hk, rfl, rfl, HBi⟩ := hrel
        have HBW : Hid (Below w5.heap.size w5 wr) := HB.out.trans (HBi.out.mono HB.out.size)
        have hul := HUL.out k
        by_cases hkl : k < F.length
        · have hkN : k < N.length := by rw [← HFl.out]; exact hkl
          obtain ⟨bf, of', rfl, f0⟩ := (HF5.out.next HBW.out).at k hkl
          rw [HFN.out k hkl hkN] at f0
          have haG := HNM.out _ (List.getElem_mem hkN)
          have HST := mkHid (useAt_take G N k q hkN)
          obtain ⟨a, hNa⟩ : ∃ a, a = N[k] := ⟨_, rfl⟩
          rw [← hNa] at f0 haG HST
          obtain ⟨bg, og, r, rfl, -, -, g2, -, -, hkk⟩ := (HG5.out.next HBW.out).at a haG
          have HKK := mkHid hkk
          have hk3 := (kids_graph HG6.out a haG).1
          obtain ⟨adk, capk, rfl, hck1, hck2, -⟩ := id hkk
          unfold maxLen at hck2
          have c0i := (HBi.out.cell (p := ⟨bl, off + i, none⟩) hblt).trans c0
          clear hkk hNa
          go_wp2_with fail
          obtain ⟨wm, hwm⟩ : ∃ wm, wm = wr := ⟨_, rfl⟩
          subst hwm
          go_loopw [8, 11] (fun nv jv wj => ∃ j : Nat, j ≤ G[a].kids.length ∧ jv = .int .i64 (j : Int) ∧ nv = .int .i64 ((useAt G (N.take k) q : Int) + (cntN ((kidsN G a).take j) q : Int)) ∧ Hid (Below wm.heap.size wm wj)) (fun _ jv _ => G[a].kids.length - (intOf jv).toNat)
          case atStart => exact ⟨0, Nat.zero_le _, rfl, by simp [cntN], Below.refl _ _⟩
          case round =>
            obtain ⟨j, hj, rfl, rfl, HBj⟩ := hrel
            have hcl : cntN ((kidsN G a).take j) q ≤ j := by have := cntN_le ((kidsN G a).take j) q; rw [List.length_take] at this; omega
            by_cases hjl : j < G[a].kids.length
            · obtain ⟨x, hx1, hx2, hx3⟩ := kidsN_get HG6.out a haG j hjl
              obtain ⟨bk, ok, rfl, k0⟩ := (HKK.out.next HBj.out).at j hjl
              rw [hx1] at k0
              have HCT := cntN_take (q := q) hx3
              have c0j := (HBj.out.cell (p := ⟨bl, off + i, none⟩) (cell_lt c0i)).trans c0i
              clear hx1 hx3
              by_cases hxq : x = q
              · rw [if_pos hxq.symm] at HCT
                have HCT := mkHid HCT
                subst hxq
                go_wp2_with fail
                go_quiet (fail)
                rename_i nq
                go_wp2_with fail
                go_roundw
                case rel => exact ⟨j + 1, by omega, by go_num, by rw [HCT.out]; go_num, below_drewN HBj.out _⟩
                case measure => simp [intOf]; omega
              · have hxi : ¬ (x : Int) = (q : Int) := by omega
                have hxb : ((x : Int) == (q : Int)) = false := by simpa using hxi
                rw [if_neg (fun e => hxq e.symm)] at HCT
                have HCT := mkHid HCT
                clear hxq
                go_wp2_with fail
                go_quiet (fail)
                rename_i nq
                go_wp2_with fail
                go_roundw
                case rel => exact ⟨j + 1, by omega, by go_num, by rw [HCT.out]; rfl, below_drewN HBj.out _⟩
                case measure => simp [intOf]; omega
            · have hje : j = G[a].kids.length := by omega
              have HTK : Hid (cntN ((kidsN G a).take j) q = cntN (kidsN G a) q) := by
                rw [Hid, List.take_of_length_le]
                rw [kidsN_at a haG, List.length_map]
                omega
              clear hje
              go_wp2_with fail
              go_roundw
              case rel => exact ⟨k + 1, by omega, by go_num, by rw [HST.out, HTK.out]; push_cast; rfl, HBi.out.trans (HBj.out.mono HBi.out.size)⟩
              case measure => simp [intOf]; omega
        · have hke : k = F.length := by omega
          have HUQ : Hid (2 ≤ useAt G (N.take k) q) := by
            rw [Hid, List.take_of_length_le (by rw [← HFl.out]; omega)]
            exact HQ.out.1
          have hu2 : ¬ (useAt G (N.take k) q : Int) < 2 := by have := HUQ.out; omega
          have c0i := (HBi.out.cell (p := ⟨bl, off + i, none⟩) hblt).trans c0
          clear hke
          go_wp2_with fail
          refine (glIn_calls F _ (q : Int) _ (HF5.out.next HBW.out)).mono ?_
          rintro e w7 ⟨rfl, hb7⟩
          rw [show decide ((q : Int) ∈ F) = true from decide_eq_true HQ.out.2]
          have HB7 : Hid (Below w5.heap.size w5 w7) := HBW.out.trans (hb7.mono HBW.out.size)
          clear hb7
          go_wp2_with fail
          go_roundw
          case rel => exact ⟨i + 1, by omega, by go_num, HB7.out⟩
          case measure => simp [intOf]; omega
    · go_wp2_with fail
      go_ret
      exact ⟨rfl, HB5.out.trans (HB.out.mono HB5.out.size)⟩
end Go.Proofs.Ytjdlfpdljmohiaa.lawSharedCells
/-
  FnSharedCells: for every argument the program's function answers as the model's, and changes nothing. No condition.
-/
namespace Go.Proofs.Ytjdlfpdljmohiaa.lawSharedCells
open Go.ChangeShapes Go.WideShapes Go.ChangeAt Go.RowKit
set_option linter.unusedVariables false
set_option linter.unusedSimpArgs false

theorem own : ownKnob Try.prog.godebug = none := by kernel_rfl
theorem laidOut : laidOutB Try.prog = true := by kernel_rfl

set_option maxRecDepth 100000 in
theorem lifted (os : Os) (started : os.Started) (H : Type) (enc : TypeId × Value → H) :
    ReturnsInHanded {} Try.checked os 8 .any (Rows.fnSharedCellsSpec.pre6 enc Try.prog Try.f8 Rows.fnSharedCellsRow.domain false) (Rows.fnSharedCellsSpec.post enc Try.prog Try.f8 false true false false) := by
  refine returnsInHanded_of_change (C := Try.checked) own started (by kernel_rfl) Try.func8
    (ChangeSpec.witness6 (enc := enc) (C := Try.checked) false ⟨#[], #[.slice none 0 0], []⟩ 8 (by kernel_rfl) (by kernel_rfl) (by kernel_rfl) (by kernel_rfl)) ?_
  intro W base args ds gs before hval0 hW hcnd _
  have hval : ∀ (j : Nat) t v, Try.f8.params[j]? = some t → args[j]? = some v → Value.okWide Try.prog W .any base t v := hval0
  have hW' := hW
  obtain ⟨p, q, hA0, hV, rfl, hfz, hnd⟩ := hW
  have hA : DataW.TrodAll enc Try.prog W 0 (fun _ => true) true Try.f8.params.toList args.toList ds p := hA0
  rw [Try.params8] at hA hval
  obtain ⟨v0, vs0, d0, ds0, p0, q0, hargs, rfl, rfl, h0, r0⟩ := trodAll_cons hA
  obtain ⟨rfl, rfl, rfl⟩ := trodAll_nil r0
  obtain rfl : args = #[v0] := by cases args; simp_all
  obtain ⟨rfl, rfl⟩ := trodVars_none hV
  have k0 := h0
  have lt0 : ∀ x ∈ p0, x.block < W.heap.size := by obtain ⟨m, hm⟩ := k0; exact DataW.trod_lt m _ _ _ hm
  obtain ⟨a0, len0, cap0, rfl⟩ := okWide_slice Try.underlying22 (hval 0 22 v0 rfl rfl)
  obtain ⟨fuel0, hf0⟩ := h0
  obtain ⟨ln0, hk0⟩ := trod_bytes fuel0 _ _ (by simpa [Value.cells] using hf0)
  clear hA0 hval0
  refine (walk ln0 _ W hk0).mono fun e W' ⟨he, bel⟩ => ?_
  subst he
  exact ⟨_, rfl, _, _, _, [], _, [], hW', trodAll_mk1 (shut_bool Try.underlying4 _), (trodAll_cons_mk (Below.trod laidOut (by kernel_rfl) (of_decide_eq_true (by kernel_rfl)) k0 bel lt0) trodAll_mk0), rfl, bel.frame _, fun h => by cases h⟩

theorem over : Rows.fnSharedCellsRow.holds Try.pinned (OpenSpec.ofChange Rows.fnSharedCellsSpec) :=
  OpenClaim.holds_of_wide 8 Try.f8 rfl rfl rfl rfl rfl rfl rfl ⟨rfl, rfl, rfl, rfl, rfl⟩ rfl rfl rfl rfl rfl (by kernel_rfl) Try.func8 (by kernel_rfl)
    (of_decide_eq_true (by kernel_rfl)) (by unfold Func.isWrapper; first | (rw [if_pos (by decide +kernel)]; kernel_rfl) | (rw [if_neg (by decide +kernel)]; exact ⟨rfl, rfl⟩))
    (fun os started H enc _ => lifted os started H enc)

theorem proved : Rows.FnSharedCellsSaid := over
end Go.Proofs.Ytjdlfpdljmohiaa.lawSharedCells
