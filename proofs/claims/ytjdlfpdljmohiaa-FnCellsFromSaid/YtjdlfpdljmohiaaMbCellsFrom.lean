/-
  THE WALK OF FnCellsFrom.
-/
import Derived.Test.YtjdlfpdljmohiaaMb12
import Derived.Test.YtjdlfpdljmohiaaMb13
import Derived.Test.YtjdlfpdljmohiaaMb14
import Derived.Test.YtjdlfpdljmohiaaMb15
import Derived.Test.YtjdlfpdljmohiaaRows
import Derived.ShutString
import Derived.ChangeOld
namespace Go.Proofs.Ytjdlfpdljmohiaa.lawCellsFrom
open Go.ChangeShapes Go.WideShapes Go.ChangeAt Go.RowKit
set_option linter.unusedVariables false
set_option linter.unusedSimpArgs false

/-- what can be reached: each one is a cell, its operands can be reached, they ascend, the root is one of them -/
theorem from_facts {G : List Ce} {root : Int} {fl : Nat → Bool} (hfl : ∀ a, fl a = true ↔ Reach G root.toNat a) {xs : List Int} (hxs : xs = fromB G root fl) (hne : xs.length ≠ 0) :
    root ∈ xs ∧ (∀ k (hk : k < xs.length), ∃ a : Nat, xs[k] = (a : Int) ∧ ∃ ha : a < G.length, ∀ j (hj : j < G[a].kids.length), G[a].kids[j] ∈ xs) ∧ ∀ i (hi : i < xs.length) (hi2 : i + 1 < xs.length), xs[i] < xs[i + 1] := by
  by_cases hv : graphB G 6 = true ∧ isAt G.length root = true
  · rw [fromB_yes hv] at hxs
    subst hxs
    have hr := hv.2
    unfold isAt at hr
    simp only [decide_eq_true_eq] at hr
    refine ⟨(numsTo_mem fl _ _).2 ⟨root.toNat, by omega, by omega, (hfl _).2 .root⟩, fun k hk => ?_, fun i hi hi2 => numsTo_lt fl _ i (i + 1) hi2 (by omega)⟩
    obtain ⟨a, e, ha, hfa⟩ := (numsTo_mem fl _ _).1 (List.getElem_mem hk)
    refine ⟨a, e, ha, fun j hj => ?_⟩
    obtain ⟨q, hq1, hq2, hq3⟩ := kidsN_get hv.1 a ha j hj
    exact (numsTo_mem fl _ _).2 ⟨q, hq1, hq2, (hfl _).2 (.kid a q ((hfl _).1 hfa) (List.mem_of_getElem? hq3))⟩
  · exact absurd (by rw [hxs, fromB_no hv]; rfl) hne

set_option maxRecDepth 100000 in
set_option maxHeartbeats 3200000 in
theorem walk (len : Nat) (v : Value) (w : World) (h : BytesOn w (Lt w.heap.size) len v) : Calls Try.prog 4 #[v] w fun e w' => e = .returned (.bool true) ∧ Below w.heap.size w w' := by
  have H := mkHid h
  obtain ⟨ad, cap, rfl, hl, hm, -⟩ := h
  unfold maxLen at hm
  go_enter Try.func4, Try.ntmps4
  by_cases hlen : (1048576 : Int) < (len : Int)
  · go_wp2_with fail
    go_ret
    exact ⟨rfl, Below.refl _ _⟩
  clear hl hm
  go_wp2_with fail
  refine (drawCells_calls len _ w H.out).mono ?_
  rintro e w1 ⟨G, gv, root, rfl, hi, hlG, hc, hb1⟩
  have HG1 : Hid (CIn w1 G gv) := hc.mono (fun k hk => hk.2) fun _ _ => rfl
  have HB1 := mkHid hb1
  obtain ⟨adg, capg, rfl, hcg1, hcg2, -⟩ := id hc
  unfold maxLen at hcg2
  obtain ⟨fl, hfl⟩ := reach_marks G root.toNat
  have HFL : Hid (∀ a, fl a = true ↔ Reach G root.toNat a) := hfl
  obtain ⟨xs, hxs⟩ : ∃ xs, xs = fromB G root fl := ⟨_, rfl⟩
  have hxl : xs.length ≤ 250 := by have := fromB_len G root fl; rw [hxs]; omega
  have HXS := mkHid hxs
  have HFF := mkHid (from_facts hfl hxs)
  clear hc hb1 hfl hxs
  go_wp2_with fail
  refine (implFrom_calls G root _ w1 fl HFL.out HG1.out).mono ?_
  rintro e w2 ⟨v2, rfl, hv2, hb2⟩
  rw [← HXS.out] at hv2
  have HV2 := mkHid hv2.inn
  have HG2 := mkHid (HG1.out.next hb2)
  have HB2 : Hid (Below w.heap.size w w2) := HB1.out.trans (hb2.mono HB1.out.size)
  obtain ⟨ad2, cap2, rfl, hc2a, hc2b, -⟩ := hv2
  unfold maxLen at hc2b
  clear hb2
  go_wp2_with fail
  refine (specFrom_calls G root _ w2 fl HFL.out HG2.out).mono ?_
  rintro e w3 ⟨v3, rfl, hv3, hb3⟩
  rw [← HXS.out] at hv3
  have HV3 := mkHid hv3.inn
  have HV23 := mkHid (HV2.out.next hb3)
  have HG3 := mkHid (HG2.out.next hb3)
  have HB3 : Hid (Below w.heap.size w w3) := HB2.out.trans (hb3.mono HB2.out.size)
  obtain ⟨ad3, cap3, rfl, -, -, -⟩ := hv3
  clear hb3
  go_wp2_with fail
  refine (glInts_same xs _ _ w3 HV23.out HV3.out).mono ?_
  rintro e w4 ⟨rfl, hb4⟩
  have HV4 := mkHid (HV23.out.next hb4)
  have HG4 := mkHid (HG3.out.next hb4)
  have HB4 : Hid (Below w.heap.size w w4) := HB3.out.trans (hb4.mono HB3.out.size)
  clear hb4
  by_cases hx0 : xs.length = 0
  · have hx0i : ((xs.length : Int) == 0) = true := by simp only [beq_iff_eq]; omega
    clear hx0
    go_wp2_with fail
    refine (specFrom_calls G root _ w4 fl HFL.out HG4.out).mono ?_
    rintro e w5 ⟨v5, rfl, hv5, hb5⟩
    rw [← HXS.out] at hv5
    have HV5 := mkHid hv5.inn
    have HV45 := mkHid (HV4.out.next hb5)
    have HB5 : Hid (Below w.heap.size w w5) := HB4.out.trans (hb5.mono HB4.out.size)
    obtain ⟨ad5, cap5, rfl, -, -, -⟩ := hv5
    clear hb5
    go_wp2_with fail
    refine (glInts_same xs _ _ w5 HV45.out HV5.out).mono ?_
    rintro e w6 ⟨rfl, hb6⟩
    have HB6 : Hid (Below w.heap.size w w6) := HB5.out.trans (hb6.mono HB5.out.size)
    clear hb6
    go_wp2_with fail
    go_ret
    exact ⟨rfl, HB6.out⟩
  have hx0i : ((xs.length : Int) == 0) = false := by rw [beq_eq_false_iff_ne]; omega
  have HF := mkHid (HFF.out hx0)
  go_wp2_with fail
  go_loopw [6] (fun iv wr => ∃ k : Nat, k ≤ xs.length ∧ iv = .int .i64 (k : Int) ∧ Hid (Below w4.heap.size w4 wr)) (fun iv _ => xs.length - (intOf iv).toNat)
  case atStart => exact ⟨0, Nat.zero_le _, rfl, Below.refl _ _⟩
  case round =>
    obtain ⟨k, hk, rfl, HB⟩ := hrel
    have HVr := mkHid (HV4.out.next HB.out)
    by_cases hlt : k < xs.length
    · obtain ⟨a, hxa, ha, hkid⟩ := HF.out.2.1 k hlt
      have HKID := mkHid hkid
      obtain ⟨bl, off, rfl, c0⟩ := HVr.out.at k hlt
      rw [hxa] at c0
      have HXA := mkHid hxa
      obtain ⟨bg, og, r, rfl, -, -, g2, -, -, hkk⟩ := (HG4.out.next HB.out).at a ha
      have HKK := mkHid hkk
      obtain ⟨adk, capk, rfl, hck1, hck2, -⟩ := id hkk
      unfold maxLen at hck2
      clear hxa hkid hkk
      go_wp2_with fail
      obtain ⟨wo, hwo⟩ : ∃ wo, wo = wr := ⟨_, rfl⟩
      subst hwo
      go_loopw [8] (fun jv wi => ∃ j : Nat, j ≤ G[a].kids.length ∧ jv = .int .i64 (j : Int) ∧ Hid (Below wo.heap.size wo wi)) (fun jv _ => G[a].kids.length - (intOf jv).toNat)
      case atStart => exact ⟨0, Nat.zero_le _, rfl, Below.refl _ _⟩
      case round =>
        obtain ⟨j, hj, rfl, HBi⟩ := hrel
        by_cases hjl : j < G[a].kids.length
        · have hin := HKID.out j hjl
          obtain ⟨bk, ok, rfl, k0⟩ := (HKK.out.next HBi.out).at j hjl
          go_wp2_with fail
          refine (glIn_calls xs _ G[a].kids[j] _ (HVr.out.next HBi.out)).mono ?_
          rintro e w7 ⟨rfl, hb7⟩
          rw [show decide (G[a].kids[j] ∈ xs) = true from decide_eq_true hin]
          have HB7 : Hid (Below wo.heap.size wo w7) := HBi.out.trans (hb7.mono HBi.out.size)
          clear hb7 hin k0
          go_wp2_with fail
          go_roundw
          case rel => exact ⟨j + 1, by omega, by go_num, HB7.out⟩
          case measure => simp [intOf]; omega
        · have hje : ¬ j < G[a].kids.length := hjl
          have HBW : Hid (Below w4.heap.size w4 wr) := HB.out.trans (HBi.out.mono HB.out.size)
          by_cases hk0 : k = 0
          · subst hk0
            go_wp2_with fail
            go_quiet (fail)
            rename_i nq
            go_wp2_with fail
            go_roundw
            case rel => exact ⟨1, by omega, by go_num, below_drewN HBW.out _⟩
            case measure => simp [intOf]; omega
          · obtain ⟨m, rfl⟩ : ∃ m, k = m + 1 := ⟨k - 1, by omega⟩
            have c1 := (HBi.out.cell (p := ⟨bl, off + (m + 1), none⟩) (cell_lt c0)).trans c0
            obtain ⟨bl', off', e, cm⟩ := HVr.out.at m (by omega)
            cases e
            have c2 := (HBi.out.cell (p := ⟨bl, off + m, none⟩) (cell_lt cm)).trans cm
            have hord := HF.out.2.2 m (by omega) hlt
            rw [HXA.out] at hord
            have hge : ¬ xs[m] ≥ (a : Int) := by omega
            have hmi : IntKind.i64.wrap (((m + 1 : Nat) : Int) - 1) = (m : Int) := by rw [show (((m + 1 : Nat) : Int) - 1) = (m : Int) by omega]; exact IntWalk.i64_in _ (by omega)
            have hm0 : (0 : Int) < ((m + 1 : Nat) : Int) := by omega
            go_wp2_with fail
            go_quiet (fail)
            rename_i nq
            go_wp2_with fail
            go_roundw
            case rel => exact ⟨m + 1 + 1, by omega, by go_num, below_drewN HBW.out _⟩
            case measure => simp [intOf]; omega
    · go_wp2_with fail
      refine (glIn_calls xs _ root _ HVr.out).mono ?_
      rintro e w7 ⟨rfl, hb7⟩
      rw [show decide (root ∈ xs) = true from decide_eq_true HF.out.1]
      have HB7 : Hid (Below w.heap.size w w7) := HB4.out.trans ((HB.out.trans (hb7.mono HB.out.size)).mono HB4.out.size)
      clear hb7
      go_wp2_with fail
      go_ret
      exact ⟨rfl, HB7.out⟩
end Go.Proofs.Ytjdlfpdljmohiaa.lawCellsFrom
/-
  FnCellsFrom: for every argument the program's function answers as the model's, and changes nothing. No condition.
-/
namespace Go.Proofs.Ytjdlfpdljmohiaa.lawCellsFrom
open Go.ChangeShapes Go.WideShapes Go.ChangeAt Go.RowKit
set_option linter.unusedVariables false
set_option linter.unusedSimpArgs false

theorem own : ownKnob Try.prog.godebug = none := by kernel_rfl
theorem laidOut : laidOutB Try.prog = true := by kernel_rfl

set_option maxRecDepth 100000 in
theorem lifted (os : Os) (started : os.Started) (H : Type) (enc : TypeId × Value → H) :
    ReturnsInHanded {} Try.checked os 4 .any (Rows.fnCellsFromSpec.pre6 enc Try.prog Try.f4 Rows.fnCellsFromRow.domain false) (Rows.fnCellsFromSpec.post enc Try.prog Try.f4 false true false false) := by
  refine returnsInHanded_of_change (C := Try.checked) own started (by kernel_rfl) Try.func4
    (ChangeSpec.witness6 (enc := enc) (C := Try.checked) false ⟨#[], #[.slice none 0 0], []⟩ 8 (by kernel_rfl) (by kernel_rfl) (by kernel_rfl) (by kernel_rfl)) ?_
  intro W base args ds gs before hval0 hW hcnd _
  have hval : ∀ (j : Nat) t v, Try.f4.params[j]? = some t → args[j]? = some v → Value.okWide Try.prog W .any base t v := hval0
  have hW' := hW
  obtain ⟨p, q, hA0, hV, rfl, hfz, hnd⟩ := hW
  have hA : DataW.TrodAll enc Try.prog W 0 (fun _ => true) true Try.f4.params.toList args.toList ds p := hA0
  rw [Try.params4] at hA hval
  obtain ⟨v0, vs0, d0, ds0, p0, q0, hargs, rfl, rfl, h0, r0⟩ := trodAll_cons hA
  obtain ⟨rfl, rfl, rfl⟩ := trodAll_nil r0
  obtain rfl : args = #[v0] := by cases args; simp_all
  obtain ⟨rfl, rfl⟩ := trodVars_none hV
  have k0 := h0
  have lt0 : ∀ x ∈ p0, x.block < W.heap.size := by obtain ⟨m, hm⟩ := k0; exact DataW.trod_lt m _ _ _ hm
  obtain ⟨a0, len0, cap0, rfl⟩ := okWide_slice Try.underlying22 (hval 0 22 v0 rfl rfl)
  obtain ⟨fuel0, hf0⟩ := h0
  obtain ⟨ln0, hk0⟩ := trod_bytes fuel0 _ _ (by simpa [Value.cells] using hf0)
  clear hA0 hval0
  refine (walk ln0 _ W hk0).mono fun e W' ⟨he, bel⟩ => ?_
  subst he
  exact ⟨_, rfl, _, _, _, [], _, [], hW', trodAll_mk1 (shut_bool Try.underlying4 _), (trodAll_cons_mk (Below.trod laidOut (by kernel_rfl) (of_decide_eq_true (by kernel_rfl)) k0 bel lt0) trodAll_mk0), rfl, bel.frame _, fun h => by cases h⟩

theorem over : Rows.fnCellsFromRow.holds Try.pinned (OpenSpec.ofChange Rows.fnCellsFromSpec) :=
  OpenClaim.holds_of_wide 4 Try.f4 rfl rfl rfl rfl rfl rfl rfl ⟨rfl, rfl, rfl, rfl, rfl⟩ rfl rfl rfl rfl rfl (by kernel_rfl) Try.func4 (by kernel_rfl)
    (of_decide_eq_true (by kernel_rfl)) (by unfold Func.isWrapper; first | (rw [if_pos (by decide +kernel)]; kernel_rfl) | (rw [if_neg (by decide +kernel)]; exact ⟨rfl, rfl⟩))
    (fun os started H enc _ => lifted os started H enc)

theorem proved : Rows.FnCellsFromSaid := over
end Go.Proofs.Ytjdlfpdljmohiaa.lawCellsFrom
