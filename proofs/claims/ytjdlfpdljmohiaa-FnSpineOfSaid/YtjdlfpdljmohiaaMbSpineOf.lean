/-
  THE WALK OF FnSpineOf.
-/
import Derived.Test.YtjdlfpdljmohiaaMb12
import Derived.Test.YtjdlfpdljmohiaaMb13
import Derived.Test.YtjdlfpdljmohiaaMb22
import Derived.Test.YtjdlfpdljmohiaaRows
import Derived.Test.YtjdlfpdljmohiaaMb14
import Derived.ShutString
import Derived.ChangeOld
namespace Go.Proofs.Ytjdlfpdljmohiaa.lawSpineOf
open Go.ChangeShapes Go.WideShapes Go.ChangeAt Go.RowKit
set_option linter.unusedVariables false
set_option linter.unusedSimpArgs false

/-- what a spine is -/
theorem spine_facts {G : List Ce} {root : Int} {f : Nat} {l : List Nat} (h : spV G root = some (f, l)) : f < G.length ∧ opAt G f ≠ 4 ∧ opAt G f ≠ 11 ∧ (∀ k ∈ l, k < G.length ∧ opAt G k = 4) ∧ ∃ k, followB G root = some k ∧ (l = [] → f = k) ∧ ∀ x xs, l = x :: xs → x = k := by
  unfold spV at h
  split at h
  · rename_i hc
    obtain ⟨hg, h0, h1⟩ := hc
    have ha : root.toNat < G.length := by omega
    obtain ⟨r1, r2, r3, r4, -⟩ := spine_ok hg ha h
    refine ⟨r1, r2, r3, r4, ?_⟩
    unfold spine spineN at h
    have hfb : followB G root = followN G G.length root.toNat := by unfold followB; rw [if_pos ⟨hg, h0, h1⟩]
    cases hf : followN G G.length root.toNat with
    | none => rw [hf] at h; simp at h
    | some k =>
      rw [hf] at h
      refine ⟨k, hfb.trans hf, fun hl => ?_, fun x xs hl => ?_⟩
      · simp only at h
        split at h
        · obtain ⟨⟨f', l'⟩, -, h2⟩ := Option.map_eq_some_iff.1 h
          simp only [Prod.mk.injEq] at h2
          rw [hl] at h2
          exact absurd h2.2 (by simp)
        · simp only [Option.some.injEq, Prod.mk.injEq] at h
          exact h.1.symm
      · simp only at h
        split at h
        · obtain ⟨⟨f', l'⟩, -, h2⟩ := Option.map_eq_some_iff.1 h
          simp only [Prod.mk.injEq] at h2
          rw [hl] at h2
          simp only [List.cons.injEq] at h2
          exact h2.2.1.symm
        · simp only [Option.some.injEq, Prod.mk.injEq] at h
          rw [hl] at h
          exact absurd h.2 (by simp)
  · cases h

set_option maxRecDepth 100000 in
set_option maxHeartbeats 3200000 in
theorem walk (len : Nat) (v : Value) (w : World) (h : BytesOn w (Lt w.heap.size) len v) : Calls Try.prog 12 #[v] w fun e w' => e = .returned (.bool true) ∧ Below w.heap.size w w' := by
  have H := mkHid h
  obtain ⟨ad, cap, rfl, hl, hm, -⟩ := h
  unfold maxLen at hm
  go_enter Try.func12, Try.ntmps12
  by_cases hlen : (1048576 : Int) < (len : Int)
  · go_wp2_with fail
    go_ret
    exact ⟨rfl, Below.refl _ _⟩
  clear hl hm
  go_wp2_with fail
  refine (drawSpine_calls len _ w H.out).mono ?_
  rintro e w1 ⟨G, gv, root, rfl, hi, hlG, hc, hb1⟩
  have HG1 : Hid (CIn w1 G gv) := hc.mono (fun k hk => hk.2) fun _ _ => rfl
  have HB1 := mkHid hb1
  obtain ⟨adg, capg, rfl, hcg1, hcg2, -⟩ := id hc
  unfold maxLen at hcg2
  clear hc hb1
  go_wp2_with fail
  refine (implSpine_calls G root _ w1 HG1.out).mono ?_
  rintro e w2 ⟨v2, rfl, hv2, hb2⟩
  have HV2 := mkHid hv2.inn
  have HG2 := mkHid (HG1.out.next hb2)
  have HB2 : Hid (Below w.heap.size w w2) := HB1.out.trans (hb2.mono HB1.out.size)
  obtain ⟨ad2, cap2, rfl, hc2a, hc2b, -⟩ := hv2
  unfold maxLen at hc2b
  clear hb2
  go_wp2_with fail
  refine (specSpine_calls G root _ w2 HG2.out).mono ?_
  rintro e w3 ⟨v3, rfl, hv3, hb3⟩
  have HV3 := mkHid hv3.inn
  have HV23 := mkHid (HV2.out.next hb3)
  have HG3 := mkHid (HG2.out.next hb3)
  have HB3 : Hid (Below w.heap.size w w3) := HB2.out.trans (hb3.mono HB2.out.size)
  obtain ⟨ad3, cap3, rfl, -, -, -⟩ := hv3
  clear hb3
  obtain ⟨L, hL⟩ : ∃ L, L = plI (spL (spV G root)) := ⟨_, rfl⟩
  rw [← hL] at HV3 HV23 hc2a ⊢
  have HL := mkHid hL
  obtain ⟨fv, hfv⟩ : ∃ fv, fv = spF (spV G root) := ⟨_, rfl⟩
  rw [← hfv]
  have HFV := mkHid hfv
  have tb : (fv != fv) = false := by simp
  have tc : (fv == fv) = true := by simp
  clear hL hfv
  cases ho : spV G root with
  | none =>
    simp only [Option.isSome_none]
    clear ho
    go_wp2_with fail
    refine (glInts_same L _ _ w3 HV23.out HV3.out).mono ?_
    rintro e w4 ⟨rfl, hb4⟩
    have HV4 := mkHid (HV23.out.next hb4)
    have HV34 := mkHid (HV3.out.next hb4)
    have HB4 : Hid (Below w.heap.size w w4) := HB3.out.trans (hb4.mono HB3.out.size)
    clear hb4
    go_wp2_with fail
    refine (glInts_same L _ _ w4 HV4.out HV34.out).mono ?_
    rintro e w5 ⟨rfl, hb5⟩
    have HB5 : Hid (Below w.heap.size w w5) := HB4.out.trans (hb5.mono HB4.out.size)
    clear hb5
    go_wp2_with fail
    go_ret
    exact ⟨rfl, HB5.out⟩
  | some p =>
    obtain ⟨f, l⟩ := p
    obtain ⟨hfG, hf4, hf11, hall, k, hfk, hnil, hcons⟩ := spine_facts ho
    have e1 : fv = (f : Int) := by rw [HFV.out, ho]; rfl
    have e2 : L = plI l := by rw [HL.out, ho]; rfl
    simp only [Option.isSome_some]
    have HALL : Hid (∀ i (hi : i < L.length), ∃ a : Nat, L[i] = (a : Int) ∧ ∃ ha : a < G.length, G[a].op = 4) := fun i hi => by
      subst e2
      have hil : i < l.length := by rw [plI_length] at hi; exact hi
      obtain ⟨h1, h2⟩ := hall l[i] (List.getElem_mem hil)
      refine ⟨l[i], by simp [plI], h1, ?_⟩
      rw [opAt_at _ h1] at h2
      exact h2
    have HNIL : Hid (L.length = 0 → f = k) := fun h => hnil (by rw [e2, plI_length] at h; exact List.eq_nil_of_length_eq_zero h)
    have HCONS : Hid (∀ (h : 0 < L.length), L[0] = (k : Int)) := fun h => by
      subst e2
      cases l with
      | nil => simp [plI] at h
      | cons x xs => simp [plI, hcons x xs rfl]
    have ek1 : folV G root = (k : Int) := by unfold folV; rw [hfk]
    have ek2 : folB G root = true := by unfold folB; rw [hfk]; rfl
    have HEK := mkHid (And.intro ek1 ek2)
    rw [opAt_at f hfG] at hf4 hf11
    have hLl : L.length ≤ 9223372036854775807 := by omega
    subst e1
    have tb4 : (G[f].op != 4) = true := by simpa using hf4
    have tb11 : (G[f].op != 11) = true := by simpa using hf11
    clear ho hall hfk hnil hcons ek1 ek2 e2 hf4 hf11 tb tc
    go_wp2_with fail
    refine (glInts_same L _ _ w3 HV23.out HV3.out).mono ?_
    rintro e w4 ⟨rfl, hb4⟩
    have HV4 := mkHid (HV23.out.next hb4)
    have HG4 := mkHid (HG3.out.next hb4)
    have HB4 : Hid (Below w.heap.size w w4) := HB3.out.trans (hb4.mono HB3.out.size)
    clear hb4
    go_wp2_with fail
    go_loopw [11] (fun iv wr => ∃ i : Nat, i ≤ L.length ∧ iv = .int .i64 (i : Int) ∧ Hid (Below w4.heap.size w4 wr)) (fun iv _ => L.length - (intOf iv).toNat)
    case atStart => exact ⟨0, Nat.zero_le _, rfl, Below.refl _ _⟩
    case round =>
      obtain ⟨i, hi, rfl, HB⟩ := hrel
      by_cases hlt : i < L.length
      · obtain ⟨a, hLa, ha, hop⟩ := HALL.out i hlt
        obtain ⟨bl, off, rfl, c0⟩ := (HV4.out.next HB.out).at i hlt
        rw [hLa] at c0
        obtain ⟨bg, og, r, rfl, g0, -, -, -, -, -⟩ := (HG4.out.next HB.out).at a ha
        rw [hop] at g0
        clear hLa hop
        go_wp2_with fail
        go_roundw
        case rel => exact ⟨i + 1, by omega, by go_num, HB.out⟩
        case measure => simp [intOf]; omega
      · have HGr := mkHid (HG4.out.next HB.out)
        have HVr := mkHid (HV4.out.next HB.out)
        have HBr : Hid (Below w.heap.size w wr) := HB4.out.trans (HB.out.mono HB4.out.size)
        go_wp2_with fail
        refine (implFollow_calls G root _ wr HGr.out).mono ?_
        rw [HEK.out.1, HEK.out.2]
        rintro e w5 ⟨rfl, hb5⟩
        have HG5 := mkHid (HGr.out.next hb5)
        have HV5 := mkHid (HVr.out.next hb5)
        have HB5 : Hid (Below w.heap.size w w5) := HBr.out.trans (hb5.mono HBr.out.size)
        obtain ⟨bg, og, r, rfl, g0, -, -, -, -, -⟩ := HG5.out.at f hfG
        clear hb5
        by_cases h0 : L.length = 0
        · have hz : ((L.length : Int) == 0) = true := by simp only [beq_iff_eq]; omega
          obtain rfl := HNIL.out h0
          clear h0 hlt
          go_wp2_with fail
          go_ret
          exact ⟨rfl, HB5.out⟩
        · have hz : ((L.length : Int) == 0) = false := by rw [beq_eq_false_iff_ne]; omega
          have hp : (0 : Int) < (L.length : Int) := by omega
          have hp0 : 0 < L.length := by omega
          obtain ⟨bl, off, rfl, c0⟩ := HV5.out.at 0 hp0
          rw [HCONS.out hp0, Nat.add_zero] at c0
          clear h0 hlt
          go_wp2_with fail
          go_ret
          exact ⟨rfl, HB5.out⟩
end Go.Proofs.Ytjdlfpdljmohiaa.lawSpineOf
/-
  FnSpineOf: for every argument the program's function answers as the model's, and changes nothing. No condition.
-/
namespace Go.Proofs.Ytjdlfpdljmohiaa.lawSpineOf
open Go.ChangeShapes Go.WideShapes Go.ChangeAt Go.RowKit
set_option linter.unusedVariables false
set_option linter.unusedSimpArgs false

theorem own : ownKnob Try.prog.godebug = none := by kernel_rfl
theorem laidOut : laidOutB Try.prog = true := by kernel_rfl

set_option maxRecDepth 100000 in
theorem lifted (os : Os) (started : os.Started) (H : Type) (enc : TypeId × Value → H) :
    ReturnsInHanded {} Try.checked os 12 .any (Rows.fnSpineOfSpec.pre6 enc Try.prog Try.f12 Rows.fnSpineOfRow.domain false) (Rows.fnSpineOfSpec.post enc Try.prog Try.f12 false true false false) := by
  refine returnsInHanded_of_change (C := Try.checked) own started (by kernel_rfl) Try.func12
    (ChangeSpec.witness6 (enc := enc) (C := Try.checked) false ⟨#[], #[.slice none 0 0], []⟩ 8 (by kernel_rfl) (by kernel_rfl) (by kernel_rfl) (by kernel_rfl)) ?_
  intro W base args ds gs before hval0 hW hcnd _
  have hval : ∀ (j : Nat) t v, Try.f12.params[j]? = some t → args[j]? = some v → Value.okWide Try.prog W .any base t v := hval0
  have hW' := hW
  obtain ⟨p, q, hA0, hV, rfl, hfz, hnd⟩ := hW
  have hA : DataW.TrodAll enc Try.prog W 0 (fun _ => true) true Try.f12.params.toList args.toList ds p := hA0
  rw [Try.params12] at hA hval
  obtain ⟨v0, vs0, d0, ds0, p0, q0, hargs, rfl, rfl, h0, r0⟩ := trodAll_cons hA
  obtain ⟨rfl, rfl, rfl⟩ := trodAll_nil r0
  obtain rfl : args = #[v0] := by cases args; simp_all
  obtain ⟨rfl, rfl⟩ := trodVars_none hV
  have k0 := h0
  have lt0 : ∀ x ∈ p0, x.block < W.heap.size := by obtain ⟨m, hm⟩ := k0; exact DataW.trod_lt m _ _ _ hm
  obtain ⟨a0, len0, cap0, rfl⟩ := okWide_slice Try.underlying22 (hval 0 22 v0 rfl rfl)
  obtain ⟨fuel0, hf0⟩ := h0
  obtain ⟨ln0, hk0⟩ := trod_bytes fuel0 _ _ (by simpa [Value.cells] using hf0)
  clear hA0 hval0
  refine (walk ln0 _ W hk0).mono fun e W' ⟨he, bel⟩ => ?_
  subst he
  exact ⟨_, rfl, _, _, _, [], _, [], hW', trodAll_mk1 (shut_bool Try.underlying4 _), (trodAll_cons_mk (Below.trod laidOut (by kernel_rfl) (of_decide_eq_true (by kernel_rfl)) k0 bel lt0) trodAll_mk0), rfl, bel.frame _, fun h => by cases h⟩

theorem over : Rows.fnSpineOfRow.holds Try.pinned (OpenSpec.ofChange Rows.fnSpineOfSpec) :=
  OpenClaim.holds_of_wide 12 Try.f12 rfl rfl rfl rfl rfl rfl rfl ⟨rfl, rfl, rfl, rfl, rfl⟩ rfl rfl rfl rfl rfl (by kernel_rfl) Try.func12 (by kernel_rfl)
    (of_decide_eq_true (by kernel_rfl)) (by unfold Func.isWrapper; first | (rw [if_pos (by decide +kernel)]; kernel_rfl) | (rw [if_neg (by decide +kernel)]; exact ⟨rfl, rfl⟩))
    (fun os started H enc _ => lifted os started H enc)

theorem proved : Rows.FnSpineOfSaid := over
end Go.Proofs.Ytjdlfpdljmohiaa.lawSpineOf
