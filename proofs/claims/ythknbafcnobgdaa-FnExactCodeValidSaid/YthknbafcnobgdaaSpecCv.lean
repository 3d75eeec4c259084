/-
  THE MODEL's CodeValid AND DecompileCode.
-/
import Derived.Test.YthknbafcnobgdaaSpecL8
import Derived.Test.YthknbafcnobgdaaCopy
namespace Go.Proofs.Ythknbafcnobgdaa
set_option linter.unusedVariables false
set_option linter.unusedSimpArgs false
open Go.RowKit

theorem validB_isB (t : Tr) (vars defs : Int) (h : 0 ≤ vars ∧ vars ≤ 4 ∧ 0 ≤ defs ∧ defs ≤ 6) : validB t vars defs = isB t vars defs := by
  unfold validB isB
  rw [decide_eq_true h, Bool.true_and]
  congr 1
  exact decide_eq_decide.2 (by omega)
theorem codeB_bounds {cs : List Ins} {vars defs : Int} (h : ¬ (0 ≤ vars ∧ vars ≤ 4 ∧ 0 ≤ defs ∧ defs ≤ 6 ∧ cs.length ≤ 60)) : codeB cs vars defs = false := by
  by_cases hl : cs.length ≤ 60
  · cases e : oneC cs with
    | none => exact codeB_none e
    | some t =>
      rw [codeB_one e hl]
      unfold validB
      rw [decide_eq_false (fun hh => h ⟨hh.1, hh.2.1, hh.2.2.1, hh.2.2.2, hl⟩), Bool.false_and]
  · exact codeB_long (by omega)

set_option maxRecDepth 100000 in
set_option maxHeartbeats 1600000 in
theorem specCodeV_calls (cs : List Ins) (vars defs : Int) (c : Value) (w : World) (hk : InsIn w cs c) (hl : cs.length ≤ 1048576) (hw : ∀ c ∈ cs, I64 c.op ∧ I64 c.num) : Calls Try.prog 10 #[c, .int .i64 vars, .int .i64 defs] w fun e w' => e = .returned (.bool (codeB cs vars defs)) ∧ Below w.heap.size w w' := by
  have HK : Hid (InsIn w cs c) := hk
  have HW := mkHid hw
  obtain ⟨ad, cap, rfl, -, -, -⟩ := hk
  clear hw
  by_cases hbd : 0 ≤ vars ∧ vars ≤ 4 ∧ 0 ≤ defs ∧ defs ≤ 6 ∧ cs.length ≤ 60
  · have HBD := mkHid hbd
    obtain ⟨b1, b2, b3, b4, b5⟩ := hbd
    have n1 : ¬ (vars < 0) := by omega
    have n2 : ¬ (4 < vars) := by omega
    have n3 : ¬ (defs < 0) := by omega
    have n4 : ¬ (6 < defs) := by omega
    have n5 : ¬ ((60 : Int) < (cs.length : Int)) := by omega
    clear b1 b2 b3 b4 b5
    go_enter Try.func10, Try.ntmps10
    go_wp2_with fail
    go_loopw [7] (fun i wr => ∃ k : Nat, k ≤ cs.length ∧ i = .int .i64 k ∧ Below w.heap.size w wr) (fun i _ => cs.length - (intOf i).toNat)
    case atStart => exact ⟨0, Nat.zero_le _, rfl, Below.refl _ _⟩
    case round =>
      obtain ⟨k, hk, rfl, hb⟩ := hrel
      have HB := mkHid hb
      clear n1 n2 n3 n4 n5
      by_cases hlt : k < cs.length
      · obtain ⟨bl, off, rfl, -, c0, c1⟩ := (HK.out.next hb).at k hlt
        clear hb
        have hq := l8Own_calls cs[k].op cs[k].num vars defs wr
        cases hown : (decide (0 ≤ arity cs[k].op) && ownB cs[k].op cs[k].num vars defs) with
        | true =>
          rw [hown] at hq
          clear hown
          go_wp2_with fail
          refine hq.mono ?_
          rintro e w1 ⟨rfl, hb1⟩
          have HB1 : Hid (Below w.heap.size w w1) := HB.out.trans (hb1.mono HB.out.size)
          clear hb1
          go_wp2_with fail
          go_roundw
          case rel => exact ⟨k + 1, by omega, by go_num, HB1.out⟩
          case measure => simp [intOf]; omega
        | false =>
          rw [hown] at hq
          have HV : Hid (codeB cs vars defs = false) := codeB_own hlt (fun h => by rw [decide_eq_true h.1, h.2] at hown; cases hown)
          clear hown
          go_wp2_with fail
          refine hq.mono ?_
          rintro e w1 ⟨rfl, hb1⟩
          have HB1 : Hid (Below w.heap.size w w1) := HB.out.trans (hb1.mono HB.out.size)
          clear hb1
          go_wp2_with fail
          go_ret
          exact ⟨ret_bool HV.out.symm, HB1.out⟩
      · clear hb hk
        have hq := mkHid (l8Depths_calls cs _ wr (HK.out.next HB.out) hl)
        cases hd : dsC [] cs with
        | none =>
          have HD := mkHid hd
          have HV : Hid (codeB cs vars defs = false) := codeB_none (oneC_none (fun ds h => by rw [hd] at h; cases h))
          clear hd
          go_wp2_with fail
          refine hq.out.mono ?_
          rintro e w1 ⟨v, rfl, hst, hb1⟩
          rw [HD.out] at hst ⊢
          obtain ⟨adv, nv, capv, rfl⟩ := hst.form
          have HB1 : Hid (Below w.heap.size w w1) := HB.out.trans (hb1.mono HB.out.size)
          clear hb1 hst
          go_wp2_with fail
          go_ret
          exact ⟨ret_bool HV.out.symm, HB1.out⟩
        | some ds =>
          have HD := mkHid hd
          by_cases ht : topH ds = 1
          · obtain ⟨t, hrt⟩ := oneC_top hd ht
            have HT : Hid (decide (topH ds = 1) = true) := decide_eq_true ht
            have HRT := mkHid hrt
            have HV : Hid (codeB cs vars defs = isB t vars defs) := by
              rw [Hid, codeB_one (oneC_of hrt) HBD.out.2.2.2.2]
              exact validB_isB t vars defs ⟨HBD.out.1, HBD.out.2.1, HBD.out.2.2.1, HBD.out.2.2.2.1⟩
            clear hd ht hrt
            go_wp2_with fail
            refine hq.out.mono ?_
            rintro e w1 ⟨v, rfl, hst, hb1⟩
            rw [HD.out] at hst ⊢
            obtain ⟨adv, nv, capv, rfl⟩ := hst.form
            have HB1 : Hid (Below w.heap.size w w1) := HB.out.trans (hb1.mono HB.out.size)
            clear hb1 hst
            simp only [HT.out]
            go_wp2_with fail
            refine (l8Expr_calls cs t _ w1 (HK.out.next HB1.out) hl HW.out HRT.out).mono ?_
            rintro e w2 ⟨v2, rfl, hf, hb2⟩
            have HB2 : Hid (Below w.heap.size w w2) := HB1.out.trans (hb2.mono HB1.out.size)
            have HF : Hid (In w2 t.kids v2) := hf.on.btw_in
            clear hb2 hf
            obtain ⟨adk, capk, rfl, -, -, -⟩ := id HF.out
            go_wp2_with fail
            refine (l1Is_calls t vars defs _ w2 HF.out).mono ?_
            rintro e w3 ⟨rfl, hb3⟩
            have HB3 : Hid (Below w.heap.size w w3) := HB2.out.trans (hb3.mono HB2.out.size)
            clear hb3
            go_wp2_with fail
            go_ret
            exact ⟨ret_bool HV.out.symm, HB3.out⟩
          · have HT : Hid (decide (topH ds = 1) = false) := decide_eq_false ht
            have HV : Hid (codeB cs vars defs = false) := codeB_none (oneC_none (fun ds' h => by rw [hd] at h; cases h; exact ht))
            clear hd ht
            go_wp2_with fail
            refine hq.out.mono ?_
            rintro e w1 ⟨v, rfl, hst, hb1⟩
            rw [HD.out] at hst ⊢
            obtain ⟨adv, nv, capv, rfl⟩ := hst.form
            have HB1 : Hid (Below w.heap.size w w1) := HB.out.trans (hb1.mono HB.out.size)
            clear hb1 hst
            simp only [HT.out]
            go_wp2_with fail
            go_ret
            exact ⟨ret_bool HV.out.symm, HB1.out⟩
  · have HV : Hid (codeB cs vars defs = false) := codeB_bounds hbd
    have hcase : vars < 0 ∨ (¬ vars < 0 ∧ 4 < vars) ∨ (¬ vars < 0 ∧ ¬ 4 < vars ∧ defs < 0) ∨ (¬ vars < 0 ∧ ¬ 4 < vars ∧ ¬ defs < 0 ∧ 6 < defs) ∨ (¬ vars < 0 ∧ ¬ 4 < vars ∧ ¬ defs < 0 ∧ ¬ 6 < defs ∧ (60 : Int) < (cs.length : Int)) := by omega
    clear hbd
    rcases hcase with h1 | ⟨h1, h2⟩ | ⟨h1, h2, h3⟩ | ⟨h1, h2, h3, h4⟩ | ⟨h1, h2, h3, h4, h5⟩
    all_goals
      go_enter Try.func10, Try.ntmps10
      go_wp2_with fail
      go_ret
      exact ⟨ret_bool HV.out.symm, Below.refl _ _⟩

/-- a tree, and whether there is one -/
def DecIn (r : Tr × Bool) (w : World) (e : Ending) (w' : World) : Prop :=
  ∃ v, e = .returned (.tuple #[.agg #[.int .i64 r.1.op, .int .i64 r.1.num, v], .bool r.2]) ∧ In w' r.1.kids v ∧ Below w.heap.size w w'
set_option maxRecDepth 100000 in
set_option maxHeartbeats 1600000 in
theorem specDec_calls (cs : List Ins) (c : Value) (w : World) (hk : InsIn w cs c) (hl : cs.length ≤ 1048576) (hw : ∀ c ∈ cs, I64 c.op ∧ I64 c.num) : Calls Try.prog 22 #[c] w (DecIn (decO cs 4 6) w) := by
  have HB0 : Hid (Below w.heap.size w (w.alloc (.cells #[.int .i64 0, .int .i64 0, .slice none 0 0] 37))) := box_below _ _
  have HZ0 : Hid ((w.alloc (.cells #[.int .i64 0, .int .i64 0, .slice none 0 0] 37)).heap[w.heap.size]? = some (.cells #[.int .i64 0, .int .i64 0, .slice none 0 0] 37)) := Deep.blk_alloc_new _ _
  have HQ := mkHid (specCodeV_calls cs 4 6 c (w.alloc (.cells #[.int .i64 0, .int .i64 0, .slice none 0 0] 37)) (hk.next HB0.out) hl hw)
  have HK := mkHid hk
  have HW := mkHid hw
  obtain ⟨ad, cap, rfl, -, -, -⟩ := hk
  clear hw
  cases hv : codeB cs 4 6 with
  | false =>
    have HV := mkHid (decO_false hv)
    rw [hv] at HQ
    clear hv
    go_enter Try.func22, Try.ntmps22
    go_wp2_with fail
    refine HQ.out.mono ?_
    rintro e w1 ⟨rfl, hb⟩
    have hz1 := (hb.block w.heap.size (by rw [Deep.nblk_alloc]; omega)).trans HZ0.out
    have HB1 : Hid (Below w.heap.size w w1) := HB0.out.trans (hb.mono HB0.out.size)
    have r0 := cell_of_blk hz1 0 _ rfl
    have r1 := cell_of_blk hz1 1 _ rfl
    have r2 := cell_of_blk hz1 2 _ rfl
    have rf := fun i => frz_of_blk hz1 i
    clear hb hz1
    go_wp2_with fail
    refine bodyPost_ret (v := .tuple #[.agg #[.int .i64 0, .int .i64 0, .slice none 0 0], .bool false]) (by simp [results, Try.results22, go_sem, r0, r1, r2]) rfl ?_
    rw [HV.out]
    refine ⟨_, rfl, ⟨none, 0, rfl, Nat.le_refl _, by simp [maxLen], Or.inl rfl⟩, ?_⟩
    repeat' (refine Below.setCell ?_ (by simp) _)
    exact HB1.out
  | true =>
    obtain ⟨t, ht, hd⟩ := decO_true hv
    have HV := mkHid hd
    have HRT := mkHid (oneC_some ht)
    have HLN : Hid (szL t.kids ≤ 1048576) := by
      have h := runC_sz HRT.out
      rw [szL_sum [t]] at h
      simp only [sumT_cons, sumT_nil, List.length_cons, List.length_nil] at h
      have h2 := szT_eq t
      have h3 : szL ([] : List Tr) = 0 := rfl
      unfold Hid
      omega
    have HI : Hid (I64 t.op ∧ I64 t.num) := (allN_iff.1 (((runC_all HRT.out (R := fun o n => I64 o ∧ I64 n)).2 ⟨by simp, HW.out⟩) t (by simp))).1
    rw [hv] at HQ
    clear hv ht hd
    go_enter Try.func22, Try.ntmps22
    go_wp2_with fail
    refine HQ.out.mono ?_
    rintro e w1 ⟨rfl, hb⟩
    have hz1 := (hb.block w.heap.size (by rw [Deep.nblk_alloc]; omega)).trans HZ0.out
    have HZ1 := mkHid hz1
    have HB1 : Hid (Below w.heap.size w w1) := HB0.out.trans (hb.mono HB0.out.size)
    clear hb hz1
    go_wp2_with fail
    refine (l8Expr_calls cs t _ w1 (HK.out.next HB1.out) hl HW.out HRT.out).mono ?_
    rintro e w2 ⟨v2, rfl, hf, hb2⟩
    have HZ2 := mkHid ((hb2.block w.heap.size (Array.getElem?_eq_some_iff.1 HZ1.out).1).trans HZ1.out)
    have HB2 : Hid (Below w.heap.size w w2) := HB1.out.trans (hb2.mono HB1.out.size)
    have HF : Hid (In w2 t.kids v2) := hf.on.btw_in
    clear hb2 hf
    obtain ⟨adk, capk, rfl, -, -, -⟩ := id HF.out
    go_wp2_with fail
    refine (cp_calls t _ w2 HF.out HLN.out HI.out.1 HI.out.2).mono ?_
    rintro e w3 ⟨v3, rfl, hn, hb3⟩
    have hz3 := (hb3.block w.heap.size (Array.getElem?_eq_some_iff.1 HZ2.out).1).trans HZ2.out
    have HB3 : Hid (Below w.heap.size w w3) := HB2.out.trans (hb3.mono HB2.out.size)
    have HN : Hid (KidsOn w3 (Btw w2.heap.size w3.heap.size) t.kids v3) := hn
    have HLT : Hid (w.heap.size < w2.heap.size) := (Array.getElem?_eq_some_iff.1 HZ2.out).1
    have r0 := cell_of_blk hz3 0 _ rfl
    have r1 := cell_of_blk hz3 1 _ rfl
    have r2 := cell_of_blk hz3 2 _ rfl
    have rf := fun i => frz_of_blk hz3 i
    clear hb3 hz3
    obtain ⟨ad3, cap3, rfl, -, -, -⟩ := hn
    go_wp2_with fail
    refine bodyPost_ret (v := .tuple #[.agg #[.int .i64 t.op, .int .i64 t.num, .slice ad3 t.kids.length cap3], .bool true]) (by simp [results, Try.results22, go_sem, r0, r1, r2]) rfl ?_
    rw [HV.out]
    refine ⟨_, rfl, ?_, ?_⟩
    · have hnot : ¬ Btw w2.heap.size w3.heap.size w.heap.size := fun h => by have := h.1; have := HLT.out; omega
      refine KidsOn.mono (S := Btw w2.heap.size w3.heap.size) ?_ (fun q hq => by have := hq.2; simp only [Lt, size_setCell]; omega) (fun _ _ => rfl)
      repeat' (refine KidsOn.setCell ?_ hnot _)
      exact HN.out
    · repeat' (refine Below.setCell ?_ (by simp) _)
      exact HB3.out
end Go.Proofs.Ythknbafcnobgdaa
