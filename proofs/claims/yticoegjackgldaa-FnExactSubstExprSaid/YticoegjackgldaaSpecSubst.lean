/-
  THE MODEL's SubstExpr: the variables replaced, in new memory; nothing that was there is changed.
-/
import Derived.Test.YticoegjackgldaaSpecSub
import Derived.Test.YticoegjackgldaaSmall
import Derived.Test.YticoegjackgldaaSubImpl
namespace Go.Proofs.Yticoegjackgldaa
set_option linter.unusedVariables false
set_option linter.unusedSimpArgs false
open Go.RowKit

def SpecSubGot (args : List Tr) (e : Tr) (w : World) (en : Ending) (w' : World) : Prop :=
  ∃ v, en = .returned (.tuple #[.agg #[.int .i64 (subT args e).op, .int .i64 (subT args e).num, v], .bool (subB args e)]) ∧ KidsOn w' (Btw w.heap.size w'.heap.size) (subT args e).kids v ∧ Below w.heap.size w w'
theorem kidsNone (w : World) (S : Nat → Prop) : KidsOn w S [] (.slice none 0 0) := ⟨none, 0, rfl, Nat.le_refl _, by simp [maxLen], Or.inl rfl⟩
theorem SpecSubGot.no {args : List Tr} {e : Tr} {w w' : World} (h : subB args e = false) (hb : Below w.heap.size w w') : SpecSubGot args e w (.returned (.tuple #[.agg #[.int .i64 0, .int .i64 0, .slice none 0 0], .bool false])) w' := by
  have ht : subT args e = .node 0 0 [] := by unfold subT; rw [h]; rfl
  exact ⟨_, by rw [ht, h]; rfl, by rw [ht]; exact kidsNone _ _, hb⟩
set_option maxHeartbeats 400000 in
theorem any_calls (t : Tr) (c : Value) (w : World) (hk : In w t.kids c) :
    Calls Try.prog 50 #[.agg #[.int .i64 t.op, .int .i64 t.num, c]] w fun e w' => e = .returned (.bool (validB t 4 6)) ∧ Below w.heap.size w w' := by
  have HK : Hid (In w t.kids c) := hk
  obtain ⟨ad, cap, rfl, -, -, -⟩ := hk
  rw [valid_is t 4 6 (by omega)]
  go_enter Try.func50, Try.ntmps50
  go_wp2_with fail
  refine (l1Is_calls t 4 6 _ _ (HK.out.next (box_below _ _))).mono ?_
  rintro e w1 ⟨rfl, hb1⟩
  obtain ⟨-, -, -, -, HB1⟩ := box_after hb1
  have HB1 : Hid (Below w.heap.size w w1) := HB1
  clear hb1
  go_wp2_with fail
  go_ret
  exact ⟨rfl, HB1.out⟩

set_option maxRecDepth 100000 in
set_option maxHeartbeats 1600000 in
theorem specSubst_calls (args : List Tr) (av : Value) (e : Tr) (c : Value) (w : World) (ha : In w args av) (hk : In w e.kids c) (he : I64 e.op ∧ I64 e.num) (hza : szL args ≤ 1048576) (hze : szL e.kids ≤ 1048576) :
    Calls Try.prog 31 #[.agg #[.int .i64 e.op, .int .i64 e.num, c], av] w (SpecSubGot args e w) := by
  have HA : Hid (In w args av) := ha
  have HK : Hid (In w e.kids c) := hk
  have HT : Hid (I64 e.op ∧ I64 e.num) := he
  have HZ : Hid (szL args ≤ 1048576 ∧ szL e.kids ≤ 1048576) := ⟨hza, hze⟩
  have hal : args.length ≤ 1048576 := by rw [szL_sum] at hza; omega
  obtain ⟨ad, cap, rfl, -, -, -⟩ := hk
  obtain ⟨ada, capa, rfl, -, hma, -⟩ := ha
  unfold maxLen at hma
  obtain ⟨wx, hwx⟩ : ∃ wx : World, wx = foldCopy.ERow w (.slice ad e.kids.length cap) e.op e.num := ⟨_, rfl⟩
  obtain ⟨hs, hbw, hb0, hb1⟩ := foldCopy.eRow w (.slice ad e.kids.length cap) e.op e.num
  rw [← hwx] at hs hbw hb0 hb1
  have HWX : Hid (wx = (w.alloc (.cells #[.int .i64 e.op, .int .i64 e.num, .slice ad e.kids.length cap] 29)).alloc (.cells #[.int .i64 0, .int .i64 0, .slice none 0 0] 29)) := hwx
  have HS : Hid (wx.heap.size = w.heap.size + 2) := hs
  have HBW : Hid (Below w.heap.size w wx) := hbw
  have HBX : Hid (wx.heap[w.heap.size]? = some (.cells #[.int .i64 e.op, .int .i64 e.num, .slice ad e.kids.length cap] 29) ∧ wx.heap[w.heap.size + 1]? = some (.cells #[.int .i64 0, .int .i64 0, .slice none 0 0] 29)) := ⟨hb0, hb1⟩
  have HC : Hid (∀ W, Below wx.heap.size wx W → W.heap[w.heap.size]? = some (.cells #[.int .i64 e.op, .int .i64 e.num, .slice ad e.kids.length cap] 29) ∧ W.heap[w.heap.size + 1]? = some (.cells #[.int .i64 0, .int .i64 0, .slice none 0 0] 29)) := fun W hb => by
    have h := HBX.out
    have hs' := HS.out
    exact ⟨(hb.block _ (by omega)).trans h.1, (hb.block _ (by omega)).trans h.2⟩
  clear hwx hs hbw hb0 hb1 he hza hze
  by_cases h4 : 4 < args.length
  · have HV : Hid (subB args e = false) := by
      show subB args e = false
      unfold subB
      rw [valid_big e args.length 6 (by omega)]
      rfl
    go_enter Try.func31, Try.ntmps31
    go_wp2_with fail
    exact bodyPost_ret (v := .tuple #[.agg #[.int .i64 0, .int .i64 0, .slice none 0 0], .bool false]) (by simp [results, Try.results31, go_sem]) rfl (SpecSubGot.no HV.out (by rw [← HWX.out]; exact HBW.out))
  cases hv : validB e args.length 6 with
  | false =>
    have hq : Hid (∀ W, In W e.kids (.slice ad e.kids.length cap) → Calls Try.prog 45 #[.agg #[.int .i64 e.op, .int .i64 e.num, .slice ad e.kids.length cap], .int .i64 (args.length : Int), .int .i64 6] W fun en w' => en = .returned (.bool false) ∧ Below W.heap.size W w') := fun W h => by have := l1Is_calls e args.length 6 _ W h; rwa [← valid_is e args.length 6 (by omega), hv] at this
    have HV : Hid (subB args e = false) := by
      show subB args e = false
      unfold subB
      rw [hv]
      rfl
    clear hv
    go_enter Try.func31, Try.ntmps31
    go_wp2_with (go_at_call 45; go_must (rw [← HWX.out]); go_must (refine (hq.out wx (HK.out.next HBW.out)).mono ?_); go_must (rintro en w1 ⟨rfl, hb1⟩); go_must (obtain ⟨-, d2⟩ := HC.out w1 hb1); go_must (have r0 := cell_of_blk d2 0 _ rfl); go_must (have r1 := cell_of_blk d2 1 _ rfl); go_must (have r2 := cell_of_blk d2 2 _ rfl); go_must (have rf := fun i => frz_of_blk d2 i); clear d2; go_must (have HB1 : Hid (Below w.heap.size w w1) := HBW.out.trans (hb1.mono HBW.out.size)); clear hb1)
    exact bodyPost_ret (v := .tuple #[.agg #[.int .i64 0, .int .i64 0, .slice none 0 0], .bool false]) (by simp [results, Try.results31, go_sem, r0, r1, r2]) rfl (SpecSubGot.no HV.out (((HB1.out.setCell (by simp) _).setCell (by simp) _).setCell (by simp) _))
  | true =>
    have hq : Hid (∀ W, In W e.kids (.slice ad e.kids.length cap) → Calls Try.prog 45 #[.agg #[.int .i64 e.op, .int .i64 e.num, .slice ad e.kids.length cap], .int .i64 (args.length : Int), .int .i64 6] W fun en w' => en = .returned (.bool true) ∧ Below W.heap.size W w') := fun W h => by have := l1Is_calls e args.length 6 _ W h; rwa [← valid_is e args.length 6 (by omega), hv] at this
    have HV : Hid (validB e args.length 6 = true) := hv
    clear hv
    go_enter Try.func31, Try.ntmps31
    go_wp2_with (go_at_call 45; go_must (rw [← HWX.out]); go_must (refine (hq.out wx (HK.out.next HBW.out)).mono ?_); go_must (rintro en w1 ⟨rfl, hb1⟩); go_must (have HB1 : Hid (Below wx.heap.size wx w1) := hb1); clear hb1)
    go_loopw [6] (fun i wr => ∃ k : Nat, k ≤ args.length ∧ i = .int .i64 k ∧ (args.take k).all (fun a => validB a 4 6) = true ∧ Below wx.heap.size wx wr) (fun i _ => args.length - (intOf i).toNat)
    case atStart => exact ⟨0, Nat.zero_le _, rfl, by rw [List.take_zero]; rfl, HB1.out⟩
    case round =>
      obtain ⟨k, hk, rfl, hall, hb⟩ := hrel
      have HAll : Hid ((args.take k).all (fun a => validB a 4 6) = true) := hall
      have HB : Hid (Below wx.heap.size wx wr) := hb
      have HBA : Hid (Below w.heap.size w wr) := HBW.out.trans (hb.mono HBW.out.size)
      have hws : w.heap.size + 2 ≤ wr.heap.size := by have := hb.size; have := HS.out; omega
      obtain ⟨d0, d2⟩ := HC.out wr hb
      have q0 := cell_of_blk d0 0 _ rfl
      have q1 := cell_of_blk d0 1 _ rfl
      have q2 := cell_of_blk d0 2 _ rfl
      clear hall hb d0 d2
      by_cases hlt : k < args.length
      · obtain ⟨_, _, he, -, -, hr⟩ := HA.out.next HBA.out
        cases he
        rcases hr with hnil | ⟨bl, off, rfl, hbl, hr⟩
        · rw [hnil] at hlt; simp at hlt
        obtain ⟨p, q, r, e0, e1, e2, ht⟩ := RowOn.at args off k hlt hr
        obtain ⟨rfl, rfl, io, iN, hkk⟩ := trOn_iff.1 ht
        have HKK : Hid (In wr args[k].kids r) := hkk
        have hbl' : bl < wr.heap.size := hbl
        obtain ⟨adk, capk, rfl, -, -, -⟩ := hkk
        clear ht hr io iN hbl
        cases hv : validB args[k] 4 6 with
        | false =>
          have hq2 : Hid (∀ W, In W args[k].kids (.slice adk args[k].kids.length capk) → Calls Try.prog 50 #[.agg #[.int .i64 args[k].op, .int .i64 args[k].num, .slice adk args[k].kids.length capk]] W fun en w' => en = .returned (.bool false) ∧ Below W.heap.size W w') := fun W h => by have := any_calls args[k] _ W h; rwa [hv] at this
          have HN : Hid (subB args e = false) := by
            show subB args e = false
            unfold subB
            rw [all_false_of (fun a => validB a 4 6) args k hlt hv]
            simp
          clear hv
          go_wp2_with (go_at_call 50; go_must (refine (hq2.out _ HKK.out).mono ?_); go_must (rintro en w2 ⟨rfl, hb2⟩); go_must (have HB2 : Hid (Below wr.heap.size wr w2) := hb2); go_must (obtain ⟨-, d2⟩ := HC.out w2 (HB.out.trans (hb2.mono HB.out.size))); go_must (have s0 := cell_of_blk d2 0 _ rfl); go_must (have s1 := cell_of_blk d2 1 _ rfl); go_must (have s2 := cell_of_blk d2 2 _ rfl); go_must (have sf := fun i => frz_of_blk d2 i); clear d2; clear hb2)
          exact bodyPost_ret (v := .tuple #[.agg #[.int .i64 0, .int .i64 0, .slice none 0 0], .bool false]) (by simp [results, Try.results31, go_sem, s0, s1, s2]) rfl (SpecSubGot.no HN.out ((((HBA.out.trans (HB2.out.mono (by omega))).setCell (by simp) _).setCell (by simp) _).setCell (by simp) _))
        | true =>
          have hq2 : Hid (∀ W, In W args[k].kids (.slice adk args[k].kids.length capk) → Calls Try.prog 50 #[.agg #[.int .i64 args[k].op, .int .i64 args[k].num, .slice adk args[k].kids.length capk]] W fun en w' => en = .returned (.bool true) ∧ Below W.heap.size W w') := fun W h => by have := any_calls args[k] _ W h; rwa [hv] at this
          have HN : Hid ((args.take (k + 1)).all (fun a => validB a 4 6) = true) := by
            have h := all_take_succ (fun a => validB a 4 6) args k hlt
            rw [HAll.out, hv] at h
            exact h
          clear hv
          go_wp2_with (go_at_call 50; go_must (refine (hq2.out _ HKK.out).mono ?_); go_must (rintro en w2 ⟨rfl, hb2⟩); go_must (have HB3 : Hid (Below wx.heap.size wx w2) := HB.out.trans (hb2.mono HB.out.size)); clear hb2)
          go_roundw
          case rel => exact ⟨k + 1, by omega, by go_num, HN.out, HB3.out⟩
          case measure => simp [intOf]; omega
      · have hke : k = args.length := by omega
        have HAA : Hid (args.all (fun a => validB a 4 6) = true) := by have h := HAll.out; rw [hke, List.take_length] at h; exact h
        have HAT : Hid (AllT (VarOk args.length) e) := by
          have h := HV.out
          unfold validB at h
          simp only [Bool.and_eq_true] at h
          exact varOk_of_sh args.length 6 16 e h.2.1
        have HIA : Hid (In wr args (.slice ada args.length capa)) := HA.out.next HBA.out
        have HIE : Hid (In wr e.kids (.slice ad e.kids.length cap)) := HK.out.next HBA.out
        have HES : Hid (1 + szT e ≤ 60) := valid_sz HV.out
        have HAS : Hid (∀ i (h : i < args.length), 1 + szT args[i] ≤ 60) := fun i h => valid_sz (List.all_eq_true.1 HAA.out _ (List.getElem_mem h))
        clear hke
        go_wp2_with fail
        by_cases hsm : 1 + szT (sbT args e) ≤ 60
        · refine (small_calls args _ e _ wr HIA.out HIE.out (by omega) HES.out HAS.out HAT.out).mono ?_
          rw [decide_eq_true hsm]
          rintro en w2 ⟨rfl, hb2⟩
          have HB2 : Hid (Below wr.heap.size wr w2) := hb2
          have hz2 : wr.heap.size ≤ w2.heap.size := hb2.size
          have HIA2 : Hid (In w2 args (.slice ada args.length capa)) := HIA.out.next hb2
          have HIE2 : Hid (In w2 e.kids (.slice ad e.kids.length cap)) := HIE.out.next hb2
          obtain ⟨d0, -⟩ := HC.out w2 (HB.out.trans (hb2.mono HB.out.size))
          have q0 := cell_of_blk d0 0 _ rfl
          have q1 := cell_of_blk d0 1 _ rfl
          have q2 := cell_of_blk d0 2 _ rfl
          clear d0 hb2 hsm
          go_wp2_with fail
          refine (sb_calls args e _ _ w2 HIA2.out HIE2.out HZ.out.1 HZ.out.2 HT.out.1 HT.out.2 HAT.out).mono ?_
          rintro en w3 ⟨v3, rfl, hv3, hg1, hg2, hb3⟩
          have HV3 : Hid (KidsOn w3 (Btw w2.heap.size w3.heap.size) (sbT args e).kids v3) := hv3
          have HB3 : Hid (Below wr.heap.size wr w3) := HB2.out.trans (hb3.mono HB2.out.size)
          have hz3 : w2.heap.size ≤ w3.heap.size := hb3.size
          obtain ⟨ad3, cap3, rfl, -, -, -⟩ := hv3
          clear hg1 hg2 hb3 q0 q1 q2
          go_wp2_with fail
          obtain ⟨w4, hw4⟩ : ∃ w4 : World, w4 = w3.alloc (.cells #[.int .i64 (sbT args e).op, .int .i64 (sbT args e).num, .slice ad3 (sbT args e).kids.length cap3] 29) := ⟨_, rfl⟩
          have hb4 : Below w3.heap.size w3 w4 := by rw [hw4]; exact box_below _ _
          have x0 : w4.cell? ⟨w3.heap.size, 0, none⟩ = some (.int .i64 (sbT args e).op) := by rw [hw4]; exact box_cell w3 _ _ 0 _ rfl
          have x1 : w4.cell? ⟨w3.heap.size, 1, none⟩ = some (.int .i64 (sbT args e).num) := by rw [hw4]; exact box_cell w3 _ _ 1 _ rfl
          have x2 : w4.cell? ⟨w3.heap.size, 2, none⟩ = some (.slice ad3 (sbT args e).kids.length cap3) := by rw [hw4]; exact box_cell w3 _ _ 2 _ rfl
          rw [← hw4]
          have HV4 : Hid (KidsOn w4 (Btw w2.heap.size w4.heap.size) (sbT args e).kids (.slice ad3 (sbT args e).kids.length cap3)) := HV3.out.btw_next hb4
          have HB4 : Hid (Below wr.heap.size wr w4) := HB3.out.trans (hb4.mono HB3.out.size)
          clear hw4 hb4
          cases hv : validB (sbT args e) 4 6 with
          | false =>
            have HN : Hid (subB args e = false) := by
              show subB args e = false
              unfold subB
              rw [hv]
              simp
            refine (any_calls (sbT args e) _ w4 HV4.out.btw_in).mono ?_
            rw [hv]
            rintro en w5 ⟨rfl, hb5⟩
            have HB5 : Hid (Below wr.heap.size wr w5) := HB4.out.trans (hb5.mono HB4.out.size)
            obtain ⟨-, d2⟩ := HC.out w5 (HB.out.trans (HB5.out.mono HB.out.size))
            have s0 := cell_of_blk d2 0 _ rfl
            have s1 := cell_of_blk d2 1 _ rfl
            have s2 := cell_of_blk d2 2 _ rfl
            have sf := fun i => frz_of_blk d2 i
            clear hv hb5 d2 x0 x1 x2
            go_wp2_with fail
            exact bodyPost_ret (v := .tuple #[.agg #[.int .i64 0, .int .i64 0, .slice none 0 0], .bool false]) (by simp [results, Try.results31, go_sem, s0, s1, s2]) rfl (SpecSubGot.no HN.out ((((HBA.out.trans (HB5.out.mono (by omega))).setCell (by simp) _).setCell (by simp) _).setCell (by simp) _))
          | true =>
            have HN : Hid (subB args e = true) := by
              show subB args e = true
              unfold subB
              rw [hv, HV.out, HAA.out]
              rfl
            refine (any_calls (sbT args e) _ w4 HV4.out.btw_in).mono ?_
            rw [hv]
            rintro en w5 ⟨rfl, hb5⟩
            have HV5 : Hid (KidsOn w5 (Btw w2.heap.size w5.heap.size) (sbT args e).kids (.slice ad3 (sbT args e).kids.length cap3)) := HV4.out.btw_next hb5
            have HB5 : Hid (Below wr.heap.size wr w5) := HB4.out.trans (hb5.mono HB4.out.size)
            have y0 := (hb5.cell (cell_lt x0)).trans x0
            have y1 := (hb5.cell (cell_lt x1)).trans x1
            have y2 := (hb5.cell (cell_lt x2)).trans x2
            obtain ⟨-, d2⟩ := HC.out w5 (HB.out.trans (HB5.out.mono HB.out.size))
            have s0 := cell_of_blk d2 0 _ rfl
            have s1 := cell_of_blk d2 1 _ rfl
            have s2 := cell_of_blk d2 2 _ rfl
            have sf := fun i => frz_of_blk d2 i
            clear hv hb5 d2 x0 x1 x2
            go_wp2_with fail
            refine bodyPost_ret (v := .tuple #[.agg #[.int .i64 (sbT args e).op, .int .i64 (sbT args e).num, .slice ad3 (sbT args e).kids.length cap3], .bool true]) (by simp [results, Try.results31, go_sem, s0, s1, s2]) rfl ?_
            have ht : subT args e = sbT args e := by unfold subT; rw [if_pos HN.out]
            refine ⟨_, by rw [ht, HN.out], ?_, (((HBA.out.trans (HB5.out.mono (by omega))).setCell (by simp) _).setCell (by simp) _).setCell (by simp) _⟩
            rw [ht]
            simp only [size_setCell]
            exact (((HV5.out.setCell (by simp [Btw] <;> omega) _).setCell (by simp [Btw] <;> omega) _).setCell (by simp [Btw] <;> omega) _).mono (fun k hk => ⟨by have := hk.1; omega, hk.2⟩) (fun _ _ => rfl)
        · have HN : Hid (subB args e = false) := by
            show subB args e = false
            cases hsb : subB args e with
            | false => rfl
            | true =>
              unfold subB at hsb
              simp only [Bool.and_eq_true] at hsb
              exact absurd (valid_sz hsb.2) hsm
          refine (small_calls args _ e _ wr HIA.out HIE.out (by omega) HES.out HAS.out HAT.out).mono ?_
          rw [decide_eq_false hsm]
          rintro en w2 ⟨rfl, hb2⟩
          have HB2 : Hid (Below wr.heap.size wr w2) := hb2
          obtain ⟨-, d2⟩ := HC.out w2 (HB.out.trans (hb2.mono HB.out.size))
          have s0 := cell_of_blk d2 0 _ rfl
          have s1 := cell_of_blk d2 1 _ rfl
          have s2 := cell_of_blk d2 2 _ rfl
          have sf := fun i => frz_of_blk d2 i
          clear d2 hb2 hsm q0 q1 q2
          go_wp2_with fail
          exact bodyPost_ret (v := .tuple #[.agg #[.int .i64 0, .int .i64 0, .slice none 0 0], .bool false]) (by simp [results, Try.results31, go_sem, s0, s1, s2]) rfl (SpecSubGot.no HN.out ((((HBA.out.trans (HB2.out.mono (by omega))).setCell (by simp) _).setCell (by simp) _).setCell (by simp) _))
end Go.Proofs.Yticoegjackgldaa
