/-
  THE PROGRAM's SubstExpr: the variables replaced, in new memory; nothing that was there is changed.
-/
import Derived.Test.YticoegjackgldaaSubJoin
import Derived.Test.YticoegjackgldaaNodesLeft
namespace Go.Proofs.Yticoegjackgldaa
set_option linter.unusedVariables false
set_option linter.unusedSimpArgs false
open Go.RowKit

/-- does the replacement exist? -/
def subB (args : List Tr) (e : Tr) : Bool := (validB e args.length 6 && args.all (fun a => validB a 4 6)) && validB (sbT args e) 4 6
/-- the answer's tree -/
def subT (args : List Tr) (e : Tr) : Tr := if subB args e = true then sbT args e else .node 0 0 []
def SubGot (args : List Tr) (e : Tr) (w : World) (en : Ending) (w' : World) : Prop :=
  ∃ v, en = .returned (.tuple #[.agg #[.int .i64 (subT args e).op, .int .i64 (subT args e).num, v], .bool (subB args e)]) ∧ Fresh w' w.heap.size (subT args e).kids v ∧ I64 (subT args e).op ∧ I64 (subT args e).num ∧ Below w.heap.size w w'
theorem Fresh.none (w : World) (lo : Nat) : Fresh w lo [] (.slice none 0 0) := ⟨[], ⟨Option.none, 0, rfl, Nat.le_refl _, by simp [maxLen], Or.inl ⟨rfl, rfl⟩⟩, by simp, by simp⟩
theorem SubGot.no {args : List Tr} {e : Tr} {w w' : World} (h : subB args e = false) (hb : Below w.heap.size w w') : SubGot args e w (.returned (.tuple #[.agg #[.int .i64 0, .int .i64 0, .slice none 0 0], .bool false])) w' := by
  have ht : subT args e = .node 0 0 [] := by unfold subT; rw [h]; rfl
  exact ⟨_, by rw [ht, h]; rfl, by rw [ht]; exact Fresh.none _ _, by rw [ht]; simp [I64], by rw [ht]; simp [I64], hb⟩

set_option maxHeartbeats 400000 in
theorem fits_calls (t : Tr) (c : Value) (w : World) (hk : In w t.kids c) :
    Calls Try.prog 52 #[.agg #[.int .i64 t.op, .int .i64 t.num, c]] w fun e w' => e = .returned (.bool (validB t 4 6)) ∧ Below w.heap.size w w' := by
  have HK : Hid (In w t.kids c) := hk
  obtain ⟨ad, cap, rfl, -, -, -⟩ := hk
  go_enter Try.func52, Try.ntmps52
  go_wp2_with fail
  refine (implValid_calls t 4 6 _ _ (HK.out.next (box_below _ _))).mono ?_
  rintro e w1 ⟨rfl, hb1⟩
  obtain ⟨-, -, -, -, HB1⟩ := box_after hb1
  have HB1 : Hid (Below w.heap.size w w1) := HB1
  clear hb1
  go_wp2_with fail
  go_ret
  exact ⟨rfl, HB1.out⟩

def SRow (w : World) (c av : Value) (o n : Int) : World := ((w.alloc (.cells #[.int .i64 o, .int .i64 n, c] 29)).alloc (.cells #[av] 27)).alloc (.cells #[.int .i64 0, .int .i64 0, .slice none 0 0] 29)
theorem sRow (w : World) (c av : Value) (o n : Int) : (SRow w c av o n).heap.size = w.heap.size + 3 ∧ Below w.heap.size w (SRow w c av o n) ∧
    (SRow w c av o n).heap[w.heap.size]? = some (.cells #[.int .i64 o, .int .i64 n, c] 29) ∧ (SRow w c av o n).heap[w.heap.size + 1]? = some (.cells #[av] 27) ∧ (SRow w c av o n).heap[w.heap.size + 2]? = some (.cells #[.int .i64 0, .int .i64 0, .slice none 0 0] 29) := by
  unfold SRow
  have e1 : (w.alloc (.cells #[.int .i64 o, .int .i64 n, c] 29)).heap.size = w.heap.size + 1 := Deep.nblk_alloc _ _
  have e2 : ((w.alloc (.cells #[.int .i64 o, .int .i64 n, c] 29)).alloc (.cells #[av] 27)).heap.size = w.heap.size + 2 := by rw [Deep.nblk_alloc, e1]
  refine ⟨by rw [Deep.nblk_alloc, e2], (((Below.refl _ _).alloc (Nat.le_refl _) _).alloc (by rw [e1]; omega) _).alloc (by rw [e2]; omega) _, ?_, ?_, ?_⟩
  · rw [Deep.blk_alloc_lt _ _ _ (by rw [e2]; omega), Deep.blk_alloc_lt _ _ _ (by rw [e1]; omega)]; exact Deep.blk_alloc_new _ _
  · rw [Deep.blk_alloc_lt _ _ _ (by rw [e2]; omega), ← e1]; exact Deep.blk_alloc_new _ _
  · rw [← e2]; exact Deep.blk_alloc_new _ _

set_option maxRecDepth 100000 in
set_option maxHeartbeats 1600000 in
theorem implSubst_calls (args : List Tr) (av : Value) (e : Tr) (c : Value) (w : World) (ha : In w args av) (hk : In w e.kids c) (he : I64 e.op ∧ I64 e.num) (hza : szL args ≤ 1048576) (hze : szL e.kids ≤ 1048576) :
    Calls Try.prog 33 #[.agg #[.int .i64 e.op, .int .i64 e.num, c], av] w (SubGot args e w) := by
  have HA : Hid (In w args av) := ha
  have HK : Hid (In w e.kids c) := hk
  have HT : Hid (I64 e.op ∧ I64 e.num) := he
  have HZ : Hid (szL args ≤ 1048576 ∧ szL e.kids ≤ 1048576) := ⟨hza, hze⟩
  have hal : args.length ≤ 1048576 := by rw [szL_sum] at hza; omega
  obtain ⟨ad, cap, rfl, -, -, -⟩ := hk
  obtain ⟨ada, capa, rfl, -, hma, -⟩ := ha
  unfold maxLen at hma
  obtain ⟨wx, hwx⟩ : ∃ wx : World, wx = SRow w (.slice ad e.kids.length cap) (.slice ada args.length capa) e.op e.num := ⟨_, rfl⟩
  obtain ⟨hs, hbw, hb0, hb1, hb2⟩ := sRow w (.slice ad e.kids.length cap) (.slice ada args.length capa) e.op e.num
  rw [← hwx] at hs hbw hb0 hb1 hb2
  have HWX : Hid (wx = ((w.alloc (.cells #[.int .i64 e.op, .int .i64 e.num, .slice ad e.kids.length cap] 29)).alloc (.cells #[.slice ada args.length capa] 27)).alloc (.cells #[.int .i64 0, .int .i64 0, .slice none 0 0] 29)) := hwx
  have HS : Hid (wx.heap.size = w.heap.size + 3) := hs
  have HBW : Hid (Below w.heap.size w wx) := hbw
  have HBX : Hid (wx.heap[w.heap.size]? = some (.cells #[.int .i64 e.op, .int .i64 e.num, .slice ad e.kids.length cap] 29) ∧ wx.heap[w.heap.size + 1]? = some (.cells #[.slice ada args.length capa] 27) ∧ wx.heap[w.heap.size + 2]? = some (.cells #[.int .i64 0, .int .i64 0, .slice none 0 0] 29)) := ⟨hb0, hb1, hb2⟩
  -- what a world behind wx holds
  have HC : Hid (∀ W, Below wx.heap.size wx W → W.heap[w.heap.size]? = some (.cells #[.int .i64 e.op, .int .i64 e.num, .slice ad e.kids.length cap] 29) ∧ W.heap[w.heap.size + 1]? = some (.cells #[.slice ada args.length capa] 27) ∧ W.heap[w.heap.size + 2]? = some (.cells #[.int .i64 0, .int .i64 0, .slice none 0 0] 29)) := fun W hb => by
    have h := HBX.out
    have hs' := HS.out
    exact ⟨(hb.block _ (by omega)).trans h.1, (hb.block _ (by omega)).trans h.2.1, (hb.block _ (by omega)).trans h.2.2⟩
  clear hwx hs hbw hb0 hb1 hb2 he hza hze
  cases hv : validB e args.length 6 with
  | false =>
    have hq : Hid (∀ W, In W e.kids (.slice ad e.kids.length cap) → Calls Try.prog 15 #[.agg #[.int .i64 e.op, .int .i64 e.num, .slice ad e.kids.length cap], .int .i64 (args.length : Int), .int .i64 6] W fun en w' => en = .returned (.bool false) ∧ Below W.heap.size W w') := fun W h => by have := implValid_calls e args.length 6 _ W h; rwa [hv] at this
    have HV : Hid (subB args e = false) := by unfold subB; rw [hv]; rfl
    clear hv
    go_enter Try.func33, Try.ntmps33
    go_wp2_with (go_at_call 15; go_must (rw [← HWX.out]); go_must (refine (hq.out wx (HK.out.next HBW.out)).mono ?_); go_must (rintro en w1 ⟨rfl, hb1⟩); go_must (obtain ⟨-, -, d2⟩ := HC.out w1 hb1); go_must (have r0 := cell_of_blk d2 0 _ rfl); go_must (have r1 := cell_of_blk d2 1 _ rfl); go_must (have r2 := cell_of_blk d2 2 _ rfl); go_must (have rf := fun i => frz_of_blk d2 i); go_must (have HB1 : Hid (Below w.heap.size w w1) := HBW.out.trans (hb1.mono HBW.out.size)); clear hb1 d2)
    exact bodyPost_ret (v := .tuple #[.agg #[.int .i64 0, .int .i64 0, .slice none 0 0], .bool false]) (by simp [results, Try.results33, go_sem, r0, r1, r2]) rfl (SubGot.no HV.out (((HB1.out.setCell (by simp <;> omega) _).setCell (by simp <;> omega) _).setCell (by simp <;> omega) _))
  | true =>
    have hq : Hid (∀ W, In W e.kids (.slice ad e.kids.length cap) → Calls Try.prog 15 #[.agg #[.int .i64 e.op, .int .i64 e.num, .slice ad e.kids.length cap], .int .i64 (args.length : Int), .int .i64 6] W fun en w' => en = .returned (.bool true) ∧ Below W.heap.size W w') := fun W h => by have := implValid_calls e args.length 6 _ W h; rwa [hv] at this
    have HV : Hid (validB e args.length 6 = true) := hv
    have hmf : ∀ (fn : Fn) (first cap : Array Value) (w : World), (Instr.makeFunc fn first cap).run Try.prog w = .ok (.func fn first cap) w := fun _ _ _ _ => rfl
    clear hv
    go_enter Try.func33, Try.ntmps33
    go_wp2_with (go_at_call 15; go_must (rw [← HWX.out]); go_must (refine (hq.out wx (HK.out.next HBW.out)).mono ?_); go_must (rintro en w1 ⟨rfl, hb1⟩); go_must (obtain ⟨d0, d1, d2⟩ := HC.out w1 hb1); go_must (have p1 := cell_of_blk d1 0 _ rfl); go_must (have HB1 : Hid (Below wx.heap.size wx w1) := hb1); clear hb1 d0 d1 d2)
    clear p1
    go_loopw [17] (fun i wr => ∃ k : Nat, k ≤ args.length ∧ i = .int .i64 k ∧ (args.take k).all (fun a => validB a 4 6) = true ∧ Below wx.heap.size wx wr) (fun i _ => args.length - (intOf i).toNat)
    case atStart => exact ⟨0, Nat.zero_le _, rfl, by rw [List.take_zero]; rfl, HB1.out⟩
    case round =>
      obtain ⟨k, hk, rfl, hall, hb⟩ := hrel
      have HAll : Hid ((args.take k).all (fun a => validB a 4 6) = true) := hall
      have HB : Hid (Below wx.heap.size wx wr) := hb
      have HBA : Hid (Below w.heap.size w wr) := HBW.out.trans (hb.mono HBW.out.size)
      have hws : w.heap.size + 3 ≤ wr.heap.size := by have := hb.size; have := HS.out; omega
      obtain ⟨d0, d1, d2⟩ := HC.out wr hb
      have r0 := cell_of_blk d2 0 _ rfl
      have r1 := cell_of_blk d2 1 _ rfl
      have r2 := cell_of_blk d2 2 _ rfl
      have rf := fun i => frz_of_blk d2 i
      have q0 := cell_of_blk d0 0 _ rfl
      have q1 := cell_of_blk d0 1 _ rfl
      have q2 := cell_of_blk d0 2 _ rfl
      have p1 := cell_of_blk d1 0 _ rfl
      clear hall hb d0 d1 d2
      by_cases hlt : k < args.length
      · obtain ⟨_, _, he, -, -, hr⟩ := HA.out.next HBA.out
        cases he
        rcases hr with hnil | ⟨bl, off, rfl, hbl, hr⟩
        · rw [hnil] at hlt; simp at hlt
        obtain ⟨p, q, r, e0, e1, e2, ht⟩ := RowOn.at args off k hlt hr
        obtain ⟨rfl, rfl, io, iN, hkk⟩ := trOn_iff.1 ht
        have HKK : Hid (In wr args[k].kids r) := hkk
        have hbl' : bl < wr.heap.size := hbl
        obtain ⟨adk, capk, rfl, -, -, -⟩ := hkk
        clear ht hr io iN hbl
        cases hv : validB args[k] 4 6 with
        | false =>
          have hq2 : Hid (∀ W, In W args[k].kids (.slice adk args[k].kids.length capk) → Calls Try.prog 52 #[.agg #[.int .i64 args[k].op, .int .i64 args[k].num, .slice adk args[k].kids.length capk]] W fun en w' => en = .returned (.bool false) ∧ Below W.heap.size W w') := fun W h => by have := fits_calls args[k] _ W h; rwa [hv] at this
          have HN : Hid (subB args e = false) := by
            show subB args e = false
            unfold subB
            rw [all_false_of (fun a => validB a 4 6) args k hlt hv]
            simp
          clear hv
          go_wp2_with (go_at_call 52; go_must (refine (hq2.out _ (HKK.out.next (box_below wr _))).mono ?_); go_must (rintro en w2 ⟨rfl, hb2⟩); go_must (have HB2 : Hid (Below wr.heap.size wr w2) := (box_below wr _).trans (hb2.mono (by rw [Deep.nblk_alloc]; omega))); go_must (obtain ⟨-, -, d2⟩ := HC.out w2 (HB.out.trans (HB2.out.mono HB.out.size))); go_must (have s0 := cell_of_blk d2 0 _ rfl); go_must (have s1 := cell_of_blk d2 1 _ rfl); go_must (have s2 := cell_of_blk d2 2 _ rfl); go_must (have sf := fun i => frz_of_blk d2 i); clear hb2 d2)
          exact bodyPost_ret (v := .tuple #[.agg #[.int .i64 0, .int .i64 0, .slice none 0 0], .bool false]) (by simp [results, Try.results33, go_sem, s0, s1, s2]) rfl (SubGot.no HN.out ((((HBA.out.trans (HB2.out.mono (by omega))).setCell (by simp <;> omega) _).setCell (by simp <;> omega) _).setCell (by simp <;> omega) _))
        | true =>
          have hq2 : Hid (∀ W, In W args[k].kids (.slice adk args[k].kids.length capk) → Calls Try.prog 52 #[.agg #[.int .i64 args[k].op, .int .i64 args[k].num, .slice adk args[k].kids.length capk]] W fun en w' => en = .returned (.bool true) ∧ Below W.heap.size W w') := fun W h => by have := fits_calls args[k] _ W h; rwa [hv] at this
          have HN : Hid ((args.take (k + 1)).all (fun a => validB a 4 6) = true) := by
            have h := all_take_succ (fun a => validB a 4 6) args k hlt
            rw [HAll.out, hv] at h
            exact h
          clear hv
          go_wp2_with (go_at_call 52; go_must (refine (hq2.out _ (HKK.out.next (box_below wr _))).mono ?_); go_must (rintro en w2 ⟨rfl, hb2⟩); go_must (have HB2 : Hid (Below wr.heap.size wr w2) := (box_below wr _).trans (hb2.mono (by rw [Deep.nblk_alloc]; omega))); go_must (have HB3 : Hid (Below wx.heap.size wx w2) := HB.out.trans (HB2.out.mono HB.out.size)); clear hb2)
          go_roundw
          case rel => exact ⟨k + 1, by omega, by go_num, HN.out, HB3.out⟩
          case measure => simp [intOf]; omega
      · have hke : k = args.length := by omega
        have HAA : Hid (args.all (fun a => validB a 4 6) = true) := by have h := HAll.out; rw [hke, List.take_length] at h; exact h
        have HAT : Hid (AllT (VarOk args.length) e) := by
          have h := HV.out
          unfold validB at h
          simp only [Bool.and_eq_true] at h
          exact varOk_of_sh args.length 6 16 e h.2.1
        have HIA : Hid (In wr args (.slice ada args.length capa)) := HA.out.next HBA.out
        have HIE : Hid (In wr e.kids (.slice ad e.kids.length cap)) := HK.out.next HBA.out
        have hp1 := p1
        have HJ : Hid (foldSub.JSaid wr (w.heap.size + 1) (VarOk args.length) (sbT args)) := sub_join wr (w.heap.size + 1) args _ hp1 HIA.out HZ.out.1
        clear hke hp1
        go_wp2_with (go_at_call 60; go_must (refine (foldSub.fold_calls HJ.out e _ wr (Below.refl _ _) HIE.out HZ.out.2 HT.out.1 HT.out.2 HAT.out).mono ?_); go_must (rintro en w2 ⟨v2, rfl, hv2, hg1, hg2, hb2⟩); go_must (have HV2 : Hid (Fresh w2 wr.heap.size (sbT args e).kids v2) := hv2); go_must (have HG2 : Hid (I64 (sbT args e).op ∧ I64 (sbT args e).num) := ⟨hg1, hg2⟩); go_must (have HB2 : Hid (Below wr.heap.size wr w2) := hb2); go_must (have hz2 : wr.heap.size ≤ w2.heap.size := hb2.size); go_must (obtain ⟨ad2, cap2, rfl⟩ := fresh_form hv2); clear hv2 hg1 hg2 hb2 r0 r1 r2 rf q0 q1 q2 p1)
        obtain ⟨w3, hw3⟩ : ∃ w3 : World, w3 = w2.alloc (.cells #[.int .i64 (sbT args e).op, .int .i64 (sbT args e).num, .slice ad2 (sbT args e).kids.length cap2] 29) := ⟨_, rfl⟩
        have hb3 : Below w2.heap.size w2 w3 := by rw [hw3]; exact box_below _ _
        have x0 : w3.cell? ⟨w2.heap.size, 0, none⟩ = some (.int .i64 (sbT args e).op) := by rw [hw3]; exact box_cell w2 _ _ 0 _ rfl
        have x1 : w3.cell? ⟨w2.heap.size, 1, none⟩ = some (.int .i64 (sbT args e).num) := by rw [hw3]; exact box_cell w2 _ _ 1 _ rfl
        have x2 : w3.cell? ⟨w2.heap.size, 2, none⟩ = some (.slice ad2 (sbT args e).kids.length cap2) := by rw [hw3]; exact box_cell w2 _ _ 2 _ rfl
        have hz3 : w3.heap.size = w2.heap.size + 1 := by rw [hw3]; exact Deep.nblk_alloc _ _
        rw [← hw3]
        have HV3 : Hid (Fresh w3 wr.heap.size (sbT args e).kids (.slice ad2 (sbT args e).kids.length cap2)) := HV2.out.next hb3
        have HB3 : Hid (Below wr.heap.size wr w3) := HB2.out.trans (hb3.mono HB2.out.size)
        clear hw3 hb3
        cases hv : validB (sbT args e) 4 6 with
        | false =>
          have HN : Hid (subB args e = false) := by
            show subB args e = false
            unfold subB
            rw [hv]
            simp
          refine (fits_calls (sbT args e) _ w3 HV3.out.on.btw_in).mono ?_
          rw [hv]
          rintro en w4 ⟨rfl, hb4⟩
          have HB4 : Hid (Below wr.heap.size wr w4) := HB3.out.trans (hb4.mono HB3.out.size)
          obtain ⟨-, -, d2⟩ := HC.out w4 (HB.out.trans (HB4.out.mono HB.out.size))
          have s0 := cell_of_blk d2 0 _ rfl
          have s1 := cell_of_blk d2 1 _ rfl
          have s2 := cell_of_blk d2 2 _ rfl
          have sf := fun i => frz_of_blk d2 i
          clear hv hb4 d2 x0 x1 x2
          go_wp2_with fail
          exact bodyPost_ret (v := .tuple #[.agg #[.int .i64 0, .int .i64 0, .slice none 0 0], .bool false]) (by simp [results, Try.results33, go_sem, s0, s1, s2]) rfl (SubGot.no HN.out ((((HBA.out.trans (HB4.out.mono (by omega))).setCell (by simp <;> omega) _).setCell (by simp <;> omega) _).setCell (by simp <;> omega) _))
        | true =>
          have HN : Hid (subB args e = true) := by
            show subB args e = true
            unfold subB
            rw [hv, HV.out, HAA.out]
            rfl
          refine (fits_calls (sbT args e) _ w3 HV3.out.on.btw_in).mono ?_
          rw [hv]
          rintro en w4 ⟨rfl, hb4⟩
          have HV4 : Hid (Fresh w4 wr.heap.size (sbT args e).kids (.slice ad2 (sbT args e).kids.length cap2)) := HV3.out.next hb4
          have HB4 : Hid (Below wr.heap.size wr w4) := HB3.out.trans (hb4.mono HB3.out.size)
          have y0 := (hb4.cell (cell_lt x0)).trans x0
          have y1 := (hb4.cell (cell_lt x1)).trans x1
          have y2 := (hb4.cell (cell_lt x2)).trans x2
          obtain ⟨-, -, d2⟩ := HC.out w4 (HB.out.trans (HB4.out.mono HB.out.size))
          have s0 := cell_of_blk d2 0 _ rfl
          have s1 := cell_of_blk d2 1 _ rfl
          have s2 := cell_of_blk d2 2 _ rfl
          have sf := fun i => frz_of_blk d2 i
          clear hv hb4 d2 x0 x1 x2
          go_wp2_with fail
          refine bodyPost_ret (v := .tuple #[.agg #[.int .i64 (sbT args e).op, .int .i64 (sbT args e).num, .slice ad2 (sbT args e).kids.length cap2], .bool true]) (by simp [results, Try.results33, go_sem, s0, s1, s2]) rfl ?_
          have ht : subT args e = sbT args e := by unfold subT; rw [if_pos HN.out]
          refine ⟨_, by rw [ht, HN.out], ?_, by rw [ht]; exact HG2.out.1, by rw [ht]; exact HG2.out.2, ((((HBA.out.trans (HB4.out.mono (by omega))).setCell (by simp <;> omega) _).setCell (by simp <;> omega) _).setCell (by simp <;> omega) _)⟩
          rw [ht]
          exact (((HV4.out.setCell (by simp <;> omega) _).setCell (by simp <;> omega) _).setCell (by simp <;> omega) _).mono (by omega) (fun _ _ _ => rfl)
end Go.Proofs.Yticoegjackgldaa
