/-
  THE MODEL's l1Subst: the variables replaced, in new memory; nothing that was there is changed.
-/
import Derived.Test.YticoegjackgldaaCopy
import Derived.Test.YticoegjackgldaaSubT
namespace Go.Proofs.Yticoegjackgldaa
set_option linter.unusedVariables false
set_option linter.unusedSimpArgs false
open Go.RowKit

/-- a call has handed back this tree in new memory -/
def NewG (g : Tr) (w : World) (e : Ending) (w' : World) : Prop := ∃ v, e = .returned (.agg #[.int .i64 g.op, .int .i64 g.num, v]) ∧ KidsOn w' (Btw w.heap.size w'.heap.size) g.kids v ∧ I64 g.op ∧ I64 g.num ∧ Below w.heap.size w w'
def SbSaid (args : List Tr) (t : Tr) : Prop := ∀ (av c : Value) (w : World), In w args av → In w t.kids c → szL args ≤ 1048576 → szL t.kids ≤ 1048576 → I64 t.op → I64 t.num → AllT (VarOk args.length) t →
  Calls Try.prog 59 #[.agg #[.int .i64 t.op, .int .i64 t.num, c], av] w (NewG (sbT args t) w)

/-- what holds behind k rounds -/
def SbRel (args : List Tr) (t : Tr) (box : Value) (w : World) (k : Nat) (wr : World) : Prop :=
  ∃ v, ApRel t.op t.num ((t.kids.take k).map (sbT args)) (w.heap.size + 2) (w.heap.size + 3) v wr ∧ wr.heap[w.heap.size]? = some (.cells #[.int .i64 t.op, .int .i64 t.num, box] 29) ∧
    wr.heap[w.heap.size + 1]? = some (.cells #[.int .i64 0, .int .i64 0, .slice none 0 0] 29) ∧ Below w.heap.size w wr ∧ w.heap.size + 3 ≤ wr.heap.size
theorem sbRel_start (args : List Tr) (t : Tr) (box : Value) (w : World) : SbRel args t box w 0 (((w.alloc (.cells #[.int .i64 t.op, .int .i64 t.num, box] 29)).alloc (.cells #[.int .i64 0, .int .i64 0, .slice none 0 0] 29)).alloc (.cells #[.int .i64 t.op, .int .i64 t.num, .slice none 0 0] 29)) := by
  obtain ⟨v, h1, h2⟩ := cpRel_start t box w
  exact ⟨v, by simpa using h1, h2⟩

set_option maxRecDepth 100000 in
set_option maxHeartbeats 1600000 in
theorem sb_step (args : List Tr) (t : Tr) (ih : ∀ i (hi : i < t.kids.length), SbSaid args (t.kids[i])) : SbSaid args t := by
  intro av c w ha hk hza hsz ho hn hp
  have HA : Hid (In w args av) := ha
  have HI : Hid (∀ i (hi : i < t.kids.length), SbSaid args (t.kids[i])) := ih
  have HK : Hid (In w t.kids c) := hk
  have HZ : Hid (szL t.kids ≤ 1048576) := hsz
  have HT : Hid (I64 t.op ∧ I64 t.num) := ⟨ho, hn⟩
  have HPT : Hid (AllT (VarOk args.length) t) := hp
  have hal : args.length ≤ 1048576 := by rw [szL_sum] at hza; omega
  clear ih hsz ho hn hp
  obtain ⟨ad, cap, rfl, hl, hm, -⟩ := hk
  obtain ⟨ada, capa, rfl, -, hma, -⟩ := ha
  unfold maxLen at hm hma
  by_cases h1 : t.op = 1
  · have t1 : (t.op == 1) = true := by simpa using h1
    obtain ⟨p1, p2, p3⟩ := ((allT_iff _ t).1 HPT.out).1 h1
    obtain ⟨n, hn⟩ : ∃ n : Nat, t.num = n := ⟨t.num.toNat, by omega⟩
    have hlt : n < args.length := by omega
    have hg : sbT args t = args[n] := by rw [sbT_eq, if_pos h1, hn]; simp [hlt]
    rw [hg]
    obtain ⟨_, _, he, -, -, hr⟩ := HA.out
    cases he
    rcases hr with hnil | ⟨bl, off, rfl, hbl, hr⟩
    · rw [hnil] at hlt; simp at hlt
    obtain ⟨p, q, r, e0, e1, e2, ht⟩ := RowOn.at args off n hlt hr
    obtain ⟨rfl, rfl, io, iN, hkk⟩ := trOn_iff.1 ht
    have HKK : Hid (In w args[n].kids r) := hkk
    have HIO : Hid (I64 args[n].op ∧ I64 args[n].num) := ⟨io, iN⟩
    have HZK : Hid (szL args[n].kids ≤ 1048576) := by have := szL_kids_lt args n hlt; unfold Hid; omega
    have hbl' : bl < w.heap.size := hbl
    obtain ⟨adn, capn, rfl, -, -, -⟩ := hkk
    rw [hn]
    obtain ⟨wb, hwb⟩ : ∃ wb : World, wb = (w.alloc (.cells #[.int .i64 t.op, .int .i64 (n : Int), .slice ad t.kids.length cap] 29)).alloc (.cells #[.int .i64 0, .int .i64 0, .slice none 0 0] 29) := ⟨_, rfl⟩
    have HWB : Hid (wb = (w.alloc (.cells #[.int .i64 t.op, .int .i64 (n : Int), .slice ad t.kids.length cap] 29)).alloc (.cells #[.int .i64 0, .int .i64 0, .slice none 0 0] 29)) := hwb
    have HBW : Hid (Below w.heap.size w wb) := by rw [hwb]; exact (box_below w _).trans ((box_below _ _).mono (by simp))
    have HS : Hid (wb.heap.size = w.heap.size + 2) := by
      show wb.heap.size = w.heap.size + 2
      rw [hwb, Deep.nblk_alloc, Deep.nblk_alloc]
    have HB1 : Hid (wb.heap[w.heap.size + 1]? = some (.cells #[.int .i64 0, .int .i64 0, .slice none 0 0] 29)) := by
      have := Deep.blk_alloc_new (w.alloc (.cells #[.int .i64 t.op, .int .i64 (n : Int), .slice ad t.kids.length cap] 29)) (.cells #[.int .i64 0, .int .i64 0, .slice none 0 0] 29)
      rw [Deep.nblk_alloc, ← hwb] at this
      exact this
    clear hwb ht hr io iN hbl h1 p1 p2 p3 hg hn
    go_enter Try.func59, Try.ntmps59
    go_wp2_with (go_at_call 84; go_must (rw [← HWB.out]); go_must (refine (cp_calls args[n] _ wb (HKK.out.next HBW.out) HZK.out HIO.out.1 HIO.out.2).mono ?_); go_must (rintro e w1 ⟨v2, rfl, hv2, hb1⟩); go_must (have HV2 : Hid (KidsOn w1 (Btw wb.heap.size w1.heap.size) args[n].kids v2) := hv2); go_must (have hrb := (hb1.block (w.heap.size + 1) (by have := HS.out; omega)).trans HB1.out); go_must (have r0 := cell_of_blk hrb 0 _ rfl); go_must (have r1 := cell_of_blk hrb 1 _ rfl); go_must (have r2 := cell_of_blk hrb 2 _ rfl); go_must (have rf := fun i => frz_of_blk hrb i); go_must (have HB2 : Hid (Below w.heap.size w w1) := HBW.out.trans (hb1.mono HBW.out.size)); go_must (obtain ⟨ad2, cap2, rfl, -, -, -⟩ := hv2); clear hb1 hrb)
    refine bodyPost_ret (v := .agg #[.int .i64 args[n].op, .int .i64 args[n].num, .slice ad2 args[n].kids.length cap2]) (by simp [results, Try.results59, go_sem, r0, r1, r2]) rfl ⟨_, rfl, ?_, HIO.out.1, HIO.out.2, ?_⟩
    · simp only [size_setCell]
      exact (((HV2.out.setCell (by have := HS.out; simp [Btw] <;> omega) _).setCell (by have := HS.out; simp [Btw] <;> omega) _).setCell (by have := HS.out; simp [Btw] <;> omega) _).mono (fun k hk => ⟨by have := hk.1; have := HS.out; omega, hk.2⟩) (fun _ _ => rfl)
    · exact ((HB2.out.setCell (by simp) _).setCell (by simp) _).setCell (by simp) _
  have t1 : (t.op == 1) = false := by simpa using h1
  have hg : sbT args t = .node t.op t.num (t.kids.map (sbT args)) := by rw [sbT_eq, if_neg h1, sbL_map]
  have HG : Hid (sbT args t = .node t.op t.num (t.kids.map (sbT args))) := hg
  clear h1 hg
  go_enter Try.func59, Try.ntmps59
  go_wp2_with fail
  obtain ⟨iE, zE, hiE, hzE, hsE, hbE, hcE⟩ := infoE3
  have HE : Hid (Try.prog.info? 29 = some iE ∧ iE.zero = some zE ∧ iE.size = 3 ∧ iE.bytes = 40 ∧ zE.cells.size = 3) := ⟨hiE, hzE, hsE, hbE, hcE⟩
  clear hiE hzE hsE hbE hcE
  go_loopw [6] (fun i wr => ∃ k : Nat, k ≤ t.kids.length ∧ i = .int .i64 k ∧ SbRel args t (.slice ad t.kids.length cap) w k wr) (fun i _ => t.kids.length - (intOf i).toNat)
  case atStart => exact ⟨0, Nat.zero_le _, rfl, sbRel_start args t _ w⟩
  case round =>
    obtain ⟨k, hk, rfl, hcp⟩ := hrel
    obtain ⟨v, hap, hb0, hb1, hbl, hsz⟩ := hcp
    have HAP : Hid (ApRel t.op t.num ((t.kids.take k).map (sbT args)) (w.heap.size + 2) (w.heap.size + 3) v wr) := hap
    have c2 := cell_of_blk hb0 2 _ rfl
    have o0 := cell_of_blk hap.2 0 _ rfl
    have o1 := cell_of_blk hap.2 1 _ rfl
    have o2 := cell_of_blk hap.2 2 _ rfl
    have f2 := frz_of_blk hap.2 2
    have HB0 : Hid (wr.heap[w.heap.size]? = some (.cells #[.int .i64 t.op, .int .i64 t.num, .slice ad t.kids.length cap] 29)) := hb0
    have HB1 : Hid (wr.heap[w.heap.size + 1]? = some (.cells #[.int .i64 0, .int .i64 0, .slice none 0 0] 29)) := hb1
    have HBW : Hid (Below w.heap.size w wr) := hbl
    clear hap hb0 hb1 hbl
    by_cases hlt : k < t.kids.length
    · obtain ⟨ad', cap', he, -, -, hr⟩ := HK.out.next HBW.out
      cases he
      rcases hr with hnil | ⟨bl, off, rfl, -, hr⟩
      · rw [hnil] at hlt; simp at hlt
      obtain ⟨p, q, r, e0, e1, e2, ht⟩ := RowOn.at t.kids off k hlt hr
      obtain ⟨rfl, rfl, io, iN, hkk⟩ := trOn_iff.1 ht
      have HKK : Hid (In wr t.kids[k].kids r) := hkk
      have HAW : Hid (In wr args (.slice ada args.length capa)) := HA.out.next HBW.out
      have HZK : Hid (szL t.kids[k].kids ≤ 1048576) := by have := szL_kids_lt t.kids k hlt; have := HZ.out; unfold Hid; omega
      have HIK : Hid (I64 t.kids[k].op ∧ I64 t.kids[k].num) := ⟨io, iN⟩
      clear hkk ht hr io iN
      go_wp2_with fail
      have hkl : ((t.kids.take k).map (sbT args)).length = k := by simp; omega
      have HKL : Hid (((t.kids.take k).map (sbT args)).length = k) := hkl
      have hkb : k < 1048576 := by have := HZ.out; rw [szL_sum] at this; omega
      clear hkl
      go_region_law (first
        | (go_simp; go_at_call 59; go_must (refine (HI.out k hlt _ r _ ?_ ?_ hza HZK.out HIK.out.1 HIK.out.2 (HPT.out.kid k hlt)).mono ?_); go_must (exact HAW.out.drew); go_must (exact HKK.out.drew); go_must (rintro e w1 ⟨v2, rfl, hv2, hg1, hg2, hbb⟩); go_must (obtain ⟨ad2, cap2, rfl, _, _, _⟩ := id hv2); go_must (have HV2 : Hid (KidsOn w1 (Btw wr.heap.size w1.heap.size) (sbT args t.kids[k]).kids (.slice ad2 (sbT args t.kids[k]).kids.length cap2)) := hv2); go_must (have HG2 : Hid (I64 (sbT args t.kids[k]).op ∧ I64 (sbT args t.kids[k]).num) := ⟨hg1, hg2⟩); go_must (have HBB : Hid (Below wr.heap.size wr w1) := (Below.refl _ _).drew.trans hbb); go_must (have z2 := (HBB.out.cell (p := ⟨w.heap.size + 2, 2, none⟩) (by show w.heap.size + 2 < wr.heap.size; omega)).trans o2); go_must (have hz1 : w.heap.size + 2 < w1.heap.size := by have := HBB.out.size; omega); clear hv2 hbb hg1 hg2; go_wp2_with fail)
        | (go_must (obtain ⟨xs, hx, hxs⟩ := apRel_mid HAP.out HBB.out (.cells #[.int .i64 (sbT args t.kids[k]).op, .int .i64 (sbT args t.kids[k]).num, .slice ad2 (sbT args t.kids[k]).kids.length cap2] 29)); go_must (have HX : Hid _ := hx); go_must (rw [HKL.out] at hx); go_must (refine step_append_where rfl (.tmp 36) (.tmp 44) 27 rfl (w.heap.size + 3) 29 iE zE 3 40 Try.underlying27 HE.out.1 HE.out.2.1 HE.out.2.2.1 HE.out.2.2.2.1 HE.out.2.2.2.2 (by decide) v k xs (by simp [Act.eval, Act.put]) hx ⟨w1.heap.size, 0, none⟩ 1 1 [.int .i64 (sbT args t.kids[k]).op, .int .i64 (sbT args t.kids[k]).num, .slice ad2 (sbT args t.kids[k]).kids.length cap2] (by simp [Act.eval, Act.put]) rfl (news3 w1 _ _ _) (by simp [Value.oneCell']) (by unfold maxLen; omega) (by omega) (by rw [Deep.nblk_alloc]; have := HBB.out.size; omega) (by omega) ?_); go_must (intro v' w3 hown hg hw); go_must (obtain ⟨g', c', rfl⟩ := Joins.ownsRow_form hown (by omega)); go_must (have hB3 := apRel_blk HAP.out (by omega) hsz HBB.out hg); go_must (have s2 := cell_of_blk hB3 2 _ rfl); go_must (have sf := frz_of_blk hB3 2); clear hB3))
      all_goals
        have HV : Hid (SbRel args t (.slice (some ⟨bl, off, none⟩) t.kids.length cap) w (k + 1) (w3.setCell ⟨w.heap.size + 2, 2, none⟩ (.slice (some ⟨g', 0, none⟩) (k + 1) c'))) := by
          have hst := apRel_step (t := sbT args t.kids[k]) HAP.out (by omega) hsz HBB.out HV2.out HG2.out.1 HG2.out.2 rfl xs HX.out (by rw [HKL.out]; exact hown) hg hw hxs
          have hoth := fun j hj hjw => apRel_other HAP.out HBB.out hg j hj hjw
          have hz3 : wr.heap.size ≤ w3.heap.size := by have := HBB.out.size; have := hg.size; rw [Deep.nblk_alloc] at this; omega
          refine ⟨.slice (some ⟨g', 0, none⟩) (k + 1) c', ?_, ?_, ?_, ?_, ?_⟩
          · rw [show t.kids.take (k + 1) = t.kids.take k ++ [t.kids[k]] from List.take_succ_eq_append_getElem hlt, List.map_append]
            exact hst
          · rw [Below.heap_setCell _ _ _ _ (by show w.heap.size ≠ w.heap.size + 2; omega), hoth _ (by omega) (by omega)]; exact HB0.out
          · rw [Below.heap_setCell _ _ _ _ (by show w.heap.size + 1 ≠ w.heap.size + 2; omega), hoth _ (by omega) (by omega)]; exact HB1.out
          · refine Below.setCell ?_ (by show w.heap.size ≤ w.heap.size + 2; omega) _
            have hbw := HBW.out
            have hbb := HBB.out
            exact ⟨by rw [hg.os]; exact hbb.os.trans hbw.os, by rw [hg.tape]; exact hbb.tape.trans hbw.tape, by rw [hg.output]; exact hbb.output.trans hbw.output, Nat.le_trans hbw.size hz3, fun j hj => (hoth j (by omega) (by omega)).trans (hbw.block j hj)⟩
          · rw [size_setCell]; omega
        clear hg hw hown hxs hx s2 sf
        go_wp2_with fail
        go_roundw
        case rel => exact ⟨k + 1, by omega, by go_num, HV.out⟩
        case measure => simp [intOf]; omega
    · have hke : t.kids.length = k := by omega
      have HN : Hid (KidsOn wr (Btw (w.heap.size + 3) wr.heap.size) (t.kids.map (sbT args)) v) := by
        have h1 := HAP.out.1
        rw [← hke, List.take_length] at h1
        exact h1.kids
      have hform : (v = .slice none 0 0 ∧ True) ∨ ∃ g c, v = .slice (some ⟨g, 0, none⟩) t.kids.length c := by
        obtain ⟨xs, h1, _⟩ := HAP.out.1
        rw [← hke, List.take_length, List.length_map] at h1
        rcases Joins.ownsRow_forms h1 with ⟨h, _⟩ | h
        · exact Or.inl ⟨h, trivial⟩
        · exact Or.inr h
      have r0 := cell_of_blk HB1.out 0 _ rfl
      have r1 := cell_of_blk HB1.out 1 _ rfl
      have r2 := cell_of_blk HB1.out 2 _ rfl
      have q0 := frz_of_blk HB1.out 0
      have q1 := frz_of_blk HB1.out 1
      have q2 := frz_of_blk HB1.out 2
      clear hke
      rcases hform with ⟨rfl, -⟩ | ⟨g, c', rfl⟩
      all_goals
        go_wp2_with fail
        rw [HG.out]
        refine bodyPost_ret (v := .agg #[.int .i64 t.op, .int .i64 t.num, _]) (by simp [results, Try.results59, go_sem, r0, r1, r2]; rfl) rfl ⟨_, rfl, ?_, HT.out.1, HT.out.2, ?_⟩
        · simp only [size_setCell]
          exact (((HN.out.setCell (by simp [Btw] <;> omega) _).setCell (by simp [Btw] <;> omega) _).setCell (by simp [Btw] <;> omega) _).mono (fun k hk => ⟨by have := hk.1; omega, hk.2⟩) (fun _ _ => rfl)
        · exact ((HBW.out.setCell (by simp) _).setCell (by simp) _).setCell (by simp) _

theorem sb_any (args : List Tr) : ∀ (n : Nat) (t : Tr), szT t ≤ n → SbSaid args t := by
  intro n
  induction n with
  | zero =>
    intro t h
    exact sb_step args t fun i hi => absurd (szT_lt_szL t.kids i hi) (by rw [szT_eq] at h; omega)
  | succ n ih =>
    intro t h
    exact sb_step args t fun i hi => ih _ (by have := szT_lt_szL t.kids i hi; rw [szT_eq] at h; omega)
theorem sb_calls (args : List Tr) (t : Tr) : SbSaid args t := sb_any args _ t (Nat.le_refl _)
end Go.Proofs.Yticoegjackgldaa
