/-
  THE PROGRAM's foldExpr, with one function to join by: the joined tree, in new memory, its blocks distinct; nothing that was there is changed.
-/
import Derived.Test.YticoegjackgldaaOwnF
import Derived.Test.YticoegjackgldaaSubT
namespace Go.Proofs.Yticoegjackgldaa.foldSub
set_option linter.unusedVariables false
set_option linter.unusedSimpArgs false
open Go.RowKit

/-- the tree of an answer, in new memory from lo on -/
def Got (lo : Nat) (g : Tr) (w : World) (e : Ending) (w' : World) : Prop :=
  ∃ v, e = .returned (.agg #[.int .i64 g.op, .int .i64 g.num, v]) ∧ Fresh w' lo g.kids v ∧ I64 g.op ∧ I64 g.num ∧ Below w.heap.size w w'
/-- what joining makes of a node and its operands' trees -/
def JSaid (w0 : World) (vb : Nat) (P : Tr → Prop) (G : Tr → Tr) : Prop :=
  ∀ (t : Tr) (c kv : Value) (lo : Nat) (W : World), Below w0.heap.size w0 W → In W t.kids c → Fresh W lo (t.kids.map G) kv → lo ≤ W.heap.size → I64 t.op → I64 t.num → P t →
    Calls Try.prog 61 #[.agg #[.int .i64 t.op, .int .i64 t.num, c], kv, .pointer (some ⟨vb, 0, none⟩)] W (Got lo (G t) W)
def FoldSaid (w0 : World) (vb : Nat) (P : Tr → Prop) (G : Tr → Tr) (t : Tr) : Prop :=
  ∀ (c : Value) (w : World), Below w0.heap.size w0 w → In w t.kids c → szL t.kids ≤ 1048576 → I64 t.op → I64 t.num → AllT P t →
    Calls Try.prog 60 #[.agg #[.int .i64 t.op, .int .i64 t.num, c], .func (.func 61) #[] #[.pointer (some ⟨vb, 0, none⟩)]] w (Got w.heap.size (G t) w)

def ERow (w : World) (c : Value) (o n : Int) : World := (w.alloc (.cells #[.int .i64 o, .int .i64 n, c] 29)).alloc (.cells #[.int .i64 0, .int .i64 0, .slice none 0 0] 29)
theorem eRow (w : World) (c : Value) (o n : Int) : (ERow w c o n).heap.size = w.heap.size + 2 ∧ Below w.heap.size w (ERow w c o n) ∧
    (ERow w c o n).heap[w.heap.size]? = some (.cells #[.int .i64 o, .int .i64 n, c] 29) ∧ (ERow w c o n).heap[w.heap.size + 1]? = some (.cells #[.int .i64 0, .int .i64 0, .slice none 0 0] 29) := by
  unfold ERow
  refine ⟨by rw [Deep.nblk_alloc, Deep.nblk_alloc], (box_below w _).trans ((box_below _ _).mono (by simp)), ?_, ?_⟩
  · rw [Deep.blk_alloc_lt _ _ _ (by simp)]; exact Deep.blk_alloc_new _ _
  · have := Deep.blk_alloc_new (w.alloc (.cells #[.int .i64 o, .int .i64 n, c] 29)) (.cells #[.int .i64 0, .int .i64 0, .slice none 0 0] 29)
    rw [Deep.nblk_alloc] at this
    exact this

theorem fold_push {wr w1 w3 : World} {lo : Nat} {G : Tr → Tr} {ks : List Tr} {k : Nat} (hk : k < ks.length) {v v' v2 : Value} (h : OwnF wr lo wr.heap.size ((ks.take k).map G) v) (hlo : lo ≤ wr.heap.size) (hb : Below wr.heap.size wr w1) (hf : Fresh w1 (wr.heap.size + 1) (G ks[k]).kids v2) (ho : I64 (G ks[k]).op) (hn : I64 (G ks[k]).num)
    {obj : Obj} {xs : List Value} (hx : (w1.alloc obj).ownsRow lo 29 3 v k xs) (hown : w3.ownsRow lo 29 3 v' (k + 1) (xs ++ [.int .i64 (G ks[k]).op, .int .i64 (G ks[k]).num, v2])) (hg : (w1.alloc obj).grownBy w3 v.ownBlock)
    (hw : v'.ownBlock = v.ownBlock ∨ ∃ g, v'.ownBlock = some g ∧ (w1.alloc obj).heap.size ≤ g) : OwnF w3 lo w3.heap.size ((ks.take (k + 1)).map G) v' := by
  have hl : ((ks.take k).map G).length = k := by simp; omega
  have hal := Deep.nblk_alloc w1 obj
  have hsz := hb.size
  obtain ⟨fp, f1, f2, f3⟩ := hf
  obtain ⟨xs0, h0⟩ := h.row
  have h2 : OwnF (w1.alloc obj) lo wr.heap.size ((ks.take k).map G) v := h.next (Nat.le_refl _) (Nat.le_refl _) fun j _ hj => (Deep.blk_alloc_lt _ _ _ (by omega)).trans (hb.block j hj)
  have h3 := h2.step (t := G ks[k]) hlo (by rw [hal]; omega) (trFp_iff.2 ⟨rfl, rfl, ho, hn, f1.keep fun j hj => Deep.blk_alloc_lt _ _ _ (f1.lt j hj)⟩) f2
    (fun j hj => ⟨by have := f3 j hj; omega, by rw [hal]; have := f1.lt j hj; omega, fun e => by have := (h0.lt j e.symm).2; have := f3 j hj; omega⟩) xs (by rw [hl]; exact hx) (by rw [hl]; exact hown) hg hw
  rw [List.take_succ_eq_append_getElem hk, List.map_append]
  exact h3.next hg.size hg.size fun _ _ _ => rfl

set_option maxRecDepth 100000 in
set_option maxHeartbeats 1600000 in
theorem fold_step {w0 : World} {vb : Nat} {P : Tr → Prop} {G : Tr → Tr} (hj : JSaid w0 vb P G) (t : Tr) (ih : ∀ i (hi : i < t.kids.length), FoldSaid w0 vb P G (t.kids[i])) : FoldSaid w0 vb P G t := by
  intro c w hb0 hk hz ho hn hp
  have HJ : Hid (JSaid w0 vb P G) := hj
  have HI : Hid (∀ i (hi : i < t.kids.length), FoldSaid w0 vb P G (t.kids[i])) := ih
  have HB0 : Hid (Below w0.heap.size w0 w) := hb0
  have HK : Hid (In w t.kids c) := hk
  have HT : Hid (I64 t.op ∧ I64 t.num) := ⟨ho, hn⟩
  have HZ : Hid (szL t.kids ≤ 1048576) := hz
  have HPT : Hid (AllT P t) := hp
  have hkl : t.kids.length ≤ 1048576 := by rw [szL_sum] at hz; omega
  clear hj ih hb0 ho hn hp hz
  obtain ⟨ad, cap, rfl, -, hm, -⟩ := hk
  unfold maxLen at hm
  obtain ⟨wb, hwb⟩ : ∃ wb : World, wb = ERow w (.slice ad t.kids.length cap) t.op t.num := ⟨_, rfl⟩
  obtain ⟨hs, hbw, hb0, hb1⟩ := eRow w (.slice ad t.kids.length cap) t.op t.num
  rw [← hwb] at hs hbw hb0 hb1
  have HWB : Hid (wb = (w.alloc (.cells #[.int .i64 t.op, .int .i64 t.num, .slice ad t.kids.length cap] 29)).alloc (.cells #[.int .i64 0, .int .i64 0, .slice none 0 0] 29)) := hwb
  have HS : Hid (wb.heap.size = w.heap.size + 2) := hs
  have HBW : Hid (Below w.heap.size w wb) := hbw
  have HBX : Hid (wb.heap[w.heap.size]? = some (.cells #[.int .i64 t.op, .int .i64 t.num, .slice ad t.kids.length cap] 29) ∧ wb.heap[w.heap.size + 1]? = some (.cells #[.int .i64 0, .int .i64 0, .slice none 0 0] 29)) := ⟨hb0, hb1⟩
  clear hwb hs hbw hb0 hb1
  go_enter Try.func60, Try.ntmps60
  go_wp2_with fail
  obtain ⟨iE, zE, hiE, hzE, hsE, hbE, hcE⟩ := infoE3
  have HE : Hid (Try.prog.info? 29 = some iE ∧ iE.zero = some zE ∧ iE.size = 3 ∧ iE.bytes = 40 ∧ zE.cells.size = 3) := ⟨hiE, hzE, hsE, hbE, hcE⟩
  clear hiE hzE hsE hbE hcE
  go_loopw [5, 11] (fun v i wr => ∃ k : Nat, k ≤ t.kids.length ∧ i = .int .i64 k ∧ OwnF wr (w.heap.size + 2) wr.heap.size ((t.kids.take k).map G) v ∧ Below wb.heap.size wb wr) (fun _ i _ => t.kids.length - (intOf i).toNat)
  case atStart =>
    rw [← HWB.out]
    exact ⟨0, Nat.zero_le _, rfl, OwnF.nil _ _ _, Below.refl _ _⟩
  case round =>
    obtain ⟨k, hk, rfl, hown, hb⟩ := hrel
    have HO : Hid (OwnF wr (w.heap.size + 2) wr.heap.size ((t.kids.take k).map G) u5) := hown
    have HB : Hid (Below wb.heap.size wb wr) := hb
    have hsz : w.heap.size + 2 ≤ wr.heap.size := by have := hb.size; have := HS.out; omega
    clear hown hb
    by_cases hlt : k < t.kids.length
    · obtain ⟨_, _, he, -, -, hr⟩ := (HK.out.next HBW.out).next (HB.out.mono (Nat.le_refl _))
      cases he
      rcases hr with hnil | ⟨bl, off, rfl, hbl, hr⟩
      · rw [hnil] at hlt; simp at hlt
      obtain ⟨p, q, r, e0, e1, e2, ht⟩ := RowOn.at t.kids off k hlt hr
      obtain ⟨rfl, rfl, io, iN, hkk⟩ := trOn_iff.1 ht
      have HKK : Hid (In wr t.kids[k].kids r) := hkk
      have HIO : Hid (I64 t.kids[k].op ∧ I64 t.kids[k].num) := ⟨io, iN⟩
      have HZK : Hid (szL t.kids[k].kids ≤ 1048576) := by have := szL_kids_lt t.kids k hlt; have := HZ.out; unfold Hid; omega
      have hbl' : bl < wr.heap.size := hbl
      obtain ⟨adk, capk, rfl, -, -, -⟩ := hkk
      clear ht hr io iN hbl
      obtain ⟨xs, hx⟩ := HO.out.row
      rw [List.length_map, List.length_take, Nat.min_eq_left (Nat.le_of_lt hlt)] at hx
      have HX : Hid (wr.ownsRow (w.heap.size + 2) 29 3 u5 k xs) := hx
      clear hx
      go_wp2_with (first
        | (go_at_call 60; go_must (refine (HI.out k hlt (.slice adk t.kids[k].kids.length capk) _ ?_ ?_ HZK.out HIO.out.1 HIO.out.2 (HPT.out.kid k hlt)).mono ?_); go_must (exact HB0.out.trans ((HBW.out.trans ((HB.out.trans ((box_below wr _).mono HB.out.size)).mono HBW.out.size)).mono HB0.out.size)); go_must (exact HKK.out.next (box_below wr _)); go_must (rintro e w1 ⟨v2, rfl, hv2, hg1, hg2, hb1⟩); go_must (rw [Deep.nblk_alloc] at hv2); go_must (have HV2 : Hid (Fresh w1 (wr.heap.size + 1) (G t.kids[k]).kids v2) := hv2); go_must (have HG2 : Hid (I64 (G t.kids[k]).op ∧ I64 (G t.kids[k]).num) := ⟨hg1, hg2⟩); go_must (have HB1 : Hid (Below wr.heap.size wr w1) := (box_below wr _).trans (hb1.mono (by rw [Deep.nblk_alloc]; omega))); go_must (obtain ⟨fp2, ⟨ad2, cap2, rfl, -, -, -⟩, -, -⟩ := hv2); go_must (have hz1 : wr.heap.size ≤ w1.heap.size := HB1.out.size); clear hg1 hg2 hb1)
        | (at_builtin; go_must (refine wpList_append_where _ rfl _ _ 27 rfl (w.heap.size + 2) 29 iE zE 3 40 Try.underlying27 HE.out.1 HE.out.2.1 HE.out.2.2.1 HE.out.2.2.2.1 HE.out.2.2.2.2 (by decide) u5 k xs rfl (own_keep HX.out (fun j _ hj => (Deep.blk_alloc_lt _ _ j (by omega)).trans (HB1.out.block j hj))) ⟨w1.heap.size, 0, none⟩ 1 1 [.int .i64 (G t.kids[k]).op, .int .i64 (G t.kids[k]).num, .slice ad2 (G t.kids[k]).kids.length cap2] rfl rfl (news3 w1 _ _ _) (by simp [Value.oneCell']) (by unfold maxLen; omega) (by omega) (by rw [Deep.nblk_alloc]; omega) (by omega) ?_); go_must (intro v' w3 hown' hgrow hwh); go_must (have HO3 : Hid (OwnF w3 (w.heap.size + 2) w3.heap.size ((t.kids.take (k + 1)).map G) v') := fold_push hlt HO.out hsz HB1.out HV2.out HG2.out.1 HG2.out.2 (own_keep HX.out (fun j _ hj => (Deep.blk_alloc_lt _ _ j (by omega)).trans (HB1.out.block j hj))) hown' hgrow hwh); go_must (have HB3 : Hid (Below wb.heap.size wb w3) := (by have h1 := HB.out; have h2 := HB1.out; exact ⟨by rw [hgrow.os]; exact h2.os.trans h1.os, by rw [hgrow.tape]; exact h2.tape.trans h1.tape, by rw [hgrow.output]; exact h2.output.trans h1.output, Nat.le_trans h1.size (Nat.le_trans h2.size (by have := hgrow.size; rw [Deep.nblk_alloc] at this; omega)), fun j hj => ((hgrow.block j (by rw [Deep.nblk_alloc]; have := h1.size; omega) (fun e => by have := own_block HX.out e; have := HS.out; omega)).trans (Deep.blk_alloc_lt _ _ j (by have := h1.size; omega))).trans ((h2.block j (by have := h1.size; omega)).trans (h1.block j hj))⟩)); clear hown' hgrow hwh))
      go_roundw
      case rel => exact ⟨k + 1, by omega, by go_num, HO3.out, HB3.out⟩
      case measure => simp [intOf]; omega
    · have hke : k = t.kids.length := by omega
      have HF : Hid (Fresh wr (w.heap.size + 2) (t.kids.map G) u5) := by
        have h := HO.out.fresh
        rw [hke, List.take_length] at h
        exact h
      have b0 := (HB.out.block w.heap.size (by have := HS.out; omega)).trans HBX.out.1
      have b1 := (HB.out.block (w.heap.size + 1) (by have := HS.out; omega)).trans HBX.out.2
      have c0 := cell_of_blk b0 0 _ rfl
      have c1 := cell_of_blk b0 1 _ rfl
      have c2 := cell_of_blk b0 2 _ rfl
      have HRB : Hid (wr.heap[w.heap.size + 1]? = some (.cells #[.int .i64 0, .int .i64 0, .slice none 0 0] 29)) := b1
      have HBA : Hid (Below w.heap.size w wr) := HBW.out.trans (HB.out.mono HBW.out.size)
      have HKA : Hid (In wr t.kids (.slice ad t.kids.length cap)) := HK.out.next HBA.out
      clear hke b0 b1
      go_wp2_with (go_at_call 61; go_must (refine (HJ.out t _ u5 (w.heap.size + 2) wr (HB0.out.trans (HBA.out.mono HB0.out.size)) HKA.out HF.out hsz HT.out.1 HT.out.2 ((allT_iff P t).1 HPT.out).1).mono ?_); go_must (rintro e w1 ⟨v2, rfl, hv2, hg1, hg2, hb1⟩); go_must (have HV2 : Hid (Fresh w1 (w.heap.size + 2) (G t).kids v2) := hv2); go_must (have HG2 : Hid (I64 (G t).op ∧ I64 (G t).num) := ⟨hg1, hg2⟩); go_must (have hrb := (hb1.block (w.heap.size + 1) (by omega)).trans HRB.out); go_must (have r0 := cell_of_blk hrb 0 _ rfl); go_must (have r1 := cell_of_blk hrb 1 _ rfl); go_must (have r2 := cell_of_blk hrb 2 _ rfl); go_must (have rf := fun i => frz_of_blk hrb i); go_must (have HB1 : Hid (Below w.heap.size w w1) := HBA.out.trans (hb1.mono HBA.out.size)); go_must (obtain ⟨fp2, ⟨ad2, cap2, rfl, -, -, -⟩, -, -⟩ := hv2); clear hg1 hg2 hb1 hrb)
      refine bodyPost_ret (v := .agg #[.int .i64 (G t).op, .int .i64 (G t).num, .slice ad2 (G t).kids.length cap2]) (by simp [results, Try.results60, go_sem, r0, r1, r2]) rfl ⟨_, rfl, ?_, HG2.out.1, HG2.out.2, ?_⟩
      · exact (((HV2.out.setCell (by show w.heap.size + 1 < _; omega) _).setCell (by show w.heap.size + 1 < _; omega) _).setCell (by show w.heap.size + 1 < _; omega) _).mono (by omega) (fun _ _ _ => rfl)
      · exact ((HB1.out.setCell (by simp) _).setCell (by simp) _).setCell (by simp) _

theorem fold_any {w0 : World} {vb : Nat} {P : Tr → Prop} {G : Tr → Tr} (hj : JSaid w0 vb P G) : ∀ (n : Nat) (t : Tr), szT t ≤ n → FoldSaid w0 vb P G t := by
  intro n
  induction n with
  | zero =>
    intro t h
    exact fold_step hj t fun i hi => absurd (szT_lt_szL t.kids i hi) (by rw [szT_eq] at h; omega)
  | succ n ih =>
    intro t h
    exact fold_step hj t fun i hi => ih _ (by have := szT_lt_szL t.kids i hi; rw [szT_eq] at h; omega)
theorem fold_calls {w0 : World} {vb : Nat} {P : Tr → Prop} {G : Tr → Tr} (hj : JSaid w0 vb P G) (t : Tr) : FoldSaid w0 vb P G t := fold_any hj _ t (Nat.le_refl _)
end Go.Proofs.Yticoegjackgldaa.foldSub
