/-
  THE MODEL's COPY OF AN EXPRESSION (l1Copy): the same tree in new memory; nothing that was there is changed.
-/
import Derived.Test.YthknbafcnobgdaaOwn
namespace Go.Proofs.Ythknbafcnobgdaa
set_option linter.unusedVariables false
set_option linter.unusedSimpArgs false
open Go.RowKit

def CpSaid (t : Tr) : Prop := ∀ (c : Value) (w : World), In w t.kids c → szL t.kids ≤ 1048576 → I64 t.op → I64 t.num → Calls Try.prog 57 #[.agg #[.int .i64 t.op, .int .i64 t.num, c]] w (NewTr t.op t.num t.kids w)

/-- what holds behind k rounds of a loop that appends to the Kids of an expression of its own: the expression's block, the row, and all else as it was -/
def ApRel (o n : Int) (ts : List Tr) (B lo : Nat) (v : Value) (wr : World) : Prop := OwnTr wr lo ts v ∧ wr.heap[B]? = some (.cells #[.int .i64 o, .int .i64 n, v] 37)

/-- the step: the call has handed back a tree in new memory, a block for it was laid, append went through, and the value was stored -/
theorem apRel_step {o n : Int} {ts : List Tr} {B lo : Nat} {v v' : Value} {w w1 w2 w3 : World} {t : Tr} {c : Value} (h : ApRel o n ts B lo v w) (hB : B < lo) (hlo : lo ≤ w.heap.size) (hb : Below w.heap.size w w1) (hk : KidsOn w1 (Btw w.heap.size w1.heap.size) t.kids c) (ho : I64 t.op) (hn : I64 t.num)
    (he : w2 = w1.alloc (.cells #[.int .i64 t.op, .int .i64 t.num, c] 37)) (xs : List Value) (hx : w2.ownsRow lo 37 3 v ts.length xs)
    (hown : w3.ownsRow lo 37 3 v' (ts.length + 1) (xs ++ [.int .i64 t.op, .int .i64 t.num, c])) (hg : w2.grownBy w3 v.ownBlock) (hw : v'.ownBlock = v.ownBlock ∨ ∃ g, v'.ownBlock = some g ∧ w2.heap.size ≤ g)
    (hxs : ∀ j (hj : j < ts.length), ∃ a b c, xs[j * 3]? = some a ∧ xs[j * 3 + 1]? = some b ∧ xs[j * 3 + 2]? = some c ∧ TrOn w2 (fun k => lo ≤ k ∧ k < w2.heap.size ∧ some k ≠ v.ownBlock) ts[j] a b c) :
    ApRel o n (ts ++ [t]) B lo v' (w3.setCell ⟨B, 2, none⟩ v') := by
  subst he
  have hsz := hb.size
  have hOB : ∀ k, v.ownBlock = some k → lo ≤ k ∧ k < w.heap.size := by
    obtain ⟨xs', h1, _⟩ := h.1
    exact h1.lt
  have h2 : OwnTr (w1.alloc (.cells #[.int .i64 t.op, .int .i64 t.num, c] 37)) lo ts v := ⟨xs, hx, hxs⟩
  have hn3 := h2.step (t := t) (a := .int .i64 t.op) (b := .int .i64 t.num) (c := c) xs hx (by rw [Deep.nblk_alloc]; omega) hxs
    (trOn_iff.2 ⟨rfl, rfl, ho, hn, hk.mono (fun k hk => ⟨by have := hk.1; omega, by rw [Deep.nblk_alloc]; have := hk.2; omega, fun e => by have := (hOB k e.symm).2; have := hk.1; omega⟩) (fun k hk => Deep.blk_alloc_lt _ _ _ hk.2)⟩) hown hg hw
  have hBv : some B ≠ v.ownBlock := fun e => by have := (hOB B e.symm).1; omega
  have hB3 : w3.heap[B]? = some (.cells #[.int .i64 o, .int .i64 n, v] 37) := by
    rw [hg.block B (by rw [Deep.nblk_alloc]; omega) hBv, Deep.blk_alloc_lt _ _ _ (by omega), hb.block B (by omega)]
    exact h.2
  refine ⟨hn3.next (by rw [size_setCell]; exact Nat.le_refl _) (fun k h1 h2 => Below.heap_setCell _ _ _ _ (by show k ≠ B; omega)), ?_⟩
  simp [World.setCell, Array.getElem?_modify, hB3]

theorem ApRel.drew {o n : Int} {ts : List Tr} {B lo : Nat} {v : Value} {w : World} (h : ApRel o n ts B lo v w) : ApRel o n ts B lo v w.drew := ⟨h.1.next (Nat.le_refl _) (fun _ _ _ => rfl), h.2⟩
/-- ahead of append: the row, in the world with the new tree's block -/
theorem apRel_mid {o n : Int} {ts : List Tr} {B lo : Nat} {v : Value} {w w1 : World} (h : ApRel o n ts B lo v w) (hb : Below w.heap.size w w1) (obj : Obj) :
    ∃ xs, (w1.alloc obj).ownsRow lo 37 3 v ts.length xs ∧ ∀ j (hj : j < ts.length), ∃ a b c, xs[j * 3]? = some a ∧ xs[j * 3 + 1]? = some b ∧ xs[j * 3 + 2]? = some c ∧ TrOn (w1.alloc obj) (fun k => lo ≤ k ∧ k < (w1.alloc obj).heap.size ∧ some k ≠ v.ownBlock) ts[j] a b c :=
  h.1.next (w' := w1.alloc obj) (by rw [Deep.nblk_alloc]; have := hb.size; omega) (fun k _ hk => (Deep.blk_alloc_lt _ _ _ (Nat.lt_of_lt_of_le hk hb.size)).trans (hb.block k hk))
/-- behind append: the expression's own block -/
theorem apRel_blk {o n : Int} {ts : List Tr} {B lo : Nat} {v : Value} {w w1 w3 : World} {obj : Obj} (h : ApRel o n ts B lo v w) (hB : B < lo) (hlo : lo ≤ w.heap.size) (hb : Below w.heap.size w w1) (hg : (w1.alloc obj).grownBy w3 v.ownBlock) :
    w3.heap[B]? = some (.cells #[.int .i64 o, .int .i64 n, v] 37) := by
  have hsz := hb.size
  have hOB : ∀ k, v.ownBlock = some k → lo ≤ k ∧ k < w.heap.size := by
    obtain ⟨xs', h1, _⟩ := h.1
    exact h1.lt
  have hBv : some B ≠ v.ownBlock := fun e => by have := (hOB B e.symm).1; omega
  rw [hg.block B (by rw [Deep.nblk_alloc]; omega) hBv, Deep.blk_alloc_lt _ _ _ (by omega), hb.block B (by omega)]
  exact h.2
/-- .. and every other block that was there -/
theorem apRel_other {o n : Int} {ts : List Tr} {B lo : Nat} {v : Value} {w w1 w3 : World} {obj : Obj} (h : ApRel o n ts B lo v w) (hb : Below w.heap.size w w1) (hg : (w1.alloc obj).grownBy w3 v.ownBlock) (k : Nat) (hk : k < lo) (hkw : k < w.heap.size) : w3.heap[k]? = w.heap[k]? := by
  have hsz := hb.size
  have hOB : ∀ k, v.ownBlock = some k → lo ≤ k ∧ k < w.heap.size := by
    obtain ⟨xs', h1, _⟩ := h.1
    exact h1.lt
  rw [hg.block k (by rw [Deep.nblk_alloc]; omega) (fun e => by have := (hOB k e.symm).1; omega), Deep.blk_alloc_lt _ _ _ (by omega), hb.block k hkw]

/-- what holds behind k rounds of the copy -/
def CpRel (t : Tr) (box : Value) (w : World) (k : Nat) (wr : World) : Prop :=
  ∃ v, ApRel t.op t.num (t.kids.take k) (w.heap.size + 2) (w.heap.size + 3) v wr ∧ wr.heap[w.heap.size]? = some (.cells #[.int .i64 t.op, .int .i64 t.num, box] 37) ∧
    wr.heap[w.heap.size + 1]? = some (.cells #[.int .i64 0, .int .i64 0, .slice none 0 0] 37) ∧ Below w.heap.size w wr ∧ w.heap.size + 3 ≤ wr.heap.size

theorem cpRel_start (t : Tr) (box : Value) (w : World) : CpRel t box w 0 (((w.alloc (.cells #[.int .i64 t.op, .int .i64 t.num, box] 37)).alloc (.cells #[.int .i64 0, .int .i64 0, .slice none 0 0] 37)).alloc (.cells #[.int .i64 t.op, .int .i64 t.num, .slice none 0 0] 37)) := by
  have e1 : (w.alloc (.cells #[.int .i64 t.op, .int .i64 t.num, box] 37)).heap.size = w.heap.size + 1 := Deep.nblk_alloc _ _
  have e2 : ((w.alloc (.cells #[.int .i64 t.op, .int .i64 t.num, box] 37)).alloc (.cells #[.int .i64 0, .int .i64 0, .slice none 0 0] 37)).heap.size = w.heap.size + 2 := by rw [Deep.nblk_alloc, e1]
  refine ⟨.slice none 0 0, ⟨by simpa using OwnTr.nil _ _, ?_⟩, ?_, ?_, ?_, ?_⟩
  · rw [← e2]; exact Deep.blk_alloc_new _ _
  · rw [Deep.blk_alloc_lt _ _ _ (by rw [e2]; omega), Deep.blk_alloc_lt _ _ _ (by rw [e1]; omega)]; exact Deep.blk_alloc_new _ _
  · rw [Deep.blk_alloc_lt _ _ _ (by rw [e2]; omega)]; rw [← e1]; exact Deep.blk_alloc_new _ _
  · exact (((Below.refl _ _).alloc (Nat.le_refl _) _).alloc (by rw [e1]; omega) _).alloc (by rw [e2]; omega) _
  · rw [Deep.nblk_alloc, e2]; omega



set_option maxRecDepth 100000 in
set_option maxHeartbeats 1600000 in
theorem cp_step (t : Tr) (ih : ∀ i (hi : i < t.kids.length), CpSaid (t.kids[i])) : CpSaid t := by
  intro c w hk hsz ho hn
  have HI : Hid (∀ i (hi : i < t.kids.length), CpSaid (t.kids[i])) := ih
  have HK : Hid (In w t.kids c) := hk
  have HZ : Hid (szL t.kids ≤ 1048576) := hsz
  clear ih hsz
  obtain ⟨ad, cap, rfl, hl, hm, -⟩ := hk
  unfold maxLen at hm
  go_enter Try.func57, Try.ntmps57
  go_wp2_with fail
  obtain ⟨iE, zE, hiE, hzE, hsE, hbE, hcE⟩ := infoE3
  have HE : Hid (Try.prog.info? 37 = some iE ∧ iE.zero = some zE ∧ iE.size = 3 ∧ iE.bytes = 40 ∧ zE.cells.size = 3) := ⟨hiE, hzE, hsE, hbE, hcE⟩
  clear hiE hzE hsE hbE hcE
  go_loopw [4] (fun i wr => ∃ k : Nat, k ≤ t.kids.length ∧ i = .int .i64 k ∧ CpRel t (.slice ad t.kids.length cap) w k wr) (fun i _ => t.kids.length - (intOf i).toNat)
  case atStart => exact ⟨0, Nat.zero_le _, rfl, cpRel_start t _ w⟩
  case round =>
    obtain ⟨k, hk, rfl, hcp⟩ := hrel
    obtain ⟨v, hap, hb0, hb1, hbl, hsz⟩ := hcp
    have HAP : Hid (ApRel t.op t.num (t.kids.take k) (w.heap.size + 2) (w.heap.size + 3) v wr) := hap
    have c2 := cell_of_blk hb0 2 _ rfl
    have o0 := cell_of_blk hap.2 0 _ rfl
    have o1 := cell_of_blk hap.2 1 _ rfl
    have o2 := cell_of_blk hap.2 2 _ rfl
    have f2 := frz_of_blk hap.2 2
    have HB0 : Hid (wr.heap[w.heap.size]? = some (.cells #[.int .i64 t.op, .int .i64 t.num, .slice ad t.kids.length cap] 37)) := hb0
    have HB1 : Hid (wr.heap[w.heap.size + 1]? = some (.cells #[.int .i64 0, .int .i64 0, .slice none 0 0] 37)) := hb1
    have HBW : Hid (Below w.heap.size w wr) := hbl
    clear hap hb0 hb1 hbl
    by_cases hlt : k < t.kids.length
    · obtain ⟨ad', cap', he, -, -, hr⟩ := HK.out.next HBW.out
      cases he
      rcases hr with hnil | ⟨bl, off, rfl, -, hr⟩
      · rw [hnil] at hlt; simp at hlt
      obtain ⟨p, q, r, e0, e1, e2, ht⟩ := RowOn.at t.kids off k hlt hr
      obtain ⟨rfl, rfl, io, iN, hkk⟩ := trOn_iff.1 ht
      have HKK : Hid (In wr t.kids[k].kids r) := hkk
      have HZK : Hid (szL t.kids[k].kids ≤ 1048576) := by have := szL_kids_lt t.kids k hlt; have := HZ.out; unfold Hid; omega
      clear hkk ht hr
      go_wp2_with fail
      have hkl : (t.kids.take k).length = k := by simp; omega
      have HKL : Hid ((t.kids.take k).length = k) := hkl
      have hkb : k < 1048576 := by have := HZ.out; rw [szL_sum] at this; omega
      clear hkl
      go_region_law (first
        | (go_simp; go_at_call 57; go_must (refine (HI.out k hlt r _ ?_ HZK.out io iN).mono ?_); go_must (exact HKK.out.drew); go_must (rintro e w1 ⟨v2, rfl, hv2, hbb⟩); go_must (obtain ⟨ad2, cap2, rfl, _, _, _⟩ := id hv2); go_must (have HV2 : Hid (KidsOn w1 (Btw wr.heap.size w1.heap.size) t.kids[k].kids (.slice ad2 t.kids[k].kids.length cap2)) := hv2); go_must (have HBB : Hid (Below wr.heap.size wr w1) := (Below.refl _ _).drew.trans hbb); go_must (have z2 := (HBB.out.cell (p := ⟨w.heap.size + 2, 2, none⟩) (by show w.heap.size + 2 < wr.heap.size; omega)).trans o2); go_must (have hz1 : w.heap.size + 2 < w1.heap.size := by have := HBB.out.size; omega); clear hv2 hbb; go_wp2_with fail)
        | (go_must (obtain ⟨xs, hx, hxs⟩ := apRel_mid HAP.out HBB.out (.cells #[.int .i64 t.kids[k].op, .int .i64 t.kids[k].num, .slice ad2 t.kids[k].kids.length cap2] 37)); go_must (have HX : Hid _ := hx); go_must (rw [HKL.out] at hx); go_must (refine step_append_where rfl (.tmp 18) (.tmp 25) 35 rfl (w.heap.size + 3) 37 iE zE 3 40 Try.underlying35 HE.out.1 HE.out.2.1 HE.out.2.2.1 HE.out.2.2.2.1 HE.out.2.2.2.2 (by decide) v k xs (by simp [Act.eval, Act.put]) hx ⟨w1.heap.size, 0, none⟩ 1 1 [.int .i64 t.kids[k].op, .int .i64 t.kids[k].num, .slice ad2 t.kids[k].kids.length cap2] (by simp [Act.eval, Act.put]) rfl (news3 w1 _ _ _) (by simp [Value.oneCell']) (by unfold maxLen; omega) (by omega) (by rw [Deep.nblk_alloc]; have := HBB.out.size; omega) (by omega) ?_); go_must (intro v' w3 hown hg hw); go_must (obtain ⟨g', c', rfl⟩ := Joins.ownsRow_form hown (by omega)); go_must (have hB3 := apRel_blk HAP.out (by omega) hsz HBB.out hg); go_must (have s2 := cell_of_blk hB3 2 _ rfl); go_must (have sf := frz_of_blk hB3 2); clear hB3))
      all_goals
        have HV : Hid (CpRel t (.slice (some ⟨bl, off, none⟩) t.kids.length cap) w (k + 1) (w3.setCell ⟨w.heap.size + 2, 2, none⟩ (.slice (some ⟨g', 0, none⟩) (k + 1) c'))) := by
          have hst := apRel_step (t := t.kids[k]) HAP.out (by omega) hsz HBB.out HV2.out io iN rfl xs HX.out (by rw [HKL.out]; exact hown) hg hw hxs
          have hoth := fun j hj hjw => apRel_other HAP.out HBB.out hg j hj hjw
          have hz3 : wr.heap.size ≤ w3.heap.size := by have := HBB.out.size; have := hg.size; rw [Deep.nblk_alloc] at this; omega
          refine ⟨.slice (some ⟨g', 0, none⟩) (k + 1) c', ?_, ?_, ?_, ?_, ?_⟩
          · rw [show t.kids.take (k + 1) = t.kids.take k ++ [t.kids[k]] from List.take_succ_eq_append_getElem hlt]
            exact hst
          · rw [Below.heap_setCell _ _ _ _ (by show w.heap.size ≠ w.heap.size + 2; omega), hoth _ (by omega) (by omega)]; exact HB0.out
          · rw [Below.heap_setCell _ _ _ _ (by show w.heap.size + 1 ≠ w.heap.size + 2; omega), hoth _ (by omega) (by omega)]; exact HB1.out
          · refine Below.setCell ?_ (by show w.heap.size ≤ w.heap.size + 2; omega) _
            have hbw := HBW.out
            have hbb := HBB.out
            exact ⟨by rw [hg.os]; exact hbb.os.trans hbw.os, by rw [hg.tape]; exact hbb.tape.trans hbw.tape, by rw [hg.output]; exact hbb.output.trans hbw.output, Nat.le_trans hbw.size hz3, fun j hj => (hoth j (by omega) (by omega)).trans (hbw.block j hj)⟩
          · rw [size_setCell]; omega
        clear hg hw hown hxs hx s2 sf
        go_wp2_with fail
        go_roundw
        case rel => exact ⟨k + 1, by omega, by go_num, HV.out⟩
        case measure => simp [intOf]; omega
    · have hke : t.kids.length = k := by omega
      have HN : Hid (KidsOn wr (Btw (w.heap.size + 3) wr.heap.size) t.kids v) := by
        have h1 := HAP.out.1
        rw [← hke, List.take_length] at h1
        exact h1.kids
      have hform : (v = .slice none 0 0 ∧ True) ∨ ∃ g c, v = .slice (some ⟨g, 0, none⟩) t.kids.length c := by
        obtain ⟨xs, h1, _⟩ := HAP.out.1
        rw [← hke, List.take_length] at h1
        rcases Joins.ownsRow_forms h1 with ⟨h, _⟩ | h
        · exact Or.inl ⟨h, trivial⟩
        · exact Or.inr h
      have r0 := cell_of_blk HB1.out 0 _ rfl
      have r1 := cell_of_blk HB1.out 1 _ rfl
      have r2 := cell_of_blk HB1.out 2 _ rfl
      have q0 := frz_of_blk HB1.out 0
      have q1 := frz_of_blk HB1.out 1
      have q2 := frz_of_blk HB1.out 2
      clear hke
      rcases hform with ⟨rfl, -⟩ | ⟨g, c', rfl⟩
      all_goals
        go_wp2_with fail
        refine bodyPost_ret (v := .agg #[.int .i64 t.op, .int .i64 t.num, _]) (by simp [results, Try.results57, go_sem, r0, r1, r2]; rfl) rfl ⟨_, rfl, ?_, ?_⟩
        · simp only [size_setCell]
          exact (((HN.out.setCell (by simp [Btw] <;> omega) _).setCell (by simp [Btw] <;> omega) _).setCell (by simp [Btw] <;> omega) _).mono (fun k hk => ⟨by have := hk.1; omega, hk.2⟩) (fun _ _ => rfl)
        · exact ((HBW.out.setCell (by simp) _).setCell (by simp) _).setCell (by simp) _

/-- THE COPY, FOR EVERY TREE -/
theorem cp_any : ∀ (n : Nat) (t : Tr), szT t ≤ n → CpSaid t := by
  intro n
  induction n with
  | zero =>
    intro t h
    exact cp_step t fun i hi => absurd (szT_lt_szL t.kids i hi) (by rw [szT_eq] at h; omega)
  | succ n ih =>
    intro t h
    exact cp_step t fun i hi => ih _ (by have := szT_lt_szL t.kids i hi; rw [szT_eq] at h; omega)
theorem cp_calls (t : Tr) : CpSaid t := cp_any _ t (Nat.le_refl _)
end Go.Proofs.Ythknbafcnobgdaa
