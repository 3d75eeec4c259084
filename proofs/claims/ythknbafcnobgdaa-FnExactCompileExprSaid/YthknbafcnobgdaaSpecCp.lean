/-
  THE MODEL's l8Compile AND CompileExpr.
-/
import Derived.Test.YthknbafcnobgdaaInsP
import Derived.Test.YthknbafcnobgdaaSpecSubst
namespace Go.Proofs.Ythknbafcnobgdaa
set_option linter.unusedVariables false
set_option linter.unusedSimpArgs false
open Go.RowKit

def CompSaid (t : Tr) : Prop := ∀ (out : List Ins) (v c : Value) (lo : Nat) (w : World), StkP w lo out v → KidsOn w (Lt lo) t.kids c → lo ≤ w.heap.size → out.length + 1 + szT t ≤ 1048576 →
  Calls Try.prog 51 #[v, .agg #[.int .i64 t.op, .int .i64 t.num, c]] w fun e w' => ∃ v', e = .returned v' ∧ GrowK w lo (out ++ cdT t) v v' w'

set_option maxRecDepth 100000 in
set_option maxHeartbeats 1600000 in
theorem comp_step (t : Tr) (ih : ∀ i (hi : i < t.kids.length), CompSaid (t.kids[i])) : CompSaid t := by
  intro out v c lo w hst hk hlo hz
  have HI := mkHid ih
  have HK := mkHid hk
  have HST := mkHid hst
  have hlz : t.kids.length ≤ szT t := by rw [szT_eq, szL_sum]; omega
  obtain ⟨ad, cap, rfl, -, hm, -⟩ := hk
  unfold maxLen at hm
  obtain ⟨adv, capv, rfl⟩ := hst.form
  obtain ⟨wb, hwb⟩ : ∃ wb : World, wb = w.alloc (.cells #[.int .i64 t.op, .int .i64 t.num, .slice ad t.kids.length cap] 37) := ⟨_, rfl⟩
  have HWB := mkHid hwb
  have HBW : Hid (Below w.heap.size w wb) := by rw [hwb]; exact box_below _ _
  have HBX : Hid (wb.heap[w.heap.size]? = some (.cells #[.int .i64 t.op, .int .i64 t.num, .slice ad t.kids.length cap] 37)) := by rw [hwb]; exact Deep.blk_alloc_new _ _
  have HSB : Hid (wb.heap.size = w.heap.size + 1) := by rw [hwb]; exact Deep.nblk_alloc _ _
  have HS0 : Hid (StkP wb lo out (.slice adv out.length capv)) := by rw [hwb]; exact hst.alloc _
  have HNV : Hid (some w.heap.size ≠ (Value.slice adv out.length capv).ownBlock) := fun e => by have := (HST.out.lt e).2; omega
  clear ih hst hwb
  go_enter Try.func51, Try.ntmps51
  go_wp2_with fail
  rw [← HWB.out]
  go_loopw [0, 5] (fun o i wr => ∃ k : Nat, k ≤ t.kids.length ∧ i = .int .i64 k ∧ GrowK wb lo (out ++ cdL (t.kids.take k)) (.slice adv out.length capv) o wr) (fun _ i _ => t.kids.length - (intOf i).toNat)
  case atStart => exact ⟨0, Nat.zero_le _, rfl, by simpa [cdL] using GrowK.refl HS0.out⟩
  case round =>
    obtain ⟨k, hk, rfl, hg⟩ := hrel
    obtain ⟨os, hos⟩ : ∃ os, os = out ++ cdL (t.kids.take k) := ⟨_, rfl⟩
    have HOS := mkHid hos
    rw [← hos] at hg
    clear hos
    have HG := mkHid hg
    obtain ⟨ado, capo, rfl⟩ := hg.1.form
    have hbx := (hg.other (by have := HSB.out; omega) HNV.out).trans HBX.out
    have r0 := cell_of_blk hbx 0 _ rfl
    have r1 := cell_of_blk hbx 1 _ rfl
    have r2 := cell_of_blk hbx 2 _ rfl
    have HKR : Hid (KidsOn wr (Lt lo) t.kids (.slice ad t.kids.length cap)) := HK.out.mono (fun _ h => h) fun j (hj : j < lo) => (hg.other (by have := HSB.out; omega) (fun e => by have := (HS0.out.lt e).1; omega)).trans (HBW.out.block j (by omega))
    have hsz : lo ≤ wr.heap.size := by have h1 := hg.2.1.size; have := HSB.out; omega
    clear hg hbx
    by_cases hlt : k < t.kids.length
    · obtain ⟨_, _, he, -, -, hr⟩ := HKR.out
      cases he
      rcases hr with hnil | ⟨bl, off, rfl, hbl, hr⟩
      · rw [hnil] at hlt; simp at hlt
      obtain ⟨p, q, r, e0, e1, e2, ht⟩ := RowOn.at t.kids off k hlt hr
      obtain ⟨rfl, rfl, -, -, hkk⟩ := trOn_iff.1 ht
      have HKK := mkHid hkk
      have HE := mkHid (cdL_take_succ t.kids k hlt)
      have HZK : Hid (os.length + 1 + szT t.kids[k] ≤ 1048576) := by
        have h1 := szL_take_succ t.kids k hlt
        have h2 := szL_take_le t.kids (k + 1)
        have h3 := szT_eq t
        unfold Hid
        rw [HOS.out, List.length_append, cdL_length]
        omega
      clear hr ht hkk hbl
      go_wp2_with fail
      refine (HI.out k hlt _ _ _ lo wr HG.out.1 HKK.out hsz HZK.out).mono ?_
      rintro e w1 ⟨v1, rfl, hg1⟩
      have HG1 : Hid (GrowK wb lo (out ++ cdL (t.kids.take (k + 1))) (.slice adv out.length capv) v1 w1) := by rw [HE.out, ← List.append_assoc, ← HOS.out]; exact HG.out.trans hg1
      obtain ⟨ad1, n1, cap1, rfl⟩ : ∃ ad n cap, v1 = .slice ad n cap := ⟨_, _, _, hg1.1.form.choose_spec.choose_spec⟩
      clear hg1
      go_wp2_with fail
      go_roundw
      case rel => exact ⟨k + 1, by omega, by go_num, HG1.out⟩
      case measure => simp [intOf]; omega
    · have hke : k = t.kids.length := by omega
      have HL : Hid (os.length + 1 ≤ 1048576) := by
        have h3 := szT_eq t
        unfold Hid
        rw [HOS.out, hke, List.take_length, List.length_append, cdL_length]
        omega
      have HE : Hid (out ++ cdT t = os ++ [⟨t.op, t.num⟩]) := by rw [Hid, HOS.out, hke, List.take_length, cdT_eq, List.append_assoc]
      have hlen := HL.out
      obtain ⟨iE, zE, hII⟩ := infoK2
      have HII := mkHid hII
      clear hke hII
      go_wp2_with (at_builtin; go_must (refine wpList_append_where _ rfl _ _ 25 rfl lo 66 iE zE 2 16 Try.underlying25 HII.out.1 HII.out.2.1 HII.out.2.2.1 HII.out.2.2.2.1 HII.out.2.2.2.2 (by decide) (.slice ado os.length capo) os.length (insV os) rfl (HG.out.1.alloc _) ⟨wr.heap.size, 0, none⟩ 1 1 [.int .i64 t.op, .int .i64 t.num] rfl rfl (news2 wr _ _ _) (by simp [Value.oneCell']) (by unfold maxLen; omega) (by omega) (by rw [Deep.nblk_alloc]; omega) (by omega) ?_); go_must (intro v' w3 hown hgrow hwh); go_must (have HG3 : Hid (GrowK wb lo (out ++ cdT t) (.slice adv out.length capv) v' w3) := by rw [HE.out]; exact HG.out.trans (GrowK.from' (box_below wr _) ⟨by unfold StkP; rw [insV_append, List.length_append]; exact hown, hgrow, hwh⟩)); clear hown hgrow hwh)
      go_ret
      exact ⟨_, rfl, HG3.out.from' HBW.out⟩
theorem comp_any : ∀ (n : Nat) (t : Tr), szT t ≤ n → CompSaid t := by
  intro n
  induction n with
  | zero =>
    intro t h
    exact comp_step t fun i hi => absurd (szT_lt_szL t.kids i hi) (by rw [szT_eq] at h; omega)
  | succ n ih =>
    intro t h
    exact comp_step t fun i hi => ih _ (by have := szT_lt_szL t.kids i hi; rw [szT_eq] at h; omega)
theorem comp_calls (t : Tr) : CompSaid t := comp_any _ t (Nat.le_refl _)

/-- the code of a valid expression -/
def compO (t : Tr) : List Ins × Bool := if validB t 4 6 = true then (cdT t, true) else ([], false)
/-- code in new memory, and whether there is one -/
def CompGot (r : List Ins × Bool) (w : World) (e : Ending) (w' : World) : Prop := ∃ v, e = .returned (.tuple #[v, .bool r.2]) ∧ InsRow w' w.heap.size r.1 v ∧ Below w.heap.size w w'

set_option maxRecDepth 100000 in
set_option maxHeartbeats 1600000 in
theorem specComp_calls (t : Tr) (c : Value) (w : World) (hk : In w t.kids c) : Calls Try.prog 15 #[.agg #[.int .i64 t.op, .int .i64 t.num, c]] w (CompGot (compO t) w) := by
  have HK := mkHid hk
  obtain ⟨ad, cap, rfl, -, -, -⟩ := hk
  obtain ⟨wb, hwb⟩ : ∃ wb : World, wb = w.alloc (.cells #[.int .i64 t.op, .int .i64 t.num, .slice ad t.kids.length cap] 37) := ⟨_, rfl⟩
  have HWB := mkHid hwb
  have HBW : Hid (Below w.heap.size w wb) := by rw [hwb]; exact box_below _ _
  have HBX : Hid (wb.heap[w.heap.size]? = some (.cells #[.int .i64 t.op, .int .i64 t.num, .slice ad t.kids.length cap] 37)) := by rw [hwb]; exact Deep.blk_alloc_new _ _
  have HQ := mkHid (any_calls t (.slice ad t.kids.length cap) wb (HK.out.next HBW.out))
  clear hwb
  cases hv : validB t 4 6 with
  | false =>
    have HV : Hid (compO t = ([], false)) := by unfold Hid compO; rw [hv]; rfl
    rw [hv] at HQ
    clear hv
    go_enter Try.func15, Try.ntmps15
    go_wp2_with fail
    rw [← HWB.out]
    refine HQ.out.mono ?_
    rintro e w1 ⟨rfl, hb⟩
    have HB1 : Hid (Below w.heap.size w w1) := HBW.out.trans (hb.mono HBW.out.size)
    clear hb
    go_wp2_with fail
    go_ret2
    rw [HV.out]
    exact ⟨_, rfl, (StkP.nil w1 w.heap.size HB1.out.size).row, HB1.out.alloc HB1.out.size _⟩
  | true =>
    have HV : Hid (compO t = (cdT t, true)) := by unfold Hid compO; rw [hv]; rfl
    have HZ : Hid (1 + szT t ≤ 60) := by
      simp only [validB, Bool.and_eq_true, decide_eq_true_eq] at hv
      exact hv.2.2
    rw [hv] at HQ
    clear hv
    go_enter Try.func15, Try.ntmps15
    go_wp2_with fail
    rw [← HWB.out]
    refine HQ.out.mono ?_
    rintro e w1 ⟨rfl, hb⟩
    have HB1 : Hid (Below w.heap.size w w1) := HBW.out.trans (hb.mono HBW.out.size)
    have hbx := (hb.block w.heap.size (Array.getElem?_eq_some_iff.1 HBX.out).1).trans HBX.out
    have HBA : Hid (Below w1.heap.size w1 (w1.alloc (.cells #[] 66))) := box_below _ _
    have r0 := cell_of_blk hbx 0 _ rfl
    have r1 := cell_of_blk hbx 1 _ rfl
    have r2 := cell_of_blk hbx 2 _ rfl
    have s0 := old_cell r0 (.cells #[] 66)
    have s1 := old_cell r1 (.cells #[] 66)
    have s2 := old_cell r2 (.cells #[] 66)
    have HS1 : Hid (StkP (w1.alloc (.cells #[] 66)) w1.heap.size [] (.slice (some ⟨w1.heap.size, 0, none⟩) 0 0)) := StkP.nil w1 _ (Nat.le_refl _)
    have HK1 : Hid (KidsOn (w1.alloc (.cells #[] 66)) (Lt w1.heap.size) t.kids (.slice ad t.kids.length cap)) := (HK.out.next HB1.out).mono (fun _ h => h) fun j (hj : j < _) => HBA.out.block j hj
    clear hb hbx
    go_wp2_with fail
    refine (comp_calls t [] _ _ w1.heap.size _ HS1.out HK1.out HBA.out.size (by have := HZ.out; simp; omega)).mono ?_
    rintro e w2 ⟨v2, rfl, hg⟩
    have HG := mkHid hg
    obtain ⟨ad2, cap2, rfl⟩ := hg.1.form
    clear hg
    go_wp2_with fail
    go_ret2
    rw [HV.out]
    refine ⟨_, rfl, (HG.out.1.row).keep HB1.out.size (fun _ _ _ => rfl), ?_⟩
    have h1 : Below w1.heap.size w1 w2 := HBA.out.trans ((HG.out.below (fun k hk => (HS1.out.lt hk).1) HBA.out.size))
    exact HB1.out.trans (h1.mono HB1.out.size)
end Go.Proofs.Ythknbafcnobgdaa
