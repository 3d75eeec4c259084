/-
  THE PROGRAM's foldExpr AT CODE AND CompileExpr.
-/
import Derived.Test.YthknbafcnobgdaaImplCp
namespace Go.Proofs.Ythknbafcnobgdaa
set_option linter.unusedVariables false
set_option linter.unusedSimpArgs false
open Go.RowKit

theorem infoSl : (Try.prog.info? 25).map (fun i => (i.zero, i.size, i.bytes)) = some (some (.slice none 0 0), 1, 24) := by kernel_rfl
theorem infoSl1 : ∃ i z, Try.prog.info? 25 = some i ∧ i.zero = some z ∧ i.size = 1 ∧ i.bytes = 24 ∧ z.cells.size = 1 := by
  obtain ⟨i, hi, hzz⟩ := Option.map_eq_some_iff.1 infoSl
  simp only [Prod.mk.injEq] at hzz
  obtain ⟨hz, hs, hb⟩ := hzz
  exact ⟨i, _, hi, hz, hs, hb, rfl⟩
theorem sl_ne_code : (25 : TypeId) ≠ 66 := by decide
theorem news1 (w : World) (a : Value) (T : TypeId) (j : Nat) (u : Value) (h : [a][j]? = some u) : (w.alloc (.cells #[a] T)).cell? ((⟨w.heap.size, 0, none⟩ : Addr).add j) = some u := by
  rw [WideShapes.add_plain, Nat.zero_add]
  exact box_cell w #[a] _ j u (by simpa using h)
theorem own_grown2 {lo n size : Nat} {T : TypeId} {w0 W w6 : World} {v : Value} {xs : List Value} (hx : W.ownsRow lo T size v n xs) (hl : lo = w0.heap.size) (hb : Below w0.heap.size w0 W) (hg : W.grownBy w6 v.ownBlock) : Below w0.heap.size w0 w6 :=
  ⟨by rw [hg.os]; exact hb.os, by rw [hg.tape]; exact hb.tape, by rw [hg.output]; exact hb.output, Nat.le_trans hb.size hg.size, fun k hk => (hg.block k (Nat.lt_of_lt_of_le hk hb.size) (fun e => by have := own_block hx e; omega)).trans (hb.block k hk)⟩
/-- the codes of the first operands: a row of slices, each in a row of its own -/
def KRelC (lo : Nat) (ts : List Tr) (k : Nat) (v : Value) (wr : World) : Prop :=
  ∃ vs : List Value, wr.ownsRow lo 25 1 v k vs ∧ vs.length = k ∧ ∀ j (hj : j < ts.length) (_ : j < k), ∃ u, vs[j]? = some u ∧ StkP wr lo (cdT ts[j]) u
theorem row_ne {w : World} {lo lo' n : Nat} {cs : List Ins} {u v : Value} {xs : List Value} (h : StkP w lo cs u) (hx : w.ownsRow lo' 25 1 v n xs) {k : Nat} (hk : some k = u.ownBlock) : some k ≠ v.ownBlock := by
  intro e
  rcases h.2 with ⟨rfl, -⟩ | ⟨g, cap, cur, rfl, -, hh, -⟩
  · simp [Value.ownBlock] at hk
  · rcases hx.2 with ⟨rfl, -⟩ | ⟨g2, cap2, cur2, rfl, -, hh2, -⟩
    · simp [Value.ownBlock] at e
    · simp only [Value.ownBlock, Option.some.injEq] at hk e
      subst hk e
      rw [hh] at hh2
      simp only [Option.some.injEq, Obj.cells.injEq] at hh2
      exact sl_ne_code hh2.2.1.symm
theorem KRelC.next {lo k : Nat} {ts : List Tr} {v : Value} {w w' : World} (h : KRelC lo ts k v w) (hb : ∀ j, lo ≤ j → j < w.heap.size → w'.heap[j]? = w.heap[j]?) : KRelC lo ts k v w' := by
  obtain ⟨vs, h1, h2, h3⟩ := h
  refine ⟨vs, own_keep h1 hb, h2, fun j hj hk => ?_⟩
  obtain ⟨u, e, hs⟩ := h3 j hj hk
  exact ⟨u, e, hs.keep fun q hq => hb q (hs.lt hq).1 (hs.lt hq).2⟩
theorem KRelC.push {lo k : Nat} {ts : List Tr} {v v' u : Value} {w w3 : World} {xs : List Value} (h : KRelC lo ts k v w) (hk : k < ts.length) (hu : StkP w lo (cdT ts[k]) u) (hx : w.ownsRow lo 25 1 v k xs)
    (hown : w3.ownsRow lo 25 1 v' (k + 1) (xs ++ [u])) (hg : w.grownBy w3 v.ownBlock) : KRelC lo ts (k + 1) v' w3 := by
  obtain ⟨vs, h1, h2, h3⟩ := h
  have hvx : vs = xs := by
    rcases h1.2 with ⟨e, h0⟩ | ⟨g, c, cur, e, -, hh, -, -, -, htk⟩
    · have a1 := h1.1
      have a2 := hx.1
      rw [List.eq_nil_of_length_eq_zero (by omega : vs.length = 0), List.eq_nil_of_length_eq_zero (by omega : xs.length = 0)]
    · rcases hx.2 with ⟨e2, -⟩ | ⟨g2, c2, cur2, e2, -, hh2, -, -, -, htk2⟩
      · rw [e] at e2; cases e2
      · rw [e] at e2; cases e2
        rw [hh] at hh2
        cases hh2
        rw [← htk, ← htk2]
  subst hvx
  refine ⟨vs ++ [u], hown, by simp [h2], fun j hj hjk => ?_⟩
  by_cases hjl : j < k
  · obtain ⟨u', e, hs⟩ := h3 j hj hjl
    exact ⟨u', by rw [List.getElem?_append_left (by omega)]; exact e, hs.keep fun q hq => hg.block q (hs.lt hq).2 (row_ne hs hx hq)⟩
  · obtain rfl : j = k := by omega
    exact ⟨u, by rw [List.getElem?_append_right (by omega), h2]; simp, hu.keep fun q hq => hg.block q (hu.lt hq).2 (row_ne hu hx hq)⟩
theorem KRelC.sl {lo : Nat} {ts : List Tr} {v : Value} {w : World} (h : KRelC lo ts ts.length v w) : RowSl w (ts.map cdT) v := by
  obtain ⟨vs, h1, h2, h3⟩ := h
  rcases h1.2 with ⟨rfl, h0⟩ | ⟨g, cap, cur, rfl, -, hh, hn, hc, hs, htk⟩
  · have : ts = [] := List.eq_nil_of_length_eq_zero h0
    subst this
    exact ⟨none, 0, rfl, Nat.le_refl _, by simp [maxLen], Or.inl rfl⟩
  · refine ⟨_, cap, by rw [List.length_map], by rw [List.length_map]; exact hn, hc, Or.inr ⟨g, 0, rfl, (Array.getElem?_eq_some_iff.1 hh).1, fun i hi => ?_⟩⟩
    rw [List.length_map] at hi
    obtain ⟨u, e, hs'⟩ := h3 i hi hi
    refine ⟨u, ?_, by rw [List.getElem_map]; exact hs'.row.inn⟩
    rw [Nat.zero_add, h1.cellAt i (by omega)]
    exact e

def FdSaidC (t : Tr) : Prop := ∀ (c : Value) (w : World), In w t.kids c → 1 + szT t ≤ 1048576 → Calls Try.prog 54 #[.agg #[.int .i64 t.op, .int .i64 t.num, c], .func (.func 55) #[] #[]] w (CodeNew t w)
set_option maxRecDepth 100000 in
set_option maxHeartbeats 1600000 in
theorem fdC_step (t : Tr) (ih : ∀ i (hi : i < t.kids.length), FdSaidC (t.kids[i])) : FdSaidC t := by
  intro c w hk hz
  have HI := mkHid ih
  have HK := mkHid hk
  have hkl : t.kids.length ≤ szT t := by rw [szT_eq, szL_sum]; omega
  obtain ⟨ad, cap, rfl, -, hm, -⟩ := hk
  unfold maxLen at hm
  obtain ⟨wb, hwb⟩ : ∃ wb : World, wb = w.alloc (.cells #[.int .i64 t.op, .int .i64 t.num, .slice ad t.kids.length cap] 37) := ⟨_, rfl⟩
  have HWB := mkHid hwb
  have HBW : Hid (Below w.heap.size w wb) := by rw [hwb]; exact box_below _ _
  have HBX : Hid (wb.heap[w.heap.size]? = some (.cells #[.int .i64 t.op, .int .i64 t.num, .slice ad t.kids.length cap] 37)) := by rw [hwb]; exact Deep.blk_alloc_new _ _
  have HSB : Hid (wb.heap.size = w.heap.size + 1) := by rw [hwb]; exact Deep.nblk_alloc _ _
  obtain ⟨iE, zE, hII⟩ := infoSl1
  have HII := mkHid hII
  clear ih hwb hII
  go_enter Try.func54, Try.ntmps54
  go_wp2_with fail
  rw [← HWB.out]
  go_loopw [5, 11] (fun v i wr => ∃ k : Nat, k ≤ t.kids.length ∧ i = .int .i64 k ∧ KRelC wb.heap.size t.kids k v wr ∧ Below wb.heap.size wb wr) (fun _ i _ => t.kids.length - (intOf i).toNat)
  case atStart => exact ⟨0, Nat.zero_le _, rfl, ⟨[], World.ownsRow_nil _ _ _ _, rfl, fun j _ hj => absurd hj (by omega)⟩, Below.refl _ _⟩
  case round =>
    obtain ⟨k, hk, rfl, hrel, hb⟩ := hrel
    have HR := mkHid hrel
    have HB := mkHid hb
    have hbx := (hb.block w.heap.size (by have := HSB.out; omega)).trans HBX.out
    have r0 := cell_of_blk hbx 0 _ rfl
    have r1 := cell_of_blk hbx 1 _ rfl
    have r2 := cell_of_blk hbx 2 _ rfl
    have HKR : Hid (In wr t.kids (.slice ad t.kids.length cap)) := (HK.out.next HBW.out).next hb
    obtain ⟨xs, hx⟩ : ∃ xs, wr.ownsRow wb.heap.size 25 1 u5 k xs := ⟨hrel.choose, hrel.choose_spec.1⟩
    have HX := mkHid hx
    obtain ⟨adu, capu, rfl⟩ : ∃ ad cap, u5 = .slice ad k cap := by
      rcases hx.2 with ⟨e, h0⟩ | ⟨g, cap, cur, e, -⟩
      · exact ⟨none, 0, by rw [e, h0]⟩
      · exact ⟨_, _, e⟩
    clear hrel hb hbx hx
    by_cases hlt : k < t.kids.length
    · obtain ⟨_, _, he, -, -, hr⟩ := HKR.out
      cases he
      rcases hr with hnil | ⟨bl, off, rfl, hbl, hr⟩
      · rw [hnil] at hlt; simp at hlt
      obtain ⟨p, q, r, e0, e1, e2, ht⟩ := RowOn.at t.kids off k hlt hr
      obtain ⟨rfl, rfl, -, -, hkk⟩ := trOn_iff.1 ht
      have HKK := mkHid hkk
      obtain ⟨adk, capk, rfl, -, -, -⟩ := hkk
      have HZK : Hid (1 + szT t.kids[k] ≤ 1048576) := by
        have h1 := szT_lt_szL t.kids k hlt
        have h3 := szT_eq t
        unfold Hid
        omega
      clear hr ht hbl
      go_wp2_with (first
        | (go_at_call 54; go_must (refine (HI.out k hlt _ _ (HKK.out.next (box_below wr _)) HZK.out).mono ?_); go_must (rintro e w1 ⟨v1, rfl, hst1, hb1⟩); go_must (have HS1 : Hid (StkP w1 wb.heap.size (cdT t.kids[k]) v1) := hst1.lower (by rw [Deep.nblk_alloc]; have := HB.out.size; omega)); go_must (have HB1 : Hid (Below wr.heap.size wr w1) := (box_below wr _).trans (hb1.mono (by rw [Deep.nblk_alloc]; omega))); go_must (obtain ⟨ad1, n1, cap1, rfl⟩ : ∃ ad n cap, v1 = .slice ad n cap := ⟨_, _, _, hst1.form.choose_spec.choose_spec⟩); clear hst1 hb1)
        | (at_builtin; go_must (refine wpList_append_where _ rfl _ _ 80 rfl wb.heap.size 25 iE zE 1 24 Try.underlying80 HII.out.1 HII.out.2.1 HII.out.2.2.1 HII.out.2.2.2.1 HII.out.2.2.2.2 (by decide) (.slice adu k capu) k xs rfl (own_keep HX.out (fun j _ hj => (Deep.blk_alloc_lt _ _ j (by have := HB1.out.size; omega)).trans (HB1.out.block j hj))) ⟨w1.heap.size, 0, none⟩ 1 1 [.slice ad1 n1 cap1] rfl rfl (news1 w1 _ _) (by simp [Value.oneCell']) (by unfold maxLen; omega) (by omega) (by rw [Deep.nblk_alloc]; have := HB.out.size; have := HB1.out.size; omega) (by omega) ?_); go_must (intro v' w3 hown hgrow hwh); go_must (have HR3 : Hid (KRelC wb.heap.size t.kids (k + 1) v' w3) := KRelC.push (HR.out.next fun j _ hj => (Deep.blk_alloc_lt _ _ j (by have := HB1.out.size; omega)).trans (HB1.out.block j hj)) hlt (HS1.out.alloc _) (own_keep HX.out (fun j _ hj => (Deep.blk_alloc_lt _ _ j (by have := HB1.out.size; omega)).trans (HB1.out.block j hj))) hown hgrow); go_must (have HB3 : Hid (Below wb.heap.size wb w3) := own_grown2 (own_keep HX.out (fun j _ hj => (Deep.blk_alloc_lt _ (.cells #[.slice ad1 n1 cap1] 25) j (by have := HB1.out.size; omega)).trans (HB1.out.block j hj))) rfl ((HB.out.trans (HB1.out.mono HB.out.size)).alloc (Nat.le_trans HB.out.size HB1.out.size) _) hgrow); clear hown hgrow hwh))
      go_roundw
      case rel => exact ⟨k + 1, by omega, by go_num, HR3.out, HB3.out⟩
      case measure => simp [intOf]; omega
    · have hke : k = t.kids.length := by omega
      have HSL : Hid (RowSl wr (t.kids.map cdT) (.slice adu k capu)) := by
        have h := HR.out
        rw [hke] at h ⊢
        exact h.sl
      have HBA : Hid (Below w.heap.size w wr) := HBW.out.trans (HB.out.mono HBW.out.size)
      clear hke
      go_wp2_with fail
      refine (join_calls t _ _ wr ⟨_, _, rfl⟩ HSL.out hz).mono ?_
      rintro e w2 ⟨v2, rfl, hst2, hb2⟩
      have HS2 : Hid (StkP w2 w.heap.size (cdT t) v2) := hst2.lower HBA.out.size
      have HB2 : Hid (Below w.heap.size w w2) := HBA.out.trans (hb2.mono HBA.out.size)
      obtain ⟨ad2, n2, cap2, rfl⟩ : ∃ ad n cap, v2 = .slice ad n cap := ⟨_, _, _, hst2.form.choose_spec.choose_spec⟩
      clear hst2 hb2
      go_wp2_with fail
      go_ret
      exact ⟨_, rfl, HS2.out, HB2.out⟩
theorem fdC_any : ∀ (n : Nat) (t : Tr), szT t ≤ n → FdSaidC t := by
  intro n
  induction n with
  | zero =>
    intro t h
    exact fdC_step t fun i hi => absurd (szT_lt_szL t.kids i hi) (by rw [szT_eq] at h; omega)
  | succ n ih =>
    intro t h
    exact fdC_step t fun i hi => ih _ (by have := szT_lt_szL t.kids i hi; rw [szT_eq] at h; omega)
theorem fdC_calls (t : Tr) : FdSaidC t := fdC_any _ t (Nat.le_refl _)

set_option maxRecDepth 100000 in
set_option maxHeartbeats 1600000 in
theorem implComp_calls (t : Tr) (c : Value) (w : World) (hk : In w t.kids c) : Calls Try.prog 17 #[.agg #[.int .i64 t.op, .int .i64 t.num, c]] w (CompGot (compO t) w) := by
  have HK := mkHid hk
  obtain ⟨ad, cap, rfl, -, -, -⟩ := hk
  obtain ⟨wb, hwb⟩ : ∃ wb : World, wb = w.alloc (.cells #[.int .i64 t.op, .int .i64 t.num, .slice ad t.kids.length cap] 37) := ⟨_, rfl⟩
  have HWB := mkHid hwb
  have HBW : Hid (Below w.heap.size w wb) := by rw [hwb]; exact box_below _ _
  have HBX : Hid (wb.heap[w.heap.size]? = some (.cells #[.int .i64 t.op, .int .i64 t.num, .slice ad t.kids.length cap] 37)) := by rw [hwb]; exact Deep.blk_alloc_new _ _
  have HQ := mkHid (fits_calls t (.slice ad t.kids.length cap) wb (HK.out.next HBW.out))
  clear hwb
  cases hv : validB t 4 6 with
  | false =>
    have HV : Hid (compO t = ([], false)) := by unfold Hid compO; rw [hv]; rfl
    rw [hv] at HQ
    clear hv
    go_enter Try.func17, Try.ntmps17
    go_wp2_with fail
    rw [← HWB.out]
    refine HQ.out.mono ?_
    rintro e w1 ⟨rfl, hb⟩
    have HB1 : Hid (Below w.heap.size w w1) := HBW.out.trans (hb.mono HBW.out.size)
    clear hb
    go_wp2_with fail
    go_ret2
    rw [HV.out]
    exact ⟨_, rfl, InsRow.none _ _, HB1.out⟩
  | true =>
    have HV : Hid (compO t = (cdT t, true)) := by unfold Hid compO; rw [hv]; rfl
    have HZ : Hid (1 + szT t ≤ 60) := by
      simp only [validB, Bool.and_eq_true, decide_eq_true_eq] at hv
      exact hv.2.2
    rw [hv] at HQ
    clear hv
    go_enter Try.func17, Try.ntmps17
    go_wp2_with fail
    rw [← HWB.out]
    refine HQ.out.mono ?_
    rintro e w1 ⟨rfl, hb⟩
    have HB1 : Hid (Below w.heap.size w w1) := HBW.out.trans (hb.mono HBW.out.size)
    have hbx := (hb.block w.heap.size (Array.getElem?_eq_some_iff.1 HBX.out).1).trans HBX.out
    have r0 := cell_of_blk hbx 0 _ rfl
    have r1 := cell_of_blk hbx 1 _ rfl
    have r2 := cell_of_blk hbx 2 _ rfl
    clear hb hbx
    go_wp2_with fail
    refine (fdC_calls t _ w1 (HK.out.next HB1.out) (by have := HZ.out; omega)).mono ?_
    rintro e w2 ⟨v2, rfl, hst2, hb2⟩
    have HS2 : Hid (StkP w2 w.heap.size (cdT t) v2) := hst2.lower HB1.out.size
    have HB2 : Hid (Below w.heap.size w w2) := HB1.out.trans (hb2.mono HB1.out.size)
    obtain ⟨ad2, n2, cap2, rfl⟩ : ∃ ad n cap, v2 = .slice ad n cap := ⟨_, _, _, hst2.form.choose_spec.choose_spec⟩
    clear hst2 hb2
    go_wp2_with fail
    go_ret2
    rw [HV.out]
    exact ⟨_, rfl, HS2.out.row, HB2.out⟩
end Go.Proofs.Ythknbafcnobgdaa
