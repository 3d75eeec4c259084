/-
  THE LAWS' OWN MARKING OF TREES, THE WALK: markExprS, markExpr.
-/
import Derived.Test.YtiipcgnkfhjpeaaGreatDoorMgExactEvalRun16
import Derived.Test.YtiipcgnkfhjpeaaGreatDoorMgExactEvalRun48
import Derived.Test.YtiipcgnkfhjpeaaGreatDoorMgExactEvalRun29
import Derived.Test.YtiipcgnkfhjpeaaGreatDoorMgExactEvalRun1
import Derived.Test.YtiipcgnkfhjpeaaGreatDoorMgExactEvalRun2
import Derived.Test.YtiipcgnkfhjpeaaGreatDoorMgExactEvalRun3
import Derived.Deep.RegionHeld3
namespace Go.Proofs.YtiipcgnkfhjpeaaGreatDoor
set_option linter.unusedVariables false
set_option linter.unusedSimpArgs false
open Go.RowKit

/-- the contract of markExprS at one list -/
def MarkSSaid (ks : List Tr) : Prop := ∀ (fp : List Nat) (c : Value) (k : Int) (w : World), KidsFp w 48 ks fp c → fp.Nodup → 0 ≤ k → k + 2 * (szL ks : Int) ≤ 1152921504606846976 →
  Calls Tryz.prog 40 #[c, .int .i64 k] w fun e w' => e = .returned (.int .i64 (k + 2 * (szL ks : Int))) ∧ KidsFp w' 48 (labL ks k) fp c ∧ ButL fp w w'

/-- a list of which the first j elements are marked -/
def Half (ks : List Tr) (k : Int) (j : Nat) (ms : List Tr) : Prop := ms.length = ks.length ∧ ∀ i (hi : i < ks.length) (hm : i < ms.length), ms[i] = if i < j then .node (labAt ks k i) (labAt ks k i + 1) (labL ks[i].kids (labAt ks k i + 2)) else ks[i]
theorem Half.zero (ks : List Tr) (k : Int) : Half ks k 0 ks := ⟨rfl, fun i hi hm => by simp⟩
theorem Half.step {ks ms : List Tr} {k : Int} {j : Nat} (h : Half ks k j ms) (hj : j < ks.length) : Half ks k (j + 1) (ms.set j (.node (labAt ks k j) (labAt ks k j + 1) (labL ks[j].kids (labAt ks k j + 2)))) := by
  refine ⟨by rw [List.length_set]; exact h.1, fun i hi hm => ?_⟩
  rw [List.getElem_set]
  by_cases hij : j = i
  · subst hij; simp
  · rw [if_neg hij, h.2 i hi (by rw [h.1]; exact hi)]
    by_cases hlt : i < j
    · rw [if_pos hlt, if_pos (by omega)]
    · rw [if_neg hlt, if_neg (by omega)]
theorem Half.done {ks ms : List Tr} {k : Int} (h : Half ks k ks.length ms) : ms = labL ks k := by
  refine List.ext_getElem (by rw [h.1, labL_length]) fun i h1 h2 => ?_
  have hi : i < ks.length := by rw [← h.1]; exact h1
  rw [h.2 i hi h1, if_pos hi, labL_get ks k i hi]
theorem Half.at {ks ms : List Tr} {k : Int} {j : Nat} (h : Half ks k j ms) (hj : j < ks.length) (hm : j < ms.length) : ms[j] = ks[j] := by rw [h.2 j hj hm, if_neg (by omega)]

/-- one round's worlds -/
theorem markS_after {T : TypeId} {w w1 : World} {bl off : Nat} {ks ms : List Tr} {fps : List (List Nat)} {C : Array Value} {k : Int} {j : Nat} {f : List Nat} {r : Value} (hC : w.heap[bl]? = some (.cells C T)) (hr : RowFp w T bl off ms fps) (hn : (bl :: fps.flatten).Nodup)
    (hk : 0 ≤ labAt ks k j ∧ labAt ks k j ≤ 1152921504606846976) (hj : j < ks.length) (hh : Half ks k j ms) (hf : fps[j]? = some f) (hc : w.cell? ⟨bl, off + j * 3 + 2, none⟩ = some r) {x : Int} (hx : x = labAt ks k j + 2)
    (h1 : KidsFp w1 T (labL ks[j].kids x) f r) (hb : ButL f ((w.setCell ⟨bl, off + j * 3, none⟩ (.int .i64 (labAt ks k j))).setCell ⟨bl, off + j * 3 + 1, none⟩ (.int .i64 (labAt ks k j + 1))) w1) :
    RowFp w1 T bl off (ms.set j (.node (labAt ks k j) (labAt ks k j + 1) (labL ks[j].kids (labAt ks k j + 2)))) fps ∧ (∃ C', w1.heap[bl]? = some (.cells C' T)) ∧ ButL (bl :: fps.flatten) w w1 := by
  subst hx
  have := RowFp.mark hC hr hn j (by rw [hh.1]; exact hj) (labAt ks k j) (labAt ks k j + 1) (by unfold I64; omega) (by unfold I64; omega) f hf r hc _ h1 hb
  refine ⟨this.1, this.2, ?_⟩
  have hm : ∀ k ∈ f, k ∈ bl :: fps.flatten := fun k hk => List.mem_cons_of_mem _ (List.mem_flatten.2 ⟨f, List.mem_of_getElem? hf, hk⟩)
  exact ((ButL.setCell w bl _ (by simp) _).trans (ButL.setCell _ bl _ (by simp) _)).trans (hb.mono hm)

set_option maxHeartbeats 800000 in
theorem markS_step (ks : List Tr) (ih : ∀ i (hi : i < ks.length), MarkSSaid (ks[i]).kids) : MarkSSaid ks := by
  intro fp c k w hk hn h0 h1
  have HI : Hid (∀ i (hi : i < ks.length), MarkSSaid (ks[i]).kids) := ih
  have HK : Hid (KidsFp w 48 ks fp c) := hk
  have HN : Hid fp.Nodup := hn
  clear ih hn
  obtain ⟨ad, cap, rfl, hl, hm, hrow⟩ := hk
  unfold maxLen at hm
  clear hrow
  go_enter Tryz.func40, Tryz.ntmps40
  go_wp2_with fail
  go_loopw [1, 5] (fun l i wr => ∃ j : Nat, ∃ ms, j ≤ ks.length ∧ i = .int .i64 j ∧ l = .int .i64 (labAt ks k j) ∧ Half ks k j ms ∧ KidsFp wr 48 ms fp (.slice ad ks.length cap) ∧ ButL fp w wr) (fun _ i _ => ks.length - (intOf i).toNat)
  case atStart => exact ⟨0, ks, Nat.zero_le _, rfl, by rw [labAt_zero], Half.zero ks k, HK.out, ButL.refl _ _⟩
  case round =>
    obtain ⟨j, ms, hj, rfl, rfl, hhalf, hkr, hb⟩ := hrel
    have hle := labAt_le ks k j
    have HH : Hid (Half ks k j ms) := hhalf
    have HB : Hid (ButL fp w wr) := hb
    have HKR : Hid (KidsFp wr 48 ms fp (.slice ad ks.length cap)) := hkr
    have hml := hhalf.1
    clear hb
    by_cases hlt : j < ks.length
    · obtain ⟨ad', cap', he, _, _, hr⟩ := hkr
      rw [hml] at he
      cases he
      rcases hr with ⟨hr, _⟩ | ⟨bl, off, C, fps, rfl, hC, rfl, hr⟩
      · rw [hr] at hml; simp at hml; omega
      obtain ⟨hfl, f, hf, p, q, r, c0, c1, c2, ht⟩ := RowFp.at ms fps off j (by omega) hr
      rw [hhalf.at hlt] at ht
      obtain ⟨rfl, rfl, _, _, hkk⟩ := trFp_iff.1 ht
      obtain ⟨C1, hC1⟩ := set_block hC (off + j * 3) (.int .i64 (labAt ks k j))
      have f0 := cells_thawed hC (off + j * 3)
      have f1 := cells_thawed hC1 (off + j * 3 + 1)
      have d1 := (set_off hC (show off + j * 3 + 1 ≠ off + j * 3 by omega) (.int .i64 (labAt ks k j))).trans c1
      have d2 := (set_off hC (show off + j * 3 + 2 ≠ off + j * 3 by omega) (.int .i64 (labAt ks k j))).trans c2
      have e2 := (set_off hC1 (show off + j * 3 + 2 ≠ off + j * 3 + 1 by omega) (.int .i64 (labAt ks k j + 1))).trans d2
      have HC : Hid (wr.heap[bl]? = some (.cells C 48)) := hC
      have HR : Hid (RowFp wr 48 bl off ms fps) := hr
      have HF : Hid (fps[j]? = some f) := hf
      have HT : Hid (KidsFp wr 48 ks[j].kids f r) := hkk
      have HC2 : Hid (wr.cell? ⟨bl, off + j * 3 + 2, none⟩ = some r) := c2
      have hs := labAt_succ ks k j hlt
      have hle2 := labAt_le ks k (j + 1)
      clear hkk ht hr hf hC hC1 hhalf
      go_wp2_with fail
      refine (HI.out j hlt f r _ _ ?_ ?_ (by omega) (by omega)).mono ?_
      · have hn' := HN.out
        simp only [List.nodup_cons] at hn'
        refine HT.out.keep fun b hb => ?_
        have hbb : b ≠ bl := fun e => hn'.1 (List.mem_flatten.2 ⟨f, List.mem_of_getElem? HF.out, e ▸ hb⟩)
        exact (Below.heap_setCell _ _ _ _ hbb).trans (Below.heap_setCell _ _ _ _ hbb)
      · have hn' := HN.out
        simp only [List.nodup_cons] at hn'
        exact flatten_one hn'.2 HF.out
      rintro e w1 ⟨rfl, hk1, hb1⟩
      have HM := markS_after (ks := ks) HC.out HR.out HN.out (by omega) hlt HH.out HF.out HC2.out (by omega) hk1 hb1
      have HM' : Hid (RowFp w1 48 bl off (ms.set j (.node (labAt ks k j) (labAt ks k j + 1) (labL ks[j].kids (labAt ks k j + 2)))) fps ∧ (∃ C', w1.heap[bl]? = some (.cells C' 48)) ∧ ButL (bl :: fps.flatten) wr w1) := HM
      clear HM hk1 hb1 f0 f1 d1 d2 e2 c0 c1 c2
      go_wp2_with fail
      go_roundw
      case rel =>
        obtain ⟨m1, ⟨C', m2⟩, m3⟩ := HM'.out
        refine ⟨j + 1, _, by omega, by go_num, congrArg (Value.int .i64) (by omega), HH.out.step hlt, ⟨some ⟨bl, off, none⟩, cap, ?_, ?_, ?_, Or.inr ⟨bl, off, C', fps, rfl, m2, rfl, m1⟩⟩, HB.out.trans m3⟩
        · rw [List.length_set, hml]
        · rw [List.length_set, hml]; exact hl
        · unfold maxLen; omega
      case measure => simp [intOf]; omega
    · have hke : j = ks.length := by omega
      have HV : Hid (k + 2 * (szL ks : Int) = labAt ks k j) := by subst hke; exact (labAt_end ks k).symm
      have HD : Hid (ms = labL ks k) := by subst hke; exact HH.out.done
      clear hke hkr
      go_wp2_with fail
      go_ret
      exact ⟨ret_int HV.out.symm, HD.out ▸ HKR.out, HB.out⟩

theorem markS_any : ∀ (n : Nat) (ks : List Tr), szL ks ≤ n → MarkSSaid ks := by
  intro n
  induction n with
  | zero =>
    intro ks h
    exact markS_step ks fun i hi => absurd (szT_lt_szL ks i hi) (by omega)
  | succ n ih =>
    intro ks h
    exact markS_step ks fun i hi => ih _ (by have := szL_kids_lt ks i hi; omega)

/-- MARKING, FOR EVERY LIST OF TREES WITH DISTINCT BLOCKS -/
theorem markS_calls (ks : List Tr) : MarkSSaid ks := markS_any _ ks (Nat.le_refl _)
end Go.Proofs.YtiipcgnkfhjpeaaGreatDoor
/-
  THE LAWS' OWN MARKING OF A PROGRAM (markDefS): the count; no block but its own is changed.
-/
namespace Go.Proofs.YtiipcgnkfhjpeaaGreatDoor
set_option linter.unusedVariables false
set_option linter.unusedSimpArgs false
open Go.RowKit

/-- the nodes below the bodies -/
def sumZ (ds : List Df) : Nat := (ds.map fun d => szL d.2.kids).sum
theorem sumZ_take (ds : List Df) (j : Nat) (h : j < ds.length) : sumZ (ds.take (j + 1)) = sumZ (ds.take j) + szL ds[j].2.kids := by
  unfold sumZ; rw [List.take_succ_eq_append_getElem h, List.map_append, List.sum_append]; simp only [List.map_cons, List.map_nil, List.sum_cons, List.sum_nil, Nat.add_zero]
theorem sumZ_le (ds : List Df) (j : Nat) : sumZ (ds.take j) ≤ sumZ ds := by
  have h : sumZ (ds.take j) + sumZ (ds.drop j) = sumZ ds := by
    unfold sumZ
    rw [← List.sum_append, ← List.map_append, List.take_append_drop]
  omega
theorem sumZ_szL (ds : List Df) : sumZ ds + ds.length ≤ szL (bodies ds) := by
  induction ds with
  | nil => simp [sumZ, bodies]
  | cons d ds ih =>
    have h1 : sumZ (d :: ds) = szL d.2.kids + sumZ ds := by simp [sumZ]
    have h2 : szL (bodies (d :: ds)) = 1 + szT d.2 + szL (bodies ds) := by
      show szL (d.2 :: bodies ds) = _
      simp [szL]
    have h3 := szT_eq d.2
    rw [h1, h2, List.length_cons]
    omega
/-- what holds when j functions have been marked -/
structure MD (ds : List Df) (bl : Nat) (fps : List (List Nat)) (g : Nat → Value) (w : World) (j : Nat) (wr : World) : Prop where
  row : ∃ f, wr.rowIs bl 62 (ds.length * 4) f ∧ ∀ i, i < ds.length → f (i * 4 + 3) = g i
  kids : ∀ i (hi : i < ds.length) (hi2 : i < fps.length), j ≤ i → KidsFp wr 48 ds[i].2.kids fps[i] (g i)
  but : ButL (bl :: fps.flatten) w wr
theorem MD.step {ds : List Df} {bl : Nat} {fps : List (List Nat)} {g : Nat → Value} {w wr w1 : World} {j : Nat} (h : MD ds bl fps g w j wr) (hj : j < ds.length) (hj2 : j < fps.length) (hn : (bl :: fps.flatten).Nodup) (x y z : Value)
    (hb : ButL fps[j] (((wr.setCell ⟨bl, j * 4, none⟩ x).setCell ⟨bl, j * 4 + 1, none⟩ y).setCell ⟨bl, j * 4 + 2, none⟩ z) w1) : MD ds bl fps g w (j + 1) w1 := by
  obtain ⟨f, hr, hf⟩ := h.row
  rw [List.nodup_cons] at hn
  have hlt := hr.lt
  have hnot : ∀ i (hi : i < fps.length), bl ∉ fps[i] := fun i hi hm => hn.1 (List.mem_flatten.2 ⟨_, List.getElem_mem hi, hm⟩)
  have hss : (((wr.setCell ⟨bl, j * 4, none⟩ x).setCell ⟨bl, j * 4 + 1, none⟩ y).setCell ⟨bl, j * 4 + 2, none⟩ z).heap.size = wr.heap.size := by rw [size_setCell, size_setCell, size_setCell]
  have hbl : ∀ k, k ≠ bl → (((wr.setCell ⟨bl, j * 4, none⟩ x).setCell ⟨bl, j * 4 + 1, none⟩ y).setCell ⟨bl, j * 4 + 2, none⟩ z).heap[k]? = wr.heap[k]? := fun k hk => by
    rw [Below.heap_setCell _ _ _ _ hk, Below.heap_setCell _ _ _ _ hk, Below.heap_setCell _ _ _ _ hk]
  have hr3 := ((hr.set (j * 4) x).set (j * 4 + 1) y).set (j * 4 + 2) z
  refine ⟨⟨_, hr3.of_block (hb.block bl (by rw [hss]; exact hlt) (hnot j hj2)), fun i hi => ?_⟩, fun i hi hi2 hij => ?_, ?_⟩
  · simp only [if_neg (show ¬ (i * 4 + 3 = j * 4 + 2) by omega), if_neg (show ¬ (i * 4 + 3 = j * 4 + 1) by omega), if_neg (show ¬ (i * 4 + 3 = j * 4) by omega)]
    exact hf i hi
  · have hk := h.kids i hi hi2 (by omega)
    refine hk.keep fun k hm => ?_
    have hkl := hk.lt k hm
    exact (hb.block k (by rw [hss]; exact hkl) (flatten_disj hn.2 (List.getElem?_eq_getElem hi2) (List.getElem?_eq_getElem hj2) (by omega) k hm)).trans (hbl k (fun e => hnot i hi2 (e ▸ hm)))
  · have h2 : ButL (bl :: fps.flatten) wr w1 := by
      refine ⟨hb.os, hb.tape, hb.output, by have := hb.size; rw [hss] at this; exact this, fun k hk hm => ?_⟩
      simp only [List.mem_cons, not_or] at hm
      exact (hb.block k (by rw [hss]; exact hk) (fun hx => hm.2 (List.mem_flatten.2 ⟨_, List.getElem_mem hj2, hx⟩))).trans (hbl k hm.1)
    exact h.but.trans h2

set_option maxHeartbeats 800000 in
theorem markDefs_calls (ds : List Df) (fp : List Nat) (v : Value) (k : Int) (w : World) (hc : DefsFp w ds fp v) (hn : fp.Nodup) (h0 : 0 ≤ k) (h1 : k ≤ 576460752303423488) (hs : szL (bodies ds) ≤ 1048576) :
    Calls Tryz.prog 13 #[v, .int .i64 k] w fun e w' => e = .returned (.int .i64 (k + (3 * ds.length + 2 * sumZ ds : Nat))) ∧ ButL fp w w' := by
  obtain ⟨bl, f, fps, rfl, hl, hr, rfl, hfl, hi⟩ := hc
  have hsz := sumZ_szL ds
  have HS : Hid (sumZ ds + ds.length ≤ 1048576) := by rw [Hid]; omega
  have HFL := mkHid hfl
  have HND := mkHid hn
  have HST : Hid (MD ds bl fps (fun i => f (i * 4 + 3)) w 0 w) := ⟨⟨f, hr, fun _ _ => rfl⟩, fun i h1 h2 _ => (trFp_iff.1 (hi i h1 h2).2.2).2.2.2.2, ButL.refl _ _⟩
  obtain ⟨g, hg⟩ : ∃ g : Nat → Value, g = fun i => f (i * 4 + 3) := ⟨_, rfl⟩
  rw [← hg] at HST
  have hm : ds.length ≤ 1048576 := hl
  clear hr hfl hi hn hsz hs hl hg
  go_enter Tryz.func13, Tryz.ntmps13
  go_wp2_with fail
  go_loopw [1, 5] (fun qv i wr => ∃ (j : Nat) (q : Int), j ≤ ds.length ∧ i = .int .i64 j ∧ qv = .int .i64 q ∧ Hid (q = k + ((3 * j + 2 * sumZ (ds.take j) : Nat) : Int)) ∧ MD ds bl fps g w j wr) (fun _ i _ => ds.length - (intOf i).toNat)
  case atStart => exact ⟨0, k, Nat.zero_le _, rfl, rfl, by simp [Hid, sumZ], HST.out⟩
  case round =>
    obtain ⟨j, q, hj, rfl, rfl, HQ, hmd⟩ := hrel
    have HMD := mkHid hmd
    by_cases hlt : j < ds.length
    · have e1 := sumZ_take ds j hlt
      have e2 := sumZ_le ds (j + 1)
      have hj2 : j < fps.length := by rw [HFL.out]; exact hlt
      have hq := HQ.out
      have hss := HS.out
      have hq0 : 0 ≤ q := by omega
      have hq1 : q + 3 + 2 * (szL ds[j].2.kids : Int) ≤ 1152921504606846976 := by omega
      have HE : Hid (q + 3 + 2 * (szL ds[j].2.kids : Int) = k + ((3 * (j + 1) + 2 * sumZ (ds.take (j + 1)) : Nat) : Int)) := by rw [Hid]; omega
      obtain ⟨f1, hrow, hf1⟩ := hmd.row
      have c0 := hrow.cell (i := j * 4) (by omega)
      have f0 := hrow.frozen (j * 4)
      have r1 := hrow.set (j * 4) (.int .i64 q)
      have c1 := r1.cell (i := j * 4 + 1) (by omega)
      have g1 := r1.frozen (j * 4 + 1)
      have r2 := r1.set (j * 4 + 1) (.int .i64 (q + 1))
      have c2 := r2.cell (i := j * 4 + 2) (by omega)
      have g2 := r2.frozen (j * 4 + 2)
      have r3 := r2.set (j * 4 + 2) (.int .i64 (q + 1 + 1))
      have c3 := r3.cell (i := j * 4 + 3) (by omega)
      simp only [if_neg (show ¬ (j * 4 + 3 = j * 4 + 2) by omega), if_neg (show ¬ (j * 4 + 3 = j * 4 + 1) by omega), if_neg (show ¬ (j * 4 + 3 = j * 4) by omega), if_neg (show ¬ (j * 4 + 2 = j * 4 + 1) by omega), if_neg (show ¬ (j * 4 + 2 = j * 4) by omega), if_neg (show ¬ (j * 4 + 1 = j * 4) by omega), hf1 j hlt] at c1 c2 c3
      have hkf := hmd.kids j hlt hj2 (Nat.le_refl _)
      have hbl : ∀ x ∈ fps[j], (((wr.setCell ⟨bl, j * 4, none⟩ (.int .i64 q)).setCell ⟨bl, j * 4 + 1, none⟩ (.int .i64 (q + 1))).setCell ⟨bl, j * 4 + 2, none⟩ (.int .i64 (q + 1 + 1))).heap[x]? = wr.heap[x]? := fun x hx => by
        have hne : x ≠ bl := fun e => by
          have hn := HND.out
          rw [List.nodup_cons] at hn
          exact hn.1 (List.mem_flatten.2 ⟨_, List.getElem_mem hj2, e ▸ hx⟩)
        rw [Below.heap_setCell _ _ _ _ hne, Below.heap_setCell _ _ _ _ hne, Below.heap_setCell _ _ _ _ hne]
      have hnd : fps[j].Nodup := by
        have hn := HND.out
        rw [List.nodup_cons] at hn
        exact flatten_one hn.2 (List.getElem?_eq_getElem hj2)
      have HC := mkHid (markS_calls ds[j].2.kids fps[j] (g j) (q + 1 + 1 + 1) _ (hkf.keep hbl) hnd (by omega) (by omega))
      have HJI : (j : Int) < (ds.length : Int) := by omega
      have HNX : Hid (∀ w1, ButL fps[j] (((wr.setCell ⟨bl, j * 4, none⟩ (.int .i64 q)).setCell ⟨bl, j * 4 + 1, none⟩ (.int .i64 (q + 1))).setCell ⟨bl, j * 4 + 2, none⟩ (.int .i64 (q + 1 + 1))) w1 → MD ds bl fps g w (j + 1) w1) := fun w1 hb => HMD.out.step hlt hj2 HND.out _ _ _ hb
      clear hmd hf1 hrow r1 r2 r3 e1 e2 hq hss hbl hnd hkf
      go_wp2_with fail
      refine HC.out.mono ?_
      rintro e w1 ⟨rfl, -, hb1⟩
      have HM1 := mkHid (HNX.out w1 hb1)
      clear hb1
      go_wp2_with fail
      go_roundw
      case rel => exact ⟨j + 1, _, by omega, by go_num, rfl, by rw [← HE.out, Hid]; omega, HM1.out⟩
      case measure => simp [intOf]; omega
    · have hke : j = ds.length := by omega
      have HV : Hid (q = k + ((3 * ds.length + 2 * sumZ ds : Nat) : Int)) := by
        have h := HQ.out
        rw [hke, List.take_length] at h
        exact h
      clear hke hmd HQ
      go_wp2_with fail
      go_ret
      exact ⟨ret_int HV.out, HMD.out.but⟩
end Go.Proofs.YtiipcgnkfhjpeaaGreatDoor
/-
  THE LAWS' OWN MARKING OF ONE TREE (markExpr).
-/
namespace Go.Proofs.YtiipcgnkfhjpeaaGreatDoor
set_option linter.unusedVariables false
set_option linter.unusedSimpArgs false
open Go.RowKit

set_option maxHeartbeats 400000 in
theorem mark_calls (ks : List Tr) (o n : Int) (fp : List Nat) (c : Value) (k : Int) (w : World) (hk : KidsFp w 48 ks fp c) (hn : fp.Nodup) (h0 : 0 ≤ k) (h1 : k + 2 * (szL ks : Int) ≤ 1152921504606846976) :
    Calls Tryz.prog 21 #[.agg #[.int .i64 o, .int .i64 n, c], .int .i64 k] w fun e w' => e = .returned (.int .i64 (k + 2 * (szL ks : Int))) ∧ KidsFp w' 48 (labL ks k) fp c ∧ ButL fp w w' := by
  have HK : Hid (KidsFp w 48 ks fp c) := hk
  clear hk
  go_enter Tryz.func21, Tryz.ntmps21
  go_wp2_with fail
  refine (markS_calls ks fp c k _ ?_ hn h0 h1).mono ?_
  · exact HK.out.keep fun b hb => (box_below w _).block b (HK.out.lt b hb)
  rintro e w1 ⟨rfl, hk1, hb⟩
  have hk1' : Hid (KidsFp w1 48 (labL ks k) fp c) := hk1
  have hb' : ButL fp w w1 := (ButL.of_below (box_below w _)).trans hb
  clear hb hk1
  go_wp2_with fail
  go_ret
  exact ⟨rfl, hk1'.out, hb'⟩
end Go.Proofs.YtiipcgnkfhjpeaaGreatDoor
/-
  THE WALK OF FnExactEvalRun.
-/
namespace Go.Proofs.YtiipcgnkfhjpeaaGreatDoor.lawExactEvalRun
open Go.ChangeShapes Go.WideShapes Go.ChangeAt Go.RowKit
set_option linter.unusedVariables false
set_option linter.unusedSimpArgs false

theorem carry {w w' : World} (hb : Below w.heap.size w w') {a : Addr} {v : Value} (h : w.cell? a = some v) : w'.cell? a = some v := (hb.cell (cell_lt h)).trans h
theorem lt_box (w : World) (o : Obj) : w.heap.size < (w.alloc o).heap.size := by rw [Deep.nblk_alloc]; exact Nat.lt_succ_self _
theorem lt_boxD (w : World) (o : Obj) : w.heap.size < (w.alloc o).drew.heap.size := lt_box w o
theorem box_blk (w : World) (o : Obj) : (w.alloc o).drew.heap[w.heap.size]? = some o := Deep.blk_alloc_new w o
theorem ne_grown {a b c : World} (h : a.heap.size < b.heap.size) (hb : Below b.heap.size b c) : c.heap.size ≠ a.heap.size := by have := hb.size; omega
/-- a cell that seven stores into another block leave alone -/
theorem far7 {w : World} {B : Nat} {a : Addr} {v b0 b1 b2 b3 b4 b5 b6 : Value} (h : w.cell? a = some v) (hb : B ≠ a.block) : (((((((w.setCell ⟨B, 0, none⟩ b0).setCell ⟨B, 1, none⟩ b1).setCell ⟨B, 2, none⟩ b2).setCell ⟨B, 3, none⟩ b3).setCell ⟨B, 4, none⟩ b4).setCell ⟨B, 5, none⟩ b5).setCell ⟨B, 6, none⟩ b6).cell? a = some v := by
  have far : ∀ (W : World) (b : Addr) (u : Value), b.block = B → W.cell? a = some v → (W.setCell b u).cell? a = some v := fun W b u hB hW => (World.cell?_setCell_far _ _ _ _ (by rw [hB]; exact hb)).trans hW
  exact far _ _ _ rfl (far _ _ _ rfl (far _ _ _ rfl (far _ _ _ rfl (far _ _ _ rfl (far _ _ _ rfl (far _ _ _ rfl h))))))

set_option maxRecDepth 100000 in
set_option maxHeartbeats 12800000 in
theorem walk (ds : List Df) (p : Value) (t : Tr) (c : Value) (i0 : Int) (i1 : Int) (b0 : Bool) (w : World) (hp : DIn w ds p) (hk : In w t.kids c) (ht : I64 t.op ∧ I64 t.num) (hi0 : I64 i0) (hi1 : I64 i1) (aF aS aL : Addr) (hE : Errs aF aS aL w) :
    Calls Tryz.prog 4 #[p, .agg #[.int .i64 t.op, .int .i64 t.num, c], .int .i64 i0, .int .i64 i1, .bool b0] w fun e w' => e = .returned (.bool true) ∧ Below w.heap.size w w' := by
  have HK : Hid (In w t.kids c) := hk
  have HP : Hid (DIn w ds p) := hp
  obtain ⟨ad, cap, rfl, -, -, -⟩ := hk
  have HE := mkHid hE
  obtain ⟨X, hX⟩ : ∃ X : Rn, X = (eRun ds t i0 i1 b0).1 := ⟨_, rfl⟩
  obtain ⟨r, hr⟩ : ∃ r : Int, r = ((eRun ds t i0 i1 b0).2 : Int) := ⟨_, rfl⟩
  have HGS : Hid (X.g.length + sumK X.g ≤ 1048576) := by rw [hX, Hid]; have := eRun_small ds t i0 i1 b0; omega
  have HSS : Hid (∀ (u z : Value) (W : World), Below w.heap.size w W → DInP W ds u → In W t.kids z → Calls Tryz.prog 17 #[u, .agg #[.int .i64 t.op, .int .i64 t.num, z], .int .i64 i0, .int .i64 i1, .bool b0] W fun e w' => ∃ v, e = .returned (.tuple #[.agg (rnA v X.root X), .int .i64 r]) ∧ CellsOn w' (fun k => k < w'.heap.size ∧ W.heap.size ≤ k) X.g v ∧ Below W.heap.size W w') := fun u z W _ h1 h2 => by
    rw [hX, hr]; exact specEvalRN_calls ds t u z i0 i1 b0 W h1.inP h2 ht
  have HSI : Hid (∀ (u z : Value) (W : World), Below w.heap.size w W → DInP W ds u → In W t.kids z → Calls Tryz.prog 19 #[u, .agg #[.int .i64 t.op, .int .i64 t.num, z], .int .i64 i0, .int .i64 i1, .bool b0] W fun e w' => ∃ v, e = .returned (.tuple #[.agg (rnA v X.root X), .int .i64 r]) ∧ GOwn w' (List.range' W.heap.size (w'.heap.size - W.heap.size)) X.g v ∧ Below W.heap.size W w') := fun u z W hb h1 h2 => by
    refine (implEvalR_calls aF aS aL ds t u z i0 i1 b0 W (HE.out.next hb) h1 h2 ht).mono fun en w' h => ?_
    obtain ⟨v, e1, e2, e3⟩ := h
    rw [hX, hr]
    exact ⟨v, e1, e2.own fun k h _ => h, e3⟩
  have HSI2 : Hid (∀ (u z : Value) (W : World), Below w.heap.size w W → DInP W ds u → In W t.kids z → Calls Tryz.prog 19 #[u, .agg #[.int .i64 t.op, .int .i64 t.num, z], .int .i64 i0, .int .i64 i1, .bool b0] W fun e w' => ∃ v, e = .returned (.tuple #[.agg (rnA v X.root X), .int .i64 r]) ∧ CellsOn w' (fun k => k < w'.heap.size ∧ W.heap.size ≤ k) X.g v ∧ Below W.heap.size W w') := fun u z W hb h1 h2 => (HSI.out u z W hb h1 h2).mono fun e w' h => by
    obtain ⟨v, e1, e2, e3⟩ := h
    exact ⟨v, e1, e2.onS fun k hk hz => ⟨hz, (List.mem_range'_1.1 hk).1⟩, e3⟩
  have hrg := szOut_range (bodies ds) 1048576 (by omega)
  clear hp ht hX hr hE hi0 hi1
  go_enter Tryz.func4, Tryz.ntmps4
  go_wp2_with fail
  refine (szDefS_calls ds _ _ _ (HP.out.next (box_below _ _)) (by omega) (by omega)).mono ?_
  rintro e w1 ⟨rfl, hb1⟩
  obtain ⟨a0, a1, a2, hz1, HB1⟩ := box_after hb1
  have HB1 : Hid (Below w.heap.size w w1) := HB1
  clear hb1
  by_cases hneg : szOut (bodies ds) 1048576 < 0
  · go_wp2_with fail
    go_ret
    exact ⟨rfl, HB1.out⟩
  have HZ : Hid (szL (bodies ds) ≤ 1048576) := by unfold szOut at hneg; unfold Hid; split at hneg <;> omega
  generalize szOut (bodies ds) 1048576 = left at *
  go_wp2_with fail
  refine (sz_calls t.kids _ _ _ _ _ (HK.out.next HB1.out) (by omega) (by omega)).mono ?_
  rintro e w2 ⟨rfl, hb2⟩
  have HB2 : Hid (Below w.heap.size w w2) := HB1.out.trans (hb2.mono HB1.out.size)
  have hz2 : w.heap.size < w2.heap.size := Nat.lt_of_lt_of_le hz1 hb2.size
  replace a0 := carry hb2 a0
  replace a1 := carry hb2 a1
  replace a2 := carry hb2 a2
  clear hb2
  by_cases hneg2 : szOut t.kids left < 0
  · clear a0 a1 a2
    go_wp2_with fail
    go_ret
    exact ⟨rfl, HB2.out⟩
  have HZ2 : Hid (szL t.kids ≤ 1048576) := by unfold szOut at hneg2; unfold Hid; split at hneg2 <;> omega
  clear hrg
  generalize szOut t.kids left = left2 at *
  go_wp2_with fail
  -- the model's answer
  have HP2 : Hid (DIn w2 ds p) := HP.out.next HB2.out
  have HK2 : Hid (In w2 t.kids (.slice ad t.kids.length cap)) := HK.out.next HB2.out
  have n2 : w2.heap.size ≠ w.heap.size := by omega
  have HA := mkHid (And.intro a0 (And.intro a1 a2))
  have HZW := mkHid hz2
  clear hz1 hz2
  have HTD : Hid (∀ W : World, Below w2.heap.size w2 W → Calls Tryz.prog 8 #[p] W fun e w' => ∃ v, e = .returned v ∧ DInP w' ds v ∧ Below w2.heap.size w2 w' ∧ Below W.heap.size W w') := fun W hb => (toDefS_callsF ds p W (HP2.out.next hb) HZ.out).mono fun e w' h => by obtain ⟨v, f, h1, h2, -, -, h3⟩ := h; exact ⟨v, h1, h2.on h2.plain, hb.trans (h3.mono hb.size), h3⟩
  have HTE : Hid (∀ W : World, Below w2.heap.size w2 W → Calls Tryz.prog 18 #[.agg #[.int .i64 t.op, .int .i64 t.num, (.slice ad t.kids.length cap)]] W fun e w' => ∃ v, e = .returned (.agg #[.int .i64 t.op, .int .i64 t.num, v]) ∧ In w' t.kids v ∧ Below w2.heap.size w2 w' ∧ Below W.heap.size W w') := fun W hb => (to_calls t.kids _ _ _ W (HK2.out.next hb) HZ2.out).mono fun e w' h => by obtain ⟨v, h1, h2, h3⟩ := h; exact ⟨v, h1, h2.btw_in, hb.trans (h3.mono hb.size), h3⟩
  have HTS : Hid (∀ (u z : Value) (W : World), Below w2.heap.size w2 W → DInP W ds u → In W t.kids z → Calls Tryz.prog 17 #[u, .agg #[.int .i64 t.op, .int .i64 t.num, z], .int .i64 i0, .int .i64 i1, .bool b0] W fun e w' => ∃ v, e = .returned (.tuple #[.agg (rnA v X.root X), .int .i64 r]) ∧ CellsOn w' (fun k => k < w'.heap.size ∧ W.heap.size ≤ k) X.g v ∧ Below w2.heap.size w2 w' ∧ Below W.heap.size W w') := fun u z W hb h1 h2 => (HSS.out u z W (HB2.out.trans (hb.mono HB2.out.size)) h1 h2).mono fun e w' h => by obtain ⟨v, h1, h2, h3⟩ := h; exact ⟨v, h1, h2, hb.trans (h3.mono hb.size), h3⟩
  unfold rnA at HTS
  go_region_held3 (fun w' => w'.cell? ⟨w.heap.size, 0, none⟩ = some (.int .i64 t.op) ∧ w'.cell? ⟨w.heap.size, 1, none⟩ = some (.int .i64 t.num) ∧ w'.cell? ⟨w.heap.size, 2, none⟩ = some (.slice ad t.kids.length cap))
    (first
      | go_keep
      | with_reducible exact HA.out
      | with_reducible exact ⟨old_cell a0 _, old_cell a1 _, old_cell a2 _⟩
      | with_reducible exact ⟨m0, m1, m2⟩
      | with_reducible exact ⟨old_cell m0 _, old_cell m1 _, old_cell m2 _⟩
      | with_reducible exact ⟨far7 m0 n2, far7 m1 n2, far7 m2 n2⟩
      | with_reducible exact ⟨far7 m0 n3, far7 m1 n3, far7 m2 n3⟩
      | with_reducible exact ⟨far7 m0 n4, far7 m1 n4, far7 m2 n4⟩
      | with_reducible exact ⟨far7 (old_cell m0 _) n5, far7 (old_cell m1 _) n5, far7 (old_cell m2 _) n5⟩)
    (first
      | (go_at_call 8; refine (HTD.out _ ?_).mono ?_; (first | with_reducible exact (Below.refl _ _).drew | with_reducible exact (box_below _ _).drew | with_reducible exact HB3.out | with_reducible exact HB3.out.alloc HB3.out.size _ | with_reducible exact HB4.out | with_reducible exact HB4.out.alloc HB4.out.size _); rintro e w3 ⟨v3, rfl, hv3, hb3, hc3⟩; have HB3 := mkHid hb3; have HV3 := mkHid hv3; have m0 := carry HB3.out HA.out.1; have m1 := carry HB3.out HA.out.2.1; have m2 := carry HB3.out HA.out.2.2; have n3 : w3.heap.size ≠ w.heap.size := ne_grown HZW.out HB3.out; (try (have HC3 := mkHid ((hc3.block w2.heap.size (lt_boxD _ _)).trans (box_blk _ _)))); clear hb3 hv3 hc3)
      | (go_at_call 18; refine (HTE.out _ ?_).mono ?_; (first | with_reducible exact (Below.refl _ _).drew | with_reducible exact (box_below _ _).drew | with_reducible exact HB3.out | with_reducible exact HB3.out.alloc HB3.out.size _ | with_reducible exact HB4.out | with_reducible exact HB4.out.alloc HB4.out.size _); rintro e w4 ⟨v4, rfl, hv4, hb4, hc4⟩; have HB4 := mkHid hb4; have HV4 := mkHid hv4; have HV3' : Hid (DInP w4 ds v3) := (by first | exact DefsOn.nextP HV3.out hc4 | exact DefsOn.nextP (DefsOn.nextP HV3.out (box_below _ _)) hc4); have m0 := carry HB4.out HA.out.1; have m1 := carry HB4.out HA.out.2.1; have m2 := carry HB4.out HA.out.2.2; have n4 : w4.heap.size ≠ w.heap.size := ne_grown HZW.out HB4.out; (first | (have HC4 := mkHid ((hc4.block _ (cellsOf_lt HC3.out)).trans HC3.out)) | (have HC4 := mkHid ((hc4.block w3.heap.size (lt_box _ _)).trans (Deep.blk_alloc_new _ _))) | skip); clear hb4 hv4 hc4)
      | (go_at_call 17; refine (HTS.out _ _ _ ?_ ?_ ?_).mono ?_; (first | with_reducible exact (Below.refl _ _).drew | with_reducible exact (box_below _ _).drew | with_reducible exact HB3.out | with_reducible exact HB3.out.alloc HB3.out.size _ | with_reducible exact HB4.out | with_reducible exact HB4.out.alloc HB4.out.size _); (first | exact HV3'.out | exact DefsOn.nextP HV3'.out (box_below _ _)); (first | exact HV4.out | exact HV4.out.next (box_below _ _)); rintro e w5 ⟨v5, rfl, hv5, hb5, hc5⟩; have HB5 := mkHid hb5; have HV5 := mkHid hv5; obtain ⟨ad5, cap5, rfl, -, -, -⟩ := id hv5; have m0 := carry HB5.out HA.out.1; have m1 := carry HB5.out HA.out.2.1; have m2 := carry HB5.out HA.out.2.2; have n5 : w5.heap.size ≠ w.heap.size := ne_grown HZW.out HB5.out; (first | (have HC5 := (hc5.block _ (cellsOf_lt HC4.out)).trans HC4.out; have HL5 := mkHid (cellsOf_lt HC4.out); have z0 := cell_of_blk HC5 0 _ rfl; have z1 := cell_of_blk HC5 1 _ rfl; have z2 := cell_of_blk HC5 2 _ rfl; have z3 := cell_of_blk HC5 3 _ rfl; have z4 := cell_of_blk HC5 4 _ rfl; have z5 := cell_of_blk HC5 5 _ rfl; have z6 := cell_of_blk HC5 6 _ rfl; have fz := frz_of_blk HC5; have HC5h := mkHid HC5; clear HC5) | (have HC5 := (hc5.block w4.heap.size (lt_box _ _)).trans (Deep.blk_alloc_new _ _); have HL5 := mkHid (lt_box w4 (.cells #[.slice none 0 0, .int .i64 0, .int .i64 0, .int .i64 0, .int .i64 0, .int .i64 0, .int .i64 0] 30)); have z0 := cell_of_blk HC5 0 _ rfl; have z1 := cell_of_blk HC5 1 _ rfl; have z2 := cell_of_blk HC5 2 _ rfl; have z3 := cell_of_blk HC5 3 _ rfl; have z4 := cell_of_blk HC5 4 _ rfl; have z5 := cell_of_blk HC5 5 _ rfl; have z6 := cell_of_blk HC5 6 _ rfl; have fz := frz_of_blk HC5; have HC5h := mkHid HC5; clear HC5) | skip); clear hb5 hv5 hc5))
  clear m0 m1 m2 a0 a1 a2
  obtain ⟨wS, hwS⟩ : ∃ wS : World, wS = w5.alloc (.cells #[.slice ad5 X.g.length cap5, .int .i64 (X.root : Int), .int .i64 X.steps, .int .i64 X.moved, .int .i64 X.peak, .int .i64 X.ticks, .int .i64 X.rounds] 30) := ⟨_, rfl⟩
  rw [← hwS]
  have HBS : Hid (Below w2.heap.size w2 wS) := by rw [hwS]; exact HB5.out.alloc HB5.out.size _
  have BWS : Hid (wS.heap[w5.heap.size]? = some (.cells #[.slice ad5 X.g.length cap5, .int .i64 (X.root : Int), .int .i64 X.steps, .int .i64 X.moved, .int .i64 X.peak, .int .i64 X.ticks, .int .i64 X.rounds] 30)) := by rw [hwS]; exact Deep.blk_alloc_new _ _
  have WGS : Hid (CIn wS X.g (.slice ad5 X.g.length cap5)) := by rw [hwS]; exact CellsOn.mono HV5.out (fun k hk => by show k < _; rw [Deep.nblk_alloc]; exact Nat.lt_succ_of_lt hk.1) (fun k hk => Deep.blk_alloc_lt _ _ _ hk.1)
  clear hwS
  obtain ⟨bw, hbw⟩ : ∃ bw, bw = w5.heap.size := ⟨_, rfl⟩
  rw [← hbw] at BWS ⊢
  clear hbw
  rotate_left
  clear z0 z1 z2 z3 z4 z5 z6 fz; clear m0 m1 m2 a0 a1 a2
  obtain ⟨wS, hwS⟩ : ∃ wS : World, wS = (((((((w5.setCell ⟨w4.heap.size, 0, none⟩ (.slice ad5 X.g.length cap5)).setCell ⟨w4.heap.size, 1, none⟩ (.int .i64 (X.root : Int))).setCell ⟨w4.heap.size, 2, none⟩ (.int .i64 X.steps)).setCell ⟨w4.heap.size, 3, none⟩ (.int .i64 X.moved)).setCell ⟨w4.heap.size, 4, none⟩ (.int .i64 X.peak)).setCell ⟨w4.heap.size, 5, none⟩ (.int .i64 X.ticks)).setCell ⟨w4.heap.size, 6, none⟩ (.int .i64 X.rounds)) := ⟨_, rfl⟩
  rw [← hwS]
  have HBS : Hid (Below w2.heap.size w2 wS) := by rw [hwS]; exact st7_below HB5.out HB4.out.size
  have BWS : Hid (wS.heap[w4.heap.size]? = some (.cells #[.slice ad5 X.g.length cap5, .int .i64 (X.root : Int), .int .i64 X.steps, .int .i64 X.moved, .int .i64 X.peak, .int .i64 X.ticks, .int .i64 X.rounds] 30)) := by rw [hwS]; exact st7_blk HC5h.out
  have WGS : Hid (CIn wS X.g (.slice ad5 X.g.length cap5)) := by rw [hwS]; exact CellsOn.mono HV5.out (fun k hk => by show k < _; rw [st7_size]; exact hk.1) (fun k hk => st7_far (by have := hk.2; have := HL5.out; omega))
  clear hwS
  obtain ⟨bw, hbw⟩ : ∃ bw, bw = w4.heap.size := ⟨_, rfl⟩
  rw [← hbw] at BWS ⊢
  clear hbw
  rotate_left
  clear z0 z1 z2 z3 z4 z5 z6 fz; clear m0 m1 m2 a0 a1 a2
  obtain ⟨wS, hwS⟩ : ∃ wS : World, wS = (((((((w5.setCell ⟨w3.heap.size, 0, none⟩ (.slice ad5 X.g.length cap5)).setCell ⟨w3.heap.size, 1, none⟩ (.int .i64 (X.root : Int))).setCell ⟨w3.heap.size, 2, none⟩ (.int .i64 X.steps)).setCell ⟨w3.heap.size, 3, none⟩ (.int .i64 X.moved)).setCell ⟨w3.heap.size, 4, none⟩ (.int .i64 X.peak)).setCell ⟨w3.heap.size, 5, none⟩ (.int .i64 X.ticks)).setCell ⟨w3.heap.size, 6, none⟩ (.int .i64 X.rounds)) := ⟨_, rfl⟩
  rw [← hwS]
  have HBS : Hid (Below w2.heap.size w2 wS) := by rw [hwS]; exact st7_below HB5.out HB3.out.size
  have BWS : Hid (wS.heap[w3.heap.size]? = some (.cells #[.slice ad5 X.g.length cap5, .int .i64 (X.root : Int), .int .i64 X.steps, .int .i64 X.moved, .int .i64 X.peak, .int .i64 X.ticks, .int .i64 X.rounds] 30)) := by rw [hwS]; exact st7_blk HC5h.out
  have WGS : Hid (CIn wS X.g (.slice ad5 X.g.length cap5)) := by rw [hwS]; exact CellsOn.mono HV5.out (fun k hk => by show k < _; rw [st7_size]; exact hk.1) (fun k hk => st7_far (by have := hk.2; have := HL5.out; omega))
  clear hwS
  obtain ⟨bw, hbw⟩ : ∃ bw, bw = w3.heap.size := ⟨_, rfl⟩
  rw [← hbw] at BWS ⊢
  clear hbw
  rotate_left
  clear z0 z1 z2 z3 z4 z5 z6 fz; clear m0 m1 m2 a0 a1 a2
  obtain ⟨wS, hwS⟩ : ∃ wS : World, wS = (((((((w5.setCell ⟨w2.heap.size, 0, none⟩ (.slice ad5 X.g.length cap5)).setCell ⟨w2.heap.size, 1, none⟩ (.int .i64 (X.root : Int))).setCell ⟨w2.heap.size, 2, none⟩ (.int .i64 X.steps)).setCell ⟨w2.heap.size, 3, none⟩ (.int .i64 X.moved)).setCell ⟨w2.heap.size, 4, none⟩ (.int .i64 X.peak)).setCell ⟨w2.heap.size, 5, none⟩ (.int .i64 X.ticks)).setCell ⟨w2.heap.size, 6, none⟩ (.int .i64 X.rounds)) := ⟨_, rfl⟩
  rw [← hwS]
  have HBS : Hid (Below w2.heap.size w2 wS) := by rw [hwS]; exact st7_below HB5.out (Nat.le_refl _)
  have BWS : Hid (wS.heap[w2.heap.size]? = some (.cells #[.slice ad5 X.g.length cap5, .int .i64 (X.root : Int), .int .i64 X.steps, .int .i64 X.moved, .int .i64 X.peak, .int .i64 X.ticks, .int .i64 X.rounds] 30)) := by rw [hwS]; exact st7_blk HC5h.out
  have WGS : Hid (CIn wS X.g (.slice ad5 X.g.length cap5)) := by rw [hwS]; exact CellsOn.mono HV5.out (fun k hk => by show k < _; rw [st7_size]; exact hk.1) (fun k hk => st7_far (by have := hk.2; have := HL5.out; omega))
  clear hwS
  obtain ⟨bw, hbw⟩ : ∃ bw, bw = w2.heap.size := ⟨_, rfl⟩
  rw [← hbw] at BWS ⊢
  clear hbw
  rotate_left
  all_goals
    have HBX : Hid (Below w.heap.size w wS) := HB2.out.trans (HBS.out.mono HB2.out.size)
    have b0 := carry HBS.out HA.out.1; have b1 := carry HBS.out HA.out.2.1; have b2 := carry HBS.out HA.out.2.2
    have HAS := mkHid (And.intro b0 (And.intro b1 b2))
    clear HV5 HB5 HB4 HB3 HV3 HV4 HV3' HTD HTE HTS
    go_wp2_with fail
    -- the program's arguments
    refine (toDefS_callsF ds p _ (HP.out.next HBX.out) HZ.out).mono ?_
    rintro e w6 ⟨v6, f6, rfl, hv6, hnd6, hlo6, hb6⟩
    have HS6 : Hid (Below wS.heap.size wS w6) := hb6
    have HF6 : Hid (f6.Nodup ∧ ∀ k ∈ f6, wS.heap.size ≤ k ∧ k < w6.heap.size) := ⟨hnd6, fun k hk => ⟨hlo6 k hk, hv6.lt k hk⟩⟩
    have KD6 := mkHid hv6
    replace b0 := carry hb6 b0; replace b1 := carry hb6 b1; replace b2 := carry hb6 b2
    clear hv6 hnd6 hlo6 hb6
    go_wp2_with fail
    refine (fto_calls t.kids _ _ _ _ (HK.out.next (HBX.out.trans (HS6.out.mono HBX.out.size))) HZ2.out).mono ?_
    rintro e w7 ⟨v7, rfl, hv7, hb7⟩
    obtain ⟨f7, hkf, hnd7, hlo7⟩ := hv7
    have HS7 : Hid (Below wS.heap.size wS w7) := HS6.out.trans (hb7.mono HS6.out.size)
    have HF7 : Hid (f7.Nodup ∧ ∀ k ∈ f7, w6.heap.size ≤ k ∧ k < w7.heap.size) := ⟨hnd7, fun k hk => ⟨hlo7 k hk, hkf.lt k hk⟩⟩
    have KD7 : Hid (DefsFp w7 ds f6 v6) := DefsFp.keep KD6.out fun k hk => hb7.block k (DefsFp.lt KD6.out k hk)
    have HKF := mkHid hkf
    obtain ⟨ad7, cap7, rfl, -, -, -⟩ := hkf
    replace b0 := carry hb7 b0; replace b1 := carry hb7 b1; replace b2 := carry hb7 b2
    have HZ67 := mkHid hb7.size
    clear hnd7 hlo7 hb7
    go_wp2_with fail
    obtain ⟨w8, hw8⟩ : ∃ w8 : World, w8 = w7.alloc (.cells #[.int .i64 t.op, .int .i64 t.num, .slice ad7 t.kids.length cap7] 48) := ⟨_, rfl⟩
    rw [← hw8]
    have hb8 : Below w7.heap.size w7 w8 := by rw [hw8]; exact box_below _ _
    have HS8 : Hid (Below wS.heap.size wS w8) := HS7.out.trans (hb8.mono HS7.out.size)
    have BX8 : Hid (w8.heap[w7.heap.size]? = some (.cells #[.int .i64 t.op, .int .i64 t.num, .slice ad7 t.kids.length cap7] 48)) := by rw [hw8]; exact Deep.blk_alloc_new _ _
    have HZ8 : Hid (w8.heap.size = w7.heap.size + 1) := by rw [hw8]; exact Deep.nblk_alloc _ _
    have KD8 : Hid (DefsFp w8 ds f6 v6) := DefsFp.keep KD7.out fun k hk => hb8.block k (DefsFp.lt KD7.out k hk)
    have KE8 : Hid (KidsFp w8 48 t.kids f7 (.slice ad7 t.kids.length cap7)) := KidsFp.keep HKF.out fun k hk => hb8.block k (HKF.out.lt k hk)
    replace b0 := carry hb8 b0; replace b1 := carry hb8 b1; replace b2 := carry hb8 b2
    clear hw8 hb8 HKF KD6 KD7
    have x0 := cell_of_blk BX8.out 0 _ rfl
    have x1 := cell_of_blk BX8.out 1 _ rfl
    have x2 := cell_of_blk BX8.out 2 _ rfl
    -- the program's answer
    refine (HSI.out _ _ _ (HBX.out.trans (HS8.out.mono HBX.out.size)) (KD8.out.on KD8.out.plain) (KE8.out.on fun k hk => KE8.out.lt k hk)).mono ?_
    rintro e w9 ⟨v9, rfl, hv9, hb9⟩
    obtain ⟨f9, hf9⟩ : ∃ f9, f9 = List.range' w8.heap.size (w9.heap.size - w8.heap.size) := ⟨_, rfl⟩
    have HF9 : Hid (∀ k ∈ f9, w8.heap.size ≤ k ∧ k < w9.heap.size) := fun k hk => by rw [hf9, List.mem_range'_1] at hk; have := hb9.size; omega
    rw [← hf9] at hv9
    obtain ⟨-, ad9, cap9, rfl, -, -, -⟩ := id hv9
    have HS9 : Hid (Below wS.heap.size wS w9) := HS8.out.trans (hb9.mono HS8.out.size)
    have GO9 := mkHid hv9
    have HZ89 := mkHid hb9.size
    have BX9 := mkHid ((hb9.block _ (cellsOf_lt BX8.out)).trans BX8.out)
    have KD9 : Hid (DefsFp w9 ds f6 v6) := DefsFp.keep KD8.out fun k hk => hb9.block k (DefsFp.lt KD8.out k hk)
    have KE9 : Hid (KidsFp w9 48 t.kids f7 (.slice ad7 t.kids.length cap7)) := KidsFp.keep KE8.out fun k hk => hb9.block k (KE8.out.lt k hk)
    clear hf9 hv9 hb9 x0 x1 x2 b0 b1 b2 KD8 KE8
    unfold rnA
    have BW9 := mkHid ((HS9.out.block _ (cellsOf_lt BWS.out)).trans BWS.out)
    have q0 := old_cell (cell_of_blk BW9.out 0 _ rfl) (.cells #[.slice ad9 X.g.length cap9, .int .i64 (X.root : Int), .int .i64 X.steps, .int .i64 X.moved, .int .i64 X.peak, .int .i64 X.ticks, .int .i64 X.rounds] 30); have q1 := old_cell (cell_of_blk BW9.out 1 _ rfl) (.cells #[.slice ad9 X.g.length cap9, .int .i64 (X.root : Int), .int .i64 X.steps, .int .i64 X.moved, .int .i64 X.peak, .int .i64 X.ticks, .int .i64 X.rounds] 30); have q2 := old_cell (cell_of_blk BW9.out 2 _ rfl) (.cells #[.slice ad9 X.g.length cap9, .int .i64 (X.root : Int), .int .i64 X.steps, .int .i64 X.moved, .int .i64 X.peak, .int .i64 X.ticks, .int .i64 X.rounds] 30); have q3 := old_cell (cell_of_blk BW9.out 3 _ rfl) (.cells #[.slice ad9 X.g.length cap9, .int .i64 (X.root : Int), .int .i64 X.steps, .int .i64 X.moved, .int .i64 X.peak, .int .i64 X.ticks, .int .i64 X.rounds] 30); have q4 := old_cell (cell_of_blk BW9.out 4 _ rfl) (.cells #[.slice ad9 X.g.length cap9, .int .i64 (X.root : Int), .int .i64 X.steps, .int .i64 X.moved, .int .i64 X.peak, .int .i64 X.ticks, .int .i64 X.rounds] 30); have q5 := old_cell (cell_of_blk BW9.out 5 _ rfl) (.cells #[.slice ad9 X.g.length cap9, .int .i64 (X.root : Int), .int .i64 X.steps, .int .i64 X.moved, .int .i64 X.peak, .int .i64 X.ticks, .int .i64 X.rounds] 30); have q6 := old_cell (cell_of_blk BW9.out 6 _ rfl) (.cells #[.slice ad9 X.g.length cap9, .int .i64 (X.root : Int), .int .i64 X.steps, .int .i64 X.moved, .int .i64 X.peak, .int .i64 X.ticks, .int .i64 X.rounds] 30)
    have tr : (r != r) = false := by simp
    obtain ⟨wG, hwG⟩ : ∃ wG : World, wG = w9.alloc (.cells #[.slice ad9 X.g.length cap9, .int .i64 (X.root : Int), .int .i64 X.steps, .int .i64 X.moved, .int .i64 X.peak, .int .i64 X.ticks, .int .i64 X.rounds] 30) := ⟨_, rfl⟩
    have hbG : Below w9.heap.size w9 wG := by rw [hwG]; exact box_below _ _
    have BGG : Hid (wG.heap[w9.heap.size]? = some (.cells #[.slice ad9 X.g.length cap9, .int .i64 (X.root : Int), .int .i64 X.steps, .int .i64 X.moved, .int .i64 X.peak, .int .i64 X.ticks, .int .i64 X.rounds] 30)) := by rw [hwG]; exact Deep.blk_alloc_new _ _
    have HZG : Hid (wG.heap.size = w9.heap.size + 1) := by rw [hwG]; exact Deep.nblk_alloc _ _
    have HSG : Hid (Below wS.heap.size wS wG) := HS9.out.trans (hbG.mono HS9.out.size)
    have GOG : Hid (GOwn wG f9 X.g (.slice ad9 X.g.length cap9)) := GO9.out.keep fun k _ hk => hbG.block k hk
    have BXG := mkHid ((hbG.block _ (cellsOf_lt BX9.out)).trans BX9.out)
    have KDG : Hid (DefsFp wG ds f6 v6) := DefsFp.keep KD9.out fun k hk => hbG.block k (DefsFp.lt KD9.out k hk)
    have KEG : Hid (KidsFp wG 48 t.kids f7 (.slice ad7 t.kids.length cap7)) := KidsFp.keep KE9.out fun k hk => hbG.block k (KE9.out.lt k hk)
    clear hbG KD9 KE9 GO9 BX9
    go_wp2_with fail
    rw [← hwG]
    clear q0 q1 q2 q3 q4 q5 q6
    have WGG : Hid (CIn wG X.g (.slice ad5 X.g.length cap5)) := WGS.out.next HSG.out
    refine (eqRun_calls X X.root _ _ wG GOG.out.inn WGG.out).mono ?_
    rintro e w11 ⟨rfl, hb11⟩
    have HS11 : Hid (Below wS.heap.size wS w11) := HSG.out.trans (hb11.mono HSG.out.size)
    have GO11 : Hid (GOwn w11 f9 X.g (.slice ad9 X.g.length cap9)) := GOG.out.keep fun k _ hk => hb11.block k hk
    have BX11 := mkHid ((hb11.block _ (cellsOf_lt BXG.out)).trans BXG.out)
    have BG11 := mkHid ((hb11.block _ (cellsOf_lt BGG.out)).trans BGG.out)
    have KD11 : Hid (DefsFp w11 ds f6 v6) := DefsFp.keep KDG.out fun k hk => hb11.block k (DefsFp.lt KDG.out k hk)
    have KE11 : Hid (KidsFp w11 48 t.kids f7 (.slice ad7 t.kids.length cap7)) := KidsFp.keep KEG.out fun k hk => hb11.block k (KEG.out.lt k hk)
    have HZ11 := mkHid hb11.size
    clear hb11 hwG GOG BXG KDG KEG WGG
    go_wp2_with fail
    -- the arguments are as they were
    refine (toDefS_calls ds p _ (HP.out.next (HBX.out.trans (HS11.out.mono HBX.out.size))) HZ.out).mono ?_
    rintro e w12 ⟨v12, rfl, hv12, hb12⟩
    have HV12 : Hid (DIn w12 ds v12) := hv12.btw_in
    have HBA : Hid (Below w11.heap.size w11 w12) := hb12
    clear hv12 hb12
    go_wp2_with fail
    refine (eqDefS_calls ds v6 v12 _ ((KD11.out.on KD11.out.plain).inP.next HBA.out) HV12.out).mono ?_
    rintro e w13 ⟨rfl, hb13⟩
    have HBC : Hid (Below w11.heap.size w11 w13) := HBA.out.trans (hb13.mono HBA.out.size)
    clear hb13 HBA HV12
    have HS13 : Hid (Below wS.heap.size wS w13) := HS11.out.trans (HBC.out.mono HS11.out.size)
    go_wp2_with fail
    have BX13 := mkHid ((HBC.out.block _ (cellsOf_lt BX11.out)).trans BX11.out)
    have c0 := carry HS13.out HAS.out.1; have c1 := carry HS13.out HAS.out.2.1; have c2 := carry HS13.out HAS.out.2.2
    have y0 := cell_of_blk BX13.out 0 _ rfl; have y1 := cell_of_blk BX13.out 1 _ rfl; have y2 := cell_of_blk BX13.out 2 _ rfl
    have HCY := mkHid (And.intro c0 (And.intro c1 (And.intro c2 (And.intro y0 (And.intro y1 y2)))))
    have HKA : Hid (In w13 t.kids (.slice ad t.kids.length cap)) := HK.out.next (HBX.out.trans (HS13.out.mono HBX.out.size))
    have HKX : Hid (In w13 t.kids (.slice ad7 t.kids.length cap7)) := (KE11.out.on fun k hk => KE11.out.lt k hk).next HBC.out
    go_region_held3 (fun w' => w'.cell? ⟨w.heap.size, 0, none⟩ = some (.int .i64 t.op) ∧ w'.cell? ⟨w.heap.size, 1, none⟩ = some (.int .i64 t.num) ∧ w'.cell? ⟨w.heap.size, 2, none⟩ = some (.slice ad t.kids.length cap) ∧ w'.cell? ⟨w7.heap.size, 0, none⟩ = some (.int .i64 t.op) ∧ w'.cell? ⟨w7.heap.size, 1, none⟩ = some (.int .i64 t.num) ∧ w'.cell? ⟨w7.heap.size, 2, none⟩ = some (.slice ad7 t.kids.length cap7))
      (first
        | go_keep
        | with_reducible exact ⟨c0, c1, c2, y0, y1, y2⟩
        | with_reducible exact ⟨m0, m1, m2, m3, m4, m5⟩)
      (first
        | (go_at_call 18; refine (to_calls t.kids _ _ _ _ ?_ HZ2.out).mono ?_; exact HKA.out.drew; rintro e w14 ⟨v14, rfl, hv14, hb14⟩; have HV14 : Hid (In w14 t.kids v14) := hv14.btw_in; have HB14 : Hid (Below w13.heap.size w13 w14) := (Below.refl _ _).drew.trans hb14; have m0 := carry HB14.out HCY.out.1; have m1 := carry HB14.out HCY.out.2.1; have m2 := carry HB14.out HCY.out.2.2.1; have m3 := carry HB14.out HCY.out.2.2.2.1; have m4 := carry HB14.out HCY.out.2.2.2.2.1; have m5 := carry HB14.out HCY.out.2.2.2.2.2; clear hv14 hb14)
        | (go_at_call 20; refine (eq_calls t.kids _ _ _ _ _ ?_ ?_).mono ?_; exact HKX.out.next HB14.out; exact HV14.out; rintro e w15 ⟨rfl, hb15⟩; have HB15 : Hid (Below w13.heap.size w13 w15) := HB14.out.trans (hb15.mono HB14.out.size); have m0 := carry HB15.out HCY.out.1; have m1 := carry HB15.out HCY.out.2.1; have m2 := carry HB15.out HCY.out.2.2.1; have m3 := carry HB15.out HCY.out.2.2.2.1; have m4 := carry HB15.out HCY.out.2.2.2.2.1; have m5 := carry HB15.out HCY.out.2.2.2.2.2; clear hb15))
    clear m0 m1 m2 m3 m4 m5 c0 c1 c2 y0 y1 y2 HKA HKX HV14 HB14
    have HBD : Hid (Below w11.heap.size w11 w15) := HBC.out.trans (HB15.out.mono HBC.out.size)
    have HS15 : Hid (Below wS.heap.size wS w15) := HS13.out.trans (HB15.out.mono HS13.out.size)
    clear HB15 HBC HS13 BX13 HCY
    have GO15 : Hid (GOwn w15 f9 X.g (.slice ad9 X.g.length cap9)) := GO11.out.keep fun k _ hk => HBD.out.block k hk
    have BX15 := mkHid ((HBD.out.block _ (cellsOf_lt BX11.out)).trans BX11.out)
    have BG15 := mkHid ((HBD.out.block _ (cellsOf_lt BG11.out)).trans BG11.out)
    have KD15 : Hid (DefsFp w15 ds f6 v6) := DefsFp.keep KD11.out fun k hk => HBD.out.block k (DefsFp.lt KD11.out k hk)
    have KE15 : Hid (KidsFp w15 48 t.kids f7 (.slice ad7 t.kids.length cap7)) := KidsFp.keep KE11.out fun k hk => HBD.out.block k (KE11.out.lt k hk)
    have HLS := mkHid (show w9.heap.size + 1 ≤ w15.heap.size by have := HZG.out; have := HZ11.out; have := HBD.out.size; omega)
    clear HBD GO11 BX11 BG11 KD11 KE11
    go_wp2_with fail
    -- the arguments are marked
    refine (markDefs_calls ds f6 v6 1 w15 KD15.out HF6.out.1 (by omega) (by omega) HZ.out).mono ?_
    rintro e w16 ⟨rfl, hb16⟩
    have HS16 : Hid (Below wS.heap.size wS w16) := HS15.out.trans (hb16.below (fun k h => (HF6.out.2 k h).1) HS15.out.size)
    have GO16 : Hid (GOwn w16 f9 X.g (.slice ad9 X.g.length cap9)) := GO15.out.keep fun k hk hz => hb16.block k hz (fun h => by have := (HF6.out.2 k h).2; have := (HF9.out k hk).1; have := HZ8.out; have := HZ67.out; omega)
    have BX16 := mkHid ((hb16.block _ (cellsOf_lt BX15.out) (fun h => by have := (HF6.out.2 _ h).2; have := HZ67.out; omega)).trans BX15.out)
    have BG16 := mkHid ((hb16.block _ (cellsOf_lt BG15.out) (fun h => by have := (HF6.out.2 _ h).2; have := HZ67.out; have := HZ8.out; have := HZ89.out; omega)).trans BG15.out)
    have KE16 : Hid (KidsFp w16 48 t.kids f7 (.slice ad7 t.kids.length cap7)) := KidsFp.keep KE15.out fun k hk => hb16.block k (KE15.out.lt k hk) (fun h => by have := (HF6.out.2 k h).2; have := (HF7.out.2 k hk).1; omega)
    have HZ16 := mkHid hb16.size
    clear hb16 GO15 BX15 BG15 KD15 KE15
    have hzD := sumZ_szL ds
    obtain ⟨kD, hkD⟩ : ∃ kD : Int, kD = 1 + ((3 * ds.length + 2 * sumZ ds : Nat) : Int) := ⟨_, rfl⟩
    rw [← hkD]
    have hkD0 : 0 ≤ kD := by omega
    have hkD1 : kD ≤ 1 + 3145728 := by have := HZ.out; omega
    clear hkD hzD
    have y0 := cell_of_blk BX16.out 0 _ rfl; have y1 := cell_of_blk BX16.out 1 _ rfl; have y2 := cell_of_blk BX16.out 2 _ rfl
    go_wp2_with fail
    refine (mark_calls t.kids _ _ f7 _ kD w16 KE16.out HF7.out.1 hkD0 (by have := HZ2.out; omega)).mono ?_
    rintro e w17 ⟨rfl, -, hb17⟩
    clear y0 y1 y2
    have HS17 : Hid (Below wS.heap.size wS w17) := HS16.out.trans (hb17.below (fun k h => by have := (HF7.out.2 k h).1; have := HS6.out.size; omega) HS16.out.size)
    have GO17 : Hid (GOwn w17 f9 X.g (.slice ad9 X.g.length cap9)) := GO16.out.keep fun k hk hz => hb17.block k hz (fun h => by have := (HF7.out.2 k h).2; have := (HF9.out k hk).1; have := HZ8.out; omega)
    have BG17 := mkHid ((hb17.block _ (cellsOf_lt BG16.out) (fun h => by have := (HF7.out.2 _ h).2; have := HZ8.out; have := HZ89.out; omega)).trans BG16.out)
    have HZ17 := mkHid hb17.size
    clear hb17 GO16 BX16 BG16 KE16
    obtain ⟨kE, hkE⟩ : ∃ kE : Int, kE = kD + 2 * (szL t.kids : Int) := ⟨_, rfl⟩
    rw [← hkE]
    have hkE0 : 0 ≤ kE := by omega
    clear hkE hkD0 hkD1
    have BW17 := mkHid ((HS17.out.block _ (cellsOf_lt BWS.out)).trans BWS.out)
    have q0 := cell_of_blk BW17.out 0 _ rfl; have q1 := cell_of_blk BW17.out 1 _ rfl; have q2 := cell_of_blk BW17.out 2 _ rfl; have q3 := cell_of_blk BW17.out 3 _ rfl; have q4 := cell_of_blk BW17.out 4 _ rfl; have q5 := cell_of_blk BW17.out 5 _ rfl; have q6 := cell_of_blk BW17.out 6 _ rfl
    have g0 := cell_of_blk BG17.out 0 _ rfl; have g1 := cell_of_blk BG17.out 1 _ rfl; have g2 := cell_of_blk BG17.out 2 _ rfl; have g3 := cell_of_blk BG17.out 3 _ rfl; have g4 := cell_of_blk BG17.out 4 _ rfl; have g5 := cell_of_blk BG17.out 5 _ rfl; have g6 := cell_of_blk BG17.out 6 _ rfl
    go_wp2_with fail
    refine (eqRun_calls X X.root _ _ w17 GO17.out.inn (WGS.out.next HS17.out)).mono ?_
    rintro e w18 ⟨rfl, hb18⟩
    clear g0 g1 g2 g3 g4 g5 g6
    clear q0 q1 q2 q3 q4 q5 q6
    have HS18 : Hid (Below wS.heap.size wS w18) := HS17.out.trans (hb18.mono HS17.out.size)
    have GO18 : Hid (GOwn w18 f9 X.g (.slice ad9 X.g.length cap9)) := GO17.out.keep fun k _ hk => hb18.block k hk
    have BG18 := mkHid ((hb18.block _ (cellsOf_lt BG17.out)).trans BG17.out)
    have HZ18 := mkHid hb18.size
    clear hb18 GO17 BG17 BW17
    have g0 := cell_of_blk BG18.out 0 _ rfl; have g1 := cell_of_blk BG18.out 1 _ rfl; have g2 := cell_of_blk BG18.out 2 _ rfl; have g3 := cell_of_blk BG18.out 3 _ rfl; have g4 := cell_of_blk BG18.out 4 _ rfl; have g5 := cell_of_blk BG18.out 5 _ rfl; have g6 := cell_of_blk BG18.out 6 _ rfl
    go_wp2_with fail
    -- the answer is marked
    refine (markRun_calls X X.root f9 _ 1 w18 GO18.out (fun b hb => by have := (HF9.out b hb).2; have := HLS.out; have := HZ16.out; have := HZ17.out; have := HZ18.out; omega) (by omega) (by omega) HGS.out).mono ?_
    rintro e w19 ⟨rfl, hk19, hb19⟩
    clear g0 g1 g2 g3 g4 g5 g6
    have GL19 := mkHid hk19
    have HS19 : Hid (Below wS.heap.size wS w19) := HS18.out.trans (hb19.below (fun k h => by have := (HF9.out k h).1; have := HS8.out.size; omega) HS18.out.size)
    have BG19 := mkHid ((hb19.block _ (cellsOf_lt BG18.out) (fun h => by have := (HF9.out _ h).2; omega)).trans BG18.out)
    have HZ19 := mkHid hb19.size
    clear hk19 hb19 GO18 BG18
    obtain ⟨mm, hmm⟩ : ∃ mm : Int, mm = 1 + 2 * (X.g.length : Int) + (sumK X.g : Int) := ⟨_, rfl⟩
    have HM := mkHid hmm
    have hm0 : 0 ≤ mm := by omega
    rw [← hmm]
    clear hmm
    have g0 := cell_of_blk BG19.out 0 _ rfl; have g1 := cell_of_blk BG19.out 1 _ rfl; have g2 := cell_of_blk BG19.out 2 _ rfl; have g3 := cell_of_blk BG19.out 3 _ rfl; have g4 := cell_of_blk BG19.out 4 _ rfl; have g5 := cell_of_blk BG19.out 5 _ rfl; have g6 := cell_of_blk BG19.out 6 _ rfl
    go_wp2_with fail
    refine (heldRun_calls { X with g := labC X.g 1 } X.root X.g (.slice ad9 X.g.length cap9) 1 w19 rfl GL19.out.inn (by omega) (by omega) HGS.out).mono ?_
    rintro e w20 ⟨rfl, hb20⟩
    rw [← HM.out]
    clear g0 g1 g2 g3 g4 g5 g6
    have HS20 : Hid (Below wS.heap.size wS w20) := HS19.out.trans (hb20.mono HS19.out.size)
    have GL20 : Hid (GOwn w20 f9 (labC X.g 1) (.slice ad9 X.g.length cap9)) := GL19.out.keep fun k _ hk => hb20.block k hk
    have BG20 := mkHid ((hb20.block _ (cellsOf_lt BG19.out)).trans BG19.out)
    clear hb20 GL19 BG19
    have tm : (mm != mm) = false := by simp
    go_wp2_with fail
    -- called once more
    have HB20 : Hid (Below w.heap.size w w20) := HBX.out.trans (HS20.out.mono HBX.out.size)
    have c0 := carry HS20.out HAS.out.1; have c1 := carry HS20.out HAS.out.2.1; have c2 := carry HS20.out HAS.out.2.2
    have hz20 : w.heap.size < w20.heap.size := Nat.lt_of_lt_of_le HZW.out (Nat.le_trans HBS.out.size HS20.out.size)
    have n20 : w20.heap.size ≠ w.heap.size := by omega
    have HA20 := mkHid (And.intro c0 (And.intro c1 c2))
    have HZW20 := mkHid hz20
    clear hz20
    have HP20 : Hid (DIn w20 ds p) := HP.out.next HB20.out
    have HK20 : Hid (In w20 t.kids (.slice ad t.kids.length cap)) := HK.out.next HB20.out
    have HTDb : Hid (∀ W : World, Below w20.heap.size w20 W → Calls Tryz.prog 8 #[p] W fun e w' => ∃ v, e = .returned v ∧ DInP w' ds v ∧ Below w20.heap.size w20 w' ∧ Below W.heap.size W w') := fun W hb => (toDefS_callsF ds p W (HP20.out.next hb) HZ.out).mono fun e w' h => by obtain ⟨v, f, h1, h2, -, -, h3⟩ := h; exact ⟨v, h1, h2.on h2.plain, hb.trans (h3.mono hb.size), h3⟩
    have HTEb : Hid (∀ W : World, Below w20.heap.size w20 W → Calls Tryz.prog 18 #[.agg #[.int .i64 t.op, .int .i64 t.num, (.slice ad t.kids.length cap)]] W fun e w' => ∃ v, e = .returned (.agg #[.int .i64 t.op, .int .i64 t.num, v]) ∧ In w' t.kids v ∧ Below w20.heap.size w20 w' ∧ Below W.heap.size W w') := fun W hb => (to_calls t.kids _ _ _ W (HK20.out.next hb) HZ2.out).mono fun e w' h => by obtain ⟨v, h1, h2, h3⟩ := h; exact ⟨v, h1, h2.btw_in, hb.trans (h3.mono hb.size), h3⟩
    have HTSb : Hid (∀ (u z : Value) (W : World), Below w20.heap.size w20 W → DInP W ds u → In W t.kids z → Calls Tryz.prog 19 #[u, .agg #[.int .i64 t.op, .int .i64 t.num, z], .int .i64 i0, .int .i64 i1, .bool b0] W fun e w' => ∃ v, e = .returned (.tuple #[.agg (rnA v X.root X), .int .i64 r]) ∧ CellsOn w' (fun k => k < w'.heap.size ∧ W.heap.size ≤ k) X.g v ∧ Below w20.heap.size w20 w' ∧ Below W.heap.size W w') := fun u z W hb h1 h2 => (HSI2.out u z W (HB20.out.trans (hb.mono HB20.out.size)) h1 h2).mono fun e w' h => by obtain ⟨v, h1, h2, h3⟩ := h; exact ⟨v, h1, h2, hb.trans (h3.mono hb.size), h3⟩
    unfold rnA at HTSb
    go_region_held3 (fun w' => w'.cell? ⟨w.heap.size, 0, none⟩ = some (.int .i64 t.op) ∧ w'.cell? ⟨w.heap.size, 1, none⟩ = some (.int .i64 t.num) ∧ w'.cell? ⟨w.heap.size, 2, none⟩ = some (.slice ad t.kids.length cap))
      (first
        | go_keep
        | with_reducible exact HA20.out
        | with_reducible exact ⟨old_cell c0 _, old_cell c1 _, old_cell c2 _⟩
        | with_reducible exact ⟨m0, m1, m2⟩
        | with_reducible exact ⟨old_cell m0 _, old_cell m1 _, old_cell m2 _⟩
        | with_reducible exact ⟨far7 m0 n20, far7 m1 n20, far7 m2 n20⟩
        | with_reducible exact ⟨far7 m0 n21, far7 m1 n21, far7 m2 n21⟩
        | with_reducible exact ⟨far7 m0 n22, far7 m1 n22, far7 m2 n22⟩
        | with_reducible exact ⟨far7 (old_cell m0 _) n23, far7 (old_cell m1 _) n23, far7 (old_cell m2 _) n23⟩)
      (first
        | (go_at_call 8; refine (HTDb.out _ ?_).mono ?_; (first | with_reducible exact (Below.refl _ _).drew | with_reducible exact (box_below _ _).drew | with_reducible exact HB21.out | with_reducible exact HB21.out.alloc HB21.out.size _ | with_reducible exact HB22.out | with_reducible exact HB22.out.alloc HB22.out.size _); rintro e w21 ⟨v21, rfl, hv21, hb21, hc21⟩; have HB21 := mkHid hb21; have HV21 := mkHid hv21; have m0 := carry HB21.out HA20.out.1; have m1 := carry HB21.out HA20.out.2.1; have m2 := carry HB21.out HA20.out.2.2; have n21 : w21.heap.size ≠ w.heap.size := ne_grown HZW20.out HB21.out; (try (have HC21 := mkHid ((hc21.block w20.heap.size (lt_boxD _ _)).trans (box_blk _ _)))); clear hb21 hv21 hc21)
        | (go_at_call 18; refine (HTEb.out _ ?_).mono ?_; (first | with_reducible exact (Below.refl _ _).drew | with_reducible exact (box_below _ _).drew | with_reducible exact HB21.out | with_reducible exact HB21.out.alloc HB21.out.size _ | with_reducible exact HB22.out | with_reducible exact HB22.out.alloc HB22.out.size _); rintro e w22 ⟨v22, rfl, hv22, hb22, hc22⟩; have HB22 := mkHid hb22; have HV22 := mkHid hv22; have HV21' : Hid (DInP w22 ds v21) := (by first | exact DefsOn.nextP HV21.out hc22 | exact DefsOn.nextP (DefsOn.nextP HV21.out (box_below _ _)) hc22); have m0 := carry HB22.out HA20.out.1; have m1 := carry HB22.out HA20.out.2.1; have m2 := carry HB22.out HA20.out.2.2; have n22 : w22.heap.size ≠ w.heap.size := ne_grown HZW20.out HB22.out; (first | (have HC22 := mkHid ((hc22.block _ (cellsOf_lt HC21.out)).trans HC21.out)) | (have HC22 := mkHid ((hc22.block w21.heap.size (lt_box _ _)).trans (Deep.blk_alloc_new _ _))) | skip); clear hb22 hv22 hc22)
        | (go_at_call 19; refine (HTSb.out _ _ _ ?_ ?_ ?_).mono ?_; (first | with_reducible exact (Below.refl _ _).drew | with_reducible exact (box_below _ _).drew | with_reducible exact HB21.out | with_reducible exact HB21.out.alloc HB21.out.size _ | with_reducible exact HB22.out | with_reducible exact HB22.out.alloc HB22.out.size _); (first | exact HV21'.out | exact DefsOn.nextP HV21'.out (box_below _ _)); (first | exact HV22.out | exact HV22.out.next (box_below _ _)); rintro e w23 ⟨v23, rfl, hv23, hb23, hc23⟩; have HB23 := mkHid hb23; have HV23 := mkHid hv23; obtain ⟨ad23, cap23, rfl, -, -, -⟩ := id hv23; have m0 := carry HB23.out HA20.out.1; have m1 := carry HB23.out HA20.out.2.1; have m2 := carry HB23.out HA20.out.2.2; have n23 : w23.heap.size ≠ w.heap.size := ne_grown HZW20.out HB23.out; (first | (have HC23 := (hc23.block _ (cellsOf_lt HC22.out)).trans HC22.out; have HL23 := mkHid (cellsOf_lt HC22.out); have z0 := cell_of_blk HC23 0 _ rfl; have z1 := cell_of_blk HC23 1 _ rfl; have z2 := cell_of_blk HC23 2 _ rfl; have z3 := cell_of_blk HC23 3 _ rfl; have z4 := cell_of_blk HC23 4 _ rfl; have z5 := cell_of_blk HC23 5 _ rfl; have z6 := cell_of_blk HC23 6 _ rfl; have fz := frz_of_blk HC23; have HC23h := mkHid HC23; clear HC23) | (have HC23 := (hc23.block w22.heap.size (lt_box _ _)).trans (Deep.blk_alloc_new _ _); have HL23 := mkHid (lt_box w22 (.cells #[.slice none 0 0, .int .i64 0, .int .i64 0, .int .i64 0, .int .i64 0, .int .i64 0, .int .i64 0] 30)); have z0 := cell_of_blk HC23 0 _ rfl; have z1 := cell_of_blk HC23 1 _ rfl; have z2 := cell_of_blk HC23 2 _ rfl; have z3 := cell_of_blk HC23 3 _ rfl; have z4 := cell_of_blk HC23 4 _ rfl; have z5 := cell_of_blk HC23 5 _ rfl; have z6 := cell_of_blk HC23 6 _ rfl; have fz := frz_of_blk HC23; have HC23h := mkHid HC23; clear HC23) | skip); clear hb23 hv23 hc23))
    clear m0 m1 m2 c0 c1 c2
    obtain ⟨wT, hwT⟩ : ∃ wT : World, wT = w23.alloc (.cells #[.slice ad23 X.g.length cap23, .int .i64 (X.root : Int), .int .i64 X.steps, .int .i64 X.moved, .int .i64 X.peak, .int .i64 X.ticks, .int .i64 X.rounds] 30) := ⟨_, rfl⟩
    rw [← hwT]
    have HBT : Hid (Below w20.heap.size w20 wT) := by rw [hwT]; exact HB23.out.alloc HB23.out.size _
    have BWT : Hid (wT.heap[w23.heap.size]? = some (.cells #[.slice ad23 X.g.length cap23, .int .i64 (X.root : Int), .int .i64 X.steps, .int .i64 X.moved, .int .i64 X.peak, .int .i64 X.ticks, .int .i64 X.rounds] 30)) := by rw [hwT]; exact Deep.blk_alloc_new _ _
    have WGT : Hid (CIn wT X.g (.slice ad23 X.g.length cap23)) := by rw [hwT]; exact CellsOn.mono HV23.out (fun k hk => by show k < _; rw [Deep.nblk_alloc]; exact Nat.lt_succ_of_lt hk.1) (fun k hk => Deep.blk_alloc_lt _ _ _ hk.1)
    clear hwT
    obtain ⟨bx, hbx⟩ : ∃ bx, bx = w23.heap.size := ⟨_, rfl⟩
    rw [← hbx] at BWT ⊢
    clear hbx
    rotate_left
    clear z0 z1 z2 z3 z4 z5 z6 fz; clear m0 m1 m2 c0 c1 c2
    obtain ⟨wT, hwT⟩ : ∃ wT : World, wT = (((((((w23.setCell ⟨w22.heap.size, 0, none⟩ (.slice ad23 X.g.length cap23)).setCell ⟨w22.heap.size, 1, none⟩ (.int .i64 (X.root : Int))).setCell ⟨w22.heap.size, 2, none⟩ (.int .i64 X.steps)).setCell ⟨w22.heap.size, 3, none⟩ (.int .i64 X.moved)).setCell ⟨w22.heap.size, 4, none⟩ (.int .i64 X.peak)).setCell ⟨w22.heap.size, 5, none⟩ (.int .i64 X.ticks)).setCell ⟨w22.heap.size, 6, none⟩ (.int .i64 X.rounds)) := ⟨_, rfl⟩
    rw [← hwT]
    have HBT : Hid (Below w20.heap.size w20 wT) := by rw [hwT]; exact st7_below HB23.out HB22.out.size
    have BWT : Hid (wT.heap[w22.heap.size]? = some (.cells #[.slice ad23 X.g.length cap23, .int .i64 (X.root : Int), .int .i64 X.steps, .int .i64 X.moved, .int .i64 X.peak, .int .i64 X.ticks, .int .i64 X.rounds] 30)) := by rw [hwT]; exact st7_blk HC23h.out
    have WGT : Hid (CIn wT X.g (.slice ad23 X.g.length cap23)) := by rw [hwT]; exact CellsOn.mono HV23.out (fun k hk => by show k < _; rw [st7_size]; exact hk.1) (fun k hk => st7_far (by have := hk.2; have := HL23.out; omega))
    clear hwT
    obtain ⟨bx, hbx⟩ : ∃ bx, bx = w22.heap.size := ⟨_, rfl⟩
    rw [← hbx] at BWT ⊢
    clear hbx
    rotate_left
    clear z0 z1 z2 z3 z4 z5 z6 fz; clear m0 m1 m2 c0 c1 c2
    obtain ⟨wT, hwT⟩ : ∃ wT : World, wT = (((((((w23.setCell ⟨w21.heap.size, 0, none⟩ (.slice ad23 X.g.length cap23)).setCell ⟨w21.heap.size, 1, none⟩ (.int .i64 (X.root : Int))).setCell ⟨w21.heap.size, 2, none⟩ (.int .i64 X.steps)).setCell ⟨w21.heap.size, 3, none⟩ (.int .i64 X.moved)).setCell ⟨w21.heap.size, 4, none⟩ (.int .i64 X.peak)).setCell ⟨w21.heap.size, 5, none⟩ (.int .i64 X.ticks)).setCell ⟨w21.heap.size, 6, none⟩ (.int .i64 X.rounds)) := ⟨_, rfl⟩
    rw [← hwT]
    have HBT : Hid (Below w20.heap.size w20 wT) := by rw [hwT]; exact st7_below HB23.out HB21.out.size
    have BWT : Hid (wT.heap[w21.heap.size]? = some (.cells #[.slice ad23 X.g.length cap23, .int .i64 (X.root : Int), .int .i64 X.steps, .int .i64 X.moved, .int .i64 X.peak, .int .i64 X.ticks, .int .i64 X.rounds] 30)) := by rw [hwT]; exact st7_blk HC23h.out
    have WGT : Hid (CIn wT X.g (.slice ad23 X.g.length cap23)) := by rw [hwT]; exact CellsOn.mono HV23.out (fun k hk => by show k < _; rw [st7_size]; exact hk.1) (fun k hk => st7_far (by have := hk.2; have := HL23.out; omega))
    clear hwT
    obtain ⟨bx, hbx⟩ : ∃ bx, bx = w21.heap.size := ⟨_, rfl⟩
    rw [← hbx] at BWT ⊢
    clear hbx
    rotate_left
    clear z0 z1 z2 z3 z4 z5 z6 fz; clear m0 m1 m2 c0 c1 c2
    obtain ⟨wT, hwT⟩ : ∃ wT : World, wT = (((((((w23.setCell ⟨w20.heap.size, 0, none⟩ (.slice ad23 X.g.length cap23)).setCell ⟨w20.heap.size, 1, none⟩ (.int .i64 (X.root : Int))).setCell ⟨w20.heap.size, 2, none⟩ (.int .i64 X.steps)).setCell ⟨w20.heap.size, 3, none⟩ (.int .i64 X.moved)).setCell ⟨w20.heap.size, 4, none⟩ (.int .i64 X.peak)).setCell ⟨w20.heap.size, 5, none⟩ (.int .i64 X.ticks)).setCell ⟨w20.heap.size, 6, none⟩ (.int .i64 X.rounds)) := ⟨_, rfl⟩
    rw [← hwT]
    have HBT : Hid (Below w20.heap.size w20 wT) := by rw [hwT]; exact st7_below HB23.out (Nat.le_refl _)
    have BWT : Hid (wT.heap[w20.heap.size]? = some (.cells #[.slice ad23 X.g.length cap23, .int .i64 (X.root : Int), .int .i64 X.steps, .int .i64 X.moved, .int .i64 X.peak, .int .i64 X.ticks, .int .i64 X.rounds] 30)) := by rw [hwT]; exact st7_blk HC23h.out
    have WGT : Hid (CIn wT X.g (.slice ad23 X.g.length cap23)) := by rw [hwT]; exact CellsOn.mono HV23.out (fun k hk => by show k < _; rw [st7_size]; exact hk.1) (fun k hk => st7_far (by have := hk.2; have := HL23.out; omega))
    clear hwT
    obtain ⟨bx, hbx⟩ : ∃ bx, bx = w20.heap.size := ⟨_, rfl⟩
    rw [← hbx] at BWT ⊢
    clear hbx
    rotate_left
    all_goals
      have HS24 : Hid (Below wS.heap.size wS wT) := HS20.out.trans (HBT.out.mono HS20.out.size)
      have GL24 : Hid (GOwn wT f9 (labC X.g 1) (.slice ad9 X.g.length cap9)) := GL20.out.keep fun k _ hk => HBT.out.block k hk
      have BG24 := mkHid ((HBT.out.block _ (cellsOf_lt BG20.out)).trans BG20.out)
      have BW24 := mkHid ((HS24.out.block _ (cellsOf_lt BWS.out)).trans BWS.out)
      have q0 := cell_of_blk BW24.out 0 _ rfl; have q1 := cell_of_blk BW24.out 1 _ rfl; have q2 := cell_of_blk BW24.out 2 _ rfl; have q3 := cell_of_blk BW24.out 3 _ rfl; have q4 := cell_of_blk BW24.out 4 _ rfl; have q5 := cell_of_blk BW24.out 5 _ rfl; have q6 := cell_of_blk BW24.out 6 _ rfl
      have h0 := cell_of_blk BWT.out 0 _ rfl; have h1 := cell_of_blk BWT.out 1 _ rfl; have h2 := cell_of_blk BWT.out 2 _ rfl; have h3 := cell_of_blk BWT.out 3 _ rfl; have h4 := cell_of_blk BWT.out 4 _ rfl; have h5 := cell_of_blk BWT.out 5 _ rfl; have h6 := cell_of_blk BWT.out 6 _ rfl
      go_wp2_with fail
      refine (eqRun_calls X X.root _ _ wT WGT.out (WGS.out.next HS24.out)).mono ?_
      rintro e w25 ⟨rfl, hb25⟩
      clear q0 q1 q2 q3 q4 q5 q6
      clear h0 h1 h2 h3 h4 h5 h6
      have HS25 : Hid (Below wS.heap.size wS w25) := HS24.out.trans (hb25.mono HS24.out.size)
      have GL25 : Hid (GOwn w25 f9 (labC X.g 1) (.slice ad9 X.g.length cap9)) := GL24.out.keep fun k _ hk => hb25.block k hk
      have BG25 := mkHid ((hb25.block _ (cellsOf_lt BG24.out)).trans BG24.out)
      clear hb25
      have g0 := cell_of_blk BG25.out 0 _ rfl; have g1 := cell_of_blk BG25.out 1 _ rfl; have g2 := cell_of_blk BG25.out 2 _ rfl; have g3 := cell_of_blk BG25.out 3 _ rfl; have g4 := cell_of_blk BG25.out 4 _ rfl; have g5 := cell_of_blk BG25.out 5 _ rfl; have g6 := cell_of_blk BG25.out 6 _ rfl
      go_wp2_with fail
      refine (heldRun_calls { X with g := labC X.g 1 } X.root X.g (.slice ad9 X.g.length cap9) 1 w25 rfl GL25.out.inn (by omega) (by omega) HGS.out).mono ?_
      rintro e w26 ⟨rfl, hb26⟩
      rw [← HM.out]
      clear g0 g1 g2 g3 g4 g5 g6
      have HS26 : Hid (Below wS.heap.size wS w26) := HS25.out.trans (hb26.mono HS25.out.size)
      clear hb26
      go_wp2_with fail
      go_ret
      exact ⟨rfl, HBX.out.trans (HS26.out.mono HBX.out.size)⟩
end Go.Proofs.YtiipcgnkfhjpeaaGreatDoor.lawExactEvalRun
