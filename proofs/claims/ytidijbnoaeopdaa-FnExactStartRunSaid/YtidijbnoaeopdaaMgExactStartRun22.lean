/-
  THE LAWS' OWN MARKING OF TREES, THE WALK: markExprS, markExpr.
-/
import Derived.Test.YtidijbnoaeopdaaMgExactStartRun14
import Derived.Test.YtidijbnoaeopdaaMgExactStartRun21
namespace Go.Proofs.Ytidijbnoaeopdaa
set_option linter.unusedVariables false
set_option linter.unusedSimpArgs false
open Go.RowKit

/-- the contract of markExprS at one list -/
def MarkSSaid (ks : List Tr) : Prop := ∀ (fp : List Nat) (c : Value) (k : Int) (w : World), KidsFp w 37 ks fp c → fp.Nodup → 0 ≤ k → k + 2 * (szL ks : Int) ≤ 1152921504606846976 →
  Calls Try.prog 26 #[c, .int .i64 k] w fun e w' => e = .returned (.int .i64 (k + 2 * (szL ks : Int))) ∧ KidsFp w' 37 (labL ks k) fp c ∧ ButL fp w w'

/-- a list of which the first j elements are marked -/
def Half (ks : List Tr) (k : Int) (j : Nat) (ms : List Tr) : Prop := ms.length = ks.length ∧ ∀ i (hi : i < ks.length) (hm : i < ms.length), ms[i] = if i < j then .node (labAt ks k i) (labAt ks k i + 1) (labL ks[i].kids (labAt ks k i + 2)) else ks[i]
theorem Half.zero (ks : List Tr) (k : Int) : Half ks k 0 ks := ⟨rfl, fun i hi hm => by simp⟩
theorem Half.step {ks ms : List Tr} {k : Int} {j : Nat} (h : Half ks k j ms) (hj : j < ks.length) : Half ks k (j + 1) (ms.set j (.node (labAt ks k j) (labAt ks k j + 1) (labL ks[j].kids (labAt ks k j + 2)))) := by
  refine ⟨by rw [List.length_set]; exact h.1, fun i hi hm => ?_⟩
  rw [List.getElem_set]
  by_cases hij : j = i
  · subst hij; simp
  · rw [if_neg hij, h.2 i hi (by rw [h.1]; exact hi)]
    by_cases hlt : i < j
    · rw [if_pos hlt, if_pos (by omega)]
    · rw [if_neg hlt, if_neg (by omega)]
theorem Half.done {ks ms : List Tr} {k : Int} (h : Half ks k ks.length ms) : ms = labL ks k := by
  refine List.ext_getElem (by rw [h.1, labL_length]) fun i h1 h2 => ?_
  have hi : i < ks.length := by rw [← h.1]; exact h1
  rw [h.2 i hi h1, if_pos hi, labL_get ks k i hi]
theorem Half.at {ks ms : List Tr} {k : Int} {j : Nat} (h : Half ks k j ms) (hj : j < ks.length) (hm : j < ms.length) : ms[j] = ks[j] := by rw [h.2 j hj hm, if_neg (by omega)]

/-- one round's worlds -/
theorem markS_after {T : TypeId} {w w1 : World} {bl off : Nat} {ks ms : List Tr} {fps : List (List Nat)} {C : Array Value} {k : Int} {j : Nat} {f : List Nat} {r : Value} (hC : w.heap[bl]? = some (.cells C T)) (hr : RowFp w T bl off ms fps) (hn : (bl :: fps.flatten).Nodup)
    (hk : 0 ≤ labAt ks k j ∧ labAt ks k j ≤ 1152921504606846976) (hj : j < ks.length) (hh : Half ks k j ms) (hf : fps[j]? = some f) (hc : w.cell? ⟨bl, off + j * 3 + 2, none⟩ = some r) {x : Int} (hx : x = labAt ks k j + 2)
    (h1 : KidsFp w1 T (labL ks[j].kids x) f r) (hb : ButL f ((w.setCell ⟨bl, off + j * 3, none⟩ (.int .i64 (labAt ks k j))).setCell ⟨bl, off + j * 3 + 1, none⟩ (.int .i64 (labAt ks k j + 1))) w1) :
    RowFp w1 T bl off (ms.set j (.node (labAt ks k j) (labAt ks k j + 1) (labL ks[j].kids (labAt ks k j + 2)))) fps ∧ (∃ C', w1.heap[bl]? = some (.cells C' T)) ∧ ButL (bl :: fps.flatten) w w1 := by
  subst hx
  have := RowFp.mark hC hr hn j (by rw [hh.1]; exact hj) (labAt ks k j) (labAt ks k j + 1) (by unfold I64; omega) (by unfold I64; omega) f hf r hc _ h1 hb
  refine ⟨this.1, this.2, ?_⟩
  have hm : ∀ k ∈ f, k ∈ bl :: fps.flatten := fun k hk => List.mem_cons_of_mem _ (List.mem_flatten.2 ⟨f, List.mem_of_getElem? hf, hk⟩)
  exact ((ButL.setCell w bl _ (by simp) _).trans (ButL.setCell _ bl _ (by simp) _)).trans (hb.mono hm)

set_option maxHeartbeats 800000 in
theorem markS_step (ks : List Tr) (ih : ∀ i (hi : i < ks.length), MarkSSaid (ks[i]).kids) : MarkSSaid ks := by
  intro fp c k w hk hn h0 h1
  have HI : Hid (∀ i (hi : i < ks.length), MarkSSaid (ks[i]).kids) := ih
  have HK : Hid (KidsFp w 37 ks fp c) := hk
  have HN : Hid fp.Nodup := hn
  clear ih hn
  obtain ⟨ad, cap, rfl, hl, hm, hrow⟩ := hk
  unfold maxLen at hm
  clear hrow
  go_enter Try.func26, Try.ntmps26
  go_wp2_with fail
  go_loopw [1, 5] (fun l i wr => ∃ j : Nat, ∃ ms, j ≤ ks.length ∧ i = .int .i64 j ∧ l = .int .i64 (labAt ks k j) ∧ Half ks k j ms ∧ KidsFp wr 37 ms fp (.slice ad ks.length cap) ∧ ButL fp w wr) (fun _ i _ => ks.length - (intOf i).toNat)
  case atStart => exact ⟨0, ks, Nat.zero_le _, rfl, by rw [labAt_zero], Half.zero ks k, HK.out, ButL.refl _ _⟩
  case round =>
    obtain ⟨j, ms, hj, rfl, rfl, hhalf, hkr, hb⟩ := hrel
    have hle := labAt_le ks k j
    have HH : Hid (Half ks k j ms) := hhalf
    have HB : Hid (ButL fp w wr) := hb
    have HKR : Hid (KidsFp wr 37 ms fp (.slice ad ks.length cap)) := hkr
    have hml := hhalf.1
    clear hb
    by_cases hlt : j < ks.length
    · obtain ⟨ad', cap', he, _, _, hr⟩ := hkr
      rw [hml] at he
      cases he
      rcases hr with ⟨hr, _⟩ | ⟨bl, off, C, fps, rfl, hC, rfl, hr⟩
      · rw [hr] at hml; simp at hml; omega
      obtain ⟨hfl, f, hf, p, q, r, c0, c1, c2, ht⟩ := RowFp.at ms fps off j (by omega) hr
      rw [hhalf.at hlt] at ht
      obtain ⟨rfl, rfl, _, _, hkk⟩ := trFp_iff.1 ht
      obtain ⟨C1, hC1⟩ := set_block hC (off + j * 3) (.int .i64 (labAt ks k j))
      have f0 := cells_thawed hC (off + j * 3)
      have f1 := cells_thawed hC1 (off + j * 3 + 1)
      have d1 := (set_off hC (show off + j * 3 + 1 ≠ off + j * 3 by omega) (.int .i64 (labAt ks k j))).trans c1
      have d2 := (set_off hC (show off + j * 3 + 2 ≠ off + j * 3 by omega) (.int .i64 (labAt ks k j))).trans c2
      have e2 := (set_off hC1 (show off + j * 3 + 2 ≠ off + j * 3 + 1 by omega) (.int .i64 (labAt ks k j + 1))).trans d2
      have HC : Hid (wr.heap[bl]? = some (.cells C 37)) := hC
      have HR : Hid (RowFp wr 37 bl off ms fps) := hr
      have HF : Hid (fps[j]? = some f) := hf
      have HT : Hid (KidsFp wr 37 ks[j].kids f r) := hkk
      have HC2 : Hid (wr.cell? ⟨bl, off + j * 3 + 2, none⟩ = some r) := c2
      have hs := labAt_succ ks k j hlt
      have hle2 := labAt_le ks k (j + 1)
      clear hkk ht hr hf hC hC1 hhalf
      go_wp2_with fail
      refine (HI.out j hlt f r _ _ ?_ ?_ (by omega) (by omega)).mono ?_
      · have hn' := HN.out
        simp only [List.nodup_cons] at hn'
        refine HT.out.keep fun b hb => ?_
        have hbb : b ≠ bl := fun e => hn'.1 (List.mem_flatten.2 ⟨f, List.mem_of_getElem? HF.out, e ▸ hb⟩)
        exact (Below.heap_setCell _ _ _ _ hbb).trans (Below.heap_setCell _ _ _ _ hbb)
      · have hn' := HN.out
        simp only [List.nodup_cons] at hn'
        exact flatten_one hn'.2 HF.out
      rintro e w1 ⟨rfl, hk1, hb1⟩
      have HM := markS_after (ks := ks) HC.out HR.out HN.out (by omega) hlt HH.out HF.out HC2.out (by omega) hk1 hb1
      have HM' : Hid (RowFp w1 37 bl off (ms.set j (.node (labAt ks k j) (labAt ks k j + 1) (labL ks[j].kids (labAt ks k j + 2)))) fps ∧ (∃ C', w1.heap[bl]? = some (.cells C' 37)) ∧ ButL (bl :: fps.flatten) wr w1) := HM
      clear HM hk1 hb1 f0 f1 d1 d2 e2 c0 c1 c2
      go_wp2_with fail
      go_roundw
      case rel =>
        obtain ⟨m1, ⟨C', m2⟩, m3⟩ := HM'.out
        refine ⟨j + 1, _, by omega, by go_num, congrArg (Value.int .i64) (by omega), HH.out.step hlt, ⟨some ⟨bl, off, none⟩, cap, ?_, ?_, ?_, Or.inr ⟨bl, off, C', fps, rfl, m2, rfl, m1⟩⟩, HB.out.trans m3⟩
        · rw [List.length_set, hml]
        · rw [List.length_set, hml]; exact hl
        · unfold maxLen; omega
      case measure => simp [intOf]; omega
    · have hke : j = ks.length := by omega
      have HV : Hid (k + 2 * (szL ks : Int) = labAt ks k j) := by subst hke; exact (labAt_end ks k).symm
      have HD : Hid (ms = labL ks k) := by subst hke; exact HH.out.done
      clear hke hkr
      go_wp2_with fail
      go_ret
      exact ⟨ret_int HV.out.symm, HD.out ▸ HKR.out, HB.out⟩

theorem markS_any : ∀ (n : Nat) (ks : List Tr), szL ks ≤ n → MarkSSaid ks := by
  intro n
  induction n with
  | zero =>
    intro ks h
    exact markS_step ks fun i hi => absurd (szT_lt_szL ks i hi) (by omega)
  | succ n ih =>
    intro ks h
    exact markS_step ks fun i hi => ih _ (by have := szL_kids_lt ks i hi; omega)

/-- MARKING, FOR EVERY LIST OF TREES WITH DISTINCT BLOCKS -/
theorem markS_calls (ks : List Tr) : MarkSSaid ks := markS_any _ ks (Nat.le_refl _)
end Go.Proofs.Ytidijbnoaeopdaa
/-
  THE LAWS' OWN MARKING OF A PROGRAM (markDefS): the count; no block but its own is changed.
-/
namespace Go.Proofs.Ytidijbnoaeopdaa
set_option linter.unusedVariables false
set_option linter.unusedSimpArgs false
open Go.RowKit

/-- the nodes below the bodies -/
def sumZ (ds : List Df) : Nat := (ds.map fun d => szL d.2.kids).sum
theorem sumZ_take (ds : List Df) (j : Nat) (h : j < ds.length) : sumZ (ds.take (j + 1)) = sumZ (ds.take j) + szL ds[j].2.kids := by
  unfold sumZ; rw [List.take_succ_eq_append_getElem h, List.map_append, List.sum_append]; simp only [List.map_cons, List.map_nil, List.sum_cons, List.sum_nil, Nat.add_zero]
theorem sumZ_le (ds : List Df) (j : Nat) : sumZ (ds.take j) ≤ sumZ ds := by
  have h : sumZ (ds.take j) + sumZ (ds.drop j) = sumZ ds := by
    unfold sumZ
    rw [← List.sum_append, ← List.map_append, List.take_append_drop]
  omega
theorem sumZ_szL (ds : List Df) : sumZ ds + ds.length ≤ szL (bodies ds) := by
  induction ds with
  | nil => simp [sumZ, bodies]
  | cons d ds ih =>
    have h1 : sumZ (d :: ds) = szL d.2.kids + sumZ ds := by simp [sumZ]
    have h2 : szL (bodies (d :: ds)) = 1 + szT d.2 + szL (bodies ds) := by
      show szL (d.2 :: bodies ds) = _
      simp [szL]
    have h3 := szT_eq d.2
    rw [h1, h2, List.length_cons]
    omega
/-- what holds when j functions have been marked -/
structure MD (ds : List Df) (bl : Nat) (fps : List (List Nat)) (g : Nat → Value) (w : World) (j : Nat) (wr : World) : Prop where
  row : ∃ f, wr.rowIs bl 66 (ds.length * 4) f ∧ ∀ i, i < ds.length → f (i * 4 + 3) = g i
  kids : ∀ i (hi : i < ds.length) (hi2 : i < fps.length), j ≤ i → KidsFp wr 37 ds[i].2.kids fps[i] (g i)
  but : ButL (bl :: fps.flatten) w wr
theorem MD.step {ds : List Df} {bl : Nat} {fps : List (List Nat)} {g : Nat → Value} {w wr w1 : World} {j : Nat} (h : MD ds bl fps g w j wr) (hj : j < ds.length) (hj2 : j < fps.length) (hn : (bl :: fps.flatten).Nodup) (x y z : Value)
    (hb : ButL fps[j] (((wr.setCell ⟨bl, j * 4, none⟩ x).setCell ⟨bl, j * 4 + 1, none⟩ y).setCell ⟨bl, j * 4 + 2, none⟩ z) w1) : MD ds bl fps g w (j + 1) w1 := by
  obtain ⟨f, hr, hf⟩ := h.row
  rw [List.nodup_cons] at hn
  have hlt := hr.lt
  have hnot : ∀ i (hi : i < fps.length), bl ∉ fps[i] := fun i hi hm => hn.1 (List.mem_flatten.2 ⟨_, List.getElem_mem hi, hm⟩)
  have hss : (((wr.setCell ⟨bl, j * 4, none⟩ x).setCell ⟨bl, j * 4 + 1, none⟩ y).setCell ⟨bl, j * 4 + 2, none⟩ z).heap.size = wr.heap.size := by rw [size_setCell, size_setCell, size_setCell]
  have hbl : ∀ k, k ≠ bl → (((wr.setCell ⟨bl, j * 4, none⟩ x).setCell ⟨bl, j * 4 + 1, none⟩ y).setCell ⟨bl, j * 4 + 2, none⟩ z).heap[k]? = wr.heap[k]? := fun k hk => by
    rw [Below.heap_setCell _ _ _ _ hk, Below.heap_setCell _ _ _ _ hk, Below.heap_setCell _ _ _ _ hk]
  have hr3 := ((hr.set (j * 4) x).set (j * 4 + 1) y).set (j * 4 + 2) z
  refine ⟨⟨_, hr3.of_block (hb.block bl (by rw [hss]; exact hlt) (hnot j hj2)), fun i hi => ?_⟩, fun i hi hi2 hij => ?_, ?_⟩
  · simp only [if_neg (show ¬ (i * 4 + 3 = j * 4 + 2) by omega), if_neg (show ¬ (i * 4 + 3 = j * 4 + 1) by omega), if_neg (show ¬ (i * 4 + 3 = j * 4) by omega)]
    exact hf i hi
  · have hk := h.kids i hi hi2 (by omega)
    refine hk.keep fun k hm => ?_
    have hkl := hk.lt k hm
    exact (hb.block k (by rw [hss]; exact hkl) (flatten_disj hn.2 (List.getElem?_eq_getElem hi2) (List.getElem?_eq_getElem hj2) (by omega) k hm)).trans (hbl k (fun e => hnot i hi2 (e ▸ hm)))
  · have h2 : ButL (bl :: fps.flatten) wr w1 := by
      refine ⟨hb.os, hb.tape, hb.output, by have := hb.size; rw [hss] at this; exact this, fun k hk hm => ?_⟩
      simp only [List.mem_cons, not_or] at hm
      exact (hb.block k (by rw [hss]; exact hk) (fun hx => hm.2 (List.mem_flatten.2 ⟨_, List.getElem_mem hj2, hx⟩))).trans (hbl k hm.1)
    exact h.but.trans h2

set_option maxHeartbeats 800000 in
theorem markDefs_calls (ds : List Df) (fp : List Nat) (v : Value) (k : Int) (w : World) (hc : DefsFp w ds fp v) (hn : fp.Nodup) (h0 : 0 ≤ k) (h1 : k ≤ 576460752303423488) (hs : szL (bodies ds) ≤ 1048576) :
    Calls Try.prog 15 #[v, .int .i64 k] w fun e w' => e = .returned (.int .i64 (k + (3 * ds.length + 2 * sumZ ds : Nat))) ∧ ButL fp w w' := by
  obtain ⟨bl, f, fps, rfl, hl, hr, rfl, hfl, hi⟩ := hc
  have hsz := sumZ_szL ds
  have HS : Hid (sumZ ds + ds.length ≤ 1048576) := by rw [Hid]; omega
  have HFL := mkHid hfl
  have HND := mkHid hn
  have HST : Hid (MD ds bl fps (fun i => f (i * 4 + 3)) w 0 w) := ⟨⟨f, hr, fun _ _ => rfl⟩, fun i h1 h2 _ => (trFp_iff.1 (hi i h1 h2).2.2).2.2.2.2, ButL.refl _ _⟩
  obtain ⟨g, hg⟩ : ∃ g : Nat → Value, g = fun i => f (i * 4 + 3) := ⟨_, rfl⟩
  rw [← hg] at HST
  have hm : ds.length ≤ 1048576 := hl
  clear hr hfl hi hn hsz hs hl hg
  go_enter Try.func15, Try.ntmps15
  go_wp2_with fail
  go_loopw [1, 5] (fun qv i wr => ∃ (j : Nat) (q : Int), j ≤ ds.length ∧ i = .int .i64 j ∧ qv = .int .i64 q ∧ Hid (q = k + ((3 * j + 2 * sumZ (ds.take j) : Nat) : Int)) ∧ MD ds bl fps g w j wr) (fun _ i _ => ds.length - (intOf i).toNat)
  case atStart => exact ⟨0, k, Nat.zero_le _, rfl, rfl, by simp [Hid, sumZ], HST.out⟩
  case round =>
    obtain ⟨j, q, hj, rfl, rfl, HQ, hmd⟩ := hrel
    have HMD := mkHid hmd
    by_cases hlt : j < ds.length
    · have e1 := sumZ_take ds j hlt
      have e2 := sumZ_le ds (j + 1)
      have hj2 : j < fps.length := by rw [HFL.out]; exact hlt
      have hq := HQ.out
      have hss := HS.out
      have hq0 : 0 ≤ q := by omega
      have hq1 : q + 3 + 2 * (szL ds[j].2.kids : Int) ≤ 1152921504606846976 := by omega
      have HE : Hid (q + 3 + 2 * (szL ds[j].2.kids : Int) = k + ((3 * (j + 1) + 2 * sumZ (ds.take (j + 1)) : Nat) : Int)) := by rw [Hid]; omega
      obtain ⟨f1, hrow, hf1⟩ := hmd.row
      have c0 := hrow.cell (i := j * 4) (by omega)
      have f0 := hrow.frozen (j * 4)
      have r1 := hrow.set (j * 4) (.int .i64 q)
      have c1 := r1.cell (i := j * 4 + 1) (by omega)
      have g1 := r1.frozen (j * 4 + 1)
      have r2 := r1.set (j * 4 + 1) (.int .i64 (q + 1))
      have c2 := r2.cell (i := j * 4 + 2) (by omega)
      have g2 := r2.frozen (j * 4 + 2)
      have r3 := r2.set (j * 4 + 2) (.int .i64 (q + 1 + 1))
      have c3 := r3.cell (i := j * 4 + 3) (by omega)
      simp only [if_neg (show ¬ (j * 4 + 3 = j * 4 + 2) by omega), if_neg (show ¬ (j * 4 + 3 = j * 4 + 1) by omega), if_neg (show ¬ (j * 4 + 3 = j * 4) by omega), if_neg (show ¬ (j * 4 + 2 = j * 4 + 1) by omega), if_neg (show ¬ (j * 4 + 2 = j * 4) by omega), if_neg (show ¬ (j * 4 + 1 = j * 4) by omega), hf1 j hlt] at c1 c2 c3
      have hkf := hmd.kids j hlt hj2 (Nat.le_refl _)
      have hbl : ∀ x ∈ fps[j], (((wr.setCell ⟨bl, j * 4, none⟩ (.int .i64 q)).setCell ⟨bl, j * 4 + 1, none⟩ (.int .i64 (q + 1))).setCell ⟨bl, j * 4 + 2, none⟩ (.int .i64 (q + 1 + 1))).heap[x]? = wr.heap[x]? := fun x hx => by
        have hne : x ≠ bl := fun e => by
          have hn := HND.out
          rw [List.nodup_cons] at hn
          exact hn.1 (List.mem_flatten.2 ⟨_, List.getElem_mem hj2, e ▸ hx⟩)
        rw [Below.heap_setCell _ _ _ _ hne, Below.heap_setCell _ _ _ _ hne, Below.heap_setCell _ _ _ _ hne]
      have hnd : fps[j].Nodup := by
        have hn := HND.out
        rw [List.nodup_cons] at hn
        exact flatten_one hn.2 (List.getElem?_eq_getElem hj2)
      have HC := mkHid (markS_calls ds[j].2.kids fps[j] (g j) (q + 1 + 1 + 1) _ (hkf.keep hbl) hnd (by omega) (by omega))
      have HJI : (j : Int) < (ds.length : Int) := by omega
      have HNX : Hid (∀ w1, ButL fps[j] (((wr.setCell ⟨bl, j * 4, none⟩ (.int .i64 q)).setCell ⟨bl, j * 4 + 1, none⟩ (.int .i64 (q + 1))).setCell ⟨bl, j * 4 + 2, none⟩ (.int .i64 (q + 1 + 1))) w1 → MD ds bl fps g w (j + 1) w1) := fun w1 hb => HMD.out.step hlt hj2 HND.out _ _ _ hb
      clear hmd hf1 hrow r1 r2 r3 e1 e2 hq hss hbl hnd hkf
      go_wp2_with fail
      refine HC.out.mono ?_
      rintro e w1 ⟨rfl, -, hb1⟩
      have HM1 := mkHid (HNX.out w1 hb1)
      clear hb1
      go_wp2_with fail
      go_roundw
      case rel => exact ⟨j + 1, _, by omega, by go_num, rfl, by rw [← HE.out, Hid]; omega, HM1.out⟩
      case measure => simp [intOf]; omega
    · have hke : j = ds.length := by omega
      have HV : Hid (q = k + ((3 * ds.length + 2 * sumZ ds : Nat) : Int)) := by
        have h := HQ.out
        rw [hke, List.take_length] at h
        exact h
      clear hke hmd HQ
      go_wp2_with fail
      go_ret
      exact ⟨ret_int HV.out, HMD.out.but⟩
end Go.Proofs.Ytidijbnoaeopdaa
/-
  THE LAWS' OWN MARKING OF ONE TREE (markExpr).
-/
namespace Go.Proofs.Ytidijbnoaeopdaa
set_option linter.unusedVariables false
set_option linter.unusedSimpArgs false
open Go.RowKit

set_option maxHeartbeats 400000 in
theorem mark_calls (ks : List Tr) (o n : Int) (fp : List Nat) (c : Value) (k : Int) (w : World) (hk : KidsFp w 37 ks fp c) (hn : fp.Nodup) (h0 : 0 ≤ k) (h1 : k + 2 * (szL ks : Int) ≤ 1152921504606846976) :
    Calls Try.prog 16 #[.agg #[.int .i64 o, .int .i64 n, c], .int .i64 k] w fun e w' => e = .returned (.int .i64 (k + 2 * (szL ks : Int))) ∧ KidsFp w' 37 (labL ks k) fp c ∧ ButL fp w w' := by
  have HK : Hid (KidsFp w 37 ks fp c) := hk
  clear hk
  go_enter Try.func16, Try.ntmps16
  go_wp2_with fail
  refine (markS_calls ks fp c k _ ?_ hn h0 h1).mono ?_
  · exact HK.out.keep fun b hb => (box_below w _).block b (HK.out.lt b hb)
  rintro e w1 ⟨rfl, hk1, hb⟩
  have hk1' : Hid (KidsFp w1 37 (labL ks k) fp c) := hk1
  have hb' : ButL fp w w1 := (ButL.of_below (box_below w _)).trans hb
  clear hb hk1
  go_wp2_with fail
  go_ret
  exact ⟨rfl, hk1'.out, hb'⟩
end Go.Proofs.Ytidijbnoaeopdaa
