/-
  THE LAWS' OWN MARKING OF TREES, THE WALK: markExprS, markExpr.
-/
import Derived.Test.YtocnkjicmchbdaaMark
namespace Go.Proofs.Ytocnkjicmchbdaa
set_option linter.unusedVariables false
set_option linter.unusedSimpArgs false
open Go.RowKit

/-- the contract of markExprS at one list -/
def MarkSSaid (ks : List Tr) : Prop := ∀ (fp : List Nat) (c : Value) (k : Int) (w : World), KidsFp w 31 ks fp c → fp.Nodup → 0 ≤ k → k + 2 * (szL ks : Int) ≤ 1152921504606846976 →
  Calls Try.prog 47 #[c, .int .i64 k] w fun e w' => e = .returned (.int .i64 (k + 2 * (szL ks : Int))) ∧ KidsFp w' 31 (labL ks k) fp c ∧ ButL fp w w'

/-- a list of which the first j elements are marked -/
def Half (ks : List Tr) (k : Int) (j : Nat) (ms : List Tr) : Prop := ms.length = ks.length ∧ ∀ i (hi : i < ks.length) (hm : i < ms.length), ms[i] = if i < j then .node (labAt ks k i) (labAt ks k i + 1) (labL ks[i].kids (labAt ks k i + 2)) else ks[i]
theorem Half.zero (ks : List Tr) (k : Int) : Half ks k 0 ks := ⟨rfl, fun i hi hm => by simp⟩
theorem Half.step {ks ms : List Tr} {k : Int} {j : Nat} (h : Half ks k j ms) (hj : j < ks.length) : Half ks k (j + 1) (ms.set j (.node (labAt ks k j) (labAt ks k j + 1) (labL ks[j].kids (labAt ks k j + 2)))) := by
  refine ⟨by rw [List.length_set]; exact h.1, fun i hi hm => ?_⟩
  rw [List.getElem_set]
  by_cases hij : j = i
  · subst hij; simp
  · rw [if_neg hij, h.2 i hi (by rw [h.1]; exact hi)]
    by_cases hlt : i < j
    · rw [if_pos hlt, if_pos (by omega)]
    · rw [if_neg hlt, if_neg (by omega)]
theorem Half.done {ks ms : List Tr} {k : Int} (h : Half ks k ks.length ms) : ms = labL ks k := by
  refine List.ext_getElem (by rw [h.1, labL_length]) fun i h1 h2 => ?_
  have hi : i < ks.length := by rw [← h.1]; exact h1
  rw [h.2 i hi h1, if_pos hi, labL_get ks k i hi]
theorem Half.at {ks ms : List Tr} {k : Int} {j : Nat} (h : Half ks k j ms) (hj : j < ks.length) (hm : j < ms.length) : ms[j] = ks[j] := by rw [h.2 j hj hm, if_neg (by omega)]

/-- one round's worlds -/
theorem markS_after {T : TypeId} {w w1 : World} {bl off : Nat} {ks ms : List Tr} {fps : List (List Nat)} {C : Array Value} {k : Int} {j : Nat} {f : List Nat} {r : Value} (hC : w.heap[bl]? = some (.cells C T)) (hr : RowFp w T bl off ms fps) (hn : (bl :: fps.flatten).Nodup)
    (hk : 0 ≤ labAt ks k j ∧ labAt ks k j ≤ 1152921504606846976) (hj : j < ks.length) (hh : Half ks k j ms) (hf : fps[j]? = some f) (hc : w.cell? ⟨bl, off + j * 3 + 2, none⟩ = some r) {x : Int} (hx : x = labAt ks k j + 2)
    (h1 : KidsFp w1 T (labL ks[j].kids x) f r) (hb : ButL f ((w.setCell ⟨bl, off + j * 3, none⟩ (.int .i64 (labAt ks k j))).setCell ⟨bl, off + j * 3 + 1, none⟩ (.int .i64 (labAt ks k j + 1))) w1) :
    RowFp w1 T bl off (ms.set j (.node (labAt ks k j) (labAt ks k j + 1) (labL ks[j].kids (labAt ks k j + 2)))) fps ∧ (∃ C', w1.heap[bl]? = some (.cells C' T)) ∧ ButL (bl :: fps.flatten) w w1 := by
  subst hx
  have := RowFp.mark hC hr hn j (by rw [hh.1]; exact hj) (labAt ks k j) (labAt ks k j + 1) (by unfold I64; omega) (by unfold I64; omega) f hf r hc _ h1 hb
  refine ⟨this.1, this.2, ?_⟩
  have hm : ∀ k ∈ f, k ∈ bl :: fps.flatten := fun k hk => List.mem_cons_of_mem _ (List.mem_flatten.2 ⟨f, List.mem_of_getElem? hf, hk⟩)
  exact ((ButL.setCell w bl _ (by simp) _).trans (ButL.setCell _ bl _ (by simp) _)).trans (hb.mono hm)

set_option maxHeartbeats 800000 in
theorem markS_step (ks : List Tr) (ih : ∀ i (hi : i < ks.length), MarkSSaid (ks[i]).kids) : MarkSSaid ks := by
  intro fp c k w hk hn h0 h1
  have HI : Hid (∀ i (hi : i < ks.length), MarkSSaid (ks[i]).kids) := ih
  have HK : Hid (KidsFp w 31 ks fp c) := hk
  have HN : Hid fp.Nodup := hn
  clear ih hn
  obtain ⟨ad, cap, rfl, hl, hm, hrow⟩ := hk
  unfold maxLen at hm
  clear hrow
  go_enter Try.func47, Try.ntmps47
  go_wp2_with fail
  go_loopw [1, 5] (fun l i wr => ∃ j : Nat, ∃ ms, j ≤ ks.length ∧ i = .int .i64 j ∧ l = .int .i64 (labAt ks k j) ∧ Half ks k j ms ∧ KidsFp wr 31 ms fp (.slice ad ks.length cap) ∧ ButL fp w wr) (fun _ i _ => ks.length - (intOf i).toNat)
  case atStart => exact ⟨0, ks, Nat.zero_le _, rfl, by rw [labAt_zero], Half.zero ks k, HK.out, ButL.refl _ _⟩
  case round =>
    obtain ⟨j, ms, hj, rfl, rfl, hhalf, hkr, hb⟩ := hrel
    have hle := labAt_le ks k j
    have HH : Hid (Half ks k j ms) := hhalf
    have HB : Hid (ButL fp w wr) := hb
    have HKR : Hid (KidsFp wr 31 ms fp (.slice ad ks.length cap)) := hkr
    have hml := hhalf.1
    clear hb
    by_cases hlt : j < ks.length
    · obtain ⟨ad', cap', he, _, _, hr⟩ := hkr
      rw [hml] at he
      cases he
      rcases hr with ⟨hr, _⟩ | ⟨bl, off, C, fps, rfl, hC, rfl, hr⟩
      · rw [hr] at hml; simp at hml; omega
      obtain ⟨hfl, f, hf, p, q, r, c0, c1, c2, ht⟩ := RowFp.at ms fps off j (by omega) hr
      rw [hhalf.at hlt] at ht
      obtain ⟨rfl, rfl, _, _, hkk⟩ := trFp_iff.1 ht
      obtain ⟨C1, hC1⟩ := set_block hC (off + j * 3) (.int .i64 (labAt ks k j))
      have f0 := cells_thawed hC (off + j * 3)
      have f1 := cells_thawed hC1 (off + j * 3 + 1)
      have d1 := (set_off hC (show off + j * 3 + 1 ≠ off + j * 3 by omega) (.int .i64 (labAt ks k j))).trans c1
      have d2 := (set_off hC (show off + j * 3 + 2 ≠ off + j * 3 by omega) (.int .i64 (labAt ks k j))).trans c2
      have e2 := (set_off hC1 (show off + j * 3 + 2 ≠ off + j * 3 + 1 by omega) (.int .i64 (labAt ks k j + 1))).trans d2
      have HC : Hid (wr.heap[bl]? = some (.cells C 31)) := hC
      have HR : Hid (RowFp wr 31 bl off ms fps) := hr
      have HF : Hid (fps[j]? = some f) := hf
      have HT : Hid (KidsFp wr 31 ks[j].kids f r) := hkk
      have HC2 : Hid (wr.cell? ⟨bl, off + j * 3 + 2, none⟩ = some r) := c2
      have hs := labAt_succ ks k j hlt
      have hle2 := labAt_le ks k (j + 1)
      clear hkk ht hr hf hC hC1 hhalf
      go_wp2_with fail
      refine (HI.out j hlt f r _ _ ?_ ?_ (by omega) (by omega)).mono ?_
      · have hn' := HN.out
        simp only [List.nodup_cons] at hn'
        refine HT.out.keep fun b hb => ?_
        have hbb : b ≠ bl := fun e => hn'.1 (List.mem_flatten.2 ⟨f, List.mem_of_getElem? HF.out, e ▸ hb⟩)
        exact (Below.heap_setCell _ _ _ _ hbb).trans (Below.heap_setCell _ _ _ _ hbb)
      · have hn' := HN.out
        simp only [List.nodup_cons] at hn'
        exact flatten_one hn'.2 HF.out
      rintro e w1 ⟨rfl, hk1, hb1⟩
      have HM := markS_after (ks := ks) HC.out HR.out HN.out (by omega) hlt HH.out HF.out HC2.out (by omega) hk1 hb1
      have HM' : Hid (RowFp w1 31 bl off (ms.set j (.node (labAt ks k j) (labAt ks k j + 1) (labL ks[j].kids (labAt ks k j + 2)))) fps ∧ (∃ C', w1.heap[bl]? = some (.cells C' 31)) ∧ ButL (bl :: fps.flatten) wr w1) := HM
      clear HM hk1 hb1 f0 f1 d1 d2 e2 c0 c1 c2
      go_wp2_with fail
      go_roundw
      case rel =>
        obtain ⟨m1, ⟨C', m2⟩, m3⟩ := HM'.out
        refine ⟨j + 1, _, by omega, by go_num, congrArg (Value.int .i64) (by omega), HH.out.step hlt, ⟨some ⟨bl, off, none⟩, cap, ?_, ?_, ?_, Or.inr ⟨bl, off, C', fps, rfl, m2, rfl, m1⟩⟩, HB.out.trans m3⟩
        · rw [List.length_set, hml]
        · rw [List.length_set, hml]; exact hl
        · unfold maxLen; omega
      case measure => simp [intOf]; omega
    · have hke : j = ks.length := by omega
      have HV : Hid (k + 2 * (szL ks : Int) = labAt ks k j) := by subst hke; exact (labAt_end ks k).symm
      have HD : Hid (ms = labL ks k) := by subst hke; exact HH.out.done
      clear hke hkr
      go_wp2_with fail
      go_ret
      exact ⟨ret_int HV.out.symm, HD.out ▸ HKR.out, HB.out⟩

theorem markS_any : ∀ (n : Nat) (ks : List Tr), szL ks ≤ n → MarkSSaid ks := by
  intro n
  induction n with
  | zero =>
    intro ks h
    exact markS_step ks fun i hi => absurd (szT_lt_szL ks i hi) (by omega)
  | succ n ih =>
    intro ks h
    exact markS_step ks fun i hi => ih _ (by have := szL_kids_lt ks i hi; omega)

/-- MARKING, FOR EVERY LIST OF TREES WITH DISTINCT BLOCKS -/
theorem markS_calls (ks : List Tr) : MarkSSaid ks := markS_any _ ks (Nat.le_refl _)
end Go.Proofs.Ytocnkjicmchbdaa
