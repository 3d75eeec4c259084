/-
  THE LAWS' OWN RE-READING OF MARKED TREES (heldExprS, heldExpr): over a list that bears its numbers in order, it answers the number behind; nothing that was there is changed.
-/
import Derived.Test.YticoegjackgldabFp
import Derived.Test.YticoegjackgldabProg
namespace Go.Proofs.Yticoegjackgldab
set_option linter.unusedVariables false
set_option linter.unusedSimpArgs false
open Go.RowKit

/-- the number that stands at element i -/
def labAt (ks : List Tr) (k : Int) (i : Nat) : Int := k + 2 * (szL (ks.take i) : Int)
theorem labAt_zero (ks : List Tr) (k : Int) : labAt ks k 0 = k := by simp [labAt, szL]
theorem labAt_end (ks : List Tr) (k : Int) : labAt ks k ks.length = k + 2 * (szL ks : Int) := by simp [labAt]
theorem labAt_succ (ks : List Tr) (k : Int) (i : Nat) (hi : i < ks.length) : labAt ks k (i + 1) = labAt ks k i + 2 + 2 * (szL ks[i].kids : Int) := by
  unfold labAt
  rw [szL_take_succ ks i hi, szT_eq]
  push_cast
  omega
theorem labAt_le (ks : List Tr) (k : Int) (i : Nat) : k ≤ labAt ks k i ∧ labAt ks k i ≤ k + 2 * (szL ks : Int) := by
  have := szL_take_le ks i
  unfold labAt
  omega
theorem labL_get : ∀ (ks : List Tr) (k : Int) (i : Nat) (hi : i < ks.length) (hj : i < (labL ks k).length), (labL ks k)[i] = .node (labAt ks k i) (labAt ks k i + 1) (labL ks[i].kids (labAt ks k i + 2))
  | [], _, _, hi, _ => by simp at hi
  | t :: ts, k, 0, _, _ => by simp [labL_cons, labAt_zero]
  | t :: ts, k, i + 1, hi, hj => by
    have := labL_get ts (k + 2 + 2 * (szT t : Int)) i (by simpa using hi) (by rw [labL_length]; simpa using hi)
    simp only [labL_cons, List.getElem_cons_succ, this]
    have e : labAt ts (k + 2 + 2 * (szT t : Int)) i = labAt (t :: ts) k (i + 1) := by
      unfold labAt
      simp only [List.take_succ_cons, szL]
      push_cast
      omega
    rw [e]

/-- the contract of heldExprS at one list -/
def HeldSSaid (ks : List Tr) : Prop := ∀ (c : Value) (k : Int) (w : World), In w (labL ks k) c → 0 ≤ k → k + 2 * (szL ks : Int) ≤ 1152921504606846976 →
  Calls Try.prog 20 #[c, .int .i64 k] w fun e w' => e = .returned (.int .i64 (k + 2 * (szL ks : Int))) ∧ Below w.heap.size w w'

set_option maxHeartbeats 800000 in
theorem heldS_step (ks : List Tr) (ih : ∀ i (hi : i < ks.length), HeldSSaid (ks[i]).kids) : HeldSSaid ks := by
  intro c k w hk h0 h1
  have HI : Hid (∀ i (hi : i < ks.length), HeldSSaid (ks[i]).kids) := ih
  have HK : Hid (In w (labL ks k) c) := hk
  clear ih
  have hlen := labL_length ks k
  obtain ⟨ad, cap, rfl, hl, hm, hrow⟩ := hk
  rw [hlen] at hl ⊢
  unfold maxLen at hm
  clear hrow
  go_enter Try.func20, Try.ntmps20
  go_wp2_with fail
  go_loopw [1, 5] (fun l i wr => ∃ j : Nat, j ≤ ks.length ∧ i = .int .i64 j ∧ l = .int .i64 (labAt ks k j) ∧ Below w.heap.size w wr) (fun _ i _ => ks.length - (intOf i).toNat)
  case atStart => exact ⟨0, Nat.zero_le _, rfl, by rw [labAt_zero], Below.refl _ _⟩
  case round =>
    obtain ⟨j, hj, rfl, rfl, hb⟩ := hrel
    have hle := labAt_le ks k j
    by_cases hlt : j < ks.length
    · have hrow' := HK.out.next hb
      obtain ⟨ad', cap', he, _, _, hr⟩ := hrow'
      rw [hlen] at he
      cases he
      rcases hr with hr | ⟨bl, off, rfl, _, hr⟩
      · rw [hr] at hlen; simp at hlen; omega
      obtain ⟨p, q, r, c0, c1, c2, ht⟩ := RowOn.at (labL ks k) off j (by omega) hr
      rw [labL_get ks k j hlt] at ht
      obtain ⟨rfl, rfl, _, _, hkk⟩ := trOn_iff.1 ht
      simp only [Tr.op_node, Tr.num_node, Tr.kids_node] at *
      have HKK : Hid (In wr (labL ks[j].kids (labAt ks k j + 1 + 1)) r) := by rw [show labAt ks k j + 1 + 1 = labAt ks k j + 2 by omega]; exact hkk
      have hs := labAt_succ ks k j hlt
      have hle2 := labAt_le ks k (j + 1)
      clear hkk ht hr
      go_wp2_with fail
      refine (HI.out j hlt r _ _ HKK.out (by omega) (by omega)).mono ?_
      rintro e w1 ⟨rfl, hb1⟩
      have hb2 : Below w.heap.size w w1 := hb.trans (hb1.mono hb.size)
      clear hb1
      go_wp2_with fail
      go_roundw
      case rel => exact ⟨j + 1, by omega, by go_num, congrArg (Value.int .i64) (by omega), hb2⟩
      case measure => simp [intOf]; omega
    · have hke : j = ks.length := by omega
      have HV : Hid (k + 2 * (szL ks : Int) = labAt ks k j) := by subst hke; exact (labAt_end ks k).symm
      clear hke
      go_wp2_with fail
      go_ret
      exact ⟨ret_int HV.out.symm, hb⟩

theorem heldS_any : ∀ (n : Nat) (ks : List Tr), szL ks ≤ n → HeldSSaid ks := by
  intro n
  induction n with
  | zero =>
    intro ks h
    exact heldS_step ks fun i hi => absurd (szT_lt_szL ks i hi) (by omega)
  | succ n ih =>
    intro ks h
    exact heldS_step ks fun i hi => ih _ (by have := szL_kids_lt ks i hi; omega)

theorem heldS_calls (ks : List Tr) : HeldSSaid ks := heldS_any _ ks (Nat.le_refl _)

set_option maxHeartbeats 400000 in
theorem held_calls (ks : List Tr) (o n : Int) (c : Value) (k : Int) (w : World) (hk : In w (labL ks k) c) (h0 : 0 ≤ k) (h1 : k + 2 * (szL ks : Int) ≤ 1152921504606846976) :
    Calls Try.prog 19 #[.agg #[.int .i64 o, .int .i64 n, c], .int .i64 k] w fun e w' => e = .returned (.int .i64 (k + 2 * (szL ks : Int))) ∧ Below w.heap.size w w' := by
  have HK : Hid (In w (labL ks k) c) := hk
  clear hk
  go_enter Try.func19, Try.ntmps19
  go_wp2_with fail
  refine (heldS_calls ks c k _ ?_ h0 h1).mono ?_
  · exact HK.out.next ((Below.refl _ _).alloc (Nat.le_refl _) _)
  rintro e w1 ⟨rfl, hb⟩
  have hb' : Below w.heap.size w w1 := ((Below.refl _ _).alloc (Nat.le_refl _) _).trans (hb.mono (by simp))
  clear hb
  go_wp2_with fail
  go_ret
  exact ⟨rfl, hb'⟩
end Go.Proofs.Yticoegjackgldab
