/-
  THE LAWS' OWN COMPARISON (eqExpr, eqExprS): of equal trees it answers true; nothing that was there is changed.
-/
import Derived.Test.YtocnkjicmchbdaaPlain
import Derived.Test.YtocnkjicmchbdaaProg
import Derived.Deep.RegionHeld3
import Derived.Deep.RegionWith
import Derived.Deep.DeepMust
namespace Go.Proofs.Ytocnkjicmchbdaa
set_option linter.unusedVariables false
set_option linter.unusedSimpArgs false
open Go.RowKit

def EqSSaid (ks : List Tr) : Prop := ∀ (c d : Value) (w : World), In w ks c → In w ks d → Calls Try.prog 45 #[c, d] w fun e w' => e = .returned (.bool true) ∧ Below w.heap.size w w'
def EqSaid (ks : List Tr) : Prop := ∀ (o n : Int) (c d : Value) (w : World), In w ks c → In w ks d →
  Calls Try.prog 15 #[.agg #[.int .i64 o, .int .i64 n, c], .agg #[.int .i64 o, .int .i64 n, d]] w fun e w' => e = .returned (.bool true) ∧ Below w.heap.size w w'

set_option maxHeartbeats 400000 in
theorem eq_of (ks : List Tr) (h : EqSSaid ks) : EqSaid ks := by
  intro o n c d w hc hd
  have HC : Hid (In w ks c) := hc
  have HD : Hid (In w ks d) := hd
  have HS : Hid (EqSSaid ks) := h
  clear h hc hd
  have t1 : (o != o) = false := by simp
  have t2 : (n != n) = false := by simp
  go_enter Try.func15, Try.ntmps15
  go_wp2_with fail
  have hb0 : ∀ o1 o2, Below w.heap.size w ((w.alloc o1).alloc o2) := fun o1 o2 => ((Below.refl _ _).alloc (Nat.le_refl _) _).alloc (by simp) _
  refine (HS.out c d _ (HC.out.next (hb0 _ _)) (HD.out.next (hb0 _ _))).mono ?_
  rintro e w1 ⟨rfl, hb⟩
  have HB : Hid (Below w.heap.size w w1) := (hb0 _ _).trans (hb.mono (by simp; omega))
  clear hb hb0
  go_wp2_with fail
  go_ret
  exact ⟨rfl, HB.out⟩

set_option maxHeartbeats 400000 in
theorem eqS_step (ks : List Tr) (ih : ∀ i (hi : i < ks.length), EqSaid (ks[i]).kids) : EqSSaid ks := by
  intro c d w hc hd
  have HI : Hid (∀ i (hi : i < ks.length), EqSaid (ks[i]).kids) := ih
  have HC : Hid (In w ks c) := hc
  have HD : Hid (In w ks d) := hd
  clear ih
  obtain ⟨ad, cap, rfl, hl, hm, -⟩ := hc
  obtain ⟨ad', cap', rfl, hl', hm', -⟩ := hd
  unfold maxLen at hm hm'
  have t1 : ((ks.length : Int) != ks.length) = false := by simp
  go_enter Try.func45, Try.ntmps45
  go_wp2_with fail
  go_loopw [5] (fun i wr => ∃ k : Nat, k ≤ ks.length ∧ i = .int .i64 k ∧ Below w.heap.size w wr) (fun i _ => ks.length - (intOf i).toNat)
  case atStart => exact ⟨0, Nat.zero_le _, rfl, Below.refl _ _⟩
  case round =>
    obtain ⟨k, hk, rfl, hb⟩ := hrel
    by_cases hlt : k < ks.length
    · have hr1 := HC.out.next hb
      have hr2 := HD.out.next hb
      obtain ⟨_, _, he, -, -, hr1⟩ := hr1
      cases he
      obtain ⟨_, _, he, -, -, hr2⟩ := hr2
      cases he
      rcases hr1 with rfl | ⟨bl, off, rfl, -, hr1⟩
      · simp at hlt
      rcases hr2 with rfl | ⟨bl', off', rfl, -, hr2⟩
      · simp at hlt
      obtain ⟨p, q, r, c0, c1, c2, ht⟩ := RowOn.at ks off k hlt hr1
      obtain ⟨rfl, rfl, -, -, hk1⟩ := trOn_iff.1 ht
      obtain ⟨p', q', r', d0, d1, d2, ht'⟩ := RowOn.at ks off' k hlt hr2
      obtain ⟨rfl, rfl, -, -, hk2⟩ := trOn_iff.1 ht'
      have HK1 : Hid (In wr ks[k].kids r) := hk1
      have HK2 : Hid (In wr ks[k].kids r') := hk2
      clear hk1 hk2 ht ht' hr1 hr2
      go_wp2_with fail
      go_region_with ((go_at_call 15; refine (HI.out k hlt _ _ r r' _ ?_ ?_).mono ?_; exact HK1.out.drew; exact HK2.out.drew; rintro e w1 ⟨rfl, hb1⟩))
      all_goals
        have hb2 : Below w.heap.size w w1 := hb.drew.trans (hb1.mono hb.drew.size)
        clear hb1
        go_wp2_with fail
        go_roundw
        case rel => exact ⟨k + 1, by omega, by go_num, hb2⟩
        case measure => simp [intOf]; omega
    · have hke : k = ks.length := by omega
      have HB : Hid (Below w.heap.size w wr) := hb
      clear hb
      clear hke
      go_wp2_with fail
      go_ret
      exact ⟨rfl, HB.out⟩

/-- THE COMPARISON, FOR EVERY LIST OF TREES. -/
theorem eqS_any : ∀ (n : Nat) (ks : List Tr), szL ks ≤ n → EqSSaid ks := by
  intro n
  induction n with
  | zero =>
    intro ks h
    exact eqS_step ks fun i hi => absurd (szT_lt_szL ks i hi) (by omega)
  | succ n ih =>
    intro ks h
    exact eqS_step ks fun i hi => eq_of _ (ih _ (by have := szL_kids_lt ks i hi; omega))

theorem eqS_calls (ks : List Tr) : EqSSaid ks := eqS_any _ ks (Nat.le_refl _)
theorem eq_calls (ks : List Tr) : EqSaid ks := eq_of ks (eqS_calls ks)
end Go.Proofs.Ytocnkjicmchbdaa
