/-
  THE LAWS' OWN COUNT OF AN ARGUMENT (szExpr, szExprS): what is left of the budget; nothing that was there is changed.
-/
import Derived.Test.YtocnkjicmchbdaaPlain
import Derived.Test.YtocnkjicmchbdaaProg
namespace Go.Proofs.Ytocnkjicmchbdaa
set_option linter.unusedVariables false
set_option linter.unusedSimpArgs false
open Go.RowKit

/-- the contract of szExprS at one list -/
def SzSSaid (ks : List Tr) : Prop := ∀ (c : Value) (left : Int) (w : World), KidsOn w (Lt w.heap.size) ks c → 0 ≤ left → left ≤ 4611686018427387904 →
  Calls Try.prog 50 #[c, .int .i64 left] w fun e w' => e = .returned (.int .i64 (szOut ks left)) ∧ Below w.heap.size w w'

/-- the contract of szExpr at one tree -/
def SzSaid (ks : List Tr) : Prop := ∀ (o n : Int) (c : Value) (left : Int) (w : World), KidsOn w (Lt w.heap.size) ks c → 0 ≤ left → left ≤ 4611686018427387904 →
  Calls Try.prog 9 #[.agg #[.int .i64 o, .int .i64 n, c], .int .i64 left] w fun e w' => e = .returned (.int .i64 (szOut ks left)) ∧ Below w.heap.size w w'

theorem szOut_range (ks : List Tr) (left : Int) (h : 0 ≤ left) : -1 ≤ szOut ks left ∧ szOut ks left ≤ left := by
  unfold szOut; split <;> omega

set_option maxHeartbeats 400000 in
theorem sz_of (ks : List Tr) (h : SzSSaid ks) : SzSaid ks := by
  intro o n c left w hk h0 h1
  have HK : Hid (KidsOn w (Lt w.heap.size) ks c) := hk
  have HS : Hid (SzSSaid ks) := h
  clear h hk
  have hr := szOut_range ks left h0
  go_enter Try.func9, Try.ntmps9
  go_wp2_with fail
  refine (HS.out c left _ ?_ h0 h1).mono ?_
  · exact HK.out.next ((Below.refl _ _).alloc (Nat.le_refl _) _)
  rintro e w1 ⟨rfl, hb⟩
  have hb' : Below w.heap.size w w1 := ((Below.refl _ _).alloc (Nat.le_refl _) _).trans (hb.mono (by simp))
  clear hb
  by_cases hneg : szOut ks left < 0
  · have hv : szOut ks left = -1 := by omega
    have HV : Hid (szOut ks left = -1) := hv
    clear hv
    go_wp2
    go_ret
    exact ⟨ret_int HV.out.symm, hb'⟩
  · go_wp2
    go_ret
    exact ⟨rfl, hb'⟩

/-- the budget behind the first i elements -/
def szAt (ks : List Tr) (left : Int) (i : Nat) : Int := left - ks.length - sumT (ks.take i)

theorem szOut_kid (ks : List Tr) (left : Int) (i : Nat) (hi : i < ks.length) (h : 0 ≤ szOut (ks[i]).kids (szAt ks left i)) : szOut (ks[i]).kids (szAt ks left i) = szAt ks left (i + 1) := by
  unfold szOut at h ⊢
  split at h
  · rename_i h1
    rw [if_pos h1]
    unfold szAt
    rw [sumT_take_succ ks i hi, szT_eq]
    omega
  · omega

theorem szOut_neg (ks : List Tr) (left : Int) (i : Nat) (hi : i < ks.length) (h : szOut (ks[i]).kids (szAt ks left i) < 0) (h0 : 0 ≤ szAt ks left i) : szOut ks left = -1 := by
  unfold szOut at h
  split at h
  · omega
  · rename_i h1
    unfold szOut
    rw [if_neg]
    have := sumT_take_succ ks i hi
    have := sumT_take_le ks (i + 1)
    rw [szL_sum]
    rw [szT_eq] at *
    unfold szAt at h1
    omega

theorem szOut_end (ks : List Tr) (left : Int) (h0 : 0 ≤ szAt ks left ks.length) : szOut ks left = szAt ks left ks.length := by
  unfold szAt at h0 ⊢
  unfold szOut
  rw [List.take_length] at *
  rw [szL_sum, if_pos (by omega)]
  omega

set_option maxHeartbeats 400000 in
theorem szS_step (ks : List Tr) (ih : ∀ i (hi : i < ks.length), SzSaid (ks[i]).kids) : SzSSaid ks := by
  intro c left w hk h0 h1
  have HI : Hid (∀ i (hi : i < ks.length), SzSaid (ks[i]).kids) := ih
  have HK : Hid (In w ks c) := hk
  clear ih
  obtain ⟨ad, cap, rfl, hl, hm, hrow⟩ := hk
  unfold maxLen at hm
  by_cases hlen : left < ks.length
  · have hv : szOut ks left = -1 := by unfold szOut; rw [if_neg]; rw [szL_sum]; omega
    have HV : Hid (szOut ks left = -1) := hv
    clear hv hrow
    go_enter Try.func50, Try.ntmps50
    go_wp2_with fail
    go_ret
    exact ⟨ret_int HV.out.symm, Below.refl _ _⟩
  · have hneg : ¬ (left - ks.length < 0) := by omega
    clear hrow
    go_enter Try.func50, Try.ntmps50
    go_wp2_with fail
    go_loopw [1, 5] (fun l i wr => ∃ k : Nat, k ≤ ks.length ∧ i = .int .i64 k ∧ l = .int .i64 (szAt ks left k) ∧ 0 ≤ szAt ks left k ∧ Below w.heap.size w wr) (fun _ i _ => ks.length - (intOf i).toNat)
    case atStart => exact ⟨0, Nat.zero_le _, rfl, by simp [szAt, sumT], by simp [szAt, sumT]; omega, Below.refl _ _⟩
    case round =>
      obtain ⟨k, hk, rfl, rfl, hpos, hb⟩ := hrel
      have hle : szAt ks left k ≤ left := by unfold szAt; omega
      by_cases hlt : k < ks.length
      · have hrow' := HK.out.next hb
        obtain ⟨ad', cap', he, _, _, hr⟩ := hrow'
        cases he
        rcases hr with rfl | ⟨bl, off, rfl, _, hr⟩
        · simp at hlt
        obtain ⟨p, q, r, c0, c1, c2, ht⟩ := RowOn.at ks off k hlt hr
        obtain ⟨rfl, rfl, _, _, hkk⟩ := trOn_iff.1 ht
        have HKK : Hid (In wr ks[k].kids r) := hkk
        clear hkk ht hr
        go_wp2_with fail
        refine (HI.out k hlt _ _ r _ _ HKK.out hpos (by omega)).mono ?_
        rintro e w1 ⟨rfl, hb1⟩
        have hb2 : Below w.heap.size w w1 := hb.trans (hb1.mono hb.size)
        clear hb1
        have hrg := szOut_range ks[k].kids (szAt ks left k) hpos
        by_cases hneg1 : szOut ks[k].kids (szAt ks left k) < 0
        · have HV : Hid (szOut ks left = -1) := szOut_neg ks left k hlt hneg1 hpos
          go_wp2_with fail
          go_ret
          exact ⟨ret_int HV.out.symm, hb2⟩
        · have HV : Hid (szOut ks[k].kids (szAt ks left k) = szAt ks left (k + 1)) := szOut_kid ks left k hlt (by omega)
          have hnn : 0 ≤ szAt ks left (k + 1) := by rw [← HV.out]; omega
          go_wp2_with fail
          go_roundw
          case rel => exact ⟨k + 1, by omega, by go_num, by rw [HV.out], hnn, hb2⟩
          case measure => simp [intOf]; omega
      · have hke : ks.length = k := by omega
        have HV : Hid (szOut ks left = szAt ks left k) := by subst hke; exact szOut_end ks left hpos
        clear hke
        go_wp2_with fail
        go_ret
        exact ⟨ret_int HV.out.symm, hb⟩

/-- THE COUNT, FOR EVERY LIST OF TREES. -/
theorem szS_any : ∀ (n : Nat) (ks : List Tr), szL ks ≤ n → SzSSaid ks := by
  intro n
  induction n with
  | zero =>
    intro ks h
    exact szS_step ks fun i hi => absurd (szT_lt_szL ks i hi) (by omega)
  | succ n ih =>
    intro ks h
    exact szS_step ks fun i hi => sz_of _ (ih _ (by have := szL_kids_lt ks i hi; omega))

theorem szS_calls (ks : List Tr) : SzSSaid ks := szS_any _ ks (Nat.le_refl _)
theorem sz_calls (ks : List Tr) : SzSaid ks := sz_of ks (szS_calls ks)
end Go.Proofs.Ytocnkjicmchbdaa
