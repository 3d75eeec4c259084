/-
  THE MODEL's ExprValid (l1Kids, l1Own, l1Shape, l1Count, l1Is, ExprValid): which trees it takes for valid; nothing that was there is changed.
-/
import Derived.Test.YtocnkjicmchbdaaSpecOwn
namespace Go.Proofs.Ytocnkjicmchbdaa
set_option linter.unusedVariables false
set_option linter.unusedSimpArgs false
open Go.RowKit

def ShSaid (vars defs : Int) (d : Nat) (t : Tr) : Prop := ∀ (c : Value) (w : World), In w t.kids c →
  Calls Try.prog 121 #[.agg #[.int .i64 t.op, .int .i64 t.num, c], .int .i64 vars, .int .i64 defs, .int .i64 (d : Int)] w fun e w' => e = .returned (.bool (shB vars defs d t)) ∧ Below w.heap.size w w'

set_option maxHeartbeats 400000 in
theorem sh_zero (vars defs : Int) (t : Tr) : ShSaid vars defs 0 t := by
  intro c w hk
  clear hk
  simp only [shB]
  have d1 : decide (((0 : Nat) : Int) < 1) = true := by decide
  go_enter Try.func121, Try.ntmps121
  go_wp2_with fail
  refine wp_region_quiet_below (by kernel_rfl) (by kernel_rfl) ?_
  repeat (any_goals (first | go_big_quiet_step (fail) | quiet_step (fail)))
  refine wpQuiet_nil ?_
  intro _ hw'
  obtain ⟨⟨dq, osq⟩, hw''⟩ := hw'
  subst hw''
  go_wp2_with fail
  go_ret
  exact ⟨rfl, (box_below _ _).trans ((below_regrown _ _ _).mono (by simp))⟩

set_option maxHeartbeats 400000 in
theorem sh_succ (vars defs : Int) (d : Nat) (t : Tr) (hd : d ≤ 16) (ih : ∀ i (hi : i < t.kids.length), ShSaid vars defs d (t.kids[i])) : ShSaid vars defs (d + 1) t := by
  intro c w hk
  have HI : Hid (∀ i (hi : i < t.kids.length), ShSaid vars defs d (t.kids[i])) := ih
  have HK : Hid (In w t.kids c) := hk
  clear ih
  obtain ⟨ad, cap, rfl, hl, hm, -⟩ := hk
  unfold maxLen at hm
  have d1 : decide ((d : Int) + 1 < 1) = false := by simp; omega
  by_cases hlen : (t.kids.length : Int) = arity t.op
  · have t1 : ((t.kids.length : Int) != arity t.op) = false := by simpa using hlen
    cases hown : ownB t.op t.num vars defs with
    | false =>
      have HV : Hid (shB vars defs (d + 1) t = false) := by simp [shB, hown, Hid]
      clear hlen
      push_cast
      go_enter Try.func121, Try.ntmps121
      go_wp2_with fail
      have k0 := cell_regrown (box_cell w #[.int .i64 t.op, .int .i64 t.num, .slice ad t.kids.length cap] 31 0 _ rfl)
      have k1 := cell_regrown (box_cell w #[.int .i64 t.op, .int .i64 t.num, .slice ad t.kids.length cap] 31 1 _ rfl)
      have k2 := cell_regrown (box_cell w #[.int .i64 t.op, .int .i64 t.num, .slice ad t.kids.length cap] 31 2 _ rfl)
      refine wp_region_quiet_below (by kernel_rfl) (by kernel_rfl) ?_
      repeat (any_goals (first | go_big_quiet_step (first | exact quietB (fun W _ => l1Kids_below _ W) _ _ | exact quietB (fun W _ => own_false _ _ _ _ _ W hown) _ _) | quiet_step (first | exact quietB (fun W _ => l1Kids_below _ W) _ _ | exact quietB (fun W _ => own_false _ _ _ _ _ W hown) _ _)))
      refine wpQuiet_nil ?_
      intro _ hw'
      obtain ⟨⟨dq, osq⟩, hw''⟩ := hw'
      subst hw''
      clear k0 k1 k2
      go_wp2_with fail
      go_ret
      exact ⟨ret_bool HV.out.symm, (box_below _ _).trans ((below_regrown _ _ _).mono (by simp))⟩
    | true =>
      have HL : Hid ((t.kids.length : Int) = arity t.op) := hlen
      have HO : Hid (ownB t.op t.num vars defs = true) := hown
      clear hlen
      push_cast
      go_enter Try.func121, Try.ntmps121
      go_wp2_with fail
      have k0 := cell_regrown (box_cell w #[.int .i64 t.op, .int .i64 t.num, .slice ad t.kids.length cap] 31 0 _ rfl)
      have k1 := cell_regrown (box_cell w #[.int .i64 t.op, .int .i64 t.num, .slice ad t.kids.length cap] 31 1 _ rfl)
      have k2 := cell_regrown (box_cell w #[.int .i64 t.op, .int .i64 t.num, .slice ad t.kids.length cap] 31 2 _ rfl)
      refine wp_region_quiet_below (by kernel_rfl) (by kernel_rfl) ?_
      repeat (any_goals (first | go_big_quiet_step (first | exact quietB (fun W _ => l1Kids_below _ W) _ _ | exact quietB (fun W _ => own_true _ _ _ _ _ W hown) _ _) | quiet_step (first | exact quietB (fun W _ => l1Kids_below _ W) _ _ | exact quietB (fun W _ => own_true _ _ _ _ _ W hown) _ _)))
      refine wpQuiet_nil ?_
      intro _ hw'
      obtain ⟨⟨dq, osq⟩, hw''⟩ := hw'
      subst hw''
      have c0 := k0 dq osq
      have c1 := k1 dq osq
      have c2 := k2 dq osq
      have hb0 : Below w.heap.size w (Sort.grow (redrawn (w.alloc (.cells #[.int .i64 t.op, .int .i64 t.num, .slice ad t.kids.length cap] 31)) dq) osq) := (box_below _ _).trans ((below_regrown _ _ _).mono (by simp))
      have hz0 : w.heap.size < (Sort.grow (redrawn (w.alloc (.cells #[.int .i64 t.op, .int .i64 t.num, .slice ad t.kids.length cap] 31)) dq) osq).heap.size := by have := (below_regrown (w.alloc (.cells #[.int .i64 t.op, .int .i64 t.num, .slice ad t.kids.length cap] 31)) dq osq).size; rw [Deep.nblk_alloc] at this; omega
      clear k0 k1 k2 hown t1
      generalize Sort.grow (redrawn (w.alloc (.cells #[.int .i64 t.op, .int .i64 t.num, .slice ad t.kids.length cap] 31)) dq) osq = wx at *
      go_wp2_with fail
      go_loopw [9] (fun i wr => ∃ k : Nat, k ≤ t.kids.length ∧ i = .int .i64 k ∧ (t.kids.take k).all (shB vars defs d) = true ∧ Below wx.heap.size wx wr) (fun i _ => t.kids.length - (intOf i).toNat)
      case atStart => exact ⟨0, Nat.zero_le _, rfl, by simp, Below.refl _ _⟩
      case round =>
        obtain ⟨k, hk, rfl, hall, hb⟩ := hrel
        have HA : Hid ((t.kids.take k).all (shB vars defs d) = true) := hall
        have HB : Hid (Below wx.heap.size wx wr) := hb
        have cr : wr.cell? ⟨w.heap.size, 2, none⟩ = some (.slice ad t.kids.length cap) := (hb.cell (p := ⟨w.heap.size, 2, none⟩) hz0).trans c2
        clear hall c0 c1 c2
        by_cases hlt : k < t.kids.length
        · have hrow' := (HK.out.next hb0).next hb
          have HB0 : Hid (Below w.heap.size w wx) := hb0
          clear hb0 hb
          obtain ⟨ad', cap', he, -, -, hr⟩ := hrow'
          cases he
          rcases hr with hnil | ⟨bl, off, rfl, -, hr⟩
          · rw [hnil] at hlt; simp at hlt
          obtain ⟨p, q, r, e0, e1, e2, ht⟩ := RowOn.at t.kids off k hlt hr
          obtain ⟨rfl, rfl, -, -, hkk⟩ := trOn_iff.1 ht
          have HKK : Hid (In wr t.kids[k].kids r) := hkk
          clear hkk ht hr
          have HB' : Hid (Below w.heap.size w wr) := Hid.out (p := Below w.heap.size w wr) (Below.trans HB0.out (HB.out.mono (Nat.le_of_lt hz0)))
          go_wp2_with fail
          refine (HI.out k hlt r _ HKK.out).mono ?_
          rintro e w1 ⟨rfl, hb1⟩
          have HB1 : Hid (Below wx.heap.size wx w1) := HB.out.trans (hb1.mono HB.out.size)
          have HB2 : Hid (Below w.heap.size w w1) := HB'.out.trans (hb1.mono HB'.out.size)
          clear hb1
          cases hs : shB vars defs d t.kids[k] with
          | false =>
            have HV : Hid (shB vars defs (d + 1) t = false) := by
              have := all_false_of (shB vars defs d) t.kids k hlt hs
              simp [Hid, shB, this]
            clear hs
            go_wp2_with fail
            go_ret
            exact ⟨ret_bool HV.out.symm, HB2.out⟩
          | true =>
            have HV : Hid ((t.kids.take (k + 1)).all (shB vars defs d) = true) := by
              rw [Hid, all_take_succ _ _ _ hlt, HA.out, hs]; rfl
            clear hs
            go_wp2_with fail
            go_roundw
            case rel => exact ⟨k + 1, by omega, by go_num, HV.out, HB1.out⟩
            case measure => simp [intOf]; omega
        · have hke : t.kids.length = k := by omega
          have HV : Hid (shB vars defs (d + 1) t = true) := by
            have e : t.kids.take k = t.kids := by rw [← hke]; exact List.take_length
            have := HA.out
            rw [e] at this
            simp [Hid, shB, HL.out, HO.out, this]
          have HB' : Hid (Below w.heap.size w wr) := hb0.trans (hb.mono (Nat.le_of_lt hz0))
          clear hke hb0 hb
          go_wp2_with fail
          go_ret
          exact ⟨ret_bool HV.out.symm, HB'.out⟩
  · have t1 : ((t.kids.length : Int) != arity t.op) = true := by simpa using hlen
    have HV : Hid (shB vars defs (d + 1) t = false) := by simp [shB, hlen, Hid]
    clear hlen
    push_cast
    go_enter Try.func121, Try.ntmps121
    go_wp2_with fail
    have k0 := cell_regrown (box_cell w #[.int .i64 t.op, .int .i64 t.num, .slice ad t.kids.length cap] 31 0 _ rfl)
    have k1 := cell_regrown (box_cell w #[.int .i64 t.op, .int .i64 t.num, .slice ad t.kids.length cap] 31 1 _ rfl)
    have k2 := cell_regrown (box_cell w #[.int .i64 t.op, .int .i64 t.num, .slice ad t.kids.length cap] 31 2 _ rfl)
    refine wp_region_quiet_below (by kernel_rfl) (by kernel_rfl) ?_
    repeat (any_goals (first | go_big_quiet_step (exact quietB (fun W _ => l1Kids_below _ W) _ _) | quiet_step (exact quietB (fun W _ => l1Kids_below _ W) _ _)))
    refine wpQuiet_nil ?_
    intro _ hw'
    obtain ⟨⟨dq, osq⟩, hw''⟩ := hw'
    subst hw''
    clear k0 k1 k2
    go_wp2_with fail
    go_ret
    exact ⟨ret_bool HV.out.symm, (box_below _ _).trans ((below_regrown _ _ _).mono (by simp))⟩

theorem sh_any (vars defs : Int) : ∀ (d : Nat) (t : Tr), d ≤ 17 → ShSaid vars defs d t := by
  intro d
  induction d with
  | zero => intro t _; exact sh_zero vars defs t
  | succ d ih => intro t h; exact sh_succ vars defs d t (by omega) fun i hi => ih _ (by omega)

/-! ### The count of nodes -/

/-- what l1Count answers: the number of nodes, or one more than the bound -/
def cntOut (t : Tr) (most : Int) : Int := if 1 + (szT t : Int) ≤ most then 1 + szT t else most + 1

/-- the count behind the first k operands -/
def cntAt (t : Tr) (most : Int) (k : Nat) : Int := if 1 + (szL (t.kids.take k) : Int) ≤ most then 1 + szL (t.kids.take k) else most + 1

theorem cntAt_zero (t : Tr) (most : Int) (h : 0 ≤ most) : cntAt t most 0 = 1 := by
  unfold cntAt; simp [szL]; omega
theorem cntAt_step (t : Tr) (most : Int) (k : Nat) (hk : k < t.kids.length) (h : cntAt t most k ≤ most) : cntAt t most k + cntOut t.kids[k] (most - cntAt t most k) = cntAt t most (k + 1) := by
  have e := szL_take_succ t.kids k hk
  unfold cntAt at h ⊢
  unfold cntOut
  rw [e]
  split at h
  · rename_i h1
    rw [if_pos h1]
    split
    · rw [if_pos (by omega)]; omega
    · rw [if_neg (by omega)]; omega
  · omega
theorem cntAt_end (t : Tr) (most : Int) (k : Nat) (hk : k ≤ t.kids.length) (h : k = t.kids.length ∨ most < cntAt t most k) : cntOut t most = cntAt t most k := by
  have e := szL_take_le t.kids k
  unfold cntOut cntAt at *
  rw [szT_eq]
  rcases h with rfl | h
  · rw [List.take_length]
  · split at h
    · omega
    · rename_i h1; rw [if_neg h1, if_neg (by omega)]
theorem cntAt_range (t : Tr) (most : Int) (k : Nat) (h : 0 ≤ most) : 1 ≤ cntAt t most k ∧ cntAt t most k ≤ most + 1 := by
  unfold cntAt; split <;> omega
theorem cntOut_range (t : Tr) (most : Int) (h : 0 ≤ most) : 1 ≤ cntOut t most ∧ cntOut t most ≤ most + 1 := by
  unfold cntOut; split <;> omega

def CntSaid (t : Tr) : Prop := ∀ (c : Value) (most : Int) (w : World), In w t.kids c → 0 ≤ most → most ≤ 1000 →
  Calls Try.prog 122 #[.agg #[.int .i64 t.op, .int .i64 t.num, c], .int .i64 most] w fun e w' => e = .returned (.int .i64 (cntOut t most)) ∧ Below w.heap.size w w'

set_option maxHeartbeats 400000 in
theorem cnt_step (t : Tr) (ih : ∀ i (hi : i < t.kids.length), CntSaid (t.kids[i])) : CntSaid t := by
  intro c most w hk h0 h1
  have HI : Hid (∀ i (hi : i < t.kids.length), CntSaid (t.kids[i])) := ih
  have HK : Hid (In w t.kids c) := hk
  clear ih
  obtain ⟨ad, cap, rfl, hl, hm, -⟩ := hk
  unfold maxLen at hm
  go_enter Try.func122, Try.ntmps122
  go_wp2_with fail
  have hz : w.heap.size < (w.alloc (.cells #[.int .i64 t.op, .int .i64 t.num, .slice ad t.kids.length cap] 31)).heap.size := by rw [Deep.nblk_alloc]; omega
  have c2 := box_cell w #[.int .i64 t.op, .int .i64 t.num, .slice ad t.kids.length cap] 31 2 _ rfl
  have hbx := box_below w (.cells #[.int .i64 t.op, .int .i64 t.num, .slice ad t.kids.length cap] 31)
  generalize w.alloc (.cells #[.int .i64 t.op, .int .i64 t.num, .slice ad t.kids.length cap] 31) = wx at *
  have HBX : Hid (Below w.heap.size w wx) := hbx
  clear hbx
  go_loopw [5, 6] (fun n i wr => ∃ k : Nat, k ≤ t.kids.length ∧ i = .int .i64 k ∧ n = .int .i64 (cntAt t most k) ∧ Below wx.heap.size wx wr) (fun _ i _ => t.kids.length - (intOf i).toNat)
  case atStart => exact ⟨0, Nat.zero_le _, rfl, by rw [cntAt_zero t most h0], Below.refl _ _⟩
  case round =>
    obtain ⟨k, hk, rfl, rfl, hb⟩ := hrel
    have HB : Hid (Below wx.heap.size wx wr) := hb
    have HBW : Hid (Below w.heap.size w wr) := HBX.out.trans (hb.mono (Nat.le_of_lt hz))
    have cr : wr.cell? ⟨w.heap.size, 2, none⟩ = some (.slice ad t.kids.length cap) := (hb.cell (p := ⟨w.heap.size, 2, none⟩) hz).trans c2
    have hrg := cntAt_range t most k h0
    clear hb c2
    by_cases hlt : k < t.kids.length
    · by_cases hn : cntAt t most k ≤ most
      · have hrow' := HK.out.next HBW.out
        obtain ⟨ad', cap', he, -, -, hr⟩ := hrow'
        cases he
        rcases hr with hnil | ⟨bl, off, rfl, -, hr⟩
        · rw [hnil] at hlt; simp at hlt
        obtain ⟨p, q, r, e0, e1, e2, ht⟩ := RowOn.at t.kids off k hlt hr
        obtain ⟨rfl, rfl, -, -, hkk⟩ := trOn_iff.1 ht
        have HKK : Hid (In wr t.kids[k].kids r) := hkk
        clear hkk ht hr
        go_wp2_with fail
        refine (HI.out k hlt r _ _ HKK.out (by omega) (by omega)).mono ?_
        rintro e w1 ⟨rfl, hb1⟩
        have HB1 : Hid (Below wx.heap.size wx w1) := HB.out.trans (hb1.mono HB.out.size)
        clear hb1
        have hro := cntOut_range t.kids[k] (most - cntAt t most k) (by omega)
        have HV : Hid (cntAt t most k + cntOut t.kids[k] (most - cntAt t most k) = cntAt t most (k + 1)) := cntAt_step t most k hlt hn
        go_wp2_with fail
        go_roundw
        case rel => exact ⟨k + 1, by omega, by go_num, by rw [HV.out], HB1.out⟩
        case measure => simp [intOf]; omega
      · have HV : Hid (cntOut t most = cntAt t most k) := cntAt_end t most k hk (Or.inr (by omega))
        go_wp2_with fail
        go_ret
        exact ⟨ret_int HV.out.symm, HBW.out⟩
    · have HV : Hid (cntOut t most = cntAt t most k) := cntAt_end t most k hk (Or.inl (by omega))
      go_wp2_with fail
      all_goals go_ret
      all_goals exact ⟨ret_int HV.out.symm, HBW.out⟩

theorem cnt_any : ∀ (n : Nat) (t : Tr), szT t ≤ n → CntSaid t := by
  intro n
  induction n with
  | zero =>
    intro t h
    exact cnt_step t fun i hi => absurd (szT_lt_szL t.kids i hi) (by rw [szT_eq] at h; omega)
  | succ n ih =>
    intro t h
    exact cnt_step t fun i hi => ih _ (by have := szT_lt_szL t.kids i hi; rw [szT_eq] at h; omega)
theorem cnt_calls (t : Tr) : CntSaid t := cnt_any _ t (Nat.le_refl _)

/-! ### l1Is, ExprValid -/

/-- valid with these variables and functions -/
def isB (t : Tr) (vars defs : Int) : Bool := shB vars defs 16 t && decide (1 + (szT t : Int) ≤ 60)

set_option maxHeartbeats 400000 in
theorem l1Is_calls (t : Tr) (vars defs : Int) (c : Value) (w : World) (hk : In w t.kids c) : Calls Try.prog 98 #[.agg #[.int .i64 t.op, .int .i64 t.num, c], .int .i64 vars, .int .i64 defs] w fun e w' => e = .returned (.bool (isB t vars defs)) ∧ Below w.heap.size w w' := by
  have HK : Hid (In w t.kids c) := hk
  clear hk
  go_enter Try.func98, Try.ntmps98
  go_wp2_with fail
  refine (sh_any vars defs 16 t (by omega) c _ (HK.out.next (box_below _ _))).mono ?_
  rintro e w1 ⟨rfl, hb1⟩
  have HB : Hid (Below w.heap.size w w1) := (box_below _ _).trans (hb1.mono (by rw [Deep.nblk_alloc]; omega))
  have c0 := (hb1.cell (p := ⟨w.heap.size, 0, none⟩) (by rw [Deep.nblk_alloc]; exact Nat.lt_succ_self _)).trans (box_cell w #[.int .i64 t.op, .int .i64 t.num, c] 31 0 _ rfl)
  have c1 := (hb1.cell (p := ⟨w.heap.size, 1, none⟩) (by rw [Deep.nblk_alloc]; exact Nat.lt_succ_self _)).trans (box_cell w #[.int .i64 t.op, .int .i64 t.num, c] 31 1 _ rfl)
  have c2 := (hb1.cell (p := ⟨w.heap.size, 2, none⟩) (by rw [Deep.nblk_alloc]; exact Nat.lt_succ_self _)).trans (box_cell w #[.int .i64 t.op, .int .i64 t.num, c] 31 2 _ rfl)
  clear hb1
  cases hs : shB vars defs 16 t with
  | false =>
    have HV : Hid (isB t vars defs = false) := by simp [Hid, isB, hs]
    clear hs
    go_wp2_with fail
    go_ret
    exact ⟨ret_bool HV.out.symm, HB.out⟩
  | true =>
    have HV : Hid (isB t vars defs = decide (cntOut t 60 ≤ 60)) := by
      simp only [Hid, isB, hs, Bool.true_and]
      unfold cntOut
      split
      · rename_i h; simp [h]
      · rename_i h; simp [h]
    clear hs
    go_wp2_with fail
    refine (cnt_calls t c _ _ (HK.out.next HB.out) (by omega) (by omega)).mono ?_
    rintro e w2 ⟨rfl, hb2⟩
    have HB2 : Hid (Below w.heap.size w w2) := HB.out.trans (hb2.mono HB.out.size)
    clear hb2
    go_wp2_with fail
    go_ret
    exact ⟨ret_bool HV.out.symm, HB2.out⟩
end Go.Proofs.Ytocnkjicmchbdaa
