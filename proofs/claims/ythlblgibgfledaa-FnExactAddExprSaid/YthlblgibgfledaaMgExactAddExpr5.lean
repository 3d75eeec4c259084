/-
  THE MODEL's ExprValid (l1Kids, l1Own, l1Shape, l1Count, l1Is, ExprValid): which trees it takes for valid; nothing that was there is changed.
-/
import Derived.Test.YthlblgibgfledaaMgExactAddExpr4
import Derived.Deep.RegionHeld3
import Derived.Test.YthlblgibgfledaaMgExactAddExpr2
import Derived.WalkSpells
import Derived.Test.YthlblgibgfledaaMgExactAddExpr3
import Derived.Deep.DeepCutAuto
import Derived.Deep.RegionWith
import Derived.Deep.RegionLaw
import Derived.IntWalk
namespace Go.Proofs.Ythlblgibgfledaa
set_option linter.unusedVariables false
set_option linter.unusedSimpArgs false
open Go.RowKit

def ShSaid (vars defs : Int) (d : Nat) (t : Tr) : Prop := ∀ (c : Value) (w : World), In w t.kids c →
  Calls Try.prog 70 #[.agg #[.int .i64 t.op, .int .i64 t.num, c], .int .i64 vars, .int .i64 defs, .int .i64 (d : Int)] w fun e w' => e = .returned (.bool (shB vars defs d t)) ∧ Below w.heap.size w w'

set_option maxHeartbeats 400000 in
theorem sh_zero (vars defs : Int) (t : Tr) : ShSaid vars defs 0 t := by
  intro c w hk
  clear hk
  simp only [shB]
  have d1 : decide (((0 : Nat) : Int) < 1) = true := by decide
  go_enter Try.func70, Try.ntmps70
  go_wp2_with fail
  refine wp_region_quiet_below (by kernel_rfl) (by kernel_rfl) ?_
  repeat (any_goals (first | go_big_quiet_step (fail) | quiet_step (fail)))
  refine wpQuiet_nil ?_
  intro _ hw'
  obtain ⟨⟨dq, osq⟩, hw''⟩ := hw'
  subst hw''
  go_wp2_with fail
  go_ret
  exact ⟨rfl, (box_below _ _).trans ((below_regrown _ _ _).mono (by simp))⟩

set_option maxHeartbeats 400000 in
theorem sh_succ (vars defs : Int) (d : Nat) (t : Tr) (hd : d ≤ 16) (ih : ∀ i (hi : i < t.kids.length), ShSaid vars defs d (t.kids[i])) : ShSaid vars defs (d + 1) t := by
  intro c w hk
  have HI : Hid (∀ i (hi : i < t.kids.length), ShSaid vars defs d (t.kids[i])) := ih
  have HK : Hid (In w t.kids c) := hk
  clear ih
  obtain ⟨ad, cap, rfl, hl, hm, -⟩ := hk
  unfold maxLen at hm
  have d1 : decide ((d : Int) + 1 < 1) = false := by simp; omega
  by_cases hlen : (t.kids.length : Int) = arity t.op
  · have t1 : ((t.kids.length : Int) != arity t.op) = false := by simpa using hlen
    cases hown : ownB t.op t.num vars defs with
    | false =>
      have HV : Hid (shB vars defs (d + 1) t = false) := by simp [shB, hown, Hid]
      clear hlen
      push_cast
      go_enter Try.func70, Try.ntmps70
      go_wp2_with fail
      have k0 := cell_regrown (box_cell w #[.int .i64 t.op, .int .i64 t.num, .slice ad t.kids.length cap] 35 0 _ rfl)
      have k1 := cell_regrown (box_cell w #[.int .i64 t.op, .int .i64 t.num, .slice ad t.kids.length cap] 35 1 _ rfl)
      have k2 := cell_regrown (box_cell w #[.int .i64 t.op, .int .i64 t.num, .slice ad t.kids.length cap] 35 2 _ rfl)
      refine wp_region_quiet_below (by kernel_rfl) (by kernel_rfl) ?_
      repeat (any_goals (first | go_big_quiet_step (first | exact quietB (fun W _ => l1Kids_below _ W) _ _ | exact quietB (fun W _ => own_false _ _ _ _ _ W hown) _ _) | quiet_step (first | exact quietB (fun W _ => l1Kids_below _ W) _ _ | exact quietB (fun W _ => own_false _ _ _ _ _ W hown) _ _)))
      refine wpQuiet_nil ?_
      intro _ hw'
      obtain ⟨⟨dq, osq⟩, hw''⟩ := hw'
      subst hw''
      clear k0 k1 k2
      go_wp2_with fail
      go_ret
      exact ⟨ret_bool HV.out.symm, (box_below _ _).trans ((below_regrown _ _ _).mono (by simp))⟩
    | true =>
      have HL : Hid ((t.kids.length : Int) = arity t.op) := hlen
      have HO : Hid (ownB t.op t.num vars defs = true) := hown
      clear hlen
      push_cast
      go_enter Try.func70, Try.ntmps70
      go_wp2_with fail
      have k0 := cell_regrown (box_cell w #[.int .i64 t.op, .int .i64 t.num, .slice ad t.kids.length cap] 35 0 _ rfl)
      have k1 := cell_regrown (box_cell w #[.int .i64 t.op, .int .i64 t.num, .slice ad t.kids.length cap] 35 1 _ rfl)
      have k2 := cell_regrown (box_cell w #[.int .i64 t.op, .int .i64 t.num, .slice ad t.kids.length cap] 35 2 _ rfl)
      refine wp_region_quiet_below (by kernel_rfl) (by kernel_rfl) ?_
      repeat (any_goals (first | go_big_quiet_step (first | exact quietB (fun W _ => l1Kids_below _ W) _ _ | exact quietB (fun W _ => own_true _ _ _ _ _ W hown) _ _) | quiet_step (first | exact quietB (fun W _ => l1Kids_below _ W) _ _ | exact quietB (fun W _ => own_true _ _ _ _ _ W hown) _ _)))
      refine wpQuiet_nil ?_
      intro _ hw'
      obtain ⟨⟨dq, osq⟩, hw''⟩ := hw'
      subst hw''
      have c0 := k0 dq osq
      have c1 := k1 dq osq
      have c2 := k2 dq osq
      have hb0 : Below w.heap.size w (Sort.grow (redrawn (w.alloc (.cells #[.int .i64 t.op, .int .i64 t.num, .slice ad t.kids.length cap] 35)) dq) osq) := (box_below _ _).trans ((below_regrown _ _ _).mono (by simp))
      have hz0 : w.heap.size < (Sort.grow (redrawn (w.alloc (.cells #[.int .i64 t.op, .int .i64 t.num, .slice ad t.kids.length cap] 35)) dq) osq).heap.size := by have := (below_regrown (w.alloc (.cells #[.int .i64 t.op, .int .i64 t.num, .slice ad t.kids.length cap] 35)) dq osq).size; rw [Deep.nblk_alloc] at this; omega
      clear k0 k1 k2 hown t1
      generalize Sort.grow (redrawn (w.alloc (.cells #[.int .i64 t.op, .int .i64 t.num, .slice ad t.kids.length cap] 35)) dq) osq = wx at *
      go_wp2_with fail
      go_loopw [9] (fun i wr => ∃ k : Nat, k ≤ t.kids.length ∧ i = .int .i64 k ∧ (t.kids.take k).all (shB vars defs d) = true ∧ Below wx.heap.size wx wr) (fun i _ => t.kids.length - (intOf i).toNat)
      case atStart => exact ⟨0, Nat.zero_le _, rfl, by simp, Below.refl _ _⟩
      case round =>
        obtain ⟨k, hk, rfl, hall, hb⟩ := hrel
        have HA : Hid ((t.kids.take k).all (shB vars defs d) = true) := hall
        have HB : Hid (Below wx.heap.size wx wr) := hb
        have cr : wr.cell? ⟨w.heap.size, 2, none⟩ = some (.slice ad t.kids.length cap) := (hb.cell (p := ⟨w.heap.size, 2, none⟩) hz0).trans c2
        clear hall c0 c1 c2
        by_cases hlt : k < t.kids.length
        · have hrow' := (HK.out.next hb0).next hb
          have HB0 : Hid (Below w.heap.size w wx) := hb0
          clear hb0 hb
          obtain ⟨ad', cap', he, -, -, hr⟩ := hrow'
          cases he
          rcases hr with hnil | ⟨bl, off, rfl, -, hr⟩
          · rw [hnil] at hlt; simp at hlt
          obtain ⟨p, q, r, e0, e1, e2, ht⟩ := RowOn.at t.kids off k hlt hr
          obtain ⟨rfl, rfl, -, -, hkk⟩ := trOn_iff.1 ht
          have HKK : Hid (In wr t.kids[k].kids r) := hkk
          clear hkk ht hr
          have HB' : Hid (Below w.heap.size w wr) := Hid.out (p := Below w.heap.size w wr) (Below.trans HB0.out (HB.out.mono (Nat.le_of_lt hz0)))
          go_wp2_with fail
          refine (HI.out k hlt r _ HKK.out).mono ?_
          rintro e w1 ⟨rfl, hb1⟩
          have HB1 : Hid (Below wx.heap.size wx w1) := HB.out.trans (hb1.mono HB.out.size)
          have HB2 : Hid (Below w.heap.size w w1) := HB'.out.trans (hb1.mono HB'.out.size)
          clear hb1
          cases hs : shB vars defs d t.kids[k] with
          | false =>
            have HV : Hid (shB vars defs (d + 1) t = false) := by
              have := all_false_of (shB vars defs d) t.kids k hlt hs
              simp [Hid, shB, this]
            clear hs
            go_wp2_with fail
            go_ret
            exact ⟨ret_bool HV.out.symm, HB2.out⟩
          | true =>
            have HV : Hid ((t.kids.take (k + 1)).all (shB vars defs d) = true) := by
              rw [Hid, all_take_succ _ _ _ hlt, HA.out, hs]; rfl
            clear hs
            go_wp2_with fail
            go_roundw
            case rel => exact ⟨k + 1, by omega, by go_num, HV.out, HB1.out⟩
            case measure => simp [intOf]; omega
        · have hke : t.kids.length = k := by omega
          have HV : Hid (shB vars defs (d + 1) t = true) := by
            have e : t.kids.take k = t.kids := by rw [← hke]; exact List.take_length
            have := HA.out
            rw [e] at this
            simp [Hid, shB, HL.out, HO.out, this]
          have HB' : Hid (Below w.heap.size w wr) := hb0.trans (hb.mono (Nat.le_of_lt hz0))
          clear hke hb0 hb
          go_wp2_with fail
          go_ret
          exact ⟨ret_bool HV.out.symm, HB'.out⟩
  · have t1 : ((t.kids.length : Int) != arity t.op) = true := by simpa using hlen
    have HV : Hid (shB vars defs (d + 1) t = false) := by simp [shB, hlen, Hid]
    clear hlen
    push_cast
    go_enter Try.func70, Try.ntmps70
    go_wp2_with fail
    have k0 := cell_regrown (box_cell w #[.int .i64 t.op, .int .i64 t.num, .slice ad t.kids.length cap] 35 0 _ rfl)
    have k1 := cell_regrown (box_cell w #[.int .i64 t.op, .int .i64 t.num, .slice ad t.kids.length cap] 35 1 _ rfl)
    have k2 := cell_regrown (box_cell w #[.int .i64 t.op, .int .i64 t.num, .slice ad t.kids.length cap] 35 2 _ rfl)
    refine wp_region_quiet_below (by kernel_rfl) (by kernel_rfl) ?_
    repeat (any_goals (first | go_big_quiet_step (exact quietB (fun W _ => l1Kids_below _ W) _ _) | quiet_step (exact quietB (fun W _ => l1Kids_below _ W) _ _)))
    refine wpQuiet_nil ?_
    intro _ hw'
    obtain ⟨⟨dq, osq⟩, hw''⟩ := hw'
    subst hw''
    clear k0 k1 k2
    go_wp2_with fail
    go_ret
    exact ⟨ret_bool HV.out.symm, (box_below _ _).trans ((below_regrown _ _ _).mono (by simp))⟩

theorem sh_any (vars defs : Int) : ∀ (d : Nat) (t : Tr), d ≤ 17 → ShSaid vars defs d t := by
  intro d
  induction d with
  | zero => intro t _; exact sh_zero vars defs t
  | succ d ih => intro t h; exact sh_succ vars defs d t (by omega) fun i hi => ih _ (by omega)

/-! ### The count of nodes -/

/-- what l1Count answers: the number of nodes, or one more than the bound -/
def cntOut (t : Tr) (most : Int) : Int := if 1 + (szT t : Int) ≤ most then 1 + szT t else most + 1

/-- the count behind the first k operands -/
def cntAt (t : Tr) (most : Int) (k : Nat) : Int := if 1 + (szL (t.kids.take k) : Int) ≤ most then 1 + szL (t.kids.take k) else most + 1

theorem cntAt_zero (t : Tr) (most : Int) (h : 0 ≤ most) : cntAt t most 0 = 1 := by
  unfold cntAt; simp [szL]; omega
theorem cntAt_step (t : Tr) (most : Int) (k : Nat) (hk : k < t.kids.length) (h : cntAt t most k ≤ most) : cntAt t most k + cntOut t.kids[k] (most - cntAt t most k) = cntAt t most (k + 1) := by
  have e := szL_take_succ t.kids k hk
  unfold cntAt at h ⊢
  unfold cntOut
  rw [e]
  split at h
  · rename_i h1
    rw [if_pos h1]
    split
    · rw [if_pos (by omega)]; omega
    · rw [if_neg (by omega)]; omega
  · omega
theorem cntAt_end (t : Tr) (most : Int) (k : Nat) (hk : k ≤ t.kids.length) (h : k = t.kids.length ∨ most < cntAt t most k) : cntOut t most = cntAt t most k := by
  have e := szL_take_le t.kids k
  unfold cntOut cntAt at *
  rw [szT_eq]
  rcases h with rfl | h
  · rw [List.take_length]
  · split at h
    · omega
    · rename_i h1; rw [if_neg h1, if_neg (by omega)]
theorem cntAt_range (t : Tr) (most : Int) (k : Nat) (h : 0 ≤ most) : 1 ≤ cntAt t most k ∧ cntAt t most k ≤ most + 1 := by
  unfold cntAt; split <;> omega
theorem cntOut_range (t : Tr) (most : Int) (h : 0 ≤ most) : 1 ≤ cntOut t most ∧ cntOut t most ≤ most + 1 := by
  unfold cntOut; split <;> omega

def CntSaid (t : Tr) : Prop := ∀ (c : Value) (most : Int) (w : World), In w t.kids c → 0 ≤ most → most ≤ 1000 →
  Calls Try.prog 71 #[.agg #[.int .i64 t.op, .int .i64 t.num, c], .int .i64 most] w fun e w' => e = .returned (.int .i64 (cntOut t most)) ∧ Below w.heap.size w w'

set_option maxHeartbeats 400000 in
theorem cnt_step (t : Tr) (ih : ∀ i (hi : i < t.kids.length), CntSaid (t.kids[i])) : CntSaid t := by
  intro c most w hk h0 h1
  have HI : Hid (∀ i (hi : i < t.kids.length), CntSaid (t.kids[i])) := ih
  have HK : Hid (In w t.kids c) := hk
  clear ih
  obtain ⟨ad, cap, rfl, hl, hm, -⟩ := hk
  unfold maxLen at hm
  go_enter Try.func71, Try.ntmps71
  go_wp2_with fail
  have hz : w.heap.size < (w.alloc (.cells #[.int .i64 t.op, .int .i64 t.num, .slice ad t.kids.length cap] 35)).heap.size := by rw [Deep.nblk_alloc]; omega
  have c2 := box_cell w #[.int .i64 t.op, .int .i64 t.num, .slice ad t.kids.length cap] 35 2 _ rfl
  have hbx := box_below w (.cells #[.int .i64 t.op, .int .i64 t.num, .slice ad t.kids.length cap] 35)
  generalize w.alloc (.cells #[.int .i64 t.op, .int .i64 t.num, .slice ad t.kids.length cap] 35) = wx at *
  have HBX : Hid (Below w.heap.size w wx) := hbx
  clear hbx
  go_loopw [5, 6] (fun n i wr => ∃ k : Nat, k ≤ t.kids.length ∧ i = .int .i64 k ∧ n = .int .i64 (cntAt t most k) ∧ Below wx.heap.size wx wr) (fun _ i _ => t.kids.length - (intOf i).toNat)
  case atStart => exact ⟨0, Nat.zero_le _, rfl, by rw [cntAt_zero t most h0], Below.refl _ _⟩
  case round =>
    obtain ⟨k, hk, rfl, rfl, hb⟩ := hrel
    have HB : Hid (Below wx.heap.size wx wr) := hb
    have HBW : Hid (Below w.heap.size w wr) := HBX.out.trans (hb.mono (Nat.le_of_lt hz))
    have cr : wr.cell? ⟨w.heap.size, 2, none⟩ = some (.slice ad t.kids.length cap) := (hb.cell (p := ⟨w.heap.size, 2, none⟩) hz).trans c2
    have hrg := cntAt_range t most k h0
    clear hb c2
    by_cases hlt : k < t.kids.length
    · by_cases hn : cntAt t most k ≤ most
      · have hrow' := HK.out.next HBW.out
        obtain ⟨ad', cap', he, -, -, hr⟩ := hrow'
        cases he
        rcases hr with hnil | ⟨bl, off, rfl, -, hr⟩
        · rw [hnil] at hlt; simp at hlt
        obtain ⟨p, q, r, e0, e1, e2, ht⟩ := RowOn.at t.kids off k hlt hr
        obtain ⟨rfl, rfl, -, -, hkk⟩ := trOn_iff.1 ht
        have HKK : Hid (In wr t.kids[k].kids r) := hkk
        clear hkk ht hr
        go_wp2_with fail
        refine (HI.out k hlt r _ _ HKK.out (by omega) (by omega)).mono ?_
        rintro e w1 ⟨rfl, hb1⟩
        have HB1 : Hid (Below wx.heap.size wx w1) := HB.out.trans (hb1.mono HB.out.size)
        clear hb1
        have hro := cntOut_range t.kids[k] (most - cntAt t most k) (by omega)
        have HV : Hid (cntAt t most k + cntOut t.kids[k] (most - cntAt t most k) = cntAt t most (k + 1)) := cntAt_step t most k hlt hn
        go_wp2_with fail
        go_roundw
        case rel => exact ⟨k + 1, by omega, by go_num, by rw [HV.out], HB1.out⟩
        case measure => simp [intOf]; omega
      · have HV : Hid (cntOut t most = cntAt t most k) := cntAt_end t most k hk (Or.inr (by omega))
        go_wp2_with fail
        go_ret
        exact ⟨ret_int HV.out.symm, HBW.out⟩
    · have HV : Hid (cntOut t most = cntAt t most k) := cntAt_end t most k hk (Or.inl (by omega))
      go_wp2_with fail
      all_goals go_ret
      all_goals exact ⟨ret_int HV.out.symm, HBW.out⟩

theorem cnt_any : ∀ (n : Nat) (t : Tr), szT t ≤ n → CntSaid t := by
  intro n
  induction n with
  | zero =>
    intro t h
    exact cnt_step t fun i hi => absurd (szT_lt_szL t.kids i hi) (by rw [szT_eq] at h; omega)
  | succ n ih =>
    intro t h
    exact cnt_step t fun i hi => ih _ (by have := szT_lt_szL t.kids i hi; rw [szT_eq] at h; omega)
theorem cnt_calls (t : Tr) : CntSaid t := cnt_any _ t (Nat.le_refl _)

/-! ### l1Is, ExprValid -/

/-- valid with these variables and functions -/
def isB (t : Tr) (vars defs : Int) : Bool := shB vars defs 16 t && decide (1 + (szT t : Int) ≤ 60)

set_option maxHeartbeats 400000 in
theorem l1Is_calls (t : Tr) (vars defs : Int) (c : Value) (w : World) (hk : In w t.kids c) : Calls Try.prog 56 #[.agg #[.int .i64 t.op, .int .i64 t.num, c], .int .i64 vars, .int .i64 defs] w fun e w' => e = .returned (.bool (isB t vars defs)) ∧ Below w.heap.size w w' := by
  have HK : Hid (In w t.kids c) := hk
  clear hk
  go_enter Try.func56, Try.ntmps56
  go_wp2_with fail
  refine (sh_any vars defs 16 t (by omega) c _ (HK.out.next (box_below _ _))).mono ?_
  rintro e w1 ⟨rfl, hb1⟩
  have HB : Hid (Below w.heap.size w w1) := (box_below _ _).trans (hb1.mono (by rw [Deep.nblk_alloc]; omega))
  have c0 := (hb1.cell (p := ⟨w.heap.size, 0, none⟩) (by rw [Deep.nblk_alloc]; exact Nat.lt_succ_self _)).trans (box_cell w #[.int .i64 t.op, .int .i64 t.num, c] 35 0 _ rfl)
  have c1 := (hb1.cell (p := ⟨w.heap.size, 1, none⟩) (by rw [Deep.nblk_alloc]; exact Nat.lt_succ_self _)).trans (box_cell w #[.int .i64 t.op, .int .i64 t.num, c] 35 1 _ rfl)
  have c2 := (hb1.cell (p := ⟨w.heap.size, 2, none⟩) (by rw [Deep.nblk_alloc]; exact Nat.lt_succ_self _)).trans (box_cell w #[.int .i64 t.op, .int .i64 t.num, c] 35 2 _ rfl)
  clear hb1
  cases hs : shB vars defs 16 t with
  | false =>
    have HV : Hid (isB t vars defs = false) := by simp [Hid, isB, hs]
    clear hs
    go_wp2_with fail
    go_ret
    exact ⟨ret_bool HV.out.symm, HB.out⟩
  | true =>
    have HV : Hid (isB t vars defs = decide (cntOut t 60 ≤ 60)) := by
      simp only [Hid, isB, hs, Bool.true_and]
      unfold cntOut
      split
      · rename_i h; simp [h]
      · rename_i h; simp [h]
    clear hs
    go_wp2_with fail
    refine (cnt_calls t c _ _ (HK.out.next HB.out) (by omega) (by omega)).mono ?_
    rintro e w2 ⟨rfl, hb2⟩
    have HB2 : Hid (Below w.heap.size w w2) := HB.out.trans (hb2.mono HB.out.size)
    clear hb2
    go_wp2_with fail
    go_ret
    exact ⟨ret_bool HV.out.symm, HB2.out⟩
end Go.Proofs.Ythlblgibgfledaa
/-
  THE MODEL's ExprValid: which trees it takes for valid; nothing that was there is changed.
-/
namespace Go.Proofs.Ythlblgibgfledaa
set_option linter.unusedVariables false
set_option linter.unusedSimpArgs false
open Go.RowKit

set_option maxHeartbeats 400000 in
theorem specValid_calls (t : Tr) (vars defs : Int) (c : Value) (w : World) (hk : In w t.kids c) : Calls Try.prog 31 #[.agg #[.int .i64 t.op, .int .i64 t.num, c], .int .i64 vars, .int .i64 defs] w fun e w' => e = .returned (.bool (validB t vars defs)) ∧ Below w.heap.size w w' := by
  have HK : Hid (In w t.kids c) := hk
  clear hk
  have HBX : Hid (Below w.heap.size w (w.alloc (.cells #[.int .i64 t.op, .int .i64 t.num, c] 35))) := box_below _ _
  by_cases hv0 : 0 ≤ vars
  · by_cases hv4 : vars ≤ 4
    · by_cases hd0 : 0 ≤ defs
      · by_cases hd6 : defs ≤ 6
        · have HV : Hid (validB t vars defs = isB t vars defs) := by
            simp only [Hid, validB, isB]
            rw [decide_eq_true (show 0 ≤ vars ∧ vars ≤ 4 ∧ 0 ≤ defs ∧ defs ≤ 6 from ⟨hv0, hv4, hd0, hd6⟩), Bool.true_and]
            congr 1
            rw [decide_eq_decide]
            omega
          go_enter Try.func31, Try.ntmps31
          go_wp2_with fail
          refine (l1Is_calls t vars defs c _ (HK.out.next HBX.out)).mono ?_
          rintro e w2 ⟨rfl, hb2⟩
          have HB2 : Hid (Below w.heap.size w w2) := HBX.out.trans (hb2.mono HBX.out.size)
          clear hb2
          go_wp2_with fail
          go_ret
          exact ⟨ret_bool HV.out.symm, HB2.out⟩
        · have HV : Hid (validB t vars defs = false) := by
            simp only [Hid, validB]
            rw [decide_eq_false (show ¬ (0 ≤ vars ∧ vars ≤ 4 ∧ 0 ≤ defs ∧ defs ≤ 6) by omega), Bool.false_and]
          go_enter Try.func31, Try.ntmps31
          go_wp2_with fail
          go_ret
          exact ⟨ret_bool HV.out.symm, HBX.out⟩
      · have HV : Hid (validB t vars defs = false) := by
          simp only [Hid, validB]
          rw [decide_eq_false (show ¬ (0 ≤ vars ∧ vars ≤ 4 ∧ 0 ≤ defs ∧ defs ≤ 6) by omega), Bool.false_and]
        go_enter Try.func31, Try.ntmps31
        go_wp2_with fail
        go_ret
        exact ⟨ret_bool HV.out.symm, HBX.out⟩
    · have HV : Hid (validB t vars defs = false) := by
        simp only [Hid, validB]
        rw [decide_eq_false (show ¬ (0 ≤ vars ∧ vars ≤ 4 ∧ 0 ≤ defs ∧ defs ≤ 6) by omega), Bool.false_and]
      go_enter Try.func31, Try.ntmps31
      go_wp2_with fail
      go_ret
      exact ⟨ret_bool HV.out.symm, HBX.out⟩
  · have HV : Hid (validB t vars defs = false) := by
      simp only [Hid, validB]
      rw [decide_eq_false (show ¬ (0 ≤ vars ∧ vars ≤ 4 ∧ 0 ≤ defs ∧ defs ≤ 6) by omega), Bool.false_and]
    go_enter Try.func31, Try.ntmps31
    go_wp2_with fail
    go_ret
    exact ⟨ret_bool HV.out.symm, HBX.out⟩
end Go.Proofs.Ythlblgibgfledaa
/-
  THE MODEL's AddExpr.
-/
namespace Go.Proofs.Ythlblgibgfledaa
set_option linter.unusedVariables false
set_option linter.unusedSimpArgs false
open Go.RowKit

theorem mkHid2 {p : Prop} (h : p) : Hid p := h
theorem OwnC.downS {w : World} {lo lo' : Nat} {S S' : Nat → Prop} {g : List Ce} {v : Value} (h : OwnC w lo S g v) (hl : lo' ≤ lo) (hS : ∀ k, S k → S' k) : OwnC w lo' S' g v := by
  obtain ⟨hi0, xs, kb, h1, h2, h3⟩ := h.next (S' := S') (fun k hk _ => hS k hk) (fun _ _ _ => rfl) (fun _ _ _ => rfl)
  refine ⟨hi0, xs, kb, ⟨h1.1, ?_⟩, h2, h3⟩
  rcases h1.2 with h | ⟨b, cap, cur, rfl, hg, r⟩
  · exact Or.inl h
  · exact Or.inr ⟨b, cap, cur, rfl, Nat.le_trans hl hg, r⟩
set_option maxRecDepth 100000 in
set_option maxHeartbeats 1600000 in
theorem specAddX_calls (g : List Ce) (t : Tr) (xs : List Int) (defs : Int) (gv c av : Value) (w : World) (hg : CIn w g gv) (hk : In w t.kids c) (ha : IIn w xs av) (ho : I64 t.op) (hn : I64 t.num) :
    Calls Try.prog 8 #[gv, .agg #[.int .i64 t.op, .int .i64 t.num, c], av, .int .i64 defs] w (AddOut (addOut g t xs defs) w) := by
  have HG : Hid (CIn w g gv) := hg
  have HK : Hid (In w t.kids c) := hk
  have HA : Hid (IIn w xs av) := ha
  have HT : Hid (I64 t.op ∧ I64 t.num) := ⟨ho, hn⟩
  obtain ⟨adg, capg, rfl, hgl, hgm, -⟩ := hg
  obtain ⟨ad, cap, rfl, -, hm, -⟩ := hk
  obtain ⟨ada, capa, rfl, hal, ham, -⟩ := ha
  unfold maxLen at hm hgm ham
  clear ho hn
  go_enter Try.func8, Try.ntmps8
  go_wp2_with fail
  refine (specGraph_calls g defs _ _ (HG.out.next (box_below _ _))).mono ?_
  rintro e w1 ⟨rfl, hb1⟩
  have HB1 : Hid (Below w.heap.size w w1) := (box_below _ _).trans (hb1.mono (by rw [Deep.nblk_alloc]; omega))
  have hz1 : w.heap.size < w1.heap.size := by have := hb1.size; rw [Deep.nblk_alloc] at this; omega
  have hr1 : w1.heap[w.heap.size]? = some (.cells #[.int .i64 t.op, .int .i64 t.num, .slice ad t.kids.length cap] 35) := (hb1.block _ (by rw [Deep.nblk_alloc]; omega)).trans (Deep.blk_alloc_new _ _)
  have HR1 : Hid (w1.heap[w.heap.size]? = some (.cells #[.int .i64 t.op, .int .i64 t.num, .slice ad t.kids.length cap] 35)) := hr1
  have r0 := cell_of_blk hr1 0 _ rfl
  have r1 := cell_of_blk hr1 1 _ rfl
  have r2 := cell_of_blk hr1 2 _ rfl
  clear hb1 hr1
  by_cases hgb : graphB g defs = true
  · have HGB : Hid (graphB g defs = true) := hgb
    rw [hgb]
    clear hgb
    go_wp2_with fail
    have hval := specValid_calls t (xs.length : Int) defs (.slice ad t.kids.length cap) w1 (HK.out.next HB1.out)
    refine hval.mono ?_
    rintro e w2 ⟨rfl, hb2⟩
    have HB2 : Hid (Below w.heap.size w w2) := HB1.out.trans (hb2.mono HB1.out.size)
    have hz2 : w.heap.size < w2.heap.size := by have := hb2.size; omega
    have HR2 : Hid (w2.heap[w.heap.size]? = some (.cells #[.int .i64 t.op, .int .i64 t.num, .slice ad t.kids.length cap] 35)) := (hb2.block _ hz1).trans HR1.out
    clear hb2 hval r0 r1 r2
    by_cases hv : validB t xs.length defs = true
    · have HVB : Hid (validB t xs.length defs = true) := hv
      obtain ⟨v1, v2, -, v4⟩ := validB_small hv
      have HSZ : Hid (1 + szT t ≤ 60 ∧ shB xs.length defs 16 t = true ∧ (xs.length : Int) ≤ 4) := ⟨v1, v2, v4⟩
      have hx4 : xs.length ≤ 4 := by omega
      rw [hv]
      clear hv v1 v2 v4
      go_wp2_with fail
      go_loopw [11] (fun i wr => ∃ k : Nat, k ≤ xs.length ∧ i = .int .i64 k ∧ (xs.take k).all (isAt g.length) = true ∧ Below w2.heap.size w2 wr) (fun i _ => xs.length - (intOf i).toNat)
      case atStart => exact ⟨0, Nat.zero_le _, rfl, by simp, Below.refl _ _⟩
      case round =>
        obtain ⟨k, hk, rfl, hall, hb⟩ := hrel
        have HAL : Hid ((xs.take k).all (isAt g.length) = true) := hall
        have HBW : Hid (Below w.heap.size w wr) := HB2.out.trans (hb.mono HB2.out.size)
        have HRW : Hid (wr.heap[w.heap.size]? = some (.cells #[.int .i64 t.op, .int .i64 t.num, .slice ad t.kids.length cap] 35)) := (hb.block _ hz2).trans HR2.out
        have HB : Hid (Below w2.heap.size w2 wr) := hb
        by_cases hlt : k < xs.length
        · obtain ⟨bl, off, rfl, d0⟩ := (HA.out.next HBW.out).at k hlt
          by_cases h0 : xs[k] < 0
          · have HV : Hid (addOut g t xs defs = ([], 0, false)) := addOut_no fun h => by
              have := List.all_eq_true.1 h.2.2.1 _ (List.getElem_mem hlt)
              unfold isAt at this
              simp at this
              omega
            clear hall hb
            go_wp2_with fail
            refine bodyPost_ret (v := .tuple #[.slice (some ⟨wr.heap.size, 0, none⟩) 0 0, .int .i64 0, .bool false]) (by simp [results, Try.results8, go_sem]) rfl ?_
            rw [HV.out]
            exact ⟨_, rfl, OwnC.zero (Deep.blk_alloc_new _ _) HBW.out.size, HBW.out.alloc HBW.out.size _⟩
          · by_cases h1 : xs[k] < (g.length : Int)
            · have HV : Hid ((xs.take (k + 1)).all (isAt g.length) = true) := by
                rw [Hid, List.take_succ_eq_append_getElem hlt, List.all_append, HAL.out]
                simp [isAt]
                omega
              have h1' : ¬ ((g.length : Int) ≤ xs[k]) := by omega
              clear hall hb h1
              go_wp2_with fail
              go_roundw
              case rel => exact ⟨k + 1, by omega, by go_num, HV.out, HB.out⟩
              case measure => simp [intOf]; omega
            · have HV : Hid (addOut g t xs defs = ([], 0, false)) := addOut_no fun h => by
                have := List.all_eq_true.1 h.2.2.1 _ (List.getElem_mem hlt)
                unfold isAt at this
                simp at this
                omega
              have h1' : (g.length : Int) ≤ xs[k] := by omega
              clear hall hb h1
              go_wp2_with fail
              refine bodyPost_ret (v := .tuple #[.slice (some ⟨wr.heap.size, 0, none⟩) 0 0, .int .i64 0, .bool false]) (by simp [results, Try.results8, go_sem]) rfl ?_
              rw [HV.out]
              exact ⟨_, rfl, OwnC.zero (Deep.blk_alloc_new _ _) HBW.out.size, HBW.out.alloc HBW.out.size _⟩
        · have hke : k = xs.length := by omega
          have HXS : Hid (xs.all (isAt g.length) = true) := by
            have h := HAL.out
            rw [hke, List.take_length] at h
            exact h
          clear hall hb hke
          have r0 := cell_of_blk HRW.out 0 _ rfl
          have r1 := cell_of_blk HRW.out 1 _ rfl
          have r2 := cell_of_blk HRW.out 2 _ rfl
          have HADD : Hid (∀ (v3 : Value) (W w3 : World), Below w.heap.size w W → OwnC w3 W.heap.size (fun b => W.heap.size ≤ b) g v3 → Below W.heap.size W w3 → Calls Try.prog 32 #[v3, .agg #[.int .i64 t.op, .int .i64 t.num, .slice ad t.kids.length cap], .slice ada xs.length capa] w3 (fun e w' => ∃ gv, e = .returned (.tuple #[gv, .int .i64 ((addT (xs.map Int.toNat) t g).2 : Int)]) ∧ OwnC w' w.heap.size (fun b => w.heap.size ≤ b) (addT (xs.map Int.toNat) t g).1 gv ∧ Below w.heap.size w w' ∧ ∀ k, k < W.heap.size → w'.heap[k]? = W.heap[k]?)) := by
            intro v3 W w3 hW hg3 hb3
            have hsW := hW.size
            have hB3 : Below w.heap.size w w3 := hW.trans (hb3.mono hsW)
            have hg3' : OwnC w3 w.heap.size (fun b => w.heap.size ≤ b) g v3 := hg3.downS hsW (fun b hb => by omega)
            have h400 := graphB_len HGB.out
            obtain ⟨ys, hy⟩ := hg3.row
            refine (ad_calls (xs.map Int.toNat) t v3 _ _ w.heap.size (fun b => w.heap.size ≤ b) g w3 hg3' hB3.size (by rw [← args_back HXS.out]; exact HA.out.mono (fun _ h => h) (fun b hb => hB3.block b hb)) (HK.out.mono (fun _ h => h) (fun b hb => hB3.block b hb)) (by have := HSZ.out.1; omega) (by rw [List.length_map]; omega) HT.out.1 HT.out.2 (by rw [List.length_map]; exact varOk_of_sh xs.length defs 16 t HSZ.out.2.1)).mono ?_
            rintro e w5 ⟨gv', rfl, hg5, hgr5, -⟩
            exact ⟨gv', rfl, hg5.next (fun b hb _ => by rcases hb with hb | hb; exact hb; have := hB3.size; omega) (fun _ _ _ => rfl) (fun _ _ _ => rfl), below_grown hB3 hgr5 (fun k hk => by have := (own_some hy k hk).1; omega), fun k hk => (hgr5.block k (by have := hb3.size; omega) (fun e => by have := (own_some hy k e.symm).1; omega)).trans (hb3.block k hk)⟩
          go_wp2_with fail
          go_region_held3 (fun w' => w'.cell? ⟨w.heap.size, 0, none⟩ = some (.int .i64 t.op) ∧ w'.cell? ⟨w.heap.size, 1, none⟩ = some (.int .i64 t.num) ∧ w'.cell? ⟨w.heap.size, 2, none⟩ = some (.slice ad t.kids.length cap))
            (first
              | go_keep
              | exact ⟨e0, e1, e2⟩
              | exact ⟨d0, d1, d2⟩
              | exact ⟨r0, r1, r2⟩
              | trivial)
            (first
              | (go_at_call 33; refine (l3Copy_calls g _ wr.drew (HG.out.next HBW.out.drew) ⟨defs, HGB.out⟩).mono ?_; rintro e w3 ⟨v3, rfl, hg3, hb3⟩; have HG3 := mkHid2 hg3; have HB3 := mkHid2 hb3; have hr3 := (hb3.block w.heap.size (by have := HBW.out.size; show _ < wr.heap.size; exact cellsOf_lt HRW.out)).trans HRW.out; have d0 := cell_of_blk hr3 0 _ rfl; have d1 := cell_of_blk hr3 1 _ rfl; have d2 := cell_of_blk hr3 2 _ rfl; clear hg3 hb3 hr3)
              | (go_at_call 32; refine (HADD.out v3 wr.drew w3 HBW.out.drew HG3.out HB3.out).mono ?_; rintro e w5 ⟨gv', rfl, hg5, hb5, hk5⟩; have HG5 := mkHid2 hg5; have HB5 := mkHid2 hb5; have hr5 := (hk5 w.heap.size (by show _ < wr.heap.size; exact cellsOf_lt HRW.out)).trans HRW.out; have e0 := cell_of_blk hr5 0 _ rfl; have e1 := cell_of_blk hr5 1 _ rfl; have e2 := cell_of_blk hr5 2 _ rfl; clear hg5 hb5 hk5 hr5))
          obtain ⟨adz, capz, rfl⟩ := HG5.out.form
          by_cases hle : (addT (xs.map Int.toNat) t g).1.length ≤ 400
          · have HV : Hid (addOut g t xs defs = ((addT (xs.map Int.toNat) t g).1, (addT (xs.map Int.toNat) t g).2, true)) := addOut_yes HGB.out HVB.out HXS.out hle
            have hle2 : ¬ ((400 : Int) < ((addT (xs.map Int.toNat) t g).1.length : Int)) := by omega
            clear hle d0 d1 d2 e0 e1 e2 r0 r1 r2
            go_wp2_with fail
            refine bodyPost_ret (v := .tuple #[.slice adz (addT (xs.map Int.toNat) t g).1.length capz, .int .i64 ((addT (xs.map Int.toNat) t g).2 : Int), .bool true]) (by simp [results, Try.results8, go_sem]) rfl ?_
            rw [HV.out]
            exact ⟨_, rfl, HG5.out, HB5.out⟩
          · have HV : Hid (addOut g t xs defs = ([], 0, false)) := addOut_no fun h => hle h.2.2.2
            have hle2 : (400 : Int) < ((addT (xs.map Int.toNat) t g).1.length : Int) := by omega
            clear hle d0 d1 d2 e0 e1 e2 r0 r1 r2
            go_wp2_with fail
            refine bodyPost_ret (v := .tuple #[.slice (some ⟨w5.heap.size, 0, none⟩) 0 0, .int .i64 0, .bool false]) (by simp [results, Try.results8, go_sem]) rfl ?_
            rw [HV.out]
            exact ⟨_, rfl, OwnC.zero (Deep.blk_alloc_new _ _) HB5.out.size, HB5.out.alloc HB5.out.size _⟩
    · have HV : Hid (addOut g t xs defs = ([], 0, false)) := addOut_no fun h => hv h.2.1
      rw [Bool.not_eq_true] at hv
      rw [hv]
      clear hv
      go_wp2_with fail
      refine bodyPost_ret (v := .tuple #[.slice (some ⟨w2.heap.size, 0, none⟩) 0 0, .int .i64 0, .bool false]) (by simp [results, Try.results8, go_sem]) rfl ?_
      rw [HV.out]
      exact ⟨_, rfl, OwnC.zero (Deep.blk_alloc_new _ _) HB2.out.size, HB2.out.alloc HB2.out.size _⟩
  · have HV : Hid (addOut g t xs defs = ([], 0, false)) := addOut_no fun h => hgb h.1
    rw [Bool.not_eq_true] at hgb
    rw [hgb]
    clear hgb
    go_wp2_with fail
    refine bodyPost_ret (v := .tuple #[.slice (some ⟨w1.heap.size, 0, none⟩) 0 0, .int .i64 0, .bool false]) (by simp [results, Try.results8, go_sem]) rfl ?_
    rw [HV.out]
    exact ⟨_, rfl, OwnC.zero (Deep.blk_alloc_new _ _) HB1.out.size, HB1.out.alloc HB1.out.size _⟩
end Go.Proofs.Ythlblgibgfledaa
/-
  slices.Clone of a list of places.
-/
namespace Go.Proofs.Ythlblgibgfledaa
set_option linter.unusedVariables false
set_option linter.unusedSimpArgs false
open Go.RowKit

/-- a copy, in a row of its own -/
def CloneRes (ws : List Nat) (w : World) (e : Ending) (w' : World) : Prop := ∃ v, e = .returned v ∧ Stk w' w.heap.size ws v ∧ Below w.heap.size w w'
theorem clone_below {wr w1 : World} {o : Obj} (h : (wr.alloc o).grownBy w1 (Value.slice (some ⟨wr.heap.size, 0, none⟩) 0 0).ownBlock) : Below wr.heap.size wr w1 :=
  ⟨h.os, h.tape, h.output, by have h1 : (wr.alloc o).heap.size ≤ w1.heap.size := h.size; rw [Deep.nblk_alloc] at h1; omega, fun k hk => (h.block k (by show k < (wr.alloc o).heap.size; rw [Deep.nblk_alloc]; omega) (by simp only [Value.ownBlock, ne_eq, Option.some.injEq]; omega)).trans (Deep.blk_alloc_lt _ _ _ hk)⟩
set_option maxRecDepth 100000 in
set_option maxHeartbeats 1600000 in
theorem cloneI_calls (ws : List Nat) (v : Value) (w : World) (hk : IIn w (ws.map fun (a : Nat) => (a : Int)) v) (hl : ws.length ≤ 1048576) : Calls Try.prog 61 #[v] w (CloneRes ws w) := by
  have HK : Hid (IIn w (ws.map fun (a : Nat) => (a : Int)) v) := hk
  obtain ⟨ad, cap, rfl, hlc, hm, hr⟩ := hk
  unfold maxLen at hm
  rcases ad with _ | ad
  · have hnil : ws = [] := by
      rcases hr with h | ⟨_, _, h, -⟩
      · simpa using h
      · simp at h
    subst hnil
    clear hr HK
    have q : (binOp .eql 26 (.slice none 0 cap) (.slice none 0 0)).run Try.prog w = .ok (.bool true) w := Lib.run_eql_slice_nil w _ _ none 0 cap 0 0 Try.underlying26
    go_enter Try.func61, Try.ntmps61
    go_wp2_with fail
    go_ret
    exact ⟨_, rfl, World.ownsRow_nil _ _ _ _, Below.refl _ _⟩
  · clear hr
    have q : (binOp .eql 26 (.slice (some ad) ws.length cap) (.slice none 0 0)).run Try.prog w = .ok (.bool false) w := Lib.run_eql_slice_nil w _ _ (some ad) ws.length cap 0 0 Try.underlying26
    go_enter Try.func61, Try.ntmps61
    go_wp2_with (at_builtin; go_must (refine wpList_push rfl _ _ rfl _ w.heap.size [] ws (.slice (some ⟨w.heap.size, 0, none⟩) 0 0) (.slice (some ad) (ws.map fun (a : Nat) => (a : Int)).length cap) rfl (stk_zero (Deep.blk_alloc_new w _) (Nat.le_refl _)) rfl (HK.out.next (box_below w _)) rfl (by rw [Deep.nblk_alloc]; omega) (by simp only [List.length_nil]; omega) ?_); go_must (intro v1 w1 hst1 hg1); go_must (have HST1 : Hid (Stk w1 w.heap.size ws v1) := hst1); go_must (have HB1 : Hid (Below w.heap.size w w1) := clone_below hg1); clear hst1 hg1)
    go_ret
    exact ⟨_, rfl, HST1.out, HB1.out⟩
end Go.Proofs.Ythlblgibgfledaa
/-
  THE PROGRAM's arena: one cell more.
-/
namespace Go.Proofs.Ythlblgibgfledaa
set_option linter.unusedVariables false
set_option linter.unusedSimpArgs false
open Go.RowKit

theorem cells_ne_arena {w : World} {A lo n : Nat} {gv gv0 : Value} {xs : List Value} (hA : w.heap[A]? = some (.cells #[gv0] 72)) (hx : w.ownsRow lo 64 3 gv n xs) : some A ≠ gv.ownBlock := by
  intro e
  rcases hx.2 with ⟨rfl, -⟩ | ⟨b, cap, cur, rfl, -, hh, -⟩
  · simp [Value.ownBlock] at e
  · simp only [Value.ownBlock, Option.some.injEq] at e
    subst e
    rw [hh] at hA
    simp at hA
theorem grown_drew {w w5 : World} {b : Option Nat} (h : w.drew.grownBy w5 b) : w.grownBy w5 b := ⟨h.os, h.tape, h.output, h.size, h.block⟩
theorem ar_keep {w w5 : World} {A lo n : Nat} {gv : Value} {xs : List Value} {o1 o2 : Obj} (hA : w.heap[A]? = some (.cells #[gv] 72)) (hx : w.ownsRow lo 64 3 gv n xs) (hg : ((w.alloc o1).alloc o2).grownBy w5 gv.ownBlock) : w5.heap[A]? = some (.cells #[gv] 72) := by
  have hl : A < w.heap.size := (Array.getElem?_eq_some_iff.1 hA).1
  exact ((hg.block A (by rw [Deep.nblk_alloc, Deep.nblk_alloc]; omega) (cells_ne_arena hA hx)).trans ((Deep.blk_alloc_lt _ _ _ (by rw [Deep.nblk_alloc]; omega)).trans (Deep.blk_alloc_lt _ _ _ hl))).trans hA

/-- what add hands back: the cell's place; its row is the arena's -/
def Added (A lo n : Nat) (o m : Int) (gv kv : Value) (xs : List Value) (w : World) (e : Ending) (w' : World) : Prop :=
  ∃ v' w5, e = .returned (.int .i64 (n : Int)) ∧ w5.ownsRow lo 64 3 v' (n + 1) (xs ++ [.int .i64 o, .int .i64 m, kv]) ∧ ((w.alloc (.cells #[.int .i64 o, .int .i64 m, kv] 64)).alloc (.cells #[.int .i64 o, .int .i64 m, kv] 64)).grownBy w5 gv.ownBlock ∧ (v'.ownBlock = gv.ownBlock ∨ ∃ g, v'.ownBlock = some g ∧ ((w.alloc (.cells #[.int .i64 o, .int .i64 m, kv] 64)).alloc (.cells #[.int .i64 o, .int .i64 m, kv] 64)).heap.size ≤ g) ∧ w' = w5.setCell ⟨A, 0, none⟩ v'

set_option maxRecDepth 100000 in
set_option maxHeartbeats 1600000 in
theorem add_calls (A lo n : Nat) (o m : Int) (gv : Value) (adk : Option Addr) (nk ck : Nat) (xs : List Value) (w : World) (hA : w.heap[A]? = some (.cells #[gv] 72)) (hx : w.ownsRow lo 64 3 gv n xs) (hlo : lo ≤ w.heap.size) (hn : n ≤ 500000) :
    Calls Try.prog 60 #[.pointer (some ⟨A, 0, none⟩), .agg #[.int .i64 o, .int .i64 m, .slice adk nk ck]] w (Added A lo n o m gv (.slice adk nk ck) xs w) := by
  have HA : Hid (w.heap[A]? = some (.cells #[gv] 72)) := hA
  have HX : Hid (w.ownsRow lo 64 3 gv n xs) := hx
  have a0 := cell_of_blk hA 0 _ rfl
  have af := frz_of_blk hA 0
  obtain ⟨ad, cap, rfl⟩ : ∃ ad cap, gv = .slice ad n cap := by
    rcases hx.2 with ⟨rfl, h0⟩ | ⟨b, cap, cur, rfl, -⟩
    · exact ⟨none, 0, by rw [h0]⟩
    · exact ⟨_, _, rfl⟩
  clear hA hx
  go_enter Try.func60, Try.ntmps60
  have p0 := old_cell a0 (.cells #[.int .i64 o, .int .i64 m, .slice adk nk ck] 64)
  have p1 := old_cell p0 (.cells #[.int .i64 o, .int .i64 m, .slice adk nk ck] 64)
  have b0 := box_cell w #[.int .i64 o, .int .i64 m, .slice adk nk ck] 64 0 _ rfl
  have b1 := box_cell w #[.int .i64 o, .int .i64 m, .slice adk nk ck] 64 1 _ rfl
  have b2 := box_cell w #[.int .i64 o, .int .i64 m, .slice adk nk ck] 64 2 _ rfl
  obtain ⟨iC, zC, hII⟩ := infoC1
  have HII : Hid (Try.prog.info? 64 = some iC ∧ iC.zero = some zC ∧ iC.size = 3 ∧ iC.bytes = 40 ∧ zC.cells.size = 3) := hII
  have HX2 : Hid (((w.alloc (.cells #[.int .i64 o, .int .i64 m, .slice adk nk ck] 64)).alloc (.cells #[.int .i64 o, .int .i64 m, .slice adk nk ck] 64)).drew.ownsRow lo 64 3 (.slice ad n cap) n xs) := own_keep (own_keep (own_keep HX.out (fun k _ hk => Deep.blk_alloc_lt _ _ _ hk)) (fun k _ hk => Deep.blk_alloc_lt _ _ _ hk)) (fun _ _ _ => rfl)
  clear hII
  go_wp2_with fail
  go_region_law (refine step_append_where rfl (.tmp 9) (.tmp 11) 29 rfl lo 64 iC zC 3 40 Try.underlying29 HII.out.1 HII.out.2.1 HII.out.2.2.1 HII.out.2.2.2.1 HII.out.2.2.2.2 (by decide) (.slice ad n cap) n xs (by simp [Act.eval, Act.put]) HX2.out ⟨w.heap.size + 1, 0, none⟩ 1 1 [.int .i64 o, .int .i64 m, .slice adk nk ck] (by simp [Act.eval, Act.put]) rfl (by have h := news3c (w.alloc (.cells #[.int .i64 o, .int .i64 m, .slice adk nk ck] 64)) (.int .i64 o) (.int .i64 m) (.slice adk nk ck); rw [Deep.nblk_alloc] at h; exact h) (by simp [Value.oneCell']) (by unfold maxLen; omega) (by omega) (by show lo ≤ ((w.alloc _).alloc _).heap.size; simp only [Deep.nblk_alloc]; omega) (by omega) ?_; intro v' w5 hown hg0 hw; have hg := grown_drew hg0; clear hg0; obtain ⟨g', c', rfl, -, -, -, -⟩ := own_form hown (by omega); have s2 := cell_of_blk (ar_keep HA.out HX.out hg) 0 _ rfl; have sf := frz_of_blk (ar_keep HA.out HX.out hg) 0)
  all_goals
    have hn0 : ¬ ((n : Int) + 1 - 1 < 0) := by omega
    have h64 : IntKind.i64.wrap ((n : Int) + 1 - 1) = (n : Int) := by rw [show (n : Int) + 1 - 1 = (n : Int) by omega]; exact IntWalk.i64_in _ (by omega)
    go_wp2_with fail
    go_ret
    exact ⟨_, w5, rfl, hown, hg, hw, rfl⟩
end Go.Proofs.Ythlblgibgfledaa
/-
  THE PROGRAM's foldExpr with the closure of addExpr: the cells of an expression, added to an arena.
-/
namespace Go.Proofs.Ythlblgibgfledaa
set_option linter.unusedVariables false
set_option linter.unusedSimpArgs false
open Go.RowKit

/-- nothing changed but one row and block A -/
structure Kept (w w' : World) (A : Nat) (row : Option Nat) : Prop where
  os : w'.os = w.os
  tape : w'.tape = w.tape
  output : w'.output = w.output
  size : w.heap.size ≤ w'.heap.size
  block : ∀ k, k < w.heap.size → some k ≠ row → k ≠ A → w'.heap[k]? = w.heap[k]?
/-- a graph that is being built stays where its rows stay: rows of ints and the row of cells -/
theorem OwnC.next2 {w w' : World} {lo : Nat} {S S' : Nat → Prop} {g : List Ce} {v : Value} (h : OwnC w lo S g v) (hS : ∀ k, S k → k < w.heap.size → S' k) (hr : ∀ k, some k = v.ownBlock → k < w.heap.size → w'.heap[k]? = w.heap[k]?) (hb : ∀ k C, S k → k < w.heap.size → w.heap[k]? = some (.cells C 3 (0, 0)) → w'.heap[k]? = w.heap[k]?) : OwnC w' lo S' g v := by
  obtain ⟨hi0, xs, kb, h1, h2, h3⟩ := h
  refine ⟨hi0, xs, kb, ?_, fun j hj => ?_, h3⟩
  · refine ⟨h1.1, ?_⟩
    rcases h1.2 with h | ⟨b, cap, cur, rfl, hg, hh, r⟩
    · exact Or.inl h
    · exact Or.inr ⟨b, cap, cur, rfl, hg, (hr b rfl (Array.getElem?_eq_some_iff.1 hh).1).trans hh, r⟩
  · obtain ⟨kv, e0, e1, e2, e3⟩ := h2 j hj
    exact ⟨kv, e0, e1, e2, e3.keep hS fun C h1 h2 hC => hb _ C h1 h2 hC⟩

def FdRes (r : List Ce × Nat) (lo : Nat) (S : Nat → Prop) (gv : Value) (A : Nat) (w : World) (e : Ending) (w' : World) : Prop :=
  ∃ gv', e = .returned (.int .i64 (r.2 : Int)) ∧ OwnC w' lo (fun b => S b ∨ w.heap.size ≤ b) r.1 gv' ∧ w'.heap[A]? = some (.cells #[gv'] 72) ∧ Kept w w' A gv.ownBlock ∧ (gv'.ownBlock = gv.ownBlock ∨ ∃ g, gv'.ownBlock = some g ∧ w.heap.size ≤ g)
def FdSaid (args : List Nat) (av : Value) (t : Tr) : Prop := ∀ (gv c : Value) (lo A xb ab : Nat) (S : Nat → Prop) (cs : List Ce) (w : World), OwnC w lo S cs gv → w.heap[A]? = some (.cells #[gv] 72) → w.heap[xb]? = some (.cells #[av] 26) → w.heap[ab]? = some (.cells #[.pointer (some ⟨A, 0, none⟩)] 68) →
  lo ≤ w.heap.size → lo ≤ A → IntsOn w (Lt lo) (args.map fun (a : Nat) => (a : Int)) av → KidsOn w (Lt lo) t.kids c → cs.length + szT t ≤ 500000 → args.length ≤ 1048576 → I64 t.op → I64 t.num → AllT (VarOk args.length) t →
  Calls Try.prog 62 #[.agg #[.int .i64 t.op, .int .i64 t.num, c], .func (.func 63) #[] #[.pointer (some ⟨xb, 0, none⟩), .pointer (some ⟨ab, 0, none⟩)]] w (FdRes (addT args t cs) lo S gv A w)

/-- the closure, at a node that is no variable -/
def CloRes (A lo n : Nat) (o m : Int) (gv kv : Value) (xs : List Value) (w : World) (e : Ending) (w' : World) : Prop := ∃ ob, Added A lo n o m gv kv xs (w.alloc ob) e w'
set_option maxRecDepth 100000 in
set_option maxHeartbeats 1600000 in
theorem clo_add (A lo n xb ab : Nat) (o m : Int) (c gv : Value) (adk : Option Addr) (nk ck : Nat) (xs : List Value) (w : World) (h1 : ¬ o = 1) (hA : w.heap[A]? = some (.cells #[gv] 72)) (hab : w.heap[ab]? = some (.cells #[.pointer (some ⟨A, 0, none⟩)] 68)) (hx : w.ownsRow lo 64 3 gv n xs) (hlo : lo ≤ w.heap.size) (hn : n ≤ 500000) :
    Calls Try.prog 63 #[.agg #[.int .i64 o, .int .i64 m, c], .slice adk nk ck, .pointer (some ⟨xb, 0, none⟩), .pointer (some ⟨ab, 0, none⟩)] w (CloRes A lo n o m gv (.slice adk nk ck) xs w) := by
  have t1 : (o == 1) = false := by simpa using h1
  have HA : Hid (w.heap[A]? = some (.cells #[gv] 72)) := hA
  have HX : Hid (w.ownsRow lo 64 3 gv n xs) := hx
  have p0 := old_cell (cell_of_blk hab 0 _ rfl) (.cells #[.int .i64 o, .int .i64 m, c] 35)
  clear h1 hA hab hx
  go_enter Try.func63, Try.ntmps63
  go_wp2_with fail
  refine (add_calls A lo n o m gv adk nk ck xs _ ((Deep.blk_alloc_lt _ _ _ (Array.getElem?_eq_some_iff.1 HA.out).1).trans HA.out) (own_keep HX.out (fun k _ hk => Deep.blk_alloc_lt _ _ _ hk)) (by rw [Deep.nblk_alloc]; omega) hn).mono ?_
  rintro e w' ⟨v', w5, rfl, h1, h2, h3, rfl⟩
  have HR : Hid (CloRes A lo n o m gv (.slice adk nk ck) xs w (.returned (.int .i64 (n : Int))) (w5.setCell ⟨A, 0, none⟩ v')) := ⟨_, v', w5, rfl, h1, h2, h3, rfl⟩
  clear h1 h2 h3
  go_wp2_with fail
  go_ret
  exact HR.out

/-- where the operands' rows of the graph lie while the operands of a cell are gathered in kv -/
def SF (w : World) (S : Nat → Prop) (kv : Value) : Nat → Prop := fun b => ((S b ∧ b < w.heap.size) ∨ w.heap.size + 1 ≤ b) ∧ some b ≠ kv.ownBlock
/-- what holds behind k operands -/
structure FdRel (args : List Nat) (t : Tr) (cs : List Ce) (lo : Nat) (S : Nat → Prop) (A : Nat) (gv0 ebox : Value) (w : World) (k : Nat) (gv kv : Value) (wr : World) : Prop where
  graph : OwnC wr lo (SF w S kv) (addL args (t.kids.take k) cs).1 gv
  arena : wr.heap[A]? = some (.cells #[gv] 72)
  kids : Stk wr (w.heap.size + 1) (addL args (t.kids.take k) cs).2 kv
  ebx : wr.heap[w.heap.size]? = some (.cells #[.int .i64 t.op, .int .i64 t.num, ebox] 35)
  kept : Kept w wr A gv0.ownBlock
  size : w.heap.size + 1 ≤ wr.heap.size
  own : gv.ownBlock = gv0.ownBlock ∨ ∃ g, gv.ownBlock = some g ∧ w.heap.size + 1 ≤ g
theorem FdRel.gown {args : List Nat} {t : Tr} {cs : List Ce} {lo A : Nat} {S : Nat → Prop} {gv0 ebox : Value} {w : World} {k : Nat} {gv kv : Value} {wr : World} (h : FdRel args t cs lo S A gv0 ebox w k gv kv wr) : ∀ b, some b = gv.ownBlock → some b = gv0.ownBlock ∨ w.heap.size + 1 ≤ b := by
  intro b hb
  rcases h.own with e | ⟨g, e, hg⟩
  · exact Or.inl (hb.trans e)
  · rw [e] at hb; simp only [Option.some.injEq] at hb; exact Or.inr (by omega)
/-- one operand more -/
theorem fd_push {args : List Nat} {t : Tr} {cs : List Ce} {lo A : Nat} {S : Nat → Prop} {gv0 ebox : Value} {w : World} {k : Nat} {gv kv : Value} {wr : World} (h : FdRel args t cs lo S A gv0 ebox w k gv kv wr) (hk : k < t.kids.length) (hg0 : ∀ b, gv0.ownBlock = some b → b < w.heap.size) (hA : A < w.heap.size) (o1 : Obj) {gv' : Value} {w2 : World}
    (hg : OwnC w2 lo (fun b => SF w S kv b ∨ (wr.alloc o1).heap.size ≤ b) (addT args t.kids[k] (addL args (t.kids.take k) cs).1).1 gv') (hA2 : w2.heap[A]? = some (.cells #[gv'] 72)) (hgr : Kept (wr.alloc o1) w2 A gv.ownBlock) (how : gv'.ownBlock = gv.ownBlock ∨ ∃ g, gv'.ownBlock = some g ∧ (wr.alloc o1).heap.size ≤ g) (o : Obj) {kv' : Value} {w5 : World}
    (hst : Stk w5 (w.heap.size + 1) ((addL args (t.kids.take k) cs).2 ++ [(addT args t.kids[k] (addL args (t.kids.take k) cs).1).2]) kv') (hgr5 : (w2.alloc o).grownBy w5 kv.ownBlock) (hw5 : kv'.ownBlock = kv.ownBlock ∨ ∃ g, kv'.ownBlock = some g ∧ (w2.alloc o).heap.size ≤ g) :
    FdRel args t cs lo S A gv0 ebox w (k + 1) gv' kv' w5 := by
  have hs := h.size
  have hs2 := hgr.size
  have hs5 := hgr5.size
  rw [Deep.nblk_alloc] at hs2 hs5 hw5 how hg
  have hkv : ∀ b, some b = kv.ownBlock → w.heap.size + 1 ≤ b ∧ b < wr.heap.size := fun b e => own_some h.kids b e.symm
  have k2 : ∀ b, b < wr.heap.size → some b ≠ gv.ownBlock → b ≠ A → w2.heap[b]? = wr.heap[b]? := fun b hb hn hne => (hgr.block b (by rw [Deep.nblk_alloc]; omega) hn hne).trans (Deep.blk_alloc_lt _ _ _ hb)
  have k5 : ∀ b, b < w2.heap.size → some b ≠ kv.ownBlock → w5.heap[b]? = w2.heap[b]? := fun b hb hn => (hgr5.block b (by rw [Deep.nblk_alloc]; omega) hn).trans (Deep.blk_alloc_lt _ _ _ hb)
  have q4 : Stk w2 (w.heap.size + 1) (addL args (t.kids.take k) cs).2 kv := by
    obtain ⟨ys, hy⟩ := h.graph.row
    refine ⟨h.kids.1, ?_⟩
    rcases h.kids.2 with h' | ⟨g, cap, cur, rfl, hg, hh, r⟩
    · exact Or.inl h'
    · exact Or.inr ⟨g, cap, cur, rfl, hg, (k2 g (Array.getElem?_eq_some_iff.1 hh).1 (fun e => own_ne hy h.kids g e rfl) (by omega)).trans hh, r⟩
  have e1 : addL args (t.kids.take (k + 1)) cs = _ := addL_take_succ args t.kids cs k hk
  have hkA : some A ≠ kv.ownBlock := fun e => by have := (hkv _ e).1; omega
  refine ⟨?_, ?_, ?_, ?_, ⟨?_, ?_, ?_, ?_, ?_⟩, ?_, ?_⟩
  · rw [e1]
    refine hg.next2 (fun b hb hb2 => ?_) (fun b e hb => ?_) (fun b C hS hb _ => ?_)
    · refine ⟨?_, fun e => ?_⟩
      · rcases hb with hb | hb
        · exact hb.1
        · exact Or.inr (by omega)
      · rcases hw5 with e5 | ⟨g, e5, hg5⟩
        · rw [e5] at e
          rcases hb with hb | hb
          · exact hb.2 e
          · have := (hkv b e).2; omega
        · rw [e5] at e
          simp only [Option.some.injEq] at e
          omega
    · obtain ⟨ys, hy⟩ := hg.row
      exact k5 b hb (own_ne hy q4 b e)
    · rcases hS with hS | hS
      · exact k5 b hb hS.2
      · exact k5 b hb (fun e => by have := (hkv b e).2; omega)
  · rw [k5 A (by omega) hkA]; exact hA2
  · rw [e1]; exact hst
  · rw [k5 _ (by omega) (fun e => by have := (hkv _ e).1; omega), k2 _ (by omega) (fun e => by rcases h.gown _ e with e | e; have := hg0 _ e.symm; omega; omega) (by omega)]
    exact h.ebx
  · rw [hgr5.os]; exact hgr.os.trans h.kept.os
  · rw [hgr5.tape]; exact hgr.tape.trans h.kept.tape
  · rw [hgr5.output]; exact hgr.output.trans h.kept.output
  · omega
  · intro b hb hn hne
    rw [k5 b (by omega) (fun e => by have := (hkv _ e).1; omega), k2 b (by omega) (fun e => by rcases h.gown _ e with e | e; exact hn e; omega) hne]
    exact h.kept.block b hb hn hne
  · omega
  · rcases how with e | ⟨g, e, hg⟩
    · rw [e]; exact h.own
    · exact Or.inr ⟨g, e, by omega⟩
/-- behind all operands: the cell -/
theorem fd_end {args : List Nat} {t : Tr} {cs : List Ce} {lo A : Nat} {S : Nat → Prop} {gv0 ebox : Value} {w : World} {gv kv : Value} {wr : World} (h : FdRel args t cs lo S A gv0 ebox w t.kids.length gv kv wr) (h1 : ¬ t.op = 1) (hg0 : ∀ b, gv0.ownBlock = some b → b < w.heap.size) (hA : A < w.heap.size) (ho : I64 t.op) (hn : I64 t.num) {xs : List Value}
    (hx : wr.ownsRow lo 64 3 gv (addL args t.kids cs).1.length xs) {e : Ending} {w' : World} (hr : CloRes A lo (addL args t.kids cs).1.length t.op t.num gv kv xs wr e w') : FdRes (addT args t cs) lo S gv0 A w e w' := by
  obtain ⟨ob, v', w5, rfl, hown, hg, hw, rfl⟩ := hr
  have hs := h.size
  have hG := h.graph
  have hK := h.kids
  rw [List.take_length] at hG hK
  have hz : ∀ o1 o2, ((((wr.alloc ob).alloc o1).alloc o2)).heap.size = wr.heap.size + 3 := fun o1 o2 => by rw [Deep.nblk_alloc, Deep.nblk_alloc, Deep.nblk_alloc]
  have hs5 := hg.size
  rw [hz] at hs5 hw
  have hkeep : ∀ o1 o2 b, b < wr.heap.size → (((wr.alloc ob).alloc o1).alloc o2).heap[b]? = wr.heap[b]? := fun o1 o2 b hb => (Deep.blk_alloc_lt _ _ _ (by rw [Deep.nblk_alloc, Deep.nblk_alloc]; omega)).trans ((Deep.blk_alloc_lt _ _ _ (by rw [Deep.nblk_alloc]; omega)).trans (Deep.blk_alloc_lt _ _ _ hb))
  have hG4 : OwnC (((wr.alloc ob).alloc (.cells #[.int .i64 t.op, .int .i64 t.num, kv] 64)).alloc (.cells #[.int .i64 t.op, .int .i64 t.num, kv] 64)) lo (SF w S kv) (addL args t.kids cs).1 gv := hG.next (fun _ h _ => h) (fun b _ hb => hkeep _ _ b hb) (fun b _ hb => hkeep _ _ b hb)
  obtain ⟨blk, hb1, hb2, hb3⟩ : ∃ blk, w.heap.size ≤ blk ∧ ¬ SF w S kv blk ∧ KRowS (((wr.alloc ob).alloc (.cells #[.int .i64 t.op, .int .i64 t.num, kv] 64)).alloc (.cells #[.int .i64 t.op, .int .i64 t.num, kv] 64)) (fun b => b = blk) ((addL args t.kids cs).2.map fun (a : Nat) => (a : Int)) blk kv := by
    obtain ⟨blk, h1, h2⟩ := stk_krow (((hK.alloc ob).alloc (.cells #[.int .i64 t.op, .int .i64 t.num, kv] 64)).alloc (.cells #[.int .i64 t.op, .int .i64 t.num, kv] 64))
    by_cases he : (addL args t.kids cs).2 = []
    · refine ⟨w.heap.size, Nat.le_refl _, fun h => by rcases h.1 with h | h <;> omega, ?_⟩
      obtain ⟨ad, cap, e, l1, l2, -⟩ := h2
      exact ⟨ad, cap, e, l1, l2, Or.inl (by rw [he]; rfl)⟩
    · exact ⟨blk, by have := (own_some hK blk (h1 he)).1; omega, fun h => h.2 (h1 he).symm, h2⟩
  have hx4 := own_keep hx (w' := ((wr.alloc ob).alloc (.cells #[.int .i64 t.op, .int .i64 t.num, kv] 64)).alloc (.cells #[.int .i64 t.op, .int .i64 t.num, kv] 64)) (fun b _ hb => hkeep _ _ b hb)
  have hst := hG4.step (c := ⟨t.op, t.num, (addL args t.kids cs).2.map fun (a : Nat) => (a : Int)⟩) (v' := v') ⟨ho, hn⟩ hb3 hb2 xs hx4 hown hg
  have hAg : some A ≠ gv.ownBlock := cells_ne_arena h.arena hx
  have hA5 : w5.heap[A]? = some (.cells #[gv] 72) := ((hg.block A (by rw [hz]; omega) hAg).trans (hkeep _ _ A (by omega))).trans h.arena
  have hAv : some A ≠ v'.ownBlock := cells_ne_arena hA5 hown
  rw [addT_other cs h1]
  refine ⟨v', rfl, hst.next2 (fun b hb _ => ?_) (fun b e hb => Below.heap_setCell _ _ _ _ (fun e2 => hAv (by have e3 : b = A := e2; rw [← e3]; exact e))) (fun b C hS hb hC => Below.heap_setCell _ _ _ _ (fun e2 => ?_)), ?_, ⟨?_, ?_, ?_, ?_, ?_⟩, ?_⟩
  · rcases hb with hb | rfl
    · rcases hb.1 with hb | hb
      · exact Or.inl hb.1
      · exact Or.inr (by omega)
    · exact Or.inr hb1
  · have e3 : b = A := e2
    subst e3
    rw [hA5] at hC
    simp at hC
  · simp [World.setCell, Array.getElem?_modify, hA5]
  · show w5.os = w.os
    rw [hg.os]; exact h.kept.os
  · show w5.tape = w.tape
    rw [hg.tape]; exact h.kept.tape
  · show w5.output = w.output
    rw [hg.output]; exact h.kept.output
  · rw [size_setCell]; omega
  · intro b hb hn hne
    rw [Below.heap_setCell _ _ _ _ hne, hg.block b (by rw [hz]; omega) (fun e => by rcases h.gown _ e with e | e; exact hn e; omega), hkeep _ _ b (by omega)]
    exact h.kept.block b hb hn hne
  · rcases hw with e | ⟨g, e, hg⟩
    · rw [e]
      rcases h.own with e | ⟨g, e, hg⟩
      · exact Or.inl e
      · exact Or.inr ⟨g, e, by omega⟩
    · exact Or.inr ⟨g, e, by omega⟩

theorem own_not {w : World} {lo n b : Nat} {v : Value} {xs : List Value} {C : Array Value} {T : TypeId} (hx : w.ownsRow lo 64 3 v n xs) (hb : w.heap[b]? = some (.cells C T)) (hT : ¬ 64 = T) : some b ≠ v.ownBlock := by
  intro e
  rcases hx.2 with ⟨rfl, -⟩ | ⟨g, cap, cur, rfl, -, hh, -⟩
  · simp [Value.ownBlock] at e
  · simp only [Value.ownBlock, Option.some.injEq] at e
    subst e
    rw [hh] at hb
    simp at hb
    exact hT hb.2
theorem fd_stk {args : List Nat} {t : Tr} {cs : List Ce} {lo A : Nat} {S : Nat → Prop} {gv0 ebox : Value} {w : World} {k : Nat} {gv kv : Value} {wr : World} (h : FdRel args t cs lo S A gv0 ebox w k gv kv wr) (hA : A < w.heap.size) (o1 : Obj) {w2 : World} (hgr : Kept (wr.alloc o1) w2 A gv.ownBlock) : Stk w2 (w.heap.size + 1) (addL args (t.kids.take k) cs).2 kv := by
  obtain ⟨ys, hy⟩ := h.graph.row
  refine ⟨h.kids.1, ?_⟩
  rcases h.kids.2 with h' | ⟨g, cap, cur, rfl, hg, hh, r⟩
  · exact Or.inl h'
  · have hl := (Array.getElem?_eq_some_iff.1 hh).1
    exact Or.inr ⟨g, cap, cur, rfl, hg, ((hgr.block g (by rw [Deep.nblk_alloc]; omega) (fun e => own_ne hy h.kids g e rfl) (by omega)).trans (Deep.blk_alloc_lt _ _ _ hl)).trans hh, r⟩
/-- the closure, at a variable -/
def CloVar (a : Nat) (w : World) (e : Ending) (w' : World) : Prop := e = .returned (.int .i64 (a : Int)) ∧ Below w.heap.size w w'
set_option maxRecDepth 100000 in
set_option maxHeartbeats 1600000 in
theorem clo_var (args : List Nat) (n xb ab lo : Nat) (c kv av : Value) (w : World) (hn : n < args.length) (hxb : w.heap[xb]? = some (.cells #[av] 26)) (ha : IntsOn w (Lt lo) (args.map fun (a : Nat) => (a : Int)) av) (hal : args.length ≤ 1048576) :
    Calls Try.prog 63 #[.agg #[.int .i64 1, .int .i64 (n : Int), c], kv, .pointer (some ⟨xb, 0, none⟩), .pointer (some ⟨ab, 0, none⟩)] w (CloVar args[n] w) := by
  obtain ⟨ada, capa, rfl, hl2, hm2, -⟩ := id ha
  unfold maxLen at hm2
  obtain ⟨bl, off, rfl, hbl, d0⟩ := IntsOn.atS ha n (by simpa using hn)
  simp only [List.getElem_map] at d0
  have d1 := old_cell d0 (.cells #[.int .i64 1, .int .i64 (n : Int), c] 35)
  have p0 := old_cell (cell_of_blk hxb 0 _ rfl) (.cells #[.int .i64 1, .int .i64 (n : Int), c] 35)
  rw [List.length_map] at *
  clear hxb ha hbl d0
  go_enter Try.func63, Try.ntmps63
  go_wp2_with fail
  go_ret
  exact ⟨rfl, box_below _ _⟩
theorem fd_var {args : List Nat} {t : Tr} {cs : List Ce} {lo A : Nat} {S : Nat → Prop} {gv0 ebox : Value} {w : World} {gv kv : Value} {wr : World} (h : FdRel args t cs lo S A gv0 ebox w t.kids.length gv kv wr) (h1 : t.op = 1) (hk : t.kids = []) {n : Nat} (hnn : t.num = n) (hn : n < args.length) {e : Ending} {w' : World} (hr : CloVar args[n] wr e w') : FdRes (addT args t cs) lo S gv0 A w e w' := by
  obtain ⟨rfl, hb⟩ := hr
  have hs := h.size
  have hG := h.graph
  rw [List.take_length, hk] at hG
  simp only [addL] at hG
  rw [addT_var cs h1, hnn]
  have e1 : args.getD (n : Int).toNat 0 = args[n] := by simp [hn]
  rw [e1]
  have hAl := (Array.getElem?_eq_some_iff.1 h.arena).1
  refine ⟨gv, rfl, hG.next (fun b hb _ => ?_) (fun b _ hb' => hb.block b hb') (fun b _ hb' => hb.block b hb'), (hb.block A hAl).trans h.arena, ⟨hb.os.trans h.kept.os, hb.tape.trans h.kept.tape, hb.output.trans h.kept.output, by have := hb.size; omega, fun b hb' hn' hne => (hb.block b (by omega)).trans (h.kept.block b hb' hn' hne)⟩, ?_⟩
  · rcases hb.1 with hb | hb
    · exact Or.inl hb.1
    · exact Or.inr (by omega)
  · rcases h.own with e | ⟨g, e, hg⟩
    · exact Or.inl e
    · exact Or.inr ⟨g, e, by omega⟩

set_option maxRecDepth 100000 in
set_option maxHeartbeats 1600000 in
theorem fd_step (args : List Nat) (av : Value) (t : Tr) (ih : ∀ i (hi : i < t.kids.length), FdSaid args av (t.kids[i])) : FdSaid args av t := by
  intro gv c lo A xb ab S cs w hg hA hxb hab hlo hlA ha hk hz hal ho hn hp
  have HI : Hid (∀ i (hi : i < t.kids.length), FdSaid args av (t.kids[i])) := ih
  have HG : Hid (OwnC w lo S cs gv) := hg
  have HA : Hid (IntsOn w (Lt lo) (args.map fun (a : Nat) => (a : Int)) av) := ha
  have HK : Hid (KidsOn w (Lt lo) t.kids c) := hk
  have HT : Hid (I64 t.op ∧ I64 t.num) := ⟨ho, hn⟩
  have HPT : Hid (AllT (VarOk args.length) t) := hp
  have HG0 : Hid (∀ b, gv.ownBlock = some b → b < w.heap.size) := fun b hb => by obtain ⟨ys, hy⟩ := hg.row; exact (own_some hy b hb).2
  have HBX : Hid (w.heap[A]? = some (.cells #[gv] 72) ∧ w.heap[xb]? = some (.cells #[av] 26) ∧ w.heap[ab]? = some (.cells #[.pointer (some ⟨A, 0, none⟩)] 68)) := ⟨hA, hxb, hab⟩
  have hAl : A < w.heap.size := (Array.getElem?_eq_some_iff.1 hA).1
  have HGO : Hid (∀ b, some b = gv.ownBlock → lo ≤ b) := fun b hb => by obtain ⟨ys, hy⟩ := hg.row; exact (own_some hy b hb.symm).1
  have HXB : Hid (xb < w.heap.size ∧ some xb ≠ gv.ownBlock ∧ xb ≠ A) := by
    obtain ⟨ys, hy⟩ := hg.row
    refine ⟨(Array.getElem?_eq_some_iff.1 hxb).1, own_not hy hxb (by decide), fun e => ?_⟩
    rw [e, hA] at hxb
    simp at hxb
  have HAB : Hid (ab < w.heap.size ∧ some ab ≠ gv.ownBlock ∧ ab ≠ A) := by
    obtain ⟨ys, hy⟩ := hg.row
    refine ⟨(Array.getElem?_eq_some_iff.1 hab).1, own_not hy hab (by decide), fun e => ?_⟩
    rw [e, hA] at hab
    simp at hab
  obtain ⟨ad, cap, rfl, hl, hm, -⟩ := hk
  unfold maxLen at hm
  clear ih hg ho hn hp hA hxb hab ha
  go_enter Try.func62, Try.ntmps62
  obtain ⟨wC, hwC⟩ : ∃ wC : World, wC = w.alloc (.cells #[.int .i64 t.op, .int .i64 t.num, .slice ad t.kids.length cap] 35) := ⟨_, rfl⟩
  have HWC : Hid (wC = w.alloc (.cells #[.int .i64 t.op, .int .i64 t.num, .slice ad t.kids.length cap] 35)) := hwC
  have HST : Hid (FdRel args t cs lo S A gv (.slice ad t.kids.length cap) w 0 gv (.slice none 0 0) wC) := by
    have hz2 : wC.heap.size = w.heap.size + 1 := by rw [hwC, Deep.nblk_alloc]
    have hbl : ∀ b, b < w.heap.size → wC.heap[b]? = w.heap[b]? := fun b hb => by rw [hwC, Deep.blk_alloc_lt _ _ _ hb]
    refine ⟨?_, (hbl A hAl).trans HBX.out.1, ?_, by rw [hwC]; exact Deep.blk_alloc_new _ _, ⟨by rw [hwC]; rfl, by rw [hwC]; rfl, by rw [hwC]; rfl, by omega, fun b hb _ _ => hbl b hb⟩, by omega, Or.inl rfl⟩
    · simp only [List.take_zero, addL]
      exact HG.out.next (fun b hb hb2 => ⟨Or.inl ⟨hb, hb2⟩, by simp [Value.ownBlock]⟩) (fun b _ hb => hbl b hb) (fun b _ hb => hbl b hb)
    · simp only [List.take_zero, addL]
      exact World.ownsRow_nil _ _ _ _
  clear hwC
  go_wp2_with fail
  rw [← HWC.out]
  go_loopw [5, 11] (fun kv i wr => ∃ (k : Nat) (gvk : Value), k ≤ t.kids.length ∧ i = .int .i64 k ∧ FdRel args t cs lo S A gv (.slice ad t.kids.length cap) w k gvk kv wr) (fun _ i _ => t.kids.length - (intOf i).toNat)
  case atStart => exact ⟨0, _, Nat.zero_le _, rfl, HST.out⟩
  case round =>
    obtain ⟨k, gvk, hk, rfl, hrd⟩ := hrel
    have HRD : Hid (FdRel args t cs lo S A gv (.slice ad t.kids.length cap) w k gvk u5 wr) := hrd
    have hsz := hrd.size
    have HOLD : Hid (∀ b, Lt lo b → wr.heap[b]? = w.heap[b]?) := fun b hb => hrd.kept.block b (Nat.lt_of_lt_of_le hb hlo) (fun e => by have := HGO.out b e; have h2 : b < lo := hb; omega) (fun e => by have h2 : b < lo := hb; omega)
    obtain ⟨adq, capq, rfl⟩ := hrd.kids.len
    have HX2 : Hid (wr.heap[xb]? = some (.cells #[av] 26)) := (hrd.kept.block xb HXB.out.1 HXB.out.2.1 HXB.out.2.2).trans HBX.out.2.1
    have HA2 : Hid (wr.heap[ab]? = some (.cells #[.pointer (some ⟨A, 0, none⟩)] 68)) := (hrd.kept.block ab HAB.out.1 HAB.out.2.1 HAB.out.2.2).trans HBX.out.2.2
    by_cases hlt : k < t.kids.length
    · have hkk := HK.out.mono (fun _ h => h) HOLD.out
      obtain ⟨adx, capx, hxe, -, -, hr⟩ := hkk
      cases hxe
      rcases hr with hnil | ⟨bl, off, rfl, hbl, hr⟩
      · rw [hnil] at hlt; simp at hlt
      obtain ⟨p, q, r, e0, e1, e2, ht⟩ := RowOn.at t.kids off k hlt hr
      obtain ⟨rfl, rfl, io, iN, hkc⟩ := trOn_iff.1 ht
      obtain ⟨adk, capk, rfl, -, -, -⟩ := id hkc
      have HKC : Hid (KidsOn wr (Lt lo) (t.kids[k]).kids (.slice adk (t.kids[k]).kids.length capk)) := hkc
      have HIO : Hid (I64 (t.kids[k]).op ∧ I64 (t.kids[k]).num) := ⟨io, iN⟩
      have HSZ : Hid (szL (t.kids.take k) + 1 + szT t.kids[k] ≤ szT t) := by
        have h1 := szL_take_succ t.kids k hlt
        have h2 := szL_take_le t.kids (k + 1)
        rw [Hid, szT_eq t]; omega
      have HSL := addL_size args (t.kids.take k) cs
      have hal1 : ∀ b, b < wr.heap.size → (wr.alloc (.cells #[.int .i64 t.kids[k].op, .int .i64 t.kids[k].num, .slice adk (t.kids[k]).kids.length capk] 35)).heap[b]? = wr.heap[b]? := fun b hb => Deep.blk_alloc_lt _ _ _ hb
      have hc1 : FdSaid args av t.kids[k] := HI.out k hlt
      have hc2 : OwnC (wr.alloc (.cells #[.int .i64 t.kids[k].op, .int .i64 t.kids[k].num, .slice adk (t.kids[k]).kids.length capk] 35)) lo (SF w S (.slice adq (addL args (t.kids.take k) cs).2.length capq)) (addL args (t.kids.take k) cs).1 gvk := HRD.out.graph.next (fun _ h _ => h) (fun b _ hb => hal1 b hb) (fun b _ hb => hal1 b hb)
      have hc3 : IntsOn (wr.alloc (.cells #[.int .i64 t.kids[k].op, .int .i64 t.kids[k].num, .slice adk (t.kids[k]).kids.length capk] 35)) (Lt lo) (args.map fun (a : Nat) => (a : Int)) av := HA.out.mono (fun _ h => h) (fun b hb => (hal1 b (by have h2 : b < lo := hb; omega)).trans (HOLD.out b hb))
      have hc4 : (addL args (t.kids.take k) cs).1.length + szT t.kids[k] ≤ 500000 := by have := HSZ.out; have := HSL.2.1; omega
      have hc5 : KidsOn (wr.alloc (.cells #[.int .i64 t.kids[k].op, .int .i64 t.kids[k].num, .slice adk (t.kids[k]).kids.length capk] 35)) (Lt lo) (t.kids[k]).kids (.slice adk (t.kids[k]).kids.length capk) := HKC.out.mono (fun _ h => h) (fun b hb => hal1 b (by have h2 : b < lo := hb; omega))
      have hc6 : lo ≤ (wr.alloc (.cells #[.int .i64 t.kids[k].op, .int .i64 t.kids[k].num, .slice adk (t.kids[k]).kids.length capk] 35)).heap.size := by rw [Deep.nblk_alloc]; omega
      have HCALL := hc1 gvk _ lo A xb ab _ _ _ hc2 ((hal1 A (by omega)).trans HRD.out.arena) ((hal1 xb (by have := HXB.out.1; omega)).trans HX2.out) ((hal1 ab (by have := HAB.out.1; omega)).trans HA2.out) hc6 hlA hc3 hc5 hc4 hal HIO.out.1 HIO.out.2 (HPT.out.kid k hlt)
      have HCALL := mkHid HCALL
      clear hc1 hc2 hc3 hc4 hc5 hc6
      go_wp2_with fail
      refine HCALL.out.mono ?_
      rintro e w2 ⟨gv', rfl, hg2, hA2, hgr2, how2⟩
      obtain ⟨nk, hnk⟩ : ∃ nk, nk = (addT args t.kids[k] (addL args (t.kids.take k) cs).1).2 := ⟨_, rfl⟩
      have HNK : Hid (nk = (addT args t.kids[k] (addL args (t.kids.take k) cs).1).2) := hnk
      have HG2 : Hid (OwnC w2 lo (fun b => SF w S (.slice adq (addL args (t.kids.take k) cs).2.length capq) b ∨ (wr.alloc (.cells #[.int .i64 t.kids[k].op, .int .i64 t.kids[k].num, .slice adk (t.kids[k]).kids.length capk] 35)).heap.size ≤ b) (addT args t.kids[k] (addL args (t.kids.take k) cs).1).1 gv') := hg2
      have HGR2 : Hid (Kept (wr.alloc (.cells #[.int .i64 t.kids[k].op, .int .i64 t.kids[k].num, .slice adk (t.kids[k]).kids.length capk] 35)) w2 A gvk.ownBlock) := hgr2
      have HAA2 : Hid (w2.heap[A]? = some (.cells #[gv'] 72)) := hA2
      have HOW2 : Hid (gv'.ownBlock = gvk.ownBlock ∨ ∃ g, gv'.ownBlock = some g ∧ (wr.alloc (.cells #[.int .i64 t.kids[k].op, .int .i64 t.kids[k].num, .slice adk (t.kids[k]).kids.length capk] 35)).heap.size ≤ g) := how2
      have HST2 : Hid (Stk (w2.alloc (.cells #[.int .i64 (nk : Int)] 3)) (w.heap.size + 1) (addL args (t.kids.take k) cs).2 (.slice adq (addL args (t.kids.take k) cs).2.length capq)) := (fd_stk HRD.out hAl _ hgr2).alloc _
      have HZ2 : Hid (w.heap.size + 1 ≤ w2.heap.size) := by have := hgr2.size; rw [Deep.nblk_alloc] at this; rw [Hid]; omega
      have HNB : Hid ((addL args (t.kids.take k) cs).2.length = k) := by rw [Hid, addL_length, List.length_take]; omega
      obtain ⟨iI, zI, hII⟩ := infoI1
      have HII : Hid (Try.prog.info? 3 = some iI ∧ iI.zero = some zI ∧ iI.size = 1 ∧ iI.bytes = 8 ∧ zI.cells.size = 1) := hII
      have hkm : k < 1048576 := by
        have h := HSZ.out
        rw [szL_sum, List.length_take] at h
        omega
      rw [← hnk]
      clear hII hg2 hgr2 how2 hA2 hnk hal1
      go_wp2_with (at_builtin; go_must (refine wpList_append_where _ rfl _ _ 26 rfl (w.heap.size + 1) 3 iI zI 1 8 Try.underlying26 HII.out.1 HII.out.2.1 HII.out.2.2.1 HII.out.2.2.2.1 HII.out.2.2.2.2 (by decide) (.slice adq (addL args (t.kids.take k) cs).2.length capq) (addL args (t.kids.take k) cs).2.length (plV (addL args (t.kids.take k) cs).2) rfl HST2.out ⟨w2.heap.size, 0, none⟩ 1 1 [.int .i64 (nk : Int)] rfl rfl (news1 w2 _) (by simp [Value.oneCell']) (by rw [HNB.out]; unfold maxLen; omega) (by rw [HNB.out]; omega) (by rw [Deep.nblk_alloc]; have := HZ2.out; omega) (by omega) ?_); go_must (intro v' w5 hown hgr5 hw5); go_must (have HST5 : Hid (Stk w5 (w.heap.size + 1) ((addL args (t.kids.take k) cs).2 ++ [nk]) v') := stk_snoc hown); go_must (have HGR5 : Hid ((w2.alloc (.cells #[.int .i64 (nk : Int)] 3)).grownBy w5 (Value.slice adq (addL args (t.kids.take k) cs).2.length capq).ownBlock) := hgr5); go_must (have HW5 : Hid (v'.ownBlock = (Value.slice adq (addL args (t.kids.take k) cs).2.length capq).ownBlock ∨ ∃ g, v'.ownBlock = some g ∧ (w2.alloc (.cells #[.int .i64 (nk : Int)] 3)).heap.size ≤ g) := hw5); clear hown hgr5 hw5)
      go_roundw
      case rel => exact ⟨k + 1, gv', by omega, by go_num, fd_push HRD.out hlt HG0.out hAl _ HG2.out HAA2.out HGR2.out HOW2.out _ (by rw [← HNK.out]; exact HST5.out) HGR5.out HW5.out⟩
      case measure => simp [intOf]; omega
    · have hke : k = t.kids.length := by omega
      subst hke
      have heb := hrd.ebx
      have o0 := cell_of_blk heb 0 _ rfl
      have o1 := cell_of_blk heb 1 _ rfl
      have o2 := cell_of_blk heb 2 _ rfl
      have htk : t.kids.take t.kids.length = t.kids := List.take_length
      have HRD2 : Hid (FdRel args t cs lo S A gv (.slice ad t.kids.length cap) w t.kids.length gvk (.slice adq (addL args t.kids cs).2.length capq) wr) := by
        have h := HRD.out
        rw [htk] at h
        exact h
      rw [htk]
      clear heb hrd HRD
      by_cases h1 : t.op = 1
      · obtain ⟨p1, p2, p3⟩ := ((allT_iff _ t).1 HPT.out).1 h1
        obtain ⟨n, hnn⟩ : ∃ n : Nat, t.num = n := ⟨t.num.toNat, by omega⟩
        have hlt2 : n < args.length := by omega
        have hc := clo_var args n xb ab lo (.slice ad t.kids.length cap) (.slice adq (addL args t.kids cs).2.length capq) av wr hlt2 HX2.out (HA.out.mono (fun _ h => h) HOLD.out) hal
        rw [← hnn, ← h1] at hc
        have HCALL := mkHid hc
        have HFV : Hid (∀ e w', CloVar args[n] wr e w' → FdRes (addT args t cs) lo S gv A w e w') := fun e w' h => fd_var HRD2.out h1 p3 hnn hlt2 h
        clear hc h1 p1 p2 p3 hnn
        go_wp2_with fail
        refine HCALL.out.mono ?_
        intro e w' hr
        have HR := HFV.out e w' hr
        obtain ⟨rfl, -⟩ := hr
        have HR := mkHid HR
        go_wp2_with fail
        go_ret
        exact HR.out
      · obtain ⟨xs, hx⟩ := HRD2.out.graph.row
        rw [htk] at hx
        have hgl : (addL args t.kids cs).1.length ≤ 500000 := by
          have h := (addL_size args t.kids cs).2.1
          rw [szT_eq t] at hz
          omega
        have hc := clo_add A lo (addL args t.kids cs).1.length xb ab t.op t.num (.slice ad t.kids.length cap) gvk adq (addL args t.kids cs).2.length capq xs wr h1 HRD2.out.arena HA2.out hx (by omega) hgl
        have HCALL := mkHid hc
        have HFV : Hid (∀ e w', CloRes A lo (addL args t.kids cs).1.length t.op t.num gvk (.slice adq (addL args t.kids cs).2.length capq) xs wr e w' → FdRes (addT args t cs) lo S gv A w e w') := fun e w' h => fd_end HRD2.out h1 HG0.out hAl HT.out.1 HT.out.2 hx h
        clear hc hx htk
        go_wp2_with fail
        refine HCALL.out.mono ?_
        intro e w' hr
        have HR := HFV.out e w' hr
        obtain ⟨ob, v', w5, rfl, -⟩ := hr
        have HR := mkHid HR
        go_wp2_with fail
        go_ret
        exact HR.out
theorem fd_calls (args : List Nat) (av : Value) : ∀ t : Tr, FdSaid args av t
  | .node op n ks => fd_step args av (.node op n ks) fun i hi => fd_calls args av _
termination_by t => szT t
decreasing_by
  simp only [szT, Tr.kids_node] at *
  exact szT_lt_szL ks i hi
end Go.Proofs.Ythlblgibgfledaa
/-
  THE PROGRAM's addExpr in an arena, and arenaOf at no graph.
-/
namespace Go.Proofs.Ythlblgibgfledaa
set_option linter.unusedVariables false
set_option linter.unusedSimpArgs false
open Go.RowKit

theorem OwnC.down {w : World} {lo lo' : Nat} {S S' : Nat → Prop} {g : List Ce} {v : Value} (h : OwnC w lo S g v) (hl : lo' ≤ lo) (hS : ∀ k, S k → S' k) : OwnC w lo' S' g v := by
  obtain ⟨hi0, xs, kb, h1, h2, h3⟩ := h.next (S' := S') (fun k hk _ => hS k hk) (fun _ _ _ => rfl) (fun _ _ _ => rfl)
  refine ⟨hi0, xs, kb, ⟨h1.1, ?_⟩, h2, h3⟩
  rcases h1.2 with h | ⟨b, cap, cur, rfl, hg, r⟩
  · exact Or.inl h
  · exact Or.inr ⟨b, cap, cur, rfl, Nat.le_trans hl hg, r⟩
theorem fdRes_down {r : List Ce × Nat} {lo A : Nat} {S : Nat → Prop} {gv : Value} {w W : World} {e : Ending} {w' : World} (h : FdRes r lo S gv A W e w') (hb : Below w.heap.size w W) : FdRes r lo S gv A w e w' := by
  obtain ⟨gv', h1, h2, h3, h4, h5⟩ := h
  have hs := hb.size
  refine ⟨gv', h1, h2.next (fun b hb _ => hb.imp id fun h => by omega) (fun _ _ _ => rfl) (fun _ _ _ => rfl), h3, ⟨h4.os.trans hb.os, h4.tape.trans hb.tape, h4.output.trans hb.output, Nat.le_trans hs h4.size, fun k hk hn hne => (h4.block k (by omega) hn hne).trans (hb.block k hk)⟩, ?_⟩
  rcases h5 with e | ⟨g, e, hg⟩
  · exact Or.inl e
  · exact Or.inr ⟨g, e, by omega⟩

set_option maxRecDepth 100000 in
set_option maxHeartbeats 1600000 in
theorem ax_calls (args : List Nat) (t : Tr) (gv c : Value) (ada : Option Addr) (na ca : Nat) (lo A : Nat) (S : Nat → Prop) (cs : List Ce) (w : World) (hg : OwnC w lo S cs gv) (hA : w.heap[A]? = some (.cells #[gv] 72))
    (hlo : lo ≤ w.heap.size) (hlA : lo ≤ A) (ha : IntsOn w (Lt lo) (args.map fun (a : Nat) => (a : Int)) (.slice ada na ca)) (hk : KidsOn w (Lt lo) t.kids c) (hz : cs.length + szT t ≤ 500000) (hal : args.length ≤ 1048576) (ho : I64 t.op) (hn : I64 t.num) (hp : AllT (VarOk args.length) t) :
    Calls Try.prog 40 #[.pointer (some ⟨A, 0, none⟩), .agg #[.int .i64 t.op, .int .i64 t.num, c], .slice ada na ca] w (FdRes (addT args t cs) lo S gv A w) := by
  have hAl : A < w.heap.size := (Array.getElem?_eq_some_iff.1 hA).1
  have hkeep : ∀ o1 o2 o3 b, b < w.heap.size → (((w.alloc o1).alloc o2).alloc o3).heap[b]? = w.heap[b]? := fun o1 o2 o3 b hb => (Deep.blk_alloc_lt _ _ _ (by rw [Deep.nblk_alloc, Deep.nblk_alloc]; omega)).trans ((Deep.blk_alloc_lt _ _ _ (by rw [Deep.nblk_alloc]; omega)).trans (Deep.blk_alloc_lt _ _ _ hb))
  have hbw : Below w.heap.size w (((w.alloc (.cells #[.pointer (some ⟨A, 0, none⟩)] 68)).alloc (.cells #[.int .i64 t.op, .int .i64 t.num, c] 35)).alloc (.cells #[.slice ada na ca] 26)) := (((box_below w _).alloc (by rw [Deep.nblk_alloc]; omega) _).alloc (by rw [Deep.nblk_alloc, Deep.nblk_alloc]; omega) _)
  have hc := fd_calls args (.slice ada na ca) t gv c lo A (w.heap.size + 1 + 1) w.heap.size S cs (((w.alloc (.cells #[.pointer (some ⟨A, 0, none⟩)] 68)).alloc (.cells #[.int .i64 t.op, .int .i64 t.num, c] 35)).alloc (.cells #[.slice ada na ca] 26))
    (hg.next (fun _ h _ => h) (fun b _ hb => hkeep _ _ _ b hb) (fun b _ hb => hkeep _ _ _ b hb)) ((hkeep _ _ _ A hAl).trans hA)
    (by have h := Deep.blk_alloc_new ((w.alloc (.cells #[.pointer (some ⟨A, 0, none⟩)] 68)).alloc (.cells #[.int .i64 t.op, .int .i64 t.num, c] 35)) (.cells #[.slice ada na ca] 26); rw [Deep.nblk_alloc, Deep.nblk_alloc] at h; exact h)
    ((Deep.blk_alloc_lt _ _ _ (by rw [Deep.nblk_alloc, Deep.nblk_alloc]; omega)).trans ((Deep.blk_alloc_lt _ _ _ (by rw [Deep.nblk_alloc]; omega)).trans (Deep.blk_alloc_new _ _)))
    (by rw [Deep.nblk_alloc, Deep.nblk_alloc, Deep.nblk_alloc]; omega) hlA (ha.mono (fun _ h => h) (fun b hb => hkeep _ _ _ b (by have h2 : b < lo := hb; omega))) (hk.mono (fun _ h => h) (fun b hb => hkeep _ _ _ b (by have h2 : b < lo := hb; omega))) hz hal ho hn hp
  have HC := mkHid (hc.mono fun e w' h => fdRes_down h hbw)
  clear hc hbw hkeep hg hA ha hk hp ho hn
  go_enter Try.func40, Try.ntmps40
  go_wp2_with fail
  refine HC.out.mono ?_
  intro e w' hr
  have HR := hr
  obtain ⟨gv', rfl, -⟩ := hr
  have HR := mkHid HR
  go_wp2_with fail
  go_ret
  exact HR.out

set_option maxRecDepth 100000 in
set_option maxHeartbeats 1600000 in
theorem arena0 (w : World) : Calls Try.prog 39 #[.slice none 0 0] w fun e w' => e = .returned (.pointer (some ⟨w.heap.size, 0, none⟩)) ∧ w' = w.alloc (.cells #[.slice none 0 0] 72) := by
  go_enter Try.func39, Try.ntmps39
  go_wp2_with fail
  go_loopw [10] (fun i wr => i = .int .i64 0 ∧ wr = w.alloc (.cells #[.slice none 0 0] 72)) (fun i _ => 0)
  case atStart => exact ⟨rfl, rfl⟩
  case round =>
    obtain ⟨rfl, rfl⟩ := hrel
    go_wp2_with fail
    go_ret
    exact ⟨rfl, rfl⟩

end Go.Proofs.Ythlblgibgfledaa
/-
  THE PROGRAM's arenaOf: a copy of a graph's cells.
-/
namespace Go.Proofs.Ythlblgibgfledaa
set_option linter.unusedVariables false
set_option linter.unusedSimpArgs false
open Go.RowKit

/-- what holds behind some cells -/
def ArRel (lo A : Nat) (w : World) (G : List Ce) (wr : World) : Prop := ∃ gv, OwnC wr lo (fun b => lo ≤ b) G gv ∧ wr.heap[A]? = some (.cells #[gv] 72) ∧ Below w.heap.size w wr
theorem arena_push {w wr w1 w' : World} {lo A : Nat} {G : List Ce} {gv kv : Value} {ws : List Nat} {o m : Int} {xs : List Value} {e : Ending} (h : OwnC wr lo (fun b => lo ≤ b) G gv) (hA : wr.heap[A]? = some (.cells #[gv] 72)) (hw : Below w.heap.size w wr) (hwl : w.heap.size ≤ lo) (hlo : lo ≤ wr.heap.size) (hlA : lo ≤ A) (hb : Below wr.heap.size wr w1) (hst : Stk w1 wr.heap.size ws kv)
    (hx : w1.ownsRow lo 64 3 gv G.length xs) (ho : I64 o) (hm : I64 m) (hr : Added A lo G.length o m gv kv xs w1 e w') : e = .returned (.int .i64 (G.length : Int)) ∧ ArRel lo A w (G ++ [⟨o, m, ws.map fun (a : Nat) => (a : Int)⟩]) w' := by
  obtain ⟨v', w5, rfl, hown, hg, hwv, rfl⟩ := hr
  have hAl : A < wr.heap.size := (Array.getElem?_eq_some_iff.1 hA).1
  have hs1 := hb.size
  have hp := copy_push h hlo (hb.alloc hs1 (.cells #[.int .i64 o, .int .i64 m, kv] 64)) (hst.alloc _) _ (own_keep (own_keep hx (fun k _ hk => Deep.blk_alloc_lt _ _ _ hk)) (fun k _ hk => Deep.blk_alloc_lt _ _ _ hk)) hown hg ho hm
  have hA1 : w1.heap[A]? = some (.cells #[gv] 72) := (hb.block A hAl).trans hA
  have hA5 : w5.heap[A]? = some (.cells #[gv] 72) := ar_keep hA1 hx hg
  have hAv : some A ≠ v'.ownBlock := cells_ne_arena hA5 hown
  have hs5 := hg.size
  rw [Deep.nblk_alloc, Deep.nblk_alloc] at hs5
  have hsw := hw.size
  refine ⟨rfl, v', hp.next2 (fun _ h _ => h) (fun b e hb => Below.heap_setCell _ _ _ _ (fun e2 => hAv (by have e3 : b = A := e2; rw [← e3]; exact e))) (fun b C hS hb hC => Below.heap_setCell _ _ _ _ (fun e2 => ?_)), ?_, ⟨?_, ?_, ?_, ?_, ?_⟩⟩
  · have e3 : b = A := e2
    subst e3
    rw [hA5] at hC
    simp at hC
  · simp [World.setCell, Array.getElem?_modify, hA5]
  · show w5.os = w.os
    exact (hg.os.trans hb.os).trans hw.os
  · show w5.tape = w.tape
    exact (hg.tape.trans hb.tape).trans hw.tape
  · show w5.output = w.output
    exact (hg.output.trans hb.output).trans hw.output
  · rw [size_setCell]; omega
  · intro k hk
    rw [Below.heap_setCell _ _ _ _ (by show k ≠ A; omega), hg.block k (by rw [Deep.nblk_alloc, Deep.nblk_alloc]; omega) (fun e => by have := (own_some hx k e.symm).1; omega), Deep.blk_alloc_lt _ _ _ (by rw [Deep.nblk_alloc]; omega), Deep.blk_alloc_lt _ _ _ (by omega), hb.block k (by omega)]
    exact hw.block k hk

theorem stk_down {w : World} {lo lo' : Nat} {ws : List Nat} {v : Value} (h : Stk w lo ws v) (hl : lo' ≤ lo) : Stk w lo' ws v := by
  refine ⟨h.1, ?_⟩
  rcases h.2 with h | ⟨g, cap, cur, rfl, hg, r⟩
  · exact Or.inl h
  · exact Or.inr ⟨g, cap, cur, rfl, Nat.le_trans hl hg, r⟩
theorem stk_len3 {w : World} {lo n : Nat} {ws : List Nat} {v : Value} (h : Stk w lo ws v) (hn : ws.length = n) : ∃ ad cap, v = .slice ad n cap := by
  obtain ⟨a, c, e⟩ := h.len
  exact ⟨a, c, by rw [e, hn]⟩
theorem added_keep {A lo n : Nat} {o m : Int} {gv kv : Value} {xs : List Value} {w : World} {e : Ending} {w' : World} (h : Added A lo n o m gv kv xs w e w') (b : Nat) (hb : b < w.heap.size) (hn : some b ≠ gv.ownBlock) (hA : b ≠ A) : w'.heap[b]? = w.heap[b]? := by
  obtain ⟨v', w5, rfl, -, hg, -, rfl⟩ := h
  rw [Below.heap_setCell _ _ _ _ hA, hg.block b (by rw [Deep.nblk_alloc, Deep.nblk_alloc]; omega) hn, Deep.blk_alloc_lt _ _ _ (by rw [Deep.nblk_alloc]; omega), Deep.blk_alloc_lt _ _ _ hb]
/-- the arena, at the caller's next block -/
def ArenaRes (g : List Ce) (w : World) (e : Ending) (w' : World) : Prop := e = .returned (.pointer (some ⟨w.heap.size, 0, none⟩)) ∧ ArRel w.heap.size w.heap.size w g w'
set_option maxRecDepth 100000 in
set_option maxHeartbeats 1600000 in
theorem arenaOf_calls (g : List Ce) (v : Value) (w : World) (hk : CIn w g v) (hg : ∃ defs, graphB g defs = true) : Calls Try.prog 39 #[v] w (ArenaRes g w) := by
  have HK : Hid (CIn w g v) := hk
  obtain ⟨defs, hg⟩ := hg
  have HG : Hid (graphB g defs = true) := hg
  obtain ⟨ad, cap, rfl, hl, hm, -⟩ := hk
  unfold maxLen at hm
  have h400 : g.length ≤ 400 := graphB_len hg
  clear hg
  have HST : Hid (ArRel w.heap.size w.heap.size w (g.take 0) (w.alloc (.cells #[.slice none 0 0] 72))) := ⟨_, OwnC.nil _ _ _, Deep.blk_alloc_new _ _, box_below _ _⟩
  go_enter Try.func39, Try.ntmps39
  go_wp2_with fail
  go_loopw [10] (fun i wr => ∃ k : Nat, k ≤ g.length ∧ i = .int .i64 k ∧ ArRel w.heap.size w.heap.size w (g.take k) wr) (fun i _ => g.length - (intOf i).toNat)
  case atStart => exact ⟨0, Nat.zero_le _, rfl, HST.out⟩
  case round =>
    obtain ⟨k, hk, rfl, hrel⟩ := hrel
    have HR : Hid (ArRel w.heap.size w.heap.size w (g.take k) wr) := hrel
    obtain ⟨gv, hog, hA, hb⟩ := hrel
    by_cases hlt : k < g.length
    · obtain ⟨bl, off, r2, rfl, c0w, c1w, c2w, io, iN, hkk⟩ := HK.out.at k hlt
      have HLW : Hid (bl < w.heap.size) := cell_lt c0w
      have c0 := (hb.cell (p := ⟨bl, off + k * 3, none⟩) HLW.out).trans c0w
      have c1 := (hb.cell (p := ⟨bl, off + k * 3 + 1, none⟩) HLW.out).trans c1w
      have c2 := (hb.cell (p := ⟨bl, off + k * 3 + 2, none⟩) HLW.out).trans c2w
      have HIO : Hid (I64 g[k].op ∧ I64 g[k].num) := ⟨io, iN⟩
      have HKK : Hid (IIn wr ((kidsN g k).map fun (a : Nat) => (a : Int)) r2) := by rw [← kids_back HG.out k hlt]; exact hkk.next hb
      have HK3 : Hid (g[k].kids.length ≤ 3) := (kids_graph HG.out k hlt).1
      have HKN : Hid ((kidsN g k).length = g[k].kids.length) := by rw [Hid, kidsN_at k hlt]; simp
      have HTL : Hid ((g.take k).length = k) := by rw [Hid, List.length_take]; omega
      obtain ⟨adk, capk, rfl, -, -, -⟩ := id hkk
      have HOG : Hid (OwnC wr w.heap.size (fun b => w.heap.size ≤ b) (g.take k) gv) := hog
      have HAA : Hid (wr.heap[w.heap.size]? = some (.cells #[gv] 72)) := hA
      have HB : Hid (Below w.heap.size w wr) := hb
      clear hkk io iN c0w c1w c2w hog hA hb
      obtain ⟨xs, hx⟩ := HOG.out.row
      have HX : Hid (wr.ownsRow w.heap.size 64 3 gv (g.take k).length xs) := hx
      have b0 := box_cell wr #[.int .i64 g[k].op, .int .i64 g[k].num, .slice adk g[k].kids.length capk] 64 0 _ rfl
      have b1 := box_cell wr #[.int .i64 g[k].op, .int .i64 g[k].num, .slice adk g[k].kids.length capk] 64 1 _ rfl
      have b2 := box_cell wr #[.int .i64 g[k].op, .int .i64 g[k].num, .slice adk g[k].kids.length capk] 64 2 _ rfl
      clear hx
      go_wp2_with fail
      go_region_held3 (fun w' => w'.cell? ⟨wr.heap.size, 0, none⟩ = some (.int .i64 g[k].op) ∧ w'.cell? ⟨wr.heap.size, 1, none⟩ = some (.int .i64 g[k].num) ∧ w'.cell? ⟨wr.heap.size, 2, none⟩ = some (.slice adk g[k].kids.length capk))
        (first
          | go_keep
          | exact ⟨e0, e1, e2⟩
          | exact ⟨d0, d1, d2⟩
          | exact ⟨b0, b1, b2⟩)
        (first
          | (go_at_call 61; refine (cloneI_calls (kidsN g k) _ ((wr.alloc (.cells #[.int .i64 g[k].op, .int .i64 g[k].num, .slice adk g[k].kids.length capk] 64)).drew) (HKK.out.next ((box_below wr _).drew)) (by rw [HKN.out]; have := HK3.out; omega)).mono ?_; rintro e w1 ⟨v1, rfl, hst1, hb1⟩; have HB1 : Hid (Below wr.heap.size wr w1) := ((box_below wr _).drew).trans (hb1.mono (by show wr.heap.size ≤ (wr.alloc _).heap.size; rw [Deep.nblk_alloc]; omega)); have HST1 : Hid (Stk w1 wr.heap.size (kidsN g k) v1) := stk_down hst1 (by show wr.heap.size ≤ (wr.alloc _).heap.size; rw [Deep.nblk_alloc]; omega); have hbx := (hb1.block wr.heap.size (by show wr.heap.size < (wr.alloc _).heap.size; rw [Deep.nblk_alloc]; omega)).trans (Deep.blk_alloc_new wr _); have HBX := mkHid hbx; have d0 := cell_of_blk hbx 0 _ rfl; have d1 := cell_of_blk hbx 1 _ rfl; have d2 := cell_of_blk hbx 2 _ rfl; obtain ⟨ad1, cap1, rfl⟩ := stk_len3 hst1 HKN.out; clear hst1 hb1 hbx)
          | (go_at_call 60; refine (add_calls w.heap.size w.heap.size (g.take k).length g[k].op g[k].num gv ad1 g[k].kids.length cap1 xs w1 ((HB1.out.block _ (cellsOf_lt HAA.out)).trans HAA.out) (own_keep HX.out (fun b _ hb => HB1.out.block b hb)) (Nat.le_trans HB.out.size HB1.out.size) (by rw [HTL.out]; omega)).mono ?_; rintro e w5 hr; have hk5 := added_keep hr wr.heap.size (cellsOf_lt HBX.out) (fun e => by have := (own_some HX.out _ e.symm).2; omega) (by have := cellsOf_lt HAA.out; omega); have hbx5 := hk5.trans HBX.out; have e0 := cell_of_blk hbx5 0 _ rfl; have e1 := cell_of_blk hbx5 1 _ rfl; have e2 := cell_of_blk hbx5 2 _ rfl; have hp := arena_push (w := w) (ws := kidsN g k) HOG.out HAA.out HB.out (Nat.le_refl _) HB.out.size (Nat.le_refl _) HB1.out HST1.out (own_keep HX.out (fun b _ hb => HB1.out.block b hb)) HIO.out.1 HIO.out.2 hr; obtain ⟨rfl, hrel5⟩ := hp; have HREL5 := mkHid hrel5; clear hr hk5 hbx5 hrel5))
      go_wp2_with fail
      go_roundw
      case rel =>
        refine ⟨k + 1, by omega, by go_num, ?_⟩
        have h := HREL5.out
        rw [← kids_back HG.out k hlt] at h
        rw [List.take_succ_eq_append_getElem hlt]
        exact h
      case measure => simp [intOf]; omega
    · have hke : k = g.length := by omega
      have HE : Hid (ArRel w.heap.size w.heap.size w g wr) := by
        have h := HR.out
        rw [hke, List.take_length] at h
        exact h
      clear hke hog hA hb
      go_wp2_with fail
      go_ret
      exact ⟨rfl, HE.out⟩
end Go.Proofs.Ythlblgibgfledaa
