/-
  THE MODEL's ExprValid (l1Kids, l1Own, l1Shape, l1Count, l1Is, ExprValid): which trees it takes for valid; nothing that was there is changed.
-/
import Derived.Test.YthknbafcnobgdaaMgExactDecompileCode5
import Derived.Test.YthknbafcnobgdaaMgExactDecompileCode3
import Derived.Test.YthknbafcnobgdaaMgExactDecompileCode2
namespace Go.Proofs.Ythknbafcnobgdaa
set_option linter.unusedVariables false
set_option linter.unusedSimpArgs false
open Go.RowKit

def ShSaid (vars defs : Int) (d : Nat) (t : Tr) : Prop := ∀ (c : Value) (w : World), In w t.kids c →
  Calls Try.prog 76 #[.agg #[.int .i64 t.op, .int .i64 t.num, c], .int .i64 vars, .int .i64 defs, .int .i64 (d : Int)] w fun e w' => e = .returned (.bool (shB vars defs d t)) ∧ Below w.heap.size w w'

set_option maxHeartbeats 400000 in
theorem sh_zero (vars defs : Int) (t : Tr) : ShSaid vars defs 0 t := by
  intro c w hk
  clear hk
  simp only [shB]
  have d1 : decide (((0 : Nat) : Int) < 1) = true := by decide
  go_enter Try.func76, Try.ntmps76
  go_wp2_with fail
  refine wp_region_quiet_below (by kernel_rfl) (by kernel_rfl) ?_
  repeat (any_goals (first | go_big_quiet_step (fail) | quiet_step (fail)))
  refine wpQuiet_nil ?_
  intro _ hw'
  obtain ⟨⟨dq, osq⟩, hw''⟩ := hw'
  subst hw''
  go_wp2_with fail
  go_ret
  exact ⟨rfl, (box_below _ _).trans ((below_regrown _ _ _).mono (by simp))⟩

set_option maxHeartbeats 400000 in
theorem sh_succ (vars defs : Int) (d : Nat) (t : Tr) (hd : d ≤ 16) (ih : ∀ i (hi : i < t.kids.length), ShSaid vars defs d (t.kids[i])) : ShSaid vars defs (d + 1) t := by
  intro c w hk
  have HI : Hid (∀ i (hi : i < t.kids.length), ShSaid vars defs d (t.kids[i])) := ih
  have HK : Hid (In w t.kids c) := hk
  clear ih
  obtain ⟨ad, cap, rfl, hl, hm, -⟩ := hk
  unfold maxLen at hm
  have d1 : decide ((d : Int) + 1 < 1) = false := by simp; omega
  by_cases hlen : (t.kids.length : Int) = arity t.op
  · have t1 : ((t.kids.length : Int) != arity t.op) = false := by simpa using hlen
    cases hown : ownB t.op t.num vars defs with
    | false =>
      have HV : Hid (shB vars defs (d + 1) t = false) := by simp [shB, hown, Hid]
      clear hlen
      push_cast
      go_enter Try.func76, Try.ntmps76
      go_wp2_with fail
      have k0 := cell_regrown (box_cell w #[.int .i64 t.op, .int .i64 t.num, .slice ad t.kids.length cap] 37 0 _ rfl)
      have k1 := cell_regrown (box_cell w #[.int .i64 t.op, .int .i64 t.num, .slice ad t.kids.length cap] 37 1 _ rfl)
      have k2 := cell_regrown (box_cell w #[.int .i64 t.op, .int .i64 t.num, .slice ad t.kids.length cap] 37 2 _ rfl)
      refine wp_region_quiet_below (by kernel_rfl) (by kernel_rfl) ?_
      repeat (any_goals (first | go_big_quiet_step (first | exact quietB (fun W _ => l1Kids_below _ W) _ _ | exact quietB (fun W _ => own_false _ _ _ _ _ W hown) _ _) | quiet_step (first | exact quietB (fun W _ => l1Kids_below _ W) _ _ | exact quietB (fun W _ => own_false _ _ _ _ _ W hown) _ _)))
      refine wpQuiet_nil ?_
      intro _ hw'
      obtain ⟨⟨dq, osq⟩, hw''⟩ := hw'
      subst hw''
      clear k0 k1 k2
      go_wp2_with fail
      go_ret
      exact ⟨ret_bool HV.out.symm, (box_below _ _).trans ((below_regrown _ _ _).mono (by simp))⟩
    | true =>
      have HL : Hid ((t.kids.length : Int) = arity t.op) := hlen
      have HO : Hid (ownB t.op t.num vars defs = true) := hown
      clear hlen
      push_cast
      go_enter Try.func76, Try.ntmps76
      go_wp2_with fail
      have k0 := cell_regrown (box_cell w #[.int .i64 t.op, .int .i64 t.num, .slice ad t.kids.length cap] 37 0 _ rfl)
      have k1 := cell_regrown (box_cell w #[.int .i64 t.op, .int .i64 t.num, .slice ad t.kids.length cap] 37 1 _ rfl)
      have k2 := cell_regrown (box_cell w #[.int .i64 t.op, .int .i64 t.num, .slice ad t.kids.length cap] 37 2 _ rfl)
      refine wp_region_quiet_below (by kernel_rfl) (by kernel_rfl) ?_
      repeat (any_goals (first | go_big_quiet_step (first | exact quietB (fun W _ => l1Kids_below _ W) _ _ | exact quietB (fun W _ => own_true _ _ _ _ _ W hown) _ _) | quiet_step (first | exact quietB (fun W _ => l1Kids_below _ W) _ _ | exact quietB (fun W _ => own_true _ _ _ _ _ W hown) _ _)))
      refine wpQuiet_nil ?_
      intro _ hw'
      obtain ⟨⟨dq, osq⟩, hw''⟩ := hw'
      subst hw''
      have c0 := k0 dq osq
      have c1 := k1 dq osq
      have c2 := k2 dq osq
      have hb0 : Below w.heap.size w (Sort.grow (redrawn (w.alloc (.cells #[.int .i64 t.op, .int .i64 t.num, .slice ad t.kids.length cap] 37)) dq) osq) := (box_below _ _).trans ((below_regrown _ _ _).mono (by simp))
      have hz0 : w.heap.size < (Sort.grow (redrawn (w.alloc (.cells #[.int .i64 t.op, .int .i64 t.num, .slice ad t.kids.length cap] 37)) dq) osq).heap.size := by have := (below_regrown (w.alloc (.cells #[.int .i64 t.op, .int .i64 t.num, .slice ad t.kids.length cap] 37)) dq osq).size; rw [Deep.nblk_alloc] at this; omega
      clear k0 k1 k2 hown t1
      generalize Sort.grow (redrawn (w.alloc (.cells #[.int .i64 t.op, .int .i64 t.num, .slice ad t.kids.length cap] 37)) dq) osq = wx at *
      go_wp2_with fail
      go_loopw [9] (fun i wr => ∃ k : Nat, k ≤ t.kids.length ∧ i = .int .i64 k ∧ (t.kids.take k).all (shB vars defs d) = true ∧ Below wx.heap.size wx wr) (fun i _ => t.kids.length - (intOf i).toNat)
      case atStart => exact ⟨0, Nat.zero_le _, rfl, by simp, Below.refl _ _⟩
      case round =>
        obtain ⟨k, hk, rfl, hall, hb⟩ := hrel
        have HA : Hid ((t.kids.take k).all (shB vars defs d) = true) := hall
        have HB : Hid (Below wx.heap.size wx wr) := hb
        have cr : wr.cell? ⟨w.heap.size, 2, none⟩ = some (.slice ad t.kids.length cap) := (hb.cell (p := ⟨w.heap.size, 2, none⟩) hz0).trans c2
        clear hall c0 c1 c2
        by_cases hlt : k < t.kids.length
        · have hrow' := (HK.out.next hb0).next hb
          have HB0 : Hid (Below w.heap.size w wx) := hb0
          clear hb0 hb
          obtain ⟨ad', cap', he, -, -, hr⟩ := hrow'
          cases he
          rcases hr with hnil | ⟨bl, off, rfl, -, hr⟩
          · rw [hnil] at hlt; simp at hlt
          obtain ⟨p, q, r, e0, e1, e2, ht⟩ := RowOn.at t.kids off k hlt hr
          obtain ⟨rfl, rfl, -, -, hkk⟩ := trOn_iff.1 ht
          have HKK : Hid (In wr t.kids[k].kids r) := hkk
          clear hkk ht hr
          have HB' : Hid (Below w.heap.size w wr) := Hid.out (p := Below w.heap.size w wr) (Below.trans HB0.out (HB.out.mono (Nat.le_of_lt hz0)))
          go_wp2_with fail
          refine (HI.out k hlt r _ HKK.out).mono ?_
          rintro e w1 ⟨rfl, hb1⟩
          have HB1 : Hid (Below wx.heap.size wx w1) := HB.out.trans (hb1.mono HB.out.size)
          have HB2 : Hid (Below w.heap.size w w1) := HB'.out.trans (hb1.mono HB'.out.size)
          clear hb1
          cases hs : shB vars defs d t.kids[k] with
          | false =>
            have HV : Hid (shB vars defs (d + 1) t = false) := by
              have := all_false_of (shB vars defs d) t.kids k hlt hs
              simp [Hid, shB, this]
            clear hs
            go_wp2_with fail
            go_ret
            exact ⟨ret_bool HV.out.symm, HB2.out⟩
          | true =>
            have HV : Hid ((t.kids.take (k + 1)).all (shB vars defs d) = true) := by
              rw [Hid, all_take_succ _ _ _ hlt, HA.out, hs]; rfl
            clear hs
            go_wp2_with fail
            go_roundw
            case rel => exact ⟨k + 1, by omega, by go_num, HV.out, HB1.out⟩
            case measure => simp [intOf]; omega
        · have hke : t.kids.length = k := by omega
          have HV : Hid (shB vars defs (d + 1) t = true) := by
            have e : t.kids.take k = t.kids := by rw [← hke]; exact List.take_length
            have := HA.out
            rw [e] at this
            simp [Hid, shB, HL.out, HO.out, this]
          have HB' : Hid (Below w.heap.size w wr) := hb0.trans (hb.mono (Nat.le_of_lt hz0))
          clear hke hb0 hb
          go_wp2_with fail
          go_ret
          exact ⟨ret_bool HV.out.symm, HB'.out⟩
  · have t1 : ((t.kids.length : Int) != arity t.op) = true := by simpa using hlen
    have HV : Hid (shB vars defs (d + 1) t = false) := by simp [shB, hlen, Hid]
    clear hlen
    push_cast
    go_enter Try.func76, Try.ntmps76
    go_wp2_with fail
    have k0 := cell_regrown (box_cell w #[.int .i64 t.op, .int .i64 t.num, .slice ad t.kids.length cap] 37 0 _ rfl)
    have k1 := cell_regrown (box_cell w #[.int .i64 t.op, .int .i64 t.num, .slice ad t.kids.length cap] 37 1 _ rfl)
    have k2 := cell_regrown (box_cell w #[.int .i64 t.op, .int .i64 t.num, .slice ad t.kids.length cap] 37 2 _ rfl)
    refine wp_region_quiet_below (by kernel_rfl) (by kernel_rfl) ?_
    repeat (any_goals (first | go_big_quiet_step (exact quietB (fun W _ => l1Kids_below _ W) _ _) | quiet_step (exact quietB (fun W _ => l1Kids_below _ W) _ _)))
    refine wpQuiet_nil ?_
    intro _ hw'
    obtain ⟨⟨dq, osq⟩, hw''⟩ := hw'
    subst hw''
    clear k0 k1 k2
    go_wp2_with fail
    go_ret
    exact ⟨ret_bool HV.out.symm, (box_below _ _).trans ((below_regrown _ _ _).mono (by simp))⟩

theorem sh_any (vars defs : Int) : ∀ (d : Nat) (t : Tr), d ≤ 17 → ShSaid vars defs d t := by
  intro d
  induction d with
  | zero => intro t _; exact sh_zero vars defs t
  | succ d ih => intro t h; exact sh_succ vars defs d t (by omega) fun i hi => ih _ (by omega)

/-! ### The count of nodes -/

/-- what l1Count answers: the number of nodes, or one more than the bound -/
def cntOut (t : Tr) (most : Int) : Int := if 1 + (szT t : Int) ≤ most then 1 + szT t else most + 1

/-- the count behind the first k operands -/
def cntAt (t : Tr) (most : Int) (k : Nat) : Int := if 1 + (szL (t.kids.take k) : Int) ≤ most then 1 + szL (t.kids.take k) else most + 1

theorem cntAt_zero (t : Tr) (most : Int) (h : 0 ≤ most) : cntAt t most 0 = 1 := by
  unfold cntAt; simp [szL]; omega
theorem cntAt_step (t : Tr) (most : Int) (k : Nat) (hk : k < t.kids.length) (h : cntAt t most k ≤ most) : cntAt t most k + cntOut t.kids[k] (most - cntAt t most k) = cntAt t most (k + 1) := by
  have e := szL_take_succ t.kids k hk
  unfold cntAt at h ⊢
  unfold cntOut
  rw [e]
  split at h
  · rename_i h1
    rw [if_pos h1]
    split
    · rw [if_pos (by omega)]; omega
    · rw [if_neg (by omega)]; omega
  · omega
theorem cntAt_end (t : Tr) (most : Int) (k : Nat) (hk : k ≤ t.kids.length) (h : k = t.kids.length ∨ most < cntAt t most k) : cntOut t most = cntAt t most k := by
  have e := szL_take_le t.kids k
  unfold cntOut cntAt at *
  rw [szT_eq]
  rcases h with rfl | h
  · rw [List.take_length]
  · split at h
    · omega
    · rename_i h1; rw [if_neg h1, if_neg (by omega)]
theorem cntAt_range (t : Tr) (most : Int) (k : Nat) (h : 0 ≤ most) : 1 ≤ cntAt t most k ∧ cntAt t most k ≤ most + 1 := by
  unfold cntAt; split <;> omega
theorem cntOut_range (t : Tr) (most : Int) (h : 0 ≤ most) : 1 ≤ cntOut t most ∧ cntOut t most ≤ most + 1 := by
  unfold cntOut; split <;> omega

def CntSaid (t : Tr) : Prop := ∀ (c : Value) (most : Int) (w : World), In w t.kids c → 0 ≤ most → most ≤ 1000 →
  Calls Try.prog 77 #[.agg #[.int .i64 t.op, .int .i64 t.num, c], .int .i64 most] w fun e w' => e = .returned (.int .i64 (cntOut t most)) ∧ Below w.heap.size w w'

set_option maxHeartbeats 400000 in
theorem cnt_step (t : Tr) (ih : ∀ i (hi : i < t.kids.length), CntSaid (t.kids[i])) : CntSaid t := by
  intro c most w hk h0 h1
  have HI : Hid (∀ i (hi : i < t.kids.length), CntSaid (t.kids[i])) := ih
  have HK : Hid (In w t.kids c) := hk
  clear ih
  obtain ⟨ad, cap, rfl, hl, hm, -⟩ := hk
  unfold maxLen at hm
  go_enter Try.func77, Try.ntmps77
  go_wp2_with fail
  have hz : w.heap.size < (w.alloc (.cells #[.int .i64 t.op, .int .i64 t.num, .slice ad t.kids.length cap] 37)).heap.size := by rw [Deep.nblk_alloc]; omega
  have c2 := box_cell w #[.int .i64 t.op, .int .i64 t.num, .slice ad t.kids.length cap] 37 2 _ rfl
  have hbx := box_below w (.cells #[.int .i64 t.op, .int .i64 t.num, .slice ad t.kids.length cap] 37)
  generalize w.alloc (.cells #[.int .i64 t.op, .int .i64 t.num, .slice ad t.kids.length cap] 37) = wx at *
  have HBX : Hid (Below w.heap.size w wx) := hbx
  clear hbx
  go_loopw [5, 6] (fun n i wr => ∃ k : Nat, k ≤ t.kids.length ∧ i = .int .i64 k ∧ n = .int .i64 (cntAt t most k) ∧ Below wx.heap.size wx wr) (fun _ i _ => t.kids.length - (intOf i).toNat)
  case atStart => exact ⟨0, Nat.zero_le _, rfl, by rw [cntAt_zero t most h0], Below.refl _ _⟩
  case round =>
    obtain ⟨k, hk, rfl, rfl, hb⟩ := hrel
    have HB : Hid (Below wx.heap.size wx wr) := hb
    have HBW : Hid (Below w.heap.size w wr) := HBX.out.trans (hb.mono (Nat.le_of_lt hz))
    have cr : wr.cell? ⟨w.heap.size, 2, none⟩ = some (.slice ad t.kids.length cap) := (hb.cell (p := ⟨w.heap.size, 2, none⟩) hz).trans c2
    have hrg := cntAt_range t most k h0
    clear hb c2
    by_cases hlt : k < t.kids.length
    · by_cases hn : cntAt t most k ≤ most
      · have hrow' := HK.out.next HBW.out
        obtain ⟨ad', cap', he, -, -, hr⟩ := hrow'
        cases he
        rcases hr with hnil | ⟨bl, off, rfl, -, hr⟩
        · rw [hnil] at hlt; simp at hlt
        obtain ⟨p, q, r, e0, e1, e2, ht⟩ := RowOn.at t.kids off k hlt hr
        obtain ⟨rfl, rfl, -, -, hkk⟩ := trOn_iff.1 ht
        have HKK : Hid (In wr t.kids[k].kids r) := hkk
        clear hkk ht hr
        go_wp2_with fail
        refine (HI.out k hlt r _ _ HKK.out (by omega) (by omega)).mono ?_
        rintro e w1 ⟨rfl, hb1⟩
        have HB1 : Hid (Below wx.heap.size wx w1) := HB.out.trans (hb1.mono HB.out.size)
        clear hb1
        have hro := cntOut_range t.kids[k] (most - cntAt t most k) (by omega)
        have HV : Hid (cntAt t most k + cntOut t.kids[k] (most - cntAt t most k) = cntAt t most (k + 1)) := cntAt_step t most k hlt hn
        go_wp2_with fail
        go_roundw
        case rel => exact ⟨k + 1, by omega, by go_num, by rw [HV.out], HB1.out⟩
        case measure => simp [intOf]; omega
      · have HV : Hid (cntOut t most = cntAt t most k) := cntAt_end t most k hk (Or.inr (by omega))
        go_wp2_with fail
        go_ret
        exact ⟨ret_int HV.out.symm, HBW.out⟩
    · have HV : Hid (cntOut t most = cntAt t most k) := cntAt_end t most k hk (Or.inl (by omega))
      go_wp2_with fail
      all_goals go_ret
      all_goals exact ⟨ret_int HV.out.symm, HBW.out⟩

theorem cnt_any : ∀ (n : Nat) (t : Tr), szT t ≤ n → CntSaid t := by
  intro n
  induction n with
  | zero =>
    intro t h
    exact cnt_step t fun i hi => absurd (szT_lt_szL t.kids i hi) (by rw [szT_eq] at h; omega)
  | succ n ih =>
    intro t h
    exact cnt_step t fun i hi => ih _ (by have := szT_lt_szL t.kids i hi; rw [szT_eq] at h; omega)
theorem cnt_calls (t : Tr) : CntSaid t := cnt_any _ t (Nat.le_refl _)

/-! ### l1Is, ExprValid -/

/-- valid with these variables and functions -/
def isB (t : Tr) (vars defs : Int) : Bool := shB vars defs 16 t && decide (1 + (szT t : Int) ≤ 60)

set_option maxHeartbeats 400000 in
theorem l1Is_calls (t : Tr) (vars defs : Int) (c : Value) (w : World) (hk : In w t.kids c) : Calls Try.prog 44 #[.agg #[.int .i64 t.op, .int .i64 t.num, c], .int .i64 vars, .int .i64 defs] w fun e w' => e = .returned (.bool (isB t vars defs)) ∧ Below w.heap.size w w' := by
  have HK : Hid (In w t.kids c) := hk
  clear hk
  go_enter Try.func44, Try.ntmps44
  go_wp2_with fail
  refine (sh_any vars defs 16 t (by omega) c _ (HK.out.next (box_below _ _))).mono ?_
  rintro e w1 ⟨rfl, hb1⟩
  have HB : Hid (Below w.heap.size w w1) := (box_below _ _).trans (hb1.mono (by rw [Deep.nblk_alloc]; omega))
  have c0 := (hb1.cell (p := ⟨w.heap.size, 0, none⟩) (by rw [Deep.nblk_alloc]; exact Nat.lt_succ_self _)).trans (box_cell w #[.int .i64 t.op, .int .i64 t.num, c] 37 0 _ rfl)
  have c1 := (hb1.cell (p := ⟨w.heap.size, 1, none⟩) (by rw [Deep.nblk_alloc]; exact Nat.lt_succ_self _)).trans (box_cell w #[.int .i64 t.op, .int .i64 t.num, c] 37 1 _ rfl)
  have c2 := (hb1.cell (p := ⟨w.heap.size, 2, none⟩) (by rw [Deep.nblk_alloc]; exact Nat.lt_succ_self _)).trans (box_cell w #[.int .i64 t.op, .int .i64 t.num, c] 37 2 _ rfl)
  clear hb1
  cases hs : shB vars defs 16 t with
  | false =>
    have HV : Hid (isB t vars defs = false) := by simp [Hid, isB, hs]
    clear hs
    go_wp2_with fail
    go_ret
    exact ⟨ret_bool HV.out.symm, HB.out⟩
  | true =>
    have HV : Hid (isB t vars defs = decide (cntOut t 60 ≤ 60)) := by
      simp only [Hid, isB, hs, Bool.true_and]
      unfold cntOut
      split
      · rename_i h; simp [h]
      · rename_i h; simp [h]
    clear hs
    go_wp2_with fail
    refine (cnt_calls t c _ _ (HK.out.next HB.out) (by omega) (by omega)).mono ?_
    rintro e w2 ⟨rfl, hb2⟩
    have HB2 : Hid (Below w.heap.size w w2) := HB.out.trans (hb2.mono HB.out.size)
    clear hb2
    go_wp2_with fail
    go_ret
    exact ⟨ret_bool HV.out.symm, HB2.out⟩
end Go.Proofs.Ythknbafcnobgdaa
/-
  THE MODEL's l8Own AND l8Expr.
-/
namespace Go.Proofs.Ythknbafcnobgdaa
set_option linter.unusedVariables false
set_option linter.unusedSimpArgs false
open Go.RowKit

set_option maxHeartbeats 800000 in
theorem l8Own_calls (o n vars defs : Int) (w : World) : Calls Try.prog 42 #[.agg #[.int .i64 o, .int .i64 n], .int .i64 vars, .int .i64 defs] w fun e w' => e = .returned (.bool (decide (0 ≤ arity o) && ownB o n vars defs)) ∧ Below w.heap.size w w' := by
  have hq := l1Kids_calls o (w.alloc (.cells #[.int .i64 o, .int .i64 n] 66))
  have HB0 : Hid (Below w.heap.size w (w.alloc (.cells #[.int .i64 o, .int .i64 n] 66))) := box_below _ _
  by_cases h : 0 ≤ arity o
  · have hd : decide (0 ≤ arity o) = true := decide_eq_true h
    rw [hd, Bool.true_and]
    clear hd
    go_enter Try.func42, Try.ntmps42
    go_wp2_with fail
    refine hq.mono ?_
    rintro e w1 ⟨rfl, rfl⟩
    go_wp2_with fail
    refine (l1Own_calls o n vars defs _ _).mono ?_
    rintro e w2 ⟨rfl, hb⟩
    have HB2 : Hid (Below w.heap.size w w2) := HB0.out.trans (hb.mono HB0.out.size)
    clear hb
    go_wp2_with fail
    go_ret
    exact ⟨rfl, HB2.out⟩
  · have hd : decide (0 ≤ arity o) = false := decide_eq_false h
    rw [hd, Bool.false_and]
    have hn : ¬ (arity o ≥ 0) := h
    clear hd
    go_enter Try.func42, Try.ntmps42
    go_wp2_with fail
    refine hq.mono ?_
    rintro e w1 ⟨rfl, rfl⟩
    go_wp2_with fail
    go_ret
    exact ⟨rfl, HB0.out⟩

theorem fresh_below {wr W w3 : World} {G : Nat} (hb : Below wr.heap.size wr W) (hg : W.grownBy w3 (some G)) (hl : wr.heap.size ≤ G) : Below wr.heap.size wr w3 :=
  ⟨by rw [hg.os]; exact hb.os, by rw [hg.tape]; exact hb.tape, by rw [hg.output]; exact hb.output, Nat.le_trans hb.size hg.size, fun k hk => (hg.block k (Nat.lt_of_lt_of_le hk hb.size) (by simp only [ne_eq, Option.some.injEq]; omega)).trans (hb.block k hk)⟩
theorem alloc_at2 (w : World) (A B : Obj) : ((w.alloc A).alloc B).heap[w.heap.size + 1]? = some B := by
  have := Deep.blk_alloc_new (w.alloc A) B
  rw [Deep.nblk_alloc] at this
  exact this
theorem news_blk {W : World} {B : Nat} {x y z : Value} {T : TypeId} (h : W.heap[B]? = some (.cells #[x, y, z] T)) (j : Nat) (u : Value) (hu : [x, y, z][j]? = some u) : W.cell? ((⟨B, 0, none⟩ : Addr).add j) = some u := by
  rw [WideShapes.add_plain, Nat.zero_add]
  exact cell_of_blk h j u (by simpa using hu)
/-- the tree of code that leaves one, in new memory -/
def ExprGot (t : Tr) (w : World) (e : Ending) (w' : World) : Prop :=
  ∃ v, e = .returned (.agg #[.int .i64 t.op, .int .i64 t.num, v]) ∧ Fresh w' w.heap.size t.kids v ∧ Below w.heap.size w w'

set_option maxRecDepth 100000 in
set_option maxHeartbeats 3200000 in
theorem l8Expr_calls (cs : List Ins) (t : Tr) (c : Value) (w : World) (hk : InsIn w cs c) (hl : cs.length ≤ 1048576) (hw : ∀ c ∈ cs, I64 c.op ∧ I64 c.num) (hr : runC [] cs = some [t]) : Calls Try.prog 45 #[c] w (ExprGot t w) := by
  have HK : Hid (InsIn w cs c) := hk
  have HW := mkHid hw
  have HRC := mkHid hr
  obtain ⟨ad, cap, rfl, -, -, -⟩ := hk
  obtain ⟨iE, zE, hII⟩ := infoE3
  have HE := mkHid hII
  have HB0 : Hid (Below w.heap.size w (w.alloc (.cells #[.int .i64 0, .int .i64 0, .slice none 0 0] 37))) := box_below _ _
  have HZ0 : Hid ((w.alloc (.cells #[.int .i64 0, .int .i64 0, .slice none 0 0] 37)).heap[w.heap.size]? = some (.cells #[.int .i64 0, .int .i64 0, .slice none 0 0] 37)) := Deep.blk_alloc_new _ _
  have HS0 : Hid ((w.alloc (.cells #[.int .i64 0, .int .i64 0, .slice none 0 0] 37)).heap.size = w.heap.size + 1) := Deep.nblk_alloc _ _
  obtain ⟨w0, hw0⟩ : ∃ w0, w0 = w.alloc (.cells #[.int .i64 0, .int .i64 0, .slice none 0 0] 37) := ⟨_, rfl⟩
  clear hw hr hII
  go_enter Try.func45, Try.ntmps45
  go_wp2_with fail
  rw [← hw0]
  rw [← hw0] at HB0 HZ0 HS0
  clear hw0
  go_loopw [3, 4] (fun v i wr => ∃ (k : Nat) (s : List Tr) (g capg : Nat), k ≤ cs.length ∧ i = .int .i64 k ∧ v = .slice (some ⟨g, 0, none⟩) s.length capg ∧ Hid (runC [] (cs.take k) = some s) ∧ OwnF wr w0.heap.size wr.heap.size s v ∧ Below w0.heap.size w0 wr) (fun _ i _ => cs.length - (intOf i).toNat)
  case atStart =>
    rw [show w.heap.size + 1 = w0.heap.size from HS0.out.symm]
    refine ⟨0, [], w0.heap.size, 0, Nat.zero_le _, rfl, rfl, rfl, ⟨[], [], ?_, rfl, fun j hj => absurd hj (by simp), by simp, by simp⟩, box_below _ _⟩
    exact ⟨rfl, Or.inr ⟨w0.heap.size, 0, #[], rfl, Nat.le_refl _, Deep.blk_alloc_new w0 (.cells #[] 37), Nat.le_refl _, by unfold maxLen; omega, rfl, rfl⟩⟩
  case round =>
    obtain ⟨k, s, g, capg, hk, rfl, rfl, HR, hown, hb⟩ := hrel
    have HO := mkHid hown
    have HB := mkHid hb
    have HBA := mkHid (HB0.out.trans (hb.mono (HB0.out.size)))
    have hsl := runC_len HR.out hk
    obtain ⟨xs, hx, hx1⟩ := hown.one
    have HX := mkHid hx
    have hgl := hx.lt g rfl
    have hcap : s.length ≤ capg ∧ capg ≤ maxLen := by
      rcases hx.2 with ⟨e, -⟩ | ⟨g', cap', cur, e, -, -, h1, h2, -⟩
      · cases e
      · cases e; exact ⟨h1, h2⟩
    obtain ⟨hc1, hc2⟩ := hcap
    unfold maxLen at hc2
    clear hown hx
    by_cases hlt : k < cs.length
    · obtain ⟨bl, off, rfl, hbl, c0, c1⟩ := (HK.out.next HBA.out).at k hlt
      have HIW := mkHid (HW.out _ (List.getElem_mem hlt))
      by_cases hok : 0 ≤ arity cs[k].op ∧ arN cs[k].op ≤ s.length
      · have HN := mkHid (runC_some HR.out hlt hok.1 hok.2)
        have har : arity cs[k].op = (arN cs[k].op : Int) := by
          rcases arity_cases cs[k].op with e | ⟨-, e, -⟩
          · omega
          · exact e
        have hq := l1Kids_calls cs[k].op wr
        rw [har] at hq
        obtain ⟨m, hmm⟩ : ∃ m, m = s.length - arN cs[k].op := ⟨_, rfl⟩
        have hm : m ≤ s.length := by omega
        have hsub : IntKind.i64.wrap ((s.length : Int) - (arN cs[k].op : Int)) = (m : Int) := by rw [show (s.length : Int) - (arN cs[k].op : Int) = (m : Int) by omega]; exact IntWalk.i64_in _ (by omega)
        have hsub0 : (0 : Int) ≤ (m : Int) := by omega
        have hsub1 : (m : Int) ≤ (s.length : Int) := by omega
        have hmle : m ≤ capg := by omega
        rw [← hmm] at HN
        have HTL : Hid (ECells wr (s.length - m) (xs.drop (m * 3)) (.slice (if capg = m then some ⟨g, 0, none⟩ else some ⟨g, m * 3, none⟩) (s.length - m) (capg - m))) := own_tail HX.out hx1 hm _ (Or.inr ⟨g, rfl, rfl⟩)
        have HTK : Hid (ECells wr m (xs.take (m * 3)) (.slice (some ⟨g, 0, none⟩) m capg)) := own_head HX.out hx1 hm
        clear hok har hmm hx1
        go_wp2_with fail
        refine hq.mono ?_
        rintro e w1 ⟨rfl, rfl⟩
        go_upto_region 6 with fail
        go_cut [4, 5, 6] from 8 to 49 (fun s4 s5 s6 wx => s4 = .int .i64 (k : Int) ∧ s5 = .int .i64 (arN cs[k].op : Int) ∧ ∃ b ad3 n3 cap3, s6 = .pointer (some ⟨b, 0, none⟩) ∧ ERel wr (s.length - m) (xs.drop (m * 3)) cs[k].op cs[k].num (.slice ad3 n3 cap3) b wx)
        case first =>
          have hbl' : bl < wr.heap.size := hbl
          obtain ⟨W1, hW1⟩ : ∃ W : World, W = (wr.alloc (.cells #[] 37)).drew := ⟨_, rfl⟩
          obtain ⟨W2, hW2⟩ : ∃ W : World, W = ((wr.alloc (.cells #[] 37)).alloc (.cells #[.int .i64 0, .int .i64 0, .slice none 0 0] 37)).drew := ⟨_, rfl⟩
          obtain ⟨W3, hW3⟩ : ∃ W : World, W = ((wr.alloc (.cells #[.int .i64 0, .int .i64 0, .slice none 0 0] 37)).alloc (.cells #[] 37)).drew := ⟨_, rfl⟩
          have HA1 : Hid (Below wr.heap.size wr (wr.alloc (.cells #[] 37)).drew) := (box_below _ _).drew
          have HA2 : Hid (Below wr.heap.size wr ((wr.alloc (.cells #[] 37)).alloc (.cells #[.int .i64 0, .int .i64 0, .slice none 0 0] 37)).drew) := ((box_below _ _).alloc (by simp) _).drew
          have HA3 : Hid (Below wr.heap.size wr ((wr.alloc (.cells #[.int .i64 0, .int .i64 0, .slice none 0 0] 37)).alloc (.cells #[] 37)).drew) := ((box_below _ _).alloc (by simp) _).drew
          have HG2 : Hid (((wr.alloc (.cells #[] 37)).alloc (.cells #[.int .i64 0, .int .i64 0, .slice none 0 0] 37)).drew.heap[wr.heap.size]? = some (.cells #[] 37)) := (Deep.blk_alloc_lt (wr.alloc _) _ _ (by rw [Deep.nblk_alloc]; omega)).trans (Deep.blk_alloc_new _ _)
          have HZ2 : Hid (((wr.alloc (.cells #[] 37)).alloc (.cells #[.int .i64 0, .int .i64 0, .slice none 0 0] 37)).drew.heap[wr.heap.size + 1]? = some (.cells #[.int .i64 0, .int .i64 0, .slice none 0 0] 37)) := alloc_at2 _ _ _
          have HS2 : Hid (wr.heap.size + 1 < ((wr.alloc (.cells #[] 37)).alloc (.cells #[.int .i64 0, .int .i64 0, .slice none 0 0] 37)).drew.heap.size) := (by show _ < ((wr.alloc _).alloc _).heap.size; rw [Deep.nblk_alloc, Deep.nblk_alloc]; omega)
          have HG3 : Hid (((wr.alloc (.cells #[.int .i64 0, .int .i64 0, .slice none 0 0] 37)).alloc (.cells #[] 37)).drew.heap[wr.heap.size + 1]? = some (.cells #[] 37)) := alloc_at2 _ _ _
          have HZ3' : Hid (((wr.alloc (.cells #[.int .i64 0, .int .i64 0, .slice none 0 0] 37)).alloc (.cells #[] 37)).drew.heap[wr.heap.size]? = some (.cells #[.int .i64 0, .int .i64 0, .slice none 0 0] 37)) := (Deep.blk_alloc_lt (wr.alloc _) _ _ (by rw [Deep.nblk_alloc]; omega)).trans (Deep.blk_alloc_new _ _)
          have HS3 : Hid (wr.heap.size + 1 < ((wr.alloc (.cells #[.int .i64 0, .int .i64 0, .slice none 0 0] 37)).alloc (.cells #[] 37)).drew.heap.size) := (by show _ < ((wr.alloc _).alloc _).heap.size; rw [Deep.nblk_alloc, Deep.nblk_alloc]; omega)
          have HG1 : Hid (W1.heap[wr.heap.size]? = some (.cells #[] 37)) := by rw [hW1]; exact Deep.blk_alloc_new wr _
          rw [← hW1] at HA1
          rw [← hW2] at HA2 HG2 HZ2 HS2
          rw [← hW3] at HA3 HG3 HZ3' HS3
          have HW1 : Hid ((wr.alloc (.cells #[] 37)).drew = W1) := hW1.symm
          have HW2 : Hid (((wr.alloc (.cells #[] 37)).alloc (.cells #[.int .i64 0, .int .i64 0, .slice none 0 0] 37)).drew = W2) := hW2.symm
          have HW3 : Hid (((wr.alloc (.cells #[.int .i64 0, .int .i64 0, .slice none 0 0] 37)).alloc (.cells #[] 37)).drew = W3) := hW3.symm
          clear hW1 hW2 hW3
          have k0a : wr.drew.cell? ⟨bl, off + k * 2, none⟩ = some (.int .i64 cs[k].op) := c0
          have k0b : wr.drew.cell? ⟨bl, off + k * 2 + 1, none⟩ = some (.int .i64 cs[k].num) := c1
          have k1a : (wr.alloc (.cells #[] 37)).cell? ⟨bl, off + k * 2, none⟩ = some (.int .i64 cs[k].op) := old_cell c0 (.cells #[] 37)
          have k1b : (wr.alloc (.cells #[] 37)).cell? ⟨bl, off + k * 2 + 1, none⟩ = some (.int .i64 cs[k].num) := old_cell c1 (.cells #[] 37)
          have k2a : (wr.alloc (.cells #[] 37)).drew.cell? ⟨bl, off + k * 2, none⟩ = some (.int .i64 cs[k].op) := old_cell c0 (.cells #[] 37)
          have k2b : (wr.alloc (.cells #[] 37)).drew.cell? ⟨bl, off + k * 2 + 1, none⟩ = some (.int .i64 cs[k].num) := old_cell c1 (.cells #[] 37)
          have k3a : (wr.alloc (.cells #[.int .i64 0, .int .i64 0, .slice none 0 0] 37)).cell? ⟨bl, off + k * 2, none⟩ = some (.int .i64 cs[k].op) := old_cell c0 (.cells #[.int .i64 0, .int .i64 0, .slice none 0 0] 37)
          have k3b : (wr.alloc (.cells #[.int .i64 0, .int .i64 0, .slice none 0 0] 37)).cell? ⟨bl, off + k * 2 + 1, none⟩ = some (.int .i64 cs[k].num) := old_cell c1 (.cells #[.int .i64 0, .int .i64 0, .slice none 0 0] 37)
          have k4a : (wr.alloc (.cells #[.int .i64 0, .int .i64 0, .slice none 0 0] 37)).drew.cell? ⟨bl, off + k * 2, none⟩ = some (.int .i64 cs[k].op) := old_cell c0 (.cells #[.int .i64 0, .int .i64 0, .slice none 0 0] 37)
          have k4b : (wr.alloc (.cells #[.int .i64 0, .int .i64 0, .slice none 0 0] 37)).drew.cell? ⟨bl, off + k * 2 + 1, none⟩ = some (.int .i64 cs[k].num) := old_cell c1 (.cells #[.int .i64 0, .int .i64 0, .slice none 0 0] 37)
          have k5a : ((wr.alloc (.cells #[] 37)).alloc (.cells #[.int .i64 0, .int .i64 0, .slice none 0 0] 37)).cell? ⟨bl, off + k * 2, none⟩ = some (.int .i64 cs[k].op) := old_cell (old_cell c0 (.cells #[] 37)) (.cells #[.int .i64 0, .int .i64 0, .slice none 0 0] 37)
          have k5b : ((wr.alloc (.cells #[] 37)).alloc (.cells #[.int .i64 0, .int .i64 0, .slice none 0 0] 37)).cell? ⟨bl, off + k * 2 + 1, none⟩ = some (.int .i64 cs[k].num) := old_cell (old_cell c1 (.cells #[] 37)) (.cells #[.int .i64 0, .int .i64 0, .slice none 0 0] 37)
          have k6a : ((wr.alloc (.cells #[] 37)).alloc (.cells #[.int .i64 0, .int .i64 0, .slice none 0 0] 37)).drew.cell? ⟨bl, off + k * 2, none⟩ = some (.int .i64 cs[k].op) := old_cell (old_cell c0 (.cells #[] 37)) (.cells #[.int .i64 0, .int .i64 0, .slice none 0 0] 37)
          have k6b : ((wr.alloc (.cells #[] 37)).alloc (.cells #[.int .i64 0, .int .i64 0, .slice none 0 0] 37)).drew.cell? ⟨bl, off + k * 2 + 1, none⟩ = some (.int .i64 cs[k].num) := old_cell (old_cell c1 (.cells #[] 37)) (.cells #[.int .i64 0, .int .i64 0, .slice none 0 0] 37)
          have k7a : ((wr.alloc (.cells #[.int .i64 0, .int .i64 0, .slice none 0 0] 37)).alloc (.cells #[] 37)).cell? ⟨bl, off + k * 2, none⟩ = some (.int .i64 cs[k].op) := old_cell (old_cell c0 (.cells #[.int .i64 0, .int .i64 0, .slice none 0 0] 37)) (.cells #[] 37)
          have k7b : ((wr.alloc (.cells #[.int .i64 0, .int .i64 0, .slice none 0 0] 37)).alloc (.cells #[] 37)).cell? ⟨bl, off + k * 2 + 1, none⟩ = some (.int .i64 cs[k].num) := old_cell (old_cell c1 (.cells #[.int .i64 0, .int .i64 0, .slice none 0 0] 37)) (.cells #[] 37)
          have k8a : ((wr.alloc (.cells #[.int .i64 0, .int .i64 0, .slice none 0 0] 37)).alloc (.cells #[] 37)).drew.cell? ⟨bl, off + k * 2, none⟩ = some (.int .i64 cs[k].op) := old_cell (old_cell c0 (.cells #[.int .i64 0, .int .i64 0, .slice none 0 0] 37)) (.cells #[] 37)
          have k8b : ((wr.alloc (.cells #[.int .i64 0, .int .i64 0, .slice none 0 0] 37)).alloc (.cells #[] 37)).drew.cell? ⟨bl, off + k * 2 + 1, none⟩ = some (.int .i64 cs[k].num) := old_cell (old_cell c1 (.cells #[.int .i64 0, .int .i64 0, .slice none 0 0] 37)) (.cells #[] 37)
          go_region_held3 (fun w' => w'.cell? ⟨bl, off + k * 2, none⟩ = some (.int .i64 cs[k].op) ∧ w'.cell? ⟨bl, off + k * 2 + 1, none⟩ = some (.int .i64 cs[k].num))
            (first
              | go_keep
              | with_reducible exact ⟨c0, c1⟩
              | with_reducible exact ⟨k0a, k0b⟩
              | with_reducible exact ⟨k1a, k1b⟩
              | with_reducible exact ⟨k2a, k2b⟩
              | with_reducible exact ⟨k3a, k3b⟩
              | with_reducible exact ⟨k4a, k4b⟩
              | with_reducible exact ⟨k5a, k5b⟩
              | with_reducible exact ⟨k6a, k6b⟩
              | with_reducible exact ⟨k7a, k7b⟩
              | with_reducible exact ⟨k8a, k8b⟩
              | with_reducible exact ⟨d0, d1⟩
              | with_reducible exact ⟨old_cell d0 _, old_cell d1 _⟩
              | exact ⟨(set3_other HNB.out _ _ _ trivial).trans d0, (set3_other HNB.out _ _ _ trivial).trans d1⟩)
            (first
              | (rw [HW1.out]; generalize (if capg = m then (some ⟨g, 0, none⟩ : Option Addr) else some ⟨g, m * 3, none⟩) = tad at HTL ⊢; refine step_append_fresh (by rfl) (.tmp 30) (.tmp 36) (by rfl) wr.heap.size HG1.out (s.length - m) (xs.drop (m * 3)) (.slice tad (s.length - m) (capg - m)) (by rfl) (by rfl) (HTL.out.next HA1.out) (by omega) ?_; intro kv w3 hk3 hg3 hw3; have HK3 := mkHid (own_lower hk3 (show wr.heap.size ≤ wr.heap.size by omega)); have HB3 := mkHid (fresh_below HA1.out hg3 (show wr.heap.size ≤ wr.heap.size by omega)); have d0 := (HB3.out.cell (p := ⟨bl, off + k * 2, none⟩) hbl').trans c0; have d1 := (HB3.out.cell (p := ⟨bl, off + k * 2 + 1, none⟩) hbl').trans c1; obtain ⟨ad3, n3, cap3, rfl⟩ := own_slice hk3; clear hk3 hg3 hw3)
              | (rw [HW2.out]; generalize (if capg = m then (some ⟨g, 0, none⟩ : Option Addr) else some ⟨g, m * 3, none⟩) = tad at HTL ⊢; refine step_append_fresh (by rfl) (.tmp 30) (.tmp 36) (by rfl) wr.heap.size HG2.out (s.length - m) (xs.drop (m * 3)) (.slice tad (s.length - m) (capg - m)) (by rfl) (by rfl) (HTL.out.next HA2.out) (by omega) ?_; intro kv w3 hk3 hg3 hw3; have HK3 := mkHid (own_lower hk3 (show wr.heap.size ≤ wr.heap.size by omega)); have HB3 := mkHid (fresh_below HA2.out hg3 (show wr.heap.size ≤ wr.heap.size by omega)); have d0 := (HB3.out.cell (p := ⟨bl, off + k * 2, none⟩) hbl').trans c0; have d1 := (HB3.out.cell (p := ⟨bl, off + k * 2 + 1, none⟩) hbl').trans c1; have hz3 := (hg3.block (wr.heap.size + 1) HS2.out (by simp)).trans HZ2.out; have HNE3 : Hid (some (wr.heap.size + 1) ≠ kv.ownBlock) := (by unfold Hid; rcases hw3 with e | ⟨q, e, hq⟩ <;> rw [e] <;> simp only [ne_eq, Option.some.injEq] <;> (try have := HS2.out) <;> omega); have HZ3 := mkHid hz3; have z0 := cell_of_blk hz3 0 _ rfl; have z1 := cell_of_blk hz3 1 _ rfl; have z2 := cell_of_blk hz3 2 _ rfl; have zf := fun i => frz_of_blk hz3 i; have HNB : Hid (bl ≠ wr.heap.size + 1) := (by unfold Hid; omega); obtain ⟨ad3, n3, cap3, rfl⟩ := own_slice hk3; clear hk3 hg3 hw3 hz3)
              | (rw [HW3.out]; generalize (if capg = m then (some ⟨g, 0, none⟩ : Option Addr) else some ⟨g, m * 3, none⟩) = tad at HTL ⊢; refine step_append_fresh (by rfl) (.tmp 30) (.tmp 36) (by rfl) (wr.heap.size + 1) HG3.out (s.length - m) (xs.drop (m * 3)) (.slice tad (s.length - m) (capg - m)) (by rfl) (by rfl) (HTL.out.next HA3.out) (by omega) ?_; intro kv w3 hk3 hg3 hw3; have HK3 := mkHid (own_lower hk3 (show wr.heap.size ≤ wr.heap.size + 1 by omega)); have HB3 := mkHid (fresh_below HA3.out hg3 (show wr.heap.size ≤ wr.heap.size + 1 by omega)); have d0 := (HB3.out.cell (p := ⟨bl, off + k * 2, none⟩) hbl').trans c0; have d1 := (HB3.out.cell (p := ⟨bl, off + k * 2 + 1, none⟩) hbl').trans c1; have hz3 := (hg3.block wr.heap.size (Nat.lt_trans (Nat.lt_succ_self _) HS3.out) (by simp)).trans HZ3'.out; have HNE3 : Hid (some wr.heap.size ≠ kv.ownBlock) := (by unfold Hid; rcases hw3 with e | ⟨q, e, hq⟩ <;> rw [e] <;> simp only [ne_eq, Option.some.injEq] <;> (try have := HS3.out) <;> omega); have HZ3 := mkHid hz3; have z0 := cell_of_blk hz3 0 _ rfl; have z1 := cell_of_blk hz3 1 _ rfl; have z2 := cell_of_blk hz3 2 _ rfl; have zf := fun i => frz_of_blk hz3 i; have HNB : Hid (bl ≠ wr.heap.size) := (by unfold Hid; omega); obtain ⟨ad3, n3, cap3, rfl⟩ := own_slice hk3; clear hk3 hg3 hw3 hz3))
          all_goals
            go_wp2_with fail
            go_meet
            first
              | exact ⟨rfl, rfl, _, _, _, _, rfl, erel_alloc HK3.out HB3.out⟩
              | exact ⟨rfl, rfl, _, _, _, _, rfl, erel_set HK3.out HB3.out HZ3.out (Nat.le_succ _) HNE3.out⟩
              | exact ⟨rfl, rfl, _, _, _, _, rfl, erel_set HK3.out HB3.out HZ3.out (Nat.le_refl _) HNE3.out⟩
        case rest =>
          obtain ⟨rfl, rfl, b, ad3, n3, cap3, rfl, her⟩ := hcut
          have HER := mkHid her
          have hbl := (Array.getElem?_eq_some_iff.1 her.1).1
          have q0 := cell_of_blk her.1 0 _ rfl
          have q1 := cell_of_blk her.1 1 _ rfl
          have q2 := cell_of_blk her.1 2 _ rfl
          have HTC := mkHid (HTK.out.next her.2.2.1)
          clear her
          obtain ⟨V1, hV1⟩ : ∃ W : World, W = (wc.alloc (.cells #[] 37)).drew := ⟨_, rfl⟩
          obtain ⟨V2, hV2⟩ : ∃ W : World, W = ((wc.alloc (.cells #[] 37)).alloc (.cells #[.int .i64 cs[k].op, .int .i64 cs[k].num, .slice ad3 n3 cap3] 37)).drew := ⟨_, rfl⟩
          obtain ⟨V3, hV3⟩ : ∃ W : World, W = ((wc.alloc (.cells #[.int .i64 cs[k].op, .int .i64 cs[k].num, .slice ad3 n3 cap3] 37)).alloc (.cells #[] 37)).drew := ⟨_, rfl⟩
          have HC1 : Hid (Below wc.heap.size wc V1) := by rw [hV1]; exact (box_below _ _).drew
          have HC2 : Hid (Below wc.heap.size wc V2) := by rw [hV2]; exact ((box_below _ _).alloc (by simp) _).drew
          have HC3 : Hid (Below wc.heap.size wc V3) := by rw [hV3]; exact ((box_below _ _).alloc (by simp) _).drew
          have HH1 : Hid (V1.heap[wc.heap.size]? = some (.cells #[] 37)) := by rw [hV1]; exact Deep.blk_alloc_new wc _
          have HH2 : Hid (V2.heap[wc.heap.size]? = some (.cells #[] 37)) := by rw [hV2]; exact (Deep.blk_alloc_lt (wc.alloc _) _ _ (by rw [Deep.nblk_alloc]; omega)).trans (Deep.blk_alloc_new _ _)
          have HH3 : Hid (V3.heap[wc.heap.size + 1]? = some (.cells #[] 37)) := by rw [hV3]; exact alloc_at2 wc _ _
          have HN2 : Hid (V2.heap[wc.heap.size + 1]? = some (.cells #[.int .i64 cs[k].op, .int .i64 cs[k].num, .slice ad3 n3 cap3] 37)) := by rw [hV2]; exact alloc_at2 wc _ _
          have HN3 : Hid (V3.heap[wc.heap.size]? = some (.cells #[.int .i64 cs[k].op, .int .i64 cs[k].num, .slice ad3 n3 cap3] 37)) := by rw [hV3]; exact (Deep.blk_alloc_lt (wc.alloc _) _ _ (by rw [Deep.nblk_alloc]; omega)).trans (Deep.blk_alloc_new _ _)
          have HT2 : Hid (V2.heap.size = wc.heap.size + 2) := by rw [hV2]; show ((wc.alloc _).alloc _).heap.size = _; rw [Deep.nblk_alloc, Deep.nblk_alloc]
          have HT3 : Hid (V3.heap.size = wc.heap.size + 2) := by rw [hV3]; show ((wc.alloc _).alloc _).heap.size = _; rw [Deep.nblk_alloc, Deep.nblk_alloc]
          have HV1 : Hid ((wc.alloc (.cells #[] 37)).drew = V1) := hV1.symm
          have HV2 : Hid (((wc.alloc (.cells #[] 37)).alloc (.cells #[.int .i64 cs[k].op, .int .i64 cs[k].num, .slice ad3 n3 cap3] 37)).drew = V2) := hV2.symm
          have HV3 : Hid (((wc.alloc (.cells #[.int .i64 cs[k].op, .int .i64 cs[k].num, .slice ad3 n3 cap3] 37)).alloc (.cells #[] 37)).drew = V3) := hV3.symm
          have p0a : wc.cell? ⟨b, 0, none⟩ = some (.int .i64 cs[k].op) := q0
          have p0b : wc.cell? ⟨b, 1, none⟩ = some (.int .i64 cs[k].num) := q1
          have p0c : wc.cell? ⟨b, 2, none⟩ = some (.slice ad3 n3 cap3) := q2
          have p1a : wc.drew.cell? ⟨b, 0, none⟩ = some (.int .i64 cs[k].op) := q0
          have p1b : wc.drew.cell? ⟨b, 1, none⟩ = some (.int .i64 cs[k].num) := q1
          have p1c : wc.drew.cell? ⟨b, 2, none⟩ = some (.slice ad3 n3 cap3) := q2
          have p2a : (wc.alloc (.cells #[] 37)).cell? ⟨b, 0, none⟩ = some (.int .i64 cs[k].op) := old_cell q0 (.cells #[] 37)
          have p2b : (wc.alloc (.cells #[] 37)).cell? ⟨b, 1, none⟩ = some (.int .i64 cs[k].num) := old_cell q1 (.cells #[] 37)
          have p2c : (wc.alloc (.cells #[] 37)).cell? ⟨b, 2, none⟩ = some (.slice ad3 n3 cap3) := old_cell q2 (.cells #[] 37)
          have p3a : (wc.alloc (.cells #[] 37)).drew.cell? ⟨b, 0, none⟩ = some (.int .i64 cs[k].op) := old_cell q0 (.cells #[] 37)
          have p3b : (wc.alloc (.cells #[] 37)).drew.cell? ⟨b, 1, none⟩ = some (.int .i64 cs[k].num) := old_cell q1 (.cells #[] 37)
          have p3c : (wc.alloc (.cells #[] 37)).drew.cell? ⟨b, 2, none⟩ = some (.slice ad3 n3 cap3) := old_cell q2 (.cells #[] 37)
          have p4a : (wc.alloc (.cells #[.int .i64 cs[k].op, .int .i64 cs[k].num, .slice ad3 n3 cap3] 37)).cell? ⟨b, 0, none⟩ = some (.int .i64 cs[k].op) := old_cell q0 (.cells #[.int .i64 cs[k].op, .int .i64 cs[k].num, .slice ad3 n3 cap3] 37)
          have p4b : (wc.alloc (.cells #[.int .i64 cs[k].op, .int .i64 cs[k].num, .slice ad3 n3 cap3] 37)).cell? ⟨b, 1, none⟩ = some (.int .i64 cs[k].num) := old_cell q1 (.cells #[.int .i64 cs[k].op, .int .i64 cs[k].num, .slice ad3 n3 cap3] 37)
          have p4c : (wc.alloc (.cells #[.int .i64 cs[k].op, .int .i64 cs[k].num, .slice ad3 n3 cap3] 37)).cell? ⟨b, 2, none⟩ = some (.slice ad3 n3 cap3) := old_cell q2 (.cells #[.int .i64 cs[k].op, .int .i64 cs[k].num, .slice ad3 n3 cap3] 37)
          have p5a : (wc.alloc (.cells #[.int .i64 cs[k].op, .int .i64 cs[k].num, .slice ad3 n3 cap3] 37)).drew.cell? ⟨b, 0, none⟩ = some (.int .i64 cs[k].op) := old_cell q0 (.cells #[.int .i64 cs[k].op, .int .i64 cs[k].num, .slice ad3 n3 cap3] 37)
          have p5b : (wc.alloc (.cells #[.int .i64 cs[k].op, .int .i64 cs[k].num, .slice ad3 n3 cap3] 37)).drew.cell? ⟨b, 1, none⟩ = some (.int .i64 cs[k].num) := old_cell q1 (.cells #[.int .i64 cs[k].op, .int .i64 cs[k].num, .slice ad3 n3 cap3] 37)
          have p5c : (wc.alloc (.cells #[.int .i64 cs[k].op, .int .i64 cs[k].num, .slice ad3 n3 cap3] 37)).drew.cell? ⟨b, 2, none⟩ = some (.slice ad3 n3 cap3) := old_cell q2 (.cells #[.int .i64 cs[k].op, .int .i64 cs[k].num, .slice ad3 n3 cap3] 37)
          have p6a : ((wc.alloc (.cells #[] 37)).alloc (.cells #[.int .i64 cs[k].op, .int .i64 cs[k].num, .slice ad3 n3 cap3] 37)).cell? ⟨b, 0, none⟩ = some (.int .i64 cs[k].op) := old_cell (old_cell q0 (.cells #[] 37)) (.cells #[.int .i64 cs[k].op, .int .i64 cs[k].num, .slice ad3 n3 cap3] 37)
          have p6b : ((wc.alloc (.cells #[] 37)).alloc (.cells #[.int .i64 cs[k].op, .int .i64 cs[k].num, .slice ad3 n3 cap3] 37)).cell? ⟨b, 1, none⟩ = some (.int .i64 cs[k].num) := old_cell (old_cell q1 (.cells #[] 37)) (.cells #[.int .i64 cs[k].op, .int .i64 cs[k].num, .slice ad3 n3 cap3] 37)
          have p6c : ((wc.alloc (.cells #[] 37)).alloc (.cells #[.int .i64 cs[k].op, .int .i64 cs[k].num, .slice ad3 n3 cap3] 37)).cell? ⟨b, 2, none⟩ = some (.slice ad3 n3 cap3) := old_cell (old_cell q2 (.cells #[] 37)) (.cells #[.int .i64 cs[k].op, .int .i64 cs[k].num, .slice ad3 n3 cap3] 37)
          have p7a : ((wc.alloc (.cells #[] 37)).alloc (.cells #[.int .i64 cs[k].op, .int .i64 cs[k].num, .slice ad3 n3 cap3] 37)).drew.cell? ⟨b, 0, none⟩ = some (.int .i64 cs[k].op) := old_cell (old_cell q0 (.cells #[] 37)) (.cells #[.int .i64 cs[k].op, .int .i64 cs[k].num, .slice ad3 n3 cap3] 37)
          have p7b : ((wc.alloc (.cells #[] 37)).alloc (.cells #[.int .i64 cs[k].op, .int .i64 cs[k].num, .slice ad3 n3 cap3] 37)).drew.cell? ⟨b, 1, none⟩ = some (.int .i64 cs[k].num) := old_cell (old_cell q1 (.cells #[] 37)) (.cells #[.int .i64 cs[k].op, .int .i64 cs[k].num, .slice ad3 n3 cap3] 37)
          have p7c : ((wc.alloc (.cells #[] 37)).alloc (.cells #[.int .i64 cs[k].op, .int .i64 cs[k].num, .slice ad3 n3 cap3] 37)).drew.cell? ⟨b, 2, none⟩ = some (.slice ad3 n3 cap3) := old_cell (old_cell q2 (.cells #[] 37)) (.cells #[.int .i64 cs[k].op, .int .i64 cs[k].num, .slice ad3 n3 cap3] 37)
          have p8a : ((wc.alloc (.cells #[.int .i64 cs[k].op, .int .i64 cs[k].num, .slice ad3 n3 cap3] 37)).alloc (.cells #[] 37)).cell? ⟨b, 0, none⟩ = some (.int .i64 cs[k].op) := old_cell (old_cell q0 (.cells #[.int .i64 cs[k].op, .int .i64 cs[k].num, .slice ad3 n3 cap3] 37)) (.cells #[] 37)
          have p8b : ((wc.alloc (.cells #[.int .i64 cs[k].op, .int .i64 cs[k].num, .slice ad3 n3 cap3] 37)).alloc (.cells #[] 37)).cell? ⟨b, 1, none⟩ = some (.int .i64 cs[k].num) := old_cell (old_cell q1 (.cells #[.int .i64 cs[k].op, .int .i64 cs[k].num, .slice ad3 n3 cap3] 37)) (.cells #[] 37)
          have p8c : ((wc.alloc (.cells #[.int .i64 cs[k].op, .int .i64 cs[k].num, .slice ad3 n3 cap3] 37)).alloc (.cells #[] 37)).cell? ⟨b, 2, none⟩ = some (.slice ad3 n3 cap3) := old_cell (old_cell q2 (.cells #[.int .i64 cs[k].op, .int .i64 cs[k].num, .slice ad3 n3 cap3] 37)) (.cells #[] 37)
          have p9a : ((wc.alloc (.cells #[.int .i64 cs[k].op, .int .i64 cs[k].num, .slice ad3 n3 cap3] 37)).alloc (.cells #[] 37)).drew.cell? ⟨b, 0, none⟩ = some (.int .i64 cs[k].op) := old_cell (old_cell q0 (.cells #[.int .i64 cs[k].op, .int .i64 cs[k].num, .slice ad3 n3 cap3] 37)) (.cells #[] 37)
          have p9b : ((wc.alloc (.cells #[.int .i64 cs[k].op, .int .i64 cs[k].num, .slice ad3 n3 cap3] 37)).alloc (.cells #[] 37)).drew.cell? ⟨b, 1, none⟩ = some (.int .i64 cs[k].num) := old_cell (old_cell q1 (.cells #[.int .i64 cs[k].op, .int .i64 cs[k].num, .slice ad3 n3 cap3] 37)) (.cells #[] 37)
          have p9c : ((wc.alloc (.cells #[.int .i64 cs[k].op, .int .i64 cs[k].num, .slice ad3 n3 cap3] 37)).alloc (.cells #[] 37)).drew.cell? ⟨b, 2, none⟩ = some (.slice ad3 n3 cap3) := old_cell (old_cell q2 (.cells #[.int .i64 cs[k].op, .int .i64 cs[k].num, .slice ad3 n3 cap3] 37)) (.cells #[] 37)
          clear hV1 hV2 hV3
          go_wp2_with fail
          go_region_held3 (fun w' => w'.cell? ⟨b, 0, none⟩ = some (.int .i64 cs[k].op) ∧ w'.cell? ⟨b, 1, none⟩ = some (.int .i64 cs[k].num) ∧ w'.cell? ⟨b, 2, none⟩ = some (.slice ad3 n3 cap3))
            (first
              | go_keep
              | with_reducible exact ⟨p0a, p0b, p0c⟩
              | with_reducible exact ⟨p1a, p1b, p1c⟩
              | with_reducible exact ⟨p2a, p2b, p2c⟩
              | with_reducible exact ⟨p3a, p3b, p3c⟩
              | with_reducible exact ⟨p4a, p4b, p4c⟩
              | with_reducible exact ⟨p5a, p5b, p5c⟩
              | with_reducible exact ⟨p6a, p6b, p6c⟩
              | with_reducible exact ⟨p7a, p7b, p7c⟩
              | with_reducible exact ⟨p8a, p8b, p8c⟩
              | with_reducible exact ⟨p9a, p9b, p9c⟩
              | with_reducible exact ⟨d0, d1, d2⟩
              | with_reducible exact ⟨old_cell d0 _, old_cell d1 _, old_cell d2 _⟩
              | with_reducible exact ⟨r0, r1, r2⟩)
            (first
              | (rw [HV1.out]; refine step_append_fresh (by rfl) (.tmp 39) (.tmp 45) (by rfl) wc.heap.size HH1.out m (xs.take (m * 3)) (.slice (some ⟨g, 0, none⟩) m capg) (by rfl) (by rfl) (HTC.out.next HC1.out) (by omega) ?_; intro v4 w4 hk4 hg4 hw4; have HK4 := mkHid (own_lower hk4 (show wc.heap.size ≤ wc.heap.size by omega)); have HB4 := mkHid (fresh_below HC1.out hg4 (show wc.heap.size ≤ wc.heap.size by omega)); have d0 := (HB4.out.cell (p := ⟨b, 0, none⟩) hbl).trans q0; have d1 := (HB4.out.cell (p := ⟨b, 1, none⟩) hbl).trans q1; have d2 := (HB4.out.cell (p := ⟨b, 2, none⟩) hbl).trans q2; obtain ⟨ad4, n4, cap4, rfl⟩ := own_slice hk4; have HNA := mkHid True.intro; clear hk4 hg4 hw4)
              | (rw [HV2.out]; refine step_append_fresh (by rfl) (.tmp 39) (.tmp 45) (by rfl) wc.heap.size HH2.out m (xs.take (m * 3)) (.slice (some ⟨g, 0, none⟩) m capg) (by rfl) (by rfl) (HTC.out.next HC2.out) (by omega) ?_; intro v4 w4 hk4 hg4 hw4; have HK4 := mkHid (own_lower hk4 (show wc.heap.size ≤ wc.heap.size by omega)); have HB4 := mkHid (fresh_below HC2.out hg4 (show wc.heap.size ≤ wc.heap.size by omega)); have d0 := (HB4.out.cell (p := ⟨b, 0, none⟩) hbl).trans q0; have d1 := (HB4.out.cell (p := ⟨b, 1, none⟩) hbl).trans q1; have d2 := (HB4.out.cell (p := ⟨b, 2, none⟩) hbl).trans q2; have HNB2 : Hid (w4.heap[wc.heap.size + 1]? = some (.cells #[.int .i64 cs[k].op, .int .i64 cs[k].num, .slice ad3 n3 cap3] 37)) := (hg4.block _ (by have := HT2.out; omega) (by simp)).trans HN2.out; obtain ⟨ad4, n4, cap4, rfl⟩ := own_slice hk4; clear hk4 hg4 hw4)
              | (rw [HV3.out]; refine step_append_fresh (by rfl) (.tmp 39) (.tmp 45) (by rfl) (wc.heap.size + 1) HH3.out m (xs.take (m * 3)) (.slice (some ⟨g, 0, none⟩) m capg) (by rfl) (by rfl) (HTC.out.next HC3.out) (by omega) ?_; intro v4 w4 hk4 hg4 hw4; have HK4 := mkHid (own_lower hk4 (show wc.heap.size ≤ (wc.heap.size + 1) by omega)); have HB4 := mkHid (fresh_below HC3.out hg4 (show wc.heap.size ≤ (wc.heap.size + 1) by omega)); have d0 := (HB4.out.cell (p := ⟨b, 0, none⟩) hbl).trans q0; have d1 := (HB4.out.cell (p := ⟨b, 1, none⟩) hbl).trans q1; have d2 := (HB4.out.cell (p := ⟨b, 2, none⟩) hbl).trans q2; have HNB3 : Hid (w4.heap[wc.heap.size]? = some (.cells #[.int .i64 cs[k].op, .int .i64 cs[k].num, .slice ad3 n3 cap3] 37)) := (hg4.block _ (by have := HT3.out; omega) (by simp)).trans HN3.out; obtain ⟨ad4, n4, cap4, rfl⟩ := own_slice hk4; clear hk4 hg4 hw4)
              | (have tk := HNA; clear tk; refine step_append_where (w := w4.alloc (.cells #[.int .i64 cs[k].op, .int .i64 cs[k].num, .slice ad3 n3 cap3] 37)) (by rfl) (.tmp 46) (.tmp 48) 35 (by rfl) wc.heap.size 37 iE zE 3 40 Try.underlying35 HE.out.1 HE.out.2.1 HE.out.2.2.1 HE.out.2.2.2.1 HE.out.2.2.2.2 (by decide) (.slice ad4 n4 cap4) m (xs.take (m * 3)) (by rfl) (own_keep HK4.out (fun j _ hj => Deep.blk_alloc_lt w4 (.cells #[.int .i64 cs[k].op, .int .i64 cs[k].num, .slice ad3 n3 cap3] 37) _ hj)) ⟨w4.heap.size, 0, none⟩ 1 1 [.int .i64 cs[k].op, .int .i64 cs[k].num, .slice ad3 n3 cap3] (by rfl) (by rfl) (news3 w4 _ _ _) (by simp [Value.oneCell']) (by unfold maxLen; omega) (by omega) (HB4.out.alloc HB4.out.size (.cells #[.int .i64 cs[k].op, .int .i64 cs[k].num, .slice ad3 n3 cap3] 37)).size (by omega) ?_; intro v6 w6 hown6 hg6 hw6; have HB6 := mkHid (own_grown (own_keep HK4.out (fun j _ hj => Deep.blk_alloc_lt w4 (.cells #[.int .i64 cs[k].op, .int .i64 cs[k].num, .slice ad3 n3 cap3] 37) _ hj)) rfl (HB4.out.alloc HB4.out.size (.cells #[.int .i64 cs[k].op, .int .i64 cs[k].num, .slice ad3 n3 cap3] 37)) hg6); have HOWN6 := mkHid hown6; have r0 := (HB6.out.cell (p := ⟨b, 0, none⟩) hbl).trans q0; have r1 := (HB6.out.cell (p := ⟨b, 1, none⟩) hbl).trans q1; have r2 := (HB6.out.cell (p := ⟨b, 2, none⟩) hbl).trans q2; clear hown6 hg6 hw6)
              | (have tk := HNB2; clear tk; refine step_append_where (w := w4) (by rfl) (.tmp 46) (.tmp 48) 35 (by rfl) wc.heap.size 37 iE zE 3 40 Try.underlying35 HE.out.1 HE.out.2.1 HE.out.2.2.1 HE.out.2.2.2.1 HE.out.2.2.2.2 (by decide) (.slice ad4 n4 cap4) m (xs.take (m * 3)) (by rfl) HK4.out ⟨wc.heap.size + 1, 0, none⟩ 1 1 [.int .i64 cs[k].op, .int .i64 cs[k].num, .slice ad3 n3 cap3] (by rfl) (by rfl) (news_blk HNB2.out) (by simp [Value.oneCell']) (by unfold maxLen; omega) (by omega) HB4.out.size (by omega) ?_; intro v6 w6 hown6 hg6 hw6; have HB6 := mkHid (own_grown HK4.out rfl HB4.out hg6); have HOWN6 := mkHid hown6; have r0 := (HB6.out.cell (p := ⟨b, 0, none⟩) hbl).trans q0; have r1 := (HB6.out.cell (p := ⟨b, 1, none⟩) hbl).trans q1; have r2 := (HB6.out.cell (p := ⟨b, 2, none⟩) hbl).trans q2; clear hown6 hg6 hw6)
              | (have tk := HNB3; clear tk; refine step_append_where (w := w4) (by rfl) (.tmp 46) (.tmp 48) 35 (by rfl) wc.heap.size 37 iE zE 3 40 Try.underlying35 HE.out.1 HE.out.2.1 HE.out.2.2.1 HE.out.2.2.2.1 HE.out.2.2.2.2 (by decide) (.slice ad4 n4 cap4) m (xs.take (m * 3)) (by rfl) HK4.out ⟨wc.heap.size, 0, none⟩ 1 1 [.int .i64 cs[k].op, .int .i64 cs[k].num, .slice ad3 n3 cap3] (by rfl) (by rfl) (news_blk HNB3.out) (by simp [Value.oneCell']) (by unfold maxLen; omega) (by omega) HB4.out.size (by omega) ?_; intro v6 w6 hown6 hg6 hw6; have HB6 := mkHid (own_grown HK4.out rfl HB4.out hg6); have HOWN6 := mkHid hown6; have r0 := (HB6.out.cell (p := ⟨b, 0, none⟩) hbl).trans q0; have r1 := (HB6.out.cell (p := ⟨b, 1, none⟩) hbl).trans q1; have r2 := (HB6.out.cell (p := ⟨b, 2, none⟩) hbl).trans q2; clear hown6 hg6 hw6))
          all_goals
            obtain ⟨g6, cap6, rfl, hge, -⟩ := own_form HOWN6.out (Nat.succ_pos m)
            have HP : Hid (OwnF w6 w0.heap.size w6.heap.size (s.take m ++ [.node cs[k].op cs[k].num (s.drop m)]) (.slice (some ⟨g6, 0, none⟩) (m + 1) cap6)) := OwnF.popK HO.out rfl hm HB.out.size HX.out HER.out.2.2.1 HER.out.2.1 HIW.out.1 HIW.out.2 (own_lower HOWN6.out (Nat.le_trans HB.out.size HER.out.2.2.1.size)) (fun j hj _ => HB6.out.block j hj) HB6.out.size (Or.inr ⟨g6, rfl, hge⟩)
            have HBB : Hid (Below w0.heap.size w0 w6) := (HB.out.trans (HER.out.2.2.1.mono HB.out.size)).trans (HB6.out.mono (Nat.le_trans HB.out.size HER.out.2.2.1.size))
            go_wp2_with fail
            go_roundw
            case rel => exact ⟨k + 1, _, g6, cap6, by omega, by go_num, by rw [List.length_append, List.length_take, Nat.min_eq_left hm]; rfl, HN, HP.out, HBB.out⟩
            case measure => simp [intOf]; omega
      · exfalso
        have h := runC_no HR.out hlt hok
        rw [HRC.out] at h
        cases h
    · have hke : k = cs.length := by omega
      have hst : s = [t] := by
        have h := HR.out
        rw [hke, List.take_length] at h
        have h2 := HRC.out
        rw [h] at h2
        exact (Option.some.injEq _ _ ▸ h2 : s = [t])
      subst hst
      obtain ⟨g', capg', xa, xb, xc, hv, hg', hcg, y0, y1, y2, rfl, rfl, hf⟩ := HO.out.single
      cases hv
      have HF := mkHid hf
      obtain ⟨adk, capk, rfl, -, -, -⟩ := id hf.on.btw_in
      have hz := (HB.out.block w.heap.size (by have := HS0.out; omega)).trans HZ0.out
      have r0 := cell_of_blk hz 0 _ rfl
      have r1 := cell_of_blk hz 1 _ rfl
      have r2 := cell_of_blk hz 2 _ rfl
      have rf := fun i => frz_of_blk hz i
      have hone : (([t] : List Tr).length : Int) = 1 := rfl
      clear hke hb hf hz
      go_wp2_with fail
      refine bodyPost_ret (v := .agg #[.int .i64 t.op, .int .i64 t.num, .slice adk t.kids.length capk]) (by simp [results, Try.results45, go_sem, r0, r1, r2]) rfl ⟨_, rfl, ?_, ?_⟩
      · refine Fresh.mono (lo := w0.heap.size) ?_ (by have := HS0.out; omega) (fun _ _ _ => rfl)
        have hlt0 : w.heap.size < w0.heap.size := by have := HS0.out; omega
        repeat' (refine Fresh.setCell ?_ (by simpa using hlt0) _)
        exact HF.out
      · repeat' (refine Below.setCell ?_ (by simp) _)
        exact HBA.out
end Go.Proofs.Ythknbafcnobgdaa
/-
  THE MODEL's COPY OF AN EXPRESSION (l1Copy): the same tree in new memory; nothing that was there is changed.
-/
namespace Go.Proofs.Ythknbafcnobgdaa
set_option linter.unusedVariables false
set_option linter.unusedSimpArgs false
open Go.RowKit

def CpSaid (t : Tr) : Prop := ∀ (c : Value) (w : World), In w t.kids c → szL t.kids ≤ 1048576 → I64 t.op → I64 t.num → Calls Try.prog 57 #[.agg #[.int .i64 t.op, .int .i64 t.num, c]] w (NewTr t.op t.num t.kids w)

/-- what holds behind k rounds of a loop that appends to the Kids of an expression of its own: the expression's block, the row, and all else as it was -/
def ApRel (o n : Int) (ts : List Tr) (B lo : Nat) (v : Value) (wr : World) : Prop := OwnTr wr lo ts v ∧ wr.heap[B]? = some (.cells #[.int .i64 o, .int .i64 n, v] 37)

/-- the step: the call has handed back a tree in new memory, a block for it was laid, append went through, and the value was stored -/
theorem apRel_step {o n : Int} {ts : List Tr} {B lo : Nat} {v v' : Value} {w w1 w2 w3 : World} {t : Tr} {c : Value} (h : ApRel o n ts B lo v w) (hB : B < lo) (hlo : lo ≤ w.heap.size) (hb : Below w.heap.size w w1) (hk : KidsOn w1 (Btw w.heap.size w1.heap.size) t.kids c) (ho : I64 t.op) (hn : I64 t.num)
    (he : w2 = w1.alloc (.cells #[.int .i64 t.op, .int .i64 t.num, c] 37)) (xs : List Value) (hx : w2.ownsRow lo 37 3 v ts.length xs)
    (hown : w3.ownsRow lo 37 3 v' (ts.length + 1) (xs ++ [.int .i64 t.op, .int .i64 t.num, c])) (hg : w2.grownBy w3 v.ownBlock) (hw : v'.ownBlock = v.ownBlock ∨ ∃ g, v'.ownBlock = some g ∧ w2.heap.size ≤ g)
    (hxs : ∀ j (hj : j < ts.length), ∃ a b c, xs[j * 3]? = some a ∧ xs[j * 3 + 1]? = some b ∧ xs[j * 3 + 2]? = some c ∧ TrOn w2 (fun k => lo ≤ k ∧ k < w2.heap.size ∧ some k ≠ v.ownBlock) ts[j] a b c) :
    ApRel o n (ts ++ [t]) B lo v' (w3.setCell ⟨B, 2, none⟩ v') := by
  subst he
  have hsz := hb.size
  have hOB : ∀ k, v.ownBlock = some k → lo ≤ k ∧ k < w.heap.size := by
    obtain ⟨xs', h1, _⟩ := h.1
    exact h1.lt
  have h2 : OwnTr (w1.alloc (.cells #[.int .i64 t.op, .int .i64 t.num, c] 37)) lo ts v := ⟨xs, hx, hxs⟩
  have hn3 := h2.step (t := t) (a := .int .i64 t.op) (b := .int .i64 t.num) (c := c) xs hx (by rw [Deep.nblk_alloc]; omega) hxs
    (trOn_iff.2 ⟨rfl, rfl, ho, hn, hk.mono (fun k hk => ⟨by have := hk.1; omega, by rw [Deep.nblk_alloc]; have := hk.2; omega, fun e => by have := (hOB k e.symm).2; have := hk.1; omega⟩) (fun k hk => Deep.blk_alloc_lt _ _ _ hk.2)⟩) hown hg hw
  have hBv : some B ≠ v.ownBlock := fun e => by have := (hOB B e.symm).1; omega
  have hB3 : w3.heap[B]? = some (.cells #[.int .i64 o, .int .i64 n, v] 37) := by
    rw [hg.block B (by rw [Deep.nblk_alloc]; omega) hBv, Deep.blk_alloc_lt _ _ _ (by omega), hb.block B (by omega)]
    exact h.2
  refine ⟨hn3.next (by rw [size_setCell]; exact Nat.le_refl _) (fun k h1 h2 => Below.heap_setCell _ _ _ _ (by show k ≠ B; omega)), ?_⟩
  simp [World.setCell, Array.getElem?_modify, hB3]

theorem ApRel.drew {o n : Int} {ts : List Tr} {B lo : Nat} {v : Value} {w : World} (h : ApRel o n ts B lo v w) : ApRel o n ts B lo v w.drew := ⟨h.1.next (Nat.le_refl _) (fun _ _ _ => rfl), h.2⟩
/-- ahead of append: the row, in the world with the new tree's block -/
theorem apRel_mid {o n : Int} {ts : List Tr} {B lo : Nat} {v : Value} {w w1 : World} (h : ApRel o n ts B lo v w) (hb : Below w.heap.size w w1) (obj : Obj) :
    ∃ xs, (w1.alloc obj).ownsRow lo 37 3 v ts.length xs ∧ ∀ j (hj : j < ts.length), ∃ a b c, xs[j * 3]? = some a ∧ xs[j * 3 + 1]? = some b ∧ xs[j * 3 + 2]? = some c ∧ TrOn (w1.alloc obj) (fun k => lo ≤ k ∧ k < (w1.alloc obj).heap.size ∧ some k ≠ v.ownBlock) ts[j] a b c :=
  h.1.next (w' := w1.alloc obj) (by rw [Deep.nblk_alloc]; have := hb.size; omega) (fun k _ hk => (Deep.blk_alloc_lt _ _ _ (Nat.lt_of_lt_of_le hk hb.size)).trans (hb.block k hk))
/-- behind append: the expression's own block -/
theorem apRel_blk {o n : Int} {ts : List Tr} {B lo : Nat} {v : Value} {w w1 w3 : World} {obj : Obj} (h : ApRel o n ts B lo v w) (hB : B < lo) (hlo : lo ≤ w.heap.size) (hb : Below w.heap.size w w1) (hg : (w1.alloc obj).grownBy w3 v.ownBlock) :
    w3.heap[B]? = some (.cells #[.int .i64 o, .int .i64 n, v] 37) := by
  have hsz := hb.size
  have hOB : ∀ k, v.ownBlock = some k → lo ≤ k ∧ k < w.heap.size := by
    obtain ⟨xs', h1, _⟩ := h.1
    exact h1.lt
  have hBv : some B ≠ v.ownBlock := fun e => by have := (hOB B e.symm).1; omega
  rw [hg.block B (by rw [Deep.nblk_alloc]; omega) hBv, Deep.blk_alloc_lt _ _ _ (by omega), hb.block B (by omega)]
  exact h.2
/-- .. and every other block that was there -/
theorem apRel_other {o n : Int} {ts : List Tr} {B lo : Nat} {v : Value} {w w1 w3 : World} {obj : Obj} (h : ApRel o n ts B lo v w) (hb : Below w.heap.size w w1) (hg : (w1.alloc obj).grownBy w3 v.ownBlock) (k : Nat) (hk : k < lo) (hkw : k < w.heap.size) : w3.heap[k]? = w.heap[k]? := by
  have hsz := hb.size
  have hOB : ∀ k, v.ownBlock = some k → lo ≤ k ∧ k < w.heap.size := by
    obtain ⟨xs', h1, _⟩ := h.1
    exact h1.lt
  rw [hg.block k (by rw [Deep.nblk_alloc]; omega) (fun e => by have := (hOB k e.symm).1; omega), Deep.blk_alloc_lt _ _ _ (by omega), hb.block k hkw]

/-- what holds behind k rounds of the copy -/
def CpRel (t : Tr) (box : Value) (w : World) (k : Nat) (wr : World) : Prop :=
  ∃ v, ApRel t.op t.num (t.kids.take k) (w.heap.size + 2) (w.heap.size + 3) v wr ∧ wr.heap[w.heap.size]? = some (.cells #[.int .i64 t.op, .int .i64 t.num, box] 37) ∧
    wr.heap[w.heap.size + 1]? = some (.cells #[.int .i64 0, .int .i64 0, .slice none 0 0] 37) ∧ Below w.heap.size w wr ∧ w.heap.size + 3 ≤ wr.heap.size

theorem cpRel_start (t : Tr) (box : Value) (w : World) : CpRel t box w 0 (((w.alloc (.cells #[.int .i64 t.op, .int .i64 t.num, box] 37)).alloc (.cells #[.int .i64 0, .int .i64 0, .slice none 0 0] 37)).alloc (.cells #[.int .i64 t.op, .int .i64 t.num, .slice none 0 0] 37)) := by
  have e1 : (w.alloc (.cells #[.int .i64 t.op, .int .i64 t.num, box] 37)).heap.size = w.heap.size + 1 := Deep.nblk_alloc _ _
  have e2 : ((w.alloc (.cells #[.int .i64 t.op, .int .i64 t.num, box] 37)).alloc (.cells #[.int .i64 0, .int .i64 0, .slice none 0 0] 37)).heap.size = w.heap.size + 2 := by rw [Deep.nblk_alloc, e1]
  refine ⟨.slice none 0 0, ⟨by simpa using OwnTr.nil _ _, ?_⟩, ?_, ?_, ?_, ?_⟩
  · rw [← e2]; exact Deep.blk_alloc_new _ _
  · rw [Deep.blk_alloc_lt _ _ _ (by rw [e2]; omega), Deep.blk_alloc_lt _ _ _ (by rw [e1]; omega)]; exact Deep.blk_alloc_new _ _
  · rw [Deep.blk_alloc_lt _ _ _ (by rw [e2]; omega)]; rw [← e1]; exact Deep.blk_alloc_new _ _
  · exact (((Below.refl _ _).alloc (Nat.le_refl _) _).alloc (by rw [e1]; omega) _).alloc (by rw [e2]; omega) _
  · rw [Deep.nblk_alloc, e2]; omega



set_option maxRecDepth 100000 in
set_option maxHeartbeats 1600000 in
theorem cp_step (t : Tr) (ih : ∀ i (hi : i < t.kids.length), CpSaid (t.kids[i])) : CpSaid t := by
  intro c w hk hsz ho hn
  have HI : Hid (∀ i (hi : i < t.kids.length), CpSaid (t.kids[i])) := ih
  have HK : Hid (In w t.kids c) := hk
  have HZ : Hid (szL t.kids ≤ 1048576) := hsz
  clear ih hsz
  obtain ⟨ad, cap, rfl, hl, hm, -⟩ := hk
  unfold maxLen at hm
  go_enter Try.func57, Try.ntmps57
  go_wp2_with fail
  obtain ⟨iE, zE, hiE, hzE, hsE, hbE, hcE⟩ := infoE3
  have HE : Hid (Try.prog.info? 37 = some iE ∧ iE.zero = some zE ∧ iE.size = 3 ∧ iE.bytes = 40 ∧ zE.cells.size = 3) := ⟨hiE, hzE, hsE, hbE, hcE⟩
  clear hiE hzE hsE hbE hcE
  go_loopw [4] (fun i wr => ∃ k : Nat, k ≤ t.kids.length ∧ i = .int .i64 k ∧ CpRel t (.slice ad t.kids.length cap) w k wr) (fun i _ => t.kids.length - (intOf i).toNat)
  case atStart => exact ⟨0, Nat.zero_le _, rfl, cpRel_start t _ w⟩
  case round =>
    obtain ⟨k, hk, rfl, hcp⟩ := hrel
    obtain ⟨v, hap, hb0, hb1, hbl, hsz⟩ := hcp
    have HAP : Hid (ApRel t.op t.num (t.kids.take k) (w.heap.size + 2) (w.heap.size + 3) v wr) := hap
    have c2 := cell_of_blk hb0 2 _ rfl
    have o0 := cell_of_blk hap.2 0 _ rfl
    have o1 := cell_of_blk hap.2 1 _ rfl
    have o2 := cell_of_blk hap.2 2 _ rfl
    have f2 := frz_of_blk hap.2 2
    have HB0 : Hid (wr.heap[w.heap.size]? = some (.cells #[.int .i64 t.op, .int .i64 t.num, .slice ad t.kids.length cap] 37)) := hb0
    have HB1 : Hid (wr.heap[w.heap.size + 1]? = some (.cells #[.int .i64 0, .int .i64 0, .slice none 0 0] 37)) := hb1
    have HBW : Hid (Below w.heap.size w wr) := hbl
    clear hap hb0 hb1 hbl
    by_cases hlt : k < t.kids.length
    · obtain ⟨ad', cap', he, -, -, hr⟩ := HK.out.next HBW.out
      cases he
      rcases hr with hnil | ⟨bl, off, rfl, -, hr⟩
      · rw [hnil] at hlt; simp at hlt
      obtain ⟨p, q, r, e0, e1, e2, ht⟩ := RowOn.at t.kids off k hlt hr
      obtain ⟨rfl, rfl, io, iN, hkk⟩ := trOn_iff.1 ht
      have HKK : Hid (In wr t.kids[k].kids r) := hkk
      have HZK : Hid (szL t.kids[k].kids ≤ 1048576) := by have := szL_kids_lt t.kids k hlt; have := HZ.out; unfold Hid; omega
      clear hkk ht hr
      go_wp2_with fail
      have hkl : (t.kids.take k).length = k := by simp; omega
      have HKL : Hid ((t.kids.take k).length = k) := hkl
      have hkb : k < 1048576 := by have := HZ.out; rw [szL_sum] at this; omega
      clear hkl
      go_region_law (first
        | (go_simp; go_at_call 57; go_must (refine (HI.out k hlt r _ ?_ HZK.out io iN).mono ?_); go_must (exact HKK.out.drew); go_must (rintro e w1 ⟨v2, rfl, hv2, hbb⟩); go_must (obtain ⟨ad2, cap2, rfl, _, _, _⟩ := id hv2); go_must (have HV2 : Hid (KidsOn w1 (Btw wr.heap.size w1.heap.size) t.kids[k].kids (.slice ad2 t.kids[k].kids.length cap2)) := hv2); go_must (have HBB : Hid (Below wr.heap.size wr w1) := (Below.refl _ _).drew.trans hbb); go_must (have z2 := (HBB.out.cell (p := ⟨w.heap.size + 2, 2, none⟩) (by show w.heap.size + 2 < wr.heap.size; omega)).trans o2); go_must (have hz1 : w.heap.size + 2 < w1.heap.size := by have := HBB.out.size; omega); clear hv2 hbb; go_wp2_with fail)
        | (go_must (obtain ⟨xs, hx, hxs⟩ := apRel_mid HAP.out HBB.out (.cells #[.int .i64 t.kids[k].op, .int .i64 t.kids[k].num, .slice ad2 t.kids[k].kids.length cap2] 37)); go_must (have HX : Hid _ := hx); go_must (rw [HKL.out] at hx); go_must (refine step_append_where rfl (.tmp 18) (.tmp 25) 35 rfl (w.heap.size + 3) 37 iE zE 3 40 Try.underlying35 HE.out.1 HE.out.2.1 HE.out.2.2.1 HE.out.2.2.2.1 HE.out.2.2.2.2 (by decide) v k xs (by simp [Act.eval, Act.put]) hx ⟨w1.heap.size, 0, none⟩ 1 1 [.int .i64 t.kids[k].op, .int .i64 t.kids[k].num, .slice ad2 t.kids[k].kids.length cap2] (by simp [Act.eval, Act.put]) rfl (news3 w1 _ _ _) (by simp [Value.oneCell']) (by unfold maxLen; omega) (by omega) (by rw [Deep.nblk_alloc]; have := HBB.out.size; omega) (by omega) ?_); go_must (intro v' w3 hown hg hw); go_must (obtain ⟨g', c', rfl⟩ := Joins.ownsRow_form hown (by omega)); go_must (have hB3 := apRel_blk HAP.out (by omega) hsz HBB.out hg); go_must (have s2 := cell_of_blk hB3 2 _ rfl); go_must (have sf := frz_of_blk hB3 2); clear hB3))
      all_goals
        have HV : Hid (CpRel t (.slice (some ⟨bl, off, none⟩) t.kids.length cap) w (k + 1) (w3.setCell ⟨w.heap.size + 2, 2, none⟩ (.slice (some ⟨g', 0, none⟩) (k + 1) c'))) := by
          have hst := apRel_step (t := t.kids[k]) HAP.out (by omega) hsz HBB.out HV2.out io iN rfl xs HX.out (by rw [HKL.out]; exact hown) hg hw hxs
          have hoth := fun j hj hjw => apRel_other HAP.out HBB.out hg j hj hjw
          have hz3 : wr.heap.size ≤ w3.heap.size := by have := HBB.out.size; have := hg.size; rw [Deep.nblk_alloc] at this; omega
          refine ⟨.slice (some ⟨g', 0, none⟩) (k + 1) c', ?_, ?_, ?_, ?_, ?_⟩
          · rw [show t.kids.take (k + 1) = t.kids.take k ++ [t.kids[k]] from List.take_succ_eq_append_getElem hlt]
            exact hst
          · rw [Below.heap_setCell _ _ _ _ (by show w.heap.size ≠ w.heap.size + 2; omega), hoth _ (by omega) (by omega)]; exact HB0.out
          · rw [Below.heap_setCell _ _ _ _ (by show w.heap.size + 1 ≠ w.heap.size + 2; omega), hoth _ (by omega) (by omega)]; exact HB1.out
          · refine Below.setCell ?_ (by show w.heap.size ≤ w.heap.size + 2; omega) _
            have hbw := HBW.out
            have hbb := HBB.out
            exact ⟨by rw [hg.os]; exact hbb.os.trans hbw.os, by rw [hg.tape]; exact hbb.tape.trans hbw.tape, by rw [hg.output]; exact hbb.output.trans hbw.output, Nat.le_trans hbw.size hz3, fun j hj => (hoth j (by omega) (by omega)).trans (hbw.block j hj)⟩
          · rw [size_setCell]; omega
        clear hg hw hown hxs hx s2 sf
        go_wp2_with fail
        go_roundw
        case rel => exact ⟨k + 1, by omega, by go_num, HV.out⟩
        case measure => simp [intOf]; omega
    · have hke : t.kids.length = k := by omega
      have HN : Hid (KidsOn wr (Btw (w.heap.size + 3) wr.heap.size) t.kids v) := by
        have h1 := HAP.out.1
        rw [← hke, List.take_length] at h1
        exact h1.kids
      have hform : (v = .slice none 0 0 ∧ True) ∨ ∃ g c, v = .slice (some ⟨g, 0, none⟩) t.kids.length c := by
        obtain ⟨xs, h1, _⟩ := HAP.out.1
        rw [← hke, List.take_length] at h1
        rcases Joins.ownsRow_forms h1 with ⟨h, _⟩ | h
        · exact Or.inl ⟨h, trivial⟩
        · exact Or.inr h
      have r0 := cell_of_blk HB1.out 0 _ rfl
      have r1 := cell_of_blk HB1.out 1 _ rfl
      have r2 := cell_of_blk HB1.out 2 _ rfl
      have q0 := frz_of_blk HB1.out 0
      have q1 := frz_of_blk HB1.out 1
      have q2 := frz_of_blk HB1.out 2
      clear hke
      rcases hform with ⟨rfl, -⟩ | ⟨g, c', rfl⟩
      all_goals
        go_wp2_with fail
        refine bodyPost_ret (v := .agg #[.int .i64 t.op, .int .i64 t.num, _]) (by simp [results, Try.results57, go_sem, r0, r1, r2]; rfl) rfl ⟨_, rfl, ?_, ?_⟩
        · simp only [size_setCell]
          exact (((HN.out.setCell (by simp [Btw] <;> omega) _).setCell (by simp [Btw] <;> omega) _).setCell (by simp [Btw] <;> omega) _).mono (fun k hk => ⟨by have := hk.1; omega, hk.2⟩) (fun _ _ => rfl)
        · exact ((HBW.out.setCell (by simp) _).setCell (by simp) _).setCell (by simp) _

/-- THE COPY, FOR EVERY TREE -/
theorem cp_any : ∀ (n : Nat) (t : Tr), szT t ≤ n → CpSaid t := by
  intro n
  induction n with
  | zero =>
    intro t h
    exact cp_step t fun i hi => absurd (szT_lt_szL t.kids i hi) (by rw [szT_eq] at h; omega)
  | succ n ih =>
    intro t h
    exact cp_step t fun i hi => ih _ (by have := szT_lt_szL t.kids i hi; rw [szT_eq] at h; omega)
theorem cp_calls (t : Tr) : CpSaid t := cp_any _ t (Nat.le_refl _)
end Go.Proofs.Ythknbafcnobgdaa
/-
  THE MODEL's CodeValid AND DecompileCode.
-/
namespace Go.Proofs.Ythknbafcnobgdaa
set_option linter.unusedVariables false
set_option linter.unusedSimpArgs false
open Go.RowKit

theorem validB_isB (t : Tr) (vars defs : Int) (h : 0 ≤ vars ∧ vars ≤ 4 ∧ 0 ≤ defs ∧ defs ≤ 6) : validB t vars defs = isB t vars defs := by
  unfold validB isB
  rw [decide_eq_true h, Bool.true_and]
  congr 1
  exact decide_eq_decide.2 (by omega)
theorem codeB_bounds {cs : List Ins} {vars defs : Int} (h : ¬ (0 ≤ vars ∧ vars ≤ 4 ∧ 0 ≤ defs ∧ defs ≤ 6 ∧ cs.length ≤ 60)) : codeB cs vars defs = false := by
  by_cases hl : cs.length ≤ 60
  · cases e : oneC cs with
    | none => exact codeB_none e
    | some t =>
      rw [codeB_one e hl]
      unfold validB
      rw [decide_eq_false (fun hh => h ⟨hh.1, hh.2.1, hh.2.2.1, hh.2.2.2, hl⟩), Bool.false_and]
  · exact codeB_long (by omega)

set_option maxRecDepth 100000 in
set_option maxHeartbeats 1600000 in
theorem specCodeV_calls (cs : List Ins) (vars defs : Int) (c : Value) (w : World) (hk : InsIn w cs c) (hl : cs.length ≤ 1048576) (hw : ∀ c ∈ cs, I64 c.op ∧ I64 c.num) : Calls Try.prog 10 #[c, .int .i64 vars, .int .i64 defs] w fun e w' => e = .returned (.bool (codeB cs vars defs)) ∧ Below w.heap.size w w' := by
  have HK : Hid (InsIn w cs c) := hk
  have HW := mkHid hw
  obtain ⟨ad, cap, rfl, -, -, -⟩ := hk
  clear hw
  by_cases hbd : 0 ≤ vars ∧ vars ≤ 4 ∧ 0 ≤ defs ∧ defs ≤ 6 ∧ cs.length ≤ 60
  · have HBD := mkHid hbd
    obtain ⟨b1, b2, b3, b4, b5⟩ := hbd
    have n1 : ¬ (vars < 0) := by omega
    have n2 : ¬ (4 < vars) := by omega
    have n3 : ¬ (defs < 0) := by omega
    have n4 : ¬ (6 < defs) := by omega
    have n5 : ¬ ((60 : Int) < (cs.length : Int)) := by omega
    clear b1 b2 b3 b4 b5
    go_enter Try.func10, Try.ntmps10
    go_wp2_with fail
    go_loopw [7] (fun i wr => ∃ k : Nat, k ≤ cs.length ∧ i = .int .i64 k ∧ Below w.heap.size w wr) (fun i _ => cs.length - (intOf i).toNat)
    case atStart => exact ⟨0, Nat.zero_le _, rfl, Below.refl _ _⟩
    case round =>
      obtain ⟨k, hk, rfl, hb⟩ := hrel
      have HB := mkHid hb
      clear n1 n2 n3 n4 n5
      by_cases hlt : k < cs.length
      · obtain ⟨bl, off, rfl, -, c0, c1⟩ := (HK.out.next hb).at k hlt
        clear hb
        have hq := l8Own_calls cs[k].op cs[k].num vars defs wr
        cases hown : (decide (0 ≤ arity cs[k].op) && ownB cs[k].op cs[k].num vars defs) with
        | true =>
          rw [hown] at hq
          clear hown
          go_wp2_with fail
          refine hq.mono ?_
          rintro e w1 ⟨rfl, hb1⟩
          have HB1 : Hid (Below w.heap.size w w1) := HB.out.trans (hb1.mono HB.out.size)
          clear hb1
          go_wp2_with fail
          go_roundw
          case rel => exact ⟨k + 1, by omega, by go_num, HB1.out⟩
          case measure => simp [intOf]; omega
        | false =>
          rw [hown] at hq
          have HV : Hid (codeB cs vars defs = false) := codeB_own hlt (fun h => by rw [decide_eq_true h.1, h.2] at hown; cases hown)
          clear hown
          go_wp2_with fail
          refine hq.mono ?_
          rintro e w1 ⟨rfl, hb1⟩
          have HB1 : Hid (Below w.heap.size w w1) := HB.out.trans (hb1.mono HB.out.size)
          clear hb1
          go_wp2_with fail
          go_ret
          exact ⟨ret_bool HV.out.symm, HB1.out⟩
      · clear hb hk
        have hq := mkHid (l8Depths_calls cs _ wr (HK.out.next HB.out) hl)
        cases hd : dsC [] cs with
        | none =>
          have HD := mkHid hd
          have HV : Hid (codeB cs vars defs = false) := codeB_none (oneC_none (fun ds h => by rw [hd] at h; cases h))
          clear hd
          go_wp2_with fail
          refine hq.out.mono ?_
          rintro e w1 ⟨v, rfl, hst, hb1⟩
          rw [HD.out] at hst ⊢
          obtain ⟨adv, nv, capv, rfl⟩ := hst.form
          have HB1 : Hid (Below w.heap.size w w1) := HB.out.trans (hb1.mono HB.out.size)
          clear hb1 hst
          go_wp2_with fail
          go_ret
          exact ⟨ret_bool HV.out.symm, HB1.out⟩
        | some ds =>
          have HD := mkHid hd
          by_cases ht : topH ds = 1
          · obtain ⟨t, hrt⟩ := oneC_top hd ht
            have HT : Hid (decide (topH ds = 1) = true) := decide_eq_true ht
            have HRT := mkHid hrt
            have HV : Hid (codeB cs vars defs = isB t vars defs) := by
              rw [Hid, codeB_one (oneC_of hrt) HBD.out.2.2.2.2]
              exact validB_isB t vars defs ⟨HBD.out.1, HBD.out.2.1, HBD.out.2.2.1, HBD.out.2.2.2.1⟩
            clear hd ht hrt
            go_wp2_with fail
            refine hq.out.mono ?_
            rintro e w1 ⟨v, rfl, hst, hb1⟩
            rw [HD.out] at hst ⊢
            obtain ⟨adv, nv, capv, rfl⟩ := hst.form
            have HB1 : Hid (Below w.heap.size w w1) := HB.out.trans (hb1.mono HB.out.size)
            clear hb1 hst
            simp only [HT.out]
            go_wp2_with fail
            refine (l8Expr_calls cs t _ w1 (HK.out.next HB1.out) hl HW.out HRT.out).mono ?_
            rintro e w2 ⟨v2, rfl, hf, hb2⟩
            have HB2 : Hid (Below w.heap.size w w2) := HB1.out.trans (hb2.mono HB1.out.size)
            have HF : Hid (In w2 t.kids v2) := hf.on.btw_in
            clear hb2 hf
            obtain ⟨adk, capk, rfl, -, -, -⟩ := id HF.out
            go_wp2_with fail
            refine (l1Is_calls t vars defs _ w2 HF.out).mono ?_
            rintro e w3 ⟨rfl, hb3⟩
            have HB3 : Hid (Below w.heap.size w w3) := HB2.out.trans (hb3.mono HB2.out.size)
            clear hb3
            go_wp2_with fail
            go_ret
            exact ⟨ret_bool HV.out.symm, HB3.out⟩
          · have HT : Hid (decide (topH ds = 1) = false) := decide_eq_false ht
            have HV : Hid (codeB cs vars defs = false) := codeB_none (oneC_none (fun ds' h => by rw [hd] at h; cases h; exact ht))
            clear hd ht
            go_wp2_with fail
            refine hq.out.mono ?_
            rintro e w1 ⟨v, rfl, hst, hb1⟩
            rw [HD.out] at hst ⊢
            obtain ⟨adv, nv, capv, rfl⟩ := hst.form
            have HB1 : Hid (Below w.heap.size w w1) := HB.out.trans (hb1.mono HB.out.size)
            clear hb1 hst
            simp only [HT.out]
            go_wp2_with fail
            go_ret
            exact ⟨ret_bool HV.out.symm, HB1.out⟩
  · have HV : Hid (codeB cs vars defs = false) := codeB_bounds hbd
    have hcase : vars < 0 ∨ (¬ vars < 0 ∧ 4 < vars) ∨ (¬ vars < 0 ∧ ¬ 4 < vars ∧ defs < 0) ∨ (¬ vars < 0 ∧ ¬ 4 < vars ∧ ¬ defs < 0 ∧ 6 < defs) ∨ (¬ vars < 0 ∧ ¬ 4 < vars ∧ ¬ defs < 0 ∧ ¬ 6 < defs ∧ (60 : Int) < (cs.length : Int)) := by omega
    clear hbd
    rcases hcase with h1 | ⟨h1, h2⟩ | ⟨h1, h2, h3⟩ | ⟨h1, h2, h3, h4⟩ | ⟨h1, h2, h3, h4, h5⟩
    all_goals
      go_enter Try.func10, Try.ntmps10
      go_wp2_with fail
      go_ret
      exact ⟨ret_bool HV.out.symm, Below.refl _ _⟩

/-- a tree, and whether there is one -/
def DecIn (r : Tr × Bool) (w : World) (e : Ending) (w' : World) : Prop :=
  ∃ v, e = .returned (.tuple #[.agg #[.int .i64 r.1.op, .int .i64 r.1.num, v], .bool r.2]) ∧ In w' r.1.kids v ∧ Below w.heap.size w w'
set_option maxRecDepth 100000 in
set_option maxHeartbeats 1600000 in
theorem specDec_calls (cs : List Ins) (c : Value) (w : World) (hk : InsIn w cs c) (hl : cs.length ≤ 1048576) (hw : ∀ c ∈ cs, I64 c.op ∧ I64 c.num) : Calls Try.prog 22 #[c] w (DecIn (decO cs 4 6) w) := by
  have HB0 : Hid (Below w.heap.size w (w.alloc (.cells #[.int .i64 0, .int .i64 0, .slice none 0 0] 37))) := box_below _ _
  have HZ0 : Hid ((w.alloc (.cells #[.int .i64 0, .int .i64 0, .slice none 0 0] 37)).heap[w.heap.size]? = some (.cells #[.int .i64 0, .int .i64 0, .slice none 0 0] 37)) := Deep.blk_alloc_new _ _
  have HQ := mkHid (specCodeV_calls cs 4 6 c (w.alloc (.cells #[.int .i64 0, .int .i64 0, .slice none 0 0] 37)) (hk.next HB0.out) hl hw)
  have HK := mkHid hk
  have HW := mkHid hw
  obtain ⟨ad, cap, rfl, -, -, -⟩ := hk
  clear hw
  cases hv : codeB cs 4 6 with
  | false =>
    have HV := mkHid (decO_false hv)
    rw [hv] at HQ
    clear hv
    go_enter Try.func22, Try.ntmps22
    go_wp2_with fail
    refine HQ.out.mono ?_
    rintro e w1 ⟨rfl, hb⟩
    have hz1 := (hb.block w.heap.size (by rw [Deep.nblk_alloc]; omega)).trans HZ0.out
    have HB1 : Hid (Below w.heap.size w w1) := HB0.out.trans (hb.mono HB0.out.size)
    have r0 := cell_of_blk hz1 0 _ rfl
    have r1 := cell_of_blk hz1 1 _ rfl
    have r2 := cell_of_blk hz1 2 _ rfl
    have rf := fun i => frz_of_blk hz1 i
    clear hb hz1
    go_wp2_with fail
    refine bodyPost_ret (v := .tuple #[.agg #[.int .i64 0, .int .i64 0, .slice none 0 0], .bool false]) (by simp [results, Try.results22, go_sem, r0, r1, r2]) rfl ?_
    rw [HV.out]
    refine ⟨_, rfl, ⟨none, 0, rfl, Nat.le_refl _, by simp [maxLen], Or.inl rfl⟩, ?_⟩
    repeat' (refine Below.setCell ?_ (by simp) _)
    exact HB1.out
  | true =>
    obtain ⟨t, ht, hd⟩ := decO_true hv
    have HV := mkHid hd
    have HRT := mkHid (oneC_some ht)
    have HLN : Hid (szL t.kids ≤ 1048576) := by
      have h := runC_sz HRT.out
      rw [szL_sum [t]] at h
      simp only [sumT_cons, sumT_nil, List.length_cons, List.length_nil] at h
      have h2 := szT_eq t
      have h3 : szL ([] : List Tr) = 0 := rfl
      unfold Hid
      omega
    have HI : Hid (I64 t.op ∧ I64 t.num) := (allN_iff.1 (((runC_all HRT.out (R := fun o n => I64 o ∧ I64 n)).2 ⟨by simp, HW.out⟩) t (by simp))).1
    rw [hv] at HQ
    clear hv ht hd
    go_enter Try.func22, Try.ntmps22
    go_wp2_with fail
    refine HQ.out.mono ?_
    rintro e w1 ⟨rfl, hb⟩
    have hz1 := (hb.block w.heap.size (by rw [Deep.nblk_alloc]; omega)).trans HZ0.out
    have HZ1 := mkHid hz1
    have HB1 : Hid (Below w.heap.size w w1) := HB0.out.trans (hb.mono HB0.out.size)
    clear hb hz1
    go_wp2_with fail
    refine (l8Expr_calls cs t _ w1 (HK.out.next HB1.out) hl HW.out HRT.out).mono ?_
    rintro e w2 ⟨v2, rfl, hf, hb2⟩
    have HZ2 := mkHid ((hb2.block w.heap.size (Array.getElem?_eq_some_iff.1 HZ1.out).1).trans HZ1.out)
    have HB2 : Hid (Below w.heap.size w w2) := HB1.out.trans (hb2.mono HB1.out.size)
    have HF : Hid (In w2 t.kids v2) := hf.on.btw_in
    clear hb2 hf
    obtain ⟨adk, capk, rfl, -, -, -⟩ := id HF.out
    go_wp2_with fail
    refine (cp_calls t _ w2 HF.out HLN.out HI.out.1 HI.out.2).mono ?_
    rintro e w3 ⟨v3, rfl, hn, hb3⟩
    have hz3 := (hb3.block w.heap.size (Array.getElem?_eq_some_iff.1 HZ2.out).1).trans HZ2.out
    have HB3 : Hid (Below w.heap.size w w3) := HB2.out.trans (hb3.mono HB2.out.size)
    have HN : Hid (KidsOn w3 (Btw w2.heap.size w3.heap.size) t.kids v3) := hn
    have HLT : Hid (w.heap.size < w2.heap.size) := (Array.getElem?_eq_some_iff.1 HZ2.out).1
    have r0 := cell_of_blk hz3 0 _ rfl
    have r1 := cell_of_blk hz3 1 _ rfl
    have r2 := cell_of_blk hz3 2 _ rfl
    have rf := fun i => frz_of_blk hz3 i
    clear hb3 hz3
    obtain ⟨ad3, cap3, rfl, -, -, -⟩ := hn
    go_wp2_with fail
    refine bodyPost_ret (v := .tuple #[.agg #[.int .i64 t.op, .int .i64 t.num, .slice ad3 t.kids.length cap3], .bool true]) (by simp [results, Try.results22, go_sem, r0, r1, r2]) rfl ?_
    rw [HV.out]
    refine ⟨_, rfl, ?_, ?_⟩
    · have hnot : ¬ Btw w2.heap.size w3.heap.size w.heap.size := fun h => by have := h.1; have := HLT.out; omega
      refine KidsOn.mono (S := Btw w2.heap.size w3.heap.size) ?_ (fun q hq => by have := hq.2; simp only [Lt, size_setCell]; omega) (fun _ _ => rfl)
      repeat' (refine KidsOn.setCell ?_ hnot _)
      exact HN.out
    · repeat' (refine Below.setCell ?_ (by simp) _)
      exact HB3.out
end Go.Proofs.Ythknbafcnobgdaa
/-
  THE PROGRAM's CodeValid AND DecompileCode.
-/
namespace Go.Proofs.Ythknbafcnobgdaa
set_option linter.unusedVariables false
set_option linter.unusedSimpArgs false
open Go.RowKit

set_option maxHeartbeats 800000 in
theorem implCodeV_calls (cs : List Ins) (vars defs : Int) (c : Value) (w : World) (hk : InsIn w cs c) (hl : cs.length ≤ 1048576) (hw : ∀ c ∈ cs, I64 c.op ∧ I64 c.num) : Calls Try.prog 12 #[c, .int .i64 vars, .int .i64 defs] w fun e w' => e = .returned (.bool (codeB cs vars defs)) ∧ Below w.heap.size w w' := by
  have HQ := mkHid (decompile_calls cs vars defs c w hk hl hw)
  have HV := mkHid (decO_valid (cs := cs) (vars := vars) (defs := defs))
  obtain ⟨r, hr⟩ : ∃ r, r = decO cs vars defs := ⟨_, rfl⟩
  rw [← hr] at HQ HV
  clear hr hw hk
  go_enter Try.func12, Try.ntmps12
  go_wp2_with fail
  refine HQ.out.mono ?_
  rintro e w1 ⟨v, rfl, hf, -, -, hb⟩
  have HB1 : Hid (Below w.heap.size w w1) := hb
  obtain ⟨ad, cap, rfl, -, -, -⟩ := hf.on.btw_in
  clear hb hf
  go_wp2_with fail
  go_ret
  rw [HV.out]
  exact ⟨rfl, HB1.out.trans ((box_below _ _).mono HB1.out.size)⟩

set_option maxHeartbeats 800000 in
theorem implDec_calls (cs : List Ins) (c : Value) (w : World) (hk : InsIn w cs c) (hl : cs.length ≤ 1048576) (hw : ∀ c ∈ cs, I64 c.op ∧ I64 c.num) : Calls Try.prog 23 #[c] w (DecGot (decO cs 4 6) w) := by
  have HB0 : Hid (Below w.heap.size w (w.alloc (.cells #[.int .i64 0, .int .i64 0, .slice none 0 0] 37))) := box_below _ _
  have HQ := mkHid (decompile_calls cs 4 6 c (w.alloc (.cells #[.int .i64 0, .int .i64 0, .slice none 0 0] 37)) (hk.next HB0.out) hl hw)
  obtain ⟨r, hr⟩ : ∃ r, r = decO cs 4 6 := ⟨_, rfl⟩
  rw [← hr] at HQ ⊢
  clear hr hw hk
  go_enter Try.func23, Try.ntmps23
  go_wp2_with fail
  refine HQ.out.mono ?_
  rintro e w1 ⟨v, rfl, hf, h1, h2, hb⟩
  have HF : Hid (Fresh w1 (w.heap.size + 1) r.1.kids v) := by rw [Deep.nblk_alloc] at hf; exact hf
  have HI := mkHid (And.intro h1 h2)
  have hz1 := (hb.block w.heap.size (by rw [Deep.nblk_alloc]; omega)).trans (Deep.blk_alloc_new w (.cells #[.int .i64 0, .int .i64 0, .slice none 0 0] 37))
  have HB1 : Hid (Below w.heap.size w w1) := HB0.out.trans (hb.mono HB0.out.size)
  have r0 := cell_of_blk hz1 0 _ rfl
  have r1 := cell_of_blk hz1 1 _ rfl
  have r2 := cell_of_blk hz1 2 _ rfl
  have rf := fun i => frz_of_blk hz1 i
  obtain ⟨ad, cap, rfl, -, -, -⟩ := hf.on.btw_in
  clear hb hf hz1 h1 h2
  go_wp2_with fail
  refine bodyPost_ret (v := .tuple #[.agg #[.int .i64 r.1.op, .int .i64 r.1.num, .slice ad r.1.kids.length cap], .bool r.2]) (by simp [results, Try.results23, go_sem, r0, r1, r2]) rfl ⟨_, rfl, ?_, HI.out.1, HI.out.2, ?_⟩
  · refine Fresh.mono (lo := w.heap.size + 1) ?_ (Nat.le_succ _) (fun _ _ _ => rfl)
    repeat' (refine Fresh.setCell ?_ (by simp) _)
    exact HF.out
  · repeat' (refine Below.setCell ?_ (by simp) _)
    exact HB1.out
end Go.Proofs.Ythknbafcnobgdaa
