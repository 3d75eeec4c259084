/-
  THE MODEL's SizeOf: how many nodes a tree has; nothing that was there is changed.
-/
import Derived.Test.YticoegjackgldaaPlain
import Derived.Test.YticoegjackgldaaProg
import Derived.Deep.RegionHeld3
import Derived.Deep.RegionWith
import Derived.Deep.DeepMust
namespace Go.Proofs.Yticoegjackgldaa
set_option linter.unusedVariables false
set_option linter.unusedSimpArgs false
open Go.RowKit

def SzOfSaid (t : Tr) : Prop := ∀ (o n : Int) (c : Value) (w : World), In w t.kids c → szT t ≤ 1048576 →
  Calls Try.prog 36 #[.agg #[.int .i64 o, .int .i64 n, c]] w fun e w' => e = .returned (.int .i64 (1 + (szT t : Int))) ∧ Below w.heap.size w w'

set_option maxHeartbeats 400000 in
theorem szOf_step (t : Tr) (ih : ∀ i (hi : i < t.kids.length), SzOfSaid (t.kids[i])) : SzOfSaid t := by
  intro o n c w hk hsz
  have HI : Hid (∀ i (hi : i < t.kids.length), SzOfSaid (t.kids[i])) := ih
  have HK : Hid (In w t.kids c) := hk
  have HZ : Hid (szT t ≤ 1048576) := hsz
  have e1 : szT t = t.kids.length + sumT t.kids := by rw [szT_eq, szL_sum]
  clear ih
  obtain ⟨ad, cap, rfl, hl, hm, -⟩ := hk
  unfold maxLen at hm
  have hb0 := box_below w (.cells #[.int .i64 o, .int .i64 n, .slice ad t.kids.length cap] 29)
  have c2 := box_cell w #[.int .i64 o, .int .i64 n, .slice ad t.kids.length cap] 29 2 _ rfl
  have hz0 : w.heap.size < (w.alloc (.cells #[.int .i64 o, .int .i64 n, .slice ad t.kids.length cap] 29)).heap.size := by rw [Deep.nblk_alloc]; omega
  go_enter Try.func36, Try.ntmps36
  go_wp2_with fail
  generalize w.alloc (.cells #[.int .i64 o, .int .i64 n, .slice ad t.kids.length cap] 29) = wx at *
  go_loopw [3, 4] (fun l i wr => ∃ k : Nat, k ≤ t.kids.length ∧ i = .int .i64 k ∧ l = .int .i64 (1 + (k : Int) + (sumT (t.kids.take k) : Int)) ∧ Below wx.heap.size wx wr) (fun _ i _ => t.kids.length - (intOf i).toNat)
  case atStart => exact ⟨0, Nat.zero_le _, rfl, by simp [sumT], Below.refl _ _⟩
  case round =>
    obtain ⟨k, hk, rfl, rfl, hb⟩ := hrel
    have cr : wr.cell? ⟨w.heap.size, 2, none⟩ = some (.slice ad t.kids.length cap) := (hb.cell (p := ⟨w.heap.size, 2, none⟩) hz0).trans c2
    have hle := sumT_take_le t.kids k
    have HB : Hid (Below wx.heap.size wx wr) := hb
    have HB' : Hid (Below w.heap.size w wr) := hb0.trans (hb.mono (Nat.le_of_lt hz0))
    clear c2
    by_cases hlt : k < t.kids.length
    · have hrow' := (HK.out.next hb0).next hb
      obtain ⟨ad', cap', he, -, -, hr⟩ := hrow'
      cases he
      rcases hr with hnil | ⟨bl, off, rfl, -, hr⟩
      · rw [hnil] at hlt; simp at hlt
      obtain ⟨p, q, r, e0, e1', e2, ht⟩ := RowOn.at t.kids off k hlt hr
      obtain ⟨rfl, rfl, -, -, hkk⟩ := trOn_iff.1 ht
      have HKK : Hid (In wr t.kids[k].kids r) := hkk
      have hks := sumT_take_succ t.kids k hlt
      have hks2 := sumT_take_le t.kids (k + 1)
      clear hkk ht hr hb hb0
      go_wp2_with fail
      refine (HI.out k hlt _ _ r wr HKK.out (by omega)).mono ?_
      rintro e w1 ⟨rfl, hb1⟩
      have HB1 : Hid (Below wx.heap.size wx w1) := HB.out.trans (hb1.mono HB.out.size)
      clear hb1
      go_wp2_with fail
      go_roundw
      case rel => exact ⟨k + 1, by omega, by go_num, congrArg (Value.int .i64) (by omega), HB1.out⟩
      case measure => simp [intOf]; omega
    · have hke : t.kids.length = k := by omega
      have HV : Hid (1 + (szT t : Int) = 1 + (k : Int) + (sumT (t.kids.take k) : Int)) := by
        show (_ : Int) = _
        rw [e1, ← hke, List.take_length]; push_cast; omega
      clear hke hb hb0
      go_wp2_with fail
      go_ret
      exact ⟨ret_int HV.out.symm, HB'.out⟩

theorem szOf_any : ∀ (n : Nat) (t : Tr), szT t ≤ n → SzOfSaid t := by
  intro n
  induction n with
  | zero =>
    intro t h
    exact szOf_step t fun i hi => absurd (szT_lt_szL t.kids i hi) (by rw [szT_eq] at h; omega)
  | succ n ih =>
    intro t h
    exact szOf_step t fun i hi => ih _ (by have := szT_lt_szL t.kids i hi; rw [szT_eq] at h; omega)

/-- THE MODEL's SIZE, FOR EVERY TREE -/
theorem szOf_calls (t : Tr) : SzOfSaid t := szOf_any _ t (Nat.le_refl _)
end Go.Proofs.Yticoegjackgldaa
