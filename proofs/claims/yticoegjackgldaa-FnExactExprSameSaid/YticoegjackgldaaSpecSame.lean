/-
  THE MODEL's ExprSame: are two trees equal? Nothing that was there is changed.
-/
import Derived.Test.YticoegjackgldaaPlain
import Derived.Test.YticoegjackgldaaProg
import Derived.Deep.RegionHeld3
import Derived.Deep.RegionWith
import Derived.Deep.DeepMust
namespace Go.Proofs.Yticoegjackgldaa
set_option linter.unusedVariables false
set_option linter.unusedSimpArgs false
open Go.RowKit

def SameSaid (a : Tr) : Prop := ∀ (b : Tr) (c d : Value) (w : World), In w a.kids c → In w b.kids d →
  Calls Try.prog 22 #[.agg #[.int .i64 a.op, .int .i64 a.num, c], .agg #[.int .i64 b.op, .int .i64 b.num, d]] w fun e w' => (∃ v : Bool, e = .returned (.bool v) ∧ (v = true ↔ a = b)) ∧ Below w.heap.size w w'

theorem tr_ext {a b : Tr} (h1 : a.op = b.op) (h2 : a.num = b.num) (h3 : a.kids = b.kids) : a = b := by cases a; cases b; simp_all

set_option maxHeartbeats 800000 in
theorem same_step (a : Tr) (ih : ∀ i (hi : i < a.kids.length), SameSaid (a.kids[i])) : SameSaid a := by
  intro b c d w hc hd
  have HI : Hid (∀ i (hi : i < a.kids.length), SameSaid (a.kids[i])) := ih
  have HC : Hid (In w a.kids c) := hc
  have HD : Hid (In w b.kids d) := hd
  clear ih
  obtain ⟨ad, cap, rfl, hl, hm, -⟩ := hc
  obtain ⟨ad', cap', rfl, hl', hm', -⟩ := hd
  unfold maxLen at hm hm'
  by_cases ho : a.op = b.op
  · have t1 : (a.op != b.op) = false := by simpa using ho
    by_cases hn : a.num = b.num
    · have t2 : (a.num != b.num) = false := by simpa using hn
      by_cases hlen : a.kids.length = b.kids.length
      · have t3 : ((a.kids.length : Int) != b.kids.length) = false := by simp [hlen]
        have HE : Hid (a.op = b.op ∧ a.num = b.num ∧ a.kids.length = b.kids.length) := ⟨ho, hn, hlen⟩
        clear ho hn hlen
        go_enter Try.func22, Try.ntmps22
        go_wp2_with fail
        have hb0 : Below w.heap.size w ((w.alloc (.cells #[.int .i64 a.op, .int .i64 a.num, .slice ad a.kids.length cap] 29)).alloc (.cells #[.int .i64 b.op, .int .i64 b.num, .slice ad' b.kids.length cap'] 29)) := (box_below w _).trans ((box_below _ _).mono (by simp))
        have c2 := old_cell (box_cell w #[.int .i64 a.op, .int .i64 a.num, .slice ad a.kids.length cap] 29 2 _ rfl) (.cells #[.int .i64 b.op, .int .i64 b.num, .slice ad' b.kids.length cap'] 29)
        have d2 := box_cell (w.alloc (.cells #[.int .i64 a.op, .int .i64 a.num, .slice ad a.kids.length cap] 29)) #[.int .i64 b.op, .int .i64 b.num, .slice ad' b.kids.length cap'] 29 2 _ rfl
        have hz0 : w.heap.size + 1 < ((w.alloc (.cells #[.int .i64 a.op, .int .i64 a.num, .slice ad a.kids.length cap] 29)).alloc (.cells #[.int .i64 b.op, .int .i64 b.num, .slice ad' b.kids.length cap'] 29)).heap.size := by rw [Deep.nblk_alloc, Deep.nblk_alloc]; omega
        rw [Deep.nblk_alloc] at d2
        generalize ((w.alloc (.cells #[.int .i64 a.op, .int .i64 a.num, .slice ad a.kids.length cap] 29)).alloc (.cells #[.int .i64 b.op, .int .i64 b.num, .slice ad' b.kids.length cap'] 29)) = wx at *
        go_loopw [5] (fun i wr => ∃ k : Nat, k ≤ a.kids.length ∧ i = .int .i64 k ∧ (∀ j (h1 : j < a.kids.length) (h2 : j < b.kids.length), j < k → a.kids[j] = b.kids[j]) ∧ Below wx.heap.size wx wr) (fun i _ => a.kids.length - (intOf i).toNat)
        case atStart => exact ⟨0, Nat.zero_le _, rfl, fun j _ _ h => absurd h (by omega), Below.refl _ _⟩
        case round =>
          obtain ⟨k, hk, rfl, hsame, hb⟩ := hrel
          have HS : Hid (∀ j (h1 : j < a.kids.length) (h2 : j < b.kids.length), j < k → a.kids[j] = b.kids[j]) := hsame
          have cr : wr.cell? ⟨w.heap.size, 2, none⟩ = some (.slice ad a.kids.length cap) := (hb.cell (p := ⟨w.heap.size, 2, none⟩) (by show w.heap.size < _; omega)).trans c2
          have dr : wr.cell? ⟨w.heap.size + 1, 2, none⟩ = some (.slice ad' b.kids.length cap') := (hb.cell (p := ⟨w.heap.size + 1, 2, none⟩) hz0).trans d2
          have HB : Hid (Below wx.heap.size wx wr) := hb
          have HB' : Hid (Below w.heap.size w wr) := hb0.trans (hb.mono (by omega))
          clear c2 d2 hsame
          by_cases hlt : k < a.kids.length
          · have hr1 := (HC.out.next hb0).next hb
            have hr2 := (HD.out.next hb0).next hb
            obtain ⟨_, _, he, -, -, hr1⟩ := hr1
            cases he
            obtain ⟨_, _, he, -, -, hr2⟩ := hr2
            cases he
            rcases hr1 with hnil | ⟨bl, off, rfl, -, hr1⟩
            · rw [hnil] at hlt; simp at hlt
            rcases hr2 with hnil | ⟨bl', off', rfl, -, hr2⟩
            · rw [HE.out.2.2, hnil] at hlt; simp at hlt
            have hlt' : k < b.kids.length := by rw [← HE.out.2.2]; exact hlt
            obtain ⟨p, q, r, c0, c1, c2, ht⟩ := RowOn.at a.kids off k hlt hr1
            obtain ⟨rfl, rfl, -, -, hk1⟩ := trOn_iff.1 ht
            obtain ⟨p', q', r', d0, d1, d2, ht'⟩ := RowOn.at b.kids off' k hlt' hr2
            obtain ⟨rfl, rfl, -, -, hk2⟩ := trOn_iff.1 ht'
            have HK1 : Hid (In wr a.kids[k].kids r) := hk1
            have HK2 : Hid (In wr b.kids[k].kids r') := hk2
            clear hk1 hk2 ht ht' hr1 hr2 hb hb0
            go_wp2_with fail
            go_region_with ((go_at_call 22; refine (HI.out k hlt b.kids[k] r r' _ ?_ ?_).mono ?_; exact HK1.out.drew; exact HK2.out.drew; rintro e w1 ⟨⟨v, rfl, hv⟩, hb1⟩))
            all_goals
              have HB1 : Hid (Below wx.heap.size wx w1) := HB.out.drew.trans (hb1.mono HB.out.drew.size)
              have HB2 : Hid (Below w.heap.size w w1) := HB'.out.drew.trans (hb1.mono HB'.out.drew.size)
              clear hb1
              cases v with
              | false =>
                have HF : Hid (¬ a = b) := fun h => by subst h; simp at hv
                clear hv
                go_wp2_with fail
                go_ret
                exact ⟨⟨false, rfl, by simpa using HF.out⟩, HB2.out⟩
              | true =>
                have HT : Hid (a.kids[k] = b.kids[k]) := hv.1 rfl
                clear hv
                go_wp2_with fail
                go_roundw
                case rel =>
                  refine ⟨k + 1, by omega, by go_num, fun j h1 h2 h3 => ?_, HB1.out⟩
                  by_cases hj : j = k
                  · subst hj; exact HT.out
                  · exact HS.out j h1 h2 (by omega)
                case measure => simp [intOf]; omega
          · have hke : k = a.kids.length := by omega
            have HT : Hid (a = b) := tr_ext HE.out.1 HE.out.2.1 (List.ext_getElem HE.out.2.2 fun j h1 h2 => HS.out j h1 h2 (by omega))
            clear hke hb hb0
            go_wp2_with fail
            go_ret
            exact ⟨⟨true, rfl, by simpa using HT.out⟩, HB'.out⟩
      · have t3 : ((a.kids.length : Int) != b.kids.length) = true := by simp; omega
        have HF : Hid (¬ a = b) := fun h => hlen (by rw [h])
        clear ho hn hlen
        go_enter Try.func22, Try.ntmps22
        go_wp2_with fail
        go_ret
        exact ⟨⟨false, rfl, by simpa using HF.out⟩, (box_below w _).trans ((box_below _ _).mono (by simp))⟩
    · have t2 : (a.num != b.num) = true := by simpa using hn
      have HF : Hid (¬ a = b) := fun h => hn (by rw [h])
      clear ho hn
      go_enter Try.func22, Try.ntmps22
      go_wp2_with fail
      go_ret
      exact ⟨⟨false, rfl, by simpa using HF.out⟩, (box_below w _).trans ((box_below _ _).mono (by simp))⟩
  · have t1 : (a.op != b.op) = true := by simpa using ho
    have HF : Hid (¬ a = b) := fun h => ho (by rw [h])
    clear ho
    go_enter Try.func22, Try.ntmps22
    go_wp2_with fail
    go_ret
    exact ⟨⟨false, rfl, by simpa using HF.out⟩, (box_below w _).trans ((box_below _ _).mono (by simp))⟩

theorem same_any : ∀ (n : Nat) (a : Tr), szT a ≤ n → SameSaid a := by
  intro n
  induction n with
  | zero =>
    intro a h
    exact same_step a fun i hi => absurd (szT_lt_szL a.kids i hi) (by rw [szT_eq] at h; omega)
  | succ n ih =>
    intro a h
    exact same_step a fun i hi => ih _ (by have := szT_lt_szL a.kids i hi; rw [szT_eq] at h; omega)

/-- THE MODEL's COMPARISON, FOR EVERY TWO TREES -/
theorem same_calls (a : Tr) : SameSaid a := same_any _ a (Nat.le_refl _)
end Go.Proofs.Yticoegjackgldaa
