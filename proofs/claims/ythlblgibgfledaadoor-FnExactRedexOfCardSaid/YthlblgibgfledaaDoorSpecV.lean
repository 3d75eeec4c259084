/-
  THE MODEL's l4Right AND l4Value.
-/
import Derived.Test.YthlblgibgfledaaDoorRedT
import Derived.Test.YthlblgibgfledaaDoorL4Spine
import Derived.Test.YthlblgibgfledaaDoorSpecGraph
namespace Go.Proofs.YthlblgibgfledaaDoor
set_option linter.unusedVariables false
set_option linter.unusedSimpArgs false
open Go.RowKit

theorem dec_len {α : Type} (xs : List α) : ((xs.length : Int) == 0) = decide (xs.length = 0) := by
  cases xs with
  | nil => rfl
  | cons x xs => simp only [List.length_cons]; rw [decide_eq_false (by omega)]; exact beq_eq_false_iff_ne.2 (by omega)

set_option maxRecDepth 100000 in
set_option maxHeartbeats 1600000 in
theorem l4Value_calls (ds : List Df) (g : List Ce) (a : Nat) (c v : Value) (w : World) (hd : DIn w ds c) (hk : CIn w g v) (hg : graphB g ds.length = true) (ha : a < g.length) :
    Calls Tryd.prog 39 #[c, v, .int .i64 (a : Int)] w fun e w' => e = .returned (.bool (valB (arsOf ds) g a)) ∧ Below w.heap.size w w' := by
  have HD : Hid (DIn w ds c) := hd
  have HK : Hid (CIn w g v) := hk
  have HG : Hid (graphB g ds.length = true) := hg
  obtain ⟨ad, cap, rfl, hl, hm, -⟩ := hk
  obtain ⟨adp, capp, rfl, hlp, hmp, -⟩ := hd
  have h400 : g.length ≤ 400 := graphB_len hg
  unfold maxLen at hm hmp
  clear hg
  go_enter Tryd.func39, Tryd.ntmps39
  go_wp2_with fail
  refine (l4Spine_calls g a _ _ HK.out ⟨_, HG.out⟩ ha).mono ?_
  rintro e w1 ⟨xs, v1, hxs, rfl, hi1, hb1⟩
  have HB1 : Hid (Below w.heap.size w w1) := hb1
  have HXS : Hid (∀ x, spine g a = some x → xs = x.2) := hxs
  have hlx : xs.length ≤ 9223372036854775807 := by
    obtain ⟨ad2, cap2, rfl, l1, l2, -⟩ := hi1
    rw [plI_length] at l1
    unfold maxLen at l2
    omega
  obtain ⟨ad2, cap2, rfl, -, -, -⟩ := hi1
  rw [plI_length]
  clear hb1 hxs
  cases hs : spine g a with
  | none =>
    have HV : Hid (valB (arsOf ds) g a = false) := valB_none hs
    have e1 : spI none = -1 := rfl
    rw [e1]
    clear hs
    go_wp2_with fail
    go_ret
    exact ⟨ret_bool HV.out.symm, HB1.out⟩
  | some x =>
    obtain ⟨f, ws⟩ := x
    obtain rfl : xs = ws := HXS.out _ hs
    have hok := spine_ok HG.out ha hs
    have hff : f < g.length := hok.1
    have HS : Hid (spine g a = some (f, xs)) := hs
    have e1 : spI (some (f, xs)) = (f : Int) := rfl
    rw [e1]
    obtain ⟨bl, off, r, rfl, c0, c1, c2, -, -, -⟩ := (HK.out.next HB1.out).at f hff
    have HOP : Hid (opAt g f = g[f].op) := opAt_at f hff
    have hbn : ¬ ((f : Int) < 0) := by omega
    clear hs hok c2
    by_cases ho2 : g[f].op = 2
    · have HV : Hid (valB (arsOf ds) g a = decide (xs.length = 0)) := valB_num HS.out (Or.inl (by rw [HOP.out]; exact ho2))
      have t2 : (g[f].op == 2) = true := by simp [ho2]
      clear ho2
      go_wp2_with fail
      go_ret
      exact ⟨ret_bool (by rw [HV.out]; exact dec_len xs), HB1.out⟩
    have t2 : (g[f].op == 2) = false := by simp [ho2]
    by_cases ho5 : g[f].op = 5
    · have HV : Hid (valB (arsOf ds) g a = decide (xs.length = 0)) := valB_num HS.out (Or.inr (by rw [HOP.out]; exact ho5))
      have t5 : (g[f].op == 5) = true := by simp [ho5]
      clear ho2 ho5
      go_wp2_with fail
      go_ret
      exact ⟨ret_bool (by rw [HV.out]; exact dec_len xs), HB1.out⟩
    have t5 : (g[f].op == 5) = false := by simp [ho5]
    by_cases ho3 : g[f].op = 3
    · obtain ⟨n, hn, hnl⟩ := glob_num HG.out f hff ho3
      have hnl' : n < ds.length := by omega
      have HV : Hid (valB (arsOf ds) g a = decide ((xs.length : Int) < ds[n].1)) := by
        rw [Hid, valB_glob HS.out (by rw [HOP.out]; exact ho3), numAt_at f hff, hn, arOf_at ds n hnl']
      have t3 : (g[f].op == 3) = true := by simp [ho3]
      obtain ⟨blp, offp, rp, rfl, d0, d1, d2, d3, -⟩ := (HD.out.next HB1.out).at n hnl'
      rw [hn] at c1
      clear ho2 ho5 ho3 hn d1 d2 d3
      go_wp2_with fail
      go_ret
      exact ⟨ret_bool HV.out.symm, HB1.out⟩
    · have t3 : (g[f].op == 3) = false := by simp [ho3]
      have HV : Hid (valB (arsOf ds) g a = false) := valB_no HS.out (by rw [HOP.out]; exact ho2) (by rw [HOP.out]; exact ho5) (by rw [HOP.out]; exact ho3)
      clear ho2 ho5 ho3
      go_wp2_with fail
      go_ret
      exact ⟨ret_bool HV.out.symm, HB1.out⟩

set_option maxHeartbeats 1600000 in
theorem l4Right_calls (ds : List Df) (g : List Ce) (a : Int) (c v : Value) (w : World) (hd : DIn w ds c) (hk : CIn w g v) :
    Calls Tryd.prog 38 #[c, v, .int .i64 a] w fun e w' => e = .returned (.bool (rightB ds g a)) ∧ Below w.heap.size w w' := by
  have HD : Hid (DIn w ds c) := hd
  have HK : Hid (CIn w g v) := hk
  obtain ⟨ad, cap, rfl, hl, hm, -⟩ := hk
  obtain ⟨adp, capp, rfl, hlp, hmp, -⟩ := hd
  unfold maxLen at hm hmp
  go_enter Tryd.func38, Tryd.ntmps38
  go_wp2_with fail
  refine (specProg_calls ds _ _ HD.out).mono ?_
  rintro e w1 ⟨rfl, hb1⟩
  have HB1 : Hid (Below w.heap.size w w1) := hb1
  clear hb1
  cases hp : progB ds with
  | false =>
    have HV : Hid (rightB ds g a = false) := by rw [Hid, rightB, hp]; rfl
    clear hp
    go_wp2_with fail
    go_ret
    exact ⟨ret_bool HV.out.symm, HB1.out⟩
  | true =>
    have HP : Hid (progB ds = true) := hp
    clear hp
    go_wp2_with fail
    refine (specGraph_calls g ds.length _ _ (HK.out.next HB1.out)).mono ?_
    rintro e w2 ⟨rfl, hb2⟩
    have HB2 : Hid (Below w.heap.size w w2) := HB1.out.trans (hb2.mono HB1.out.size)
    clear hb2
    cases hg : graphB g ds.length with
    | false =>
      have HV : Hid (rightB ds g a = false) := by rw [Hid, rightB, hg, Bool.false_and, Bool.and_false]
      clear hg
      go_wp2_with fail
      go_ret
      exact ⟨ret_bool HV.out.symm, HB2.out⟩
    | true =>
      have HV : Hid (rightB ds g a = isAt g.length a) := by rw [Hid, rightB, hg, HP.out, Bool.true_and, Bool.true_and]
      clear hg
      by_cases h0 : a < 0
      · have HI : Hid (isAt g.length a = false) := isAt_lo h0
        go_wp2_with fail
        go_ret
        exact ⟨ret_bool (by rw [HV.out, HI.out]; first | done | rfl | (simp; omega)), HB2.out⟩
      by_cases h1 : (g.length : Int) ≤ a
      · have HI : Hid (isAt g.length a = false) := isAt_hi (by omega)
        go_wp2_with fail
        go_ret
        exact ⟨ret_bool (by rw [HV.out, HI.out]; first | done | rfl | (simp; omega)), HB2.out⟩
      have HI : Hid (isAt g.length a = true) := isAt_in (by omega) (by omega)
      go_wp2_with fail
      go_ret
      exact ⟨ret_bool (by rw [HV.out, HI.out]; first | done | rfl | (simp; omega)), HB2.out⟩

theorem valO_no {ds : List Df} {g : List Ce} {a : Int} (h : rightB ds g a = false) : valO ds g a = false := by unfold valO; rw [h]; rfl
theorem valO_yes {ds : List Df} {g : List Ce} {a : Nat} (h : rightB ds g (a : Int) = true) : valO ds g (a : Int) = valB (arsOf ds) g a := by unfold valO; rw [h, Bool.true_and, Int.toNat_natCast]
end Go.Proofs.YthlblgibgfledaaDoor
