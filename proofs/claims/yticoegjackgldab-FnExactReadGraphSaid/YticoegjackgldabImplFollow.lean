/-
  THE PROGRAM's FollowInd (hasCell, standsFor); nothing that was there is changed.
-/
import Derived.Test.YticoegjackgldabHasCell
import Derived.Test.YticoegjackgldabSpecFollow
namespace Go.Proofs.Yticoegjackgldab
set_option linter.unusedVariables false
set_option linter.unusedSimpArgs false
open Go.RowKit

/-- what standsFor answers -/
def folO (o : Option Nat) : Int := match o with | some b => (b : Int) | none => 0

set_option maxHeartbeats 800000 in
theorem standsFor_calls (g : List Ce) (a : Nat) (v : Value) (w : World) (hk : CIn w g v) (hg : ∃ defs, graphB g defs = true) (ha : a < g.length) :
    Calls Try.prog 70 #[v, .int .i64 (a : Int)] w fun e w' => e = .returned (.tuple #[.int .i64 (folO (followN g g.length a)), .bool (followN g g.length a).isSome]) ∧ Below w.heap.size w w' := by
  have HK : Hid (CIn w g v) := hk
  obtain ⟨ad, cap, rfl, hl, hm, -⟩ := hk
  unfold maxLen at hm
  obtain ⟨defs, hg⟩ := hg
  have HG : Hid (graphB g defs = true) := hg
  have h400 : g.length ≤ 400 := graphB_len hg
  clear hg
  go_enter Try.func70, Try.ntmps70
  go_wp2_with fail
  go_loopw [1, 8] (fun at' i wr => ∃ k b : Nat, k ≤ g.length ∧ i = .int .i64 k ∧ at' = .int .i64 (b : Int) ∧ b < g.length ∧ followN g g.length a = followN g (g.length - k) b ∧ Below w.heap.size w wr) (fun _ i _ => g.length - (intOf i).toNat)
  case atStart => exact ⟨0, a, Nat.zero_le _, rfl, rfl, ha, rfl, Below.refl _ _⟩
  case round =>
    obtain ⟨k, b, hk, rfl, rfl, hbl, hf, hb⟩ := hrel
    have HF : Hid (followN g g.length a = followN g (g.length - k) b) := hf
    have HB : Hid (Below w.heap.size w wr) := hb
    clear hf
    by_cases hlt : k < g.length
    · have HLT : Hid (k < g.length) := hlt
      obtain ⟨bl, off, r, rfl, c0, c1, c2, -, -, hkk⟩ := (HK.out.next hb).at b hbl
      clear hb
      by_cases ho : g[b].op = 11
      · obtain ⟨y, hy1, hy2, hy3⟩ := ind_kid HG.out b hbl ho
        have HV : Hid (followN g g.length a = followN g (g.length - (k + 1)) y) := by
          have h1 := HF.out
          rw [show g.length - k = (g.length - (k + 1)) + 1 by omega] at h1
          exact h1.trans ((followN_ind (by rw [opAt_at b hbl]; exact ho)).trans (by rw [hy3]))
        have t1 : (g[b].op != 11) = false := by simp [ho]
        obtain ⟨ad2, cap2, rfl, hl2, hm2, -⟩ := id hkk
        obtain ⟨bl2, off2, rfl, d0⟩ := hkk.at 0 (by rw [hy1]; simp)
        have hlen1 : g[b].kids.length = 1 := by rw [hy1]; rfl
        have hkid : g[b].kids[0]'(by omega) = (y : Int) := by simp [hy1]
        rw [hkid, Nat.add_zero] at d0
        rw [hlen1] at c2
        clear ho hy1 hy3 hkid hlen1 hkk hl2 hm2
        go_wp2_with fail
        go_roundw
        case rel => exact ⟨k + 1, y, by have := HLT.out; omega, by go_num, rfl, hy2, HV.out, HB.out⟩
        case measure => have := HLT.out; simp [intOf]; omega
      · have HV : Hid (followN g g.length a = some b) := by
          have h1 := HF.out
          rw [show g.length - k = (g.length - k - 1) + 1 by omega] at h1
          exact h1.trans (followN_stop (by rw [opAt_at b hbl]; exact ho))
        have t1 : (g[b].op != 11) = true := by simpa using ho
        clear ho hkk
        go_wp2_with fail
        go_ret2
        exact ⟨ret_ib (by rw [HV.out]; rfl) (by rw [HV.out]; rfl), HB.out⟩
    · have HV : Hid (followN g g.length a = none) := by
        have := HF.out
        rw [show g.length - k = 0 by omega] at this
        exact this
      clear hb
      go_wp2_with fail
      go_ret2
      exact ⟨ret_ib (by rw [HV.out]; rfl) (by rw [HV.out]; rfl), HB.out⟩

set_option maxHeartbeats 800000 in
theorem implFollow_calls (g : List Ce) (a : Int) (v : Value) (w : World) (hk : CIn w g v) :
    Calls Try.prog 41 #[v, .int .i64 a] w fun e w' => e = .returned (.tuple #[.int .i64 (folV g a), .bool (folB g a)]) ∧ Below w.heap.size w w' := by
  have HK : Hid (CIn w g v) := hk
  clear hk
  go_enter Try.func41, Try.ntmps41
  go_wp2_with fail
  refine (hasCell_calls g a _ _ HK.out).mono ?_
  rintro e w1 ⟨rfl, hb1⟩
  have HB1 : Hid (Below w.heap.size w w1) := hb1
  clear hb1
  cases hh : (graphB g 6 && isAt g.length a) with
  | false =>
    have HV : Hid (folV g a = 0 ∧ folB g a = false) := fol_no (by rintro ⟨h1, h2⟩; rw [h1, isAt_iff.2 h2] at hh; cases hh)
    clear hh
    go_wp2_with fail
    go_ret2
    exact ⟨ret_ib HV.out.1.symm HV.out.2.symm, HB1.out⟩
  | true =>
    rw [Bool.and_eq_true, isAt_iff] at hh
    have HG : Hid (graphB g 6 = true ∧ 0 ≤ a ∧ a < g.length) := hh
    clear hh
    obtain ⟨n, rfl⟩ : ∃ n : Nat, a = (n : Int) := ⟨a.toNat, by have := HG.out.2.1; omega⟩
    have hn : n < g.length := by have := HG.out.2.2; omega
    go_wp2_with fail
    refine (standsFor_calls g n _ _ (HK.out.next HB1.out) ⟨6, HG.out.1⟩ hn).mono ?_
    rintro e w2 ⟨rfl, hb2⟩
    have HB2 : Hid (Below w.heap.size w w2) := HB1.out.trans (hb2.mono HB1.out.size)
    clear hb2
    have HV : Hid (folV g (n : Int) = folO (followN g g.length n) ∧ folB g (n : Int) = (followN g g.length n).isSome) := by
      cases hf : followN g g.length n with
      | none => exact fol_none HG.out (by simpa using hf)
      | some b => exact fol_some HG.out (by simpa using hf)
    go_wp2_with fail
    go_ret2
    exact ⟨ret_ib HV.out.1.symm HV.out.2.symm, HB2.out⟩
end Go.Proofs.Yticoegjackgldab
