/-
  THE PROGRAM's standsFor; nothing that was there is changed.
-/
import Derived.Test.YthlblgibgfledaaDoorL3Follow
namespace Go.Proofs.YthlblgibgfledaaDoor
set_option linter.unusedVariables false
set_option linter.unusedSimpArgs false
open Go.RowKit

/-- what standsFor answers -/
def folO (o : Option Nat) : Int := match o with | some b => (b : Int) | none => 0

set_option maxHeartbeats 800000 in
theorem standsFor_calls (g : List Ce) (a : Nat) (v : Value) (w : World) (hk : CIn w g v) (hg : ∃ defs, graphB g defs = true) (ha : a < g.length) :
    Calls Tryd.prog 85 #[v, .int .i64 (a : Int)] w fun e w' => e = .returned (.tuple #[.int .i64 (folO (followN g g.length a)), .bool (followN g g.length a).isSome]) ∧ Below w.heap.size w w' := by
  have HK : Hid (CIn w g v) := hk
  obtain ⟨ad, cap, rfl, hl, hm, -⟩ := hk
  unfold maxLen at hm
  obtain ⟨defs, hg⟩ := hg
  have HG : Hid (graphB g defs = true) := hg
  have h400 : g.length ≤ 400 := graphB_len hg
  clear hg
  go_enter Tryd.func85, Tryd.ntmps85
  go_wp2_with fail
  go_loopw [1, 8] (fun at' i wr => ∃ k b : Nat, k ≤ g.length ∧ i = .int .i64 k ∧ at' = .int .i64 (b : Int) ∧ b < g.length ∧ followN g g.length a = followN g (g.length - k) b ∧ Below w.heap.size w wr) (fun _ i _ => g.length - (intOf i).toNat)
  case atStart => exact ⟨0, a, Nat.zero_le _, rfl, rfl, ha, rfl, Below.refl _ _⟩
  case round =>
    obtain ⟨k, b, hk, rfl, rfl, hbl, hf, hb⟩ := hrel
    have HF : Hid (followN g g.length a = followN g (g.length - k) b) := hf
    have HB : Hid (Below w.heap.size w wr) := hb
    clear hf
    by_cases hlt : k < g.length
    · have HLT : Hid (k < g.length) := hlt
      obtain ⟨bl, off, r, rfl, c0, c1, c2, -, -, hkk⟩ := (HK.out.next hb).at b hbl
      clear hb
      by_cases ho : g[b].op = 11
      · obtain ⟨y, hy1, hy2, hy3⟩ := ind_kid HG.out b hbl ho
        have HV : Hid (followN g g.length a = followN g (g.length - (k + 1)) y) := by
          have h1 := HF.out
          rw [show g.length - k = (g.length - (k + 1)) + 1 by omega] at h1
          exact h1.trans ((followN_ind (by rw [opAt_at b hbl]; exact ho)).trans (by rw [hy3]))
        have t1 : (g[b].op != 11) = false := by simp [ho]
        obtain ⟨ad2, cap2, rfl, hl2, hm2, -⟩ := id hkk
        obtain ⟨bl2, off2, rfl, d0⟩ := hkk.at 0 (by rw [hy1]; simp)
        have hlen1 : g[b].kids.length = 1 := by rw [hy1]; rfl
        have hkid : g[b].kids[0]'(by omega) = (y : Int) := by simp [hy1]
        rw [hkid, Nat.add_zero] at d0
        rw [hlen1] at c2
        clear ho hy1 hy3 hkid hlen1 hkk hl2 hm2
        go_wp2_with fail
        go_roundw
        case rel => exact ⟨k + 1, y, by have := HLT.out; omega, by go_num, rfl, hy2, HV.out, HB.out⟩
        case measure => have := HLT.out; simp [intOf]; omega
      · have HV : Hid (followN g g.length a = some b) := by
          have h1 := HF.out
          rw [show g.length - k = (g.length - k - 1) + 1 by omega] at h1
          exact h1.trans (followN_stop (by rw [opAt_at b hbl]; exact ho))
        have t1 : (g[b].op != 11) = true := by simpa using ho
        clear ho hkk
        go_wp2_with fail
        go_ret2
        exact ⟨ret_ib (by rw [HV.out]; rfl) (by rw [HV.out]; rfl), HB.out⟩
    · have HV : Hid (followN g g.length a = none) := by
        have := HF.out
        rw [show g.length - k = 0 by omega] at this
        exact this
      clear hb
      go_wp2_with fail
      go_ret2
      exact ⟨ret_ib (by rw [HV.out]; rfl) (by rw [HV.out]; rfl), HB.out⟩

end Go.Proofs.YthlblgibgfledaaDoor
