/-
  THE MODEL's l5Right: a graph and some of its cells.
-/
import Derived.Test.YtjpjikfmdaejeabSpecGraph
import Derived.Test.YtjpjikfmdaejeabOrdM
namespace Go.Proofs.Ytjpjikfmdaejeab
set_option linter.unusedVariables false
set_option linter.unusedSimpArgs false
open Go.RowKit

theorem root_noG {g : List Ce} {rs : List Int} (h : graphB g 6 = false) : rootB g rs = false := by unfold rootB; rw [h]; rfl
theorem root_noL {g : List Ce} {rs : List Int} (h : 20 < rs.length) : rootB g rs = false := by
  unfold rootB; rw [decide_eq_false (by omega)]; simp
theorem root_noA {g : List Ce} {rs : List Int} (h : rs.all (isAt g.length) = false) : rootB g rs = false := by
  unfold rootB; rw [h]; simp

set_option maxHeartbeats 800000 in
theorem l5Right_calls (g : List Ce) (rs : List Int) (v rv : Value) (w : World) (hk : CIn w g v) (hr : IIn w rs rv) :
    Calls Try.prog 32 #[v, rv] w fun e w' => e = .returned (.bool (rootB g rs)) ∧ Below w.heap.size w w' := by
  have HK : Hid (CIn w g v) := hk
  have HR : Hid (IIn w rs rv) := hr
  obtain ⟨ad, cap, rfl, hl, hm, -⟩ := hk
  obtain ⟨adr, capr, rfl, hlr, hmr, -⟩ := hr
  unfold maxLen at hm hmr
  go_enter Try.func32, Try.ntmps32
  go_wp2_with fail
  refine (specGraph_calls g 6 _ _ HK.out).mono ?_
  rintro e w1 ⟨rfl, hb1⟩
  have HB1 : Hid (Below w.heap.size w w1) := hb1
  clear hb1
  cases hg : graphB g 6 with
  | false =>
    have HV : Hid (rootB g rs = false) := root_noG hg
    clear hg
    go_wp2_with fail
    go_ret
    exact ⟨ret_bool HV.out.symm, HB1.out⟩
  | true =>
    have HG : Hid (graphB g 6 = true) := hg
    clear hg
    by_cases h20 : (20 : Int) < rs.length
    · have HV : Hid (rootB g rs = false) := root_noL (by omega)
      go_wp2_with fail
      go_ret
      exact ⟨ret_bool HV.out.symm, HB1.out⟩
    have H20 : Hid (rs.length ≤ 20) := by unfold Hid; omega
    go_wp2_with fail
    go_loopw [5] (fun i wr => ∃ k : Nat, k ≤ rs.length ∧ i = .int .i64 k ∧ (rs.take k).all (isAt g.length) = true ∧ Below w.heap.size w wr) (fun i _ => rs.length - (intOf i).toNat)
    case atStart => exact ⟨0, Nat.zero_le _, rfl, by simp, HB1.out⟩
    case round =>
      obtain ⟨k, hk, rfl, hall, hb⟩ := hrel
      have HA : Hid ((rs.take k).all (isAt g.length) = true) := hall
      have HB : Hid (Below w.heap.size w wr) := hb
      clear hall hb
      by_cases hlt : k < rs.length
      · obtain ⟨bl, off, rfl, d0⟩ := (HR.out.next HB.out).at k hlt
        by_cases h0 : rs[k] < 0
        · have HV : Hid (rootB g rs = false) := root_noA (allI_false_of _ _ k hlt (isAt_lo h0))
          go_wp2_with fail
          go_ret
          exact ⟨ret_bool HV.out.symm, HB.out⟩
        by_cases h1 : (g.length : Int) ≤ rs[k]
        · have HV : Hid (rootB g rs = false) := root_noA (allI_false_of _ _ k hlt (isAt_hi (by omega)))
          go_wp2_with fail
          go_ret
          exact ⟨ret_bool HV.out.symm, HB.out⟩
        have HA2 : Hid ((rs.take (k + 1)).all (isAt g.length) = true) := by rw [Hid, allI_take_succ _ _ _ hlt, HA.out, isAt_in (by omega) (by omega)]; rfl
        go_wp2_with fail
        go_roundw
        case rel => exact ⟨k + 1, by omega, by go_num, HA2.out, HB.out⟩
        case measure => simp [intOf]; omega
      · have hke : rs.length = k := by omega
        have HV : Hid (rootB g rs = true) := rootB_iff.2 ⟨HG.out, H20.out, all_end HA.out hke⟩
        clear hke
        go_wp2_with fail
        go_ret
        exact ⟨ret_bool HV.out.symm, HB.out⟩
end Go.Proofs.Ytjpjikfmdaejeab
