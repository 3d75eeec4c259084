/-
  THE MODEL's GraphSame; nothing that was there is changed.
-/
import Derived.Test.YticoegjackgldabSameT
import Derived.Test.YticoegjackgldabCells
namespace Go.Proofs.Yticoegjackgldab
set_option linter.unusedVariables false
set_option linter.unusedSimpArgs false
open Go.RowKit

set_option maxRecDepth 100000 in
set_option maxHeartbeats 3200000 in
theorem specSameG_calls (a b : List Ce) (u v : Value) (w : World) (hu : CIn w a u) (hv : CIn w b v) :
    Calls Try.prog 42 #[u, v] w fun e w' => e = .returned (.bool (sameG a b)) ∧ Below w.heap.size w w' := by
  have HU : Hid (CIn w a u) := hu
  have HV : Hid (CIn w b v) := hv
  obtain ⟨ad, cap, rfl, hl, hm, -⟩ := hu
  obtain ⟨ad', cap', rfl, hl', hm', -⟩ := hv
  unfold maxLen at hm hm'
  by_cases hlen : a.length = b.length
  · have t1 : ((a.length : Int) != b.length) = false := by simp [hlen]
    have HL : Hid (a.length = b.length) := hlen
    clear hlen
    go_enter Try.func42, Try.ntmps42
    go_wp2_with fail
    go_loopw [5] (fun i wr => ∃ k : Nat, k ≤ a.length ∧ i = .int .i64 k ∧ (∀ j (h : j < a.length) (h' : j < b.length), j < k → sameC a[j] b[j] = true) ∧ ∃ n, wr = w.drewN n) (fun i _ => a.length - (intOf i).toNat)
    case atStart => exact ⟨0, Nat.zero_le _, rfl, fun j _ _ h => absurd h (by omega), 0, rfl⟩
    case round =>
      obtain ⟨k, hk, rfl, hall, n, rfl⟩ := hrel
      have HA : Hid (∀ j (h : j < a.length) (h' : j < b.length), j < k → sameC a[j] b[j] = true) := hall
      clear hall
      by_cases hlt : k < a.length
      · have hlt2 : k < b.length := by have := HL.out; omega
        obtain ⟨bl, off, r, rfl, c0, c1, c2, -, -, hkk⟩ := HU.out.at k hlt
        obtain ⟨bl', off', r', rfl, d0, d1, d2, -, -, hkk'⟩ := HV.out.at k hlt2
        obtain ⟨ad2, cap2, rfl, hl2, hm2, -⟩ := id hkk
        obtain ⟨ad3, cap3, rfl, hl3, hm3, -⟩ := id hkk'
        unfold maxLen at hm2 hm3
        have HK1 : Hid (IIn w a[k].kids (.slice ad2 a[k].kids.length cap2)) := hkk
        have HK2 : Hid (IIn w b[k].kids (.slice ad3 b[k].kids.length cap3)) := hkk'
        clear hkk hkk'
        by_cases ho : a[k].op = b[k].op
        · by_cases hn : a[k].num = b[k].num
          · by_cases hkl : a[k].kids.length = b[k].kids.length
            · have s1 : (a[k].op != b[k].op) = false := by simpa using ho
              have s2 : (a[k].num != b[k].num) = false := by simpa using hn
              have s3 : ((a[k].kids.length : Int) != b[k].kids.length) = false := by simp [hkl]
              have HS : Hid (sameC a[k] b[k] = sameL sameI a[k].kids b[k].kids) := sameC_kids ho hn
              have HKL : Hid (a[k].kids.length = b[k].kids.length) := hkl
              clear ho hn hkl
              go_wp2_with fail
              go_quiet (fail)
              go_wp2_with fail
              go_loopw [6] (fun i wr => ∃ j : Nat, j ≤ a[k].kids.length ∧ i = .int .i64 j ∧ (∀ i (h : i < a[k].kids.length) (h' : i < b[k].kids.length), i < j → sameI a[k].kids[i] b[k].kids[i] = true) ∧ ∃ n, wr = w.drewN n) (fun i _ => a[k].kids.length - (intOf i).toNat)
              case atStart => exact ⟨0, Nat.zero_le _, rfl, fun j _ _ h => absurd h (by omega), n + nq, by rw [World.drewN_drewN]⟩
              case round =>
                obtain ⟨j, hj, rfl, hall, m, rfl⟩ := hrel
                have HA3 : Hid (∀ i (h : i < a[k].kids.length) (h' : i < b[k].kids.length), i < j → sameI a[k].kids[i] b[k].kids[i] = true) := hall
                clear hall
                by_cases hjt : j < a[k].kids.length
                · have hjt2 : j < b[k].kids.length := by have := HKL.out; omega
                  obtain ⟨bl3, off3, rfl, e0⟩ := HK1.out.at j hjt
                  obtain ⟨bl4, off4, rfl, f0⟩ := HK2.out.at j hjt2
                  by_cases hx : a[k].kids[j] = b[k].kids[j]
                  · have s4 : (a[k].kids[j] != b[k].kids[j]) = false := by simp [hx]
                    have HA4 : Hid (∀ i (h : i < a[k].kids.length) (h' : i < b[k].kids.length), i < j + 1 → sameI a[k].kids[i] b[k].kids[i] = true) := by
                      intro i h h' hi
                      by_cases e : i = j
                      · subst e; unfold sameI; simpa using hx
                      · exact HA3.out i h h' (by omega)
                    clear hx
                    go_wp2_with fail
                    go_quiet (fail)
                    go_wp2_with fail
                    go_roundw
                    case rel => exact ⟨j + 1, by omega, by go_num, HA4.out, _, rfl⟩
                    case measure => simp [intOf]; omega
                  · have s4 : (a[k].kids[j] != b[k].kids[j]) = true := by simpa using hx
                    have HV2 : Hid (sameG a b = false) := sameL_no _ _ _ k hlt hlt2 (by rw [HS.out]; exact sameL_no _ _ _ j hjt hjt2 (by unfold sameI; simpa using hx))
                    clear hx
                    go_wp2_with fail
                    go_quiet (fail)
                    go_wp2_with fail
                    go_ret
                    exact ⟨ret_bool HV2.out.symm, below_drewN (below_drewN (Below.refl _ _) _) _⟩
                · have HA2 : Hid (∀ j (h : j < a.length) (h' : j < b.length), j < k + 1 → sameC a[j] b[j] = true) := by
                    intro i h h' hi
                    by_cases e : i = k
                    · subst e; rw [HS.out]; exact sameL_yes _ _ _ HKL.out fun i h h' => HA3.out i h h' (by omega)
                    · exact HA.out i h h' (by omega)
                  go_wp2_with fail
                  go_roundw
                  case rel => exact ⟨k + 1, by omega, by go_num, HA2.out, _, rfl⟩
                  case measure => simp [intOf]; omega
            · have s1 : (a[k].op != b[k].op) = false := by simpa using ho
              have s2 : (a[k].num != b[k].num) = false := by simpa using hn
              have s3 : ((a[k].kids.length : Int) != b[k].kids.length) = true := by simp; omega
              have HV2 : Hid (sameG a b = false) := sameL_no _ _ _ k hlt hlt2 (by rw [sameC_kids ho hn]; exact sameL_len _ _ _ hkl)
              clear ho hn hkl
              go_wp2_with fail
              go_quiet (fail)
              go_wp2_with fail
              go_ret
              exact ⟨ret_bool HV2.out.symm, below_drewN (below_drewN (Below.refl _ _) _) _⟩
          · have s1 : (a[k].op != b[k].op) = false := by simpa using ho
            have s2 : (a[k].num != b[k].num) = true := by simpa using hn
            have HV2 : Hid (sameG a b = false) := sameL_no _ _ _ k hlt hlt2 (sameC_num hn)
            clear ho hn
            go_wp2_with fail
            go_quiet (fail)
            go_wp2_with fail
            go_ret
            exact ⟨ret_bool HV2.out.symm, below_drewN (below_drewN (Below.refl _ _) _) _⟩
        · have s1 : (a[k].op != b[k].op) = true := by simpa using ho
          have HV2 : Hid (sameG a b = false) := sameL_no _ _ _ k hlt hlt2 (sameC_op ho)
          clear ho
          go_wp2_with fail
          go_quiet (fail)
          go_wp2_with fail
          go_ret
          exact ⟨ret_bool HV2.out.symm, below_drewN (below_drewN (Below.refl _ _) _) _⟩
      · have HV2 : Hid (sameG a b = true) := sameL_yes _ _ _ HL.out fun j h h' => HA.out j h h' (by omega)
        go_wp2_with fail
        go_ret
        exact ⟨ret_bool HV2.out.symm, below_drewN (Below.refl _ _) _⟩
  · have t1 : ((a.length : Int) != b.length) = true := by simp; omega
    have HV2 : Hid (sameG a b = false) := sameL_len _ _ _ hlen
    clear hlen
    go_enter Try.func42, Try.ntmps42
    go_wp2_with fail
    go_ret
    exact ⟨ret_bool HV2.out.symm, Below.refl _ _⟩
end Go.Proofs.Yticoegjackgldab
