/-
  THE PROGRAM's GraphSame (slices.EqualFunc, cellSame, slices.Equal); nothing that was there is changed.
-/
import Derived.Test.YticoegjackgldabSameT
import Derived.Test.YticoegjackgldabCells
namespace Go.Proofs.Yticoegjackgldab
set_option linter.unusedVariables false
set_option linter.unusedSimpArgs false
open Go.RowKit

set_option maxHeartbeats 800000 in
theorem equalI_calls (xs ys : List Int) (u v : Value) (w : World) (hu : IIn w xs u) (hv : IIn w ys v) :
    Calls Try.prog 86 #[u, v] w fun e w' => e = .returned (.bool (sameL sameI xs ys)) ∧ Below w.heap.size w w' := by
  have HU : Hid (IIn w xs u) := hu
  have HV : Hid (IIn w ys v) := hv
  obtain ⟨ad, cap, rfl, hl, hm, -⟩ := hu
  obtain ⟨ad', cap', rfl, hl', hm', -⟩ := hv
  unfold maxLen at hm hm'
  by_cases hlen : xs.length = ys.length
  · have t1 : ((xs.length : Int) != ys.length) = false := by simp [hlen]
    have HL : Hid (xs.length = ys.length) := hlen
    clear hlen
    go_enter Try.func86, Try.ntmps86
    go_wp2_with fail
    go_loopw [13] (fun i wr => ∃ k : Nat, k ≤ xs.length ∧ i = .int .i64 k ∧ (∀ j (h : j < xs.length) (h' : j < ys.length), j < k → sameI xs[j] ys[j] = true) ∧ ∃ n, wr = w.drewN n) (fun i _ => xs.length - (intOf i).toNat)
    case atStart => exact ⟨0, Nat.zero_le _, rfl, fun j _ _ h => absurd h (by omega), 0, rfl⟩
    case round =>
      obtain ⟨k, hk, rfl, hall, n, rfl⟩ := hrel
      have HA : Hid (∀ j (h : j < xs.length) (h' : j < ys.length), j < k → sameI xs[j] ys[j] = true) := hall
      clear hall
      by_cases hlt : k < xs.length
      · have hlt2 : k < ys.length := by have := HL.out; omega
        obtain ⟨bl, off, rfl, c0⟩ := HU.out.at k hlt
        obtain ⟨bl', off', rfl, d0⟩ := HV.out.at k hlt2
        by_cases hx : xs[k] = ys[k]
        · have t2 : (xs[k] != ys[k]) = false := by simp [hx]
          have HA2 : Hid (∀ j (h : j < xs.length) (h' : j < ys.length), j < k + 1 → sameI xs[j] ys[j] = true) := by
            intro j h h' hj
            by_cases e : j = k
            · subst e; unfold sameI; simpa using hx
            · exact HA.out j h h' (by omega)
          clear hx
          go_wp2_with fail
          go_quiet (fail)
          go_wp2_with fail
          go_roundw
          case rel => exact ⟨k + 1, by omega, by go_num, HA2.out, _, rfl⟩
          case measure => simp [intOf]; omega
        · have t2 : (xs[k] != ys[k]) = true := by simpa using hx
          have HV2 : Hid (sameL sameI xs ys = false) := sameL_no _ _ _ k hlt hlt2 (by unfold sameI; simpa using hx)
          clear hx
          go_wp2_with fail
          go_quiet (fail)
          go_wp2_with fail
          go_ret
          exact ⟨ret_bool HV2.out.symm, below_drewN (below_drewN (Below.refl _ _) _) _⟩
      · have HV2 : Hid (sameL sameI xs ys = true) := sameL_yes _ _ _ HL.out fun j h h' => HA.out j h h' (by omega)
        go_wp2_with fail
        go_ret
        exact ⟨ret_bool HV2.out.symm, below_drewN (Below.refl _ _) _⟩
  · have t1 : ((xs.length : Int) != ys.length) = true := by simp; omega
    have HV2 : Hid (sameL sameI xs ys = false) := sameL_len _ _ _ hlen
    clear hlen
    go_enter Try.func86, Try.ntmps86
    go_wp2_with fail
    go_ret
    exact ⟨ret_bool HV2.out.symm, Below.refl _ _⟩

set_option maxHeartbeats 800000 in
theorem cellSame_calls (a b : Ce) (u v : Value) (w : World) (hu : IIn w a.kids u) (hv : IIn w b.kids v) :
    Calls Try.prog 72 #[.agg #[.int .i64 a.op, .int .i64 a.num, u], .agg #[.int .i64 b.op, .int .i64 b.num, v]] w fun e w' => e = .returned (.bool (sameC a b)) ∧ Below w.heap.size w w' := by
  have HU : Hid (IIn w a.kids u) := hu
  have HV : Hid (IIn w b.kids v) := hv
  have hb0 : ∀ o1 o2, Below w.heap.size w ((w.alloc o1).alloc o2) := fun o1 o2 => ((Below.refl _ _).alloc (Nat.le_refl _) _).alloc (by simp) _
  have HB0 : Hid (∀ o1 o2, Below w.heap.size w ((w.alloc o1).alloc o2)) := hb0
  clear hu hv hb0
  by_cases ho : a.op = b.op
  · by_cases hn : a.num = b.num
    · have HS : Hid (sameC a b = sameL sameI a.kids b.kids) := sameC_kids ho hn
      have t1 : (a.op == b.op) = true := by simpa using ho
      have t2 : (a.num == b.num) = true := by simpa using hn
      clear ho hn
      go_enter Try.func72, Try.ntmps72
      go_wp2_with fail
      refine (equalI_calls a.kids b.kids u v _ (HU.out.next (HB0.out _ _)) (HV.out.next (HB0.out _ _))).mono ?_
      rintro e w1 ⟨rfl, hb⟩
      have HB : Hid (Below w.heap.size w w1) := (HB0.out _ _).trans (hb.mono (by simp; omega))
      clear hb
      go_wp2_with fail
      go_ret
      exact ⟨ret_bool HS.out.symm, HB.out⟩
    · have HS : Hid (sameC a b = false) := sameC_num hn
      have t1 : (a.op == b.op) = true := by simpa using ho
      have t2 : (a.num == b.num) = false := by simpa using hn
      clear ho hn
      go_enter Try.func72, Try.ntmps72
      go_wp2_with fail
      go_ret
      exact ⟨ret_bool HS.out.symm, HB0.out _ _⟩
  · have HS : Hid (sameC a b = false) := sameC_op ho
    have t1 : (a.op == b.op) = false := by simpa using ho
    clear ho
    go_enter Try.func72, Try.ntmps72
    go_wp2_with fail
    go_ret
    exact ⟨ret_bool HS.out.symm, HB0.out _ _⟩

set_option maxHeartbeats 1600000 in
theorem equalFunc_calls (a b : List Ce) (u v : Value) (w : World) (hu : CIn w a u) (hv : CIn w b v) :
    Calls Try.prog 71 #[u, v, .func (.func 72) #[] #[]] w fun e w' => e = .returned (.bool (sameG a b)) ∧ Below w.heap.size w w' := by
  have HU : Hid (CIn w a u) := hu
  have HV : Hid (CIn w b v) := hv
  obtain ⟨ad, cap, rfl, hl, hm, -⟩ := hu
  obtain ⟨ad', cap', rfl, hl', hm', -⟩ := hv
  unfold maxLen at hm hm'
  by_cases hlen : a.length = b.length
  · have t1 : ((a.length : Int) != b.length) = false := by simp [hlen]
    have HL : Hid (a.length = b.length) := hlen
    clear hlen
    go_enter Try.func71, Try.ntmps71
    go_wp2_with fail
    go_loopw [17] (fun i wr => ∃ k : Nat, k ≤ a.length ∧ i = .int .i64 k ∧ (∀ j (h : j < a.length) (h' : j < b.length), j < k → sameC a[j] b[j] = true) ∧ Below w.heap.size w wr) (fun i _ => a.length - (intOf i).toNat)
    case atStart => exact ⟨0, Nat.zero_le _, rfl, fun j _ _ h => absurd h (by omega), Below.refl _ _⟩
    case round =>
      obtain ⟨k, hk, rfl, hall, hb⟩ := hrel
      have HA : Hid (∀ j (h : j < a.length) (h' : j < b.length), j < k → sameC a[j] b[j] = true) := hall
      have HB : Hid (Below w.heap.size w wr) := hb
      clear hall hb
      by_cases hlt : k < a.length
      · have hlt2 : k < b.length := by have := HL.out; omega
        obtain ⟨bl, off, r, rfl, c0, c1, c2, -, -, hkk⟩ := (HU.out.next HB.out).at k hlt
        obtain ⟨bl', off', r', rfl, d0, d1, d2, -, -, hkk'⟩ := (HV.out.next HB.out).at k hlt2
        obtain ⟨ad2, cap2, rfl, -, -, -⟩ := id hkk
        obtain ⟨ad3, cap3, rfl, -, -, -⟩ := id hkk'
        have HK1 : Hid (IIn wr a[k].kids (.slice ad2 a[k].kids.length cap2)) := hkk
        have HK2 : Hid (IIn wr b[k].kids (.slice ad3 b[k].kids.length cap3)) := hkk'
        clear hkk hkk'
        have q0 := old_cell d0 (.cells #[.int .i64 a[k].op, .int .i64 a[k].num, .slice ad2 a[k].kids.length cap2] 71)
        have q1 := old_cell d1 (.cells #[.int .i64 a[k].op, .int .i64 a[k].num, .slice ad2 a[k].kids.length cap2] 71)
        have q2 := old_cell d2 (.cells #[.int .i64 a[k].op, .int .i64 a[k].num, .slice ad2 a[k].kids.length cap2] 71)
        clear d0 d1 d2
        go_wp2_with fail
        have hb0 : ∀ o1 o2, Below wr.heap.size wr ((wr.alloc o1).alloc o2) := fun o1 o2 => ((Below.refl _ _).alloc (Nat.le_refl _) _).alloc (by simp) _
        refine (cellSame_calls a[k] b[k] _ _ _ (HK1.out.next (hb0 _ _)) (HK2.out.next (hb0 _ _))).mono ?_
        rintro e w1 ⟨rfl, hb1⟩
        have HB1 : Hid (Below w.heap.size w w1) := HB.out.trans (((hb0 _ _).trans (hb1.mono (by simp; omega))).mono HB.out.size)
        clear hb1 hb0 c0 c1 c2 q0 q1 q2
        cases hx : sameC a[k] b[k] with
        | true =>
          have HA2 : Hid (∀ j (h : j < a.length) (h' : j < b.length), j < k + 1 → sameC a[j] b[j] = true) := by
            intro j h h' hj
            by_cases e : j = k
            · subst e; exact hx
            · exact HA.out j h h' (by omega)
          clear hx
          go_wp2_with fail
          go_roundw
          case rel => exact ⟨k + 1, by omega, by go_num, HA2.out, HB1.out⟩
          case measure => simp [intOf]; omega
        | false =>
          have HV2 : Hid (sameG a b = false) := sameL_no _ _ _ k hlt hlt2 hx
          clear hx
          go_wp2_with fail
          go_ret
          exact ⟨ret_bool HV2.out.symm, HB1.out⟩
      · have HV2 : Hid (sameG a b = true) := sameL_yes _ _ _ HL.out fun j h h' => HA.out j h h' (by omega)
        go_wp2_with fail
        go_ret
        exact ⟨ret_bool HV2.out.symm, HB.out⟩
  · have t1 : ((a.length : Int) != b.length) = true := by simp; omega
    have HV2 : Hid (sameG a b = false) := sameL_len _ _ _ hlen
    clear hlen
    go_enter Try.func71, Try.ntmps71
    go_wp2_with fail
    go_ret
    exact ⟨ret_bool HV2.out.symm, Below.refl _ _⟩

set_option maxHeartbeats 400000 in
theorem implSameG_calls (a b : List Ce) (u v : Value) (w : World) (hu : CIn w a u) (hv : CIn w b v) :
    Calls Try.prog 43 #[u, v] w fun e w' => e = .returned (.bool (sameG a b)) ∧ Below w.heap.size w w' := by
  have HU : Hid (CIn w a u) := hu
  have HV : Hid (CIn w b v) := hv
  clear hu hv
  go_enter Try.func43, Try.ntmps43
  go_wp2_with fail
  refine (equalFunc_calls a b u v _ HU.out HV.out).mono ?_
  rintro e w1 ⟨rfl, hb⟩
  have HB : Hid (Below w.heap.size w w1) := hb
  clear hb
  go_wp2_with fail
  go_ret
  exact ⟨rfl, HB.out⟩
end Go.Proofs.Yticoegjackgldab
