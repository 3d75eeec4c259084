/-
  THE PROGRAM's sameNeed (slices.EqualFunc, slices.Equal), hasArity, AND slices.EqualFunc of it.
-/
import Derived.Test.YtocnkjicmchbdaaNeedM
import Derived.Test.YtocnkjicmchbdaaNeeds
import Derived.Test.YtocnkjicmchbdaaSpecNh
namespace Go.Proofs.Ytocnkjicmchbdaa
set_option linter.unusedVariables false
set_option linter.unusedSimpArgs false
open Go.RowKit

set_option maxHeartbeats 800000 in
theorem equalB_calls (xs ys : List Bool) (u v : Value) (w : World) (hu : BIn w xs u) (hv : BIn w ys v) :
    Calls Try.prog 104 #[u, v] w fun e w' => e = .returned (.bool (decide (xs = ys))) ∧ Below w.heap.size w w' := by
  have HU : Hid (BIn w xs u) := hu
  have HV : Hid (BIn w ys v) := hv
  obtain ⟨ad, cap, rfl, hl, hm, -⟩ := hu
  obtain ⟨ad', cap', rfl, hl', hm', -⟩ := hv
  unfold maxLen at hm hm'
  obtain ⟨r, hr⟩ : ∃ r, r = decide (xs = ys) := ⟨_, rfl⟩
  rw [← hr]
  have HR := mkHid hr
  clear hr
  by_cases hlen : xs.length = ys.length
  · have t1 : ((xs.length : Int) != ys.length) = false := by simp [hlen]
    have HL : Hid (xs.length = ys.length) := hlen
    clear hlen
    go_enter Try.func104, Try.ntmps104
    go_wp2_with fail
    go_loopw [13] (fun i wr => ∃ k : Nat, k ≤ xs.length ∧ i = .int .i64 k ∧ (∀ j (h : j < xs.length) (h' : j < ys.length), j < k → xs[j] = ys[j]) ∧ ∃ n, wr = w.drewN n) (fun i _ => xs.length - (intOf i).toNat)
    case atStart => exact ⟨0, Nat.zero_le _, rfl, fun j _ _ h => absurd h (by omega), 0, rfl⟩
    case round =>
      obtain ⟨k, hk, rfl, hall, n, rfl⟩ := hrel
      have HA := mkHid hall
      clear hall
      by_cases hlt : k < xs.length
      · have hlt2 : k < ys.length := by have := HL.out; omega
        obtain ⟨bl, off, rfl, -, c0⟩ := HU.out.at k hlt
        obtain ⟨bl', off', rfl, -, d0⟩ := HV.out.at k hlt2
        obtain ⟨x, hx⟩ : ∃ x, x = xs[k] := ⟨_, rfl⟩
        obtain ⟨y, hy⟩ : ∃ y, y = ys[k] := ⟨_, rfl⟩
        rw [← hx] at c0
        rw [← hy] at d0
        have HX := mkHid hx
        have HY := mkHid hy
        clear hx hy
        by_cases hxy : x = y
        · subst hxy
          have t2 : (x != x) = false := by simp
          have HA2 : Hid (∀ j (h : j < xs.length) (h' : j < ys.length), j < k + 1 → xs[j] = ys[j]) := by
            intro j h h' hj
            by_cases e : j = k
            · subst e; rw [← HX.out, ← HY.out]
            · exact HA.out j h h' (by omega)
          go_wp2_with fail
          go_quiet (fail)
          go_wp2_with fail
          go_roundw
          case rel => exact ⟨k + 1, by omega, by go_num, HA2.out, _, rfl⟩
          case measure => simp [intOf]; omega
        · have HV2 : Hid (r = false) := HR.out.trans (decide_eq_false fun h => hxy (by rw [HX.out, HY.out]; exact List.getElem_of_eq h hlt))
          obtain ⟨rfl, rfl⟩ | ⟨rfl, rfl⟩ : (x = true ∧ y = false) ∨ (x = false ∧ y = true) := by cases x <;> cases y <;> simp_all
          all_goals
            clear hxy
            go_wp2_with fail
            go_quiet (fail)
            go_wp2_with fail
            go_ret
            exact ⟨ret_bool HV2.out.symm, below_drewN (below_drewN (Below.refl _ _) _) _⟩
      · have HV2 : Hid (r = true) := HR.out.trans (decide_eq_true (List.ext_getElem HL.out fun j h h' => HA.out j h h' (by omega)))
        go_wp2_with fail
        go_ret
        exact ⟨ret_bool HV2.out.symm, below_drewN (Below.refl _ _) _⟩
  · have t1 : ((xs.length : Int) != ys.length) = true := by simp; omega
    have HV2 : Hid (r = false) := HR.out.trans (decide_eq_false fun h => hlen (by rw [h]))
    clear hlen
    go_enter Try.func104, Try.ntmps104
    go_wp2_with fail
    go_ret
    exact ⟨ret_bool HV2.out.symm, Below.refl _ _⟩

set_option maxHeartbeats 800000 in
theorem eqFuncN_calls (a b : List (List Bool)) (u v : Value) (w : World) (hu : NIn w a u) (hv : NIn w b v) :
    Calls Try.prog 103 #[u, v, .func (.func 104) #[] #[]] w fun e w' => e = .returned (.bool (decide (a = b))) ∧ Below w.heap.size w w' := by
  have HU : Hid (NIn w a u) := hu
  have HV : Hid (NIn w b v) := hv
  obtain ⟨ad, cap, rfl, hl, hm, -⟩ := hu
  obtain ⟨ad', cap', rfl, hl', hm', -⟩ := hv
  unfold maxLen at hm hm'
  obtain ⟨r, hr⟩ : ∃ r, r = decide (a = b) := ⟨_, rfl⟩
  rw [← hr]
  have HR := mkHid hr
  clear hr
  by_cases hlen : a.length = b.length
  · have t1 : ((a.length : Int) != b.length) = false := by simp [hlen]
    have HL : Hid (a.length = b.length) := hlen
    clear hlen
    go_enter Try.func103, Try.ntmps103
    go_wp2_with fail
    go_loopw [17] (fun i wr => ∃ k : Nat, k ≤ a.length ∧ i = .int .i64 k ∧ (∀ j (h : j < a.length) (h' : j < b.length), j < k → a[j] = b[j]) ∧ Below w.heap.size w wr) (fun i _ => a.length - (intOf i).toNat)
    case atStart => exact ⟨0, Nat.zero_le _, rfl, fun j _ _ h => absurd h (by omega), Below.refl _ _⟩
    case round =>
      obtain ⟨k, hk, rfl, hall, hb⟩ := hrel
      have HA := mkHid hall
      have HB := mkHid hb
      clear hall hb
      by_cases hlt : k < a.length
      · have hlt2 : k < b.length := by have := HL.out; omega
        obtain ⟨bl, off, r1, rfl, -, c0, hk1⟩ := (HU.out.next HB.out).at k hlt
        obtain ⟨bl', off', r2, rfl, -, d0, hk2⟩ := (HV.out.next HB.out).at k hlt2
        obtain ⟨ad1, cap1, rfl, -, -, -⟩ := id hk1
        obtain ⟨ad2, cap2, rfl, -, -, -⟩ := id hk2
        obtain ⟨x, hx⟩ : ∃ x, x = a[k] := ⟨_, rfl⟩
        obtain ⟨y, hy⟩ : ∃ y, y = b[k] := ⟨_, rfl⟩
        rw [← hx] at c0 hk1
        rw [← hy] at d0 hk2
        have HX := mkHid hx
        have HY := mkHid hy
        have HQ := mkHid (equalB_calls x y _ _ wr hk1 hk2)
        clear hx hy hk1 hk2
        go_wp2_with fail
        refine HQ.out.mono ?_
        rintro e w1 ⟨rfl, hb1⟩
        have HB1 : Hid (Below w.heap.size w w1) := HB.out.trans (hb1.mono HB.out.size)
        clear hb1 c0 d0
        by_cases hxy : x = y
        · have HA2 : Hid (∀ j (h : j < a.length) (h' : j < b.length), j < k + 1 → a[j] = b[j]) := by
            intro j h h' hj
            by_cases e : j = k
            · subst e; rw [← HX.out, ← HY.out, hxy]
            · exact HA.out j h h' (by omega)
          rw [decide_eq_true hxy]
          clear hxy
          go_wp2_with fail
          go_roundw
          case rel => exact ⟨k + 1, by omega, by go_num, HA2.out, HB1.out⟩
          case measure => simp [intOf]; omega
        · have HV2 : Hid (r = false) := HR.out.trans (decide_eq_false fun h => hxy (by rw [HX.out, HY.out]; exact List.getElem_of_eq h hlt))
          rw [decide_eq_false hxy]
          clear hxy
          go_wp2_with fail
          go_ret
          exact ⟨ret_bool HV2.out.symm, HB1.out⟩
      · have HV2 : Hid (r = true) := HR.out.trans (decide_eq_true (List.ext_getElem HL.out fun j h h' => HA.out j h h' (by omega)))
        go_wp2_with fail
        go_ret
        exact ⟨ret_bool HV2.out.symm, HB.out⟩
  · have t1 : ((a.length : Int) != b.length) = true := by simp; omega
    have HV2 : Hid (r = false) := HR.out.trans (decide_eq_false fun h => hlen (by rw [h]))
    clear hlen
    go_enter Try.func103, Try.ntmps103
    go_wp2_with fail
    go_ret
    exact ⟨ret_bool HV2.out.symm, Below.refl _ _⟩

set_option maxHeartbeats 400000 in
theorem sameNeed_calls (a b : List (List Bool)) (u v : Value) (w : World) (hu : NIn w a u) (hv : NIn w b v) :
    Calls Try.prog 67 #[u, v] w fun e w' => e = .returned (.bool (decide (a = b))) ∧ Below w.heap.size w w' := by
  have HQ := mkHid (eqFuncN_calls a b u v w hu hv)
  obtain ⟨ad, cap, rfl, -, -, -⟩ := hu
  obtain ⟨ad', cap', rfl, -, -, -⟩ := hv
  go_enter Try.func67, Try.ntmps67
  go_wp2_with fail
  refine HQ.out.mono ?_
  rintro e w1 ⟨rfl, hb1⟩
  have HB1 := mkHid hb1
  clear hb1
  go_wp2_with fail
  go_ret
  exact ⟨rfl, HB1.out⟩

set_option maxHeartbeats 400000 in
theorem hasArity_calls (d : Df) (c : Value) (ad : Option Addr) (n cap : Nat) (w : World) (hk : In w d.2.kids c) (hcap : cap ≤ 9223372036854775807) (hn : n ≤ cap) :
    Calls Try.prog 73 #[.agg #[.int .i64 d.1, .int .i64 d.2.op, .int .i64 d.2.num, c], .slice ad n cap] w fun e w' => e = .returned (.bool (decide (d.1 = (n : Int)))) ∧ Below w.heap.size w w' := by
  obtain ⟨adk, capk, rfl, -, -, -⟩ := hk
  have HB : Hid (Below w.heap.size w (w.alloc (.cells #[.int .i64 d.1, .int .i64 d.2.op, .int .i64 d.2.num, .slice adk d.2.kids.length capk] 84))) := box_below _ _
  go_enter Try.func73, Try.ntmps73
  go_wp2_with fail
  go_ret
  exact ⟨rfl, HB.out⟩

set_option maxHeartbeats 800000 in
theorem eqFuncA_calls (ds : List Df) (need : List (List Bool)) (u v : Value) (w : World) (hu : DIn w ds u) (hv : NIn w need v) :
    Calls Try.prog 72 #[u, v, .func (.func 73) #[] #[]] w fun e w' => e = .returned (.bool (fitO ds need)) ∧ Below w.heap.size w w' := by
  have HU : Hid (DIn w ds u) := hu
  have HV : Hid (NIn w need v) := hv
  obtain ⟨ad, cap, rfl, hl, hm, -⟩ := hu
  obtain ⟨ad', cap', rfl, hl', hm', -⟩ := hv
  unfold maxLen at hm hm'
  obtain ⟨r, hr⟩ : ∃ r, r = fitO ds need := ⟨_, rfl⟩
  rw [← hr]
  have HR := mkHid hr
  clear hr
  by_cases hlen : ds.length = need.length
  · have t1 : ((ds.length : Int) != need.length) = false := by simp [hlen]
    have HL : Hid (ds.length = need.length) := hlen
    clear hlen
    go_enter Try.func72, Try.ntmps72
    go_wp2_with fail
    go_loopw [17] (fun i wr => ∃ k : Nat, k ≤ ds.length ∧ i = .int .i64 k ∧ (∀ j (h : j < ds.length) (h' : j < need.length), j < k → (need[j].length : Int) = ds[j].1) ∧ Below w.heap.size w wr) (fun i _ => ds.length - (intOf i).toNat)
    case atStart => exact ⟨0, Nat.zero_le _, rfl, fun j _ _ h => absurd h (by omega), Below.refl _ _⟩
    case round =>
      obtain ⟨k, hk, rfl, hall, hb⟩ := hrel
      have HA := mkHid hall
      have HB := mkHid hb
      clear hall hb
      by_cases hlt : k < ds.length
      · have hlt2 : k < need.length := by have := HL.out; omega
        obtain ⟨bl, off, c, rfl, c0, c1, c2, c3, -, -, -, hk1⟩ := (HU.out.next HB.out).at k hlt
        obtain ⟨bl', off', r2, rfl, -, d0, hk2⟩ := (HV.out.next HB.out).at k hlt2
        obtain ⟨ad1, cap1, rfl, -, -, -⟩ := id hk1
        obtain ⟨ad2, cap2, rfl, hl2, hm2, -⟩ := id hk2
        unfold maxLen at hm2
        obtain ⟨d, hd⟩ : ∃ d, d = ds[k] := ⟨_, rfl⟩
        rw [← hd] at c0 c1 c2 c3 hk1
        have HD := mkHid hd
        obtain ⟨m, hmm⟩ : ∃ m, m = need[k].length := ⟨_, rfl⟩
        rw [← hmm] at d0 hl2
        have HM := mkHid hmm
        have HBX : Hid (Below wr.heap.size wr (wr.alloc (.cells #[.int .i64 d.1, .int .i64 d.2.op, .int .i64 d.2.num, .slice ad1 d.2.kids.length cap1] 84))) := box_below _ _
        have d1 := old_cell d0 (.cells #[.int .i64 d.1, .int .i64 d.2.op, .int .i64 d.2.num, .slice ad1 d.2.kids.length cap1] 84)
        have HQ := mkHid (hasArity_calls d _ ad2 m cap2 _ (hk1.next HBX.out) (by omega) hl2)
        clear hd hk1 hk2 hmm d0
        go_wp2_with fail
        refine HQ.out.mono ?_
        rintro e w1 ⟨rfl, hb1⟩
        have HB1 : Hid (Below w.heap.size w w1) := HB.out.trans ((HBX.out.trans (hb1.mono HBX.out.size)).mono HB.out.size)
        clear hb1 c0 c1 c2 c3 d1
        by_cases hxy : d.1 = (m : Int)
        · have HA2 : Hid (∀ j (h : j < ds.length) (h' : j < need.length), j < k + 1 → (need[j].length : Int) = ds[j].1) := by
            intro j h h' hj
            by_cases e : j = k
            · subst e; rw [← HD.out, ← HM.out, hxy]
            · exact HA.out j h h' (by omega)
          rw [decide_eq_true hxy]
          clear hxy
          go_wp2_with fail
          go_roundw
          case rel => exact ⟨k + 1, by omega, by go_num, HA2.out, HB1.out⟩
          case measure => simp [intOf]; omega
        · have HV2 : Hid (r = false) := HR.out.trans (fitO_no fun h => hxy (by rw [HD.out, HM.out]; exact (h.2 k hlt hlt2).symm))
          rw [decide_eq_false hxy]
          clear hxy
          go_wp2_with fail
          go_ret
          exact ⟨ret_bool HV2.out.symm, HB1.out⟩
      · have HV2 : Hid (r = true) := HR.out.trans (fitO_yes ⟨HL.out.symm, fun j h h' => HA.out j h h' (by omega)⟩)
        go_wp2_with fail
        go_ret
        exact ⟨ret_bool HV2.out.symm, HB.out⟩
  · have t1 : ((ds.length : Int) != need.length) = true := by simp; omega
    have HV2 : Hid (r = false) := HR.out.trans (fitO_no fun h => hlen h.1.symm)
    clear hlen
    go_enter Try.func72, Try.ntmps72
    go_wp2_with fail
    go_ret
    exact ⟨ret_bool HV2.out.symm, Below.refl _ _⟩
end Go.Proofs.Ytocnkjicmchbdaa
