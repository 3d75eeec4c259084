/-
  THE MODEL's GraphValid AND FollowInd (l3Cell, GraphValid, l3Follow, FollowInd); nothing that was there is changed.
-/
import Derived.Test.YtjdlfpdljmohiaaMgFollowInd1
import Derived.Test.YtjdlfpdljmohiaaMgFollowInd4
import Derived.Test.YtjdlfpdljmohiaaMgFollowInd7
import Derived.Test.YtjdlfpdljmohiaaMgFollowInd2
import Derived.Deep.RegionHeld3
import Derived.Test.YtjdlfpdljmohiaaProg
import Derived.Test.YtjdlfpdljmohiaaMgFollowInd5
import Derived.Laws.OwnMore
import Derived.Test.YtjdlfpdljmohiaaMgFollowInd6
namespace Go.Proofs.Ytjdlfpdljmohiaa
set_option linter.unusedVariables false
set_option linter.unusedSimpArgs false
open Go.RowKit

theorem cellB_var {cells defs : Int} {c : Ce} (h : c.op = 1) : cellB cells defs c = false := by
  unfold cellB fitsB; rw [h, ownB_var]; simp
theorem cellB_len {cells defs : Int} {c : Ce} (h : ¬ (c.kids.length : Int) = cArity c.op) : cellB cells defs c = false := by
  unfold cellB fitsB; rw [decide_eq_false h]; simp
theorem cellB_kid {cells defs : Int} {c : Ce} (k : Nat) (hk : k < c.kids.length) (h : isAt cells c.kids[k] = false) : cellB cells defs c = false := by
  unfold cellB; rw [allI_false_of _ _ k hk h]; simp
theorem cellB_all {cells defs : Int} {c : Ce} (h : (c.kids.length : Int) = cArity c.op) (ha : c.kids.all (isAt cells) = true) : cellB cells defs c = ownB c.op c.num 0 defs := by
  unfold cellB fitsB; rw [decide_eq_true h, ha]; simp
theorem all_end {α : Type} {p : α → Bool} {l : List α} {k : Nat} (h : (l.take k).all p = true) (e : l.length = k) : l.all p = true := by
  subst e; rwa [List.take_length] at h
theorem isAt_lo {cells k : Int} (h : k < 0) : isAt cells k = false := by unfold isAt; rw [decide_eq_false]; omega
theorem isAt_hi {cells k : Int} (h : ¬ k < cells) : isAt cells k = false := by unfold isAt; rw [decide_eq_false]; omega
theorem isAt_in {cells k : Int} (h0 : 0 ≤ k) (h : k < cells) : isAt cells k = true := by unfold isAt; rw [decide_eq_true]; exact ⟨h0, h⟩

set_option maxHeartbeats 800000 in
theorem l3Cell_var (c : Ce) (cells defs : Int) (v : Value) (w : World) (hk : IIn w c.kids v) (h1 : c.op = 1) :
    Calls Try.prog 78 #[.agg #[.int .i64 c.op, .int .i64 c.num, v], .int .i64 cells, .int .i64 defs] w fun e w' => e = .returned (.bool (cellB cells defs c)) ∧ Below w.heap.size w w' := by
  have HK : Hid (IIn w c.kids v) := hk
  obtain ⟨ad, cap, rfl, hl, hm, -⟩ := hk
  unfold maxLen at hm
  have HV : Hid (cellB cells defs c = false) := cellB_var h1
  have t1 : (c.op == 1) = true := by simpa using h1
  have t11 : (c.op == 11) = false := by simp [h1]
  clear h1
  go_enter Try.func78, Try.ntmps78
  go_wp2_with fail
  refine (l1Kids_below c.op _).mono ?_
  rintro e w1 ⟨rfl, hb⟩
  have HB : Hid (Below w.heap.size w w1) := (box_below _ _).trans (hb.mono (by rw [Deep.nblk_alloc]; omega))
  have hz : w.heap.size < w1.heap.size := by have := hb.size; rw [Deep.nblk_alloc] at this; omega
  have c0 := (hb.cell (p := ⟨w.heap.size, 0, none⟩) (by rw [Deep.nblk_alloc]; exact Nat.lt_succ_self _)).trans (box_cell w #[.int .i64 c.op, .int .i64 c.num, .slice ad c.kids.length cap] 35 0 _ rfl)
  have c1 := (hb.cell (p := ⟨w.heap.size, 1, none⟩) (by rw [Deep.nblk_alloc]; exact Nat.lt_succ_self _)).trans (box_cell w #[.int .i64 c.op, .int .i64 c.num, .slice ad c.kids.length cap] 35 1 _ rfl)
  have c2 := (hb.cell (p := ⟨w.heap.size, 2, none⟩) (by rw [Deep.nblk_alloc]; exact Nat.lt_succ_self _)).trans (box_cell w #[.int .i64 c.op, .int .i64 c.num, .slice ad c.kids.length cap] 35 2 _ rfl)
  clear hb
  go_wp2_with fail
  go_ret
  exact ⟨ret_bool HV.out.symm, HB.out⟩

set_option maxHeartbeats 800000 in
theorem l3Cell_ind_no (c : Ce) (cells defs : Int) (v : Value) (w : World) (hk : IIn w c.kids v) (h1 : c.op = 11) (hlen : ¬ (c.kids.length : Int) = cArity c.op) :
    Calls Try.prog 78 #[.agg #[.int .i64 c.op, .int .i64 c.num, v], .int .i64 cells, .int .i64 defs] w fun e w' => e = .returned (.bool (cellB cells defs c)) ∧ Below w.heap.size w w' := by
  have HK : Hid (IIn w c.kids v) := hk
  obtain ⟨ad, cap, rfl, hl, hm, -⟩ := hk
  unfold maxLen at hm
  have t1 : (c.op == 1) = false := by simp [h1]
  have t11 : (c.op == 11) = true := by simpa using h1
  have ha : cArity c.op = 1 := by unfold cArity; rw [if_pos h1]
  have HV : Hid (cellB cells defs c = false) := cellB_len hlen
  rw [ha] at hlen
  have t2 : ((c.kids.length : Int) != 1) = true := by simpa using hlen
  clear h1 hlen ha
  go_enter Try.func78, Try.ntmps78
  go_wp2_with fail
  refine (l1Kids_below c.op _).mono ?_
  rintro e w1 ⟨rfl, hb⟩
  have HB : Hid (Below w.heap.size w w1) := (box_below _ _).trans (hb.mono (by rw [Deep.nblk_alloc]; omega))
  have hz : w.heap.size < w1.heap.size := by have := hb.size; rw [Deep.nblk_alloc] at this; omega
  have c0 := (hb.cell (p := ⟨w.heap.size, 0, none⟩) (by rw [Deep.nblk_alloc]; exact Nat.lt_succ_self _)).trans (box_cell w #[.int .i64 c.op, .int .i64 c.num, .slice ad c.kids.length cap] 35 0 _ rfl)
  have c1 := (hb.cell (p := ⟨w.heap.size, 1, none⟩) (by rw [Deep.nblk_alloc]; exact Nat.lt_succ_self _)).trans (box_cell w #[.int .i64 c.op, .int .i64 c.num, .slice ad c.kids.length cap] 35 1 _ rfl)
  have c2 := (hb.cell (p := ⟨w.heap.size, 2, none⟩) (by rw [Deep.nblk_alloc]; exact Nat.lt_succ_self _)).trans (box_cell w #[.int .i64 c.op, .int .i64 c.num, .slice ad c.kids.length cap] 35 2 _ rfl)
  clear hb
  go_wp2_with fail
  go_ret
  exact ⟨ret_bool HV.out.symm, HB.out⟩

set_option maxHeartbeats 800000 in
theorem l3Cell_ind_ok (c : Ce) (cells defs : Int) (v : Value) (w : World) (hk : IIn w c.kids v) (h1 : c.op = 11) (hlen : (c.kids.length : Int) = cArity c.op) :
    Calls Try.prog 78 #[.agg #[.int .i64 c.op, .int .i64 c.num, v], .int .i64 cells, .int .i64 defs] w fun e w' => e = .returned (.bool (cellB cells defs c)) ∧ Below w.heap.size w w' := by
  have HK : Hid (IIn w c.kids v) := hk
  obtain ⟨ad, cap, rfl, hl, hm, -⟩ := hk
  unfold maxLen at hm
  have t1 : (c.op == 1) = false := by simp [h1]
  have t11 : (c.op == 11) = true := by simpa using h1
  have ha : cArity c.op = 1 := by unfold cArity; rw [if_pos h1]
  have t2 : ((c.kids.length : Int) != 1) = false := by rw [ha] at hlen; simpa using hlen
  clear h1 ha
  go_enter Try.func78, Try.ntmps78
  go_wp2_with fail
  refine (l1Kids_below c.op _).mono ?_
  rintro e w1 ⟨rfl, hb⟩
  have HB : Hid (Below w.heap.size w w1) := (box_below _ _).trans (hb.mono (by rw [Deep.nblk_alloc]; omega))
  have hz : w.heap.size < w1.heap.size := by have := hb.size; rw [Deep.nblk_alloc] at this; omega
  have c0 := (hb.cell (p := ⟨w.heap.size, 0, none⟩) (by rw [Deep.nblk_alloc]; exact Nat.lt_succ_self _)).trans (box_cell w #[.int .i64 c.op, .int .i64 c.num, .slice ad c.kids.length cap] 35 0 _ rfl)
  have c1 := (hb.cell (p := ⟨w.heap.size, 1, none⟩) (by rw [Deep.nblk_alloc]; exact Nat.lt_succ_self _)).trans (box_cell w #[.int .i64 c.op, .int .i64 c.num, .slice ad c.kids.length cap] 35 1 _ rfl)
  have c2 := (hb.cell (p := ⟨w.heap.size, 2, none⟩) (by rw [Deep.nblk_alloc]; exact Nat.lt_succ_self _)).trans (box_cell w #[.int .i64 c.op, .int .i64 c.num, .slice ad c.kids.length cap] 35 2 _ rfl)
  clear hb
  have HL : Hid ((c.kids.length : Int) = cArity c.op) := hlen
  clear hlen
  go_wp2_with fail
  go_loopw [8] (fun i wr => ∃ k : Nat, k ≤ c.kids.length ∧ i = .int .i64 k ∧ (c.kids.take k).all (isAt cells) = true ∧ Below w1.heap.size w1 wr) (fun i _ => c.kids.length - (intOf i).toNat)
  case atStart => exact ⟨0, Nat.zero_le _, rfl, by simp, Below.refl _ _⟩
  case round =>
    obtain ⟨k, hk, rfl, hall, hb⟩ := hrel
    have HA : Hid ((c.kids.take k).all (isAt cells) = true) := hall
    have HBW : Hid (Below w.heap.size w wr) := HB.out.trans (hb.mono (Nat.le_of_lt hz))
    have HBR : Hid (Below w1.heap.size w1 wr) := hb
    have e0 := (hb.cell (p := ⟨w.heap.size, 0, none⟩) hz).trans c0
    have e1 := (hb.cell (p := ⟨w.heap.size, 1, none⟩) hz).trans c1
    have e2 := (hb.cell (p := ⟨w.heap.size, 2, none⟩) hz).trans c2
    clear hall hb c0 c1 c2
    by_cases hlt : k < c.kids.length
    · obtain ⟨bl, off, rfl, d0⟩ := (HK.out.next HBW.out).at k hlt
      by_cases hneg : c.kids[k] < 0
      · have HV : Hid (cellB cells defs c = false) := cellB_kid k hlt (isAt_lo hneg)
        go_wp2_with fail
        go_ret
        exact ⟨ret_bool HV.out.symm, HBW.out⟩
      by_cases hhi : c.kids[k] < cells
      · have HA2 : Hid ((c.kids.take (k + 1)).all (isAt cells) = true) := by rw [Hid, allI_take_succ _ _ _ hlt, HA.out, isAt_in (by omega) hhi]; rfl
        go_wp2_with fail
        go_roundw
        case rel => exact ⟨k + 1, by omega, by go_num, HA2.out, HBR.out⟩
        case measure => simp [intOf]; omega
      · have HV : Hid (cellB cells defs c = false) := cellB_kid k hlt (isAt_hi hhi)
        go_wp2_with fail
        go_ret
        exact ⟨ret_bool HV.out.symm, HBW.out⟩
    · have hke : c.kids.length = k := by omega
      have HV : Hid (cellB cells defs c = ownB c.op c.num 0 defs) := cellB_all HL.out (all_end HA.out hke)
      clear hke
      go_wp2_with fail
      refine (l1Own_calls c.op c.num 0 defs _ _).mono ?_
      rintro e w3 ⟨rfl, hb3⟩
      have HB3 : Hid (Below w.heap.size w w3) := HBW.out.trans (hb3.mono HBW.out.size)
      clear hb3
      go_wp2_with fail
      go_ret
      exact ⟨ret_bool HV.out.symm, HB3.out⟩

set_option maxHeartbeats 800000 in
theorem l3Cell_other_no (c : Ce) (cells defs : Int) (v : Value) (w : World) (hk : IIn w c.kids v) (h1 : c.op ≠ 1) (h11 : c.op ≠ 11) (hlen : ¬ (c.kids.length : Int) = cArity c.op) :
    Calls Try.prog 78 #[.agg #[.int .i64 c.op, .int .i64 c.num, v], .int .i64 cells, .int .i64 defs] w fun e w' => e = .returned (.bool (cellB cells defs c)) ∧ Below w.heap.size w w' := by
  have HK : Hid (IIn w c.kids v) := hk
  obtain ⟨ad, cap, rfl, hl, hm, -⟩ := hk
  unfold maxLen at hm
  have t1 : (c.op == 1) = false := by simpa using h1
  have t11 : (c.op == 11) = false := by simpa using h11
  have ha : cArity c.op = arity c.op := by unfold cArity; rw [if_neg h11]
  have HV : Hid (cellB cells defs c = false) := cellB_len hlen
  rw [ha] at hlen
  have t2 : ((c.kids.length : Int) != arity c.op) = true := by simpa using hlen
  clear h1 h11 hlen ha
  go_enter Try.func78, Try.ntmps78
  go_wp2_with fail
  refine (l1Kids_below c.op _).mono ?_
  rintro e w1 ⟨rfl, hb⟩
  have HB : Hid (Below w.heap.size w w1) := (box_below _ _).trans (hb.mono (by rw [Deep.nblk_alloc]; omega))
  have hz : w.heap.size < w1.heap.size := by have := hb.size; rw [Deep.nblk_alloc] at this; omega
  have c0 := (hb.cell (p := ⟨w.heap.size, 0, none⟩) (by rw [Deep.nblk_alloc]; exact Nat.lt_succ_self _)).trans (box_cell w #[.int .i64 c.op, .int .i64 c.num, .slice ad c.kids.length cap] 35 0 _ rfl)
  have c1 := (hb.cell (p := ⟨w.heap.size, 1, none⟩) (by rw [Deep.nblk_alloc]; exact Nat.lt_succ_self _)).trans (box_cell w #[.int .i64 c.op, .int .i64 c.num, .slice ad c.kids.length cap] 35 1 _ rfl)
  have c2 := (hb.cell (p := ⟨w.heap.size, 2, none⟩) (by rw [Deep.nblk_alloc]; exact Nat.lt_succ_self _)).trans (box_cell w #[.int .i64 c.op, .int .i64 c.num, .slice ad c.kids.length cap] 35 2 _ rfl)
  clear hb
  go_wp2_with fail
  go_ret
  exact ⟨ret_bool HV.out.symm, HB.out⟩

set_option maxHeartbeats 800000 in
theorem l3Cell_other_ok (c : Ce) (cells defs : Int) (v : Value) (w : World) (hk : IIn w c.kids v) (h1 : c.op ≠ 1) (h11 : c.op ≠ 11) (hlen : (c.kids.length : Int) = cArity c.op) :
    Calls Try.prog 78 #[.agg #[.int .i64 c.op, .int .i64 c.num, v], .int .i64 cells, .int .i64 defs] w fun e w' => e = .returned (.bool (cellB cells defs c)) ∧ Below w.heap.size w w' := by
  have HK : Hid (IIn w c.kids v) := hk
  obtain ⟨ad, cap, rfl, hl, hm, -⟩ := hk
  unfold maxLen at hm
  have t1 : (c.op == 1) = false := by simpa using h1
  have t11 : (c.op == 11) = false := by simpa using h11
  have ha : cArity c.op = arity c.op := by unfold cArity; rw [if_neg h11]
  have t2 : ((c.kids.length : Int) != arity c.op) = false := by rw [ha] at hlen; simpa using hlen
  clear h1 h11 ha
  go_enter Try.func78, Try.ntmps78
  go_wp2_with fail
  refine (l1Kids_below c.op _).mono ?_
  rintro e w1 ⟨rfl, hb⟩
  have HB : Hid (Below w.heap.size w w1) := (box_below _ _).trans (hb.mono (by rw [Deep.nblk_alloc]; omega))
  have hz : w.heap.size < w1.heap.size := by have := hb.size; rw [Deep.nblk_alloc] at this; omega
  have c0 := (hb.cell (p := ⟨w.heap.size, 0, none⟩) (by rw [Deep.nblk_alloc]; exact Nat.lt_succ_self _)).trans (box_cell w #[.int .i64 c.op, .int .i64 c.num, .slice ad c.kids.length cap] 35 0 _ rfl)
  have c1 := (hb.cell (p := ⟨w.heap.size, 1, none⟩) (by rw [Deep.nblk_alloc]; exact Nat.lt_succ_self _)).trans (box_cell w #[.int .i64 c.op, .int .i64 c.num, .slice ad c.kids.length cap] 35 1 _ rfl)
  have c2 := (hb.cell (p := ⟨w.heap.size, 2, none⟩) (by rw [Deep.nblk_alloc]; exact Nat.lt_succ_self _)).trans (box_cell w #[.int .i64 c.op, .int .i64 c.num, .slice ad c.kids.length cap] 35 2 _ rfl)
  clear hb
  have HL : Hid ((c.kids.length : Int) = cArity c.op) := hlen
  clear hlen
  go_wp2_with fail
  go_loopw [8] (fun i wr => ∃ k : Nat, k ≤ c.kids.length ∧ i = .int .i64 k ∧ (c.kids.take k).all (isAt cells) = true ∧ Below w1.heap.size w1 wr) (fun i _ => c.kids.length - (intOf i).toNat)
  case atStart => exact ⟨0, Nat.zero_le _, rfl, by simp, Below.refl _ _⟩
  case round =>
    obtain ⟨k, hk, rfl, hall, hb⟩ := hrel
    have HA : Hid ((c.kids.take k).all (isAt cells) = true) := hall
    have HBW : Hid (Below w.heap.size w wr) := HB.out.trans (hb.mono (Nat.le_of_lt hz))
    have HBR : Hid (Below w1.heap.size w1 wr) := hb
    have e0 := (hb.cell (p := ⟨w.heap.size, 0, none⟩) hz).trans c0
    have e1 := (hb.cell (p := ⟨w.heap.size, 1, none⟩) hz).trans c1
    have e2 := (hb.cell (p := ⟨w.heap.size, 2, none⟩) hz).trans c2
    clear hall hb c0 c1 c2
    by_cases hlt : k < c.kids.length
    · obtain ⟨bl, off, rfl, d0⟩ := (HK.out.next HBW.out).at k hlt
      by_cases hneg : c.kids[k] < 0
      · have HV : Hid (cellB cells defs c = false) := cellB_kid k hlt (isAt_lo hneg)
        go_wp2_with fail
        go_ret
        exact ⟨ret_bool HV.out.symm, HBW.out⟩
      by_cases hhi : c.kids[k] < cells
      · have HA2 : Hid ((c.kids.take (k + 1)).all (isAt cells) = true) := by rw [Hid, allI_take_succ _ _ _ hlt, HA.out, isAt_in (by omega) hhi]; rfl
        go_wp2_with fail
        go_roundw
        case rel => exact ⟨k + 1, by omega, by go_num, HA2.out, HBR.out⟩
        case measure => simp [intOf]; omega
      · have HV : Hid (cellB cells defs c = false) := cellB_kid k hlt (isAt_hi hhi)
        go_wp2_with fail
        go_ret
        exact ⟨ret_bool HV.out.symm, HBW.out⟩
    · have hke : c.kids.length = k := by omega
      have HV : Hid (cellB cells defs c = ownB c.op c.num 0 defs) := cellB_all HL.out (all_end HA.out hke)
      clear hke
      go_wp2_with fail
      refine (l1Own_calls c.op c.num 0 defs _ _).mono ?_
      rintro e w3 ⟨rfl, hb3⟩
      have HB3 : Hid (Below w.heap.size w w3) := HBW.out.trans (hb3.mono HBW.out.size)
      clear hb3
      go_wp2_with fail
      go_ret
      exact ⟨ret_bool HV.out.symm, HB3.out⟩

theorem l3Cell_calls (c : Ce) (cells defs : Int) (v : Value) (w : World) (hk : IIn w c.kids v) :
    Calls Try.prog 78 #[.agg #[.int .i64 c.op, .int .i64 c.num, v], .int .i64 cells, .int .i64 defs] w fun e w' => e = .returned (.bool (cellB cells defs c)) ∧ Below w.heap.size w w' := by
  by_cases h1 : c.op = 1
  · exact l3Cell_var c cells defs v w hk h1
  by_cases h11 : c.op = 11
  · by_cases hlen : (c.kids.length : Int) = cArity c.op
    · exact l3Cell_ind_ok c cells defs v w hk h11 hlen
    · exact l3Cell_ind_no c cells defs v w hk h11 hlen
  · by_cases hlen : (c.kids.length : Int) = cArity c.op
    · exact l3Cell_other_ok c cells defs v w hk h1 h11 hlen
    · exact l3Cell_other_no c cells defs v w hk h1 h11 hlen

theorem graphB_no {g : List Ce} {defs : Int} (h : ¬ ((g.length : Int) ≤ 400 ∧ 0 ≤ defs ∧ defs ≤ 6)) : graphB g defs = false := by unfold graphB; rw [decide_eq_false h]; rfl
theorem graphB_cellNo {g : List Ce} {defs : Int} (k : Nat) (hk : k < g.length) (h : cellB g.length defs g[k] = false) : graphB g defs = false := by
  unfold graphB; rw [allI_false_of _ _ k hk h]; simp
theorem graphB_yes {g : List Ce} {defs : Int} (h : (g.length : Int) ≤ 400 ∧ 0 ≤ defs ∧ defs ≤ 6) (ha : g.all (cellB g.length defs) = true) : graphB g defs = true := by
  unfold graphB; rw [decide_eq_true h, ha]; rfl

set_option maxHeartbeats 800000 in
theorem specGraph_calls (g : List Ce) (defs : Int) (v : Value) (w : World) (hk : CIn w g v) :
    Calls Try.prog 43 #[v, .int .i64 defs] w fun e w' => e = .returned (.bool (graphB g defs)) ∧ Below w.heap.size w w' := by
  have HK : Hid (CIn w g v) := hk
  obtain ⟨ad, cap, rfl, hl, hm, -⟩ := hk
  unfold maxLen at hm
  by_cases hlim : (g.length : Int) ≤ 400 ∧ 0 ≤ defs ∧ defs ≤ 6
  · have HLM : Hid ((g.length : Int) ≤ 400 ∧ 0 ≤ defs ∧ defs ≤ 6) := hlim
    obtain ⟨l1, l2, l3⟩ := hlim
    go_enter Try.func43, Try.ntmps43
    go_wp2_with fail
    go_loopw [5] (fun i wr => ∃ k : Nat, k ≤ g.length ∧ i = .int .i64 k ∧ (g.take k).all (cellB g.length defs) = true ∧ Below w.heap.size w wr) (fun i _ => g.length - (intOf i).toNat)
    case atStart => exact ⟨0, Nat.zero_le _, rfl, by simp, Below.refl _ _⟩
    case round =>
      obtain ⟨k, hk, rfl, hall, hb⟩ := hrel
      have HA : Hid ((g.take k).all (cellB g.length defs) = true) := hall
      have HB : Hid (Below w.heap.size w wr) := hb
      clear hall hb
      by_cases hlt : k < g.length
      · obtain ⟨bl, off, r, rfl, c0, c1, c2, -, -, hkk⟩ := (HK.out.next HB.out).at k hlt
        have HKK : Hid (IIn wr g[k].kids r) := hkk
        clear hkk
        go_wp2_with fail
        refine (l3Cell_calls g[k] _ defs r _ HKK.out).mono ?_
        rintro e w1 ⟨rfl, hb1⟩
        have HB1 : Hid (Below w.heap.size w w1) := HB.out.trans (hb1.mono HB.out.size)
        clear hb1 c0 c1 c2
        cases hc : cellB (g.length : Int) defs g[k] with
        | false =>
          have HV : Hid (graphB g defs = false) := graphB_cellNo k hlt hc
          clear hc
          go_wp2_with fail
          go_ret
          exact ⟨ret_bool HV.out.symm, HB1.out⟩
        | true =>
          have HA2 : Hid ((g.take (k + 1)).all (cellB g.length defs) = true) := by rw [Hid, allI_take_succ _ _ _ hlt, HA.out, hc]; rfl
          clear hc
          go_wp2_with fail
          go_roundw
          case rel => exact ⟨k + 1, by omega, by go_num, HA2.out, HB1.out⟩
          case measure => simp [intOf]; omega
      · have hke : g.length = k := by omega
        have HV : Hid (graphB g defs = true) := graphB_yes HLM.out (all_end HA.out hke)
        clear hke
        go_wp2_with fail
        go_ret
        exact ⟨ret_bool HV.out.symm, HB.out⟩
  · have HV : Hid (graphB g defs = false) := graphB_no hlim
    by_cases l1 : (g.length : Int) ≤ 400
    · by_cases l2 : 0 ≤ defs
      · have l3 : ¬ defs ≤ 6 := fun h => hlim ⟨l1, l2, h⟩
        clear hlim
        go_enter Try.func43, Try.ntmps43
        go_wp2_with fail
        go_ret
        exact ⟨ret_bool HV.out.symm, Below.refl _ _⟩
      · clear hlim
        go_enter Try.func43, Try.ntmps43
        go_wp2_with fail
        go_ret
        exact ⟨ret_bool HV.out.symm, Below.refl _ _⟩
    · clear hlim
      go_enter Try.func43, Try.ntmps43
      go_wp2_with fail
      go_ret
      exact ⟨ret_bool HV.out.symm, Below.refl _ _⟩
end Go.Proofs.Ytjdlfpdljmohiaa
/-
  THE MODEL's ExprValid: which trees it takes for valid; nothing that was there is changed.
-/
namespace Go.Proofs.Ytjdlfpdljmohiaa
set_option linter.unusedVariables false
set_option linter.unusedSimpArgs false
open Go.RowKit

set_option maxHeartbeats 400000 in
theorem specValid_calls (t : Tr) (vars defs : Int) (c : Value) (w : World) (hk : In w t.kids c) : Calls Try.prog 65 #[.agg #[.int .i64 t.op, .int .i64 t.num, c], .int .i64 vars, .int .i64 defs] w fun e w' => e = .returned (.bool (validB t vars defs)) ∧ Below w.heap.size w w' := by
  have HK : Hid (In w t.kids c) := hk
  clear hk
  have HBX : Hid (Below w.heap.size w (w.alloc (.cells #[.int .i64 t.op, .int .i64 t.num, c] 30))) := box_below _ _
  by_cases hv0 : 0 ≤ vars
  · by_cases hv4 : vars ≤ 4
    · by_cases hd0 : 0 ≤ defs
      · by_cases hd6 : defs ≤ 6
        · have HV : Hid (validB t vars defs = isB t vars defs) := by
            simp only [Hid, validB, isB]
            rw [decide_eq_true (show 0 ≤ vars ∧ vars ≤ 4 ∧ 0 ≤ defs ∧ defs ≤ 6 from ⟨hv0, hv4, hd0, hd6⟩), Bool.true_and]
            congr 1
            rw [decide_eq_decide]
            omega
          go_enter Try.func65, Try.ntmps65
          go_wp2_with fail
          refine (l1Is_calls t vars defs c _ (HK.out.next HBX.out)).mono ?_
          rintro e w2 ⟨rfl, hb2⟩
          have HB2 : Hid (Below w.heap.size w w2) := HBX.out.trans (hb2.mono HBX.out.size)
          clear hb2
          go_wp2_with fail
          go_ret
          exact ⟨ret_bool HV.out.symm, HB2.out⟩
        · have HV : Hid (validB t vars defs = false) := by
            simp only [Hid, validB]
            rw [decide_eq_false (show ¬ (0 ≤ vars ∧ vars ≤ 4 ∧ 0 ≤ defs ∧ defs ≤ 6) by omega), Bool.false_and]
          go_enter Try.func65, Try.ntmps65
          go_wp2_with fail
          go_ret
          exact ⟨ret_bool HV.out.symm, HBX.out⟩
      · have HV : Hid (validB t vars defs = false) := by
          simp only [Hid, validB]
          rw [decide_eq_false (show ¬ (0 ≤ vars ∧ vars ≤ 4 ∧ 0 ≤ defs ∧ defs ≤ 6) by omega), Bool.false_and]
        go_enter Try.func65, Try.ntmps65
        go_wp2_with fail
        go_ret
        exact ⟨ret_bool HV.out.symm, HBX.out⟩
    · have HV : Hid (validB t vars defs = false) := by
        simp only [Hid, validB]
        rw [decide_eq_false (show ¬ (0 ≤ vars ∧ vars ≤ 4 ∧ 0 ≤ defs ∧ defs ≤ 6) by omega), Bool.false_and]
      go_enter Try.func65, Try.ntmps65
      go_wp2_with fail
      go_ret
      exact ⟨ret_bool HV.out.symm, HBX.out⟩
  · have HV : Hid (validB t vars defs = false) := by
      simp only [Hid, validB]
      rw [decide_eq_false (show ¬ (0 ≤ vars ∧ vars ≤ 4 ∧ 0 ≤ defs ∧ defs ≤ 6) by omega), Bool.false_and]
    go_enter Try.func65, Try.ntmps65
    go_wp2_with fail
    go_ret
    exact ⟨ret_bool HV.out.symm, HBX.out⟩
end Go.Proofs.Ytjdlfpdljmohiaa
/-
  THE MODEL's BuildGraph AND AddExpr.
-/
namespace Go.Proofs.Ytjdlfpdljmohiaa
set_option linter.unusedVariables false
set_option linter.unusedSimpArgs false
open Go.RowKit

set_option maxRecDepth 100000 in
set_option maxHeartbeats 1600000 in
theorem specBuild_calls (t : Tr) (defs : Int) (c : Value) (w : World) (hk : In w t.kids c) (ho : I64 t.op) (hn : I64 t.num) :
    Calls Try.prog 82 #[.agg #[.int .i64 t.op, .int .i64 t.num, c], .int .i64 defs] w (AddOut (addOut [] t [] defs) w) := by
  have HK : Hid (In w t.kids c) := hk
  have HT : Hid (I64 t.op ∧ I64 t.num) := ⟨ho, hn⟩
  obtain ⟨ad, cap, rfl, -, hm, -⟩ := hk
  unfold maxLen at hm
  clear ho hn
  go_enter Try.func82, Try.ntmps82
  go_wp2_with fail
  refine (specValid_calls t 0 defs _ _ (HK.out.next (box_below _ _))).mono ?_
  rintro e w1 ⟨rfl, hb1⟩
  have HB1 : Hid (Below w.heap.size w w1) := (box_below _ _).trans (hb1.mono (by rw [Deep.nblk_alloc]; omega))
  have hz1 : w.heap.size < w1.heap.size := by have := hb1.size; rw [Deep.nblk_alloc] at this; omega
  have hr1 : w1.heap[w.heap.size]? = some (.cells #[.int .i64 t.op, .int .i64 t.num, .slice ad t.kids.length cap] 30) := (hb1.block _ (by rw [Deep.nblk_alloc]; omega)).trans (Deep.blk_alloc_new _ _)
  have r0 := cell_of_blk hr1 0 _ rfl
  have r1 := cell_of_blk hr1 1 _ rfl
  have r2 := cell_of_blk hr1 2 _ rfl
  clear hb1 hr1
  by_cases hv : validB t 0 defs = true
  · obtain ⟨v1, v2, -, -⟩ := validB_small hv
    have HV : Hid (addOut [] t [] defs = ((addT [] t []).1, (addT [] t []).2, true)) := by rw [Hid, addOut_closed, if_pos hv]
    have HP : Hid (AllT (VarOk 0) t) := varOk_of_sh 0 defs 16 t v2
    have HSZ : Hid (szT t ≤ 500000) := by rw [Hid]; omega
    rw [hv]
    clear hv v1 v2
    go_wp2_with fail
    have hc := ad_calls [] t (.slice (some ⟨w1.heap.size, 0, none⟩) 0 0) (.slice none 0 0) (.slice ad t.kids.length cap) w.heap.size (fun b => w.heap.size ≤ b) [] (w1.alloc (.cells #[] 35)) (OwnC.zero (Deep.blk_alloc_new _ _) HB1.out.size) (by rw [Deep.nblk_alloc]; omega) ⟨none, 0, rfl, Nat.le_refl _, by simp [maxLen], Or.inl rfl⟩ (HK.out.mono (fun _ h => h) (fun k hk => by have h : k < w.heap.size := hk; exact (Deep.blk_alloc_lt _ _ _ (by omega)).trans (HB1.out.block k h))) (by have := HSZ.out; simp only [List.length_nil]; omega) (by simp) HT.out.1 HT.out.2 HP.out
    refine hc.mono ?_
    rintro e w2 ⟨gv', rfl, hg2, hgr2, how2⟩
    have HG2 : Hid (OwnC w2 w.heap.size (fun b => w.heap.size ≤ b) (addT [] t []).1 gv') := hg2.next (fun b hb _ => by rcases hb with hb | hb; exact hb; rw [Deep.nblk_alloc] at hb; omega) (fun _ _ _ => rfl) (fun _ _ _ => rfl)
    have HB2 : Hid (Below w.heap.size w w2) := below_grown (HB1.out.alloc HB1.out.size _) hgr2 (fun k hk => by simp only [Value.ownBlock, Option.some.injEq] at hk; omega)
    clear hc hg2 hgr2 how2
    go_wp2_with fail
    refine bodyPost_ret (v := .tuple #[gv', .int .i64 ((addT [] t []).2 : Int), .bool true]) (by simp [results, Try.results82, go_sem]) rfl ?_
    rw [HV.out]
    exact ⟨gv', rfl, HG2.out, HB2.out⟩
  · have HV : Hid (addOut [] t [] defs = ([], 0, false)) := by rw [Hid, addOut_closed, if_neg hv]
    rw [Bool.not_eq_true] at hv
    rw [hv]
    clear hv
    go_wp2_with fail
    refine bodyPost_ret (v := .tuple #[.slice (some ⟨w1.heap.size, 0, none⟩) 0 0, .int .i64 0, .bool false]) (by simp [results, Try.results82, go_sem]) rfl ?_
    rw [HV.out]
    exact ⟨_, rfl, OwnC.zero (Deep.blk_alloc_new _ _) HB1.out.size, HB1.out.alloc HB1.out.size _⟩
end Go.Proofs.Ytjdlfpdljmohiaa
/-
  THE MODEL's AddExpr.
-/
namespace Go.Proofs.Ytjdlfpdljmohiaa
set_option linter.unusedVariables false
set_option linter.unusedSimpArgs false
open Go.RowKit

theorem mkHid2 {p : Prop} (h : p) : Hid p := h
theorem OwnC.downS {w : World} {lo lo' : Nat} {S S' : Nat → Prop} {g : List Ce} {v : Value} (h : OwnC w lo S g v) (hl : lo' ≤ lo) (hS : ∀ k, S k → S' k) : OwnC w lo' S' g v := by
  obtain ⟨hi0, xs, kb, h1, h2, h3⟩ := h.next (S' := S') (fun k hk _ => hS k hk) (fun _ _ _ => rfl) (fun _ _ _ => rfl)
  refine ⟨hi0, xs, kb, ⟨h1.1, ?_⟩, h2, h3⟩
  rcases h1.2 with h | ⟨b, cap, cur, rfl, hg, r⟩
  · exact Or.inl h
  · exact Or.inr ⟨b, cap, cur, rfl, Nat.le_trans hl hg, r⟩
set_option maxRecDepth 100000 in
set_option maxHeartbeats 1600000 in
theorem specAddX_calls (g : List Ce) (t : Tr) (xs : List Int) (defs : Int) (gv c av : Value) (w : World) (hg : CIn w g gv) (hk : In w t.kids c) (ha : IIn w xs av) (ho : I64 t.op) (hn : I64 t.num) :
    Calls Try.prog 34 #[gv, .agg #[.int .i64 t.op, .int .i64 t.num, c], av, .int .i64 defs] w (AddOut (addOut g t xs defs) w) := by
  have HG : Hid (CIn w g gv) := hg
  have HK : Hid (In w t.kids c) := hk
  have HA : Hid (IIn w xs av) := ha
  have HT : Hid (I64 t.op ∧ I64 t.num) := ⟨ho, hn⟩
  obtain ⟨adg, capg, rfl, hgl, hgm, -⟩ := hg
  obtain ⟨ad, cap, rfl, -, hm, -⟩ := hk
  obtain ⟨ada, capa, rfl, hal, ham, -⟩ := ha
  unfold maxLen at hm hgm ham
  clear ho hn
  go_enter Try.func34, Try.ntmps34
  go_wp2_with fail
  refine (specGraph_calls g defs _ _ (HG.out.next (box_below _ _))).mono ?_
  rintro e w1 ⟨rfl, hb1⟩
  have HB1 : Hid (Below w.heap.size w w1) := (box_below _ _).trans (hb1.mono (by rw [Deep.nblk_alloc]; omega))
  have hz1 : w.heap.size < w1.heap.size := by have := hb1.size; rw [Deep.nblk_alloc] at this; omega
  have hr1 : w1.heap[w.heap.size]? = some (.cells #[.int .i64 t.op, .int .i64 t.num, .slice ad t.kids.length cap] 30) := (hb1.block _ (by rw [Deep.nblk_alloc]; omega)).trans (Deep.blk_alloc_new _ _)
  have HR1 : Hid (w1.heap[w.heap.size]? = some (.cells #[.int .i64 t.op, .int .i64 t.num, .slice ad t.kids.length cap] 30)) := hr1
  have r0 := cell_of_blk hr1 0 _ rfl
  have r1 := cell_of_blk hr1 1 _ rfl
  have r2 := cell_of_blk hr1 2 _ rfl
  clear hb1 hr1
  by_cases hgb : graphB g defs = true
  · have HGB : Hid (graphB g defs = true) := hgb
    rw [hgb]
    clear hgb
    go_wp2_with fail
    have hval := specValid_calls t (xs.length : Int) defs (.slice ad t.kids.length cap) w1 (HK.out.next HB1.out)
    refine hval.mono ?_
    rintro e w2 ⟨rfl, hb2⟩
    have HB2 : Hid (Below w.heap.size w w2) := HB1.out.trans (hb2.mono HB1.out.size)
    have hz2 : w.heap.size < w2.heap.size := by have := hb2.size; omega
    have HR2 : Hid (w2.heap[w.heap.size]? = some (.cells #[.int .i64 t.op, .int .i64 t.num, .slice ad t.kids.length cap] 30)) := (hb2.block _ hz1).trans HR1.out
    clear hb2 hval r0 r1 r2
    by_cases hv : validB t xs.length defs = true
    · have HVB : Hid (validB t xs.length defs = true) := hv
      obtain ⟨v1, v2, -, v4⟩ := validB_small hv
      have HSZ : Hid (1 + szT t ≤ 60 ∧ shB xs.length defs 16 t = true ∧ (xs.length : Int) ≤ 4) := ⟨v1, v2, v4⟩
      have hx4 : xs.length ≤ 4 := by omega
      rw [hv]
      clear hv v1 v2 v4
      go_wp2_with fail
      go_loopw [11] (fun i wr => ∃ k : Nat, k ≤ xs.length ∧ i = .int .i64 k ∧ (xs.take k).all (isAt g.length) = true ∧ Below w2.heap.size w2 wr) (fun i _ => xs.length - (intOf i).toNat)
      case atStart => exact ⟨0, Nat.zero_le _, rfl, by simp, Below.refl _ _⟩
      case round =>
        obtain ⟨k, hk, rfl, hall, hb⟩ := hrel
        have HAL : Hid ((xs.take k).all (isAt g.length) = true) := hall
        have HBW : Hid (Below w.heap.size w wr) := HB2.out.trans (hb.mono HB2.out.size)
        have HRW : Hid (wr.heap[w.heap.size]? = some (.cells #[.int .i64 t.op, .int .i64 t.num, .slice ad t.kids.length cap] 30)) := (hb.block _ hz2).trans HR2.out
        have HB : Hid (Below w2.heap.size w2 wr) := hb
        by_cases hlt : k < xs.length
        · obtain ⟨bl, off, rfl, d0⟩ := (HA.out.next HBW.out).at k hlt
          by_cases h0 : xs[k] < 0
          · have HV : Hid (addOut g t xs defs = ([], 0, false)) := addOut_no fun h => by
              have := List.all_eq_true.1 h.2.2.1 _ (List.getElem_mem hlt)
              unfold isAt at this
              simp at this
              omega
            clear hall hb
            go_wp2_with fail
            refine bodyPost_ret (v := .tuple #[.slice (some ⟨wr.heap.size, 0, none⟩) 0 0, .int .i64 0, .bool false]) (by simp [results, Try.results34, go_sem]) rfl ?_
            rw [HV.out]
            exact ⟨_, rfl, OwnC.zero (Deep.blk_alloc_new _ _) HBW.out.size, HBW.out.alloc HBW.out.size _⟩
          · by_cases h1 : xs[k] < (g.length : Int)
            · have HV : Hid ((xs.take (k + 1)).all (isAt g.length) = true) := by
                rw [Hid, List.take_succ_eq_append_getElem hlt, List.all_append, HAL.out]
                simp [isAt]
                omega
              have h1' : ¬ ((g.length : Int) ≤ xs[k]) := by omega
              clear hall hb h1
              go_wp2_with fail
              go_roundw
              case rel => exact ⟨k + 1, by omega, by go_num, HV.out, HB.out⟩
              case measure => simp [intOf]; omega
            · have HV : Hid (addOut g t xs defs = ([], 0, false)) := addOut_no fun h => by
                have := List.all_eq_true.1 h.2.2.1 _ (List.getElem_mem hlt)
                unfold isAt at this
                simp at this
                omega
              have h1' : (g.length : Int) ≤ xs[k] := by omega
              clear hall hb h1
              go_wp2_with fail
              refine bodyPost_ret (v := .tuple #[.slice (some ⟨wr.heap.size, 0, none⟩) 0 0, .int .i64 0, .bool false]) (by simp [results, Try.results34, go_sem]) rfl ?_
              rw [HV.out]
              exact ⟨_, rfl, OwnC.zero (Deep.blk_alloc_new _ _) HBW.out.size, HBW.out.alloc HBW.out.size _⟩
        · have hke : k = xs.length := by omega
          have HXS : Hid (xs.all (isAt g.length) = true) := by
            have h := HAL.out
            rw [hke, List.take_length] at h
            exact h
          clear hall hb hke
          have r0 := cell_of_blk HRW.out 0 _ rfl
          have r1 := cell_of_blk HRW.out 1 _ rfl
          have r2 := cell_of_blk HRW.out 2 _ rfl
          have HADD : Hid (∀ (v3 : Value) (W w3 : World), Below w.heap.size w W → OwnC w3 W.heap.size (fun b => W.heap.size ≤ b) g v3 → Below W.heap.size W w3 → Calls Try.prog 66 #[v3, .agg #[.int .i64 t.op, .int .i64 t.num, .slice ad t.kids.length cap], .slice ada xs.length capa] w3 (fun e w' => ∃ gv, e = .returned (.tuple #[gv, .int .i64 ((addT (xs.map Int.toNat) t g).2 : Int)]) ∧ OwnC w' w.heap.size (fun b => w.heap.size ≤ b) (addT (xs.map Int.toNat) t g).1 gv ∧ Below w.heap.size w w' ∧ ∀ k, k < W.heap.size → w'.heap[k]? = W.heap[k]?)) := by
            intro v3 W w3 hW hg3 hb3
            have hsW := hW.size
            have hB3 : Below w.heap.size w w3 := hW.trans (hb3.mono hsW)
            have hg3' : OwnC w3 w.heap.size (fun b => w.heap.size ≤ b) g v3 := hg3.downS hsW (fun b hb => by omega)
            have h400 := graphB_len HGB.out
            obtain ⟨ys, hy⟩ := hg3.row
            refine (ad_calls (xs.map Int.toNat) t v3 _ _ w.heap.size (fun b => w.heap.size ≤ b) g w3 hg3' hB3.size (by rw [← args_back HXS.out]; exact HA.out.mono (fun _ h => h) (fun b hb => hB3.block b hb)) (HK.out.mono (fun _ h => h) (fun b hb => hB3.block b hb)) (by have := HSZ.out.1; omega) (by rw [List.length_map]; omega) HT.out.1 HT.out.2 (by rw [List.length_map]; exact varOk_of_sh xs.length defs 16 t HSZ.out.2.1)).mono ?_
            rintro e w5 ⟨gv', rfl, hg5, hgr5, -⟩
            exact ⟨gv', rfl, hg5.next (fun b hb _ => by rcases hb with hb | hb; exact hb; have := hB3.size; omega) (fun _ _ _ => rfl) (fun _ _ _ => rfl), below_grown hB3 hgr5 (fun k hk => by have := (own_some hy k hk).1; omega), fun k hk => (hgr5.block k (by have := hb3.size; omega) (fun e => by have := (own_some hy k e.symm).1; omega)).trans (hb3.block k hk)⟩
          go_wp2_with fail
          go_region_held3 (fun w' => w'.cell? ⟨w.heap.size, 0, none⟩ = some (.int .i64 t.op) ∧ w'.cell? ⟨w.heap.size, 1, none⟩ = some (.int .i64 t.num) ∧ w'.cell? ⟨w.heap.size, 2, none⟩ = some (.slice ad t.kids.length cap))
            (first
              | go_keep
              | exact ⟨e0, e1, e2⟩
              | exact ⟨d0, d1, d2⟩
              | exact ⟨r0, r1, r2⟩
              | trivial)
            (first
              | (go_at_call 67; refine (l3Copy_calls g _ wr.drew (HG.out.next HBW.out.drew) ⟨defs, HGB.out⟩).mono ?_; rintro e w3 ⟨v3, rfl, hg3, hb3⟩; have HG3 := mkHid2 hg3; have HB3 := mkHid2 hb3; have hr3 := (hb3.block w.heap.size (by have := HBW.out.size; show _ < wr.heap.size; exact cellsOf_lt HRW.out)).trans HRW.out; have d0 := cell_of_blk hr3 0 _ rfl; have d1 := cell_of_blk hr3 1 _ rfl; have d2 := cell_of_blk hr3 2 _ rfl; clear hg3 hb3 hr3)
              | (go_at_call 66; refine (HADD.out v3 wr.drew w3 HBW.out.drew HG3.out HB3.out).mono ?_; rintro e w5 ⟨gv', rfl, hg5, hb5, hk5⟩; have HG5 := mkHid2 hg5; have HB5 := mkHid2 hb5; have hr5 := (hk5 w.heap.size (by show _ < wr.heap.size; exact cellsOf_lt HRW.out)).trans HRW.out; have e0 := cell_of_blk hr5 0 _ rfl; have e1 := cell_of_blk hr5 1 _ rfl; have e2 := cell_of_blk hr5 2 _ rfl; clear hg5 hb5 hk5 hr5))
          obtain ⟨adz, capz, rfl⟩ := HG5.out.form
          by_cases hle : (addT (xs.map Int.toNat) t g).1.length ≤ 400
          · have HV : Hid (addOut g t xs defs = ((addT (xs.map Int.toNat) t g).1, (addT (xs.map Int.toNat) t g).2, true)) := addOut_yes HGB.out HVB.out HXS.out hle
            have hle2 : ¬ ((400 : Int) < ((addT (xs.map Int.toNat) t g).1.length : Int)) := by omega
            clear hle d0 d1 d2 e0 e1 e2 r0 r1 r2
            go_wp2_with fail
            refine bodyPost_ret (v := .tuple #[.slice adz (addT (xs.map Int.toNat) t g).1.length capz, .int .i64 ((addT (xs.map Int.toNat) t g).2 : Int), .bool true]) (by simp [results, Try.results34, go_sem]) rfl ?_
            rw [HV.out]
            exact ⟨_, rfl, HG5.out, HB5.out⟩
          · have HV : Hid (addOut g t xs defs = ([], 0, false)) := addOut_no fun h => hle h.2.2.2
            have hle2 : (400 : Int) < ((addT (xs.map Int.toNat) t g).1.length : Int) := by omega
            clear hle d0 d1 d2 e0 e1 e2 r0 r1 r2
            go_wp2_with fail
            refine bodyPost_ret (v := .tuple #[.slice (some ⟨w5.heap.size, 0, none⟩) 0 0, .int .i64 0, .bool false]) (by simp [results, Try.results34, go_sem]) rfl ?_
            rw [HV.out]
            exact ⟨_, rfl, OwnC.zero (Deep.blk_alloc_new _ _) HB5.out.size, HB5.out.alloc HB5.out.size _⟩
    · have HV : Hid (addOut g t xs defs = ([], 0, false)) := addOut_no fun h => hv h.2.1
      rw [Bool.not_eq_true] at hv
      rw [hv]
      clear hv
      go_wp2_with fail
      refine bodyPost_ret (v := .tuple #[.slice (some ⟨w2.heap.size, 0, none⟩) 0 0, .int .i64 0, .bool false]) (by simp [results, Try.results34, go_sem]) rfl ?_
      rw [HV.out]
      exact ⟨_, rfl, OwnC.zero (Deep.blk_alloc_new _ _) HB2.out.size, HB2.out.alloc HB2.out.size _⟩
  · have HV : Hid (addOut g t xs defs = ([], 0, false)) := addOut_no fun h => hgb h.1
    rw [Bool.not_eq_true] at hgb
    rw [hgb]
    clear hgb
    go_wp2_with fail
    refine bodyPost_ret (v := .tuple #[.slice (some ⟨w1.heap.size, 0, none⟩) 0 0, .int .i64 0, .bool false]) (by simp [results, Try.results34, go_sem]) rfl ?_
    rw [HV.out]
    exact ⟨_, rfl, OwnC.zero (Deep.blk_alloc_new _ _) HB1.out.size, HB1.out.alloc HB1.out.size _⟩
end Go.Proofs.Ytjdlfpdljmohiaa
/-
  THE MODEL's l3Follow; nothing that was there is changed.
-/
namespace Go.Proofs.Ytjdlfpdljmohiaa
set_option linter.unusedVariables false
set_option linter.unusedSimpArgs false
open Go.RowKit

/-- what l3Follow answers: the place, or -1 -/
def folI (o : Option Nat) : Int := match o with | some b => (b : Int) | none => -1
theorem followN_ind {g : List Ce} {n a : Nat} (h : opAt g a = 11) : followN g (n + 1) a = followN g n (nxt g a) := by rw [followN, if_pos h]
theorem followN_stop {g : List Ce} {n a : Nat} (h : ¬ opAt g a = 11) : followN g (n + 1) a = some a := by rw [followN, if_neg h]
theorem opAt_at {g : List Ce} (a : Nat) (ha : a < g.length) : opAt g a = g[a].op := by unfold opAt; rw [getD_at _ _ _ ha]

set_option maxHeartbeats 800000 in
theorem l3Follow_calls (g : List Ce) (a : Nat) (v : Value) (w : World) (hk : CIn w g v) (hg : ∃ defs, graphB g defs = true) (ha : a < g.length) :
    Calls Try.prog 44 #[v, .int .i64 (a : Int)] w fun e w' => e = .returned (.int .i64 (folI (followN g (g.length + 1) a))) ∧ Below w.heap.size w w' := by
  have HK : Hid (CIn w g v) := hk
  obtain ⟨ad, cap, rfl, hl, hm, -⟩ := hk
  unfold maxLen at hm
  obtain ⟨defs, hg⟩ := hg
  have HG : Hid (graphB g defs = true) := hg
  have h400 : g.length ≤ 400 := graphB_len hg
  clear hg
  go_enter Try.func44, Try.ntmps44
  go_wp2_with fail
  go_loopw [1, 5] (fun at' i wr => ∃ k b : Nat, k ≤ g.length + 1 ∧ i = .int .i64 k ∧ at' = .int .i64 (b : Int) ∧ b < g.length ∧ followN g (g.length + 1) a = followN g (g.length + 1 - k) b ∧ Below w.heap.size w wr) (fun _ i _ => g.length + 1 - (intOf i).toNat)
  case atStart => exact ⟨0, a, Nat.zero_le _, rfl, rfl, ha, rfl, Below.refl _ _⟩
  case round =>
    obtain ⟨k, b, hk, rfl, rfl, hbl, hf, hb⟩ := hrel
    have HF : Hid (followN g (g.length + 1) a = followN g (g.length + 1 - k) b) := hf
    have HB : Hid (Below w.heap.size w wr) := hb
    clear hf
    by_cases hlt : k ≤ g.length
    · have HLT : Hid (k ≤ g.length) := hlt
      obtain ⟨bl, off, r, rfl, c0, c1, c2, -, -, hkk⟩ := (HK.out.next hb).at b hbl
      clear hb
      by_cases ho : g[b].op = 11
      · obtain ⟨y, hy1, hy2, hy3⟩ := ind_kid HG.out b hbl ho
        have HV : Hid (followN g (g.length + 1) a = followN g (g.length + 1 - (k + 1)) y) := by
          have h1 := HF.out
          rw [show g.length + 1 - k = (g.length + 1 - (k + 1)) + 1 by omega] at h1
          exact h1.trans ((followN_ind (by rw [opAt_at b hbl]; exact ho)).trans (by rw [hy3]))
        have t1 : (g[b].op != 11) = false := by simp [ho]
        obtain ⟨ad2, cap2, rfl, hl2, hm2, -⟩ := id hkk
        obtain ⟨bl2, off2, rfl, d0⟩ := hkk.at 0 (by rw [hy1]; simp)
        have hlen1 : g[b].kids.length = 1 := by rw [hy1]; rfl
        have hkid : g[b].kids[0]'(by omega) = (y : Int) := by simp [hy1]
        rw [hkid, Nat.add_zero] at d0
        rw [hlen1] at c2
        clear ho hy1 hy3 hkid hlen1 hkk hl2 hm2
        go_wp2_with fail
        go_roundw
        case rel => exact ⟨k + 1, y, by have := HLT.out; omega, by go_num, rfl, hy2, HV.out, HB.out⟩
        case measure => have := HLT.out; simp [intOf]; omega
      · have HV : Hid (folI (followN g (g.length + 1) a) = (b : Int)) := by
          have h1 := HF.out
          rw [show g.length + 1 - k = (g.length - k) + 1 by omega] at h1
          rw [Hid, h1.trans (followN_stop (by rw [opAt_at b hbl]; exact ho))]; rfl
        have t1 : (g[b].op != 11) = true := by simpa using ho
        clear ho hkk
        go_wp2_with fail
        go_ret
        exact ⟨ret_int HV.out.symm, HB.out⟩
    · have HV : Hid (folI (followN g (g.length + 1) a) = -1) := by
        have := HF.out
        rw [show g.length + 1 - k = 0 by omega] at this
        rw [Hid, this]; rfl
      clear hb
      go_wp2_with fail
      go_ret
      exact ⟨ret_int HV.out.symm, HB.out⟩

theorem ret_ib {a b : Int} {p q : Bool} (h : a = b) (h' : p = q) : Ending.returned (.tuple #[.int .i64 a, .bool p]) = .returned (.tuple #[.int .i64 b, .bool q]) := by rw [h, h']

end Go.Proofs.Ytjdlfpdljmohiaa
/-
  PLAIN FACTS ON NESTED APPLICATIONS IN A GRAPH, VALUES AND REDEXES.
-/
namespace Go.Proofs.Ytjdlfpdljmohiaa
set_option linter.unusedVariables false
set_option linter.unusedSimpArgs false

theorem kids_count {g : List Ce} {defs : Int} (h : graphB g defs = true) (a : Nat) (ha : a < g.length) : (g[a].kids.length : Int) = cArity g[a].op := by
  have hc := graphB_cell h a ha
  unfold cellB fitsB at hc
  simp only [Bool.and_eq_true, decide_eq_true_eq] at hc
  exact hc.1.1
/-- operand j of a cell, as a place -/
def kidAt (g : List Ce) (a j : Nat) : Nat := (kidsN g a).getD j 0
theorem kidAt_get {g : List Ce} {defs : Int} (h : graphB g defs = true) (a : Nat) (ha : a < g.length) (j : Nat) (hj : j < g[a].kids.length) : g[a].kids[j] = (kidAt g a j : Int) ∧ kidAt g a j < g.length := by
  obtain ⟨k, h1, h2, h3⟩ := kidsN_get h a ha j hj
  have e : kidAt g a j = k := by unfold kidAt; rw [List.getD_eq_getElem?_getD, h3]; rfl
  rw [e]; exact ⟨h1, h2⟩
/-- the function of nested applications and the cells of these, after at most n looks -/
def spineN (g : List Ce) : Nat → Nat → Option (Nat × List Nat)
  | 0, _ => none
  | n + 1, a => match followN g g.length a with
    | none => none
    | some f => if opAt g f = 4 then (spineN g n (kidAt g f 0)).map (fun x => (x.1, f :: x.2)) else some (f, [])
def spine (g : List Ce) (a : Nat) : Option (Nat × List Nat) := spineN g (g.length + 1) a

/-- what holds behind every look -/
structure SpRel (g : List Ce) (a : Nat) (ws : List Nat) (b : Nat) : Prop where
  eq : spine g a = (spineN g (g.length + 1 - ws.length) b).map fun x => (x.1, ws ++ x.2)
  len : ws.length ≤ g.length + 1
  lt : b < g.length
theorem SpRel.start {g : List Ce} {a : Nat} (h : a < g.length) : SpRel g a [] a := ⟨by unfold spine; simp, by simp, h⟩
theorem SpRel.none {g : List Ce} {a b : Nat} {ws : List Nat} (h : SpRel g a ws b) (hl : ws.length ≤ g.length) (hf : followN g g.length b = .none) : spine g a = .none := by
  rw [h.eq, show g.length + 1 - ws.length = (g.length - ws.length) + 1 by omega, spineN, hf]; rfl
theorem SpRel.out {g : List Ce} {a b : Nat} {ws : List Nat} (h : SpRel g a ws b) (hl : g.length < ws.length) : spine g a = .none := by
  rw [h.eq, show g.length + 1 - ws.length = 0 by omega, spineN]; rfl
theorem SpRel.next {g : List Ce} {defs : Int} {a b f : Nat} {ws : List Nat} (h : SpRel g a ws b) (hg : graphB g defs = true) (hl : ws.length ≤ g.length) (hf : followN g g.length b = some f) (ho : opAt g f = 4) : SpRel g a (ws ++ [f]) (kidAt g f 0) := by
  have hfl := (followN_lt hg _ _ _ h.lt hf).1
  refine ⟨?_, by simp; omega, (kidAt_get hg f hfl 0 ?_).2⟩
  · rw [h.eq, show g.length + 1 - ws.length = (g.length - ws.length) + 1 by omega, spineN, hf]
    simp only [ho, if_true, List.length_append, List.length_cons, List.length_nil, Nat.zero_add]
    rw [show g.length + 1 - (ws.length + 1) = g.length - ws.length by omega, Option.map_map]
    congr 1
    funext x
    simp
  · have := kids_count hg f hfl
    rw [opAt_at f hfl] at ho
    rw [ho] at this
    have e : cArity 4 = 2 := by decide
    omega
end Go.Proofs.Ytjdlfpdljmohiaa
/-
  PLAIN FACTS ON A PROGRAM AND A GRAPH: arities; which cells stand for values.
-/
namespace Go.Proofs.Ytjdlfpdljmohiaa
set_option linter.unusedVariables false
set_option linter.unusedSimpArgs false

end Go.Proofs.Ytjdlfpdljmohiaa
/-
  PLAIN FACTS ON REDEXES.
-/
namespace Go.Proofs.Ytjdlfpdljmohiaa
set_option linter.unusedVariables false
set_option linter.unusedSimpArgs false

end Go.Proofs.Ytjdlfpdljmohiaa
/-
  PLAIN: what a step makes of a graph. No program is named here.
-/
namespace Go.Proofs.Ytjdlfpdljmohiaa
set_option linter.unusedVariables false
set_option linter.unusedSimpArgs false

theorem follow_self {g : List Ce} {f : Nat} (hf : f < g.length) (h11 : opAt g f ≠ 11) : followN g g.length f = some f := by
  obtain ⟨n, hn⟩ : ∃ n, g.length = n + 1 := ⟨g.length - 1, by omega⟩
  rw [hn]; exact followN_stop h11
def indTo (k : Nat) : Ce := ⟨11, 0, [(k : Int)]⟩
end Go.Proofs.Ytjdlfpdljmohiaa
/-
  PLAIN: a step leaves a graph that is valid for the program. No program is named here.
-/
namespace Go.Proofs.Ytjdlfpdljmohiaa
set_option linter.unusedVariables false
set_option linter.unusedSimpArgs false

/-- cells whose operands are below N -/
def GOk (defs : Int) (N : Nat) (g : List Ce) : Prop := ∀ c ∈ g, fitsB defs c = true ∧ ∀ k ∈ c.kids, 0 ≤ k ∧ k < (N : Int)
theorem GOk.mono {defs : Int} {N M : Nat} {g : List Ce} (h : GOk defs N g) (hm : N ≤ M) : GOk defs M g := fun c hc => ⟨(h c hc).1, fun k hk => by have := (h c hc).2 k hk; omega⟩
theorem graphB_iff {g : List Ce} {defs : Int} : graphB g defs = true ↔ ((g.length : Int) ≤ 400 ∧ 0 ≤ defs ∧ defs ≤ 6) ∧ GOk defs g.length g := by
  unfold graphB GOk cellB
  simp only [Bool.and_eq_true, decide_eq_true_eq, List.all_eq_true, isAt]
theorem own_novar {op n vars defs : Int} (h : op ≠ 1) (ho : ownB op n vars defs = true) : ownB op n 0 defs = true := by
  unfold ownB at ho ⊢
  rw [if_neg h] at ho ⊢
  exact ho
mutual
theorem addT_ok {defs : Int} {args : List Nat} : ∀ (d : Nat) (t : Tr) (g : List Ce), GOk defs g.length g → (∀ x ∈ args, x < g.length) → shB args.length defs d t = true → GOk defs (addT args t g).1.length (addT args t g).1 ∧ (addT args t g).2 < (addT args t g).1.length
  | 0, t, g, _, _, h => by simp [shB] at h
  | d + 1, .node op n ks, g, hg, ha, h => by
    simp only [shB, Bool.and_eq_true, decide_eq_true_eq, List.all_eq_true, Tr.kids_node, Tr.op_node, Tr.num_node] at h
    obtain ⟨⟨h1, h2⟩, h3⟩ := h
    by_cases hop : op = 1
    · rw [addT_var (t := .node op n ks) g hop]
      refine ⟨hg, ?_⟩
      unfold ownB at h2
      rw [if_pos hop] at h2
      simp only [decide_eq_true_eq] at h2
      have hlt : n.toNat < args.length := by omega
      show args.getD n.toNat 0 < g.length
      rw [getD_at _ _ _ hlt]
      exact ha _ (List.getElem_mem hlt)
    · obtain ⟨k1, k2⟩ := addL_ok d ks g hg ha h3
      have hl := addL_length args ks g
      rw [addT_other (t := .node op n ks) g hop]
      simp only [Tr.op_node, Tr.num_node, Tr.kids_node]
      refine ⟨fun c hc => ?_, by simp⟩
      rw [List.length_append, List.length_cons, List.length_nil]
      rcases List.mem_append.1 hc with hc | hc
      · exact ⟨(k1 c hc).1, fun k hk => by have := (k1 c hc).2 k hk; omega⟩
      · simp only [List.mem_singleton] at hc
        subst hc
        refine ⟨?_, fun k hk => ?_⟩
        · unfold fitsB
          simp only [Bool.and_eq_true, decide_eq_true_eq, List.length_map, hl]
          refine ⟨?_, own_novar hop h2⟩
          have h11 : op ≠ 11 := fun e => by subst e; simp [arity] at h1
          unfold cArity
          rw [if_neg h11]
          exact of_decide_eq_true h1
        · simp only [List.mem_map] at hk
          obtain ⟨x, hx, rfl⟩ := hk
          have := k2 x hx
          omega
theorem addL_ok {defs : Int} {args : List Nat} : ∀ (d : Nat) (ts : List Tr) (g : List Ce), GOk defs g.length g → (∀ x ∈ args, x < g.length) → (∀ t ∈ ts, shB args.length defs d t = true) → GOk defs (addL args ts g).1.length (addL args ts g).1 ∧ ∀ k ∈ (addL args ts g).2, k < (addL args ts g).1.length
  | d, [], g, hg, _, _ => by simp only [addL]; exact ⟨hg, by simp⟩
  | d, t :: ts, g, hg, ha, h => by
    obtain ⟨k1, k2⟩ := addT_ok d t g hg ha (h t (List.mem_cons_self ..))
    have hs := (addT_size args t g).1
    obtain ⟨m1, m2⟩ := addL_ok d ts (addT args t g).1 k1 (fun x hx => Nat.lt_of_lt_of_le (ha x hx) hs) fun t' ht' => h t' (List.mem_cons_of_mem _ ht')
    have hs2 := (addL_size args ts (addT args t g).1).1
    simp only [addL]
    refine ⟨m1, fun k hk => ?_⟩
    rcases List.mem_cons.1 hk with rfl | hk
    · omega
    · exact m2 k hk
end
theorem GOk.set {defs : Int} {N : Nat} {g : List Ce} (h : GOk defs N g) (i : Nat) (c : Ce) (hc : fitsB defs c = true ∧ ∀ k ∈ c.kids, 0 ≤ k ∧ k < (N : Int)) : GOk defs N (g.set i c) := by
  intro d hd
  rcases List.mem_or_eq_of_mem_set hd with hd | rfl
  · exact h d hd
  · exact hc
theorem ind_fits {defs : Int} {N k : Nat} (hk : k < N) : fitsB defs (indTo k) = true ∧ ∀ x ∈ (indTo k).kids, 0 ≤ x ∧ x < (N : Int) := by
  refine ⟨?_, fun x hx => ?_⟩
  · unfold fitsB indTo cArity ownB; simp
  · unfold indTo at hx; simp at hx; subst hx; omega
end Go.Proofs.Ytjdlfpdljmohiaa
/-
  A CELL OF A GRAPH THAT IS BEING BUILT, OVERWRITTEN.
-/
namespace Go.Proofs.Ytjdlfpdljmohiaa
set_option linter.unusedVariables false
set_option linter.unusedSimpArgs false
open Go.RowKit

/-- the world behind the three stores of a cell -/
def st3 (w : World) (b i : Nat) (o m : Int) (kv : Value) : World := ((w.setCell ⟨b, i * 3, none⟩ (.int .i64 o)).setCell ⟨b, i * 3 + 1, none⟩ (.int .i64 m)).setCell ⟨b, i * 3 + 2, none⟩ kv
theorem st3_block {w : World} {b i : Nat} {o m : Int} {kv : Value} {k : Nat} (h : k ≠ b) : (st3 w b i o m kv).heap[k]? = w.heap[k]? := by
  unfold st3
  rw [Below.heap_setCell _ _ _ _ (by exact h), Below.heap_setCell _ _ _ _ (by exact h), Below.heap_setCell _ _ _ _ (by exact h)]
/-- the row of one operand in a new block -/
theorem krow_one (w : World) (k : Nat) : KRowS (w.alloc (.cells #[.int .i64 (k : Int)] 3)) (fun x => x = w.heap.size) [(k : Int)] w.heap.size (.slice (some ⟨w.heap.size, 0, none⟩) 1 1) :=
  ⟨_, 1, rfl, Nat.le_refl _, by simp [maxLen], Or.inr ⟨fun _ => .int .i64 (k : Int), rfl, rfl, ⟨#[.int .i64 (k : Int)], Deep.blk_alloc_new _ _, rfl, fun i hi => by
    obtain rfl : i = 0 := by omega
    rfl⟩, fun i hi => by
    obtain rfl : i = 0 := by simp at hi; omega
    rfl⟩⟩
end Go.Proofs.Ytjdlfpdljmohiaa
/-
  THE MODEL's l3Draw: a program, a valid graph for it, and a root.
-/
namespace Go.Proofs.Ytjdlfpdljmohiaa
set_option linter.unusedVariables false
set_option linter.unusedSimpArgs false
open Go.RowKit

/-- a program, a graph for it and a root were drawn -/
def DrawG (w : World) (b p : Nat) (e : Ending) (w' : World) : Prop :=
  ∃ ds G r pv gv p', e = .returned (.tuple #[pv, gv, .int .i64 ((r : Nat) : Int)]) ∧ progB ds = true ∧ graphB G ds.length = true ∧ r < G.length ∧ G.length ≤ 250 ∧ DefsOn w' (PN w.heap.size w') ds pv ∧ OwnC w' w.heap.size (fun x => w.heap.size ≤ x) G gv ∧ RdOn w' b p' ∧ p' ≤ p + 12000 ∧ But b w w'

theorem OwnC.cin {w : World} {lo : Nat} {G : List Ce} {v : Value} (h : OwnC w lo (fun x => lo ≤ x) G v) : CIn w G v := (h.own fun _ h _ => h).inn
theorem OwnC.but {w w' : World} {b lo : Nat} {G : List Ce} {v : Value} (h : OwnC w lo (fun x => lo ≤ x) G v) (hb : But b w w') (hl : b < lo) : OwnC w' lo (fun x => lo ≤ x) G v := by
  obtain ⟨xs, hx⟩ := h.row
  exact h.next (fun _ h _ => h) (fun k hk hk2 => hb.block k hk2 (by have := (own_some hx k hk.symm).1; omega)) fun k hk hk2 => hb.block k hk2 (by have : lo ≤ k := hk; omega)
theorem but_grown {b : Nat} {w2 W w3 : World} {row : Option Nat} (h : But b w2 W) (hg : W.grownBy w3 row) (hr : ∀ k, row = some k → w2.heap.size ≤ k) : But b w2 w3 :=
  ⟨hg.os.trans h.os, hg.tape.trans h.tape, hg.output.trans h.output, Nat.le_trans h.size hg.size, fun k hk hb => (hg.block k (Nat.lt_of_lt_of_le hk h.size) (fun e => by have := hr k e.symm; omega)).trans (h.block k hk hb)⟩
theorem rd_grown {b p : Nat} {W w3 : World} {row : Option Nat} (h : RdOn W b p) (hg : W.grownBy w3 row) (hr : ∀ k, row = some k → b < k) : RdOn w3 b p :=
  h.keep fun k hk => hg.block k (Nat.lt_of_le_of_lt hk h.lt) (fun e => by have := hr k e.symm; omega)

/-- what AddExpr answers in a valid graph -/
theorem addOut_cases {G : List Ce} {n : Nat} (hG : graphB G n = true) (t : Tr) (xs : List Int) : addOut G t xs n = ([], 0, false) ∨ ∃ G5 r5, addOut G t xs n = (G5, r5, true) ∧ graphB G5 n = true ∧ r5 < G5.length ∧ G5.length ≤ G.length + 60 := by
  by_cases h : graphB G n = true ∧ validB t xs.length n = true ∧ xs.all (isAt G.length) = true ∧ (addT (xs.map Int.toNat) t G).1.length ≤ 400
  · refine Or.inr ⟨_, _, addOut_yes h.1 h.2.1 h.2.2.1 h.2.2.2, ?_⟩
    have hv := h.2.1
    unfold validB at hv
    simp only [Bool.and_eq_true, decide_eq_true_eq] at hv
    obtain ⟨⟨hv1, hv2, hv3, hv4⟩, hv5, hv6⟩ := hv
    have hok := addT_ok (defs := n) (args := xs.map Int.toNat) 16 t G (graphB_iff.1 hG).2 (fun x hx => by
      simp only [List.mem_map] at hx
      obtain ⟨z, hz, rfl⟩ := hx
      have := List.all_eq_true.1 h.2.2.1 z hz
      unfold isAt at this
      simp at this
      omega) (by rw [List.length_map]; exact hv5)
    refine ⟨graphB_iff.2 ⟨⟨by omega, hv3, hv4⟩, hok.1⟩, hok.2, ?_⟩
    have := (addT_size (xs.map Int.toNat) t G).2.1
    omega
  · exact Or.inl (addOut_no h)
theorem addOut_goal {t : Tr} {n : Nat} (hv : validB t 0 n = true) : ∃ G5 r5, addOut [] t [] n = (G5, r5, true) ∧ graphB G5 n = true ∧ r5 < G5.length ∧ G5.length ≤ 60 := by
  refine ⟨_, _, by rw [addOut_closed, if_pos hv], ?_⟩
  unfold validB at hv
  simp only [Bool.and_eq_true, decide_eq_true_eq] at hv
  obtain ⟨⟨hv1, hv2, hv3, hv4⟩, hv5, hv6⟩ := hv
  have hok := addT_ok (defs := n) (args := []) 16 t [] (fun c hc => absurd hc (by simp)) (fun x hx => absurd hx (by simp)) (by simpa using hv5)
  have hz := (addT_size [] t []).2.1
  simp only [List.length_nil] at hz
  exact ⟨graphB_iff.2 ⟨⟨by omega, hv3, hv4⟩, hok.1⟩, hok.2, by omega⟩
theorem graphB_ind {G : List Ce} {n r : Nat} (h : graphB G n = true) (hr : r < G.length) (hl : G.length < 400) : graphB (G ++ [indTo r]) n = true := by
  obtain ⟨⟨h1, h2, h3⟩, h4⟩ := graphB_iff.1 h
  refine graphB_iff.2 ⟨⟨by simp; omega, h2, h3⟩, fun c hc => ?_⟩
  rw [List.mem_append, List.mem_singleton] at hc
  have h5 := h4.mono (M := (G ++ [indTo r]).length) (by simp)
  rcases hc with hc | rfl
  · exact h5 c hc
  · have := ind_fits (defs := n) (N := (G ++ [indTo r]).length) (k := r) (by simp; omega)
    exact this

/-- the graph so far -/
structure LdR (ds : List Df) (b lo : Nat) (w2 wr : World) (G : List Ce) (r i p1 : Nat) (gv : Value) : Prop where
  own : OwnC wr lo (fun x => lo ≤ x) G gv
  val : graphB G ds.length = true
  root : r < G.length
  len : G.length + 61 * i ≤ 243
  rd : RdOn wr b p1
  but : But b w2 wr
theorem LdR.next {ds : List Df} {b lo : Nat} {w2 wr w3 : World} {G : List Ce} {r i p1 p2 : Nat} {gv : Value} (h : LdR ds b lo w2 wr G r i p1 gv) (hb : But b wr w3) (hl : b < lo) (hr : RdOn w3 b p2) : LdR ds b lo w2 w3 G r i p2 gv :=
  ⟨h.own.but hb hl, h.val, h.root, h.len, hr, h.but.trans hb⟩

theorem own_frm {w : World} {lo n T s : Nat} {v : Value} {xs : List Value} (h : w.ownsRow lo T s v n xs) : ∃ ad cap, v = .slice ad n cap := by
  rcases h.2 with ⟨rfl, h0⟩ | ⟨g, cap, cur, rfl, -⟩
  · exact ⟨none, 0, by rw [h0]⟩
  · exact ⟨_, _, rfl⟩
/-- two numbers in a row that was just laid -/
theorem ints2_at {w w' : World} {b : Nat} {x y : Int} (hb : But b (w.alloc (.cells #[.int .i64 x, .int .i64 y] 3)) w') (hl : b < w.heap.size) : IIn w' [x, y] (.slice (some ⟨w.heap.size, 0, none⟩) 2 2) := by
  have h := (hb.block w.heap.size (by rw [Deep.nblk_alloc]; omega) (by omega)).trans (Deep.blk_alloc_new _ _)
  refine ⟨_, 2, rfl, Nat.le_refl _, by simp [maxLen], Or.inr ⟨_, 0, rfl, (Array.getElem?_eq_some_iff.1 h).1, fun i hi => ?_⟩⟩
  have hi2 : i = 0 ∨ i = 1 := by simp at hi; omega
  rcases hi2 with rfl | rfl
  · exact cell_of_blk h 0 _ rfl
  · exact cell_of_blk h 1 _ rfl
/-- an indirection is added -/
theorem LdR.ind {ds : List Df} {b lo : Nat} {w2 w6 w8 : World} {G : List Ce} {r i p1 : Nat} {gv v' : Value} {xs : List Value} (h : LdR ds b lo w2 w6 G r i p1 gv) (hlo : lo = w2.heap.size) (hl : b < lo) (hlen : G.length < 400) (hl2 : G.length + 1 + 61 * i ≤ 243) (cobj : Obj)
    (hx : ((w6.alloc (.cells #[.int .i64 (r : Int)] 3)).alloc cobj).ownsRow lo 35 3 gv G.length xs)
    (hown : w8.ownsRow lo 35 3 v' (G.length + 1) (xs ++ [.int .i64 11, .int .i64 0, .slice (some ⟨w6.heap.size, 0, none⟩) 1 1])) (hg : ((w6.alloc (.cells #[.int .i64 (r : Int)] 3)).alloc cobj).grownBy w8 gv.ownBlock) :
    LdR ds b lo w2 w8 (G ++ [indTo r]) G.length i p1 v' := by
  have hbA : Below w6.heap.size w6 ((w6.alloc (.cells #[.int .i64 (r : Int)] 3)).alloc cobj) := (box_below _ _).trans ((box_below _ _).mono (by rw [Deep.nblk_alloc]; omega))
  have hrow : ∀ k, gv.ownBlock = some k → lo ≤ k := fun k hk => (own_some hx k hk).1
  have hs6 : lo ≤ w6.heap.size := by rw [hlo]; exact h.but.size
  have h4 : OwnC ((w6.alloc (.cells #[.int .i64 (r : Int)] 3)).alloc cobj) lo (fun x => lo ≤ x ∧ x < w6.heap.size) G gv := h.own.next (fun k hk hk2 => ⟨hk, hk2⟩) (fun k _ hk => hbA.block k hk) fun k _ hk => hbA.block k hk
  have hk : KRowS ((w6.alloc (.cells #[.int .i64 (r : Int)] 3)).alloc cobj) (fun x => x = w6.heap.size) [(r : Int)] w6.heap.size (.slice (some ⟨w6.heap.size, 0, none⟩) 1 1) := (krow_one w6 r).keep (fun _ h _ => h) fun C h1 h2 _ => Deep.blk_alloc_lt _ _ _ h2
  have h5 := h4.step (c := indTo r) (v' := v') ⟨by simp [I64, indTo], by simp [I64, indTo]⟩ hk (fun h => by have := h.2; omega) xs hx hown hg
  refine ⟨h5.next (fun k hk _ => ?_) (fun _ _ _ => rfl) (fun _ _ _ => rfl), graphB_ind h.val h.root hlen, by simp, by simp; omega, ?_, ?_⟩
  · rcases hk with hk | rfl
    · exact hk.1
    · exact hs6
  · exact rd_grown (h.rd.next hbA) hg fun k hk => by have := hrow k hk; omega
  · exact but_grown (h.but.trans (But.of_below hbA)) hg fun k hk => by have := hrow k hk; omega

set_option maxRecDepth 100000 in
set_option maxHeartbeats 1600000 in
theorem l3Draw_calls (w : World) (b p : Nat) (h : RdOn w b p) (hp : p ≤ 900000) : Calls Try.prog 58 #[.pointer (some ⟨b, 0, none⟩)] w (DrawG w b p) := by
  have hbw := h.lt
  have HR := mkHid h
  clear h
  go_enter Try.func58, Try.ntmps58
  go_wp2_with fail
  refine (l2Goal_calls w b p HR.out (by omega)).mono ?_
  rintro e w1 ⟨ds, t, pv, kv, p1, rfl, hpr, hvt, hto, htn, hd1, hk1, hr1, hp1, hb1⟩
  have HP := mkHid hpr
  have HV := mkHid hvt
  have HT := mkHid (And.intro hto htn)
  have HD1 := mkHid hd1
  have HK1 := mkHid hk1
  have HR1 := mkHid hr1
  have HB1 := mkHid hb1
  have hs1 := hb1.size
  obtain ⟨adp, capp, rfl, hcp1, hcp2, -⟩ := id hd1
  obtain ⟨ade, cape, rfl, -, -, -⟩ := id hk1
  unfold maxLen at hcp2
  have hn6 : ds.length ≤ 6 := by
    have h := hpr
    unfold progB at h
    simp only [Bool.and_eq_true, decide_eq_true_eq] at h
    exact h.1
  clear hpr hvt hto htn hd1 hk1 hr1 hb1
  obtain ⟨G0, r0, hao, hG0, hr0, hl0⟩ := addOut_goal HV.out
  have HSB : Hid (∀ (W : World) (v : Value), In W t.kids v → Calls Try.prog 82 #[.agg #[.int .i64 t.op, .int .i64 t.num, v], .int .i64 (ds.length : Int)] W fun e w' => ∃ gv, e = .returned (.tuple #[gv, .int .i64 (r0 : Int), .bool true]) ∧ OwnC w' W.heap.size (fun x => W.heap.size ≤ x) G0 gv ∧ Below W.heap.size W w') := fun W v h => (specBuild_calls t ds.length v W h HT.out.1 HT.out.2).mono fun e w' ho => by rw [hao] at ho; exact ho
  clear hao
  go_wp2_with fail
  obtain ⟨w2, hw2⟩ : ∃ w2 : World, w2 = w1.alloc (.cells #[.int .i64 t.op, .int .i64 t.num, .slice ade t.kids.length cape] 30) := ⟨_, rfl⟩
  rw [← hw2]
  have hb2 : Below w1.heap.size w1 w2 := by rw [hw2]; exact box_below _ _
  have hz2 : w2.heap.size = w1.heap.size + 1 := by rw [hw2]; exact Deep.nblk_alloc _ _
  have HB2 : Hid (But b w w2) := HB1.out.trans (But.of_below hb2)
  have HR2 := mkHid (HR1.out.next hb2)
  have HD2 : Hid (DefsOn w2 (PN w.heap.size w2) ds (.slice adp ds.length capp)) := defs_but HD1.out (But.of_below (b := b) hb2) hbw
  have HI2 : Hid (In w2 t.kids (.slice ade t.kids.length cape)) := HK1.out.mono (fun k hk => by have := hk.2; show k < w2.heap.size; omega) fun k hk => hb2.block k hk.2
  obtain ⟨lo, hlo⟩ : ∃ lo, lo = w2.heap.size := ⟨_, rfl⟩
  have HLO := mkHid hlo
  have hbl : b < lo := by omega
  clear hw2 hb2
  refine (HSB.out w2 _ HI2.out).mono ?_
  rintro e w3 ⟨gv, rfl, ho3, hb3⟩
  have HL3 : Hid (LdR ds b lo w2 w3 G0 r0 3 p1 gv) := ⟨by rw [hlo]; exact ho3, hG0, hr0, by omega, HR2.out.next hb3, But.of_below hb3⟩
  obtain ⟨adg, capg, rfl⟩ := ho3.form
  clear ho3 hb3 hG0 hr0 hl0 hz2
  go_wp2_with fail
  refine (pick_calls 4 _ b p1 HL3.out.rd (by omega) (by decide)).mono ?_
  rintro e w4 ⟨x, rfl, h0, h1, -, hr4, hb4⟩
  obtain ⟨i0, rfl⟩ := Int.eq_ofNat_of_zero_le h0
  have hi0 : i0 ≤ 3 := by have := h1 (by omega); omega
  have HL4 : Hid (LdR ds b lo w2 w4 G0 r0 i0 (p1 + 1) (.slice adg G0.length capg)) := by
    have h := HL3.out.next hb4 hbl hr4
    exact ⟨h.own, h.val, h.root, by have := h.len; omega, h.rd, h.but⟩
  clear h0 h1 hr4 hb4 hlo
  go_wp2_with fail
  go_loopw [7, 8, 10] (fun gv rv iv wr => ∃ (G : List Ce) (r i p1 : Nat), iv = .int .i64 (i : Int) ∧ rv = .int .i64 (r : Int) ∧ i ≤ 3 ∧ p1 + 2100 * i ≤ p + 11400 ∧ Hid (LdR ds b lo w2 wr G r i p1 gv)) (fun _ _ iv _ => (intOf iv).toNat)
  case atStart => exact ⟨G0, r0, i0, p1 + 1, rfl, rfl, hi0, by omega, HL4.out⟩
  case round =>
    obtain ⟨G, r, i, q1, rfl, rfl, hi, hpos, HL⟩ := hrel
    obtain ⟨adw, capw, rfl⟩ := HL.out.own.form
    have hlen := HL.out.len
    have hroot := HL.out.root
    have hwl : w.heap.size ≤ lo := by have := HLO.out; have := HB2.out.size; omega
    by_cases hi0' : i = 0
    · subst hi0'
      go_wp2_with fail
      exact bodyPost_ret (v := .tuple #[.slice adp ds.length capp, .slice adw G.length capw, .int .i64 (r : Int)]) (by simp [results, Try.results58, go_sem]) rfl ⟨ds, G, r, _, _, q1, rfl, HP.out, HL.out.val, hroot, by omega, defs_but HD2.out HL.out.but hbw, HL.out.own.downS hwl (fun k hk => Nat.le_trans hwl hk), HL.out.rd, by omega, HB2.out.trans HL.out.but⟩
    obtain ⟨m, rfl⟩ : ∃ m, i = m + 1 := ⟨i - 1, by omega⟩
    have hg0 : 0 < G.length := by omega
    have hg0i : (0 : Int) < (G.length : Int) := by omega
    go_wp2_with fail
    refine (pick_calls (G.length : Int) _ b q1 HL.out.rd (by omega) (by omega)).mono ?_
    rintro e w4 ⟨x, rfl, h0, h1, -, hr4, hb4⟩
    obtain ⟨x, rfl⟩ := Int.eq_ofNat_of_zero_le h0
    have HLA := mkHid (HL.out.next hb4 hbl hr4)
    have hsz4 : lo ≤ w4.heap.size := by rw [HLO.out]; exact HLA.out.but.size
    have HLB : Hid (LdR ds b lo w2 (w4.alloc (.cells #[.int .i64 (x : Int), .int .i64 (r : Int)] 3)) G r (m + 1) (q1 + 1) (.slice adw G.length capw)) := HLA.out.next (But.of_below (box_below _ _)) hbl (HLA.out.rd.next (box_below _ _))
    clear h0 h1 hr4 hb4
    go_wp2_with fail
    refine (num_calls [3, 2, 4] (.slice (some ⟨w4.heap.size + 1, 0, none⟩) 3 3) _ b (q1 + 1) (HLB.out.rd.next (box_below _ _)) (by omega) (ints_at (w4.alloc (.cells #[.int .i64 (x : Int), .int .i64 (r : Int)] 3)) (w4.heap.size + 1) (Deep.nblk_alloc _ _) b [3, 2, 4] #[.int .i64 3, .int .i64 2, .int .i64 4] (by omega) rfl (ints_gen [3, 2, 4])) (by simp) (by simp)).mono ?_
    rintro e w5 ⟨z, rfl, hz, hr5, hb5⟩
    have hbb5 : But b (w4.alloc (.cells #[.int .i64 (x : Int), .int .i64 (r : Int)] 3)) w5 := (But.of_below (box_below _ _)).trans hb5
    have HB45 := mkHid hbb5
    have HLC := mkHid (HLB.out.next hbb5 hbl hr5)
    obtain ⟨d, hd, rfl⟩ := small_of hz (by decide)
    have h8 := some_le hd
    have HDL := mkHid hd
    clear hz hr5 hb5 hbb5 hd
    go_wp2_with fail
    refine (sm_any d (by have := HDL.out; omega) 2 ds.length w5 b (q1 + 1 + 1) (by omega) (by omega) HLC.out.rd (by omega)).mono ?_
    rintro e w6 ⟨u, c, q6, rfl, huo, hun, hk6, hsz, hr6, hp6, hb6⟩
    have HU := mkHid (And.intro huo hun)
    have HLD := mkHid (HLC.out.next hb6 hbl hr6)
    have HB46 : Hid (But b (w4.alloc (.cells #[.int .i64 (x : Int), .int .i64 (r : Int)] 3)) w6) := HB45.out.trans hb6
    have HXS := mkHid (ints2_at HB46.out (by omega))
    have HKU : Hid (In w6 u.kids c) := hk6.mono (fun _ h => h.2) fun _ _ => rfl
    have hq6 : q6 ≤ q1 + 2060 := by omega
    obtain ⟨adc, capc, rfl, -, -, -⟩ := id hk6
    clear huo hun hk6 hsz hr6 hp6 hb6 h8
    go_wp2_with fail
    have HAO := mkHid (specAddX_calls G u [(x : Int), (r : Int)] ds.length (.slice adw G.length capw) (.slice adc u.kids.length capc) (.slice (some ⟨w4.heap.size, 0, none⟩) 2 2) w6 HLD.out.own.cin HKU.out HXS.out HU.out.1 HU.out.2)
    have HAC := mkHid (addOut_cases HLD.out.val u [(x : Int), (r : Int)])
    rcases HAC.out with hac | ⟨G5, r5, hac, hG5, hr5, hl5⟩
    · rw [hac] at HAO
      refine HAO.out.mono ?_
      rintro e w7 ⟨v7, rfl, ho7, hb7⟩
      have HLF : Hid (LdR ds b lo w2 w7 G r m q6 (.slice adw G.length capw)) := by
        have h := HLD.out.next (But.of_below hb7) hbl (HLD.out.rd.next hb7)
        exact ⟨h.own, h.val, h.root, by omega, h.rd, h.but⟩
      obtain ⟨ad7, cap7, rfl⟩ := ho7.form
      clear hac ho7 hb7
      simp only []
      go_wp2_with fail
      refine (pick_calls 3 _ b q6 HLF.out.rd (by omega) (by decide)).mono ?_
      rintro e w8 ⟨y, rfl, -, -, -, hr8, hb8⟩
      have HLG := mkHid (HLF.out.next hb8 hbl hr8)
      clear hr8 hb8
      by_cases hy : y = 0
      · subst hy
        have hlt400 : G.length < 400 := by omega
        obtain ⟨xs, hx⟩ := HLG.out.own.row
        have hbA : Below w8.heap.size w8 ((w8.alloc (.cells #[.int .i64 (r : Int)] 3)).alloc (.cells #[.int .i64 11, .int .i64 0, .slice (some ⟨w8.heap.size, 0, none⟩) 1 1] 35)) := (box_below _ _).trans ((box_below _ _).mono (by rw [Deep.nblk_alloc]; omega))
        have HX : Hid (((w8.alloc (.cells #[.int .i64 (r : Int)] 3)).alloc (.cells #[.int .i64 11, .int .i64 0, .slice (some ⟨w8.heap.size, 0, none⟩) 1 1] 35)).ownsRow lo 35 3 (.slice adw G.length capw) G.length xs) := own_keep hx fun k _ hk => hbA.block k hk
        obtain ⟨iC, zC, hII⟩ := infoC1
        have HII : Hid (Try.prog.info? 35 = some iC ∧ iC.zero = some zC ∧ iC.size = 3 ∧ iC.bytes = 40 ∧ zC.cells.size = 3) := hII
        have hs8 : lo ≤ w8.heap.size := by rw [HLO.out]; exact HLG.out.but.size
        have HN3 : Hid (∀ j u, [Value.int .i64 11, Value.int .i64 0, Value.slice (some ⟨w8.heap.size, 0, none⟩) 1 1][j]? = some u → ((w8.alloc (.cells #[.int .i64 (r : Int)] 3)).alloc (.cells #[.int .i64 11, .int .i64 0, .slice (some ⟨w8.heap.size, 0, none⟩) 1 1] 35)).cell? ((⟨w8.heap.size + 1, 0, none⟩ : Addr).add j) = some u) := by
          have h := news3c (w8.alloc (.cells #[.int .i64 (r : Int)] 3)) (.int .i64 11) (.int .i64 0) (.slice (some ⟨w8.heap.size, 0, none⟩) 1 1)
          rw [Deep.nblk_alloc] at h
          exact h
        clear hx hII hbA
        go_wp2_with (at_builtin; go_must (refine wpList_append_where _ rfl _ _ 23 rfl lo 35 iC zC 3 40 Try.underlying23 HII.out.1 HII.out.2.1 HII.out.2.2.1 HII.out.2.2.2.1 HII.out.2.2.2.2 (by decide) (.slice adw G.length capw) G.length xs rfl HX.out ⟨w8.heap.size + 1, 0, none⟩ 1 1 [.int .i64 11, .int .i64 0, .slice (some ⟨w8.heap.size, 0, none⟩) 1 1] rfl rfl HN3.out (by simp [Value.oneCell']) (by unfold maxLen; omega) (by omega) (by rw [Deep.nblk_alloc, Deep.nblk_alloc]; omega) (by omega) ?_); go_must (intro v9 w9 hown hg9 hw9); go_must (have HLH := mkHid (HLG.out.ind (v' := v9) (xs := xs) HLO.out hbl hlt400 (by omega) _ HX.out hown hg9)); go_must (obtain ⟨ad9, cap9, rfl⟩ : ∃ ad cap, v9 = .slice ad (G.length + 1) cap := own_frm hown); clear hown hg9 hw9)
        go_roundw
        case rel => exact ⟨G ++ [indTo r], G.length, m, q6 + 1, by go_num, by go_num, by omega, by omega, HLH.out⟩
        case measure => simp [intOf] <;> omega
      have hyb : (y == 0) = false := by simpa using hy
      clear hy
      go_wp2_with fail
      go_roundw
      case rel => exact ⟨G, r, m, q6 + 1, by go_num, rfl, by omega, by omega, HLG.out⟩
      case measure => simp [intOf] <;> omega
    · rw [hac] at HAO
      refine HAO.out.mono ?_
      rintro e w7 ⟨v7, rfl, ho7, hb7⟩
      have HLF : Hid (LdR ds b lo w2 w7 G5 r5 m q6 v7) := by
        have h := HLD.out.next (But.of_below hb7) hbl (HLD.out.rd.next hb7)
        have hlo6 : lo ≤ w6.heap.size := by rw [HLO.out]; exact HLD.out.but.size
        exact ⟨ho7.downS hlo6 (fun k hk => Nat.le_trans hlo6 hk), hG5, hr5, by omega, h.rd, h.but⟩
      obtain ⟨ad7, cap7, rfl⟩ := ho7.form
      clear hac ho7 hb7
      simp only [] at HLF ⊢
      go_wp2_with fail
      refine (pick_calls 3 _ b q6 HLF.out.rd (by omega) (by decide)).mono ?_
      rintro e w8 ⟨y, rfl, -, -, -, hr8, hb8⟩
      have HLG := mkHid (HLF.out.next hb8 hbl hr8)
      clear hr8 hb8
      by_cases hy : y = 0
      · subst hy
        have hlt400 : G5.length < 400 := by omega
        obtain ⟨xs, hx⟩ := HLG.out.own.row
        have hbA : Below w8.heap.size w8 ((w8.alloc (.cells #[.int .i64 (r5 : Int)] 3)).alloc (.cells #[.int .i64 11, .int .i64 0, .slice (some ⟨w8.heap.size, 0, none⟩) 1 1] 35)) := (box_below _ _).trans ((box_below _ _).mono (by rw [Deep.nblk_alloc]; omega))
        have HX : Hid (((w8.alloc (.cells #[.int .i64 (r5 : Int)] 3)).alloc (.cells #[.int .i64 11, .int .i64 0, .slice (some ⟨w8.heap.size, 0, none⟩) 1 1] 35)).ownsRow lo 35 3 (.slice ad7 G5.length cap7) G5.length xs) := own_keep hx fun k _ hk => hbA.block k hk
        obtain ⟨iC, zC, hII⟩ := infoC1
        have HII : Hid (Try.prog.info? 35 = some iC ∧ iC.zero = some zC ∧ iC.size = 3 ∧ iC.bytes = 40 ∧ zC.cells.size = 3) := hII
        have hs8 : lo ≤ w8.heap.size := by rw [HLO.out]; exact HLG.out.but.size
        have HN3 : Hid (∀ j u, [Value.int .i64 11, Value.int .i64 0, Value.slice (some ⟨w8.heap.size, 0, none⟩) 1 1][j]? = some u → ((w8.alloc (.cells #[.int .i64 (r5 : Int)] 3)).alloc (.cells #[.int .i64 11, .int .i64 0, .slice (some ⟨w8.heap.size, 0, none⟩) 1 1] 35)).cell? ((⟨w8.heap.size + 1, 0, none⟩ : Addr).add j) = some u) := by
          have h := news3c (w8.alloc (.cells #[.int .i64 (r5 : Int)] 3)) (.int .i64 11) (.int .i64 0) (.slice (some ⟨w8.heap.size, 0, none⟩) 1 1)
          rw [Deep.nblk_alloc] at h
          exact h
        clear hx hII hbA
        go_wp2_with (at_builtin; go_must (refine wpList_append_where _ rfl _ _ 23 rfl lo 35 iC zC 3 40 Try.underlying23 HII.out.1 HII.out.2.1 HII.out.2.2.1 HII.out.2.2.2.1 HII.out.2.2.2.2 (by decide) (.slice ad7 G5.length cap7) G5.length xs rfl HX.out ⟨w8.heap.size + 1, 0, none⟩ 1 1 [.int .i64 11, .int .i64 0, .slice (some ⟨w8.heap.size, 0, none⟩) 1 1] rfl rfl HN3.out (by simp [Value.oneCell']) (by unfold maxLen; omega) (by omega) (by rw [Deep.nblk_alloc, Deep.nblk_alloc]; omega) (by omega) ?_); go_must (intro v9 w9 hown hg9 hw9); go_must (have HLH := mkHid (HLG.out.ind (v' := v9) (xs := xs) HLO.out hbl hlt400 (by omega) _ HX.out hown hg9)); go_must (obtain ⟨ad9, cap9, rfl⟩ : ∃ ad cap, v9 = .slice ad (G5.length + 1) cap := own_frm hown); clear hown hg9 hw9)
        go_roundw
        case rel => exact ⟨G5 ++ [indTo r5], G5.length, m, q6 + 1, by go_num, by go_num, by omega, by omega, HLH.out⟩
        case measure => simp [intOf] <;> omega
      have hyb : (y == 0) = false := by simpa using hy
      clear hy
      go_wp2_with fail
      go_roundw
      case rel => exact ⟨G5, r5, m, q6 + 1, by go_num, rfl, by omega, by omega, HLG.out⟩
      case measure => simp [intOf] <;> omega
end Go.Proofs.Ytjdlfpdljmohiaa
/-
  THE MODEL's l3Mutate: a copy of a graph, sometimes made invalid.
-/
namespace Go.Proofs.Ytjdlfpdljmohiaa
set_option linter.unusedVariables false
set_option linter.unusedSimpArgs false
open Go.RowKit

theorem rows_i64 {L : List Int} {y : Int} (hy : y ∈ L) (hL : ∀ z ∈ L, -1000000 ≤ z ∧ z ≤ 1000000) : I64 y := by have := hL y hy; unfold I64; omega
/-- numbers that a call has built by append -/
theorem ints_own {w : World} {lo : Nat} {L : List Int} {v : Value} (h : w.ownsRow lo 3 1 v L.length (L.map fun (a : Int) => Value.int .i64 a)) : IntsOn w (Btw lo w.heap.size) L v := by
  rcases h.2 with ⟨rfl, h0⟩ | ⟨g, cap, cur, rfl, hg, hh, hn, hc, hs, htk⟩
  · obtain rfl : L = [] := List.eq_nil_of_length_eq_zero h0
    exact ⟨none, 0, rfl, Nat.le_refl _, by simp [maxLen], Or.inl rfl⟩
  · refine ⟨_, cap, rfl, hn, hc, Or.inr ⟨g, 0, rfl, ⟨hg, (Array.getElem?_eq_some_iff.1 hh).1⟩, fun i hi => ?_⟩⟩
    refine cell_of_blk hh (0 + i) _ ?_
    rw [Nat.zero_add]
    rw [Nat.mul_one] at htk
    have e1 : (cur.toList.take L.length)[i]? = (L.map fun (a : Int) => Value.int .i64 a)[i]? := by rw [htk]
    rw [List.getElem?_take_of_lt hi] at e1
    simpa [hi] using e1
theorem own_uniq {w : World} {lo lo2 T s n : Nat} {v : Value} {xs ys : List Value} (h : w.ownsRow lo T s v n xs) (h2 : w.ownsRow lo2 T s v n ys) : xs = ys := by
  rcases h.2 with ⟨rfl, h0⟩ | ⟨b, cap, cur, rfl, hg', hh, hn', hc', hs', htk⟩
  · have a1 := h.1
    have a2 := h2.1
    rw [h0] at a1 a2
    rw [List.eq_nil_of_length_eq_zero (by omega : xs.length = 0), List.eq_nil_of_length_eq_zero (by omega : ys.length = 0)]
  · rcases h2.2 with ⟨e, -⟩ | ⟨b2, cap2, cur2, e, -, hh2, -, -, -, htk2⟩
    · cases e
    · cases e
      rw [hh] at hh2
      cases hh2
      rw [← htk, ← htk2]

/-- a graph in a row of its own, its operands in rows of their own that can be appended to -/
structure RowK (w : World) (lo b0 cap : Nat) (g : List Ce) (xs : List Value) (KV : Nat → Value) : Prop where
  row : w.ownsRow lo 35 3 (.slice (some ⟨b0, 0, none⟩) g.length cap) g.length xs
  at' : ∀ j (hj : j < g.length), xs[j * 3]? = some (.int .i64 g[j].op) ∧ xs[j * 3 + 1]? = some (.int .i64 g[j].num) ∧ xs[j * 3 + 2]? = some (KV j) ∧ I64 g[j].op ∧ I64 g[j].num
  kid : ∀ j (hj : j < g.length), w.ownsRow lo 3 1 (KV j) g[j].kids.length (g[j].kids.map fun (a : Int) => Value.int .i64 a)
  ne : ∀ i j, i < g.length → j < g.length → i ≠ j → ∀ b, (KV i).ownBlock = some b → (KV j).ownBlock ≠ some b
theorem rowK_of {w : World} {lo b0 n cap : Nat} {g : List Ce} {xs : List Value} (h : OwnC w lo (fun x => lo ≤ x) g (.slice (some ⟨b0, 0, none⟩) n cap)) (hk : KStk w lo g (.slice (some ⟨b0, 0, none⟩) n cap) xs) : ∃ KV, RowK w lo b0 cap g xs KV := by
  obtain ⟨hi0, ys, kb, h1, h2, h3⟩ := h
  obtain ⟨k1, KV, k2, k3⟩ := hk
  have hxy := own_uniq k1 h1
  subst hxy
  have hn : n = g.length := by
    rcases k1.2 with ⟨e, -⟩ | ⟨b, cap, cur, e, -⟩
    · cases e
    · cases e; rfl
  subst hn
  refine ⟨KV, k1, fun j hj => ?_, fun j hj => ?_, k3⟩
  · obtain ⟨kv, e0, e1, e2, -⟩ := h2 j hj
    exact ⟨e0, e1, (k2 j hj).1, (hi0 j hj).1, (hi0 j hj).2⟩
  · obtain ⟨-, ws, hs, he⟩ := k2 j hj
    have hv : g[j].kids.map (fun (a : Int) => Value.int .i64 a) = plV ws := by rw [he]; simp [plV, Function.comp_def]
    have hl : g[j].kids.length = ws.length := by rw [he]; simp
    rw [hv, hl]
    exact hs
theorem RowK.but {w w' : World} {lo b0 cap b : Nat} {g : List Ce} {xs : List Value} {KV : Nat → Value} (h : RowK w lo b0 cap g xs KV) (hb : But b w w') (hl : b < lo) : RowK w' lo b0 cap g xs KV := by
  have keep : ∀ {T s n : Nat} {v : Value} {ys : List Value}, w.ownsRow lo T s v n ys → w'.ownsRow lo T s v n ys := by
    intro T s n v ys h
    refine ⟨h.1, ?_⟩
    rcases h.2 with h' | ⟨g, cap, cur, rfl, hg, hh, r⟩
    · exact Or.inl h'
    · exact Or.inr ⟨g, cap, cur, rfl, hg, (hb.block g (Array.getElem?_eq_some_iff.1 hh).1 (by omega)).trans hh, r⟩
  exact ⟨keep h.row, h.at', fun j hj => keep (h.kid j hj), h.ne⟩
theorem own_kept {w w' : World} {lo T s n : Nat} {v : Value} {ys : List Value} (h : w.ownsRow lo T s v n ys) (hb : ∀ k, v.ownBlock = some k → k < w.heap.size → w'.heap[k]? = w.heap[k]?) : w'.ownsRow lo T s v n ys := by
  refine ⟨h.1, ?_⟩
  rcases h.2 with h' | ⟨g, cap, cur, rfl, hg, hh, r⟩
  · exact Or.inl h'
  · exact Or.inr ⟨g, cap, cur, rfl, hg, (hb g rfl (Array.getElem?_eq_some_iff.1 hh).1).trans hh, r⟩
/-- two rows of different types are different blocks -/
theorem own_types {w : World} {lo lo2 T T2 s s2 n n2 : Nat} {v v2 : Value} {xs ys : List Value} (h : w.ownsRow lo T s v n xs) (h2 : w.ownsRow lo2 T2 s2 v2 n2 ys) (hT : T ≠ T2) {b : Nat} (hb : v.ownBlock = some b) : v2.ownBlock ≠ some b := by
  intro e
  rcases h.2 with ⟨rfl, -⟩ | ⟨g, cap, cur, rfl, -, hh, -⟩
  · simp [Value.ownBlock] at hb
  · rcases h2.2 with ⟨rfl, -⟩ | ⟨g2, cap2, cur2, rfl, -, hh2, -⟩
    · simp [Value.ownBlock] at e
    · simp only [Value.ownBlock, Option.some.injEq] at hb e
      subst hb
      subst e
      rw [hh] at hh2
      simp at hh2
      exact hT hh2.2
theorem cell_ne_int : (35 : TypeId) ≠ 3 := by decide
/-- a graph, out of its row -/
theorem cells_row {w : World} {lo b0 cap : Nat} {g : List Ce} {xs : List Value} (h : w.ownsRow lo 35 3 (.slice (some ⟨b0, 0, none⟩) g.length cap) g.length xs)
    (hk : ∀ j (hj : j < g.length), ∃ c, xs[j * 3]? = some (.int .i64 g[j].op) ∧ xs[j * 3 + 1]? = some (.int .i64 g[j].num) ∧ xs[j * 3 + 2]? = some c ∧ I64 g[j].op ∧ I64 g[j].num ∧ IntsOn w (Btw lo w.heap.size) g[j].kids c) : CellsOn w (Btw lo w.heap.size) g (.slice (some ⟨b0, 0, none⟩) g.length cap) := by
  rcases h.2 with ⟨e, -⟩ | ⟨b, cap2, cur, e, hg, hh, hn, hc, hs, htk⟩
  · cases e
  cases e
  refine ⟨_, cap, rfl, hn, hc, Or.inr ⟨b0, 0, rfl, ⟨hg, (Array.getElem?_eq_some_iff.1 hh).1⟩, fun i hi => ?_⟩⟩
  obtain ⟨c, e0, e1, e2, i0, i1, hi2⟩ := hk i hi
  have get : ∀ m u, m < g.length * 3 → xs[m]? = some u → w.cell? ⟨b0, m, none⟩ = some u := by
    intro m u hm hu
    refine cell_of_blk hh m _ ?_
    rw [← htk, List.getElem?_take_of_lt hm] at hu
    simpa using hu
  refine ⟨c, ?_, ?_, ?_, i0, i1, hi2⟩
  · rw [Nat.zero_add]; exact get _ _ (by omega) e0
  · rw [Nat.zero_add]; exact get _ _ (by omega) e1
  · rw [Nat.zero_add]; exact get _ _ (by omega) e2
theorem RowK.cells {w : World} {lo b0 cap : Nat} {g : List Ce} {xs : List Value} {KV : Nat → Value} (h : RowK w lo b0 cap g xs KV) : CellsOn w (Btw lo w.heap.size) g (.slice (some ⟨b0, 0, none⟩) g.length cap) :=
  cells_row h.row fun j hj => ⟨KV j, (h.at' j hj).1, (h.at' j hj).2.1, (h.at' j hj).2.2.1, (h.at' j hj).2.2.2.1, (h.at' j hj).2.2.2.2, ints_own (h.kid j hj)⟩
/-- one cell is another one: the row has been written, and its operands lie in new memory -/
theorem RowK.upd {w w' : World} {lo b0 cap : Nat} {g : List Ce} {xs ys : List Value} {KV : Nat → Value} (h : RowK w lo b0 cap g xs KV) (k : Nat) (hk : k < g.length) (c : Ce) (kv : Value)
    (hrow : w'.ownsRow lo 35 3 (.slice (some ⟨b0, 0, none⟩) g.length cap) g.length ys) (hys : ∀ m, m < g.length * 3 → m / 3 ≠ k → ys[m]? = xs[m]?)
    (hc : ys[k * 3]? = some (.int .i64 c.op) ∧ ys[k * 3 + 1]? = some (.int .i64 c.num) ∧ ys[k * 3 + 2]? = some kv ∧ I64 c.op ∧ I64 c.num) (hkids : IntsOn w' (Btw lo w'.heap.size) c.kids kv)
    (hb : ∀ j, j < g.length → j ≠ k → ∀ x, (KV j).ownBlock = some x → x < w.heap.size → w'.heap[x]? = w.heap[x]?) : CellsOn w' (Btw lo w'.heap.size) (g.set k c) (.slice (some ⟨b0, 0, none⟩) g.length cap) := by
  have hl : (g.set k c).length = g.length := List.length_set
  rw [← hl] at hrow ⊢
  refine cells_row hrow fun j hj => ?_
  rw [hl] at hj
  by_cases hjk : j = k
  · subst hjk
    simp only [List.getElem_set_self]
    exact ⟨kv, hc.1, hc.2.1, hc.2.2.1, hc.2.2.2.1, hc.2.2.2.2, hkids⟩
  · rw [List.getElem_set_ne (by omega)]
    obtain ⟨a1, a2, a3, a4, a5⟩ := h.at' j hj
    exact ⟨KV j, by rw [hys _ (by omega) (by omega)]; exact a1, by rw [hys _ (by omega) (by omega)]; exact a2, by rw [hys _ (by omega) (by omega)]; exact a3, a4, a5, ints_own (own_kept (h.kid j hj) (hb j hj hjk))⟩
theorem RowK.lt {w : World} {lo b0 cap : Nat} {g : List Ce} {xs : List Value} {KV : Nat → Value} (h : RowK w lo b0 cap g xs KV) : lo ≤ b0 ∧ b0 < w.heap.size := own_some h.row b0 rfl
theorem RowK.kidNe {w : World} {lo b0 cap : Nat} {g : List Ce} {xs : List Value} {KV : Nat → Value} (h : RowK w lo b0 cap g xs KV) (j : Nat) (hj : j < g.length) {x : Nat} (hx : (KV j).ownBlock = some x) : x ≠ b0 := by
  have := own_types (h.kid j hj) h.row (fun e => cell_ne_int e.symm) hx
  intro e
  subst e
  exact this rfl
/-- the operator is another one -/
theorem RowK.setOp {w : World} {lo b0 cap : Nat} {g : List Ce} {xs : List Value} {KV : Nat → Value} (h : RowK w lo b0 cap g xs KV) (k : Nat) (hk : k < g.length) (y : Int) (hy : I64 y) :
    CellsOn (w.setCell ⟨b0, k * 3, none⟩ (.int .i64 y)) (Btw lo (w.setCell ⟨b0, k * 3, none⟩ (.int .i64 y)).heap.size) (g.set k ⟨y, g[k].num, g[k].kids⟩) (.slice (some ⟨b0, 0, none⟩) g.length cap) := by
  have hl := h.row.1
  obtain ⟨a1, a2, a3, a4, a5⟩ := h.at' k hk
  have hoth : ∀ j, j < g.length → ∀ x, (KV j).ownBlock = some x → x < w.heap.size → (w.setCell ⟨b0, k * 3, none⟩ (.int .i64 y)).heap[x]? = w.heap[x]? := fun j hj x hx _ => Below.heap_setCell _ _ _ _ (h.kidNe j hj hx)
  refine h.upd k hk ⟨y, g[k].num, g[k].kids⟩ (KV k) (h.row.stored (k * 3) (.int .i64 y)).1 (fun m hm hmk => List.getElem?_set_ne (by omega)) ⟨List.getElem?_set_self (by omega), by rw [List.getElem?_set_ne (by omega)]; exact a2, by rw [List.getElem?_set_ne (by omega)]; exact a3, hy, a5⟩ (ints_own (own_kept (h.kid k hk) (hoth k hk))) fun j hj _ => hoth j hj
/-- the number is another one -/
theorem RowK.setNum {w : World} {lo b0 cap : Nat} {g : List Ce} {xs : List Value} {KV : Nat → Value} (h : RowK w lo b0 cap g xs KV) (k : Nat) (hk : k < g.length) (y : Int) (hy : I64 y) :
    CellsOn (w.setCell ⟨b0, k * 3 + 1, none⟩ (.int .i64 y)) (Btw lo (w.setCell ⟨b0, k * 3 + 1, none⟩ (.int .i64 y)).heap.size) (g.set k ⟨g[k].op, y, g[k].kids⟩) (.slice (some ⟨b0, 0, none⟩) g.length cap) := by
  have hl := h.row.1
  obtain ⟨a1, a2, a3, a4, a5⟩ := h.at' k hk
  have hoth : ∀ j, j < g.length → ∀ x, (KV j).ownBlock = some x → x < w.heap.size → (w.setCell ⟨b0, k * 3 + 1, none⟩ (.int .i64 y)).heap[x]? = w.heap[x]? := fun j hj x hx _ => Below.heap_setCell _ _ _ _ (h.kidNe j hj hx)
  refine h.upd k hk ⟨g[k].op, y, g[k].kids⟩ (KV k) (h.row.stored (k * 3 + 1) (.int .i64 y)).1 (fun m hm hmk => List.getElem?_set_ne (by omega)) ⟨by rw [List.getElem?_set_ne (by omega)]; exact a1, List.getElem?_set_self (by omega), by rw [List.getElem?_set_ne (by omega)]; exact a3, a4, hy⟩ (ints_own (own_kept (h.kid k hk) (hoth k hk))) fun j hj _ => hoth j hj
/-- the first operand is another one -/
theorem RowK.setKid {w : World} {lo b0 cap kb kc : Nat} {g : List Ce} {xs : List Value} {KV : Nat → Value} (h : RowK w lo b0 cap g xs KV) (k : Nat) (hk : k < g.length) (hkv : KV k = .slice (some ⟨kb, 0, none⟩) g[k].kids.length kc) (y : Int) :
    CellsOn (w.setCell ⟨kb, 0, none⟩ (.int .i64 y)) (Btw lo (w.setCell ⟨kb, 0, none⟩ (.int .i64 y)).heap.size) (g.set k ⟨g[k].op, g[k].num, g[k].kids.set 0 y⟩) (.slice (some ⟨b0, 0, none⟩) g.length cap) := by
  have hl := h.row.1
  obtain ⟨a1, a2, a3, a4, a5⟩ := h.at' k hk
  have hown : (KV k).ownBlock = some kb := by rw [hkv]; rfl
  have hne := h.kidNe k hk hown
  have hkid := h.kid k hk
  rw [hkv] at hkid
  have hst := (hkid.stored 0 (.int .i64 y)).1
  have e : (g[k].kids.map fun (a : Int) => Value.int .i64 a).set 0 (.int .i64 y) = (g[k].kids.set 0 y).map fun (a : Int) => Value.int .i64 a := by rw [List.map_set]
  rw [e] at hst
  refine h.upd k hk ⟨g[k].op, g[k].num, g[k].kids.set 0 y⟩ (KV k) (own_kept h.row fun x hx _ => Below.heap_setCell _ _ _ _ (fun e => by simp only [Value.ownBlock, Option.some.injEq] at hx; exact hne (by rw [hx]; exact e.symm))) (fun m hm hmk => rfl) ⟨a1, a2, a3, a4, a5⟩ ?_ fun j hj hjk x hx _ => Below.heap_setCell _ _ _ _ (fun e => h.ne k j hk hj (by omega) kb hown (by rw [hx]; exact congrArg some e))
  rw [hkv]
  refine ints_own ?_
  simpa using hst
/-- one operand more -/
theorem RowK.push {w w1 : World} {lo b0 cap : Nat} {g : List Ce} {xs : List Value} {KV : Nat → Value} (h : RowK w lo b0 cap g xs KV) (k : Nat) (hk : k < g.length) (y : Int) (v' : Value)
    (hown : w1.ownsRow lo 3 1 v' (g[k].kids.length + 1) ((g[k].kids.map fun (a : Int) => Value.int .i64 a) ++ [.int .i64 y])) (hg : w.grownBy w1 (KV k).ownBlock) :
    CellsOn (w1.setCell ⟨b0, k * 3 + 2, none⟩ v') (Btw lo (w1.setCell ⟨b0, k * 3 + 2, none⟩ v').heap.size) (g.set k ⟨g[k].op, g[k].num, g[k].kids ++ [y]⟩) (.slice (some ⟨b0, 0, none⟩) g.length cap) := by
  have hl := h.row.1
  obtain ⟨a1, a2, a3, a4, a5⟩ := h.at' k hk
  have hr1 : w1.ownsRow lo 35 3 (.slice (some ⟨b0, 0, none⟩) g.length cap) g.length xs := own_kept h.row fun x hx hx2 => hg.block x hx2 (fun e => by
    have := own_types h.row (h.kid k hk) cell_ne_int hx
    exact this e.symm)
  refine h.upd k hk ⟨g[k].op, g[k].num, g[k].kids ++ [y]⟩ v' (hr1.stored (k * 3 + 2) v').1 (fun m hm hmk => List.getElem?_set_ne (by omega)) ⟨by rw [List.getElem?_set_ne (by omega)]; exact a1, by rw [List.getElem?_set_ne (by omega)]; exact a2, List.getElem?_set_self (by omega), a4, a5⟩ ?_ fun j hj hjk x hx hx2 => ?_
  · refine ints_own (own_kept (w := w1) ?_ fun x hx _ => Below.heap_setCell _ _ _ _ (fun e => ?_))
    · simpa using hown
    · have := own_types hown hr1 (fun e => cell_ne_int e.symm) hx
      subst e
      exact this rfl
  · exact (Below.heap_setCell _ _ _ _ (h.kidNe j hj hx)).trans (hg.block x hx2 (fun e => h.ne k j hk hj (by omega) x e.symm hx))
/-- a cell that stands for itself -/
theorem RowK.setAll {w : World} {lo b0 cap : Nat} {g : List Ce} {xs : List Value} {KV : Nat → Value} (h : RowK w lo b0 cap g xs KV) (k : Nat) (hk : k < g.length) (hlo : lo ≤ w.heap.size) :
    CellsOn (st3 (w.alloc (.cells #[.int .i64 (k : Int)] 3)) b0 k 11 0 (.slice (some ⟨w.heap.size, 0, none⟩) 1 1)) (Btw lo (st3 (w.alloc (.cells #[.int .i64 (k : Int)] 3)) b0 k 11 0 (.slice (some ⟨w.heap.size, 0, none⟩) 1 1)).heap.size) (g.set k ⟨11, 0, [(k : Int)]⟩) (.slice (some ⟨b0, 0, none⟩) g.length cap) := by
  have hl := h.row.1
  have hb0 := h.lt
  have hr1 : (w.alloc (.cells #[.int .i64 (k : Int)] 3)).ownsRow lo 35 3 (.slice (some ⟨b0, 0, none⟩) g.length cap) g.length xs := own_kept h.row fun x _ hx => Deep.blk_alloc_lt _ _ _ hx
  have r1 := (hr1.stored (k * 3) (.int .i64 11)).1
  have r2 := (r1.stored (k * 3 + 1) (.int .i64 0)).1
  have r3 := (r2.stored (k * 3 + 2) (.slice (some ⟨w.heap.size, 0, none⟩) 1 1)).1
  refine h.upd k hk ⟨11, 0, [(k : Int)]⟩ (.slice (some ⟨w.heap.size, 0, none⟩) 1 1) r3 (fun m hm hmk => by rw [List.getElem?_set_ne (by omega), List.getElem?_set_ne (by omega), List.getElem?_set_ne (by omega)]) ⟨by rw [List.getElem?_set_ne (by omega), List.getElem?_set_ne (by omega), List.getElem?_set_self (by omega)], by rw [List.getElem?_set_ne (by omega), List.getElem?_set_self (by rw [List.length_set]; omega)], by rw [List.getElem?_set_self (by rw [List.length_set, List.length_set]; omega)], by simp [I64], by simp [I64]⟩ ?_ fun j hj hjk x hx hx2 => ?_
  · have hn : (st3 (w.alloc (.cells #[.int .i64 (k : Int)] 3)) b0 k 11 0 (.slice (some ⟨w.heap.size, 0, none⟩) 1 1)).heap[w.heap.size]? = some (.cells #[.int .i64 (k : Int)] 3) := (st3_block (by omega)).trans (Deep.blk_alloc_new _ _)
    refine ⟨_, 1, rfl, Nat.le_refl _, by simp [maxLen], Or.inr ⟨w.heap.size, 0, rfl, ⟨hlo, (Array.getElem?_eq_some_iff.1 hn).1⟩, fun i hi => ?_⟩⟩
    obtain rfl : i = 0 := by simp at hi; omega
    exact cell_of_blk hn 0 _ rfl
  · exact (st3_block (h.kidNe j hj hx)).trans (Deep.blk_alloc_lt _ _ _ hx2)
end Go.Proofs.Ytjdlfpdljmohiaa
