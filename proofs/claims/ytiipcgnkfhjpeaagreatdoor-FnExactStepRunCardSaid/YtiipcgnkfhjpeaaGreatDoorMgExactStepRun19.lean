/-
  THE MODEL's GraphValid AND FollowInd (l3Cell, GraphValid, l3Follow, FollowInd); nothing that was there is changed.
-/
import Derived.Test.YtiipcgnkfhjpeaaGreatDoorMgExactStepRun5
import Derived.Test.YtiipcgnkfhjpeaaGreatDoorMgExactStepRun4
import Derived.Test.YtiipcgnkfhjpeaaGreatDoorMgExactStepRun11
import Derived.Test.YtiipcgnkfhjpeaaGreatDoorMgExactStepRun8
import Derived.Deep.DeepCutAuto
import Derived.Deep.RegionWith
import Derived.Deep.RegionHeld3
namespace Go.Proofs.YtiipcgnkfhjpeaaGreatDoor
set_option linter.unusedVariables false
set_option linter.unusedSimpArgs false
open Go.RowKit

theorem cellB_var {cells defs : Int} {c : Ce} (h : c.op = 1) : cellB cells defs c = false := by
  unfold cellB fitsB; rw [h, ownB_var]; simp
theorem cellB_len {cells defs : Int} {c : Ce} (h : ¬ (c.kids.length : Int) = cArity c.op) : cellB cells defs c = false := by
  unfold cellB fitsB; rw [decide_eq_false h]; simp
theorem cellB_kid {cells defs : Int} {c : Ce} (k : Nat) (hk : k < c.kids.length) (h : isAt cells c.kids[k] = false) : cellB cells defs c = false := by
  unfold cellB; rw [allI_false_of _ _ k hk h]; simp
theorem cellB_all {cells defs : Int} {c : Ce} (h : (c.kids.length : Int) = cArity c.op) (ha : c.kids.all (isAt cells) = true) : cellB cells defs c = ownB c.op c.num 0 defs := by
  unfold cellB fitsB; rw [decide_eq_true h, ha]; simp
theorem all_end {α : Type} {p : α → Bool} {l : List α} {k : Nat} (h : (l.take k).all p = true) (e : l.length = k) : l.all p = true := by
  subst e; rwa [List.take_length] at h
theorem isAt_lo {cells k : Int} (h : k < 0) : isAt cells k = false := by unfold isAt; rw [decide_eq_false]; omega
theorem isAt_hi {cells k : Int} (h : ¬ k < cells) : isAt cells k = false := by unfold isAt; rw [decide_eq_false]; omega
theorem isAt_in {cells k : Int} (h0 : 0 ≤ k) (h : k < cells) : isAt cells k = true := by unfold isAt; rw [decide_eq_true]; exact ⟨h0, h⟩

set_option maxHeartbeats 800000 in
theorem l3Cell_var (c : Ce) (cells defs : Int) (v : Value) (w : World) (hk : IIn w c.kids v) (h1 : c.op = 1) :
    Calls Tryz.prog 90 #[.agg #[.int .i64 c.op, .int .i64 c.num, v], .int .i64 cells, .int .i64 defs] w fun e w' => e = .returned (.bool (cellB cells defs c)) ∧ Below w.heap.size w w' := by
  have HK : Hid (IIn w c.kids v) := hk
  obtain ⟨ad, cap, rfl, hl, hm, -⟩ := hk
  unfold maxLen at hm
  have HV : Hid (cellB cells defs c = false) := cellB_var h1
  have t1 : (c.op == 1) = true := by simpa using h1
  have t11 : (c.op == 11) = false := by simp [h1]
  clear h1
  go_enter Tryz.func90, Tryz.ntmps90
  go_wp2_with fail
  refine (l1Kids_below c.op _).mono ?_
  rintro e w1 ⟨rfl, hb⟩
  have HB : Hid (Below w.heap.size w w1) := (box_below _ _).trans (hb.mono (by rw [Deep.nblk_alloc]; omega))
  have hz : w.heap.size < w1.heap.size := by have := hb.size; rw [Deep.nblk_alloc] at this; omega
  have c0 := (hb.cell (p := ⟨w.heap.size, 0, none⟩) (by rw [Deep.nblk_alloc]; exact Nat.lt_succ_self _)).trans (box_cell w #[.int .i64 c.op, .int .i64 c.num, .slice ad c.kids.length cap] 93 0 _ rfl)
  have c1 := (hb.cell (p := ⟨w.heap.size, 1, none⟩) (by rw [Deep.nblk_alloc]; exact Nat.lt_succ_self _)).trans (box_cell w #[.int .i64 c.op, .int .i64 c.num, .slice ad c.kids.length cap] 93 1 _ rfl)
  have c2 := (hb.cell (p := ⟨w.heap.size, 2, none⟩) (by rw [Deep.nblk_alloc]; exact Nat.lt_succ_self _)).trans (box_cell w #[.int .i64 c.op, .int .i64 c.num, .slice ad c.kids.length cap] 93 2 _ rfl)
  clear hb
  go_wp2_with fail
  go_ret
  exact ⟨ret_bool HV.out.symm, HB.out⟩

set_option maxHeartbeats 800000 in
theorem l3Cell_ind_no (c : Ce) (cells defs : Int) (v : Value) (w : World) (hk : IIn w c.kids v) (h1 : c.op = 11) (hlen : ¬ (c.kids.length : Int) = cArity c.op) :
    Calls Tryz.prog 90 #[.agg #[.int .i64 c.op, .int .i64 c.num, v], .int .i64 cells, .int .i64 defs] w fun e w' => e = .returned (.bool (cellB cells defs c)) ∧ Below w.heap.size w w' := by
  have HK : Hid (IIn w c.kids v) := hk
  obtain ⟨ad, cap, rfl, hl, hm, -⟩ := hk
  unfold maxLen at hm
  have t1 : (c.op == 1) = false := by simp [h1]
  have t11 : (c.op == 11) = true := by simpa using h1
  have ha : cArity c.op = 1 := by unfold cArity; rw [if_pos h1]
  have HV : Hid (cellB cells defs c = false) := cellB_len hlen
  rw [ha] at hlen
  have t2 : ((c.kids.length : Int) != 1) = true := by simpa using hlen
  clear h1 hlen ha
  go_enter Tryz.func90, Tryz.ntmps90
  go_wp2_with fail
  refine (l1Kids_below c.op _).mono ?_
  rintro e w1 ⟨rfl, hb⟩
  have HB : Hid (Below w.heap.size w w1) := (box_below _ _).trans (hb.mono (by rw [Deep.nblk_alloc]; omega))
  have hz : w.heap.size < w1.heap.size := by have := hb.size; rw [Deep.nblk_alloc] at this; omega
  have c0 := (hb.cell (p := ⟨w.heap.size, 0, none⟩) (by rw [Deep.nblk_alloc]; exact Nat.lt_succ_self _)).trans (box_cell w #[.int .i64 c.op, .int .i64 c.num, .slice ad c.kids.length cap] 93 0 _ rfl)
  have c1 := (hb.cell (p := ⟨w.heap.size, 1, none⟩) (by rw [Deep.nblk_alloc]; exact Nat.lt_succ_self _)).trans (box_cell w #[.int .i64 c.op, .int .i64 c.num, .slice ad c.kids.length cap] 93 1 _ rfl)
  have c2 := (hb.cell (p := ⟨w.heap.size, 2, none⟩) (by rw [Deep.nblk_alloc]; exact Nat.lt_succ_self _)).trans (box_cell w #[.int .i64 c.op, .int .i64 c.num, .slice ad c.kids.length cap] 93 2 _ rfl)
  clear hb
  go_wp2_with fail
  go_ret
  exact ⟨ret_bool HV.out.symm, HB.out⟩

set_option maxHeartbeats 800000 in
theorem l3Cell_ind_ok (c : Ce) (cells defs : Int) (v : Value) (w : World) (hk : IIn w c.kids v) (h1 : c.op = 11) (hlen : (c.kids.length : Int) = cArity c.op) :
    Calls Tryz.prog 90 #[.agg #[.int .i64 c.op, .int .i64 c.num, v], .int .i64 cells, .int .i64 defs] w fun e w' => e = .returned (.bool (cellB cells defs c)) ∧ Below w.heap.size w w' := by
  have HK : Hid (IIn w c.kids v) := hk
  obtain ⟨ad, cap, rfl, hl, hm, -⟩ := hk
  unfold maxLen at hm
  have t1 : (c.op == 1) = false := by simp [h1]
  have t11 : (c.op == 11) = true := by simpa using h1
  have ha : cArity c.op = 1 := by unfold cArity; rw [if_pos h1]
  have t2 : ((c.kids.length : Int) != 1) = false := by rw [ha] at hlen; simpa using hlen
  clear h1 ha
  go_enter Tryz.func90, Tryz.ntmps90
  go_wp2_with fail
  refine (l1Kids_below c.op _).mono ?_
  rintro e w1 ⟨rfl, hb⟩
  have HB : Hid (Below w.heap.size w w1) := (box_below _ _).trans (hb.mono (by rw [Deep.nblk_alloc]; omega))
  have hz : w.heap.size < w1.heap.size := by have := hb.size; rw [Deep.nblk_alloc] at this; omega
  have c0 := (hb.cell (p := ⟨w.heap.size, 0, none⟩) (by rw [Deep.nblk_alloc]; exact Nat.lt_succ_self _)).trans (box_cell w #[.int .i64 c.op, .int .i64 c.num, .slice ad c.kids.length cap] 93 0 _ rfl)
  have c1 := (hb.cell (p := ⟨w.heap.size, 1, none⟩) (by rw [Deep.nblk_alloc]; exact Nat.lt_succ_self _)).trans (box_cell w #[.int .i64 c.op, .int .i64 c.num, .slice ad c.kids.length cap] 93 1 _ rfl)
  have c2 := (hb.cell (p := ⟨w.heap.size, 2, none⟩) (by rw [Deep.nblk_alloc]; exact Nat.lt_succ_self _)).trans (box_cell w #[.int .i64 c.op, .int .i64 c.num, .slice ad c.kids.length cap] 93 2 _ rfl)
  clear hb
  have HL : Hid ((c.kids.length : Int) = cArity c.op) := hlen
  clear hlen
  go_wp2_with fail
  go_loopw [8] (fun i wr => ∃ k : Nat, k ≤ c.kids.length ∧ i = .int .i64 k ∧ (c.kids.take k).all (isAt cells) = true ∧ Below w1.heap.size w1 wr) (fun i _ => c.kids.length - (intOf i).toNat)
  case atStart => exact ⟨0, Nat.zero_le _, rfl, by simp, Below.refl _ _⟩
  case round =>
    obtain ⟨k, hk, rfl, hall, hb⟩ := hrel
    have HA : Hid ((c.kids.take k).all (isAt cells) = true) := hall
    have HBW : Hid (Below w.heap.size w wr) := HB.out.trans (hb.mono (Nat.le_of_lt hz))
    have HBR : Hid (Below w1.heap.size w1 wr) := hb
    have e0 := (hb.cell (p := ⟨w.heap.size, 0, none⟩) hz).trans c0
    have e1 := (hb.cell (p := ⟨w.heap.size, 1, none⟩) hz).trans c1
    have e2 := (hb.cell (p := ⟨w.heap.size, 2, none⟩) hz).trans c2
    clear hall hb c0 c1 c2
    by_cases hlt : k < c.kids.length
    · obtain ⟨bl, off, rfl, d0⟩ := (HK.out.next HBW.out).at k hlt
      by_cases hneg : c.kids[k] < 0
      · have HV : Hid (cellB cells defs c = false) := cellB_kid k hlt (isAt_lo hneg)
        go_wp2_with fail
        go_ret
        exact ⟨ret_bool HV.out.symm, HBW.out⟩
      by_cases hhi : c.kids[k] < cells
      · have HA2 : Hid ((c.kids.take (k + 1)).all (isAt cells) = true) := by rw [Hid, allI_take_succ _ _ _ hlt, HA.out, isAt_in (by omega) hhi]; rfl
        go_wp2_with fail
        go_roundw
        case rel => exact ⟨k + 1, by omega, by go_num, HA2.out, HBR.out⟩
        case measure => simp [intOf]; omega
      · have HV : Hid (cellB cells defs c = false) := cellB_kid k hlt (isAt_hi hhi)
        go_wp2_with fail
        go_ret
        exact ⟨ret_bool HV.out.symm, HBW.out⟩
    · have hke : c.kids.length = k := by omega
      have HV : Hid (cellB cells defs c = ownB c.op c.num 0 defs) := cellB_all HL.out (all_end HA.out hke)
      clear hke
      go_wp2_with fail
      refine (l1Own_calls c.op c.num 0 defs _ _).mono ?_
      rintro e w3 ⟨rfl, hb3⟩
      have HB3 : Hid (Below w.heap.size w w3) := HBW.out.trans (hb3.mono HBW.out.size)
      clear hb3
      go_wp2_with fail
      go_ret
      exact ⟨ret_bool HV.out.symm, HB3.out⟩

set_option maxHeartbeats 800000 in
theorem l3Cell_other_no (c : Ce) (cells defs : Int) (v : Value) (w : World) (hk : IIn w c.kids v) (h1 : c.op ≠ 1) (h11 : c.op ≠ 11) (hlen : ¬ (c.kids.length : Int) = cArity c.op) :
    Calls Tryz.prog 90 #[.agg #[.int .i64 c.op, .int .i64 c.num, v], .int .i64 cells, .int .i64 defs] w fun e w' => e = .returned (.bool (cellB cells defs c)) ∧ Below w.heap.size w w' := by
  have HK : Hid (IIn w c.kids v) := hk
  obtain ⟨ad, cap, rfl, hl, hm, -⟩ := hk
  unfold maxLen at hm
  have t1 : (c.op == 1) = false := by simpa using h1
  have t11 : (c.op == 11) = false := by simpa using h11
  have ha : cArity c.op = arity c.op := by unfold cArity; rw [if_neg h11]
  have HV : Hid (cellB cells defs c = false) := cellB_len hlen
  rw [ha] at hlen
  have t2 : ((c.kids.length : Int) != arity c.op) = true := by simpa using hlen
  clear h1 h11 hlen ha
  go_enter Tryz.func90, Tryz.ntmps90
  go_wp2_with fail
  refine (l1Kids_below c.op _).mono ?_
  rintro e w1 ⟨rfl, hb⟩
  have HB : Hid (Below w.heap.size w w1) := (box_below _ _).trans (hb.mono (by rw [Deep.nblk_alloc]; omega))
  have hz : w.heap.size < w1.heap.size := by have := hb.size; rw [Deep.nblk_alloc] at this; omega
  have c0 := (hb.cell (p := ⟨w.heap.size, 0, none⟩) (by rw [Deep.nblk_alloc]; exact Nat.lt_succ_self _)).trans (box_cell w #[.int .i64 c.op, .int .i64 c.num, .slice ad c.kids.length cap] 93 0 _ rfl)
  have c1 := (hb.cell (p := ⟨w.heap.size, 1, none⟩) (by rw [Deep.nblk_alloc]; exact Nat.lt_succ_self _)).trans (box_cell w #[.int .i64 c.op, .int .i64 c.num, .slice ad c.kids.length cap] 93 1 _ rfl)
  have c2 := (hb.cell (p := ⟨w.heap.size, 2, none⟩) (by rw [Deep.nblk_alloc]; exact Nat.lt_succ_self _)).trans (box_cell w #[.int .i64 c.op, .int .i64 c.num, .slice ad c.kids.length cap] 93 2 _ rfl)
  clear hb
  go_wp2_with fail
  go_ret
  exact ⟨ret_bool HV.out.symm, HB.out⟩

set_option maxHeartbeats 800000 in
theorem l3Cell_other_ok (c : Ce) (cells defs : Int) (v : Value) (w : World) (hk : IIn w c.kids v) (h1 : c.op ≠ 1) (h11 : c.op ≠ 11) (hlen : (c.kids.length : Int) = cArity c.op) :
    Calls Tryz.prog 90 #[.agg #[.int .i64 c.op, .int .i64 c.num, v], .int .i64 cells, .int .i64 defs] w fun e w' => e = .returned (.bool (cellB cells defs c)) ∧ Below w.heap.size w w' := by
  have HK : Hid (IIn w c.kids v) := hk
  obtain ⟨ad, cap, rfl, hl, hm, -⟩ := hk
  unfold maxLen at hm
  have t1 : (c.op == 1) = false := by simpa using h1
  have t11 : (c.op == 11) = false := by simpa using h11
  have ha : cArity c.op = arity c.op := by unfold cArity; rw [if_neg h11]
  have t2 : ((c.kids.length : Int) != arity c.op) = false := by rw [ha] at hlen; simpa using hlen
  clear h1 h11 ha
  go_enter Tryz.func90, Tryz.ntmps90
  go_wp2_with fail
  refine (l1Kids_below c.op _).mono ?_
  rintro e w1 ⟨rfl, hb⟩
  have HB : Hid (Below w.heap.size w w1) := (box_below _ _).trans (hb.mono (by rw [Deep.nblk_alloc]; omega))
  have hz : w.heap.size < w1.heap.size := by have := hb.size; rw [Deep.nblk_alloc] at this; omega
  have c0 := (hb.cell (p := ⟨w.heap.size, 0, none⟩) (by rw [Deep.nblk_alloc]; exact Nat.lt_succ_self _)).trans (box_cell w #[.int .i64 c.op, .int .i64 c.num, .slice ad c.kids.length cap] 93 0 _ rfl)
  have c1 := (hb.cell (p := ⟨w.heap.size, 1, none⟩) (by rw [Deep.nblk_alloc]; exact Nat.lt_succ_self _)).trans (box_cell w #[.int .i64 c.op, .int .i64 c.num, .slice ad c.kids.length cap] 93 1 _ rfl)
  have c2 := (hb.cell (p := ⟨w.heap.size, 2, none⟩) (by rw [Deep.nblk_alloc]; exact Nat.lt_succ_self _)).trans (box_cell w #[.int .i64 c.op, .int .i64 c.num, .slice ad c.kids.length cap] 93 2 _ rfl)
  clear hb
  have HL : Hid ((c.kids.length : Int) = cArity c.op) := hlen
  clear hlen
  go_wp2_with fail
  go_loopw [8] (fun i wr => ∃ k : Nat, k ≤ c.kids.length ∧ i = .int .i64 k ∧ (c.kids.take k).all (isAt cells) = true ∧ Below w1.heap.size w1 wr) (fun i _ => c.kids.length - (intOf i).toNat)
  case atStart => exact ⟨0, Nat.zero_le _, rfl, by simp, Below.refl _ _⟩
  case round =>
    obtain ⟨k, hk, rfl, hall, hb⟩ := hrel
    have HA : Hid ((c.kids.take k).all (isAt cells) = true) := hall
    have HBW : Hid (Below w.heap.size w wr) := HB.out.trans (hb.mono (Nat.le_of_lt hz))
    have HBR : Hid (Below w1.heap.size w1 wr) := hb
    have e0 := (hb.cell (p := ⟨w.heap.size, 0, none⟩) hz).trans c0
    have e1 := (hb.cell (p := ⟨w.heap.size, 1, none⟩) hz).trans c1
    have e2 := (hb.cell (p := ⟨w.heap.size, 2, none⟩) hz).trans c2
    clear hall hb c0 c1 c2
    by_cases hlt : k < c.kids.length
    · obtain ⟨bl, off, rfl, d0⟩ := (HK.out.next HBW.out).at k hlt
      by_cases hneg : c.kids[k] < 0
      · have HV : Hid (cellB cells defs c = false) := cellB_kid k hlt (isAt_lo hneg)
        go_wp2_with fail
        go_ret
        exact ⟨ret_bool HV.out.symm, HBW.out⟩
      by_cases hhi : c.kids[k] < cells
      · have HA2 : Hid ((c.kids.take (k + 1)).all (isAt cells) = true) := by rw [Hid, allI_take_succ _ _ _ hlt, HA.out, isAt_in (by omega) hhi]; rfl
        go_wp2_with fail
        go_roundw
        case rel => exact ⟨k + 1, by omega, by go_num, HA2.out, HBR.out⟩
        case measure => simp [intOf]; omega
      · have HV : Hid (cellB cells defs c = false) := cellB_kid k hlt (isAt_hi hhi)
        go_wp2_with fail
        go_ret
        exact ⟨ret_bool HV.out.symm, HBW.out⟩
    · have hke : c.kids.length = k := by omega
      have HV : Hid (cellB cells defs c = ownB c.op c.num 0 defs) := cellB_all HL.out (all_end HA.out hke)
      clear hke
      go_wp2_with fail
      refine (l1Own_calls c.op c.num 0 defs _ _).mono ?_
      rintro e w3 ⟨rfl, hb3⟩
      have HB3 : Hid (Below w.heap.size w w3) := HBW.out.trans (hb3.mono HBW.out.size)
      clear hb3
      go_wp2_with fail
      go_ret
      exact ⟨ret_bool HV.out.symm, HB3.out⟩

theorem l3Cell_calls (c : Ce) (cells defs : Int) (v : Value) (w : World) (hk : IIn w c.kids v) :
    Calls Tryz.prog 90 #[.agg #[.int .i64 c.op, .int .i64 c.num, v], .int .i64 cells, .int .i64 defs] w fun e w' => e = .returned (.bool (cellB cells defs c)) ∧ Below w.heap.size w w' := by
  by_cases h1 : c.op = 1
  · exact l3Cell_var c cells defs v w hk h1
  by_cases h11 : c.op = 11
  · by_cases hlen : (c.kids.length : Int) = cArity c.op
    · exact l3Cell_ind_ok c cells defs v w hk h11 hlen
    · exact l3Cell_ind_no c cells defs v w hk h11 hlen
  · by_cases hlen : (c.kids.length : Int) = cArity c.op
    · exact l3Cell_other_ok c cells defs v w hk h1 h11 hlen
    · exact l3Cell_other_no c cells defs v w hk h1 h11 hlen

theorem graphB_no {g : List Ce} {defs : Int} (h : ¬ ((g.length : Int) ≤ 400 ∧ 0 ≤ defs ∧ defs ≤ 6)) : graphB g defs = false := by unfold graphB; rw [decide_eq_false h]; rfl
theorem graphB_cellNo {g : List Ce} {defs : Int} (k : Nat) (hk : k < g.length) (h : cellB g.length defs g[k] = false) : graphB g defs = false := by
  unfold graphB; rw [allI_false_of _ _ k hk h]; simp
theorem graphB_yes {g : List Ce} {defs : Int} (h : (g.length : Int) ≤ 400 ∧ 0 ≤ defs ∧ defs ≤ 6) (ha : g.all (cellB g.length defs) = true) : graphB g defs = true := by
  unfold graphB; rw [decide_eq_true h, ha]; rfl

set_option maxHeartbeats 800000 in
theorem specGraph_calls (g : List Ce) (defs : Int) (v : Value) (w : World) (hk : CIn w g v) :
    Calls Tryz.prog 71 #[v, .int .i64 defs] w fun e w' => e = .returned (.bool (graphB g defs)) ∧ Below w.heap.size w w' := by
  have HK : Hid (CIn w g v) := hk
  obtain ⟨ad, cap, rfl, hl, hm, -⟩ := hk
  unfold maxLen at hm
  by_cases hlim : (g.length : Int) ≤ 400 ∧ 0 ≤ defs ∧ defs ≤ 6
  · have HLM : Hid ((g.length : Int) ≤ 400 ∧ 0 ≤ defs ∧ defs ≤ 6) := hlim
    obtain ⟨l1, l2, l3⟩ := hlim
    go_enter Tryz.func71, Tryz.ntmps71
    go_wp2_with fail
    go_loopw [5] (fun i wr => ∃ k : Nat, k ≤ g.length ∧ i = .int .i64 k ∧ (g.take k).all (cellB g.length defs) = true ∧ Below w.heap.size w wr) (fun i _ => g.length - (intOf i).toNat)
    case atStart => exact ⟨0, Nat.zero_le _, rfl, by simp, Below.refl _ _⟩
    case round =>
      obtain ⟨k, hk, rfl, hall, hb⟩ := hrel
      have HA : Hid ((g.take k).all (cellB g.length defs) = true) := hall
      have HB : Hid (Below w.heap.size w wr) := hb
      clear hall hb
      by_cases hlt : k < g.length
      · obtain ⟨bl, off, r, rfl, c0, c1, c2, -, -, hkk⟩ := (HK.out.next HB.out).at k hlt
        have HKK : Hid (IIn wr g[k].kids r) := hkk
        clear hkk
        go_wp2_with fail
        refine (l3Cell_calls g[k] _ defs r _ HKK.out).mono ?_
        rintro e w1 ⟨rfl, hb1⟩
        have HB1 : Hid (Below w.heap.size w w1) := HB.out.trans (hb1.mono HB.out.size)
        clear hb1 c0 c1 c2
        cases hc : cellB (g.length : Int) defs g[k] with
        | false =>
          have HV : Hid (graphB g defs = false) := graphB_cellNo k hlt hc
          clear hc
          go_wp2_with fail
          go_ret
          exact ⟨ret_bool HV.out.symm, HB1.out⟩
        | true =>
          have HA2 : Hid ((g.take (k + 1)).all (cellB g.length defs) = true) := by rw [Hid, allI_take_succ _ _ _ hlt, HA.out, hc]; rfl
          clear hc
          go_wp2_with fail
          go_roundw
          case rel => exact ⟨k + 1, by omega, by go_num, HA2.out, HB1.out⟩
          case measure => simp [intOf]; omega
      · have hke : g.length = k := by omega
        have HV : Hid (graphB g defs = true) := graphB_yes HLM.out (all_end HA.out hke)
        clear hke
        go_wp2_with fail
        go_ret
        exact ⟨ret_bool HV.out.symm, HB.out⟩
  · have HV : Hid (graphB g defs = false) := graphB_no hlim
    by_cases l1 : (g.length : Int) ≤ 400
    · by_cases l2 : 0 ≤ defs
      · have l3 : ¬ defs ≤ 6 := fun h => hlim ⟨l1, l2, h⟩
        clear hlim
        go_enter Tryz.func71, Tryz.ntmps71
        go_wp2_with fail
        go_ret
        exact ⟨ret_bool HV.out.symm, Below.refl _ _⟩
      · clear hlim
        go_enter Tryz.func71, Tryz.ntmps71
        go_wp2_with fail
        go_ret
        exact ⟨ret_bool HV.out.symm, Below.refl _ _⟩
    · clear hlim
      go_enter Tryz.func71, Tryz.ntmps71
      go_wp2_with fail
      go_ret
      exact ⟨ret_bool HV.out.symm, Below.refl _ _⟩
end Go.Proofs.YtiipcgnkfhjpeaaGreatDoor
/-
  ELEMENTS OF ROWS OUT OF A SET OF BLOCKS.
-/
namespace Go.Proofs.YtiipcgnkfhjpeaaGreatDoor
set_option linter.unusedVariables false
set_option linter.unusedSimpArgs false
open Go.RowKit

/-- element i of a graph out of a set of blocks -/
theorem CellsOn.atS {w : World} {S : Nat → Prop} {g : List Ce} {ad : Option Addr} {n cap : Nat} (h : CellsOn w S g (.slice ad n cap)) (i : Nat) (hi : i < g.length) :
    ∃ bl off c, ad = some ⟨bl, off, none⟩ ∧ S bl ∧ w.cell? ⟨bl, off + i * 3, none⟩ = some (.int .i64 g[i].op) ∧ w.cell? ⟨bl, off + i * 3 + 1, none⟩ = some (.int .i64 g[i].num) ∧ w.cell? ⟨bl, off + i * 3 + 2, none⟩ = some c ∧ I64 g[i].op ∧ I64 g[i].num ∧ IntsOn w S g[i].kids c := by
  obtain ⟨ad', cap', he, -, -, hr⟩ := h
  cases he
  rcases hr with rfl | ⟨bl, off, rfl, hs, r⟩
  · simp at hi
  obtain ⟨c, h1, h2, h3, i1, i2, h4⟩ := r i hi
  exact ⟨bl, off, c, rfl, hs, h1, h2, h3, i1, i2, h4⟩
theorem IntsOn.atS {w : World} {S : Nat → Prop} {xs : List Int} {ad : Option Addr} {n cap : Nat} (h : IntsOn w S xs (.slice ad n cap)) (i : Nat) (hi : i < xs.length) :
    ∃ bl off, ad = some ⟨bl, off, none⟩ ∧ S bl ∧ w.cell? ⟨bl, off + i, none⟩ = some (.int .i64 xs[i]) := by
  obtain ⟨ad', cap', he, -, -, hr⟩ := h
  cases he
  rcases hr with rfl | ⟨bl, off, rfl, hs, r⟩
  · simp at hi
  exact ⟨bl, off, rfl, hs, r i hi⟩
end Go.Proofs.YtiipcgnkfhjpeaaGreatDoor
/-
  THE BLOCK OF A ROW THAT A CALL OWNS; three cells of a box.
-/
namespace Go.Proofs.YtiipcgnkfhjpeaaGreatDoor
set_option linter.unusedVariables false
set_option linter.unusedSimpArgs false
open Go.RowKit

theorem own_some {w : World} {base n size : Nat} {e : TypeId} {v : Value} {xs : List Value} (h : w.ownsRow base e size v n xs) : ∀ k, v.ownBlock = some k → base ≤ k ∧ k < w.heap.size := by
  intro k hk
  rcases h.2 with ⟨rfl, -⟩ | ⟨g, cap, cur, rfl, hb, hh, -⟩
  · simp [Value.ownBlock] at hk
  · simp only [Value.ownBlock, Option.some.injEq] at hk
    subst hk
    exact ⟨hb, (Array.getElem?_eq_some_iff.1 hh).1⟩
theorem box_set {w : World} {B : Nat} {a b c : Value} {T : TypeId} (h : w.heap[B]? = some (.cells #[a, b, c] T)) (v : Value) : (w.setCell ⟨B, 2, none⟩ v).heap[B]? = some (.cells #[a, b, v] T) := by
  simp [World.setCell, Array.getElem?_modify, h]
end Go.Proofs.YtiipcgnkfhjpeaaGreatDoor
/-
  LISTS OF PLACES IN MEMORY: reading one; one more, at a step; other rows stay.
-/
namespace Go.Proofs.YtiipcgnkfhjpeaaGreatDoor
set_option linter.unusedVariables false
set_option linter.unusedSimpArgs false
open Go.RowKit

/-- a call has handed back these places, in a row of its own -/
def NewStk (ws : List Nat) (w : World) (e : Ending) (w' : World) : Prop := ∃ v, e = .returned v ∧ Stk w' w.heap.size ws v ∧ Below w.heap.size w w'
theorem pl_form {w : World} {rs : List Nat} {v : Value} (h : IIn w (plI rs) v) : ∃ ad cap, v = .slice ad rs.length cap ∧ rs.length ≤ cap ∧ cap ≤ maxLen := by
  obtain ⟨ad, cap, e, l1, l2, -⟩ := h
  rw [plI_length] at e l1
  exact ⟨ad, cap, e, l1, l2⟩
theorem pl_at {w : World} {rs : List Nat} {ad : Option Addr} {n cap : Nat} (h : IIn w (plI rs) (.slice ad n cap)) (k : Nat) (hk : k < rs.length) :
    ∃ bl off x, ad = some ⟨bl, off, none⟩ ∧ bl < w.heap.size ∧ rs[k]? = some x ∧ x ∈ rs ∧ w.cell? ⟨bl, off + k, none⟩ = some (.int .i64 (x : Int)) := by
  obtain ⟨bl, off, e, hc⟩ := h.at k (by rw [plI_length]; exact hk)
  refine ⟨bl, off, rs[k], e, cell_lt hc, List.getElem?_eq_getElem hk, List.getElem_mem hk, ?_⟩
  rw [hc]; simp [plI]
theorem Stk.pin {w : World} {lo : Nat} {ws : List Nat} {v : Value} (h : Stk w lo ws v) : IIn w (plI ws) v := h.row.inn
theorem Stk.lower {w : World} {lo lo' : Nat} {ws : List Nat} {v : Value} (h : Stk w lo ws v) (hl : lo' ≤ lo) : Stk w lo' ws v := by
  refine ⟨h.1, ?_⟩
  rcases h.2 with h | ⟨g, cap, cur, rfl, hg, r⟩
  · exact Or.inl h
  · exact Or.inr ⟨g, cap, cur, rfl, Nat.le_trans hl hg, r⟩
theorem Stk.next {w w' : World} {lo : Nat} {ws : List Nat} {v : Value} (h : Stk w lo ws v) (hb : Below w.heap.size w w') : Stk w' lo ws v := h.keep fun k _ hk => hb.block k hk
theorem kids_pl {w : World} {g : List Ce} {defs : Int} {a : Nat} {v : Value} (hg : graphB g defs = true) (ha : a < g.length) (h : IIn w g[a].kids v) : IIn w (plI (kidsN g a)) v := by
  rw [kids_back hg a ha] at h; exact h
/-- an empty row of places -/
theorem stk_zero {w : World} {lo b : Nat} (h : w.heap[b]? = some (.cells #[] 3)) (hb : lo ≤ b) : Stk w lo [] (.slice (some ⟨b, 0, none⟩) 0 0) :=
  ⟨rfl, Or.inr ⟨b, 0, #[], rfl, hb, h, Nat.le_refl _, by simp [maxLen], rfl, rfl⟩⟩
/-- append of places, at a step of a region that draws -/
theorem step_push {ops : Array Oper} {o : Oper} {a : Act} {w : World} {K : Act → World → Prop} {Q : Exit → Act → World → Prop} {E : Prop} (hgd : o.guard = none) (s x : Operand)
    (ho : o.op = .call { callee := .builtin .append, args := #[s, x], argTypes := #[88, 88] })
    (lo : Nat) (ws news : List Nat) (v xv : Value) (hs : a.eval s = v) (hst : Stk w lo ws v) (hxe : a.eval x = xv) {xs : List Int} (hx : IIn w xs xv) (hxs : xs = news.map fun (a : Nat) => (a : Int)) (hlo : lo ≤ w.heap.size) (hb : ws.length + news.length ≤ 1048576)
    (h : ∀ v' w', Stk w' lo (ws ++ news) v' → w.grownBy w' v.ownBlock → K (a.put o.dst v') w') : if Region.wanted o (yielded ops a.tmps) = true then Oper.wp Tryz.prog o a w K Q else E := by
  have hw : Region.wanted o (yielded ops a.tmps) = true := by simp [Region.wanted, hgd]
  rw [if_pos hw]
  obtain ⟨v', w', hrun, h2, h3⟩ := run_push w lo ws news v xv o.type hst hx hxs hlo hb
  unfold Oper.wp
  simp [execOp, ho, resolve, invoke, builtin, hs, hxe, hrun, Result.andThen]
  exact h _ _ h2 h3
theorem stk_len2 {w : World} {lo n : Nat} {ws : List Nat} {v : Value} (h : Stk w lo ([] ++ ws) v) (hn : ws.length = n) : ∃ ad cap, v = .slice ad n cap := by
  obtain ⟨a, c, e⟩ := h.len
  exact ⟨a, c, by rw [e, List.nil_append, hn]⟩
/-- a row of another type is not the row of places -/
theorem own_other {w : World} {lo : Nat} {ws : List Nat} {v : Value} {b n : Nat} {T : TypeId} {f : Nat → Value} (h : Stk w lo ws v) (hr : w.rowIs b T n f) (hT : T ≠ 3) : some b ≠ v.ownBlock := by
  intro e
  rcases h.2 with ⟨rfl, -⟩ | ⟨g, cap, cur, rfl, -, hh, -⟩
  · simp [Value.ownBlock] at e
  · simp only [Value.ownBlock, Option.some.injEq] at e
    subst e
    obtain ⟨C, hC, -⟩ := hr
    rw [hh] at hC
    simp only [Option.some.injEq, Obj.cells.injEq] at hC
    exact hT hC.2.1.symm
theorem Stk.mark {w : World} {lo : Nat} {ws : List Nat} {v : Value} {b n : Nat} {T : TypeId} {f : Nat → Value} (h : Stk w lo ws v) (hr : w.rowIs b T n f) (hT : T ≠ 3) (i : Nat) (u : Value) : Stk (w.setCell ⟨b, i, none⟩ u) lo ws v := by
  have hne := own_other h hr hT
  refine ⟨h.1, ?_⟩
  rcases h.2 with h' | ⟨g, cap, cur, rfl, hg, hh, r⟩
  · exact Or.inl h'
  · refine Or.inr ⟨g, cap, cur, rfl, hg, (Below.heap_setCell _ _ _ _ ?_).trans hh, r⟩
    intro e
    exact hne (by simp only [Value.ownBlock, Option.some.injEq]; exact e.symm)
/-- the world behind append: nothing older has changed -/
theorem push_below {w wb w5 : World} {B lo : Nat} {ws : List Nat} {v : Value} (hst : Stk wb lo ws v) (hb : Below B w wb) (hlo : B ≤ lo) (hg : wb.grownBy w5 v.ownBlock) (hB : B ≤ w.heap.size) : Below B w w5 :=
  ⟨by rw [hg.os]; exact hb.os, by rw [hg.tape]; exact hb.tape, by rw [hg.output]; exact hb.output, Nat.le_trans hb.size hg.size, fun k hk =>
    (hg.block k (by have := hb.size; omega) (fun e => by have := own_lo hst e; omega)).trans (hb.block k hk)⟩
/-- a row of another type stays behind append -/
theorem row_push {w w5 : World} {lo : Nat} {ws : List Nat} {v : Value} {b n : Nat} {T : TypeId} {f : Nat → Value} (hr : w.rowIs b T n f) (hst : Stk w lo ws v) (hg : w.grownBy w5 v.ownBlock) (hT : T ≠ 3) : w5.rowIs b T n f :=
  hr.of_block (hg.block b hr.lt (own_other hst hr hT))
end Go.Proofs.YtiipcgnkfhjpeaaGreatDoor
