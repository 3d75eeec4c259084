/-
  THE MODEL's GraphValid AND FollowInd (l3Cell, GraphValid, l3Follow, FollowInd); nothing that was there is changed.
-/
import Derived.Test.YtjpjikfmdaejeaaMgExactTidyGraph1
import Derived.Test.YtjpjikfmdaejeaaProg
import Derived.Deep.RegionLaw
import Derived.Deep.RegionLawGrows
import Derived.Deep.DeepMust
import Derived.Deep.DeepCutAuto
import Derived.Deep.RegionWith
import Derived.Deep.RegionHeld3
namespace Go.Proofs.Ytjpjikfmdaejeaa
set_option linter.unusedVariables false
set_option linter.unusedSimpArgs false
open Go.RowKit

theorem cellB_var {cells defs : Int} {c : Ce} (h : c.op = 1) : cellB cells defs c = false := by
  unfold cellB fitsB; rw [h, ownB_var]; simp
theorem cellB_len {cells defs : Int} {c : Ce} (h : ¬ (c.kids.length : Int) = cArity c.op) : cellB cells defs c = false := by
  unfold cellB fitsB; rw [decide_eq_false h]; simp
theorem cellB_kid {cells defs : Int} {c : Ce} (k : Nat) (hk : k < c.kids.length) (h : isAt cells c.kids[k] = false) : cellB cells defs c = false := by
  unfold cellB; rw [allI_false_of _ _ k hk h]; simp
theorem cellB_all {cells defs : Int} {c : Ce} (h : (c.kids.length : Int) = cArity c.op) (ha : c.kids.all (isAt cells) = true) : cellB cells defs c = ownB c.op c.num 0 defs := by
  unfold cellB fitsB; rw [decide_eq_true h, ha]; simp
theorem all_end {α : Type} {p : α → Bool} {l : List α} {k : Nat} (h : (l.take k).all p = true) (e : l.length = k) : l.all p = true := by
  subst e; rwa [List.take_length] at h
theorem isAt_lo {cells k : Int} (h : k < 0) : isAt cells k = false := by unfold isAt; rw [decide_eq_false]; omega
theorem isAt_hi {cells k : Int} (h : ¬ k < cells) : isAt cells k = false := by unfold isAt; rw [decide_eq_false]; omega
theorem isAt_in {cells k : Int} (h0 : 0 ≤ k) (h : k < cells) : isAt cells k = true := by unfold isAt; rw [decide_eq_true]; exact ⟨h0, h⟩

set_option maxHeartbeats 800000 in
theorem l3Cell_var (c : Ce) (cells defs : Int) (v : Value) (w : World) (hk : IIn w c.kids v) (h1 : c.op = 1) :
    Calls Try.prog 49 #[.agg #[.int .i64 c.op, .int .i64 c.num, v], .int .i64 cells, .int .i64 defs] w fun e w' => e = .returned (.bool (cellB cells defs c)) ∧ Below w.heap.size w w' := by
  have HK : Hid (IIn w c.kids v) := hk
  obtain ⟨ad, cap, rfl, hl, hm, -⟩ := hk
  unfold maxLen at hm
  have HV : Hid (cellB cells defs c = false) := cellB_var h1
  have t1 : (c.op == 1) = true := by simpa using h1
  have t11 : (c.op == 11) = false := by simp [h1]
  clear h1
  go_enter Try.func49, Try.ntmps49
  go_wp2_with fail
  refine (l1Kids_below c.op _).mono ?_
  rintro e w1 ⟨rfl, hb⟩
  have HB : Hid (Below w.heap.size w w1) := (box_below _ _).trans (hb.mono (by rw [Deep.nblk_alloc]; omega))
  have hz : w.heap.size < w1.heap.size := by have := hb.size; rw [Deep.nblk_alloc] at this; omega
  have c0 := (hb.cell (p := ⟨w.heap.size, 0, none⟩) (by rw [Deep.nblk_alloc]; exact Nat.lt_succ_self _)).trans (box_cell w #[.int .i64 c.op, .int .i64 c.num, .slice ad c.kids.length cap] 45 0 _ rfl)
  have c1 := (hb.cell (p := ⟨w.heap.size, 1, none⟩) (by rw [Deep.nblk_alloc]; exact Nat.lt_succ_self _)).trans (box_cell w #[.int .i64 c.op, .int .i64 c.num, .slice ad c.kids.length cap] 45 1 _ rfl)
  have c2 := (hb.cell (p := ⟨w.heap.size, 2, none⟩) (by rw [Deep.nblk_alloc]; exact Nat.lt_succ_self _)).trans (box_cell w #[.int .i64 c.op, .int .i64 c.num, .slice ad c.kids.length cap] 45 2 _ rfl)
  clear hb
  go_wp2_with fail
  go_ret
  exact ⟨ret_bool HV.out.symm, HB.out⟩

set_option maxHeartbeats 800000 in
theorem l3Cell_ind_no (c : Ce) (cells defs : Int) (v : Value) (w : World) (hk : IIn w c.kids v) (h1 : c.op = 11) (hlen : ¬ (c.kids.length : Int) = cArity c.op) :
    Calls Try.prog 49 #[.agg #[.int .i64 c.op, .int .i64 c.num, v], .int .i64 cells, .int .i64 defs] w fun e w' => e = .returned (.bool (cellB cells defs c)) ∧ Below w.heap.size w w' := by
  have HK : Hid (IIn w c.kids v) := hk
  obtain ⟨ad, cap, rfl, hl, hm, -⟩ := hk
  unfold maxLen at hm
  have t1 : (c.op == 1) = false := by simp [h1]
  have t11 : (c.op == 11) = true := by simpa using h1
  have ha : cArity c.op = 1 := by unfold cArity; rw [if_pos h1]
  have HV : Hid (cellB cells defs c = false) := cellB_len hlen
  rw [ha] at hlen
  have t2 : ((c.kids.length : Int) != 1) = true := by simpa using hlen
  clear h1 hlen ha
  go_enter Try.func49, Try.ntmps49
  go_wp2_with fail
  refine (l1Kids_below c.op _).mono ?_
  rintro e w1 ⟨rfl, hb⟩
  have HB : Hid (Below w.heap.size w w1) := (box_below _ _).trans (hb.mono (by rw [Deep.nblk_alloc]; omega))
  have hz : w.heap.size < w1.heap.size := by have := hb.size; rw [Deep.nblk_alloc] at this; omega
  have c0 := (hb.cell (p := ⟨w.heap.size, 0, none⟩) (by rw [Deep.nblk_alloc]; exact Nat.lt_succ_self _)).trans (box_cell w #[.int .i64 c.op, .int .i64 c.num, .slice ad c.kids.length cap] 45 0 _ rfl)
  have c1 := (hb.cell (p := ⟨w.heap.size, 1, none⟩) (by rw [Deep.nblk_alloc]; exact Nat.lt_succ_self _)).trans (box_cell w #[.int .i64 c.op, .int .i64 c.num, .slice ad c.kids.length cap] 45 1 _ rfl)
  have c2 := (hb.cell (p := ⟨w.heap.size, 2, none⟩) (by rw [Deep.nblk_alloc]; exact Nat.lt_succ_self _)).trans (box_cell w #[.int .i64 c.op, .int .i64 c.num, .slice ad c.kids.length cap] 45 2 _ rfl)
  clear hb
  go_wp2_with fail
  go_ret
  exact ⟨ret_bool HV.out.symm, HB.out⟩

set_option maxHeartbeats 800000 in
theorem l3Cell_ind_ok (c : Ce) (cells defs : Int) (v : Value) (w : World) (hk : IIn w c.kids v) (h1 : c.op = 11) (hlen : (c.kids.length : Int) = cArity c.op) :
    Calls Try.prog 49 #[.agg #[.int .i64 c.op, .int .i64 c.num, v], .int .i64 cells, .int .i64 defs] w fun e w' => e = .returned (.bool (cellB cells defs c)) ∧ Below w.heap.size w w' := by
  have HK : Hid (IIn w c.kids v) := hk
  obtain ⟨ad, cap, rfl, hl, hm, -⟩ := hk
  unfold maxLen at hm
  have t1 : (c.op == 1) = false := by simp [h1]
  have t11 : (c.op == 11) = true := by simpa using h1
  have ha : cArity c.op = 1 := by unfold cArity; rw [if_pos h1]
  have t2 : ((c.kids.length : Int) != 1) = false := by rw [ha] at hlen; simpa using hlen
  clear h1 ha
  go_enter Try.func49, Try.ntmps49
  go_wp2_with fail
  refine (l1Kids_below c.op _).mono ?_
  rintro e w1 ⟨rfl, hb⟩
  have HB : Hid (Below w.heap.size w w1) := (box_below _ _).trans (hb.mono (by rw [Deep.nblk_alloc]; omega))
  have hz : w.heap.size < w1.heap.size := by have := hb.size; rw [Deep.nblk_alloc] at this; omega
  have c0 := (hb.cell (p := ⟨w.heap.size, 0, none⟩) (by rw [Deep.nblk_alloc]; exact Nat.lt_succ_self _)).trans (box_cell w #[.int .i64 c.op, .int .i64 c.num, .slice ad c.kids.length cap] 45 0 _ rfl)
  have c1 := (hb.cell (p := ⟨w.heap.size, 1, none⟩) (by rw [Deep.nblk_alloc]; exact Nat.lt_succ_self _)).trans (box_cell w #[.int .i64 c.op, .int .i64 c.num, .slice ad c.kids.length cap] 45 1 _ rfl)
  have c2 := (hb.cell (p := ⟨w.heap.size, 2, none⟩) (by rw [Deep.nblk_alloc]; exact Nat.lt_succ_self _)).trans (box_cell w #[.int .i64 c.op, .int .i64 c.num, .slice ad c.kids.length cap] 45 2 _ rfl)
  clear hb
  have HL : Hid ((c.kids.length : Int) = cArity c.op) := hlen
  clear hlen
  go_wp2_with fail
  go_loopw [8] (fun i wr => ∃ k : Nat, k ≤ c.kids.length ∧ i = .int .i64 k ∧ (c.kids.take k).all (isAt cells) = true ∧ Below w1.heap.size w1 wr) (fun i _ => c.kids.length - (intOf i).toNat)
  case atStart => exact ⟨0, Nat.zero_le _, rfl, by simp, Below.refl _ _⟩
  case round =>
    obtain ⟨k, hk, rfl, hall, hb⟩ := hrel
    have HA : Hid ((c.kids.take k).all (isAt cells) = true) := hall
    have HBW : Hid (Below w.heap.size w wr) := HB.out.trans (hb.mono (Nat.le_of_lt hz))
    have HBR : Hid (Below w1.heap.size w1 wr) := hb
    have e0 := (hb.cell (p := ⟨w.heap.size, 0, none⟩) hz).trans c0
    have e1 := (hb.cell (p := ⟨w.heap.size, 1, none⟩) hz).trans c1
    have e2 := (hb.cell (p := ⟨w.heap.size, 2, none⟩) hz).trans c2
    clear hall hb c0 c1 c2
    by_cases hlt : k < c.kids.length
    · obtain ⟨bl, off, rfl, d0⟩ := (HK.out.next HBW.out).at k hlt
      by_cases hneg : c.kids[k] < 0
      · have HV : Hid (cellB cells defs c = false) := cellB_kid k hlt (isAt_lo hneg)
        go_wp2_with fail
        go_ret
        exact ⟨ret_bool HV.out.symm, HBW.out⟩
      by_cases hhi : c.kids[k] < cells
      · have HA2 : Hid ((c.kids.take (k + 1)).all (isAt cells) = true) := by rw [Hid, allI_take_succ _ _ _ hlt, HA.out, isAt_in (by omega) hhi]; rfl
        go_wp2_with fail
        go_roundw
        case rel => exact ⟨k + 1, by omega, by go_num, HA2.out, HBR.out⟩
        case measure => simp [intOf]; omega
      · have HV : Hid (cellB cells defs c = false) := cellB_kid k hlt (isAt_hi hhi)
        go_wp2_with fail
        go_ret
        exact ⟨ret_bool HV.out.symm, HBW.out⟩
    · have hke : c.kids.length = k := by omega
      have HV : Hid (cellB cells defs c = ownB c.op c.num 0 defs) := cellB_all HL.out (all_end HA.out hke)
      clear hke
      go_wp2_with fail
      refine (l1Own_calls c.op c.num 0 defs _ _).mono ?_
      rintro e w3 ⟨rfl, hb3⟩
      have HB3 : Hid (Below w.heap.size w w3) := HBW.out.trans (hb3.mono HBW.out.size)
      clear hb3
      go_wp2_with fail
      go_ret
      exact ⟨ret_bool HV.out.symm, HB3.out⟩

set_option maxHeartbeats 800000 in
theorem l3Cell_other_no (c : Ce) (cells defs : Int) (v : Value) (w : World) (hk : IIn w c.kids v) (h1 : c.op ≠ 1) (h11 : c.op ≠ 11) (hlen : ¬ (c.kids.length : Int) = cArity c.op) :
    Calls Try.prog 49 #[.agg #[.int .i64 c.op, .int .i64 c.num, v], .int .i64 cells, .int .i64 defs] w fun e w' => e = .returned (.bool (cellB cells defs c)) ∧ Below w.heap.size w w' := by
  have HK : Hid (IIn w c.kids v) := hk
  obtain ⟨ad, cap, rfl, hl, hm, -⟩ := hk
  unfold maxLen at hm
  have t1 : (c.op == 1) = false := by simpa using h1
  have t11 : (c.op == 11) = false := by simpa using h11
  have ha : cArity c.op = arity c.op := by unfold cArity; rw [if_neg h11]
  have HV : Hid (cellB cells defs c = false) := cellB_len hlen
  rw [ha] at hlen
  have t2 : ((c.kids.length : Int) != arity c.op) = true := by simpa using hlen
  clear h1 h11 hlen ha
  go_enter Try.func49, Try.ntmps49
  go_wp2_with fail
  refine (l1Kids_below c.op _).mono ?_
  rintro e w1 ⟨rfl, hb⟩
  have HB : Hid (Below w.heap.size w w1) := (box_below _ _).trans (hb.mono (by rw [Deep.nblk_alloc]; omega))
  have hz : w.heap.size < w1.heap.size := by have := hb.size; rw [Deep.nblk_alloc] at this; omega
  have c0 := (hb.cell (p := ⟨w.heap.size, 0, none⟩) (by rw [Deep.nblk_alloc]; exact Nat.lt_succ_self _)).trans (box_cell w #[.int .i64 c.op, .int .i64 c.num, .slice ad c.kids.length cap] 45 0 _ rfl)
  have c1 := (hb.cell (p := ⟨w.heap.size, 1, none⟩) (by rw [Deep.nblk_alloc]; exact Nat.lt_succ_self _)).trans (box_cell w #[.int .i64 c.op, .int .i64 c.num, .slice ad c.kids.length cap] 45 1 _ rfl)
  have c2 := (hb.cell (p := ⟨w.heap.size, 2, none⟩) (by rw [Deep.nblk_alloc]; exact Nat.lt_succ_self _)).trans (box_cell w #[.int .i64 c.op, .int .i64 c.num, .slice ad c.kids.length cap] 45 2 _ rfl)
  clear hb
  go_wp2_with fail
  go_ret
  exact ⟨ret_bool HV.out.symm, HB.out⟩

set_option maxHeartbeats 800000 in
theorem l3Cell_other_ok (c : Ce) (cells defs : Int) (v : Value) (w : World) (hk : IIn w c.kids v) (h1 : c.op ≠ 1) (h11 : c.op ≠ 11) (hlen : (c.kids.length : Int) = cArity c.op) :
    Calls Try.prog 49 #[.agg #[.int .i64 c.op, .int .i64 c.num, v], .int .i64 cells, .int .i64 defs] w fun e w' => e = .returned (.bool (cellB cells defs c)) ∧ Below w.heap.size w w' := by
  have HK : Hid (IIn w c.kids v) := hk
  obtain ⟨ad, cap, rfl, hl, hm, -⟩ := hk
  unfold maxLen at hm
  have t1 : (c.op == 1) = false := by simpa using h1
  have t11 : (c.op == 11) = false := by simpa using h11
  have ha : cArity c.op = arity c.op := by unfold cArity; rw [if_neg h11]
  have t2 : ((c.kids.length : Int) != arity c.op) = false := by rw [ha] at hlen; simpa using hlen
  clear h1 h11 ha
  go_enter Try.func49, Try.ntmps49
  go_wp2_with fail
  refine (l1Kids_below c.op _).mono ?_
  rintro e w1 ⟨rfl, hb⟩
  have HB : Hid (Below w.heap.size w w1) := (box_below _ _).trans (hb.mono (by rw [Deep.nblk_alloc]; omega))
  have hz : w.heap.size < w1.heap.size := by have := hb.size; rw [Deep.nblk_alloc] at this; omega
  have c0 := (hb.cell (p := ⟨w.heap.size, 0, none⟩) (by rw [Deep.nblk_alloc]; exact Nat.lt_succ_self _)).trans (box_cell w #[.int .i64 c.op, .int .i64 c.num, .slice ad c.kids.length cap] 45 0 _ rfl)
  have c1 := (hb.cell (p := ⟨w.heap.size, 1, none⟩) (by rw [Deep.nblk_alloc]; exact Nat.lt_succ_self _)).trans (box_cell w #[.int .i64 c.op, .int .i64 c.num, .slice ad c.kids.length cap] 45 1 _ rfl)
  have c2 := (hb.cell (p := ⟨w.heap.size, 2, none⟩) (by rw [Deep.nblk_alloc]; exact Nat.lt_succ_self _)).trans (box_cell w #[.int .i64 c.op, .int .i64 c.num, .slice ad c.kids.length cap] 45 2 _ rfl)
  clear hb
  have HL : Hid ((c.kids.length : Int) = cArity c.op) := hlen
  clear hlen
  go_wp2_with fail
  go_loopw [8] (fun i wr => ∃ k : Nat, k ≤ c.kids.length ∧ i = .int .i64 k ∧ (c.kids.take k).all (isAt cells) = true ∧ Below w1.heap.size w1 wr) (fun i _ => c.kids.length - (intOf i).toNat)
  case atStart => exact ⟨0, Nat.zero_le _, rfl, by simp, Below.refl _ _⟩
  case round =>
    obtain ⟨k, hk, rfl, hall, hb⟩ := hrel
    have HA : Hid ((c.kids.take k).all (isAt cells) = true) := hall
    have HBW : Hid (Below w.heap.size w wr) := HB.out.trans (hb.mono (Nat.le_of_lt hz))
    have HBR : Hid (Below w1.heap.size w1 wr) := hb
    have e0 := (hb.cell (p := ⟨w.heap.size, 0, none⟩) hz).trans c0
    have e1 := (hb.cell (p := ⟨w.heap.size, 1, none⟩) hz).trans c1
    have e2 := (hb.cell (p := ⟨w.heap.size, 2, none⟩) hz).trans c2
    clear hall hb c0 c1 c2
    by_cases hlt : k < c.kids.length
    · obtain ⟨bl, off, rfl, d0⟩ := (HK.out.next HBW.out).at k hlt
      by_cases hneg : c.kids[k] < 0
      · have HV : Hid (cellB cells defs c = false) := cellB_kid k hlt (isAt_lo hneg)
        go_wp2_with fail
        go_ret
        exact ⟨ret_bool HV.out.symm, HBW.out⟩
      by_cases hhi : c.kids[k] < cells
      · have HA2 : Hid ((c.kids.take (k + 1)).all (isAt cells) = true) := by rw [Hid, allI_take_succ _ _ _ hlt, HA.out, isAt_in (by omega) hhi]; rfl
        go_wp2_with fail
        go_roundw
        case rel => exact ⟨k + 1, by omega, by go_num, HA2.out, HBR.out⟩
        case measure => simp [intOf]; omega
      · have HV : Hid (cellB cells defs c = false) := cellB_kid k hlt (isAt_hi hhi)
        go_wp2_with fail
        go_ret
        exact ⟨ret_bool HV.out.symm, HBW.out⟩
    · have hke : c.kids.length = k := by omega
      have HV : Hid (cellB cells defs c = ownB c.op c.num 0 defs) := cellB_all HL.out (all_end HA.out hke)
      clear hke
      go_wp2_with fail
      refine (l1Own_calls c.op c.num 0 defs _ _).mono ?_
      rintro e w3 ⟨rfl, hb3⟩
      have HB3 : Hid (Below w.heap.size w w3) := HBW.out.trans (hb3.mono HBW.out.size)
      clear hb3
      go_wp2_with fail
      go_ret
      exact ⟨ret_bool HV.out.symm, HB3.out⟩

theorem l3Cell_calls (c : Ce) (cells defs : Int) (v : Value) (w : World) (hk : IIn w c.kids v) :
    Calls Try.prog 49 #[.agg #[.int .i64 c.op, .int .i64 c.num, v], .int .i64 cells, .int .i64 defs] w fun e w' => e = .returned (.bool (cellB cells defs c)) ∧ Below w.heap.size w w' := by
  by_cases h1 : c.op = 1
  · exact l3Cell_var c cells defs v w hk h1
  by_cases h11 : c.op = 11
  · by_cases hlen : (c.kids.length : Int) = cArity c.op
    · exact l3Cell_ind_ok c cells defs v w hk h11 hlen
    · exact l3Cell_ind_no c cells defs v w hk h11 hlen
  · by_cases hlen : (c.kids.length : Int) = cArity c.op
    · exact l3Cell_other_ok c cells defs v w hk h1 h11 hlen
    · exact l3Cell_other_no c cells defs v w hk h1 h11 hlen

theorem graphB_no {g : List Ce} {defs : Int} (h : ¬ ((g.length : Int) ≤ 400 ∧ 0 ≤ defs ∧ defs ≤ 6)) : graphB g defs = false := by unfold graphB; rw [decide_eq_false h]; rfl
theorem graphB_cellNo {g : List Ce} {defs : Int} (k : Nat) (hk : k < g.length) (h : cellB g.length defs g[k] = false) : graphB g defs = false := by
  unfold graphB; rw [allI_false_of _ _ k hk h]; simp
theorem graphB_yes {g : List Ce} {defs : Int} (h : (g.length : Int) ≤ 400 ∧ 0 ≤ defs ∧ defs ≤ 6) (ha : g.all (cellB g.length defs) = true) : graphB g defs = true := by
  unfold graphB; rw [decide_eq_true h, ha]; rfl

set_option maxHeartbeats 800000 in
theorem specGraph_calls (g : List Ce) (defs : Int) (v : Value) (w : World) (hk : CIn w g v) :
    Calls Try.prog 37 #[v, .int .i64 defs] w fun e w' => e = .returned (.bool (graphB g defs)) ∧ Below w.heap.size w w' := by
  have HK : Hid (CIn w g v) := hk
  obtain ⟨ad, cap, rfl, hl, hm, -⟩ := hk
  unfold maxLen at hm
  by_cases hlim : (g.length : Int) ≤ 400 ∧ 0 ≤ defs ∧ defs ≤ 6
  · have HLM : Hid ((g.length : Int) ≤ 400 ∧ 0 ≤ defs ∧ defs ≤ 6) := hlim
    obtain ⟨l1, l2, l3⟩ := hlim
    go_enter Try.func37, Try.ntmps37
    go_wp2_with fail
    go_loopw [5] (fun i wr => ∃ k : Nat, k ≤ g.length ∧ i = .int .i64 k ∧ (g.take k).all (cellB g.length defs) = true ∧ Below w.heap.size w wr) (fun i _ => g.length - (intOf i).toNat)
    case atStart => exact ⟨0, Nat.zero_le _, rfl, by simp, Below.refl _ _⟩
    case round =>
      obtain ⟨k, hk, rfl, hall, hb⟩ := hrel
      have HA : Hid ((g.take k).all (cellB g.length defs) = true) := hall
      have HB : Hid (Below w.heap.size w wr) := hb
      clear hall hb
      by_cases hlt : k < g.length
      · obtain ⟨bl, off, r, rfl, c0, c1, c2, -, -, hkk⟩ := (HK.out.next HB.out).at k hlt
        have HKK : Hid (IIn wr g[k].kids r) := hkk
        clear hkk
        go_wp2_with fail
        refine (l3Cell_calls g[k] _ defs r _ HKK.out).mono ?_
        rintro e w1 ⟨rfl, hb1⟩
        have HB1 : Hid (Below w.heap.size w w1) := HB.out.trans (hb1.mono HB.out.size)
        clear hb1 c0 c1 c2
        cases hc : cellB (g.length : Int) defs g[k] with
        | false =>
          have HV : Hid (graphB g defs = false) := graphB_cellNo k hlt hc
          clear hc
          go_wp2_with fail
          go_ret
          exact ⟨ret_bool HV.out.symm, HB1.out⟩
        | true =>
          have HA2 : Hid ((g.take (k + 1)).all (cellB g.length defs) = true) := by rw [Hid, allI_take_succ _ _ _ hlt, HA.out, hc]; rfl
          clear hc
          go_wp2_with fail
          go_roundw
          case rel => exact ⟨k + 1, by omega, by go_num, HA2.out, HB1.out⟩
          case measure => simp [intOf]; omega
      · have hke : g.length = k := by omega
        have HV : Hid (graphB g defs = true) := graphB_yes HLM.out (all_end HA.out hke)
        clear hke
        go_wp2_with fail
        go_ret
        exact ⟨ret_bool HV.out.symm, HB.out⟩
  · have HV : Hid (graphB g defs = false) := graphB_no hlim
    by_cases l1 : (g.length : Int) ≤ 400
    · by_cases l2 : 0 ≤ defs
      · have l3 : ¬ defs ≤ 6 := fun h => hlim ⟨l1, l2, h⟩
        clear hlim
        go_enter Try.func37, Try.ntmps37
        go_wp2_with fail
        go_ret
        exact ⟨ret_bool HV.out.symm, Below.refl _ _⟩
      · clear hlim
        go_enter Try.func37, Try.ntmps37
        go_wp2_with fail
        go_ret
        exact ⟨ret_bool HV.out.symm, Below.refl _ _⟩
    · clear hlim
      go_enter Try.func37, Try.ntmps37
      go_wp2_with fail
      go_ret
      exact ⟨ret_bool HV.out.symm, Below.refl _ _⟩
end Go.Proofs.Ytjpjikfmdaejeaa
/-
  ELEMENTS OF ROWS OUT OF A SET OF BLOCKS.
-/
namespace Go.Proofs.Ytjpjikfmdaejeaa
set_option linter.unusedVariables false
set_option linter.unusedSimpArgs false
open Go.RowKit

/-- element i of a graph out of a set of blocks -/
theorem CellsOn.atS {w : World} {S : Nat → Prop} {g : List Ce} {ad : Option Addr} {n cap : Nat} (h : CellsOn w S g (.slice ad n cap)) (i : Nat) (hi : i < g.length) :
    ∃ bl off c, ad = some ⟨bl, off, none⟩ ∧ S bl ∧ w.cell? ⟨bl, off + i * 3, none⟩ = some (.int .i64 g[i].op) ∧ w.cell? ⟨bl, off + i * 3 + 1, none⟩ = some (.int .i64 g[i].num) ∧ w.cell? ⟨bl, off + i * 3 + 2, none⟩ = some c ∧ I64 g[i].op ∧ I64 g[i].num ∧ IntsOn w S g[i].kids c := by
  obtain ⟨ad', cap', he, -, -, hr⟩ := h
  cases he
  rcases hr with rfl | ⟨bl, off, rfl, hs, r⟩
  · simp at hi
  obtain ⟨c, h1, h2, h3, i1, i2, h4⟩ := r i hi
  exact ⟨bl, off, c, rfl, hs, h1, h2, h3, i1, i2, h4⟩
theorem IntsOn.atS {w : World} {S : Nat → Prop} {xs : List Int} {ad : Option Addr} {n cap : Nat} (h : IntsOn w S xs (.slice ad n cap)) (i : Nat) (hi : i < xs.length) :
    ∃ bl off, ad = some ⟨bl, off, none⟩ ∧ S bl ∧ w.cell? ⟨bl, off + i, none⟩ = some (.int .i64 xs[i]) := by
  obtain ⟨ad', cap', he, -, -, hr⟩ := h
  cases he
  rcases hr with rfl | ⟨bl, off, rfl, hs, r⟩
  · simp at hi
  exact ⟨bl, off, rfl, hs, r i hi⟩
end Go.Proofs.Ytjpjikfmdaejeaa
/-
  ROWS THAT A CALL OWNS: append, with where the new row lies.
-/
namespace Go.Proofs.Ytjpjikfmdaejeaa
set_option linter.unusedVariables false
set_option linter.unusedSimpArgs false
open Go.RowKit

theorem cell_of_blk {w : World} {b : Nat} {C : Array Value} {T : TypeId} (h : w.heap[b]? = some (.cells C T)) (i : Nat) (v : Value) (hv : C[i]? = some v) : w.cell? ⟨b, i, none⟩ = some v := by
  simp only [World.cell?, h]; exact hv
theorem frz_of_blk {w : World} {b : Nat} {C : Array Value} {T : TypeId} (h : w.heap[b]? = some (.cells C T)) (i : Nat) : w.frozen? ⟨b, i, none⟩ = false := by
  simp [World.frozen?, h]
theorem own_keep {w w' : World} {base n size : Nat} {e : TypeId} {v : Value} {xs : List Value} (h : w.ownsRow base e size v n xs) (hk : ∀ k, base ≤ k → k < w.heap.size → w'.heap[k]? = w.heap[k]?) : w'.ownsRow base e size v n xs := by
  refine ⟨h.1, ?_⟩
  rcases h.2 with h | ⟨g, cap, cur, rfl, hg, hh, r⟩
  · exact Or.inl h
  · exact Or.inr ⟨g, cap, cur, rfl, hg, (hk g hg (Array.getElem?_eq_some_iff.1 hh).1).trans hh, r⟩
theorem own_block {w : World} {base n size : Nat} {e : TypeId} {v : Value} {xs : List Value} (h : w.ownsRow base e size v n xs) {k : Nat} (hk : some k = v.ownBlock) : base ≤ k := by
  rcases h.2 with ⟨rfl, -⟩ | ⟨g, cap, cur, rfl, hg, -⟩
  · simp [Value.ownBlock] at hk
  · simp only [Value.ownBlock, Option.some.injEq] at hk
    omega
/-- a parameter's box behind a call -/
theorem box_after {w w1 : World} {a b c : Value} {T : TypeId} (hb : Below (w.alloc (.cells #[a, b, c] T)).heap.size (w.alloc (.cells #[a, b, c] T)) w1) :
    w1.cell? ⟨w.heap.size, 0, none⟩ = some a ∧ w1.cell? ⟨w.heap.size, 1, none⟩ = some b ∧ w1.cell? ⟨w.heap.size, 2, none⟩ = some c ∧ w.heap.size < w1.heap.size ∧ Below w.heap.size w w1 := by
  have hz : w.heap.size < (w.alloc (.cells #[a, b, c] T)).heap.size := by rw [Deep.nblk_alloc]; omega
  refine ⟨(hb.cell (p := ⟨w.heap.size, 0, none⟩) hz).trans (box_cell w #[a, b, c] T 0 _ rfl), (hb.cell (p := ⟨w.heap.size, 1, none⟩) hz).trans (box_cell w #[a, b, c] T 1 _ rfl), (hb.cell (p := ⟨w.heap.size, 2, none⟩) hz).trans (box_cell w #[a, b, c] T 2 _ rfl), Nat.lt_of_lt_of_le hz hb.size, (box_below _ _).trans (hb.mono (Nat.le_of_lt hz))⟩
/-- append to an owned row: it stays in its block, or lies in a new one -/
theorem run_append_where {P : Program} (w : World) (base : Nat) (t ty e : TypeId) (i : TypeInfo) (z : Value) (size bytes : Nat) (ht : P.underlying t = some (.slice e)) (hi : P.info? e = some i) (hz : i.zero = some z)
    (hsize : i.size = size) (hby : i.bytes = bytes) (hzs : z.cells.size = size) (hsz : 0 < size)
    (v : Value) (n : Nat) (xs : List Value) (hown : w.ownsRow base e size v n xs)
    (a : Addr) (m c : Nat) (news : List Value) (hl : news.length = m * size) (hnews : ∀ j u, news[j]? = some u → w.cell? (a.add j) = some u) (h1 : ∀ u ∈ news, u.oneCell' = true)
    (h63 : n + m ≤ maxLen) (hbytes : (n + m) * bytes ≤ 140737488355328) (hbase : base ≤ w.heap.size) (hm : 0 < m) :
    ∃ v' w', (Builtin.append_ #[t, t] ty #[v, .slice (some a) m c]).run P w = .ok v' w' ∧ w'.ownsRow base e size v' (n + m) (xs ++ news) ∧ w.grownBy w' v.ownBlock ∧
      (v'.ownBlock = v.ownBlock ∨ ∃ g, v'.ownBlock = some g ∧ w.heap.size ≤ g) := by
  obtain ⟨v', w', hrun, hown', hgr, -⟩ := run_append_own (P := P) w base t ty e i z size bytes ht hi hz hsize hby hzs hsz v n xs hown a m c news hl hnews h1 h63 hbytes hbase
  refine ⟨v', w', hrun, hown', hgr, ?_⟩
  have hform := hown
  rcases hform.2 with ⟨rfl, rfl⟩ | ⟨g, cap, cur, rfl, hb, hh, hn, hc, hs, htk⟩
  · right
    obtain rfl : xs = [] := List.eq_nil_of_length_eq_zero (by simpa using hform.1)
    obtain ⟨v2, w2, hrun2, hown2, -, -⟩ := run_append_own (P := P) w w.heap.size t ty e i z size bytes ht hi hz hsize hby hzs hsz (.slice none 0 0) 0 [] (World.ownsRow_nil w _ e size) a m c news hl hnews h1 h63 hbytes (Nat.le_refl _)
    rw [hrun] at hrun2
    cases hrun2
    rcases hown2.2 with ⟨rfl, h0⟩ | ⟨g, cap, cur, rfl, hb, _⟩
    · omega
    · exact ⟨g, rfl, hb⟩
  · by_cases hroom : n + m ≤ cap
    · left
      have hcell : ∀ j, j < news.length → w.cell? ⟨g, 0 + n * i.size + j, none⟩ = cur[n * size + j]? := fun j hj => by
        rw [Nat.zero_add, hsize]; simp [World.cell?, hh]
      have hin : ∀ j, j < news.length → n * size + j < cur.size := fun j hj => by
        have h2 : (n + m) * size ≤ cap * size := Nat.mul_le_mul_right _ hroom
        rw [Nat.add_mul] at h2
        omega
      have hrun2 := run_append_room_cells (P := P) w t ty e i ht hi g 0 n cap a m c news (by rw [hsize]; exact hl) hnews h1 hroom
        (fun j hj => by rw [hcell j hj, Array.getElem?_eq_getElem (hin j hj)]; rfl) (fun j hj => by simp [World.frozen?, hh])
      rw [hrun] at hrun2
      cases hrun2
      rfl
    · right
      obtain ⟨v2, w2, hrun2, hown2, -⟩ := run_append_arg_grows (P := P) w t ty e i z size bytes ht hi hz hsize hby hzs hsz ⟨g, 0, none⟩ n cap xs hform.1
        (fun j u hu => hform.cells rfl j u hu) a m c news hl hnews (by omega) h63 hbytes
      rw [hrun] at hrun2
      cases hrun2
      rcases hown2.2 with ⟨rfl, h0⟩ | ⟨g2, cap2, cur2, rfl, hb2, _⟩
      · omega
      · exact ⟨g2, rfl, hb2⟩

/-- .. as one step of a region that draws its order -/
theorem step_append_where {P : Program} {ops : Array Oper} {o : Oper} {a : Act} {w : World} {K : Act → World → Prop} {Q : Exit → Act → World → Prop} {E : Prop}
    (hg : o.guard = none) (s x : Operand) (t : TypeId) (hop : o.op = Op.call { callee := Callee.builtin Builtin.append, args := #[s, x], argTypes := #[t, t] })
    (base : Nat) (e : TypeId) (i : TypeInfo) (z : Value) (size bytes : Nat) (ht : P.underlying t = some (.slice e)) (hi : P.info? e = some i) (hz : i.zero = some z)
    (hsize : i.size = size) (hby : i.bytes = bytes) (hzs : z.cells.size = size) (hsz : 0 < size)
    (v : Value) (n : Nat) (xs : List Value) (hs : a.eval s = v) (hown : w.ownsRow base e size v n xs)
    (ad : Addr) (m c : Nat) (news : List Value) (hx : a.eval x = .slice (some ad) m c) (hl : news.length = m * size) (hnews : ∀ j u, news[j]? = some u → w.cell? (ad.add j) = some u) (h1 : ∀ u ∈ news, u.oneCell' = true)
    (h63 : n + m ≤ maxLen) (hbytes : (n + m) * bytes ≤ 140737488355328) (hbase : base ≤ w.heap.size) (hm : 0 < m)
    (hK : ∀ v' w', w'.ownsRow base e size v' (n + m) (xs ++ news) → w.grownBy w' v.ownBlock → (v'.ownBlock = v.ownBlock ∨ ∃ g, v'.ownBlock = some g ∧ w.heap.size ≤ g) → K (a.put o.dst v') w') :
    if Region.wanted o (yielded ops a.tmps) = true then Oper.wp P o a w K Q else E := by
  have hw : Region.wanted o (yielded ops a.tmps) = true := by simp [Region.wanted, hg]
  rw [if_pos hw]
  obtain ⟨v', w', hrun, r1, r2, r3⟩ := run_append_where (P := P) w base t o.type e i z size bytes ht hi hz hsize hby hzs hsz v n xs hown ad m c news hl hnews h1 h63 hbytes hbase hm
  unfold Oper.wp
  simp [execOp, hop, resolve, invoke, builtin, hs, hx, hrun, Result.andThen]
  exact hK v' w' r1 r2 r3

end Go.Proofs.Ytjpjikfmdaejeaa
/-
  append AS A STEP OF THE WALK, WITH WHERE THE NEW ROW LIES.
-/
namespace Go.Proofs.Ytjpjikfmdaejeaa
set_option linter.unusedVariables false
set_option linter.unusedSimpArgs false
open Go.RowKit

theorem wpList_append_where {P : Program} (w : World) {ops : Array Oper} {rest : List Oper} {o : Oper} {a : Act} {Q : Exit → Act → World → Prop}
    (hg : o.guard = none) (s x : Operand) (t : TypeId) (hop : o.op = Op.call { callee := Callee.builtin Builtin.append, args := #[s, x], argTypes := #[t, t] })
    (base : Nat) (e : TypeId) (i : TypeInfo) (z : Value) (size bytes : Nat) (ht : P.underlying t = some (.slice e)) (hi : P.info? e = some i) (hz : i.zero = some z)
    (hsize : i.size = size) (hby : i.bytes = bytes) (hzs : z.cells.size = size) (hsz : 0 < size)
    (v : Value) (n : Nat) (xs : List Value) (hs : a.eval s = v) (hown : w.ownsRow base e size v n xs)
    (ad : Addr) (m c : Nat) (news : List Value) (hx : a.eval x = .slice (some ad) m c) (hl : news.length = m * size) (hnews : ∀ j u, news[j]? = some u → w.cell? (ad.add j) = some u) (h1 : ∀ u ∈ news, u.oneCell' = true)
    (h63 : n + m ≤ maxLen) (hbytes : (n + m) * bytes ≤ 140737488355328) (hbase : base ≤ w.heap.size) (hm : 0 < m)
    (hK : ∀ v' w', w'.ownsRow base e size v' (n + m) (xs ++ news) → w.grownBy w' v.ownBlock → (v'.ownBlock = v.ownBlock ∨ ∃ g, v'.ownBlock = some g ∧ w.heap.size ≤ g) → wpList P ops Q rest (a.put o.dst v') w') :
    wpList P ops Q (o :: rest) a w := by
  refine wpList_plain hg fun K' hK' => ?_
  obtain ⟨v', w', hrun, r1, r2, r3⟩ := run_append_where (P := P) w base t o.type e i z size bytes ht hi hz hsize hby hzs hsz v n xs hown ad m c news hl hnews h1 h63 hbytes hbase hm
  unfold Oper.wp
  simp [execOp, hop, resolve, invoke, builtin, hs, hx, hrun, Result.andThen]
  exact hK' _ _ (hK v' w' r1 r2 r3)

/-- an owned row that is not empty lies somewhere -/
theorem own_form {w : World} {base n size : Nat} {e : TypeId} {v : Value} {xs : List Value} (h : w.ownsRow base e size v n xs) (hn : 0 < n) : ∃ g cap, v = .slice (some ⟨g, 0, none⟩) n cap ∧ base ≤ g ∧ g < w.heap.size ∧ n ≤ cap ∧ cap ≤ maxLen := by
  rcases h.2 with ⟨-, h0⟩ | ⟨g, cap, cur, rfl, hg, hh, hn', hc, -⟩
  · omega
  · exact ⟨g, cap, rfl, hg, (Array.getElem?_eq_some_iff.1 hh).1, hn', hc⟩
/-- a block of two cells -/
theorem box2_cell (w : World) (C : Array Value) (t : TypeId) (i : Nat) (v : Value) (h : C[i]? = some v) : (w.alloc (.cells C t)).cell? ((⟨w.heap.size, 0, none⟩ : Addr).add i) = some v := by
  rw [WideShapes.add_plain, Nat.zero_add]
  exact box_cell w C t i v h
end Go.Proofs.Ytjpjikfmdaejeaa
/-
  A WORLD IN WHICH NOTHING BUT SOME BLOCKS HAS BEEN WRITTEN.
-/
namespace Go.Proofs.Ytjpjikfmdaejeaa
set_option linter.unusedVariables false
set_option linter.unusedSimpArgs false
open Go.RowKit

/-- all blocks but those of a list are as they were -/
structure ButL (fp : List Nat) (w w' : World) : Prop where
  os : w'.os = w.os
  tape : w'.tape = w.tape
  output : w'.output = w.output
  size : w.heap.size ≤ w'.heap.size
  block : ∀ k, k < w.heap.size → k ∉ fp → w'.heap[k]? = w.heap[k]?
theorem ButL.refl (fp : List Nat) (w : World) : ButL fp w w := ⟨rfl, rfl, rfl, Nat.le_refl _, fun _ _ _ => rfl⟩
theorem ButL.trans {fp : List Nat} {a c d : World} (h : ButL fp a c) (k : ButL fp c d) : ButL fp a d :=
  ⟨k.os.trans h.os, k.tape.trans h.tape, k.output.trans h.output, Nat.le_trans h.size k.size, fun i hi hb => (k.block i (Nat.lt_of_lt_of_le hi h.size) hb).trans (h.block i hi hb)⟩
theorem ButL.mono {fp fq : List Nat} {w w' : World} (h : ButL fp w w') (hs : ∀ k ∈ fp, k ∈ fq) : ButL fq w w' := ⟨h.os, h.tape, h.output, h.size, fun k hk hb => h.block k hk fun hm => hb (hs k hm)⟩
theorem ButL.of_below {fp : List Nat} {w w' : World} (h : Below w.heap.size w w') : ButL fp w w' := ⟨h.os, h.tape, h.output, h.size, fun k hk _ => h.block k hk⟩
theorem ButL.below {fp : List Nat} {B : Nat} {w w' : World} (h : ButL fp w w') (hf : ∀ k ∈ fp, B ≤ k) (hB : B ≤ w.heap.size) : Below B w w' :=
  ⟨h.os, h.tape, h.output, h.size, fun k hk => h.block k (by omega) (fun hm => by have := hf k hm; omega)⟩
theorem ButL.setCell {fp : List Nat} (w : World) (b o : Nat) (hb : b ∈ fp) (u : Value) : ButL fp w (w.setCell ⟨b, o, none⟩ u) :=
  ⟨rfl, rfl, rfl, by simp [World.setCell], fun k hk hn => Below.heap_setCell _ _ _ _ (fun e => hn (e ▸ hb))⟩
end Go.Proofs.Ytjpjikfmdaejeaa
/-
  THE BLOCK OF A ROW THAT A CALL OWNS; three cells of a box.
-/
namespace Go.Proofs.Ytjpjikfmdaejeaa
set_option linter.unusedVariables false
set_option linter.unusedSimpArgs false
open Go.RowKit

theorem own_some {w : World} {base n size : Nat} {e : TypeId} {v : Value} {xs : List Value} (h : w.ownsRow base e size v n xs) : ∀ k, v.ownBlock = some k → base ≤ k ∧ k < w.heap.size := by
  intro k hk
  rcases h.2 with ⟨rfl, -⟩ | ⟨g, cap, cur, rfl, hb, hh, -⟩
  · simp [Value.ownBlock] at hk
  · simp only [Value.ownBlock, Option.some.injEq] at hk
    subst hk
    exact ⟨hb, (Array.getElem?_eq_some_iff.1 hh).1⟩
theorem box_set {w : World} {B : Nat} {a b c : Value} {T : TypeId} (h : w.heap[B]? = some (.cells #[a, b, c] T)) (v : Value) : (w.setCell ⟨B, 2, none⟩ v).heap[B]? = some (.cells #[a, b, v] T) := by
  simp [World.setCell, Array.getElem?_modify, h]
theorem box_but2 {fp : List Nat} {w w1 : World} {x y z : Value} (h : ButL fp w w1) : ButL fp w (((w1.setCell ⟨w.heap.size, 0, none⟩ x).setCell ⟨w.heap.size, 1, none⟩ y).setCell ⟨w.heap.size, 2, none⟩ z) :=
  ⟨h.os, h.tape, h.output, by simp only [size_setCell]; exact h.size, fun k hk hn => by
    rw [Below.heap_setCell _ _ _ _ (by show k ≠ w.heap.size; omega), Below.heap_setCell _ _ _ _ (by show k ≠ w.heap.size; omega), Below.heap_setCell _ _ _ _ (by show k ≠ w.heap.size; omega)]
    exact h.block k hk hn⟩
end Go.Proofs.Ytjpjikfmdaejeaa
/-
  LISTS OF PLACES IN MEMORY: reading one; one more, at a step; other rows stay.
-/
namespace Go.Proofs.Ytjpjikfmdaejeaa
set_option linter.unusedVariables false
set_option linter.unusedSimpArgs false
open Go.RowKit

/-- a call has handed back these places, in a row of its own -/
def NewStk (ws : List Nat) (w : World) (e : Ending) (w' : World) : Prop := ∃ v, e = .returned v ∧ Stk w' w.heap.size ws v ∧ Below w.heap.size w w'
theorem pl_form {w : World} {rs : List Nat} {v : Value} (h : IIn w (plI rs) v) : ∃ ad cap, v = .slice ad rs.length cap ∧ rs.length ≤ cap ∧ cap ≤ maxLen := by
  obtain ⟨ad, cap, e, l1, l2, -⟩ := h
  rw [plI_length] at e l1
  exact ⟨ad, cap, e, l1, l2⟩
theorem pl_at {w : World} {rs : List Nat} {ad : Option Addr} {n cap : Nat} (h : IIn w (plI rs) (.slice ad n cap)) (k : Nat) (hk : k < rs.length) :
    ∃ bl off x, ad = some ⟨bl, off, none⟩ ∧ bl < w.heap.size ∧ rs[k]? = some x ∧ x ∈ rs ∧ w.cell? ⟨bl, off + k, none⟩ = some (.int .i64 (x : Int)) := by
  obtain ⟨bl, off, e, hc⟩ := h.at k (by rw [plI_length]; exact hk)
  refine ⟨bl, off, rs[k], e, cell_lt hc, List.getElem?_eq_getElem hk, List.getElem_mem hk, ?_⟩
  rw [hc]; simp [plI]
theorem Stk.pin {w : World} {lo : Nat} {ws : List Nat} {v : Value} (h : Stk w lo ws v) : IIn w (plI ws) v := h.row.inn
theorem Stk.lower {w : World} {lo lo' : Nat} {ws : List Nat} {v : Value} (h : Stk w lo ws v) (hl : lo' ≤ lo) : Stk w lo' ws v := by
  refine ⟨h.1, ?_⟩
  rcases h.2 with h | ⟨g, cap, cur, rfl, hg, r⟩
  · exact Or.inl h
  · exact Or.inr ⟨g, cap, cur, rfl, Nat.le_trans hl hg, r⟩
theorem Stk.next {w w' : World} {lo : Nat} {ws : List Nat} {v : Value} (h : Stk w lo ws v) (hb : Below w.heap.size w w') : Stk w' lo ws v := h.keep fun k _ hk => hb.block k hk
theorem kids_pl {w : World} {g : List Ce} {defs : Int} {a : Nat} {v : Value} (hg : graphB g defs = true) (ha : a < g.length) (h : IIn w g[a].kids v) : IIn w (plI (kidsN g a)) v := by
  rw [kids_back hg a ha] at h; exact h
/-- an empty row of places -/
theorem stk_zero {w : World} {lo b : Nat} (h : w.heap[b]? = some (.cells #[] 3)) (hb : lo ≤ b) : Stk w lo [] (.slice (some ⟨b, 0, none⟩) 0 0) :=
  ⟨rfl, Or.inr ⟨b, 0, #[], rfl, hb, h, Nat.le_refl _, by simp [maxLen], rfl, rfl⟩⟩
/-- append of places, at a step of a region that draws -/
theorem step_push {ops : Array Oper} {o : Oper} {a : Act} {w : World} {K : Act → World → Prop} {Q : Exit → Act → World → Prop} {E : Prop} (hgd : o.guard = none) (s x : Operand)
    (ho : o.op = .call { callee := .builtin .append, args := #[s, x], argTypes := #[23, 23] })
    (lo : Nat) (ws news : List Nat) (v xv : Value) (hs : a.eval s = v) (hst : Stk w lo ws v) (hxe : a.eval x = xv) {xs : List Int} (hx : IIn w xs xv) (hxs : xs = news.map fun (a : Nat) => (a : Int)) (hlo : lo ≤ w.heap.size) (hb : ws.length + news.length ≤ 1048576)
    (h : ∀ v' w', Stk w' lo (ws ++ news) v' → w.grownBy w' v.ownBlock → K (a.put o.dst v') w') : if Region.wanted o (yielded ops a.tmps) = true then Oper.wp Try.prog o a w K Q else E := by
  have hw : Region.wanted o (yielded ops a.tmps) = true := by simp [Region.wanted, hgd]
  rw [if_pos hw]
  obtain ⟨v', w', hrun, h2, h3⟩ := run_push w lo ws news v xv o.type hst hx hxs hlo hb
  unfold Oper.wp
  simp [execOp, ho, resolve, invoke, builtin, hs, hxe, hrun, Result.andThen]
  exact h _ _ h2 h3
theorem stk_len2 {w : World} {lo n : Nat} {ws : List Nat} {v : Value} (h : Stk w lo ([] ++ ws) v) (hn : ws.length = n) : ∃ ad cap, v = .slice ad n cap := by
  obtain ⟨a, c, e⟩ := h.len
  exact ⟨a, c, by rw [e, List.nil_append, hn]⟩
/-- a row of another type is not the row of places -/
theorem own_other {w : World} {lo : Nat} {ws : List Nat} {v : Value} {b n : Nat} {T : TypeId} {f : Nat → Value} (h : Stk w lo ws v) (hr : w.rowIs b T n f) (hT : T ≠ 3) : some b ≠ v.ownBlock := by
  intro e
  rcases h.2 with ⟨rfl, -⟩ | ⟨g, cap, cur, rfl, -, hh, -⟩
  · simp [Value.ownBlock] at e
  · simp only [Value.ownBlock, Option.some.injEq] at e
    subst e
    obtain ⟨C, hC, -⟩ := hr
    rw [hh] at hC
    simp only [Option.some.injEq, Obj.cells.injEq] at hC
    exact hT hC.2.1.symm
theorem Stk.mark {w : World} {lo : Nat} {ws : List Nat} {v : Value} {b n : Nat} {T : TypeId} {f : Nat → Value} (h : Stk w lo ws v) (hr : w.rowIs b T n f) (hT : T ≠ 3) (i : Nat) (u : Value) : Stk (w.setCell ⟨b, i, none⟩ u) lo ws v := by
  have hne := own_other h hr hT
  refine ⟨h.1, ?_⟩
  rcases h.2 with h' | ⟨g, cap, cur, rfl, hg, hh, r⟩
  · exact Or.inl h'
  · refine Or.inr ⟨g, cap, cur, rfl, hg, (Below.heap_setCell _ _ _ _ ?_).trans hh, r⟩
    intro e
    exact hne (by simp only [Value.ownBlock, Option.some.injEq]; exact e.symm)
/-- the world behind append: nothing older has changed -/
theorem push_below {w wb w5 : World} {B lo : Nat} {ws : List Nat} {v : Value} (hst : Stk wb lo ws v) (hb : Below B w wb) (hlo : B ≤ lo) (hg : wb.grownBy w5 v.ownBlock) (hB : B ≤ w.heap.size) : Below B w w5 :=
  ⟨by rw [hg.os]; exact hb.os, by rw [hg.tape]; exact hb.tape, by rw [hg.output]; exact hb.output, Nat.le_trans hb.size hg.size, fun k hk =>
    (hg.block k (by have := hb.size; omega) (fun e => by have := own_lo hst e; omega)).trans (hb.block k hk)⟩
/-- a row of another type stays behind append -/
theorem row_push {w w5 : World} {lo : Nat} {ws : List Nat} {v : Value} {b n : Nat} {T : TypeId} {f : Nat → Value} (hr : w.rowIs b T n f) (hst : Stk w lo ws v) (hg : w.grownBy w5 v.ownBlock) (hT : T ≠ 3) : w5.rowIs b T n f :=
  hr.of_block (hg.block b hr.lt (own_other hst hr hT))
end Go.Proofs.Ytjpjikfmdaejeaa
/-
  THE MODEL's l3Follow; nothing that was there is changed.
-/
namespace Go.Proofs.Ytjpjikfmdaejeaa
set_option linter.unusedVariables false
set_option linter.unusedSimpArgs false
open Go.RowKit

/-- what l3Follow answers: the place, or -1 -/
def folI (o : Option Nat) : Int := match o with | some b => (b : Int) | none => -1
theorem followN_ind {g : List Ce} {n a : Nat} (h : opAt g a = 11) : followN g (n + 1) a = followN g n (nxt g a) := by rw [followN, if_pos h]
theorem followN_stop {g : List Ce} {n a : Nat} (h : ¬ opAt g a = 11) : followN g (n + 1) a = some a := by rw [followN, if_neg h]
theorem opAt_at {g : List Ce} (a : Nat) (ha : a < g.length) : opAt g a = g[a].op := by unfold opAt; rw [getD_at _ _ _ ha]

set_option maxHeartbeats 800000 in
theorem l3Follow_calls (g : List Ce) (a : Nat) (v : Value) (w : World) (hk : CIn w g v) (hg : ∃ defs, graphB g defs = true) (ha : a < g.length) :
    Calls Try.prog 51 #[v, .int .i64 (a : Int)] w fun e w' => e = .returned (.int .i64 (folI (followN g (g.length + 1) a))) ∧ Below w.heap.size w w' := by
  have HK : Hid (CIn w g v) := hk
  obtain ⟨ad, cap, rfl, hl, hm, -⟩ := hk
  unfold maxLen at hm
  obtain ⟨defs, hg⟩ := hg
  have HG : Hid (graphB g defs = true) := hg
  have h400 : g.length ≤ 400 := graphB_len hg
  clear hg
  go_enter Try.func51, Try.ntmps51
  go_wp2_with fail
  go_loopw [1, 5] (fun at' i wr => ∃ k b : Nat, k ≤ g.length + 1 ∧ i = .int .i64 k ∧ at' = .int .i64 (b : Int) ∧ b < g.length ∧ followN g (g.length + 1) a = followN g (g.length + 1 - k) b ∧ Below w.heap.size w wr) (fun _ i _ => g.length + 1 - (intOf i).toNat)
  case atStart => exact ⟨0, a, Nat.zero_le _, rfl, rfl, ha, rfl, Below.refl _ _⟩
  case round =>
    obtain ⟨k, b, hk, rfl, rfl, hbl, hf, hb⟩ := hrel
    have HF : Hid (followN g (g.length + 1) a = followN g (g.length + 1 - k) b) := hf
    have HB : Hid (Below w.heap.size w wr) := hb
    clear hf
    by_cases hlt : k ≤ g.length
    · have HLT : Hid (k ≤ g.length) := hlt
      obtain ⟨bl, off, r, rfl, c0, c1, c2, -, -, hkk⟩ := (HK.out.next hb).at b hbl
      clear hb
      by_cases ho : g[b].op = 11
      · obtain ⟨y, hy1, hy2, hy3⟩ := ind_kid HG.out b hbl ho
        have HV : Hid (followN g (g.length + 1) a = followN g (g.length + 1 - (k + 1)) y) := by
          have h1 := HF.out
          rw [show g.length + 1 - k = (g.length + 1 - (k + 1)) + 1 by omega] at h1
          exact h1.trans ((followN_ind (by rw [opAt_at b hbl]; exact ho)).trans (by rw [hy3]))
        have t1 : (g[b].op != 11) = false := by simp [ho]
        obtain ⟨ad2, cap2, rfl, hl2, hm2, -⟩ := id hkk
        obtain ⟨bl2, off2, rfl, d0⟩ := hkk.at 0 (by rw [hy1]; simp)
        have hlen1 : g[b].kids.length = 1 := by rw [hy1]; rfl
        have hkid : g[b].kids[0]'(by omega) = (y : Int) := by simp [hy1]
        rw [hkid, Nat.add_zero] at d0
        rw [hlen1] at c2
        clear ho hy1 hy3 hkid hlen1 hkk hl2 hm2
        go_wp2_with fail
        go_roundw
        case rel => exact ⟨k + 1, y, by have := HLT.out; omega, by go_num, rfl, hy2, HV.out, HB.out⟩
        case measure => have := HLT.out; simp [intOf]; omega
      · have HV : Hid (folI (followN g (g.length + 1) a) = (b : Int)) := by
          have h1 := HF.out
          rw [show g.length + 1 - k = (g.length - k) + 1 by omega] at h1
          rw [Hid, h1.trans (followN_stop (by rw [opAt_at b hbl]; exact ho))]; rfl
        have t1 : (g[b].op != 11) = true := by simpa using ho
        clear ho hkk
        go_wp2_with fail
        go_ret
        exact ⟨ret_int HV.out.symm, HB.out⟩
    · have HV : Hid (folI (followN g (g.length + 1) a) = -1) := by
        have := HF.out
        rw [show g.length + 1 - k = 0 by omega] at this
        rw [Hid, this]; rfl
      clear hb
      go_wp2_with fail
      go_ret
      exact ⟨ret_int HV.out.symm, HB.out⟩

theorem ret_ib {a b : Int} {p q : Bool} (h : a = b) (h' : p = q) : Ending.returned (.tuple #[.int .i64 a, .bool p]) = .returned (.tuple #[.int .i64 b, .bool q]) := by rw [h, h']

end Go.Proofs.Ytjpjikfmdaejeaa
/-
  PLAIN FACTS ON NESTED APPLICATIONS IN A GRAPH, VALUES AND REDEXES.
-/
namespace Go.Proofs.Ytjpjikfmdaejeaa
set_option linter.unusedVariables false
set_option linter.unusedSimpArgs false

theorem kids_count {g : List Ce} {defs : Int} (h : graphB g defs = true) (a : Nat) (ha : a < g.length) : (g[a].kids.length : Int) = cArity g[a].op := by
  have hc := graphB_cell h a ha
  unfold cellB fitsB at hc
  simp only [Bool.and_eq_true, decide_eq_true_eq] at hc
  exact hc.1.1
/-- operand j of a cell, as a place -/
def kidAt (g : List Ce) (a j : Nat) : Nat := (kidsN g a).getD j 0
theorem kidAt_get {g : List Ce} {defs : Int} (h : graphB g defs = true) (a : Nat) (ha : a < g.length) (j : Nat) (hj : j < g[a].kids.length) : g[a].kids[j] = (kidAt g a j : Int) ∧ kidAt g a j < g.length := by
  obtain ⟨k, h1, h2, h3⟩ := kidsN_get h a ha j hj
  have e : kidAt g a j = k := by unfold kidAt; rw [List.getD_eq_getElem?_getD, h3]; rfl
  rw [e]; exact ⟨h1, h2⟩
/-- the function of nested applications and the cells of these, after at most n looks -/
def spineN (g : List Ce) : Nat → Nat → Option (Nat × List Nat)
  | 0, _ => none
  | n + 1, a => match followN g g.length a with
    | none => none
    | some f => if opAt g f = 4 then (spineN g n (kidAt g f 0)).map (fun x => (x.1, f :: x.2)) else some (f, [])
def spine (g : List Ce) (a : Nat) : Option (Nat × List Nat) := spineN g (g.length + 1) a

/-- what holds behind every look -/
structure SpRel (g : List Ce) (a : Nat) (ws : List Nat) (b : Nat) : Prop where
  eq : spine g a = (spineN g (g.length + 1 - ws.length) b).map fun x => (x.1, ws ++ x.2)
  len : ws.length ≤ g.length + 1
  lt : b < g.length
theorem SpRel.start {g : List Ce} {a : Nat} (h : a < g.length) : SpRel g a [] a := ⟨by unfold spine; simp, by simp, h⟩
theorem SpRel.none {g : List Ce} {a b : Nat} {ws : List Nat} (h : SpRel g a ws b) (hl : ws.length ≤ g.length) (hf : followN g g.length b = .none) : spine g a = .none := by
  rw [h.eq, show g.length + 1 - ws.length = (g.length - ws.length) + 1 by omega, spineN, hf]; rfl
theorem SpRel.out {g : List Ce} {a b : Nat} {ws : List Nat} (h : SpRel g a ws b) (hl : g.length < ws.length) : spine g a = .none := by
  rw [h.eq, show g.length + 1 - ws.length = 0 by omega, spineN]; rfl
theorem SpRel.fin {g : List Ce} {a b f : Nat} {ws : List Nat} (h : SpRel g a ws b) (hl : ws.length ≤ g.length) (hf : followN g g.length b = some f) (ho : ¬ opAt g f = 4) : spine g a = some (f, ws) := by
  rw [h.eq, show g.length + 1 - ws.length = (g.length - ws.length) + 1 by omega, spineN, hf]
  simp [ho]
theorem SpRel.next {g : List Ce} {defs : Int} {a b f : Nat} {ws : List Nat} (h : SpRel g a ws b) (hg : graphB g defs = true) (hl : ws.length ≤ g.length) (hf : followN g g.length b = some f) (ho : opAt g f = 4) : SpRel g a (ws ++ [f]) (kidAt g f 0) := by
  have hfl := (followN_lt hg _ _ _ h.lt hf).1
  refine ⟨?_, by simp; omega, (kidAt_get hg f hfl 0 ?_).2⟩
  · rw [h.eq, show g.length + 1 - ws.length = (g.length - ws.length) + 1 by omega, spineN, hf]
    simp only [ho, if_true, List.length_append, List.length_cons, List.length_nil, Nat.zero_add]
    rw [show g.length + 1 - (ws.length + 1) = g.length - ws.length by omega, Option.map_map]
    congr 1
    funext x
    simp
  · have := kids_count hg f hfl
    rw [opAt_at f hfl] at ho
    rw [ho] at this
    have e : cArity 4 = 2 := by decide
    omega
theorem spineN_ok {g : List Ce} {defs : Int} (hg : graphB g defs = true) : ∀ (n a f : Nat) (l : List Nat), a < g.length → spineN g n a = some (f, l) → f < g.length ∧ opAt g f ≠ 4 ∧ opAt g f ≠ 11 ∧ (∀ k ∈ l, k < g.length ∧ opAt g k = 4) ∧ l.length < n
  | 0, _, _, _, _, e => by simp [spineN] at e
  | n + 1, a, f, l, ha, e => by
    unfold spineN at e
    cases hf : followN g g.length a with
    | none => rw [hf] at e; simp at e
    | some b =>
      rw [hf] at e
      have hb := followN_lt hg _ _ _ ha hf
      simp only at e
      split at e
      · rename_i h4
        obtain ⟨⟨f', l'⟩, h1, h2⟩ := Option.map_eq_some_iff.1 e
        simp only [Prod.mk.injEq] at h2
        obtain ⟨rfl, rfl⟩ := h2
        have hk : kidAt g b 0 < g.length := by
          refine (kidAt_get hg b hb.1 0 ?_).2
          have := kids_count hg b hb.1
          rw [opAt_at b hb.1] at h4
          rw [h4] at this
          have e : cArity 4 = 2 := by decide
          omega
        obtain ⟨r1, r2, r3, r4, r5⟩ := spineN_ok hg n _ _ _ hk h1
        refine ⟨r1, r2, r3, fun k hk => ?_, by simp; omega⟩
        rcases List.mem_cons.1 hk with rfl | hk
        · exact ⟨hb.1, h4⟩
        · exact r4 k hk
      · rename_i h4
        simp only [Option.some.injEq, Prod.mk.injEq] at e
        obtain ⟨rfl, rfl⟩ := e
        exact ⟨hb.1, h4, hb.2, by simp, by simp⟩
theorem spine_ok {g : List Ce} {defs : Int} (hg : graphB g defs = true) {a f : Nat} {l : List Nat} (ha : a < g.length) (h : spine g a = some (f, l)) : f < g.length ∧ opAt g f ≠ 4 ∧ opAt g f ≠ 11 ∧ (∀ k ∈ l, k < g.length ∧ opAt g k = 4) ∧ l.length ≤ g.length := by
  obtain ⟨r1, r2, r3, r4, r5⟩ := spineN_ok hg _ _ _ _ ha h
  exact ⟨r1, r2, r3, r4, by omega⟩
/-- a cell that is neither an application nor an indirection is its own function -/
theorem spine_self {g : List Ce} {f : Nat} (hf : f < g.length) (h4 : opAt g f ≠ 4) (h11 : opAt g f ≠ 11) : spine g f = some (f, []) := by
  unfold spine spineN
  have e : followN g g.length f = some f := by
    obtain ⟨n, hn⟩ : ∃ n, g.length = n + 1 := ⟨g.length - 1, by omega⟩
    rw [hn]; exact followN_stop h11
  rw [e]; simp [h4]

/-- what SpineOf answers -/
def spV (g : List Ce) (a : Int) : Option (Nat × List Nat) := if graphB g 6 = true ∧ 0 ≤ a ∧ a < g.length then spine g a.toNat else none
def spF (o : Option (Nat × List Nat)) : Int := match o with | some x => (x.1 : Int) | none => 0
def spL (o : Option (Nat × List Nat)) : List Nat := match o with | some x => x.2 | none => []

/-! ### Values -/
def numAt (g : List Ce) (a : Nat) : Int := (g.getD a ⟨0, 0, []⟩).num
theorem numAt_at {g : List Ce} (a : Nat) (ha : a < g.length) : numAt g a = g[a].num := by unfold numAt; rw [getD_at _ _ _ ha]
/-- the arity of a function -/
def arOf (ars : List Int) (n : Int) : Int := (ars[n.toNat]?).getD 0
/-- does a cell stand for a value? -/
def valB (ars : List Int) (g : List Ce) (a : Nat) : Bool := match spine g a with
  | none => false
  | some (f, l) => if opAt g f = 2 ∨ opAt g f = 5 then decide (l.length = 0) else decide (opAt g f = 3) && decide ((l.length : Int) < arOf ars (numAt g f))

/-! ### Redexes -/
/-- the application of a function to as many cells as its arity says -/
def callAt (f : Nat) (l : List Nat) (ar : Int) : Nat := if ar = 0 then f else l.getD (l.length - ar.toNat) 0
/-- the kind of the cell for which a cell stands -/
def kindOf (g : List Ce) (a : Nat) : Option Int := (followN g g.length a).map (opAt g)
/-- does a step wait for an operand? none: it is stuck; some (some k): for k -/
def waitOne (ars : List Int) (g : List Ce) (k : Nat) (kind : Int) (rest : Option (Option Nat)) : Option (Option Nat) :=
  if valB ars g k = false then some (some k) else if kindOf g k = some kind then rest else none
def waits (ars : List Int) (g : List Ce) (f : Nat) : Option (Option Nat) :=
  if opAt g f = 6 ∨ opAt g f = 7 then waitOne ars g (kidAt g f 0) 5 (some none)
  else if opAt g f = 10 then waitOne ars g (kidAt g f 0) 2 (some none)
  else waitOne ars g (kidAt g f 0) 2 (waitOne ars g (kidAt g f 1) 2 (some none))
/-- the redex of a cell that stands for no value, after at most n operands -/
def redexN (ars : List Int) (g : List Ce) : Nat → Nat → Option Nat
  | 0, _ => none
  | n + 1, a => match spine g a with
    | none => none
    | some (f, l) =>
      if opAt g f = 3 then some (callAt f l (arOf ars (numAt g f)))
      else if opAt g f = 2 ∨ opAt g f = 5 then none
      else match waits ars g f with
        | none => none
        | some none => some f
        | some (some k) => redexN ars g n k
def redex (ars : List Int) (g : List Ce) (a : Nat) : Option Nat := redexN ars g (g.length + 1) a
end Go.Proofs.Ytjpjikfmdaejeaa
/-
  PLAIN: the order in which cells are copied, their new places, and the copy. No program is named here.
-/
namespace Go.Proofs.Ytjpjikfmdaejeaa
set_option linter.unusedVariables false
set_option linter.unusedSimpArgs false

/-- the place of a number in a list, or its length -/
def posN : List Nat → Nat → Nat
  | [], _ => 0
  | a :: l, x => if a = x then 0 else posN l x + 1
theorem posN_lt : ∀ (l : List Nat) (x : Nat), x ∈ l → posN l x < l.length
  | [], _, h => by simp at h
  | a :: l, x, h => by
    unfold posN
    split
    · simp
    · rename_i hne
      have : x ∈ l := by rcases List.mem_cons.1 h with rfl | h; exact absurd rfl hne; exact h
      have := posN_lt l x this
      simp; omega
theorem posN_app : ∀ (l m : List Nat) (x : Nat), x ∈ l → posN (l ++ m) x = posN l x
  | [], _, _, h => by simp at h
  | a :: l, m, x, h => by
    simp only [List.cons_append, posN]
    split
    · rfl
    · rename_i hne
      have : x ∈ l := by rcases List.mem_cons.1 h with rfl | h; exact absurd rfl hne; exact h
      rw [posN_app l m x this]
theorem posN_out : ∀ (l : List Nat) (x : Nat), x ∉ l → posN l x = l.length
  | [], _, _ => rfl
  | a :: l, x, h => by
    simp only [List.mem_cons, not_or] at h
    unfold posN
    rw [if_neg (fun e => h.1 e.symm), posN_out l x h.2]; rfl
theorem posN_snoc (l : List Nat) (x : Nat) (h : x ∉ l) : posN (l ++ [x]) x = l.length := by
  induction l with
  | nil => simp [posN]
  | cons a l ih =>
    simp only [List.mem_cons, not_or] at h
    simp only [List.cons_append, posN]
    rw [if_neg (fun e => h.1 e.symm), ih h.2]; rfl
theorem get_posN : ∀ (l : List Nat) (x : Nat), x ∈ l → l[posN l x]? = some x
  | [], _, h => by simp at h
  | a :: l, x, h => by
    unfold posN
    split
    · rename_i e; simp [e]
    · rename_i hne
      have : x ∈ l := by rcases List.mem_cons.1 h with rfl | h; exact absurd rfl hne; exact h
      simpa using get_posN l x this
theorem posN_at : ∀ (l : List Nat) (i : Nat) (h : i < l.length), l.Nodup → posN l l[i] = i
  | [], _, h, _ => by simp at h
  | a :: l, 0, _, _ => by simp [posN]
  | a :: l, i + 1, h, hn => by
    rw [List.nodup_cons] at hn
    simp only [List.length_cons] at h
    simp only [List.getElem_cons_succ, posN]
    rw [if_neg (by intro e; exact hn.1 (by rw [e]; exact List.getElem_mem _)), posN_at l i (by omega) hn.2]
theorem posN_pre {l m : List Nat} (h : l <+: m) {x : Nat} (hx : x ∈ l) : posN m x = posN l x := by
  obtain ⟨t, rfl⟩ := h; exact posN_app l t x hx

/-- a list of different numbers below n is no longer than n -/
theorem nodup_len {n : Nat} {l : List Nat} (hn : l.Nodup) (hl : ∀ x ∈ l, x < n) : l.length ≤ n :=
  pigeon n l.length (fun i => l.getD i 0) (fun i hi => by rw [getD_at _ _ _ hi]; exact hl _ (List.getElem_mem hi)) (fun i j hi hj e => by
    simp only [getD_at _ _ _ hi, getD_at _ _ _ hj] at e
    rw [← posN_at l i hi hn, ← posN_at l j hj hn, e])

/-- one more cell, if it is not there yet -/
def visit (out : List Nat) (x : Nat) : List Nat := if x ∈ out then out else out ++ [x]
def visitL (out : List Nat) (l : List Nat) : List Nat := l.foldl visit out
theorem visit_in {out : List Nat} {x : Nat} (h : x ∈ out) : visit out x = out := by unfold visit; rw [if_pos h]
theorem visit_new {out : List Nat} {x : Nat} (h : x ∉ out) : visit out x = out ++ [x] := by unfold visit; rw [if_neg h]
theorem visit_pre (out : List Nat) (x : Nat) : out <+: visit out x := by
  unfold visit; split
  · exact List.prefix_refl _
  · exact List.prefix_append _ _
theorem visit_mem (out : List Nat) (x : Nat) : x ∈ visit out x := by
  unfold visit; split
  · assumption
  · simp
theorem visit_of {out : List Nat} {x y : Nat} (h : y ∈ visit out x) : y ∈ out ∨ y = x := by
  unfold visit at h; split at h
  · exact Or.inl h
  · simpa using h
theorem visit_nodup {out : List Nat} {x : Nat} (h : out.Nodup) : (visit out x).Nodup := by
  unfold visit; split
  · exact h
  · rename_i hx
    rw [List.nodup_append]
    exact ⟨h, by simp, by intro a ha b hb; simp only [List.mem_singleton] at hb; subst hb; intro e; exact hx (e ▸ ha)⟩
theorem visitL_nil (out : List Nat) : visitL out [] = out := rfl
theorem visitL_cons (out : List Nat) (x : Nat) (l : List Nat) : visitL out (x :: l) = visitL (visit out x) l := rfl
theorem visitL_snoc (out : List Nat) (l : List Nat) (x : Nat) : visitL out (l ++ [x]) = visit (visitL out l) x := by unfold visitL; rw [List.foldl_append]; rfl
theorem visitL_pre : ∀ (l out : List Nat), out <+: visitL out l
  | [], _ => List.prefix_refl _
  | x :: l, out => (visit_pre out x).trans (visitL_pre l _)
theorem visitL_mem : ∀ (l out : List Nat) (x : Nat), x ∈ l → x ∈ visitL out l
  | [], _, _, h => by simp at h
  | y :: l, out, x, h => by
    rcases List.mem_cons.1 h with rfl | h
    · exact (visitL_pre l _).subset (visit_mem out x)
    · exact visitL_mem l _ x h
theorem visitL_of : ∀ (l out : List Nat) (y : Nat), y ∈ visitL out l → y ∈ out ∨ y ∈ l
  | [], _, _, h => Or.inl h
  | x :: l, out, y, h => by
    rcases visitL_of l _ y h with h | h
    · rcases visit_of h with h | rfl
      · exact Or.inl h
      · exact Or.inr (List.mem_cons_self ..)
    · exact Or.inr (List.mem_cons_of_mem _ h)
theorem visitL_nodup : ∀ (l out : List Nat), out.Nodup → (visitL out l).Nodup
  | [], _, h => h
  | x :: l, out, h => visitL_nodup l _ (visit_nodup h)
theorem visitL_take (out l : List Nat) (i : Nat) (h : i < l.length) : visitL out (l.take (i + 1)) = visit (visitL out (l.take i)) l[i] := by
  rw [List.take_succ_eq_append_getElem h, visitL_snoc]

/-! ### The order -/
def ordN (g : List Ce) : Nat → Nat → List Nat → List Nat
  | 0, _, out => out
  | n + 1, i, out => if i < out.length then ordN g n (i + 1) (visitL out (kidsN g (out.getD i 0))) else out
def orderG (g : List Ce) (roots : List Nat) : List Nat := ordN g (g.length + 1) 0 (visitL [] roots)
/-- what holds when the operands of the first i cells have been copied -/
structure OrdRel (g : List Ce) (roots : List Nat) (i : Nat) (out : List Nat) : Prop where
  eq : ordN g (g.length + 1 - i) i out = orderG g roots
  le : i ≤ out.length
  nd : out.Nodup
  lt : ∀ x ∈ out, x < g.length
  rt : ∀ x ∈ roots, x ∈ out
  cl : ∀ j (hj : j < i), ∀ k ∈ kidsN g (out.getD j 0), k ∈ out
theorem OrdRel.len {g : List Ce} {roots : List Nat} {i : Nat} {out : List Nat} (h : OrdRel g roots i out) : out.length ≤ g.length := nodup_len h.nd h.lt
theorem OrdRel.start {g : List Ce} {roots : List Nat} (hr : ∀ x ∈ roots, x < g.length) : OrdRel g roots 0 (visitL [] roots) where
  eq := rfl
  le := Nat.zero_le _
  nd := visitL_nodup _ _ (by simp)
  lt := fun x hx => by rcases visitL_of _ _ _ hx with h | h; simp at h; exact hr x h
  rt := fun x hx => visitL_mem _ _ _ hx
  cl := fun j hj => absurd hj (by omega)
theorem getD_pre {l m : List Nat} (h : l <+: m) {j : Nat} (hj : j < l.length) : m.getD j 0 = l.getD j 0 := by
  obtain ⟨t, rfl⟩ := h
  rw [List.getD_eq_getElem?_getD, List.getD_eq_getElem?_getD, List.getElem?_append_left hj]
theorem OrdRel.step {g : List Ce} {defs : Int} {roots : List Nat} {i : Nat} {out : List Nat} (hg : graphB g defs = true) (h : OrdRel g roots i out) (hi : i < out.length) : OrdRel g roots (i + 1) (visitL out (kidsN g (out.getD i 0))) := by
  have hlen := h.len
  have hp := visitL_pre (kidsN g (out.getD i 0)) out
  have hx : out.getD i 0 < g.length := by rw [getD_at _ _ _ hi]; exact h.lt _ (List.getElem_mem hi)
  refine ⟨?_, Nat.le_trans hi hp.length_le, visitL_nodup _ _ h.nd, fun x hx2 => ?_, fun x hx2 => hp.subset (h.rt x hx2), fun j hj k hk => ?_⟩
  · rw [← h.eq, show g.length + 1 - i = (g.length + 1 - (i + 1)) + 1 by omega]
    conv => rhs; unfold ordN; rw [if_pos hi]
  · rcases visitL_of _ _ _ hx2 with h1 | h1
    · exact h.lt x h1
    · exact kidsN_lt hg _ hx x h1
  · rw [getD_pre hp (by omega)] at hk
    rcases Nat.lt_or_ge j i with h1 | h1
    · exact hp.subset (h.cl j h1 k hk)
    · obtain rfl : j = i := by omega
      exact visitL_mem _ _ _ hk
theorem OrdRel.fin {g : List Ce} {roots : List Nat} {i : Nat} {out : List Nat} (h : OrdRel g roots i out) (hi : ¬ i < out.length) : out = orderG g roots := by
  have := h.len
  have := h.le
  rw [← h.eq, show g.length + 1 - i = (g.length - i) + 1 by omega]
  unfold ordN; rw [if_neg hi]
/-- the order is reached -/
theorem order_rel {g : List Ce} {defs : Int} {roots : List Nat} (hg : graphB g defs = true) (hr : ∀ x ∈ roots, x < g.length) : ∃ i, OrdRel g roots i (orderG g roots) ∧ ¬ i < (orderG g roots).length := by
  have key : ∀ n i out, OrdRel g roots i out → g.length - i = n → ∃ i, OrdRel g roots i (orderG g roots) ∧ ¬ i < (orderG g roots).length := by
    intro n
    induction n with
    | zero =>
      intro i out h hn
      have := h.len
      have := h.le
      have hi : ¬ i < out.length := by omega
      have e := h.fin hi
      subst e
      exact ⟨i, h, hi⟩
    | succ n ih =>
      intro i out h hn
      by_cases hi : i < out.length
      · exact ih _ _ (h.step hg hi) (by omega)
      · have e := h.fin hi
        subst e
        exact ⟨i, h, hi⟩
  exact key _ _ _ (OrdRel.start hr) rfl

/-! ### The copy -/
/-- a copy, its operands by the places in an order -/
def cpCell (g : List Ce) (out : List Nat) (x : Nat) : Ce := ⟨opAt g x, numAt g x, (kidsN g x).map fun k => (posN out k : Int)⟩
def copyG (g : List Ce) (roots : List Nat) : List Ce := (orderG g roots).map (cpCell g (orderG g roots))
def topsG (g : List Ce) (roots : List Nat) : List Nat := roots.map (posN (orderG g roots))
theorem cpCell_pre {g : List Ce} {out out' : List Nat} (h : out <+: out') {x : Nat} (hx : ∀ k ∈ kidsN g x, k ∈ out) : cpCell g out' x = cpCell g out x := by
  unfold cpCell
  congr 1
  exact List.map_congr_left fun k hk => by rw [posN_pre h (hx k hk)]
theorem copyG_len (g : List Ce) (roots : List Nat) : (copyG g roots).length = (orderG g roots).length := by unfold copyG; simp
end Go.Proofs.Ytjpjikfmdaejeaa
/-
  PLAIN: roots of a graph; the marks of an order. No program is named here.
-/
namespace Go.Proofs.Ytjpjikfmdaejeaa
set_option linter.unusedVariables false
set_option linter.unusedSimpArgs false

/-- a graph and some of its cells -/
def rootB (g : List Ce) (rs : List Int) : Bool := graphB g 6 && (decide (rs.length ≤ 20) && rs.all (isAt g.length))
def natL (rs : List Int) : List Nat := rs.map Int.toNat
theorem natL_len (rs : List Int) : (natL rs).length = rs.length := by simp [natL]
theorem rootB_iff {g : List Ce} {rs : List Int} : rootB g rs = true ↔ graphB g 6 = true ∧ rs.length ≤ 20 ∧ rs.all (isAt g.length) = true := by unfold rootB; simp
theorem root_lt {g : List Ce} {rs : List Int} (h : rootB g rs = true) : ∀ x ∈ natL rs, x < g.length := by
  intro x hx
  have h3 := (rootB_iff.1 h).2.2
  simp only [natL, List.mem_map] at hx
  obtain ⟨a, ha, rfl⟩ := hx
  rw [List.all_eq_true] at h3
  have := h3 a ha
  simp only [isAt, decide_eq_true_eq] at this
  omega
theorem root_back {g : List Ce} {rs : List Int} (h : rootB g rs = true) : rs = (natL rs).map fun (a : Nat) => (a : Int) := by
  have h3 := (rootB_iff.1 h).2.2
  rw [List.all_eq_true] at h3
  unfold natL
  rw [List.map_map]
  conv => lhs; rw [← List.map_id rs]
  refine List.map_congr_left fun a ha => ?_
  have := h3 a ha
  simp only [isAt, decide_eq_true_eq] at this
  simp; omega
/-- is a cell in a list? -/
def memB (o : List Nat) (x : Nat) : Bool := decide (x ∈ o)
theorem memB_nil : memB [] = fun _ => false := by funext x; simp [memB]
theorem memB_yes {o : List Nat} {x : Nat} (h : memB o x = true) : visit o x = o := visit_in (by simpa [memB] using h)
theorem memB_no {o : List Nat} {x : Nat} (h : memB o x = false) : visit o x = o ++ [x] := visit_new (by simpa [memB] using h)
theorem memB_snoc (o : List Nat) (x : Nat) : memB (o ++ [x]) = setF (memB o) x := by
  funext y
  unfold setF memB
  by_cases e : y = x
  · simp [e]
  · simp [e]
theorem visitL_lt {n : Nat} {o l : List Nat} (ho : ∀ x ∈ o, x < n) (hl : ∀ x ∈ l, x < n) : ∀ x ∈ visitL o l, x < n := fun x hx => by
  rcases visitL_of _ _ _ hx with h | h
  · exact ho x h
  · exact hl x h
/-- different cells of a graph -/
def Cs (n : Nat) (o : List Nat) : Prop := o.Nodup ∧ ∀ x ∈ o, x < n
theorem Cs.len {n : Nat} {o : List Nat} (h : Cs n o) : o.length ≤ n := nodup_len h.1 h.2
theorem Cs.nil (n : Nat) : Cs n [] := ⟨by simp, fun x hx => by simp at hx⟩
theorem Cs.visit {n : Nat} {o : List Nat} {x : Nat} (h : Cs n o) (hx : x < n) : Cs n (visit o x) := ⟨visit_nodup h.1, fun y hy => by
  rcases visit_of hy with h1 | rfl
  · exact h.2 y h1
  · exact hx⟩
theorem OrdRel.cs {g : List Ce} {roots : List Nat} {i : Nat} {out : List Nat} (h : OrdRel g roots i out) : Cs g.length out := ⟨h.nd, h.lt⟩
/-- the place of a copy, or -1 -/
def placeV (o : List Nat) (x : Nat) : Int := if x ∈ o then (posN o x : Int) else -1
theorem placeV_nil : placeV [] = fun _ => -1 := by funext x; simp [placeV]
theorem placeV_snoc {o : List Nat} {x : Nat} (h : x ∉ o) (y : Nat) : placeV (o ++ [x]) y = if y = x then (o.length : Int) else placeV o y := by
  unfold placeV
  by_cases e : y = x
  · subst e
    rw [if_pos (by simp), if_pos rfl, posN_snoc o y h]
  · rw [if_neg e]
    by_cases hy : y ∈ o
    · rw [if_pos (by simp [hy]), if_pos hy, posN_app _ _ _ hy]
    · rw [if_neg (by simp [hy, e]), if_neg hy]
theorem placeV_in {o : List Nat} {x : Nat} (h : x ∈ o) : placeV o x = (posN o x : Int) := if_pos h
theorem take_not {o : List Nat} (hn : o.Nodup) {i x : Nat} (h : o[i]? = some x) : x ∉ o.take i := by
  intro hx
  obtain ⟨j, hj, e⟩ := List.getElem_of_mem hx
  rw [List.length_take] at hj
  rw [List.getElem_take] at e
  have hi : i < o.length := (List.getElem?_eq_some_iff.1 h).1
  have e2 : o[i] = x := (List.getElem?_eq_some_iff.1 h).2
  have := posN_at o j (by omega) hn
  rw [e, ← e2, posN_at o i hi hn] at this
  omega
end Go.Proofs.Ytjpjikfmdaejeaa
/-
  THE MODEL's l5Order: the cells in the order in which they are copied.
-/
namespace Go.Proofs.Ytjpjikfmdaejeaa
set_option linter.unusedVariables false
set_option linter.unusedSimpArgs false
open Go.RowKit

theorem bool_ne_int : (4 : TypeId) ≠ 3 := by decide

set_option maxRecDepth 100000 in
set_option maxHeartbeats 1600000 in
theorem l5Order_calls (g : List Ce) (rs : List Nat) (v rv : Value) (w : World) (hk : CIn w g v) (hr : IIn w (plI rs) rv) (hg : graphB g 6 = true) (hlt : ∀ x ∈ rs, x < g.length) (h20 : rs.length ≤ 20) :
    Calls Try.prog 34 #[v, rv] w (NewStk (orderG g rs) w) := by
  have HK : Hid (CIn w g v) := hk
  have HR : Hid (IIn w (plI rs) rv) := hr
  have HG : Hid (graphB g 6 = true) := hg
  have HLT : Hid (∀ x ∈ rs, x < g.length) := hlt
  have h400 : g.length ≤ 400 := graphB_len hg
  obtain ⟨ad, cap, rfl, hl, hm, -⟩ := hk
  obtain ⟨adr, capr, rfl, hlr, hmr⟩ := pl_form hr
  unfold maxLen at hm hmr
  have hmk := make_bools g.length (by omega)
  have HM0 : Hid (Marks ((w.alloc (.cells #[] 3)).alloc (.cells (madeCells #[.bool false] g.length) 4)) (w.heap.size + 1) g.length (memB [])) := by
    have h := no_marks (w.alloc (.cells #[] 3)) g.length
    rw [Deep.nblk_alloc] at h
    rw [memB_nil]; exact h
  have HS0 : Hid (Stk ((w.alloc (.cells #[] 3)).alloc (.cells (madeCells #[.bool false] g.length) 4)) w.heap.size [] (.slice (some ⟨w.heap.size, 0, none⟩) 0 0)) := (stk_zero (Deep.blk_alloc_new w _) (Nat.le_refl _)).alloc _
  clear hg hlt hr
  go_enter Try.func34, Try.ntmps34
  go_wp2_with fail
  go_loopw [5, 7] (fun out i wr => ∃ (k : Nat) (o : List Nat), k ≤ rs.length ∧ i = .int .i64 k ∧ o = visitL [] (rs.take k) ∧ Cs g.length o ∧ Stk wr w.heap.size o out ∧ Marks wr (w.heap.size + 1) g.length (memB o) ∧ Below w.heap.size w wr) (fun _ i _ => rs.length - (intOf i).toNat)
  case atStart => exact ⟨0, [], Nat.zero_le _, rfl, rfl, Cs.nil _, HS0.out, HM0.out, ((Below.refl _ _).alloc (Nat.le_refl _) _).alloc (by simp) _⟩
  case round =>
    obtain ⟨k, o, hk, rfl, ho, hcs, hst, hmk2, hb⟩ := hrel
    have HO : Hid (o = visitL [] (rs.take k)) := ho
    have HC : Hid (Cs g.length o) := hcs
    have hol := hcs.len
    have HB : Hid (Below w.heap.size w wr) := hb
    have HMK : Hid (Marks wr (w.heap.size + 1) g.length (memB o)) := hmk2
    have HS : Hid (Stk wr w.heap.size o u5) := hst
    obtain ⟨ad5, cap5, rfl⟩ := hst.len
    clear ho hcs hst
    by_cases hlt : k < rs.length
    · obtain ⟨bl, off, x, rfl, hbl, hx, hxm, d0w⟩ := pl_at HR.out k hlt
      have hxl := HLT.out x hxm
      have HX : Hid (rs[k]? = some x) := hx
      have d0 := (hb.cell (p := ⟨bl, off + k, none⟩) hbl).trans d0w
      have cm := hmk2.cell (i := x) hxl
      have fm := hmk2.frozen x
      clear hx hxm d0w hmk2 hb
      cases hf : memB o x with
      | true =>
        have HO2 : Hid (o = visitL [] (rs.take (k + 1))) := by rw [Hid, take_snoc HX.out, visitL_snoc, ← HO.out]; exact (memB_yes hf).symm
        rw [hf] at cm
        go_wp2_with fail
        go_roundw
        case rel => exact ⟨k + 1, o, by omega, by go_num, HO2.out, HC.out, HS.out, HMK.out, HB.out⟩
        case measure => simp [intOf]; omega
      | false =>
        have HO2 : Hid (o ++ [x] = visitL [] (rs.take (k + 1))) := by rw [Hid, take_snoc HX.out, visitL_snoc, ← HO.out]; exact (memB_no hf).symm
        have HC2 : Hid (Cs g.length (o ++ [x])) := by rw [Hid, ← memB_no hf]; exact HC.out.visit hxl
        rw [hf] at cm
        have hz3 : (wr.setCell ⟨w.heap.size + 1, x, none⟩ (.bool true)).heap.size = wr.heap.size := size_setCell _ _ _
        have HB3 : Hid (Below w.heap.size w (wr.setCell ⟨w.heap.size + 1, x, none⟩ (.bool true))) := HB.out.setCell (by simp) _
        have HS3 : Hid (Stk ((wr.setCell ⟨w.heap.size + 1, x, none⟩ (.bool true)).alloc (.cells #[.int .i64 (x : Int)] 3)) w.heap.size o (.slice ad5 o.length cap5)) := (HS.out.mark HMK.out bool_ne_int _ _).alloc _
        have HK3 : Hid (IIn ((wr.setCell ⟨w.heap.size + 1, x, none⟩ (.bool true)).alloc (.cells #[.int .i64 (x : Int)] 3)) [(x : Int)] (.slice (some ⟨wr.heap.size, 0, none⟩) 1 1)) := by
          have h := one_in (wr.setCell ⟨w.heap.size + 1, x, none⟩ (.bool true)) x
          rw [hz3] at h; exact h
        have HMK3 : Hid (Marks ((wr.setCell ⟨w.heap.size + 1, x, none⟩ (.bool true)).alloc (.cells #[.int .i64 (x : Int)] 3)) (w.heap.size + 1) g.length (memB (o ++ [x]))) := by
          have h : Marks (wr.setCell ⟨w.heap.size + 1, x, none⟩ (.bool true)) (w.heap.size + 1) g.length (setF (memB o) x) := HMK.out.mark x
          rw [Hid, memB_snoc]
          exact h.of_block (Deep.blk_alloc_lt _ _ _ h.lt)
        have HLO : Hid (w.heap.size ≤ ((wr.setCell ⟨w.heap.size + 1, x, none⟩ (.bool true)).alloc (.cells #[.int .i64 (x : Int)] 3)).heap.size) := by rw [Hid, Deep.nblk_alloc]; have := HB3.out.size; omega
        have d3 : (wr.setCell ⟨w.heap.size + 1, x, none⟩ (.bool true)).cell? ⟨bl, off + k, none⟩ = some (.int .i64 (x : Int)) := (World.cell?_of_block (Below.heap_setCell _ _ _ _ (by show bl ≠ w.heap.size + 1; omega))).trans d0
        clear hf hz3
        go_wp2_with (at_builtin; go_must (refine wpList_push rfl _ _ rfl _ w.heap.size o [x] (.slice ad5 o.length cap5) (.slice (some ⟨wr.heap.size, 0, none⟩) 1 1) rfl HS3.out rfl HK3.out rfl HLO.out (by simp; omega) ?_); go_must (intro v' w5 hst5 hg5); go_must (have HS5 : Hid (Stk w5 w.heap.size (o ++ [x]) v') := hst5); go_must (have HM5 : Hid (Marks w5 (w.heap.size + 1) g.length (memB (o ++ [x]))) := row_push HMK3.out HS3.out hg5 bool_ne_int); go_must (have HB5 : Hid (Below w.heap.size w w5) := push_below HS3.out (HB3.out.alloc HB3.out.size _) (Nat.le_refl _) hg5 (Nat.le_refl _)); clear hst5 hg5 d0 d3 cm fm)
        go_roundw
        case rel => first | exact ⟨k + 1, o ++ [x], by omega, by go_num, HO2.out, HC2.out, HS5.out, HM5.out, HB5.out⟩ | ((repeat apply Exists.intro); exact ⟨⟨k + 1, o ++ [x], by omega, by go_num, HO2.out, HC2.out, HS5.out, HM5.out, HB5.out⟩, rfl⟩)
        case measure => simp [intOf]; omega
    · have hke : k = rs.length := by omega
      have HE : Hid (OrdRel g rs 0 o) := by
        have h := HO.out
        rw [hke, List.take_length] at h
        rw [Hid, h]; exact OrdRel.start HLT.out
      clear hke hmk2 hb
      clear HO HC hol
      go_wp2_with fail
      go_loopw [5, 8] (fun out a wr => ∃ (i : Nat) (o : List Nat), a = .int .i64 i ∧ OrdRel g rs i o ∧ Stk wr w.heap.size o out ∧ Marks wr (w.heap.size + 1) g.length (memB o) ∧ Below w.heap.size w wr) (fun _ a _ => g.length - (intOf a).toNat)
      case atStart => exact ⟨0, o, rfl, HE.out, HS.out, HMK.out, HB.out⟩
      case round =>
        obtain ⟨i, o, rfl, hor, hst, hmk2, hb⟩ := hrel
        obtain ⟨wo, rfl⟩ : ∃ wo : World, wo = wr := ⟨_, rfl⟩
        have HE : Hid (OrdRel g rs i o) := hor
        have hol := hor.cs.len
        have hile := hor.le
        have HB : Hid (Below w.heap.size w wo) := hb
        have HMK : Hid (Marks wo (w.heap.size + 1) g.length (memB o)) := hmk2
        have HS : Hid (Stk wo w.heap.size o u5) := hst
        obtain ⟨ad5, cap5, rfl⟩ := hst.len
        clear hor
        by_cases hlt : i < o.length
        · obtain ⟨blo, offo, a, rfl, hblo, ha, ham, dow⟩ := pl_at HS.out.pin i hlt
          have hal := HE.out.lt a ham
          obtain ⟨bl, off, r2, rfl, c0w, c1w, c2w, -, -, hkk⟩ := HK.out.at a hal
          have hbl3 : bl < w.heap.size := cell_lt c0w
          have c2 := (hb.cell (p := ⟨bl, off + a * 3 + 2, none⟩) hbl3).trans c2w
          obtain ⟨ks, hks⟩ : ∃ ks, ks = kidsN g a := ⟨_, rfl⟩
          have HKK : Hid (IIn w (plI ks) r2) := by rw [Hid, hks]; exact kids_pl HG.out hal hkk
          obtain ⟨adk, capk, rfl, hlk, hmk⟩ := pl_form HKK.out
          have HNX : Hid (OrdRel g rs (i + 1) (visitL o ks)) := by
            have h := HE.out.step HG.out hlt
            rw [List.getD_eq_getElem?_getD, ha] at h
            rw [Hid, hks]; exact h
          have hk3 : ks.length ≤ 3 := by rw [hks]; exact kidsN_len HG.out a hal
          have HKL : Hid (∀ x ∈ ks, x < g.length) := by rw [hks]; exact fun x hx => kidsN_lt HG.out a hal x hx
          have HC0 : Hid (Cs g.length o) := HE.out.cs
          clear ha ham hkk hks c0w c1w c2w hst hmk2 hb
          go_wp2_with fail
          go_loopw [5, 10] (fun out z wr => ∃ (k : Nat) (p : List Nat), k ≤ ks.length ∧ z = .int .i64 k ∧ p = visitL o (ks.take k) ∧ Cs g.length p ∧ Stk wr w.heap.size p out ∧ Marks wr (w.heap.size + 1) g.length (memB p) ∧ Below w.heap.size w wr) (fun _ z _ => ks.length - (intOf z).toNat)
          case atStart => exact ⟨0, o, Nat.zero_le _, rfl, rfl, HC0.out, HS.out, HMK.out, HB.out⟩
          case round =>
            obtain ⟨k, p, hk, rfl, hp, hcs, hst, hmk2, hb⟩ := hrel
            have HO : Hid (p = visitL o (ks.take k)) := hp
            have HC : Hid (Cs g.length p) := hcs
            have hpl := hcs.len
            have HB : Hid (Below w.heap.size w wr) := hb
            have HMK : Hid (Marks wr (w.heap.size + 1) g.length (memB p)) := hmk2
            have HS : Hid (Stk wr w.heap.size p u5) := hst
            obtain ⟨ad5, cap5, rfl⟩ := hst.len
            clear hp hcs hst dow c2
            by_cases hltk : k < ks.length
            · obtain ⟨bl, off, x, rfl, hbl, hx, hxm, d0w⟩ := pl_at HKK.out k hltk
              have hxl := HKL.out x hxm
              have HX : Hid (ks[k]? = some x) := hx
              have d0 := (hb.cell (p := ⟨bl, off + k, none⟩) hbl).trans d0w
              have cm := hmk2.cell (i := x) hxl
              have fm := hmk2.frozen x
              clear hx hxm d0w hmk2 hb
              cases hf : memB p x with
              | true =>
                have HO2 : Hid (p = visitL o (ks.take (k + 1))) := by rw [Hid, take_snoc HX.out, visitL_snoc, ← HO.out]; exact (memB_yes hf).symm
                rw [hf] at cm
                go_wp2_with fail
                go_roundw
                case rel => exact ⟨k + 1, p, by omega, by go_num, HO2.out, HC.out, HS.out, HMK.out, HB.out⟩
                case measure => simp [intOf]; omega
              | false =>
                have HO2 : Hid (p ++ [x] = visitL o (ks.take (k + 1))) := by rw [Hid, take_snoc HX.out, visitL_snoc, ← HO.out]; exact (memB_no hf).symm
                have HC2 : Hid (Cs g.length (p ++ [x])) := by rw [Hid, ← memB_no hf]; exact HC.out.visit hxl
                rw [hf] at cm
                have hz3 : (wr.setCell ⟨w.heap.size + 1, x, none⟩ (.bool true)).heap.size = wr.heap.size := size_setCell _ _ _
                have HB3 : Hid (Below w.heap.size w (wr.setCell ⟨w.heap.size + 1, x, none⟩ (.bool true))) := HB.out.setCell (by simp) _
                have HS3 : Hid (Stk ((wr.setCell ⟨w.heap.size + 1, x, none⟩ (.bool true)).alloc (.cells #[.int .i64 (x : Int)] 3)) w.heap.size p (.slice ad5 p.length cap5)) := (HS.out.mark HMK.out bool_ne_int _ _).alloc _
                have HK3 : Hid (IIn ((wr.setCell ⟨w.heap.size + 1, x, none⟩ (.bool true)).alloc (.cells #[.int .i64 (x : Int)] 3)) [(x : Int)] (.slice (some ⟨wr.heap.size, 0, none⟩) 1 1)) := by
                  have h := one_in (wr.setCell ⟨w.heap.size + 1, x, none⟩ (.bool true)) x
                  rw [hz3] at h; exact h
                have HMK3 : Hid (Marks ((wr.setCell ⟨w.heap.size + 1, x, none⟩ (.bool true)).alloc (.cells #[.int .i64 (x : Int)] 3)) (w.heap.size + 1) g.length (memB (p ++ [x]))) := by
                  have h : Marks (wr.setCell ⟨w.heap.size + 1, x, none⟩ (.bool true)) (w.heap.size + 1) g.length (setF (memB p) x) := HMK.out.mark x
                  rw [Hid, memB_snoc]
                  exact h.of_block (Deep.blk_alloc_lt _ _ _ h.lt)
                have HLO : Hid (w.heap.size ≤ ((wr.setCell ⟨w.heap.size + 1, x, none⟩ (.bool true)).alloc (.cells #[.int .i64 (x : Int)] 3)).heap.size) := by rw [Hid, Deep.nblk_alloc]; have := HB3.out.size; omega
                have d3 : (wr.setCell ⟨w.heap.size + 1, x, none⟩ (.bool true)).cell? ⟨bl, off + k, none⟩ = some (.int .i64 (x : Int)) := (World.cell?_of_block (Below.heap_setCell _ _ _ _ (by show bl ≠ w.heap.size + 1; omega))).trans d0
                clear hf hz3
                go_wp2_with (at_builtin; go_must (refine wpList_push rfl _ _ rfl _ w.heap.size p [x] (.slice ad5 p.length cap5) (.slice (some ⟨wr.heap.size, 0, none⟩) 1 1) rfl HS3.out rfl HK3.out rfl HLO.out (by simp; omega) ?_); go_must (intro v' w5 hst5 hg5); go_must (have HS5 : Hid (Stk w5 w.heap.size (p ++ [x]) v') := hst5); go_must (have HM5 : Hid (Marks w5 (w.heap.size + 1) g.length (memB (p ++ [x]))) := row_push HMK3.out HS3.out hg5 bool_ne_int); go_must (have HB5 : Hid (Below w.heap.size w w5) := push_below HS3.out (HB3.out.alloc HB3.out.size _) (Nat.le_refl _) hg5 (Nat.le_refl _)); clear hst5 hg5 d0 d3 cm fm)
                go_roundw
                case rel => first | exact ⟨k + 1, p ++ [x], by omega, by go_num, HO2.out, HC2.out, HS5.out, HM5.out, HB5.out⟩ | ((repeat apply Exists.intro); exact ⟨⟨k + 1, p ++ [x], by omega, by go_num, HO2.out, HC2.out, HS5.out, HM5.out, HB5.out⟩, rfl⟩)
                case measure => simp [intOf]; omega
            · have hke : k = ks.length := by omega
              have HE2 : Hid (OrdRel g rs (i + 1) p) := by
                have h := HO.out
                rw [hke, List.take_length] at h
                rw [Hid, h]; exact HNX.out
              clear hke hmk2 hb
              go_wp2_with fail
              go_roundw
              case rel => exact ⟨i + 1, p, by go_num, HE2.out, HS.out, HMK.out, HB.out⟩
              case measure => simp [intOf]; omega
        · have HV : Hid (o = orderG g rs) := HE.out.fin hlt
          clear hst hmk2 hb
          go_wp2_with fail
          go_ret
          exact ⟨_, rfl, by rw [← HV.out]; exact HS.out, HB.out⟩
end Go.Proofs.Ytjpjikfmdaejeaa
/-
  THE MODEL's l5Places: the places of copies.
-/
namespace Go.Proofs.Ytjpjikfmdaejeaa
set_option linter.unusedVariables false
set_option linter.unusedSimpArgs false
open Go.RowKit

/-- a row of places of copies -/
abbrev PlW (w : World) (b n : Nat) (o : List Nat) : Prop := w.rowIs b 3 n (fun x => .int .i64 (placeV o x))
def NewPl (n : Nat) (o : List Nat) (w : World) (e : Ending) (w' : World) : Prop :=
  ∃ b, e = .returned (.slice (some ⟨b, 0, none⟩) n n) ∧ w.heap.size ≤ b ∧ PlW w' b n o ∧ Below w.heap.size w w'

set_option maxRecDepth 100000 in
set_option maxHeartbeats 1600000 in
theorem l5Places_calls (n : Nat) (o : List Nat) (ov : Value) (w : World) (ho : IIn w (plI o) ov) (hc : Cs n o) (hn : n ≤ 400) :
    Calls Try.prog 43 #[.int .i64 (n : Int), ov] w (NewPl n o w) := by
  have HO : Hid (IIn w (plI o) ov) := ho
  have HC : Hid (Cs n o) := hc
  obtain ⟨ad, cap, rfl, hl, hm⟩ := pl_form ho
  unfold maxLen at hm
  have hol := hc.len
  have hmk := make_ints n (by omega)
  have HZ : Hid ((w.alloc (.cells (madeCells #[.int .i64 0] n) 3)).rowIs w.heap.size 3 n (fun x => .int .i64 (if x < 0 then -1 else 0))) := World.rowIs.congr (zero_row w n) fun i _ => by simp
  clear hc ho
  go_enter Try.func43, Try.ntmps43
  go_wp2_with fail
  go_loopw [6] (fun i wr => ∃ k : Nat, k ≤ n ∧ i = .int .i64 k ∧ wr.rowIs w.heap.size 3 n (fun x => .int .i64 (if x < k then -1 else 0)) ∧ Below w.heap.size w wr) (fun i _ => n - (intOf i).toNat)
  case atStart => exact ⟨0, Nat.zero_le _, rfl, HZ.out, (Below.refl _ _).alloc (Nat.le_refl _) _⟩
  case round =>
    obtain ⟨k, hk, rfl, hrow, hb⟩ := hrel
    have HB : Hid (Below w.heap.size w wr) := hb
    have HR : Hid (wr.rowIs w.heap.size 3 n (fun x => .int .i64 (if x < k then -1 else 0))) := hrow
    by_cases hlt : k < n
    · have cm : wr.cell? ⟨w.heap.size, k, none⟩ = some (.int .i64 0) := by have h := hrow.cell (i := k) hlt; simpa using h
      have fm := hrow.frozen k
      have HR2 : Hid ((wr.setCell ⟨w.heap.size, k, none⟩ (.int .i64 (-1))).rowIs w.heap.size 3 n (fun x => .int .i64 (if x < k + 1 then -1 else 0))) := by
        refine World.rowIs.congr (hrow.set k _) fun x _ => ?_
        by_cases e : x = k
        · subst e; simp
        · have : (x < k + 1) = (x < k) := by apply propext; omega
          simp [e, this]
      have HB2 : Hid (Below w.heap.size w (wr.setCell ⟨w.heap.size, k, none⟩ (.int .i64 (-1)))) := hb.setCell (Nat.le_refl _) _
      clear hrow hb
      go_wp2_with fail
      go_roundw
      case rel => exact ⟨k + 1, by omega, by go_num, HR2.out, HB2.out⟩
      case measure => simp [intOf]; omega
    · have hke : k = n := by omega
      have HP : Hid (PlW wr w.heap.size n (o.take 0)) := by
        refine World.rowIs.congr HR.out fun x hx => ?_
        simp [placeV_nil, hke, hx]
      clear hke hrow hb
      go_wp2_with fail
      go_loopw [7] (fun i wr => ∃ k : Nat, k ≤ o.length ∧ i = .int .i64 k ∧ PlW wr w.heap.size n (o.take k) ∧ Below w.heap.size w wr) (fun i _ => o.length - (intOf i).toNat)
      case atStart => exact ⟨0, Nat.zero_le _, rfl, HP.out, HB.out⟩
      case round =>
        obtain ⟨k, hk, rfl, hrow, hb⟩ := hrel
        have HB : Hid (Below w.heap.size w wr) := hb
        have HR : Hid (PlW wr w.heap.size n (o.take k)) := hrow
        by_cases hlt : k < o.length
        · obtain ⟨bl, off, x, rfl, hbl, hx, hxm, d0w⟩ := pl_at HO.out k hlt
          have hxl := HC.out.2 x hxm
          have d0 := (hb.cell (p := ⟨bl, off + k, none⟩) hbl).trans d0w
          have cm := hrow.cell (i := x) hxl
          have fm := hrow.frozen x
          have HR2 : Hid (PlW (wr.setCell ⟨w.heap.size, x, none⟩ (.int .i64 (k : Int))) w.heap.size n (o.take (k + 1))) := by
            refine World.rowIs.congr (hrow.set x _) fun y _ => ?_
            rw [take_snoc hx, placeV_snoc (take_not HC.out.1 hx), List.length_take, Nat.min_eq_left (by omega)]
            by_cases e : y = x
            · simp [e]
            · simp [e]
          have HB2 : Hid (Below w.heap.size w (wr.setCell ⟨w.heap.size, x, none⟩ (.int .i64 (k : Int)))) := hb.setCell (Nat.le_refl _) _
          clear hx hxm d0w hrow hb
          go_wp2_with fail
          go_roundw
          case rel => exact ⟨k + 1, by omega, by go_num, HR2.out, HB2.out⟩
          case measure => simp [intOf]; omega
        · have hke : k = o.length := by omega
          have HV : Hid (PlW wr w.heap.size n o) := by
            have h := HR.out
            rw [hke, List.take_length] at h; exact h
          clear hke hrow hb
          go_wp2_with fail
          go_ret
          exact ⟨_, rfl, Nat.le_refl _, HV.out, HB.out⟩
end Go.Proofs.Ytjpjikfmdaejeaa
