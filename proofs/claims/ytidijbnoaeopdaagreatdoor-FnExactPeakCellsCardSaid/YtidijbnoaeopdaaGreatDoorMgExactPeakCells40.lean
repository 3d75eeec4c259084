/-
  THE PROGRAM's isSelection, partOf AND redirect, precisely.
-/
import Derived.Test.YtidijbnoaeopdaaGreatDoorMgExactPeakCells20
import Derived.Test.YtidijbnoaeopdaaGreatDoorMgExactPeakCells1
import Derived.Test.YtidijbnoaeopdaaGreatDoorMgExactPeakCells17
namespace Go.Proofs.YtidijbnoaeopdaaGreatDoor
set_option linter.unusedVariables false
set_option linter.unusedSimpArgs false
open Go.RowKit

theorem isSel_calls (op n : Int) (adk : Option Addr) (nk ck : Nat) (ks : List Int) (w : World) :
    Calls Tryz.prog 131 #[.agg #[.int .i64 op, .int .i64 n, .slice adk nk ck]] w fun e w' => e = .returned (.bool (selB ⟨op, n, ks⟩)) ∧ Below w.heap.size w w' := by
  have HB : Hid (Below w.heap.size w (w.alloc (.cells #[.int .i64 op, .int .i64 n, .slice adk nk ck] 93))) := box_below _ _
  have HV : Hid (selB ⟨op, n, ks⟩ = (op == 6 || op == 7)) := rfl
  by_cases h6 : op = 6
  · have t6 : (op == 6) = true := by simp [h6]
    have HR : Hid (selB ⟨op, n, ks⟩ = true) := by rw [Hid, HV.out, t6]; rfl
    clear h6
    go_enter Tryz.func131, Tryz.ntmps131
    go_wp2_with fail
    go_ret
    exact ⟨ret_bool HR.out.symm, HB.out⟩
  · have t6 : (op == 6) = false := by simp [h6]
    by_cases h7 : op = 7
    · have t7 : (op == 7) = true := by simp [h7]
      have HR : Hid (selB ⟨op, n, ks⟩ = true) := by rw [Hid, HV.out, t6, t7]; rfl
      clear h6 h7
      go_enter Tryz.func131, Tryz.ntmps131
      go_wp2_with fail
      go_ret
      exact ⟨ret_bool HR.out.symm, HB.out⟩
    · have t7 : (op == 7) = false := by simp [h7]
      have HR : Hid (selB ⟨op, n, ks⟩ = false) := by rw [Hid, HV.out, t6, t7]; rfl
      clear h6 h7
      go_enter Tryz.func131, Tryz.ntmps131
      go_wp2_with fail
      go_ret
      exact ⟨ret_bool HR.out.symm, HB.out⟩
theorem partA_calls (op o n : Int) (xs : List Int) (k : Nat) (kv : Value) (w : World) (hk : IIn w xs kv) (h0 : 0 < xs.length) (he : xs[0] = (k : Int)) (ht : (op == 6) = true) :
    Calls Tryz.prog 130 #[.int .i64 op, .agg #[.int .i64 o, .int .i64 n, kv]] w fun e w' => e = .returned (.int .i64 (k : Int)) ∧ Below w.heap.size w w' := by
  obtain ⟨ad, cap, rfl, hl, hm, -⟩ := id hk
  obtain ⟨bk, ok, rfl, d0⟩ := hk.at 0 h0
  rw [he, Nat.add_zero] at d0
  have x2 := box_cell w #[.int .i64 o, .int .i64 n, .slice (some ⟨bk, ok, none⟩) xs.length cap] 93 2 _ rfl
  have dk := old_cell d0 (.cells #[.int .i64 o, .int .i64 n, .slice (some ⟨bk, ok, none⟩) xs.length cap] 93)
  have h0I : (0 : Int) < (xs.length : Int) := by omega
  have HB : Hid (Below w.heap.size w (w.alloc (.cells #[.int .i64 o, .int .i64 n, .slice (some ⟨bk, ok, none⟩) xs.length cap] 93))) := box_below _ _
  clear hk he d0
  go_enter Tryz.func130, Tryz.ntmps130
  go_wp2_with fail
  go_ret
  exact ⟨rfl, HB.out⟩
theorem partB_calls (op o n : Int) (xs : List Int) (k : Nat) (kv : Value) (w : World) (hk : IIn w xs kv) (h0 : 1 < xs.length) (he : xs[1] = (k : Int)) (ht : (op == 6) = false) :
    Calls Tryz.prog 130 #[.int .i64 op, .agg #[.int .i64 o, .int .i64 n, kv]] w fun e w' => e = .returned (.int .i64 (k : Int)) ∧ Below w.heap.size w w' := by
  obtain ⟨ad, cap, rfl, hl, hm, -⟩ := id hk
  obtain ⟨bk, ok, rfl, d0⟩ := hk.at 1 h0
  rw [he] at d0
  have x2 := box_cell w #[.int .i64 o, .int .i64 n, .slice (some ⟨bk, ok, none⟩) xs.length cap] 93 2 _ rfl
  have dk := old_cell d0 (.cells #[.int .i64 o, .int .i64 n, .slice (some ⟨bk, ok, none⟩) xs.length cap] 93)
  have h0I : (1 : Int) < (xs.length : Int) := by omega
  have HB : Hid (Below w.heap.size w (w.alloc (.cells #[.int .i64 o, .int .i64 n, .slice (some ⟨bk, ok, none⟩) xs.length cap] 93))) := box_below _ _
  clear hk he d0
  go_enter Tryz.func130, Tryz.ntmps130
  go_wp2_with fail
  go_ret
  exact ⟨rfl, HB.out⟩
/-- the part that a selection takes of a pair -/
theorem part_calls {G : List Ce} {defs : Int} (hg : graphB G defs = true) (i q : Nat) (hi : i < G.length) (hq : q < G.length) (hs : G[i].op = 6 ∨ G[i].op = 7) (h5 : G[q].op = 5) (kv : Value) (w : World) (hk : IIn w G[q].kids kv) :
    Calls Tryz.prog 130 #[.int .i64 G[i].op, .agg #[.int .i64 G[q].op, .int .i64 G[q].num, kv]] w fun e w' => e = .returned (.int .i64 (partG G (opAt G i) q : Int)) ∧ Below w.heap.size w w' := by
  have h2 := pair_kids hg hq h5
  rcases hs with h | h
  · have e : partG G (opAt G i) q = kidAt G q 0 := by unfold partG; rw [opAt_at i hi, h]; rfl
    rw [e]
    exact partA_calls _ _ _ _ _ _ _ hk (by omega) (kidAt_get hg q hq 0 (by omega)).1 (by rw [h]; rfl)
  · have e : partG G (opAt G i) q = kidAt G q 1 := by unfold partG; rw [opAt_at i hi, h]; rfl
    rw [e]
    exact partB_calls _ _ _ _ _ _ _ hk (by omega) (kidAt_get hg q hq 1 (by omega)).1 (by rw [h]; rfl)

set_option maxRecDepth 100000 in
set_option maxHeartbeats 1600000 in
theorem redirectE_calls (A b N cap at' k lo : Nat) (ys : List Value) (w : World) (hA : w.heap[A]? = some (.cells #[.slice (some ⟨b, 0, none⟩) N cap] 149)) (hys : w.ownsRow lo 93 3 (.slice (some ⟨b, 0, none⟩) N cap) N ys) (hat : at' < N) (hN : N ≤ 1048576) :
    Calls Tryz.prog 129 #[.pointer (some ⟨A, 0, none⟩), .int .i64 (at' : Int), .int .i64 (k : Int)] w fun e w' => e = .returned (.tuple #[]) ∧ st3 (w.alloc (.cells #[.int .i64 (k : Int)] 3)) b at' 11 0 (.slice (some ⟨w.heap.size, 0, none⟩) 1 1) = w' := by
  have a0 := cell_of_blk hA 0 _ rfl
  have a0' := old_cell a0 (.cells #[.int .i64 (k : Int)] 3)
  have hys2 := World.ownsRow.alloc hys (.cells #[.int .i64 (k : Int)] 3)
  obtain ⟨q0, y0⟩ := own_cellW hys2 (at' * 3) (by omega)
  obtain ⟨q1, y1⟩ := own_cellW hys2 (at' * 3 + 1) (by omega)
  obtain ⟨q2, y2⟩ := own_cellW hys2 (at' * 3 + 2) (by omega)
  have f0 := hys2.frozenAt (at' * 3)
  have f1 := hys2.frozenAt (at' * 3 + 1)
  have f2 := hys2.frozenAt (at' * 3 + 2)
  have hatI : (at' : Int) < (N : Int) := by omega
  clear hys hys2 hA
  go_enter Tryz.func129, Tryz.ntmps129
  go_wp2_with fail
  go_end0
  exact ⟨rfl, rfl⟩
end Go.Proofs.YtidijbnoaeopdaaGreatDoor
/-
  THE PROGRAM's selections: the cells that are selections.
-/
namespace Go.Proofs.YtidijbnoaeopdaaGreatDoor
set_option linter.unusedVariables false
set_option linter.unusedSimpArgs false
open Go.RowKit

def selL (g : List Ce) (k : Nat) : List Nat := (List.range k).filter fun i => selB (cellD g i)
theorem selL_yes {g : List Ce} {k : Nat} (h : selB (cellD g k) = true) : selL g (k + 1) = selL g k ++ [k] := by
  unfold selL; rw [List.range_succ, List.filter_append]; simp [h]
theorem selL_no {g : List Ce} {k : Nat} (h : selB (cellD g k) = false) : selL g (k + 1) = selL g k := by
  unfold selL; rw [List.range_succ, List.filter_append]; simp [h]
theorem selL_len (g : List Ce) (k : Nat) : (selL g k).length ≤ k := by
  unfold selL; have := List.length_filter_le (fun i => selB (cellD g i)) (List.range k); rw [List.length_range] at this; exact this
theorem selL_nodup (g : List Ce) (k : Nat) : (selL g k).Nodup := List.Nodup.sublist List.filter_sublist List.nodup_range
theorem selL_mem (g : List Ce) (i : Nat) : i ∈ selL g g.length ↔ isSel g i := by
  unfold selL
  rw [List.mem_filter, List.mem_range, isSel_B]
  exact ⟨fun h => h.2, fun h => ⟨isSel_lt ((isSel_B g i).2 h), h⟩⟩
theorem cellD_at {g : List Ce} {k : Nat} (h : k < g.length) : cellD g k = g[k] := getD_at _ _ _ h

set_option maxRecDepth 100000 in
set_option maxHeartbeats 1600000 in
theorem selections_calls (A : Nat) (g : List Ce) (gv : Value) (w : World) (hA : w.heap[A]? = some (.cells #[gv] 149)) (hC : CIn w g gv) (h400 : g.length ≤ 400) :
    Calls Tryz.prog 128 #[.pointer (some ⟨A, 0, none⟩)] w (NewStk (selL g g.length) w) := by
  have HC := mkHid hC
  obtain ⟨ad, cap, rfl, hl, hm, -⟩ := hC
  unfold maxLen at hm
  have a0 := cell_of_blk hA 0 _ rfl
  have HST : Hid (Stk w w.heap.size (selL g 0) (.slice none 0 0)) := World.ownsRow_nil _ _ _ _
  clear hA
  go_enter Tryz.func128, Tryz.ntmps128
  go_wp2_with fail
  go_loopw [3, 11] (fun pv z wr => ∃ k : Nat, k ≤ g.length ∧ z = .int .i64 k ∧ Stk wr w.heap.size (selL g k) pv ∧ Below w.heap.size w wr) (fun _ z _ => g.length - (intOf z).toNat)
  case atStart => exact ⟨0, Nat.zero_le _, rfl, HST.out, Below.refl _ _⟩
  case round =>
    obtain ⟨k, hk, rfl, hst, hb⟩ := hrel
    have HS := mkHid hst
    have HB : Hid (Below w.heap.size w wr) := hb
    have hsw := hb.size
    have hll := selL_len g k
    obtain ⟨n, hn⟩ : ∃ n, n = (selL g k).length := ⟨_, rfl⟩
    have HN := mkHid hn
    obtain ⟨adp, capp, rfl⟩ : ∃ ad cap, u3 = .slice ad n cap := by obtain ⟨x, y, e⟩ := hst.len; rw [← hn] at e; exact ⟨x, y, e⟩
    rw [← hn] at hll
    clear hst hn
    by_cases hlt : k < g.length
    · obtain ⟨bl, off, r2, rfl, c0, c1, c2, -, -, hkk⟩ := (HC.out.next hb).at k hlt
      obtain ⟨adk, capk, rfl, -, -, -⟩ := id hkk
      have HBX : Hid (Below wr.heap.size wr (wr.alloc (.cells #[.int .i64 g[k].op, .int .i64 g[k].num, .slice adk g[k].kids.length capk] 93))) := box_below _ _
      have HCD := mkHid (cellD_at hlt)
      clear hb hkk
      go_wp2_with fail
      refine (isSel_calls g[k].op g[k].num adk g[k].kids.length capk g[k].kids _).mono ?_
      rintro e w1 ⟨rfl, hb1⟩
      have HB0 : Hid (Below wr.heap.size wr w1) := HBX.out.trans (hb1.mono (by rw [Deep.nblk_alloc]; omega))
      have HB1 : Hid (Below w.heap.size w w1) := HB.out.trans (HB0.out.mono HB.out.size)
      have HS1 : Hid (Stk w1 w.heap.size (selL g k) (.slice adp n capp)) := HS.out.next HB0.out
      have hzw := HB1.out.size
      clear hb1 c0 c1 c2
      cases hsb : selB ⟨g[k].op, g[k].num, g[k].kids⟩ with
      | false =>
        have HV : Hid (selL g (k + 1) = selL g k) := selL_no (by rw [HCD.out]; exact hsb)
        clear hsb
        go_wp2_with fail
        go_roundw
        case rel => exact ⟨k + 1, by omega, by go_num, by rw [HV.out]; exact HS1.out, HB1.out⟩
        case measure => simp [intOf]; omega
      | true =>
        have HV : Hid (selL g (k + 1) = selL g k ++ [k]) := selL_yes (by rw [HCD.out]; exact hsb)
        have HS3 : Hid (Stk (w1.alloc (.cells #[.int .i64 (k : Int)] 3)) w.heap.size (selL g k) (.slice adp n capp)) := HS1.out.alloc _
        have HK3 : Hid (IIn (w1.alloc (.cells #[.int .i64 (k : Int)] 3)) [(k : Int)] (.slice (some ⟨w1.heap.size, 0, none⟩) 1 1)) := one_in w1 k
        have HLO : Hid (w.heap.size ≤ (w1.alloc (.cells #[.int .i64 (k : Int)] 3)).heap.size) := by rw [Hid, Deep.nblk_alloc]; omega
        clear hsb
        go_wp2_with (at_builtin; go_must (refine wpList_push rfl _ _ rfl _ w.heap.size (selL g k) [k] (.slice adp n capp) (.slice (some ⟨w1.heap.size, 0, none⟩) 1 1) rfl HS3.out rfl HK3.out rfl HLO.out (by rw [← HN.out]; simp; omega) ?_); go_must (intro v' w5 hst5 hg5); go_must (have HS5 := mkHid hst5); go_must (have HB5 : Hid (Below w.heap.size w w5) := push_below HS3.out (HB1.out.alloc hzw _) (Nat.le_refl _) hg5 (Nat.le_refl _)); clear hst5 hg5)
        go_roundw
        case rel => first | exact ⟨k + 1, by omega, by go_num, by rw [HV.out]; exact HS5.out, HB5.out⟩ | ((repeat apply Exists.intro); exact ⟨⟨k + 1, by omega, by go_num, by rw [HV.out]; exact HS5.out, HB5.out⟩, rfl⟩)
        case measure => simp [intOf]; omega
    · have hke : k = g.length := by omega
      have HV : Hid (Stk wr w.heap.size (selL g g.length) (.slice adp n capp)) := by
        have h := HS.out
        rw [hke] at h; exact h
      clear hb hke
      go_wp2_with fail
      go_ret
      exact ⟨_, rfl, HV.out, HB.out⟩
end Go.Proofs.YtidijbnoaeopdaaGreatDoor
