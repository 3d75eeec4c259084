/-
  THE MODEL's l4Redex.
-/
import Derived.Test.YtiipcgnkfhjpeaaGreatDoorMgExactStepRun26
import Derived.Test.YtiipcgnkfhjpeaaGreatDoorMgExactStepRun16
import Derived.Deep.LoopGhost
namespace Go.Proofs.YtiipcgnkfhjpeaaGreatDoor
set_option linter.unusedVariables false
set_option linter.unusedSimpArgs false
open Go.RowKit

theorem ret_ii {a b c d : Int} (h : a = b) (h' : c = d) : Ending.returned (.tuple #[.int .i64 a, .int .i64 c]) = .returned (.tuple #[.int .i64 b, .int .i64 d]) := by rw [h, h']
/-- the contract of l4Redex with n operands left -/
def L4R (ds : List Df) (g : List Ce) (n : Nat) : Prop := ∀ (seen a : Nat) (c v : Value) (w : World), DIn w ds c → CIn w g v → a < g.length → seen + n = g.length + 1 → valB (arsOf ds) g a = false →
  Calls Tryz.prog 75 #[c, v, .int .i64 (a : Int), .int .i64 (seen : Int)] w fun e w' => e = .returned (.tuple #[.int .i64 (rdI (redexN (arsOf ds) g n a)), .int .i64 (rdC (redexN (arsOf ds) g n a) : Int)]) ∧ Below w.heap.size w w'

set_option maxRecDepth 100000 in
set_option maxHeartbeats 6400000 in
theorem l4R_step (ds : List Df) (g : List Ce) (n : Nat) (hg : graphB g ds.length = true) (hp : progB ds = true) (ih : ∀ m, n = m + 1 → L4R ds g m) : L4R ds g n := by
  intro seen a c v w hd hk ha hsn hv
  have HD : Hid (DIn w ds c) := hd
  have HK : Hid (CIn w g v) := hk
  have HG := mkHid hg
  have HP := mkHid hp
  have HIH := mkHid ih
  have HVA := mkHid hv
  have HSN := mkHid hsn
  obtain ⟨ad, cap, rfl, hl, hm, -⟩ := hk
  obtain ⟨adp, capp, rfl, hlp, hmp, -⟩ := hd
  have h400 : g.length ≤ 400 := graphB_len hg
  have hseen : seen ≤ 401 := by omega
  unfold maxLen at hm hmp
  clear hg hp ih hv hsn
  go_enter Tryz.func75, Tryz.ntmps75
  go_wp2_with fail
  refine (l4Spine_calls g a _ _ HK.out ⟨_, HG.out⟩ ha).mono ?_
  rintro e w1 ⟨xs, v1, hxs, rfl, hi1, hb1⟩
  have HB1 : Hid (Below w.heap.size w w1) := hb1
  have HXS := mkHid hxs
  have HI1 : Hid (IntRow w1 w.heap.size (plI xs) v1) := hi1
  have hlx : xs.length ≤ 9223372036854775807 := by
    obtain ⟨ad2, cap2, rfl, l1, l2, -⟩ := hi1
    rw [plI_length] at l1
    unfold maxLen at l2
    omega
  obtain ⟨ad2, cap2, rfl, -, -, -⟩ := hi1
  rw [plI_length]
  rw [plI_length] at HI1
  clear hb1 hxs
  cases hs : spine g a with
  | none =>
    have HV : Hid (redexN (arsOf ds) g n a = none) := redexN_none hs
    have e1 : spI none = -1 := rfl
    rw [e1]
    clear hs
    go_wp2_with fail
    go_ret2
    exact ⟨ret_ii (by rw [HV.out]; rfl) (by rw [HV.out]; rfl), HB1.out⟩
  | some x =>
    obtain ⟨f, ws⟩ := x
    obtain rfl : xs = ws := HXS.out _ hs
    have hok := spine_ok HG.out ha hs
    have hff : f < g.length := hok.1
    have HOK := mkHid hok
    have HS : Hid (spine g a = some (f, xs)) := hs
    have e1 : spI (some (f, xs)) = (f : Int) := rfl
    rw [e1]
    have hbn : ¬ ((f : Int) < 0) := by omega
    have HOP : Hid (opAt g f = g[f].op) := opAt_at f hff
    clear hs hok
    by_cases hsl : g.length < seen
    · have HV : Hid (redexN (arsOf ds) g n a = none) := by
        have : n = 0 := by have := HSN.out; omega
        subst this; rfl
      go_wp2_with fail
      go_ret2
      exact ⟨ret_ii (by rw [HV.out]; rfl) (by rw [HV.out]; rfl), HB1.out⟩
    obtain ⟨m, rfl⟩ : ∃ m, n = m + 1 := ⟨n - 1, by have := HSN.out; omega⟩
    have HIM : Hid (L4R ds g m) := HIH.out m rfl
    obtain ⟨bl, off, r, rfl, c0, c1, c2, -, -, hkk⟩ := (HK.out.next HB1.out).at f hff
    obtain ⟨adk, capk, rfl, -, -, -⟩ := id hkk
    clear HIH
    by_cases ho3 : g[f].op = 3
    · obtain ⟨nn, hn, hnl⟩ := glob_num HG.out f hff ho3
      have hnl' : nn < ds.length := by omega
      have h0 := prog_ar HP.out nn hnl'
      have hle := call_idx (n := nn) HS.out (by rw [HOP.out]; exact ho3) (by rw [numAt_at f hff]; exact hn) hnl' HVA.out
      obtain ⟨ar, har⟩ : ∃ ar : Nat, ds[nn].1 = (ar : Int) := ⟨ds[nn].1.toNat, by omega⟩
      have hrd : redexN (arsOf ds) g (m + 1) a = some (callAt f xs (ar : Int)) := by
        rw [redexN_glob HS.out (by rw [HOP.out]; exact ho3), numAt_at f hff, hn, arOf_at ds nn hnl', har]
      have t3 : (g[f].op == 3) = true := by simp [ho3]
      obtain ⟨blp, offp, rp, rfl, d0, d1, d2, d3, -⟩ := (HD.out.next HB1.out).at nn hnl'
      rw [hn] at c1
      rw [har] at d0
      rw [har] at hle
      have hle2 : ar ≤ xs.length := by omega
      by_cases hz : ar = 0
      · subst hz
        have HV : Hid (redexN (arsOf ds) g (m + 1) a = some f) := by rw [Hid, hrd, Int.ofNat_zero, callAt_zero]
        have d0' : w1.cell? ⟨blp, offp + nn * 4, none⟩ = some (.int .i64 0) := d0
        clear ho3 hn d1 d2 d3 hrd har hkk h0 hle hle2 d0
        go_wp2_with fail
        go_ret2
        exact ⟨ret_ii (by rw [HV.out]; rfl) (by rw [HV.out]; rfl), HB1.out⟩
      · obtain ⟨q, hq⟩ : ∃ q, q + ar = xs.length := ⟨xs.length - ar, by omega⟩
        have hql : q < xs.length := by omega
        have HV : Hid (redexN (arsOf ds) g (m + 1) a = some xs[q]) := by rw [Hid, hrd, callAt_at hz hq]
        obtain ⟨ad4, cap4, he4, hcl4, -, hr4⟩ := HI1.out
        rw [plI_length] at hcl4
        simp only [Value.slice.injEq] at he4
        obtain ⟨rfl, -, rfl⟩ := he4
        have hne : ¬ plI xs = [] := by intro e; have h1 := plI_length xs; rw [e, List.length_nil] at h1; omega
        rcases hr4 with hr4 | ⟨gb, fb, rfl, hlo, hrow, hfb⟩
        · exact absurd hr4 hne
        have q0 : w1.cell? ⟨gb, xs.length - ar, none⟩ = some (.int .i64 (xs[q] : Int)) := by
          have hqe : xs.length - ar = q := by omega
          have hqp : q < (plI xs).length := by rw [plI_length]; exact hql
          have h1 := hfb q hqp
          rw [hqe, hrow.cell (by omega), h1]
          simp [plI]
        have tq : ((xs.length : Int) - (ar : Int) == (xs.length : Int)) = false := by rw [beq_eq_false_iff_ne]; omega
        have hq0 : 0 ≤ (xs.length : Int) - (ar : Int) := by omega
        have hq1 : (xs.length : Int) - (ar : Int) < (xs.length : Int) := by omega
        clear ho3 hn d1 d2 d3 hrd har hkk h0 hle hrow hfb hne hcl4
        go_wp2_with fail
        go_ret2
        exact ⟨ret_ii (by rw [HV.out]; rfl) (by rw [HV.out]; rfl), HB1.out⟩
    have t3 : (g[f].op == 3) = false := by simp [ho3]
    have HO3 := mkHid ho3
    have HC0 := mkHid c0
    have HC1 := mkHid c1
    have HC2 := mkHid c2
    have HKK := mkHid hkk
    clear c1 c2 hkk ho3
    go_wp2_with fail
    refine (l4Value_calls ds g f _ _ _ (HD.out.next HB1.out) (HK.out.next HB1.out) HG.out hff).mono ?_
    rintro e w2 ⟨rfl, hb2⟩
    have HB2 : Hid (Below w.heap.size w w2) := HB1.out.trans (hb2.mono HB1.out.size)
    have HS12 : Hid (Below w1.heap.size w1 w2) := hb2
    clear hb2 c0 t3
    have hself : spine g f = some (f, []) := spine_self hff HOK.out.2.1 HOK.out.2.2.1
    by_cases ho25 : g[f].op = 2 ∨ g[f].op = 5
    · have HV : Hid (redexN (arsOf ds) g (m + 1) a = none) := redexN_val HS.out (by rw [HOP.out]; exact ho25)
      have hvf : valB (arsOf ds) g f = true := by rw [valB_num hself (by rw [HOP.out]; exact ho25)]; rfl
      rw [hvf]
      clear ho25 hself hvf
      go_wp2_with fail
      go_ret2
      exact ⟨ret_ii (by rw [HV.out]; rfl) (by rw [HV.out]; rfl), HB2.out⟩
    have hvf : valB (arsOf ds) g f = false := valB_no hself (by rw [HOP.out]; omega) (by rw [HOP.out]; omega) (by rw [HOP.out]; exact HO3.out)
    rw [hvf]
    have hkinds := op_kinds HG.out f hff (by rw [← HOP.out]; exact HOK.out.2.1) (by rw [← HOP.out]; exact HOK.out.2.2.1) (by omega) HO3.out (by omega)
    have HRN : Hid (redexN (arsOf ds) g (m + 1) a = (match waits (arsOf ds) g f with | none => none | some none => some f | some (some k) => redexN (arsOf ds) g m k)) := redexN_op HS.out (by rw [HOP.out]; exact HO3.out) (by rw [HOP.out]; omega) (by rw [HOP.out]; omega)
    have HKI := mkHid hkinds
    have hk0 : 0 < g[f].kids.length := by have := hkinds.2; split at this <;> (try split at this) <;> omega
    obtain ⟨hk0e, hk0l⟩ := kidAt_get HG.out f hff 0 hk0
    have HK0 := mkHid hk0l
    clear hself hvf ho25 hkinds
    -- the cell in a box
    have c0 := (World.cell?_of_block (a := ⟨bl, off + f * 3, none⟩) (HS12.out.block bl (cell_lt HC0.out))).trans HC0.out
    have c1 := (World.cell?_of_block (a := ⟨bl, off + f * 3 + 1, none⟩) (HS12.out.block bl (cell_lt HC0.out))).trans HC1.out
    have c2 := (World.cell?_of_block (a := ⟨bl, off + f * 3 + 2, none⟩) (HS12.out.block bl (cell_lt HC0.out))).trans HC2.out
    obtain ⟨bl2, off2, rfl, d0w⟩ := HKK.out.at 0 hk0
    rw [hk0e, Nat.add_zero] at d0w
    obtain ⟨w3, hw3⟩ : ∃ w3 : World, w3 = w2.alloc (.cells #[.int .i64 g[f].op, .int .i64 g[f].num, .slice (some ⟨bl2, off2, none⟩) g[f].kids.length capk] 93) := ⟨_, rfl⟩
    have HB23 : Hid (Below w2.heap.size w2 w3) := by rw [hw3]; exact box_below _ _
    have HB3 : Hid (Below w.heap.size w w3) := HB2.out.trans (HB23.out.mono HB2.out.size)
    have HBX3 : Hid (w3.heap[w2.heap.size]? = some (.cells #[.int .i64 g[f].op, .int .i64 g[f].num, .slice (some ⟨bl2, off2, none⟩) g[f].kids.length capk] 93)) := by rw [hw3]; exact Deep.blk_alloc_new _ _
    have HW3 := mkHid hw3
    have HD3 : Hid (w3.cell? ⟨bl2, off2, none⟩ = some (.int .i64 (kidAt g f 0 : Int))) := ((HS12.out.trans (HB23.out.mono HS12.out.size)).cell (p := ⟨bl2, off2, none⟩) (cell_lt d0w)).trans d0w
    have hd2 : w2.cell? ⟨bl2, off2, none⟩ = some (.int .i64 (kidAt g f 0 : Int)) := (HS12.out.cell (p := ⟨bl2, off2, none⟩) (cell_lt d0w)).trans d0w
    have hd3 := old_cell hd2 (.cells #[.int .i64 g[f].op, .int .i64 g[f].num, .slice (some ⟨bl2, off2, none⟩) g[f].kids.length capk] 93)
    clear d0w hk0e hw3 hd2 hk0l
    go_wp2_with fail
    rw [← HW3.out]
    clear c0 c1 c2 hd3
    refine (l4Value_calls ds g (kidAt g f 0) _ _ w3 (HD.out.next HB3.out) (HK.out.next HB3.out) HG.out HK0.out).mono ?_
    rintro e w4 ⟨rfl, hb4⟩
    have HB34 : Hid (Below w3.heap.size w3 w4) := hb4
    have HB4 : Hid (Below w.heap.size w w4) := HB3.out.trans (hb4.mono HB3.out.size)
    have HBX4 : Hid (w4.heap[w2.heap.size]? = some (.cells #[.int .i64 g[f].op, .int .i64 g[f].num, .slice (some ⟨bl2, off2, none⟩) g[f].kids.length capk] 93)) := (hb4.block _ (cellsOf_lt HBX3.out)).trans HBX3.out
    have HD4 : Hid (w4.cell? ⟨bl2, off2, none⟩ = some (.int .i64 (kidAt g f 0 : Int))) := (hb4.cell (p := ⟨bl2, off2, none⟩) (cell_lt HD3.out)).trans HD3.out
    clear hb4
    have b0 := cell_of_blk HBX4.out 0 _ rfl
    have b2 := cell_of_blk HBX4.out 2 _ rfl
    have d4 := HD4.out
    cases hv0 : valB (arsOf ds) g (kidAt g f 0) with
    | false =>
      have HV : Hid (redexN (arsOf ds) g (m + 1) a = redexN (arsOf ds) g m (kidAt g f 0)) := by
        have hw : waits (arsOf ds) g f = some (some (kidAt g f 0)) := by
          unfold waits
          repeat' split
          all_goals exact wait_go hv0
        rw [Hid, HRN.out, hw]
      have HV0 := mkHid hv0
      clear hv0
      go_wp2_with fail
      have hsn2 : seen + 1 + m = g.length + 1 := by have := HSN.out; omega
      have hcall := HIM.out (seen + 1) (kidAt g f 0) _ _ w4 (HD.out.next HB4.out) (HK.out.next HB4.out) HK0.out hsn2 HV0.out
      rw [Int.natCast_add, Int.natCast_one] at hcall
      refine hcall.mono ?_
      rintro e w5 ⟨rfl, hb5⟩
      have HB5 : Hid (Below w.heap.size w w5) := HB4.out.trans (hb5.mono HB4.out.size)
      clear hb5 hcall
      go_wp2_with fail
      go_ret2
      exact ⟨ret_ii (by rw [HV.out]) (by rw [HV.out]), HB5.out⟩
    | true =>
      obtain ⟨b, hbf⟩ := val_follow hv0
      have HV0 := mkHid hv0
      have HBF := mkHid hbf
      have hbl := (followN_lt HG.out _ _ _ HK0.out hbf).1
      clear hv0 hbf
      go_wp2_with fail
      refine (l3Follow_calls g (kidAt g f 0) _ w4 (HK.out.next HB4.out) ⟨_, HG.out⟩ HK0.out).mono ?_
      rintro e w5 ⟨rfl, hb5⟩
      rw [follow_enough HG.out _ HK0.out, HBF.out]
      have e2 : folI (some b) = (b : Int) := rfl
      rw [e2]
      have HB45 : Hid (Below w4.heap.size w4 w5) := hb5
      have HB5 : Hid (Below w.heap.size w w5) := HB4.out.trans (hb5.mono HB4.out.size)
      have HBX5 : Hid (w5.heap[w2.heap.size]? = some (.cells #[.int .i64 g[f].op, .int .i64 g[f].num, .slice (some ⟨bl2, off2, none⟩) g[f].kids.length capk] 93)) := (hb5.block _ (cellsOf_lt HBX4.out)).trans HBX4.out
      clear b0 b2 d4
      have b0 := cell_of_blk HBX5.out 0 _ rfl
      have b2 := cell_of_blk HBX5.out 2 _ rfl
      obtain ⟨bl6, off6, r6, he6, f0, -, -, -, -, -⟩ := (HK.out.next HB5.out).at b hbl
      cases he6
      have HOB : Hid (opAt g b = g[b].op) := opAt_at b hbl
      clear hb5
      by_cases h67 : g[f].op = 6 ∨ g[f].op = 7
      · have HW : Hid (waits (arsOf ds) g f = waitOne (arsOf ds) g (kidAt g f 0) 5 (some none)) := waits1 (by rw [HOP.out]; exact h67)
        by_cases h5 : g[b].op = 5
        · have HV : Hid (redexN (arsOf ds) g (m + 1) a = some f) := by rw [Hid, HRN.out, HW.out, wait_ok HV0.out HBF.out (by rw [HOB.out]; exact h5)]
          have t5 : (g[b].op != 5) = false := by simp [h5]
          clear h5
          rcases h67 with h6 | h7
          · have t6 : (g[f].op == 6) = true := by simp [h6]
            clear h6
            go_wp2_with fail
            go_ret2
            exact ⟨ret_ii (by rw [HV.out]; rfl) (by rw [HV.out]; rfl), HB5.out⟩
          · have t6 : (g[f].op == 6) = false := by simp [h7]
            have t7 : (g[f].op == 7) = true := by simp [h7]
            clear h7
            go_wp2_with fail
            go_ret2
            exact ⟨ret_ii (by rw [HV.out]; rfl) (by rw [HV.out]; rfl), HB5.out⟩
        · have HV : Hid (redexN (arsOf ds) g (m + 1) a = none) := by rw [Hid, HRN.out, HW.out, wait_stuck HV0.out HBF.out (by rw [HOB.out]; exact h5)]
          have t5 : (g[b].op != 5) = true := by simp [h5]
          clear h5
          rcases h67 with h6 | h7
          · have t6 : (g[f].op == 6) = true := by simp [h6]
            clear h6
            go_wp2_with fail
            go_ret2
            exact ⟨ret_ii (by rw [HV.out]; rfl) (by rw [HV.out]; rfl), HB5.out⟩
          · have t6 : (g[f].op == 6) = false := by simp [h7]
            have t7 : (g[f].op == 7) = true := by simp [h7]
            clear h7
            go_wp2_with fail
            go_ret2
            exact ⟨ret_ii (by rw [HV.out]; rfl) (by rw [HV.out]; rfl), HB5.out⟩
      have t6 : (g[f].op == 6) = false := by simp; omega
      have t7 : (g[f].op == 7) = false := by simp; omega
      by_cases h2 : g[b].op = 2
      · have t2 : (g[b].op != 2) = false := by simp [h2]
        have HB2E : Hid (opAt g b = 2) := by rw [Hid, HOB.out]; exact h2
        by_cases h10 : g[f].op = 10
        · have HV : Hid (redexN (arsOf ds) g (m + 1) a = some f) := by rw [Hid, HRN.out, waits10 (by rw [HOP.out]; exact h10), wait_ok HV0.out HBF.out HB2E.out]
          have t10 : (g[f].op == 10) = true := by simp [h10]
          clear h2 h10 h67
          go_wp2_with fail
          go_ret2
          exact ⟨ret_ii (by rw [HV.out]; rfl) (by rw [HV.out]; rfl), HB5.out⟩
        · have t10 : (g[f].op == 10) = false := by simp [h10]
          have h89 : opAt g f = 8 ∨ opAt g f = 9 := by rw [HOP.out]; have := HKI.out.1; omega
          have HW : Hid (waits (arsOf ds) g f = waitOne (arsOf ds) g (kidAt g f 1) 2 (some none)) := by rw [Hid, waits2 h89, wait_ok HV0.out HBF.out HB2E.out]
          have hk1 : 1 < g[f].kids.length := by have := HKI.out.2; rw [if_neg h67, if_neg h10] at this; omega
          obtain ⟨hk1e, hk1l⟩ := kidAt_get HG.out f hff 1 hk1
          have HK1 := mkHid hk1l
          obtain ⟨bl7, off7, he7, d1w⟩ := HKK.out.at 1 hk1
          cases he7
          rw [hk1e] at d1w
          have HD15 : Hid (w5.cell? ⟨bl2, off2 + 1, none⟩ = some (.int .i64 (kidAt g f 1 : Int))) := by
            have h15 : Below w1.heap.size w1 w5 := HS12.out.trans ((HB23.out.trans ((HB34.out.trans (HB45.out.mono HB34.out.size)).mono HB23.out.size)).mono HS12.out.size)
            exact (h15.cell (p := ⟨bl2, off2 + 1, none⟩) (cell_lt d1w)).trans d1w
          have d5 := HD15.out
          clear h2 h10 h67 h89 hk1e hk1l d1w
          go_wp2_with fail
          refine (l4Value_calls ds g (kidAt g f 1) _ _ w5 (HD.out.next HB5.out) (HK.out.next HB5.out) HG.out HK1.out).mono ?_
          rintro e w6 ⟨rfl, hb6⟩
          have HB6 : Hid (Below w.heap.size w w6) := HB5.out.trans (hb6.mono HB5.out.size)
          have HBX6 : Hid (w6.heap[w2.heap.size]? = some (.cells #[.int .i64 g[f].op, .int .i64 g[f].num, .slice (some ⟨bl2, off2, none⟩) g[f].kids.length capk] 93)) := (hb6.block _ (cellsOf_lt HBX5.out)).trans HBX5.out
          have d6 := (hb6.cell (p := ⟨bl2, off2 + 1, none⟩) (cell_lt HD15.out)).trans HD15.out
          clear hb6 b0 b2 d5 f0
          have b2 := cell_of_blk HBX6.out 2 _ rfl
          cases hv1 : valB (arsOf ds) g (kidAt g f 1) with
          | false =>
            have HV : Hid (redexN (arsOf ds) g (m + 1) a = redexN (arsOf ds) g m (kidAt g f 1)) := by rw [Hid, HRN.out, HW.out, wait_go hv1]
            have HV1 := mkHid hv1
            clear hv1
            go_wp2_with fail
            have hsn2 : seen + 1 + m = g.length + 1 := by have := HSN.out; omega
            have hcall := HIM.out (seen + 1) (kidAt g f 1) _ _ w6 (HD.out.next HB6.out) (HK.out.next HB6.out) HK1.out hsn2 HV1.out
            rw [Int.natCast_add, Int.natCast_one] at hcall
            refine hcall.mono ?_
            rintro e w7 ⟨rfl, hb7⟩
            have HB7 : Hid (Below w.heap.size w w7) := HB6.out.trans (hb7.mono HB6.out.size)
            clear hb7 hcall
            go_wp2_with fail
            go_ret2
            exact ⟨ret_ii (by rw [HV.out]) (by rw [HV.out]), HB7.out⟩
          | true =>
            obtain ⟨b1, hbf1⟩ := val_follow hv1
            have HV1 := mkHid hv1
            have HBF1 := mkHid hbf1
            have hbl1 := (followN_lt HG.out _ _ _ HK1.out hbf1).1
            clear hv1 hbf1
            go_wp2_with fail
            refine (l3Follow_calls g (kidAt g f 1) _ w6 (HK.out.next HB6.out) ⟨_, HG.out⟩ HK1.out).mono ?_
            rintro e w7 ⟨rfl, hb7⟩
            rw [follow_enough HG.out _ HK1.out, HBF1.out]
            have e3 : folI (some b1) = (b1 : Int) := rfl
            rw [e3]
            have HB7 : Hid (Below w.heap.size w w7) := HB6.out.trans (hb7.mono HB6.out.size)
            obtain ⟨bl8, off8, r8, he8, f1, -, -, -, -, -⟩ := (HK.out.next HB7.out).at b1 hbl1
            cases he8
            have HOB1 : Hid (opAt g b1 = g[b1].op) := opAt_at b1 hbl1
            clear hb7 b2 d6
            by_cases h2 : g[b1].op = 2
            · have HV : Hid (redexN (arsOf ds) g (m + 1) a = some f) := by rw [Hid, HRN.out, HW.out, wait_ok HV1.out HBF1.out (by rw [HOB1.out]; exact h2)]
              have t2 : (g[b1].op != 2) = false := by simp [h2]
              clear h2
              go_wp2_with fail
              go_ret2
              exact ⟨ret_ii (by rw [HV.out]; rfl) (by rw [HV.out]; rfl), HB7.out⟩
            · have HV : Hid (redexN (arsOf ds) g (m + 1) a = none) := by rw [Hid, HRN.out, HW.out, wait_stuck HV1.out HBF1.out (by rw [HOB1.out]; exact h2)]
              have t2 : (g[b1].op != 2) = true := by simp [h2]
              clear h2
              go_wp2_with fail
              go_ret2
              exact ⟨ret_ii (by rw [HV.out]; rfl) (by rw [HV.out]; rfl), HB7.out⟩
      · have t2 : (g[b].op != 2) = true := by simp [h2]
        have HV : Hid (redexN (arsOf ds) g (m + 1) a = none) := by
          rw [Hid, HRN.out]
          have hw : waits (arsOf ds) g f = none := by
            by_cases h10 : g[f].op = 10
            · rw [waits10 (by rw [HOP.out]; exact h10), wait_stuck HV0.out HBF.out (by rw [HOB.out]; exact h2)]
            · rw [waits2 (by rw [HOP.out]; have := HKI.out.1; omega), wait_stuck HV0.out HBF.out (by rw [HOB.out]; exact h2)]
          rw [hw]
        clear h2 h67
        go_wp2_with fail
        go_ret2
        exact ⟨ret_ii (by rw [HV.out]; rfl) (by rw [HV.out]; rfl), HB5.out⟩

theorem l4R_all (ds : List Df) (g : List Ce) (hg : graphB g ds.length = true) (hp : progB ds = true) : ∀ n, L4R ds g n
  | 0 => l4R_step ds g 0 hg hp (fun m h => by omega)
  | n + 1 => l4R_step ds g (n + 1) hg hp (fun m h => by
    obtain rfl : n = m := by omega
    exact l4R_all ds g hg hp n)
end Go.Proofs.YtiipcgnkfhjpeaaGreatDoor
/-
  THE MODEL's l4Step AND l4Eval.
-/
namespace Go.Proofs.YtiipcgnkfhjpeaaGreatDoor
set_option linter.unusedVariables false
set_option linter.unusedSimpArgs false
open Go.RowKit

set_option maxRecDepth 100000 in
set_option maxHeartbeats 1600000 in
theorem l4Step_calls (ds : List Df) (g : List Ce) (a : Nat) (c v : Value) (w : World) (hd : DIn w ds c) (hk : CIn w g v) (hg : graphB g ds.length = true) (hp : progB ds = true) (ha : a < g.length) (hv : valB (arsOf ds) g a = false) :
    Calls Tryz.prog 55 #[c, v, .int .i64 (a : Int)] w (StG (stepG ds g a) w) := by
  have HD : Hid (DIn w ds c) := hd
  have HK : Hid (CIn w g v) := hk
  have HG := mkHid hg
  have HP := mkHid hp
  have HV0 := mkHid hv
  clear hg hp hv hd hk
  have HRX := mkHid (l4R_all ds g HG.out HP.out (g.length + 1) 0 a c v w HD.out HK.out ha (by omega) HV0.out)
  go_enter Tryz.func55, Tryz.ntmps55
  go_wp2_with fail
  refine HRX.out.mono ?_
  rintro e w1 ⟨rfl, hb1⟩
  have HB1 : Hid (Below w.heap.size w w1) := hb1
  clear hb1
  cases hr : redexN (arsOf ds) g (g.length + 1) a with
  | none =>
    have HV : Hid (stepG ds g a = (g, 2)) := by unfold Hid stepG redex; rw [hr]
    have e1 : rdI none = 0 := rfl
    have e2 : ((rdC none : Nat) : Int) = 2 := rfl
    rw [e1, e2]
    obtain ⟨ad, cap, rfl, -, -, -⟩ := id HK.out
    clear hr
    go_wp2_with fail
    go_ret2
    rw [HV.out]
    exact ⟨_, rfl, CellsOn.oldW (HK.out.next HB1.out) (by simp), HB1.out⟩
  | some at' =>
    have HV : Hid (stepG ds g a = changeG ds g at') := by unfold Hid stepG redex; rw [hr]
    have HRD := mkHid (redex_ready HG.out HP.out ha HV0.out hr)
    have e1 : rdI (some at') = (at' : Int) := rfl
    have e2 : ((rdC (some at') : Nat) : Int) = 0 := rfl
    rw [e1, e2]
    clear hr
    go_wp2_with fail
    refine (l4Change_calls ds g at' _ _ w1 (HD.out.next HB1.out) (HK.out.next HB1.out) HG.out HP.out HRD.out).mono ?_
    rintro e w2 ⟨v2, rfl, hi2, hb2⟩
    have HB2 : Hid (Below w.heap.size w w2) := HB1.out.trans (hb2.mono HB1.out.size)
    have HI2 := mkHid (hi2.backW HB1.out.size)
    obtain ⟨ad2, cap2, rfl, -, -, -⟩ := hi2
    clear hb2
    go_wp2_with fail
    go_ret2
    rw [HV.out]
    exact ⟨_, rfl, HI2.out, HB2.out⟩

/-- what holds behind n steps: the rest of the evaluation -/
def EvRel (ds : List Df) (a : Nat) (fuel : Nat) (g0 : List Ce) (n : Nat) (g : List Ce) : Prop := n ≤ fuel ∧ graphB g ds.length = true ∧ a < g.length ∧ evalG ds a fuel g0 = ((evalG ds a (fuel - n) g).1, (evalG ds a (fuel - n) g).2.1, (evalG ds a (fuel - n) g).2.2 + n)
theorem EvRel.start {ds : List Df} {a fuel : Nat} {g : List Ce} (hg : graphB g ds.length = true) (ha : a < g.length) : EvRel ds a fuel g 0 g := ⟨Nat.zero_le _, hg, ha, by simp⟩
theorem evalG_val {ds : List Df} {a n : Nat} {g : List Ce} (h : valB (arsOf ds) g a = true) : evalG ds a n g = (g, 0, 0) := by
  cases n <;> (unfold evalG; rw [if_pos h])
theorem evalG_fuel {ds : List Df} {a : Nat} {g : List Ce} (h : valB (arsOf ds) g a = false) : evalG ds a 0 g = (g, 1, 0) := by
  unfold evalG; rw [if_neg (by rw [h]; simp)]
theorem evalG_step {ds : List Df} {a n : Nat} {g : List Ce} (h : valB (arsOf ds) g a = false) (hc : (stepG ds g a).2 = 0) : evalG ds a (n + 1) g = ((evalG ds a n (stepG ds g a).1).1, (evalG ds a n (stepG ds g a).1).2.1, (evalG ds a n (stepG ds g a).1).2.2 + 1) := by
  conv => lhs; unfold evalG
  rw [if_neg (by rw [h]; simp), if_pos hc]
theorem EvRel.val {ds : List Df} {a fuel n : Nat} {g0 g : List Ce} (h : EvRel ds a fuel g0 n g) (hv : valB (arsOf ds) g a = true) : evalG ds a fuel g0 = (g, 0, n) := by
  rw [h.2.2.2, evalG_val hv]; simp
theorem EvRel.fuel {ds : List Df} {a fuel : Nat} {g0 g : List Ce} (h : EvRel ds a fuel g0 fuel g) (hv : valB (arsOf ds) g a = false) : evalG ds a fuel g0 = (g, 1, fuel) := by
  rw [h.2.2.2, Nat.sub_self, evalG_fuel hv]; simp
theorem EvRel.next {ds : List Df} {a fuel n : Nat} {g0 g : List Ce} (h : EvRel ds a fuel g0 n g) (hp : progB ds = true) (hn : n < fuel) (hv : valB (arsOf ds) g a = false) (hc : (stepG ds g a).2 = 0) : EvRel ds a fuel g0 (n + 1) (stepG ds g a).1 := by
  have hs := stepG_valid h.2.1 hp h.2.2.1 hv
  have ha := h.2.2.1
  refine ⟨hn, hs.1, by omega, ?_⟩
  rw [h.2.2.2, show fuel - n = (fuel - (n + 1)) + 1 by omega, evalG_step hv hc]
  simp only [Prod.mk.injEq, true_and]
  omega

end Go.Proofs.YtiipcgnkfhjpeaaGreatDoor
/-
  THE MODEL's StepGraph.
-/
namespace Go.Proofs.YtiipcgnkfhjpeaaGreatDoor
set_option linter.unusedVariables false
set_option linter.unusedSimpArgs false
open Go.RowKit

end Go.Proofs.YtiipcgnkfhjpeaaGreatDoor
