/-
  THE MODEL's l4Redex.
-/
import Derived.Test.YtglpehelmlehiaaMb12
import Derived.Test.YtglpehelmlehiaaMb2
import Derived.Test.YtglpehelmlehiaaMb9
import Derived.Deep.LoopGhost
import Derived.Test.YtglpehelmlehiaaMb11
import Derived.Test.YtglpehelmlehiaaMb10
namespace Go.Proofs.Ytglpehelmlehiaa
set_option linter.unusedVariables false
set_option linter.unusedSimpArgs false
open Go.RowKit

theorem ret_ii {a b c d : Int} (h : a = b) (h' : c = d) : Ending.returned (.tuple #[.int .i64 a, .int .i64 c]) = .returned (.tuple #[.int .i64 b, .int .i64 d]) := by rw [h, h']
/-- the contract of l4Redex with n operands left -/
def L4R (ds : List Df) (g : List Ce) (n : Nat) : Prop := ∀ (seen a : Nat) (c v : Value) (w : World), DIn w ds c → CIn w g v → a < g.length → seen + n = g.length + 1 → valB (arsOf ds) g a = false →
  Calls Try.prog 125 #[c, v, .int .i64 (a : Int), .int .i64 (seen : Int)] w fun e w' => e = .returned (.tuple #[.int .i64 (rdI (redexN (arsOf ds) g n a)), .int .i64 (rdC (redexN (arsOf ds) g n a) : Int)]) ∧ Below w.heap.size w w'

set_option maxRecDepth 100000 in
set_option maxHeartbeats 6400000 in
theorem l4R_step (ds : List Df) (g : List Ce) (n : Nat) (hg : graphB g ds.length = true) (hp : progB ds = true) (ih : ∀ m, n = m + 1 → L4R ds g m) : L4R ds g n := by
  intro seen a c v w hd hk ha hsn hv
  have HD : Hid (DIn w ds c) := hd
  have HK : Hid (CIn w g v) := hk
  have HG := mkHid hg
  have HP := mkHid hp
  have HIH := mkHid ih
  have HVA := mkHid hv
  have HSN := mkHid hsn
  obtain ⟨ad, cap, rfl, hl, hm, -⟩ := hk
  obtain ⟨adp, capp, rfl, hlp, hmp, -⟩ := hd
  have h400 : g.length ≤ 400 := graphB_len hg
  have hseen : seen ≤ 401 := by omega
  unfold maxLen at hm hmp
  clear hg hp ih hv hsn
  go_enter Try.func125, Try.ntmps125
  go_wp2_with fail
  refine (l4Spine_calls g a _ _ HK.out ⟨_, HG.out⟩ ha).mono ?_
  rintro e w1 ⟨xs, v1, hxs, rfl, hi1, hb1⟩
  have HB1 : Hid (Below w.heap.size w w1) := hb1
  have HXS := mkHid hxs
  have HI1 : Hid (IntRow w1 w.heap.size (plI xs) v1) := hi1
  have hlx : xs.length ≤ 9223372036854775807 := by
    obtain ⟨ad2, cap2, rfl, l1, l2, -⟩ := hi1
    rw [plI_length] at l1
    unfold maxLen at l2
    omega
  obtain ⟨ad2, cap2, rfl, -, -, -⟩ := hi1
  rw [plI_length]
  rw [plI_length] at HI1
  clear hb1 hxs
  cases hs : spine g a with
  | none =>
    have HV : Hid (redexN (arsOf ds) g n a = none) := redexN_none hs
    have e1 : spI none = -1 := rfl
    rw [e1]
    clear hs
    go_wp2_with fail
    go_ret2
    exact ⟨ret_ii (by rw [HV.out]; rfl) (by rw [HV.out]; rfl), HB1.out⟩
  | some x =>
    obtain ⟨f, ws⟩ := x
    obtain rfl : xs = ws := HXS.out _ hs
    have hok := spine_ok HG.out ha hs
    have hff : f < g.length := hok.1
    have HOK := mkHid hok
    have HS : Hid (spine g a = some (f, xs)) := hs
    have e1 : spI (some (f, xs)) = (f : Int) := rfl
    rw [e1]
    have hbn : ¬ ((f : Int) < 0) := by omega
    have HOP : Hid (opAt g f = g[f].op) := opAt_at f hff
    clear hs hok
    by_cases hsl : g.length < seen
    · have HV : Hid (redexN (arsOf ds) g n a = none) := by
        have : n = 0 := by have := HSN.out; omega
        subst this; rfl
      go_wp2_with fail
      go_ret2
      exact ⟨ret_ii (by rw [HV.out]; rfl) (by rw [HV.out]; rfl), HB1.out⟩
    obtain ⟨m, rfl⟩ : ∃ m, n = m + 1 := ⟨n - 1, by have := HSN.out; omega⟩
    have HIM : Hid (L4R ds g m) := HIH.out m rfl
    obtain ⟨bl, off, r, rfl, c0, c1, c2, -, -, hkk⟩ := (HK.out.next HB1.out).at f hff
    obtain ⟨adk, capk, rfl, -, -, -⟩ := id hkk
    clear HIH
    by_cases ho3 : g[f].op = 3
    · obtain ⟨nn, hn, hnl⟩ := glob_num HG.out f hff ho3
      have hnl' : nn < ds.length := by omega
      have h0 := prog_ar HP.out nn hnl'
      have hle := call_idx (n := nn) HS.out (by rw [HOP.out]; exact ho3) (by rw [numAt_at f hff]; exact hn) hnl' HVA.out
      obtain ⟨ar, har⟩ : ∃ ar : Nat, ds[nn].1 = (ar : Int) := ⟨ds[nn].1.toNat, by omega⟩
      have hrd : redexN (arsOf ds) g (m + 1) a = some (callAt f xs (ar : Int)) := by
        rw [redexN_glob HS.out (by rw [HOP.out]; exact ho3), numAt_at f hff, hn, arOf_at ds nn hnl', har]
      have t3 : (g[f].op == 3) = true := by simp [ho3]
      obtain ⟨blp, offp, rp, rfl, d0, d1, d2, d3, -⟩ := (HD.out.next HB1.out).at nn hnl'
      rw [hn] at c1
      rw [har] at d0
      rw [har] at hle
      have hle2 : ar ≤ xs.length := by omega
      by_cases hz : ar = 0
      · subst hz
        have HV : Hid (redexN (arsOf ds) g (m + 1) a = some f) := by rw [Hid, hrd, Int.ofNat_zero, callAt_zero]
        have d0' : w1.cell? ⟨blp, offp + nn * 4, none⟩ = some (.int .i64 0) := d0
        clear ho3 hn d1 d2 d3 hrd har hkk h0 hle hle2 d0
        go_wp2_with fail
        go_ret2
        exact ⟨ret_ii (by rw [HV.out]; rfl) (by rw [HV.out]; rfl), HB1.out⟩
      · obtain ⟨q, hq⟩ : ∃ q, q + ar = xs.length := ⟨xs.length - ar, by omega⟩
        have hql : q < xs.length := by omega
        have HV : Hid (redexN (arsOf ds) g (m + 1) a = some xs[q]) := by rw [Hid, hrd, callAt_at hz hq]
        obtain ⟨ad4, cap4, he4, hcl4, -, hr4⟩ := HI1.out
        rw [plI_length] at hcl4
        simp only [Value.slice.injEq] at he4
        obtain ⟨rfl, -, rfl⟩ := he4
        have hne : ¬ plI xs = [] := by intro e; have h1 := plI_length xs; rw [e, List.length_nil] at h1; omega
        rcases hr4 with hr4 | ⟨gb, fb, rfl, hlo, hrow, hfb⟩
        · exact absurd hr4 hne
        have q0 : w1.cell? ⟨gb, xs.length - ar, none⟩ = some (.int .i64 (xs[q] : Int)) := by
          have hqe : xs.length - ar = q := by omega
          have hqp : q < (plI xs).length := by rw [plI_length]; exact hql
          have h1 := hfb q hqp
          rw [hqe, hrow.cell (by omega), h1]
          simp [plI]
        have tq : ((xs.length : Int) - (ar : Int) == (xs.length : Int)) = false := by rw [beq_eq_false_iff_ne]; omega
        have hq0 : 0 ≤ (xs.length : Int) - (ar : Int) := by omega
        have hq1 : (xs.length : Int) - (ar : Int) < (xs.length : Int) := by omega
        clear ho3 hn d1 d2 d3 hrd har hkk h0 hle hrow hfb hne hcl4
        go_wp2_with fail
        go_ret2
        exact ⟨ret_ii (by rw [HV.out]; rfl) (by rw [HV.out]; rfl), HB1.out⟩
    have t3 : (g[f].op == 3) = false := by simp [ho3]
    have HO3 := mkHid ho3
    have HC0 := mkHid c0
    have HC1 := mkHid c1
    have HC2 := mkHid c2
    have HKK := mkHid hkk
    clear c1 c2 hkk ho3
    go_wp2_with fail
    refine (l4Value_calls ds g f _ _ _ (HD.out.next HB1.out) (HK.out.next HB1.out) HG.out hff).mono ?_
    rintro e w2 ⟨rfl, hb2⟩
    have HB2 : Hid (Below w.heap.size w w2) := HB1.out.trans (hb2.mono HB1.out.size)
    have HS12 : Hid (Below w1.heap.size w1 w2) := hb2
    clear hb2 c0 t3
    have hself : spine g f = some (f, []) := spine_self hff HOK.out.2.1 HOK.out.2.2.1
    by_cases ho25 : g[f].op = 2 ∨ g[f].op = 5
    · have HV : Hid (redexN (arsOf ds) g (m + 1) a = none) := redexN_val HS.out (by rw [HOP.out]; exact ho25)
      have hvf : valB (arsOf ds) g f = true := by rw [valB_num hself (by rw [HOP.out]; exact ho25)]; rfl
      rw [hvf]
      clear ho25 hself hvf
      go_wp2_with fail
      go_ret2
      exact ⟨ret_ii (by rw [HV.out]; rfl) (by rw [HV.out]; rfl), HB2.out⟩
    have hvf : valB (arsOf ds) g f = false := valB_no hself (by rw [HOP.out]; omega) (by rw [HOP.out]; omega) (by rw [HOP.out]; exact HO3.out)
    rw [hvf]
    have hkinds := op_kinds HG.out f hff (by rw [← HOP.out]; exact HOK.out.2.1) (by rw [← HOP.out]; exact HOK.out.2.2.1) (by omega) HO3.out (by omega)
    have HRN : Hid (redexN (arsOf ds) g (m + 1) a = (match waits (arsOf ds) g f with | none => none | some none => some f | some (some k) => redexN (arsOf ds) g m k)) := redexN_op HS.out (by rw [HOP.out]; exact HO3.out) (by rw [HOP.out]; omega) (by rw [HOP.out]; omega)
    have HKI := mkHid hkinds
    have hk0 : 0 < g[f].kids.length := by have := hkinds.2; split at this <;> (try split at this) <;> omega
    obtain ⟨hk0e, hk0l⟩ := kidAt_get HG.out f hff 0 hk0
    have HK0 := mkHid hk0l
    clear hself hvf ho25 hkinds
    -- the cell in a box
    have c0 := (World.cell?_of_block (a := ⟨bl, off + f * 3, none⟩) (HS12.out.block bl (cell_lt HC0.out))).trans HC0.out
    have c1 := (World.cell?_of_block (a := ⟨bl, off + f * 3 + 1, none⟩) (HS12.out.block bl (cell_lt HC0.out))).trans HC1.out
    have c2 := (World.cell?_of_block (a := ⟨bl, off + f * 3 + 2, none⟩) (HS12.out.block bl (cell_lt HC0.out))).trans HC2.out
    obtain ⟨bl2, off2, rfl, d0w⟩ := HKK.out.at 0 hk0
    rw [hk0e, Nat.add_zero] at d0w
    obtain ⟨w3, hw3⟩ : ∃ w3 : World, w3 = w2.alloc (.cells #[.int .i64 g[f].op, .int .i64 g[f].num, .slice (some ⟨bl2, off2, none⟩) g[f].kids.length capk] 48) := ⟨_, rfl⟩
    have HB23 : Hid (Below w2.heap.size w2 w3) := by rw [hw3]; exact box_below _ _
    have HB3 : Hid (Below w.heap.size w w3) := HB2.out.trans (HB23.out.mono HB2.out.size)
    have HBX3 : Hid (w3.heap[w2.heap.size]? = some (.cells #[.int .i64 g[f].op, .int .i64 g[f].num, .slice (some ⟨bl2, off2, none⟩) g[f].kids.length capk] 48)) := by rw [hw3]; exact Deep.blk_alloc_new _ _
    have HW3 := mkHid hw3
    have HD3 : Hid (w3.cell? ⟨bl2, off2, none⟩ = some (.int .i64 (kidAt g f 0 : Int))) := ((HS12.out.trans (HB23.out.mono HS12.out.size)).cell (p := ⟨bl2, off2, none⟩) (cell_lt d0w)).trans d0w
    have hd2 : w2.cell? ⟨bl2, off2, none⟩ = some (.int .i64 (kidAt g f 0 : Int)) := (HS12.out.cell (p := ⟨bl2, off2, none⟩) (cell_lt d0w)).trans d0w
    have hd3 := old_cell hd2 (.cells #[.int .i64 g[f].op, .int .i64 g[f].num, .slice (some ⟨bl2, off2, none⟩) g[f].kids.length capk] 48)
    clear d0w hk0e hw3 hd2 hk0l
    go_wp2_with fail
    rw [← HW3.out]
    clear c0 c1 c2 hd3
    refine (l4Value_calls ds g (kidAt g f 0) _ _ w3 (HD.out.next HB3.out) (HK.out.next HB3.out) HG.out HK0.out).mono ?_
    rintro e w4 ⟨rfl, hb4⟩
    have HB34 : Hid (Below w3.heap.size w3 w4) := hb4
    have HB4 : Hid (Below w.heap.size w w4) := HB3.out.trans (hb4.mono HB3.out.size)
    have HBX4 : Hid (w4.heap[w2.heap.size]? = some (.cells #[.int .i64 g[f].op, .int .i64 g[f].num, .slice (some ⟨bl2, off2, none⟩) g[f].kids.length capk] 48)) := (hb4.block _ (cellsOf_lt HBX3.out)).trans HBX3.out
    have HD4 : Hid (w4.cell? ⟨bl2, off2, none⟩ = some (.int .i64 (kidAt g f 0 : Int))) := (hb4.cell (p := ⟨bl2, off2, none⟩) (cell_lt HD3.out)).trans HD3.out
    clear hb4
    have b0 := cell_of_blk HBX4.out 0 _ rfl
    have b2 := cell_of_blk HBX4.out 2 _ rfl
    have d4 := HD4.out
    cases hv0 : valB (arsOf ds) g (kidAt g f 0) with
    | false =>
      have HV : Hid (redexN (arsOf ds) g (m + 1) a = redexN (arsOf ds) g m (kidAt g f 0)) := by
        have hw : waits (arsOf ds) g f = some (some (kidAt g f 0)) := by
          unfold waits
          repeat' split
          all_goals exact wait_go hv0
        rw [Hid, HRN.out, hw]
      have HV0 := mkHid hv0
      clear hv0
      go_wp2_with fail
      have hsn2 : seen + 1 + m = g.length + 1 := by have := HSN.out; omega
      have hcall := HIM.out (seen + 1) (kidAt g f 0) _ _ w4 (HD.out.next HB4.out) (HK.out.next HB4.out) HK0.out hsn2 HV0.out
      rw [Int.natCast_add, Int.natCast_one] at hcall
      refine hcall.mono ?_
      rintro e w5 ⟨rfl, hb5⟩
      have HB5 : Hid (Below w.heap.size w w5) := HB4.out.trans (hb5.mono HB4.out.size)
      clear hb5 hcall
      go_wp2_with fail
      go_ret2
      exact ⟨ret_ii (by rw [HV.out]) (by rw [HV.out]), HB5.out⟩
    | true =>
      obtain ⟨b, hbf⟩ := val_follow hv0
      have HV0 := mkHid hv0
      have HBF := mkHid hbf
      have hbl := (followN_lt HG.out _ _ _ HK0.out hbf).1
      clear hv0 hbf
      go_wp2_with fail
      refine (l3Follow_calls g (kidAt g f 0) _ w4 (HK.out.next HB4.out) ⟨_, HG.out⟩ HK0.out).mono ?_
      rintro e w5 ⟨rfl, hb5⟩
      rw [follow_enough HG.out _ HK0.out, HBF.out]
      have e2 : folI (some b) = (b : Int) := rfl
      rw [e2]
      have HB45 : Hid (Below w4.heap.size w4 w5) := hb5
      have HB5 : Hid (Below w.heap.size w w5) := HB4.out.trans (hb5.mono HB4.out.size)
      have HBX5 : Hid (w5.heap[w2.heap.size]? = some (.cells #[.int .i64 g[f].op, .int .i64 g[f].num, .slice (some ⟨bl2, off2, none⟩) g[f].kids.length capk] 48)) := (hb5.block _ (cellsOf_lt HBX4.out)).trans HBX4.out
      clear b0 b2 d4
      have b0 := cell_of_blk HBX5.out 0 _ rfl
      have b2 := cell_of_blk HBX5.out 2 _ rfl
      obtain ⟨bl6, off6, r6, he6, f0, -, -, -, -, -⟩ := (HK.out.next HB5.out).at b hbl
      cases he6
      have HOB : Hid (opAt g b = g[b].op) := opAt_at b hbl
      clear hb5
      by_cases h67 : g[f].op = 6 ∨ g[f].op = 7
      · have HW : Hid (waits (arsOf ds) g f = waitOne (arsOf ds) g (kidAt g f 0) 5 (some none)) := waits1 (by rw [HOP.out]; exact h67)
        by_cases h5 : g[b].op = 5
        · have HV : Hid (redexN (arsOf ds) g (m + 1) a = some f) := by rw [Hid, HRN.out, HW.out, wait_ok HV0.out HBF.out (by rw [HOB.out]; exact h5)]
          have t5 : (g[b].op != 5) = false := by simp [h5]
          clear h5
          rcases h67 with h6 | h7
          · have t6 : (g[f].op == 6) = true := by simp [h6]
            clear h6
            go_wp2_with fail
            go_ret2
            exact ⟨ret_ii (by rw [HV.out]; rfl) (by rw [HV.out]; rfl), HB5.out⟩
          · have t6 : (g[f].op == 6) = false := by simp [h7]
            have t7 : (g[f].op == 7) = true := by simp [h7]
            clear h7
            go_wp2_with fail
            go_ret2
            exact ⟨ret_ii (by rw [HV.out]; rfl) (by rw [HV.out]; rfl), HB5.out⟩
        · have HV : Hid (redexN (arsOf ds) g (m + 1) a = none) := by rw [Hid, HRN.out, HW.out, wait_stuck HV0.out HBF.out (by rw [HOB.out]; exact h5)]
          have t5 : (g[b].op != 5) = true := by simp [h5]
          clear h5
          rcases h67 with h6 | h7
          · have t6 : (g[f].op == 6) = true := by simp [h6]
            clear h6
            go_wp2_with fail
            go_ret2
            exact ⟨ret_ii (by rw [HV.out]; rfl) (by rw [HV.out]; rfl), HB5.out⟩
          · have t6 : (g[f].op == 6) = false := by simp [h7]
            have t7 : (g[f].op == 7) = true := by simp [h7]
            clear h7
            go_wp2_with fail
            go_ret2
            exact ⟨ret_ii (by rw [HV.out]; rfl) (by rw [HV.out]; rfl), HB5.out⟩
      have t6 : (g[f].op == 6) = false := by simp; omega
      have t7 : (g[f].op == 7) = false := by simp; omega
      by_cases h2 : g[b].op = 2
      · have t2 : (g[b].op != 2) = false := by simp [h2]
        have HB2E : Hid (opAt g b = 2) := by rw [Hid, HOB.out]; exact h2
        by_cases h10 : g[f].op = 10
        · have HV : Hid (redexN (arsOf ds) g (m + 1) a = some f) := by rw [Hid, HRN.out, waits10 (by rw [HOP.out]; exact h10), wait_ok HV0.out HBF.out HB2E.out]
          have t10 : (g[f].op == 10) = true := by simp [h10]
          clear h2 h10 h67
          go_wp2_with fail
          go_ret2
          exact ⟨ret_ii (by rw [HV.out]; rfl) (by rw [HV.out]; rfl), HB5.out⟩
        · have t10 : (g[f].op == 10) = false := by simp [h10]
          have h89 : opAt g f = 8 ∨ opAt g f = 9 := by rw [HOP.out]; have := HKI.out.1; omega
          have HW : Hid (waits (arsOf ds) g f = waitOne (arsOf ds) g (kidAt g f 1) 2 (some none)) := by rw [Hid, waits2 h89, wait_ok HV0.out HBF.out HB2E.out]
          have hk1 : 1 < g[f].kids.length := by have := HKI.out.2; rw [if_neg h67, if_neg h10] at this; omega
          obtain ⟨hk1e, hk1l⟩ := kidAt_get HG.out f hff 1 hk1
          have HK1 := mkHid hk1l
          obtain ⟨bl7, off7, he7, d1w⟩ := HKK.out.at 1 hk1
          cases he7
          rw [hk1e] at d1w
          have HD15 : Hid (w5.cell? ⟨bl2, off2 + 1, none⟩ = some (.int .i64 (kidAt g f 1 : Int))) := by
            have h15 : Below w1.heap.size w1 w5 := HS12.out.trans ((HB23.out.trans ((HB34.out.trans (HB45.out.mono HB34.out.size)).mono HB23.out.size)).mono HS12.out.size)
            exact (h15.cell (p := ⟨bl2, off2 + 1, none⟩) (cell_lt d1w)).trans d1w
          have d5 := HD15.out
          clear h2 h10 h67 h89 hk1e hk1l d1w
          go_wp2_with fail
          refine (l4Value_calls ds g (kidAt g f 1) _ _ w5 (HD.out.next HB5.out) (HK.out.next HB5.out) HG.out HK1.out).mono ?_
          rintro e w6 ⟨rfl, hb6⟩
          have HB6 : Hid (Below w.heap.size w w6) := HB5.out.trans (hb6.mono HB5.out.size)
          have HBX6 : Hid (w6.heap[w2.heap.size]? = some (.cells #[.int .i64 g[f].op, .int .i64 g[f].num, .slice (some ⟨bl2, off2, none⟩) g[f].kids.length capk] 48)) := (hb6.block _ (cellsOf_lt HBX5.out)).trans HBX5.out
          have d6 := (hb6.cell (p := ⟨bl2, off2 + 1, none⟩) (cell_lt HD15.out)).trans HD15.out
          clear hb6 b0 b2 d5 f0
          have b2 := cell_of_blk HBX6.out 2 _ rfl
          cases hv1 : valB (arsOf ds) g (kidAt g f 1) with
          | false =>
            have HV : Hid (redexN (arsOf ds) g (m + 1) a = redexN (arsOf ds) g m (kidAt g f 1)) := by rw [Hid, HRN.out, HW.out, wait_go hv1]
            have HV1 := mkHid hv1
            clear hv1
            go_wp2_with fail
            have hsn2 : seen + 1 + m = g.length + 1 := by have := HSN.out; omega
            have hcall := HIM.out (seen + 1) (kidAt g f 1) _ _ w6 (HD.out.next HB6.out) (HK.out.next HB6.out) HK1.out hsn2 HV1.out
            rw [Int.natCast_add, Int.natCast_one] at hcall
            refine hcall.mono ?_
            rintro e w7 ⟨rfl, hb7⟩
            have HB7 : Hid (Below w.heap.size w w7) := HB6.out.trans (hb7.mono HB6.out.size)
            clear hb7 hcall
            go_wp2_with fail
            go_ret2
            exact ⟨ret_ii (by rw [HV.out]) (by rw [HV.out]), HB7.out⟩
          | true =>
            obtain ⟨b1, hbf1⟩ := val_follow hv1
            have HV1 := mkHid hv1
            have HBF1 := mkHid hbf1
            have hbl1 := (followN_lt HG.out _ _ _ HK1.out hbf1).1
            clear hv1 hbf1
            go_wp2_with fail
            refine (l3Follow_calls g (kidAt g f 1) _ w6 (HK.out.next HB6.out) ⟨_, HG.out⟩ HK1.out).mono ?_
            rintro e w7 ⟨rfl, hb7⟩
            rw [follow_enough HG.out _ HK1.out, HBF1.out]
            have e3 : folI (some b1) = (b1 : Int) := rfl
            rw [e3]
            have HB7 : Hid (Below w.heap.size w w7) := HB6.out.trans (hb7.mono HB6.out.size)
            obtain ⟨bl8, off8, r8, he8, f1, -, -, -, -, -⟩ := (HK.out.next HB7.out).at b1 hbl1
            cases he8
            have HOB1 : Hid (opAt g b1 = g[b1].op) := opAt_at b1 hbl1
            clear hb7 b2 d6
            by_cases h2 : g[b1].op = 2
            · have HV : Hid (redexN (arsOf ds) g (m + 1) a = some f) := by rw [Hid, HRN.out, HW.out, wait_ok HV1.out HBF1.out (by rw [HOB1.out]; exact h2)]
              have t2 : (g[b1].op != 2) = false := by simp [h2]
              clear h2
              go_wp2_with fail
              go_ret2
              exact ⟨ret_ii (by rw [HV.out]; rfl) (by rw [HV.out]; rfl), HB7.out⟩
            · have HV : Hid (redexN (arsOf ds) g (m + 1) a = none) := by rw [Hid, HRN.out, HW.out, wait_stuck HV1.out HBF1.out (by rw [HOB1.out]; exact h2)]
              have t2 : (g[b1].op != 2) = true := by simp [h2]
              clear h2
              go_wp2_with fail
              go_ret2
              exact ⟨ret_ii (by rw [HV.out]; rfl) (by rw [HV.out]; rfl), HB7.out⟩
      · have t2 : (g[b].op != 2) = true := by simp [h2]
        have HV : Hid (redexN (arsOf ds) g (m + 1) a = none) := by
          rw [Hid, HRN.out]
          have hw : waits (arsOf ds) g f = none := by
            by_cases h10 : g[f].op = 10
            · rw [waits10 (by rw [HOP.out]; exact h10), wait_stuck HV0.out HBF.out (by rw [HOB.out]; exact h2)]
            · rw [waits2 (by rw [HOP.out]; have := HKI.out.1; omega), wait_stuck HV0.out HBF.out (by rw [HOB.out]; exact h2)]
          rw [hw]
        clear h2 h67
        go_wp2_with fail
        go_ret2
        exact ⟨ret_ii (by rw [HV.out]; rfl) (by rw [HV.out]; rfl), HB5.out⟩

theorem l4R_all (ds : List Df) (g : List Ce) (hg : graphB g ds.length = true) (hp : progB ds = true) : ∀ n, L4R ds g n
  | 0 => l4R_step ds g 0 hg hp (fun m h => by omega)
  | n + 1 => l4R_step ds g (n + 1) hg hp (fun m h => by
    obtain rfl : n = m := by omega
    exact l4R_all ds g hg hp n)
end Go.Proofs.Ytglpehelmlehiaa
/-
  THE MODEL's l4Step AND l4Eval.
-/
namespace Go.Proofs.Ytglpehelmlehiaa
set_option linter.unusedVariables false
set_option linter.unusedSimpArgs false
open Go.RowKit

theorem changeG_code {ds : List Df} {g : List Ce} {at' : Nat} : (changeG ds g at').2 ≤ 3 := by
  unfold changeG callG; split <;> (try split) <;> simp
theorem stepG_code {ds : List Df} {g : List Ce} {a : Nat} : (stepG ds g a).2 ≤ 3 := by
  unfold stepG; cases redex (arsOf ds) g a with
  | none => simp
  | some at' => exact changeG_code
set_option maxRecDepth 100000 in
set_option maxHeartbeats 1600000 in
theorem l4Step_calls (ds : List Df) (g : List Ce) (a : Nat) (c v : Value) (w : World) (hd : DIn w ds c) (hk : CIn w g v) (hg : graphB g ds.length = true) (hp : progB ds = true) (ha : a < g.length) (hv : valB (arsOf ds) g a = false) :
    Calls Try.prog 116 #[c, v, .int .i64 (a : Int)] w (StG (stepG ds g a) w) := by
  have HD : Hid (DIn w ds c) := hd
  have HK : Hid (CIn w g v) := hk
  have HG := mkHid hg
  have HP := mkHid hp
  have HV0 := mkHid hv
  clear hg hp hv hd hk
  have HRX := mkHid (l4R_all ds g HG.out HP.out (g.length + 1) 0 a c v w HD.out HK.out ha (by omega) HV0.out)
  go_enter Try.func116, Try.ntmps116
  go_wp2_with fail
  refine HRX.out.mono ?_
  rintro e w1 ⟨rfl, hb1⟩
  have HB1 : Hid (Below w.heap.size w w1) := hb1
  clear hb1
  cases hr : redexN (arsOf ds) g (g.length + 1) a with
  | none =>
    have HV : Hid (stepG ds g a = (g, 2)) := by unfold Hid stepG redex; rw [hr]
    have e1 : rdI none = 0 := rfl
    have e2 : ((rdC none : Nat) : Int) = 2 := rfl
    rw [e1, e2]
    obtain ⟨ad, cap, rfl, -, -, -⟩ := id HK.out
    clear hr
    go_wp2_with fail
    go_ret2
    rw [HV.out]
    exact ⟨_, rfl, CellsOn.oldW (HK.out.next HB1.out) (by simp), HB1.out⟩
  | some at' =>
    have HV : Hid (stepG ds g a = changeG ds g at') := by unfold Hid stepG redex; rw [hr]
    have HRD := mkHid (redex_ready HG.out HP.out ha HV0.out hr)
    have e1 : rdI (some at') = (at' : Int) := rfl
    have e2 : ((rdC (some at') : Nat) : Int) = 0 := rfl
    rw [e1, e2]
    clear hr
    go_wp2_with fail
    refine (l4Change_calls ds g at' _ _ w1 (HD.out.next HB1.out) (HK.out.next HB1.out) HG.out HP.out HRD.out).mono ?_
    rintro e w2 ⟨v2, rfl, hi2, hb2⟩
    have HB2 : Hid (Below w.heap.size w w2) := HB1.out.trans (hb2.mono HB1.out.size)
    have HI2 := mkHid (hi2.backW HB1.out.size)
    obtain ⟨ad2, cap2, rfl, -, -, -⟩ := hi2
    clear hb2
    go_wp2_with fail
    go_ret2
    rw [HV.out]
    exact ⟨_, rfl, HI2.out, HB2.out⟩

/-- a graph, a code and a number of steps -/
def EvG (r : List Ce × Nat × Nat) (w : World) (e : Ending) (w' : World) : Prop := ∃ v, e = .returned (.tuple #[v, .int .i64 (r.2.1 : Int), .int .i64 (r.2.2 : Int)]) ∧ CIn w' r.1 v ∧ Below w.heap.size w w'
/-- what holds behind n steps: the rest of the evaluation -/
def EvRel (ds : List Df) (a : Nat) (fuel : Nat) (g0 : List Ce) (n : Nat) (g : List Ce) : Prop := n ≤ fuel ∧ graphB g ds.length = true ∧ a < g.length ∧ evalG ds a fuel g0 = ((evalG ds a (fuel - n) g).1, (evalG ds a (fuel - n) g).2.1, (evalG ds a (fuel - n) g).2.2 + n)
theorem EvRel.start {ds : List Df} {a fuel : Nat} {g : List Ce} (hg : graphB g ds.length = true) (ha : a < g.length) : EvRel ds a fuel g 0 g := ⟨Nat.zero_le _, hg, ha, by simp⟩
theorem evalG_val {ds : List Df} {a n : Nat} {g : List Ce} (h : valB (arsOf ds) g a = true) : evalG ds a n g = (g, 0, 0) := by
  cases n <;> (unfold evalG; rw [if_pos h])
theorem evalG_fuel {ds : List Df} {a : Nat} {g : List Ce} (h : valB (arsOf ds) g a = false) : evalG ds a 0 g = (g, 1, 0) := by
  unfold evalG; rw [if_neg (by rw [h]; simp)]
theorem evalG_stop {ds : List Df} {a n : Nat} {g : List Ce} (h : valB (arsOf ds) g a = false) (hc : (stepG ds g a).2 ≠ 0) : evalG ds a (n + 1) g = (g, (stepG ds g a).2, 0) := by
  unfold evalG; rw [if_neg (by rw [h]; simp), if_neg hc]
theorem evalG_step {ds : List Df} {a n : Nat} {g : List Ce} (h : valB (arsOf ds) g a = false) (hc : (stepG ds g a).2 = 0) : evalG ds a (n + 1) g = ((evalG ds a n (stepG ds g a).1).1, (evalG ds a n (stepG ds g a).1).2.1, (evalG ds a n (stepG ds g a).1).2.2 + 1) := by
  conv => lhs; unfold evalG
  rw [if_neg (by rw [h]; simp), if_pos hc]
theorem EvRel.val {ds : List Df} {a fuel n : Nat} {g0 g : List Ce} (h : EvRel ds a fuel g0 n g) (hv : valB (arsOf ds) g a = true) : evalG ds a fuel g0 = (g, 0, n) := by
  rw [h.2.2.2, evalG_val hv]; simp
theorem EvRel.fuel {ds : List Df} {a fuel : Nat} {g0 g : List Ce} (h : EvRel ds a fuel g0 fuel g) (hv : valB (arsOf ds) g a = false) : evalG ds a fuel g0 = (g, 1, fuel) := by
  rw [h.2.2.2, Nat.sub_self, evalG_fuel hv]; simp
theorem EvRel.stop {ds : List Df} {a fuel n : Nat} {g0 g : List Ce} (h : EvRel ds a fuel g0 n g) (hn : n < fuel) (hv : valB (arsOf ds) g a = false) (hc : (stepG ds g a).2 ≠ 0) : evalG ds a fuel g0 = (g, (stepG ds g a).2, n) := by
  rw [h.2.2.2, show fuel - n = (fuel - n - 1) + 1 by omega, evalG_stop hv hc]; simp
theorem EvRel.next {ds : List Df} {a fuel n : Nat} {g0 g : List Ce} (h : EvRel ds a fuel g0 n g) (hp : progB ds = true) (hn : n < fuel) (hv : valB (arsOf ds) g a = false) (hc : (stepG ds g a).2 = 0) : EvRel ds a fuel g0 (n + 1) (stepG ds g a).1 := by
  have hs := stepG_valid h.2.1 hp h.2.2.1 hv
  have ha := h.2.2.1
  refine ⟨hn, hs.1, by omega, ?_⟩
  rw [h.2.2.2, show fuel - n = (fuel - (n + 1)) + 1 by omega, evalG_step hv hc]
  simp only [Prod.mk.injEq, true_and]
  omega

end Go.Proofs.Ytglpehelmlehiaa
/-
  THE MODEL's StepGraph.
-/
namespace Go.Proofs.Ytglpehelmlehiaa
set_option linter.unusedVariables false
set_option linter.unusedSimpArgs false
open Go.RowKit

/-- what StepGraph answers -/
def stO (ds : List Df) (g : List Ce) (a : Int) : List Ce × Nat := if rightB ds g a = true then (if valB (arsOf ds) g a.toNat = true then (g, 0) else stepG ds g a.toNat) else ([], 4)
theorem stO_no {ds : List Df} {g : List Ce} {a : Int} (h : rightB ds g a = false) : stO ds g a = ([], 4) := by unfold stO; rw [if_neg (by rw [h]; simp)]
theorem stO_val {ds : List Df} {g : List Ce} {a : Nat} (h : rightB ds g (a : Int) = true) (hv : valB (arsOf ds) g a = true) : stO ds g (a : Int) = (g, 0) := by unfold stO; rw [if_pos h, Int.toNat_natCast, if_pos hv]
theorem stO_step {ds : List Df} {g : List Ce} {a : Nat} (h : rightB ds g (a : Int) = true) (hv : valB (arsOf ds) g a = false) : stO ds g (a : Int) = stepG ds g a := by unfold stO; rw [if_pos h, Int.toNat_natCast, if_neg (by rw [hv]; simp)]

set_option maxHeartbeats 1600000 in
theorem specStep_calls (ds : List Df) (g : List Ce) (a : Int) (c v : Value) (w : World) (hd : DIn w ds c) (hk : CIn w g v) :
    Calls Try.prog 105 #[c, v, .int .i64 a] w (StG0 (stO ds g a) w) := by
  have HD : Hid (DIn w ds c) := hd
  have HK : Hid (CIn w g v) := hk
  clear hd hk
  go_enter Try.func105, Try.ntmps105
  go_wp2_with fail
  refine (l4Right_calls ds g a _ _ _ HD.out HK.out).mono ?_
  rintro e w1 ⟨rfl, hb1⟩
  have HB1 : Hid (Below w.heap.size w w1) := hb1
  clear hb1
  cases hr : rightB ds g a with
  | false =>
    have HV := mkHid (stO_no hr)
    clear hr
    go_wp2_with fail
    go_ret2
    rw [HV.out]
    exact ⟨_, rfl, ⟨_, 0, rfl, Nat.le_refl _, by simp [maxLen], Or.inl rfl⟩, HB1.out.alloc HB1.out.size _⟩
  | true =>
    have HR := mkHid (right_parts hr)
    have HRT := mkHid hr
    obtain ⟨n, rfl⟩ : ∃ n : Nat, a = (n : Int) := ⟨a.toNat, by have := HR.out.2.2.1; omega⟩
    have hn : n < g.length := by have := HR.out.2.2.2; omega
    clear hr
    go_wp2_with fail
    refine (l4Value_calls ds g n _ _ _ (HD.out.next HB1.out) (HK.out.next HB1.out) HR.out.2.1 hn).mono ?_
    rintro e w2 ⟨rfl, hb2⟩
    have HB2 : Hid (Below w.heap.size w w2) := HB1.out.trans (hb2.mono HB1.out.size)
    clear hb2
    cases hv : valB (arsOf ds) g n with
    | true =>
      have HV := mkHid (stO_val HRT.out hv)
      clear hv
      go_wp2_with fail
      refine (l3Copy_calls g _ w2 (HK.out.next HB2.out) ⟨_, HR.out.2.1⟩).mono ?_
      rintro e w3 ⟨gv, rfl, hog, hb3⟩
      have HB3 : Hid (Below w.heap.size w w3) := HB2.out.trans (hb3.mono HB2.out.size)
      have HI := mkHid (hog.own fun k hk _ => hk).inn
      obtain ⟨ad3, cap3, rfl⟩ := hog.form
      clear hb3 hog
      go_wp2_with fail
      go_ret2
      rw [HV.out]
      exact ⟨_, rfl, HI.out, HB3.out⟩
    | false =>
      have HV := mkHid (stO_step HRT.out hv)
      have HVF := mkHid hv
      have HVA := mkHid (stepG_valid HR.out.2.1 HR.out.1 hn hv).1
      clear hv
      go_wp2_with fail
      refine (l4Step_calls ds g n _ _ w2 (HD.out.next HB2.out) (HK.out.next HB2.out) HR.out.2.1 HR.out.1 hn HVF.out).mono ?_
      rintro e w3 ⟨v3, rfl, hi3, hb3⟩
      have HB3 : Hid (Below w.heap.size w w3) := HB2.out.trans (hb3.mono HB2.out.size)
      have HI3 := mkHid hi3.inW
      obtain ⟨ad3, cap3, rfl, -, -, -⟩ := hi3
      clear hb3
      go_wp2_with fail
      refine (l3Copy_calls (stepG ds g n).1 _ w3 HI3.out ⟨_, HVA.out⟩).mono ?_
      rintro e w4 ⟨gv, rfl, hog, hb4⟩
      have HB4 : Hid (Below w.heap.size w w4) := HB3.out.trans (hb4.mono HB3.out.size)
      have HI := mkHid (hog.own fun k hk _ => hk).inn
      obtain ⟨ad4, cap4, rfl⟩ := hog.form
      clear hb4 hog
      go_wp2_with fail
      go_ret2
      rw [HV.out]
      exact ⟨_, rfl, HI.out, HB4.out⟩
end Go.Proofs.Ytglpehelmlehiaa
/-
  THE MODEL's StepGraph, with more: the graph that it answers lies in rows of its own.
-/
namespace Go.Proofs.Ytglpehelmlehiaa
set_option linter.unusedVariables false
set_option linter.unusedSimpArgs false
open Go.RowKit

def StGN (r : List Ce × Nat) (w : World) (e : Ending) (w' : World) : Prop := ∃ v, e = .returned (.tuple #[v, .int .i64 (r.2 : Int)]) ∧ OwnC w' w.heap.size (fun b => w.heap.size ≤ b) r.1 v ∧ Below w.heap.size w w'
set_option maxHeartbeats 1600000 in
theorem specStepN_calls (ds : List Df) (g : List Ce) (a : Int) (c v : Value) (w : World) (hd : DIn w ds c) (hk : CIn w g v) :
    Calls Try.prog 105 #[c, v, .int .i64 a] w (StGN (stO ds g a) w) := by
  have HD : Hid (DIn w ds c) := hd
  have HK : Hid (CIn w g v) := hk
  clear hd hk
  go_enter Try.func105, Try.ntmps105
  go_wp2_with fail
  refine (l4Right_calls ds g a _ _ _ HD.out HK.out).mono ?_
  rintro e w1 ⟨rfl, hb1⟩
  have HB1 : Hid (Below w.heap.size w w1) := hb1
  clear hb1
  cases hr : rightB ds g a with
  | false =>
    have HV := mkHid (stO_no hr)
    clear hr
    go_wp2_with fail
    go_ret2
    rw [HV.out]
    exact ⟨_, rfl, OwnC.zero (Deep.blk_alloc_new _ _) HB1.out.size, HB1.out.alloc HB1.out.size _⟩
  | true =>
    have HR := mkHid (right_parts hr)
    have HRT := mkHid hr
    obtain ⟨n, rfl⟩ : ∃ n : Nat, a = (n : Int) := ⟨a.toNat, by have := HR.out.2.2.1; omega⟩
    have hn : n < g.length := by have := HR.out.2.2.2; omega
    clear hr
    go_wp2_with fail
    refine (l4Value_calls ds g n _ _ _ (HD.out.next HB1.out) (HK.out.next HB1.out) HR.out.2.1 hn).mono ?_
    rintro e w2 ⟨rfl, hb2⟩
    have HB2 : Hid (Below w.heap.size w w2) := HB1.out.trans (hb2.mono HB1.out.size)
    clear hb2
    cases hv : valB (arsOf ds) g n with
    | true =>
      have HV := mkHid (stO_val HRT.out hv)
      clear hv
      go_wp2_with fail
      refine (l3Copy_calls g _ w2 (HK.out.next HB2.out) ⟨_, HR.out.2.1⟩).mono ?_
      rintro e w3 ⟨gv, rfl, hog, hb3⟩
      have HB3 : Hid (Below w.heap.size w w3) := HB2.out.trans (hb3.mono HB2.out.size)
      have HI : Hid (OwnC w3 w.heap.size (fun b => w.heap.size ≤ b) g gv) := hog.downS HB2.out.size (fun k hk => Nat.le_trans HB2.out.size hk)
      obtain ⟨ad3, cap3, rfl⟩ := hog.form
      clear hb3 hog
      go_wp2_with fail
      go_ret2
      rw [HV.out]
      exact ⟨_, rfl, HI.out, HB3.out⟩
    | false =>
      have HV := mkHid (stO_step HRT.out hv)
      have HVF := mkHid hv
      have HVA := mkHid (stepG_valid HR.out.2.1 HR.out.1 hn hv).1
      clear hv
      go_wp2_with fail
      refine (l4Step_calls ds g n _ _ w2 (HD.out.next HB2.out) (HK.out.next HB2.out) HR.out.2.1 HR.out.1 hn HVF.out).mono ?_
      rintro e w3 ⟨v3, rfl, hi3, hb3⟩
      have HB3 : Hid (Below w.heap.size w w3) := HB2.out.trans (hb3.mono HB2.out.size)
      have HI3 := mkHid hi3.inW
      obtain ⟨ad3, cap3, rfl, -, -, -⟩ := hi3
      clear hb3
      go_wp2_with fail
      refine (l3Copy_calls (stepG ds g n).1 _ w3 HI3.out ⟨_, HVA.out⟩).mono ?_
      rintro e w4 ⟨gv, rfl, hog, hb4⟩
      have HB4 : Hid (Below w.heap.size w w4) := HB3.out.trans (hb4.mono HB3.out.size)
      have HI : Hid (OwnC w4 w.heap.size (fun b => w.heap.size ≤ b) (stepG ds g n).1 gv) := hog.downS HB3.out.size (fun k hk => Nat.le_trans HB3.out.size hk)
      obtain ⟨ad4, cap4, rfl⟩ := hog.form
      clear hb4 hog
      go_wp2_with fail
      go_ret2
      rw [HV.out]
      exact ⟨_, rfl, HI.out, HB4.out⟩
end Go.Proofs.Ytglpehelmlehiaa
/-
  THE MODEL's l5Run: a graph in the middle of an evaluation.
-/
namespace Go.Proofs.Ytglpehelmlehiaa
set_option linter.unusedVariables false
set_option linter.unusedSimpArgs false
open Go.RowKit

/-- a program, a graph for it and a root were drawn: in the middle of an evaluation -/
def RunG (w : World) (b p : Nat) (e : Ending) (w' : World) : Prop :=
  ∃ ds G r pv gv p', e = .returned (.tuple #[pv, gv, .int .i64 ((r : Nat) : Int)]) ∧ progB ds = true ∧ graphB G ds.length = true ∧ r < G.length ∧ DefsOn w' (PN w.heap.size w') ds pv ∧ OwnC w' w.heap.size (fun x => w.heap.size ≤ x) G gv ∧ RdOn w' b p' ∧ p' ≤ p + 12100 ∧ But b w w'
/-- one step keeps the graph valid -/
theorem stO_keeps {ds : List Df} {G : List Ce} {r : Nat} (hp : progB ds = true) (hg : graphB G ds.length = true) (hr : r < G.length) : graphB (stO ds G (r : Int)).1 ds.length = true ∧ r < (stO ds G (r : Int)).1.length := by
  unfold stO
  split
  · rw [Int.toNat_natCast]
    split
    · exact ⟨hg, hr⟩
    · rename_i hv
      have h := stepG_valid hg hp hr (by simpa using hv)
      exact ⟨h.1, by omega⟩
  · rename_i h
    exfalso
    apply h
    unfold rightB isAt
    rw [hp, hg]
    simp
    omega

set_option maxRecDepth 100000 in
set_option maxHeartbeats 1600000 in
theorem l5Run_calls (w : World) (b p : Nat) (h : RdOn w b p) (hp : p ≤ 900000) : Calls Try.prog 78 #[.pointer (some ⟨b, 0, none⟩)] w (RunG w b p) := by
  have hbw := h.lt
  have HR := mkHid h
  clear h
  go_enter Try.func78, Try.ntmps78
  go_wp2_with fail
  refine (l3Draw_calls w b p HR.out (by omega)).mono ?_
  rintro e w1 ⟨ds, G0, r, pv, gv, p1, rfl, hpr, hgb, hr, hl, hd1, ho1, hr1, hp1, hb1⟩
  have HP := mkHid hpr
  have HG0 := mkHid (And.intro hgb hr)
  have HD1 := mkHid hd1
  have HO1 := mkHid ho1
  have HR1 := mkHid hr1
  have HB1 := mkHid hb1
  have hs1 := hb1.size
  obtain ⟨adp, capp, rfl, -, -, -⟩ := id hd1
  obtain ⟨adg, capg, rfl⟩ := ho1.form
  clear hpr hgb hr hl hd1 ho1 hr1 hb1
  go_wp2_with fail
  refine (num_calls [5, 2, 10, 1, 0, 20] (.slice (some ⟨w1.heap.size, 0, none⟩) 6 6) _ b p1 (HR1.out.next (box_below _ _)) (by omega) (ints_at w1 w1.heap.size rfl b [5, 2, 10, 1, 0, 20] #[.int .i64 5, .int .i64 2, .int .i64 10, .int .i64 1, .int .i64 0, .int .i64 20] (by omega) rfl (ints_gen [5, 2, 10, 1, 0, 20])) (by simp) (by simp)).mono ?_
  rintro e w2 ⟨y, rfl, hy, hr2, hb2⟩
  have hbb : But b w1 w2 := (But.of_below (box_below _ _)).trans hb2
  have hyr : ∀ z ∈ ([5, 2, 10, 1, 0, 20] : List Int), 0 ≤ z ∧ z ≤ 20 := by decide
  obtain ⟨i0, rfl⟩ := Int.eq_ofNat_of_zero_le (hyr y hy).1
  have hi0 : i0 ≤ 20 := by have := (hyr _ hy).2; omega
  have HR2 := mkHid hr2
  have HB2 : Hid (But b w w2) := HB1.out.trans hbb
  have HD2 := mkHid (defs_but HD1.out hbb hbw)
  have HO2 := mkHid (HO1.out.but hbb hbw)
  have hs2 : w.heap.size ≤ w2.heap.size := HB2.out.size
  clear hy hyr hr2 hb2 hbb
  go_wp2_with fail
  go_loopw [6, 8] (fun gv iv wr => ∃ (G : List Ce) (i : Nat), iv = .int .i64 (i : Int) ∧ i ≤ 20 ∧ Hid (OwnC wr w.heap.size (fun x => w.heap.size ≤ x) G gv) ∧ Hid (graphB G ds.length = true ∧ r < G.length) ∧ Hid (RdOn wr b (p1 + 1)) ∧ Hid (DefsOn wr (PN w.heap.size wr) ds (.slice adp ds.length capp)) ∧ Hid (But b w wr)) (fun _ iv _ => (intOf iv).toNat)
  case atStart => exact ⟨G0, i0, rfl, hi0, HO2.out, HG0.out, HR2.out, HD2.out, HB2.out⟩
  case round =>
    obtain ⟨G, i, rfl, hi, HO, HG, HRr, HD, HB⟩ := hrel
    obtain ⟨adw, capw, rfl⟩ := HO.out.form
    by_cases hi0' : i = 0
    · subst hi0'
      go_wp2_with fail
      exact bodyPost_ret (v := .tuple #[.slice adp ds.length capp, .slice adw G.length capw, .int .i64 (r : Int)]) (by simp [results, Try.results78, go_sem]) rfl ⟨ds, G, r, _, _, p1 + 1, rfl, HP.out, HG.out.1, HG.out.2, HD.out, HO.out, HRr.out, by omega, HB.out⟩
    obtain ⟨m, rfl⟩ : ∃ m, i = m + 1 := ⟨i - 1, by omega⟩
    have HK := mkHid (stO_keeps HP.out HG.out.1 HG.out.2)
    have HDI : Hid (DIn wr ds (.slice adp ds.length capp)) := HD.out.mono (fun k hk => hk.2.1) fun _ _ => rfl
    obtain ⟨G2, hG2⟩ : ∃ G2, G2 = (stO ds G (r : Int)).1 := ⟨_, rfl⟩
    obtain ⟨cd, hcd⟩ : ∃ cd, cd = (stO ds G (r : Int)).2 := ⟨_, rfl⟩
    have HS := specStepN_calls ds G r (.slice adp ds.length capp) (.slice adw G.length capw) wr HDI.out HO.out.cinL
    unfold StGN at HS
    rw [← hG2, ← hcd] at HS
    rw [← hG2] at HK
    have HS := mkHid HS
    clear hG2 hcd
    go_wp2_with fail
    refine HS.out.mono ?_
    rintro e w3 ⟨v3, rfl, ho3, hb3⟩
    have hsr : w.heap.size ≤ wr.heap.size := HB.out.size
    have HO3 : Hid (OwnC w3 w.heap.size (fun x => w.heap.size ≤ x) G2 v3) := ho3.downS hsr (fun k hk => Nat.le_trans hsr hk)
    have HOG : Hid (OwnC w3 w.heap.size (fun x => w.heap.size ≤ x) G (.slice adw G.length capw)) := HO.out.but (But.of_below (b := b) hb3) hbw
    have HR3 := mkHid (HRr.out.next hb3)
    have HD3 := mkHid (defs_but HD.out (But.of_below (b := b) hb3) hbw)
    have HB3 : Hid (But b w w3) := HB.out.trans (But.of_below hb3)
    obtain ⟨ad3, cap3, rfl⟩ := ho3.form
    clear ho3 hb3
    by_cases hc0 : cd = 0
    · subst hc0
      go_wp2_with fail
      go_roundw
      case rel => exact ⟨G2, m, by go_num, by omega, HO3.out, HK.out, HR3.out, HD3.out, HB3.out⟩
      case measure => simp [intOf] <;> omega
    · have hcb : ((cd : Int) != 0) = true := by simp only [bne_iff_ne]; omega
      go_wp2_with fail
      exact bodyPost_ret (v := .tuple #[.slice adp ds.length capp, .slice adw G.length capw, .int .i64 (r : Int)]) (by simp [results, Try.results78, go_sem]) rfl ⟨ds, G, r, _, _, p1 + 1, rfl, HP.out, HG.out.1, HG.out.2, HD3.out, HOG.out, HR3.out, by omega, HB3.out⟩
end Go.Proofs.Ytglpehelmlehiaa
/-
  THE MODEL's l3Copy, with more: each list of operands lies in a row of its own.
-/
namespace Go.Proofs.Ytglpehelmlehiaa
set_option linter.unusedVariables false
set_option linter.unusedSimpArgs false
open Go.RowKit

/-- the lists of operands lie in rows of their own, all distinct -/
def KStk (w : World) (lo : Nat) (G : List Ce) (v : Value) (xs : List Value) : Prop :=
  w.ownsRow lo 48 3 v G.length xs ∧ ∃ KV : Nat → Value, (∀ j (hj : j < G.length), xs[j * 3 + 2]? = some (KV j) ∧ ∃ ws : List Nat, Stk w lo ws (KV j) ∧ G[j].kids = ws.map fun (a : Nat) => (a : Int)) ∧ ∀ i j, i < G.length → j < G.length → i ≠ j → ∀ b, (KV i).ownBlock = some b → (KV j).ownBlock ≠ some b
theorem KStk.nil {w : World} {lo b : Nat} (h : w.heap[b]? = some (.cells #[] 48)) (hb : lo ≤ b) : KStk w lo [] (.slice (some ⟨b, 0, none⟩) 0 0) [] :=
  ⟨⟨rfl, Or.inr ⟨b, 0, #[], rfl, hb, h, Nat.le_refl _, by simp [maxLen], rfl, rfl⟩⟩, fun _ => undef, fun j hj => absurd hj (by simp), fun i j hi => absurd hi (by simp)⟩
theorem stk_keep {w w' : World} {lo : Nat} {ws : List Nat} {v : Value} (h : Stk w lo ws v) (hk : ∀ k, v.ownBlock = some k → k < w.heap.size → w'.heap[k]? = w.heap[k]?) : Stk w' lo ws v := by
  refine ⟨h.1, ?_⟩
  rcases h.2 with h | ⟨g, cap, cur, rfl, hg, hh, r⟩
  · exact Or.inl h
  · exact Or.inr ⟨g, cap, cur, rfl, hg, (hk g rfl (Array.getElem?_eq_some_iff.1 hh).1).trans hh, r⟩
/-- a row of ints is not the row of cells -/
theorem stk_not_cells {w : World} {lo lo2 : Nat} {ws : List Nat} {v v2 : Value} {n : Nat} {xs : List Value} (h : Stk w lo ws v) (h2 : w.ownsRow lo2 48 3 v2 n xs) {b : Nat} (hb : v.ownBlock = some b) : v2.ownBlock ≠ some b := by
  intro e
  rcases h.2 with ⟨rfl, -⟩ | ⟨g, cap, cur, rfl, -, hh, -⟩
  · simp [Value.ownBlock] at hb
  · rcases h2.2 with ⟨rfl, -⟩ | ⟨g2, cap2, cur2, rfl, -, hh2, -⟩
    · simp [Value.ownBlock] at e
    · simp only [Value.ownBlock, Option.some.injEq] at hb e
      subst hb
      subst e
      rw [hh] at hh2
      simp at hh2
theorem copk_push {wr w1 w3 : World} {lo : Nat} {G : List Ce} {v v' kv : Value} {ws : List Nat} {o n : Int} {xs : List Value} (h : KStk wr lo G v xs) (hlo : lo ≤ wr.heap.size) (h1 : Below wr.heap.size wr w1) (hst : Stk w1 wr.heap.size ws kv) (obj : Obj)
    (hown : w3.ownsRow lo 48 3 v' (G.length + 1) (xs ++ [.int .i64 o, .int .i64 n, kv])) (hg : (w1.alloc obj).grownBy w3 v.ownBlock) :
    KStk w3 lo (G ++ [⟨o, n, ws.map fun (a : Nat) => (a : Int)⟩]) v' (xs ++ [.int .i64 o, .int .i64 n, kv]) := by
  have hs1 := h1.size
  obtain ⟨hrow, KV, hk, hd⟩ := h
  have hlen := hrow.1
  have hrowlt : ∀ k, v.ownBlock = some k → k < wr.heap.size := fun k hk => (own_some hrow k hk).2
  have oldkv : ∀ j (hj : j < G.length), ∀ b, (KV j).ownBlock = some b → b < wr.heap.size := fun j hj b hb => by
    obtain ⟨ws, hs, -⟩ := (hk j hj).2
    exact (own_some hs b hb).2
  refine ⟨by simpa using hown, fun j => if j = G.length then kv else KV j, fun j hj => ?_, fun i j hi hj hij b hb => ?_⟩
  · by_cases hjl : j < G.length
    · obtain ⟨e1, ws', e2, e3⟩ := hk j hjl
      simp only [if_neg (show ¬ j = G.length by omega)]
      refine ⟨by rw [List.getElem?_append_left (by omega)]; exact e1, ws', stk_keep e2 fun k hk2 hk3 => ?_, by rw [List.getElem_append_left hjl]; exact e3⟩
      have hne := stk_not_cells e2 hrow hk2
      exact (hg.block k (by rw [Deep.nblk_alloc]; omega) (fun e => hne e.symm)).trans ((Deep.blk_alloc_lt _ _ _ (by omega)).trans (h1.block k hk3))
    · have hj' : j = G.length := by simp at hj; omega
      subst hj'
      simp only [if_pos]
      have hstA : Stk w3 lo ws kv := by
        refine stk_keep (w := w1.alloc obj) (stk_keep (hst.lower hlo) fun k hk2 hk3 => Deep.blk_alloc_lt _ _ _ hk3) fun k hk2 hk3 => hg.block k hk3 (fun e => ?_)
        have h3 := (own_some hst k hk2).1
        have h4 := hrowlt k e.symm
        omega
      exact ⟨by rw [List.getElem?_append_right (by omega)]; simp [hlen], ws, hstA, by simp⟩
  · simp only [List.length_append, List.length_cons, List.length_nil] at hi hj
    by_cases hil : i = G.length
    · have hjl : ¬ j = G.length := by omega
      simp only [if_pos hil, if_neg hjl] at hb ⊢
      intro e
      have := oldkv j (by omega) b e
      have := (own_some hst b hb).1
      omega
    · simp only [if_neg hil] at hb
      by_cases hjl : j = G.length
      · simp only [if_pos hjl]
        intro e
        have := oldkv i (by omega) b hb
        have := (own_some hst b e).1
        omega
      · simp only [if_neg hjl]
        exact hd i j (by omega) (by omega) hij b hb
/-- a copy of a graph that can be written to -/
def CopyResK (g : List Ce) (w : World) (e : Ending) (w' : World) : Prop := ∃ gv xs, e = .returned gv ∧ OwnC w' w.heap.size (fun b => w.heap.size ≤ b) g gv ∧ KStk w' w.heap.size g gv xs ∧ Below w.heap.size w w'

set_option maxRecDepth 100000 in
set_option maxHeartbeats 1600000 in
theorem l3CopyK_calls (g : List Ce) (v : Value) (w : World) (hk : CIn w g v) (hg : ∃ defs, graphB g defs = true) : Calls Try.prog 102 #[v] w (CopyResK g w) := by
  have HK : Hid (CIn w g v) := hk
  obtain ⟨defs, hg⟩ := hg
  have HG : Hid (graphB g defs = true) := hg
  obtain ⟨ad, cap, rfl, hl, hm, -⟩ := hk
  unfold maxLen at hm
  have h400 : g.length ≤ 400 := graphB_len hg
  clear hg
  go_enter Try.func102, Try.ntmps102
  go_wp2_with fail
  have HST : Hid (OwnC (w.alloc (.cells #[] 48)) w.heap.size (fun b => w.heap.size ≤ b) (g.take 0) (.slice (some ⟨w.heap.size, 0, none⟩) 0 0)) :=
    ⟨fun i h => absurd h (by simp), [], fun _ => 0, ⟨rfl, Or.inr ⟨w.heap.size, 0, #[], rfl, Nat.le_refl _, Deep.blk_alloc_new _ _, Nat.le_refl _, by simp [maxLen], rfl, rfl⟩⟩, fun j hj => absurd hj (by simp), fun i j hi _ => absurd hi (by simp)⟩
  have HST2 : Hid (KStk (w.alloc (.cells #[] 48)) w.heap.size (g.take 0) (.slice (some ⟨w.heap.size, 0, none⟩) 0 0) []) := KStk.nil (Deep.blk_alloc_new _ _) (Nat.le_refl _)
  go_loopw [3, 4] (fun out i wr => ∃ k : Nat, k ≤ g.length ∧ i = .int .i64 k ∧ Hid (∃ xs, KStk wr w.heap.size (g.take k) out xs) ∧ OwnC wr w.heap.size (fun b => w.heap.size ≤ b) (g.take k) out ∧ Below w.heap.size w wr) (fun _ i _ => g.length - (intOf i).toNat)
  case atStart => exact ⟨0, Nat.zero_le _, rfl, ⟨_, HST2.out⟩, HST.out, box_below _ _⟩
  case round =>
    obtain ⟨k, hk, rfl, HKS, hown, hb⟩ := hrel
    have HO : Hid (OwnC wr w.heap.size (fun b => w.heap.size ≤ b) (g.take k) u3) := hown
    have HB : Hid (Below w.heap.size w wr) := hb
    have hsz := hb.size
    by_cases hlt : k < g.length
    · obtain ⟨bl, off, r2, rfl, c0w, c1w, c2w, io, iN, hkk⟩ := HK.out.at k hlt
      have HKK : Hid (IIn wr g[k].kids r2) := hkk.next hb
      have HLW : Hid (bl < w.heap.size) := cell_lt c0w
      have c0 := (hb.cell (p := ⟨bl, off + k * 3, none⟩) HLW.out).trans c0w
      have c1 := (hb.cell (p := ⟨bl, off + k * 3 + 1, none⟩) HLW.out).trans c1w
      have c2 := (hb.cell (p := ⟨bl, off + k * 3 + 2, none⟩) HLW.out).trans c2w
      have HC : Hid (w.cell? ⟨bl, off + k * 3, none⟩ = some (.int .i64 g[k].op) ∧ w.cell? ⟨bl, off + k * 3 + 1, none⟩ = some (.int .i64 g[k].num) ∧ w.cell? ⟨bl, off + k * 3 + 2, none⟩ = some r2) := ⟨c0w, c1w, c2w⟩
      clear c0w c1w c2w
      have HIO : Hid (I64 g[k].op ∧ I64 g[k].num) := ⟨io, iN⟩
      have lg := cell_lt c0
      have HTL : Hid ((g.take k).length = k) := by rw [Hid, List.length_take]; omega
      obtain ⟨adk, capk, rfl, -, -, -⟩ := id hkk
      clear hown hb hkk io iN
      obtain ⟨xs, hks⟩ := HKS.out
      have HKX : Hid (KStk wr w.heap.size (g.take k) u3 xs) := hks
      have hx := hks.1
      clear hks
      rw [HTL.out] at hx
      have HX : Hid (wr.ownsRow w.heap.size 48 3 u3 k xs) := hx
      obtain ⟨iC, zC, hII⟩ := infoC1
      have HII : Hid (Try.prog.info? 48 = some iC ∧ iC.zero = some zC ∧ iC.size = 3 ∧ iC.bytes = 40 ∧ zC.cells.size = 3) := hII
      have HK3 : Hid (g[k].kids.length ≤ 3) := (kids_graph HG.out k hlt).1
      have HKN : Hid ((kidsN g k).length = g[k].kids.length) := by rw [Hid, kidsN_at k hlt]; simp
      clear hII hx
      go_wp2_with fail
      go_region_held3 (fun w' => w'.cell? ⟨bl, off + k * 3, none⟩ = some (.int .i64 g[k].op) ∧ w'.cell? ⟨bl, off + k * 3 + 1, none⟩ = some (.int .i64 g[k].num) ∧ w'.cell? ⟨bl, off + k * 3 + 2, none⟩ = some (.slice adk g[k].kids.length capk))
        (first
          | go_keep
          | exact ⟨e0, e1, e2⟩
          | exact ⟨d0, d1, d2⟩
          | exact ⟨old_cell d0 _, old_cell d1 _, old_cell d2 _⟩
          | exact ⟨old_cell c0 _, old_cell c1 _, old_cell c2 _⟩)
        (first
          | (refine step_push (by rfl) (.tmp 23) (.tmp 28) (by rfl) wr.heap.size [] (kidsN g k) (.slice (some ⟨wr.heap.size, 0, none⟩) 0 0) (.slice adk g[k].kids.length capk) (by rfl) (stk_zero (Deep.blk_alloc_new wr _) (Nat.le_refl _)) (by rfl) (HKK.out.next ((box_below wr _).drew)) (kids_back HG.out k hlt) (by show wr.heap.size ≤ (wr.alloc _).heap.size; rw [Deep.nblk_alloc]; omega) (by rw [HKN.out]; have := HK3.out; simp only [List.length_nil]; omega) ?_; intro v1 w1 hst1 hg1; have HB1 : Hid (Below wr.heap.size wr w1) := copy_below hg1; have HST1 : Hid (Stk w1 wr.heap.size (kidsN g k) v1) := hst1; obtain ⟨ad1, cap1, rfl⟩ := stk_len2 hst1 HKN.out; have d0 := (HB1.out.cell (p := ⟨bl, off + k * 3, none⟩) lg).trans c0; have d1 := (HB1.out.cell (p := ⟨bl, off + k * 3 + 1, none⟩) lg).trans c1; have d2 := (HB1.out.cell (p := ⟨bl, off + k * 3 + 2, none⟩) lg).trans c2; clear hst1 hg1)
          | (refine step_append_where (by rfl) (.tmp 12) (.tmp 31) 24 (by rfl) w.heap.size 48 iC zC 3 40 Try.underlying24 HII.out.1 HII.out.2.1 HII.out.2.2.1 HII.out.2.2.2.1 HII.out.2.2.2.2 (by decide) u3 k xs (by rfl) (copy_own HX.out HB1.out _) ⟨w1.heap.size, 0, none⟩ 1 1 [.int .i64 g[k].op, .int .i64 g[k].num, .slice ad1 g[k].kids.length cap1] (by rfl) (by rfl) (news3c w1 _ _ _) (by simp [Value.oneCell']) (by unfold maxLen; omega) (by omega) (by show w.heap.size ≤ (w1.alloc _).heap.size; rw [Deep.nblk_alloc]; have := HB1.out.size; omega) (by omega) ?_; intro v3 w3 hown3 hg3 hw3; have HOWN3 : Hid (w3.ownsRow w.heap.size 48 3 v3 (k + 1) (xs ++ [.int .i64 g[k].op, .int .i64 g[k].num, .slice ad1 g[k].kids.length cap1])) := hown3; have HG3 : Hid ((w1.alloc (.cells #[.int .i64 g[k].op, .int .i64 g[k].num, .slice ad1 g[k].kids.length cap1] 48)).grownBy w3 u3.ownBlock) := hg3; have HB3 : Hid (Below w.heap.size w w3) := copy_below3 HB.out HB1.out HX.out hg3; have e0 := (HB3.out.cell (p := ⟨bl, off + k * 3, none⟩) HLW.out).trans HC.out.1; have e1 := (HB3.out.cell (p := ⟨bl, off + k * 3 + 1, none⟩) HLW.out).trans HC.out.2.1; have e2 := (HB3.out.cell (p := ⟨bl, off + k * 3 + 2, none⟩) HLW.out).trans HC.out.2.2; clear hown3 hg3 hw3))
      go_wp2_with fail
      go_roundw
      case rel =>
        refine ⟨k + 1, by omega, by go_num, ?_, ?_, HB3.out⟩
        · have h := copk_push (ws := kidsN g k) (o := g[k].op) (n := g[k].num) HKX.out HB.out.size HB1.out HST1.out _ (by rw [HTL.out]; exact HOWN3.out) HG3.out
          rw [← kids_back HG.out k hlt] at h
          rw [List.take_succ_eq_append_getElem hlt]
          exact ⟨_, h⟩
        have h := copy_push (G := g.take k) (ws := kidsN g k) (o := g[k].op) (n := g[k].num) HO.out HB.out.size HB1.out HST1.out _ (by rw [HTL.out]; exact copy_own HX.out HB1.out _) (by rw [HTL.out]; exact HOWN3.out) HG3.out HIO.out.1 HIO.out.2
        rw [← kids_back HG.out k hlt] at h
        rw [List.take_succ_eq_append_getElem hlt]
        exact h
      case measure => simp [intOf]; omega
    · have hke : k = g.length := by omega
      have HKE : Hid (∃ xs, KStk wr w.heap.size g u3 xs) := by
        have h := HKS.out
        rw [hke, List.take_length] at h
        exact h
      have HE : Hid (OwnC wr w.heap.size (fun b => w.heap.size ≤ b) g u3) := by
        have h := HO.out
        rw [hke, List.take_length] at h
        exact h
      clear hown hb hke
      go_wp2_with fail
      go_ret
      obtain ⟨xs, hxs⟩ := HKE.out
      exact ⟨_, xs, rfl, HE.out, hxs, HB.out⟩
end Go.Proofs.Ytglpehelmlehiaa
/-
  THE MODEL's l3Mutate: a copy of a graph, sometimes made invalid.
-/
namespace Go.Proofs.Ytglpehelmlehiaa
set_option linter.unusedVariables false
set_option linter.unusedSimpArgs false
open Go.RowKit

theorem rows_i64 {L : List Int} {y : Int} (hy : y ∈ L) (hL : ∀ z ∈ L, -1000000 ≤ z ∧ z ≤ 1000000) : I64 y := by have := hL y hy; unfold I64; omega
/-- numbers that a call has built by append -/
theorem ints_own {w : World} {lo : Nat} {L : List Int} {v : Value} (h : w.ownsRow lo 3 1 v L.length (L.map fun (a : Int) => Value.int .i64 a)) : IntsOn w (Btw lo w.heap.size) L v := by
  rcases h.2 with ⟨rfl, h0⟩ | ⟨g, cap, cur, rfl, hg, hh, hn, hc, hs, htk⟩
  · obtain rfl : L = [] := List.eq_nil_of_length_eq_zero h0
    exact ⟨none, 0, rfl, Nat.le_refl _, by simp [maxLen], Or.inl rfl⟩
  · refine ⟨_, cap, rfl, hn, hc, Or.inr ⟨g, 0, rfl, ⟨hg, (Array.getElem?_eq_some_iff.1 hh).1⟩, fun i hi => ?_⟩⟩
    refine cell_of_blk hh (0 + i) _ ?_
    rw [Nat.zero_add]
    rw [Nat.mul_one] at htk
    have e1 : (cur.toList.take L.length)[i]? = (L.map fun (a : Int) => Value.int .i64 a)[i]? := by rw [htk]
    rw [List.getElem?_take_of_lt hi] at e1
    simpa [hi] using e1
theorem own_uniqL {w : World} {lo lo2 T s n : Nat} {v : Value} {xs ys : List Value} (h : w.ownsRow lo T s v n xs) (h2 : w.ownsRow lo2 T s v n ys) : xs = ys := by
  rcases h.2 with ⟨rfl, h0⟩ | ⟨b, cap, cur, rfl, hg', hh, hn', hc', hs', htk⟩
  · have a1 := h.1
    have a2 := h2.1
    rw [h0] at a1 a2
    rw [List.eq_nil_of_length_eq_zero (by omega : xs.length = 0), List.eq_nil_of_length_eq_zero (by omega : ys.length = 0)]
  · rcases h2.2 with ⟨e, -⟩ | ⟨b2, cap2, cur2, e, -, hh2, -, -, -, htk2⟩
    · cases e
    · cases e
      rw [hh] at hh2
      cases hh2
      rw [← htk, ← htk2]

/-- a graph in a row of its own, its operands in rows of their own that can be appended to -/
structure RowK (w : World) (lo b0 cap : Nat) (g : List Ce) (xs : List Value) (KV : Nat → Value) : Prop where
  row : w.ownsRow lo 48 3 (.slice (some ⟨b0, 0, none⟩) g.length cap) g.length xs
  at' : ∀ j (hj : j < g.length), xs[j * 3]? = some (.int .i64 g[j].op) ∧ xs[j * 3 + 1]? = some (.int .i64 g[j].num) ∧ xs[j * 3 + 2]? = some (KV j) ∧ I64 g[j].op ∧ I64 g[j].num
  kid : ∀ j (hj : j < g.length), w.ownsRow lo 3 1 (KV j) g[j].kids.length (g[j].kids.map fun (a : Int) => Value.int .i64 a)
  ne : ∀ i j, i < g.length → j < g.length → i ≠ j → ∀ b, (KV i).ownBlock = some b → (KV j).ownBlock ≠ some b
theorem rowK_of {w : World} {lo b0 n cap : Nat} {g : List Ce} {xs : List Value} (h : OwnC w lo (fun x => lo ≤ x) g (.slice (some ⟨b0, 0, none⟩) n cap)) (hk : KStk w lo g (.slice (some ⟨b0, 0, none⟩) n cap) xs) : ∃ KV, RowK w lo b0 cap g xs KV := by
  obtain ⟨hi0, ys, kb, h1, h2, h3⟩ := h
  obtain ⟨k1, KV, k2, k3⟩ := hk
  have hxy := own_uniqL k1 h1
  subst hxy
  have hn : n = g.length := by
    rcases k1.2 with ⟨e, -⟩ | ⟨b, cap, cur, e, -⟩
    · cases e
    · cases e; rfl
  subst hn
  refine ⟨KV, k1, fun j hj => ?_, fun j hj => ?_, k3⟩
  · obtain ⟨kv, e0, e1, e2, -⟩ := h2 j hj
    exact ⟨e0, e1, (k2 j hj).1, (hi0 j hj).1, (hi0 j hj).2⟩
  · obtain ⟨-, ws, hs, he⟩ := k2 j hj
    have hv : g[j].kids.map (fun (a : Int) => Value.int .i64 a) = plV ws := by rw [he]; simp [plV, Function.comp_def]
    have hl : g[j].kids.length = ws.length := by rw [he]; simp
    rw [hv, hl]
    exact hs
theorem RowK.but {w w' : World} {lo b0 cap b : Nat} {g : List Ce} {xs : List Value} {KV : Nat → Value} (h : RowK w lo b0 cap g xs KV) (hb : But b w w') (hl : b < lo) : RowK w' lo b0 cap g xs KV := by
  have keep : ∀ {T s n : Nat} {v : Value} {ys : List Value}, w.ownsRow lo T s v n ys → w'.ownsRow lo T s v n ys := by
    intro T s n v ys h
    refine ⟨h.1, ?_⟩
    rcases h.2 with h' | ⟨g, cap, cur, rfl, hg, hh, r⟩
    · exact Or.inl h'
    · exact Or.inr ⟨g, cap, cur, rfl, hg, (hb.block g (Array.getElem?_eq_some_iff.1 hh).1 (by omega)).trans hh, r⟩
  exact ⟨keep h.row, h.at', fun j hj => keep (h.kid j hj), h.ne⟩
theorem own_kept {w w' : World} {lo T s n : Nat} {v : Value} {ys : List Value} (h : w.ownsRow lo T s v n ys) (hb : ∀ k, v.ownBlock = some k → k < w.heap.size → w'.heap[k]? = w.heap[k]?) : w'.ownsRow lo T s v n ys := by
  refine ⟨h.1, ?_⟩
  rcases h.2 with h' | ⟨g, cap, cur, rfl, hg, hh, r⟩
  · exact Or.inl h'
  · exact Or.inr ⟨g, cap, cur, rfl, hg, (hb g rfl (Array.getElem?_eq_some_iff.1 hh).1).trans hh, r⟩
/-- two rows of different types are different blocks -/
theorem own_types {w : World} {lo lo2 T T2 s s2 n n2 : Nat} {v v2 : Value} {xs ys : List Value} (h : w.ownsRow lo T s v n xs) (h2 : w.ownsRow lo2 T2 s2 v2 n2 ys) (hT : T ≠ T2) {b : Nat} (hb : v.ownBlock = some b) : v2.ownBlock ≠ some b := by
  intro e
  rcases h.2 with ⟨rfl, -⟩ | ⟨g, cap, cur, rfl, -, hh, -⟩
  · simp [Value.ownBlock] at hb
  · rcases h2.2 with ⟨rfl, -⟩ | ⟨g2, cap2, cur2, rfl, -, hh2, -⟩
    · simp [Value.ownBlock] at e
    · simp only [Value.ownBlock, Option.some.injEq] at hb e
      subst hb
      subst e
      rw [hh] at hh2
      simp at hh2
      exact hT hh2.2
theorem cell_ne_int : (48 : TypeId) ≠ 3 := by decide
/-- a graph, out of its row -/
theorem cells_row {w : World} {lo b0 cap : Nat} {g : List Ce} {xs : List Value} (h : w.ownsRow lo 48 3 (.slice (some ⟨b0, 0, none⟩) g.length cap) g.length xs)
    (hk : ∀ j (hj : j < g.length), ∃ c, xs[j * 3]? = some (.int .i64 g[j].op) ∧ xs[j * 3 + 1]? = some (.int .i64 g[j].num) ∧ xs[j * 3 + 2]? = some c ∧ I64 g[j].op ∧ I64 g[j].num ∧ IntsOn w (Btw lo w.heap.size) g[j].kids c) : CellsOn w (Btw lo w.heap.size) g (.slice (some ⟨b0, 0, none⟩) g.length cap) := by
  rcases h.2 with ⟨e, -⟩ | ⟨b, cap2, cur, e, hg, hh, hn, hc, hs, htk⟩
  · cases e
  cases e
  refine ⟨_, cap, rfl, hn, hc, Or.inr ⟨b0, 0, rfl, ⟨hg, (Array.getElem?_eq_some_iff.1 hh).1⟩, fun i hi => ?_⟩⟩
  obtain ⟨c, e0, e1, e2, i0, i1, hi2⟩ := hk i hi
  have get : ∀ m u, m < g.length * 3 → xs[m]? = some u → w.cell? ⟨b0, m, none⟩ = some u := by
    intro m u hm hu
    refine cell_of_blk hh m _ ?_
    rw [← htk, List.getElem?_take_of_lt hm] at hu
    simpa using hu
  refine ⟨c, ?_, ?_, ?_, i0, i1, hi2⟩
  · rw [Nat.zero_add]; exact get _ _ (by omega) e0
  · rw [Nat.zero_add]; exact get _ _ (by omega) e1
  · rw [Nat.zero_add]; exact get _ _ (by omega) e2
theorem RowK.cells {w : World} {lo b0 cap : Nat} {g : List Ce} {xs : List Value} {KV : Nat → Value} (h : RowK w lo b0 cap g xs KV) : CellsOn w (Btw lo w.heap.size) g (.slice (some ⟨b0, 0, none⟩) g.length cap) :=
  cells_row h.row fun j hj => ⟨KV j, (h.at' j hj).1, (h.at' j hj).2.1, (h.at' j hj).2.2.1, (h.at' j hj).2.2.2.1, (h.at' j hj).2.2.2.2, ints_own (h.kid j hj)⟩
/-- one cell is another one: the row has been written, and its operands lie in new memory -/
theorem RowK.upd {w w' : World} {lo b0 cap : Nat} {g : List Ce} {xs ys : List Value} {KV : Nat → Value} (h : RowK w lo b0 cap g xs KV) (k : Nat) (hk : k < g.length) (c : Ce) (kv : Value)
    (hrow : w'.ownsRow lo 48 3 (.slice (some ⟨b0, 0, none⟩) g.length cap) g.length ys) (hys : ∀ m, m < g.length * 3 → m / 3 ≠ k → ys[m]? = xs[m]?)
    (hc : ys[k * 3]? = some (.int .i64 c.op) ∧ ys[k * 3 + 1]? = some (.int .i64 c.num) ∧ ys[k * 3 + 2]? = some kv ∧ I64 c.op ∧ I64 c.num) (hkids : IntsOn w' (Btw lo w'.heap.size) c.kids kv)
    (hb : ∀ j, j < g.length → j ≠ k → ∀ x, (KV j).ownBlock = some x → x < w.heap.size → w'.heap[x]? = w.heap[x]?) : CellsOn w' (Btw lo w'.heap.size) (g.set k c) (.slice (some ⟨b0, 0, none⟩) g.length cap) := by
  have hl : (g.set k c).length = g.length := List.length_set
  rw [← hl] at hrow ⊢
  refine cells_row hrow fun j hj => ?_
  rw [hl] at hj
  by_cases hjk : j = k
  · subst hjk
    simp only [List.getElem_set_self]
    exact ⟨kv, hc.1, hc.2.1, hc.2.2.1, hc.2.2.2.1, hc.2.2.2.2, hkids⟩
  · rw [List.getElem_set_ne (by omega)]
    obtain ⟨a1, a2, a3, a4, a5⟩ := h.at' j hj
    exact ⟨KV j, by rw [hys _ (by omega) (by omega)]; exact a1, by rw [hys _ (by omega) (by omega)]; exact a2, by rw [hys _ (by omega) (by omega)]; exact a3, a4, a5, ints_own (own_kept (h.kid j hj) (hb j hj hjk))⟩
theorem RowK.lt {w : World} {lo b0 cap : Nat} {g : List Ce} {xs : List Value} {KV : Nat → Value} (h : RowK w lo b0 cap g xs KV) : lo ≤ b0 ∧ b0 < w.heap.size := own_some h.row b0 rfl
theorem RowK.kidNe {w : World} {lo b0 cap : Nat} {g : List Ce} {xs : List Value} {KV : Nat → Value} (h : RowK w lo b0 cap g xs KV) (j : Nat) (hj : j < g.length) {x : Nat} (hx : (KV j).ownBlock = some x) : x ≠ b0 := by
  have := own_types (h.kid j hj) h.row (fun e => cell_ne_int e.symm) hx
  intro e
  subst e
  exact this rfl
/-- the operator is another one -/
theorem RowK.setOp {w : World} {lo b0 cap : Nat} {g : List Ce} {xs : List Value} {KV : Nat → Value} (h : RowK w lo b0 cap g xs KV) (k : Nat) (hk : k < g.length) (y : Int) (hy : I64 y) :
    CellsOn (w.setCell ⟨b0, k * 3, none⟩ (.int .i64 y)) (Btw lo (w.setCell ⟨b0, k * 3, none⟩ (.int .i64 y)).heap.size) (g.set k ⟨y, g[k].num, g[k].kids⟩) (.slice (some ⟨b0, 0, none⟩) g.length cap) := by
  have hl := h.row.1
  obtain ⟨a1, a2, a3, a4, a5⟩ := h.at' k hk
  have hoth : ∀ j, j < g.length → ∀ x, (KV j).ownBlock = some x → x < w.heap.size → (w.setCell ⟨b0, k * 3, none⟩ (.int .i64 y)).heap[x]? = w.heap[x]? := fun j hj x hx _ => Below.heap_setCell _ _ _ _ (h.kidNe j hj hx)
  refine h.upd k hk ⟨y, g[k].num, g[k].kids⟩ (KV k) (h.row.stored (k * 3) (.int .i64 y)).1 (fun m hm hmk => List.getElem?_set_ne (by omega)) ⟨List.getElem?_set_self (by omega), by rw [List.getElem?_set_ne (by omega)]; exact a2, by rw [List.getElem?_set_ne (by omega)]; exact a3, hy, a5⟩ (ints_own (own_kept (h.kid k hk) (hoth k hk))) fun j hj _ => hoth j hj
/-- the number is another one -/
theorem RowK.setNum {w : World} {lo b0 cap : Nat} {g : List Ce} {xs : List Value} {KV : Nat → Value} (h : RowK w lo b0 cap g xs KV) (k : Nat) (hk : k < g.length) (y : Int) (hy : I64 y) :
    CellsOn (w.setCell ⟨b0, k * 3 + 1, none⟩ (.int .i64 y)) (Btw lo (w.setCell ⟨b0, k * 3 + 1, none⟩ (.int .i64 y)).heap.size) (g.set k ⟨g[k].op, y, g[k].kids⟩) (.slice (some ⟨b0, 0, none⟩) g.length cap) := by
  have hl := h.row.1
  obtain ⟨a1, a2, a3, a4, a5⟩ := h.at' k hk
  have hoth : ∀ j, j < g.length → ∀ x, (KV j).ownBlock = some x → x < w.heap.size → (w.setCell ⟨b0, k * 3 + 1, none⟩ (.int .i64 y)).heap[x]? = w.heap[x]? := fun j hj x hx _ => Below.heap_setCell _ _ _ _ (h.kidNe j hj hx)
  refine h.upd k hk ⟨g[k].op, y, g[k].kids⟩ (KV k) (h.row.stored (k * 3 + 1) (.int .i64 y)).1 (fun m hm hmk => List.getElem?_set_ne (by omega)) ⟨by rw [List.getElem?_set_ne (by omega)]; exact a1, List.getElem?_set_self (by omega), by rw [List.getElem?_set_ne (by omega)]; exact a3, a4, hy⟩ (ints_own (own_kept (h.kid k hk) (hoth k hk))) fun j hj _ => hoth j hj
/-- the first operand is another one -/
theorem RowK.setKid {w : World} {lo b0 cap kb kc : Nat} {g : List Ce} {xs : List Value} {KV : Nat → Value} (h : RowK w lo b0 cap g xs KV) (k : Nat) (hk : k < g.length) (hkv : KV k = .slice (some ⟨kb, 0, none⟩) g[k].kids.length kc) (y : Int) :
    CellsOn (w.setCell ⟨kb, 0, none⟩ (.int .i64 y)) (Btw lo (w.setCell ⟨kb, 0, none⟩ (.int .i64 y)).heap.size) (g.set k ⟨g[k].op, g[k].num, g[k].kids.set 0 y⟩) (.slice (some ⟨b0, 0, none⟩) g.length cap) := by
  have hl := h.row.1
  obtain ⟨a1, a2, a3, a4, a5⟩ := h.at' k hk
  have hown : (KV k).ownBlock = some kb := by rw [hkv]; rfl
  have hne := h.kidNe k hk hown
  have hkid := h.kid k hk
  rw [hkv] at hkid
  have hst := (hkid.stored 0 (.int .i64 y)).1
  have e : (g[k].kids.map fun (a : Int) => Value.int .i64 a).set 0 (.int .i64 y) = (g[k].kids.set 0 y).map fun (a : Int) => Value.int .i64 a := by rw [List.map_set]
  rw [e] at hst
  refine h.upd k hk ⟨g[k].op, g[k].num, g[k].kids.set 0 y⟩ (KV k) (own_kept h.row fun x hx _ => Below.heap_setCell _ _ _ _ (fun e => by simp only [Value.ownBlock, Option.some.injEq] at hx; exact hne (by rw [hx]; exact e.symm))) (fun m hm hmk => rfl) ⟨a1, a2, a3, a4, a5⟩ ?_ fun j hj hjk x hx _ => Below.heap_setCell _ _ _ _ (fun e => h.ne k j hk hj (by omega) kb hown (by rw [hx]; exact congrArg some e))
  rw [hkv]
  refine ints_own ?_
  simpa using hst
/-- one operand more -/
theorem RowK.push {w w1 : World} {lo b0 cap : Nat} {g : List Ce} {xs : List Value} {KV : Nat → Value} (h : RowK w lo b0 cap g xs KV) (k : Nat) (hk : k < g.length) (y : Int) (v' : Value)
    (hown : w1.ownsRow lo 3 1 v' (g[k].kids.length + 1) ((g[k].kids.map fun (a : Int) => Value.int .i64 a) ++ [.int .i64 y])) (hg : w.grownBy w1 (KV k).ownBlock) :
    CellsOn (w1.setCell ⟨b0, k * 3 + 2, none⟩ v') (Btw lo (w1.setCell ⟨b0, k * 3 + 2, none⟩ v').heap.size) (g.set k ⟨g[k].op, g[k].num, g[k].kids ++ [y]⟩) (.slice (some ⟨b0, 0, none⟩) g.length cap) := by
  have hl := h.row.1
  obtain ⟨a1, a2, a3, a4, a5⟩ := h.at' k hk
  have hr1 : w1.ownsRow lo 48 3 (.slice (some ⟨b0, 0, none⟩) g.length cap) g.length xs := own_kept h.row fun x hx hx2 => hg.block x hx2 (fun e => by
    have := own_types h.row (h.kid k hk) cell_ne_int hx
    exact this e.symm)
  refine h.upd k hk ⟨g[k].op, g[k].num, g[k].kids ++ [y]⟩ v' (hr1.stored (k * 3 + 2) v').1 (fun m hm hmk => List.getElem?_set_ne (by omega)) ⟨by rw [List.getElem?_set_ne (by omega)]; exact a1, by rw [List.getElem?_set_ne (by omega)]; exact a2, List.getElem?_set_self (by omega), a4, a5⟩ ?_ fun j hj hjk x hx hx2 => ?_
  · refine ints_own (own_kept (w := w1) ?_ fun x hx _ => Below.heap_setCell _ _ _ _ (fun e => ?_))
    · simpa using hown
    · have := own_types hown hr1 (fun e => cell_ne_int e.symm) hx
      subst e
      exact this rfl
  · exact (Below.heap_setCell _ _ _ _ (h.kidNe j hj hx)).trans (hg.block x hx2 (fun e => h.ne k j hk hj (by omega) x e.symm hx))
/-- a cell that stands for itself -/
theorem RowK.setAll {w : World} {lo b0 cap : Nat} {g : List Ce} {xs : List Value} {KV : Nat → Value} (h : RowK w lo b0 cap g xs KV) (k : Nat) (hk : k < g.length) (hlo : lo ≤ w.heap.size) :
    CellsOn (st3 (w.alloc (.cells #[.int .i64 (k : Int)] 3)) b0 k 11 0 (.slice (some ⟨w.heap.size, 0, none⟩) 1 1)) (Btw lo (st3 (w.alloc (.cells #[.int .i64 (k : Int)] 3)) b0 k 11 0 (.slice (some ⟨w.heap.size, 0, none⟩) 1 1)).heap.size) (g.set k ⟨11, 0, [(k : Int)]⟩) (.slice (some ⟨b0, 0, none⟩) g.length cap) := by
  have hl := h.row.1
  have hb0 := h.lt
  have hr1 : (w.alloc (.cells #[.int .i64 (k : Int)] 3)).ownsRow lo 48 3 (.slice (some ⟨b0, 0, none⟩) g.length cap) g.length xs := own_kept h.row fun x _ hx => Deep.blk_alloc_lt _ _ _ hx
  have r1 := (hr1.stored (k * 3) (.int .i64 11)).1
  have r2 := (r1.stored (k * 3 + 1) (.int .i64 0)).1
  have r3 := (r2.stored (k * 3 + 2) (.slice (some ⟨w.heap.size, 0, none⟩) 1 1)).1
  refine h.upd k hk ⟨11, 0, [(k : Int)]⟩ (.slice (some ⟨w.heap.size, 0, none⟩) 1 1) r3 (fun m hm hmk => by rw [List.getElem?_set_ne (by omega), List.getElem?_set_ne (by omega), List.getElem?_set_ne (by omega)]) ⟨by rw [List.getElem?_set_ne (by omega), List.getElem?_set_ne (by omega), List.getElem?_set_self (by omega)], by rw [List.getElem?_set_ne (by omega), List.getElem?_set_self (by rw [List.length_set]; omega)], by rw [List.getElem?_set_self (by rw [List.length_set, List.length_set]; omega)], by simp [I64], by simp [I64]⟩ ?_ fun j hj hjk x hx hx2 => ?_
  · have hn : (st3 (w.alloc (.cells #[.int .i64 (k : Int)] 3)) b0 k 11 0 (.slice (some ⟨w.heap.size, 0, none⟩) 1 1)).heap[w.heap.size]? = some (.cells #[.int .i64 (k : Int)] 3) := (st3_block (by omega)).trans (Deep.blk_alloc_new _ _)
    refine ⟨_, 1, rfl, Nat.le_refl _, by simp [maxLen], Or.inr ⟨w.heap.size, 0, rfl, ⟨hlo, (Array.getElem?_eq_some_iff.1 hn).1⟩, fun i hi => ?_⟩⟩
    obtain rfl : i = 0 := by simp at hi; omega
    exact cell_of_blk hn 0 _ rfl
  · exact (st3_block (h.kidNe j hj hx)).trans (Deep.blk_alloc_lt _ _ _ hx2)
end Go.Proofs.Ytglpehelmlehiaa
