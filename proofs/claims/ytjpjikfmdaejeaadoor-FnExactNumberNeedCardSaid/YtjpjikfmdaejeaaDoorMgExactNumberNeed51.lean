/-
  THE MODEL's l2Right AND NumberNeed.
-/
import Derived.Test.YtjpjikfmdaejeaaDoorMgExactNumberNeed50
import Derived.Test.YtjpjikfmdaejeaaDoorMgExactNumberNeed45
import Derived.Test.YtjpjikfmdaejeaaDoorMgExactNumberNeed39
import Derived.Test.YtjpjikfmdaejeaaDoorMgExactNumberNeed8
import Derived.Test.YtjpjikfmdaejeaaDoorMgExactNumberNeed46
import Derived.Test.YtjpjikfmdaejeaaDoorMgExactNumberNeed6
namespace Go.Proofs.YtjpjikfmdaejeaaDoor
set_option linter.unusedVariables false
set_option linter.unusedSimpArgs false
open Go.RowKit

def rightF (ds : List Df) (t : Tr) (f : Int) : Bool := closedB ds t && decide (0 ≤ f ∧ f ≤ 300)
theorem rightF_iff {ds : List Df} {t : Tr} {f : Int} : rightF ds t f = true ↔ closedB ds t = true ∧ 0 ≤ f ∧ f ≤ 300 := by unfold rightF; simp

set_option maxHeartbeats 800000 in
theorem l2Right_calls (ds : List Df) (p : Value) (a : Tr) (c : Value) (f : Int) (w : World) (hp : DIn w ds p) (hk : In w a.kids c) :
    Calls Tryd.prog 32 #[p, .agg #[.int .i64 a.op, .int .i64 a.num, c], .int .i64 f] w fun e w' => e = .returned (.bool (rightF ds a f)) ∧ Below w.heap.size w w' := by
  have HK : Hid (In w a.kids c) := hk
  have HP : Hid (DIn w ds p) := hp
  obtain ⟨ad, cap, rfl, -, -, -⟩ := hk
  have HBX : Hid (Below w.heap.size w (w.alloc (.cells #[.int .i64 a.op, .int .i64 a.num, .slice ad a.kids.length cap] 34))) := box_below _ _
  clear hp
  have go : ∀ (q : Bool), closedB ds a = q → Calls Tryd.prog 32 #[p, .agg #[.int .i64 a.op, .int .i64 a.num, .slice ad a.kids.length cap], .int .i64 f] w fun e w' => e = .returned (.bool (rightF ds a f)) ∧ Below w.heap.size w w' := by
    intro q hq
    cases q with
    | false =>
      have HV : Hid (rightF ds a f = false) := by rw [Hid, rightF, hq]; rfl
      have HQ := mkHid hq
      clear hq
      go_enter Tryd.func32, Tryd.ntmps32
      go_wp2_with (go_at_call 42; refine (l2Closed_calls ds _ a _ _ (HP.out.next HBX.out) (HK.out.next HBX.out)).mono ?_; rw [HQ.out]; rintro e w1 ⟨rfl, hb1⟩; have HB1 : Hid (Below w.heap.size w w1) := HBX.out.trans (hb1.mono HBX.out.size); clear hb1)
      go_ret
      exact ⟨ret_bool HV.out.symm, HB1.out⟩
    | true =>
      have HQ := mkHid hq
      by_cases h0 : 0 ≤ f
      · by_cases h1 : f ≤ 300
        · have HV : Hid (rightF ds a f = true) := by rw [Hid, rightF, hq, decide_eq_true ⟨h0, h1⟩]; rfl
          clear hq
          go_enter Tryd.func32, Tryd.ntmps32
          go_wp2_with (go_at_call 42; refine (l2Closed_calls ds _ a _ _ (HP.out.next HBX.out) (HK.out.next HBX.out)).mono ?_; rw [HQ.out]; rintro e w1 ⟨rfl, hb1⟩; have HB1 : Hid (Below w.heap.size w w1) := HBX.out.trans (hb1.mono HBX.out.size); clear hb1)
          go_ret
          exact ⟨ret_bool HV.out.symm, HB1.out⟩
        · have HV : Hid (rightF ds a f = false) := by rw [Hid, rightF, hq, decide_eq_false (by rintro ⟨-, h⟩; exact h1 h)]; rfl
          have h1' : decide (f ≤ 300) = false := by simpa using h1
          have h2' : 300 < f := by omega
          clear hq
          go_enter Tryd.func32, Tryd.ntmps32
          go_wp2_with (go_at_call 42; refine (l2Closed_calls ds _ a _ _ (HP.out.next HBX.out) (HK.out.next HBX.out)).mono ?_; rw [HQ.out]; rintro e w1 ⟨rfl, hb1⟩; have HB1 : Hid (Below w.heap.size w w1) := HBX.out.trans (hb1.mono HBX.out.size); clear hb1)
          go_ret
          exact ⟨ret_bool HV.out.symm, HB1.out⟩
      · have HV : Hid (rightF ds a f = false) := by rw [Hid, rightF, hq, decide_eq_false (by rintro ⟨h, -⟩; exact h0 h)]; rfl
        have h0' : decide (0 ≤ f) = false := by simpa using h0
        have h2' : f < 0 := by omega
        clear hq
        go_enter Tryd.func32, Tryd.ntmps32
        go_wp2_with (go_at_call 42; refine (l2Closed_calls ds _ a _ _ (HP.out.next HBX.out) (HK.out.next HBX.out)).mono ?_; rw [HQ.out]; rintro e w1 ⟨rfl, hb1⟩; have HB1 : Hid (Below w.heap.size w w1) := HBX.out.trans (hb1.mono HBX.out.size); clear hb1)
        go_ret
        exact ⟨ret_bool HV.out.symm, HB1.out⟩
  exact go _ rfl

theorem ret_iii {a b c a' b' c' : Int} (h1 : a = a') (h2 : b = b') (h3 : c = c') : Ending.returned (.tuple #[.int .i64 a, .int .i64 b, .int .i64 c]) = .returned (.tuple #[.int .i64 a', .int .i64 b', .int .i64 c']) := by rw [h1, h2, h3]
/-- three numbers -/
def Num3 (r : Int × Nat × Nat) (w : World) (e : Ending) (w' : World) : Prop := e = .returned (.tuple #[.int .i64 r.1, .int .i64 (r.2.1 : Int), .int .i64 (r.2.2 : Int)]) ∧ Below w.heap.size w w'

set_option maxRecDepth 100000 in
set_option maxHeartbeats 3200000 in
theorem specNn_calls (ds : List Df) (p : Value) (t : Tr) (c : Value) (f : Int) (w : World) (hp : DIn w ds p) (hk : In w t.kids c) (ht : I64 t.op ∧ I64 t.num) :
    Calls Tryd.prog 10 #[p, .agg #[.int .i64 t.op, .int .i64 t.num, c], .int .i64 f] w (Num3 (nnO ds t f) w) := by
  have HK : Hid (In w t.kids c) := hk
  have HP : Hid (DIn w ds p) := hp
  have HT := mkHid ht
  obtain ⟨ad, cap, rfl, -, -, -⟩ := hk
  have HBX : Hid (Below w.heap.size w (w.alloc (.cells #[.int .i64 t.op, .int .i64 t.num, .slice ad t.kids.length cap] 34))) := box_below _ _
  have HXB : Hid ((w.alloc (.cells #[.int .i64 t.op, .int .i64 t.num, .slice ad t.kids.length cap] 34)).heap[w.heap.size]? = some (.cells #[.int .i64 t.op, .int .i64 t.num, .slice ad t.kids.length cap] 34)) := Deep.blk_alloc_new _ _
  have HXL : Hid (w.heap.size < (w.alloc (.cells #[.int .i64 t.op, .int .i64 t.num, .slice ad t.kids.length cap] 34)).heap.size) := by rw [Hid, Deep.nblk_alloc]; omega
  clear hp ht
  go_enter Tryd.func10, Tryd.ntmps10
  go_wp2_with fail
  refine (l2Right_calls ds _ t _ f _ (HP.out.next HBX.out) (HK.out.next HBX.out)).mono ?_
  rintro e w1 ⟨rfl, hb1⟩
  have HB1 : Hid (Below w.heap.size w w1) := HBX.out.trans (hb1.mono HBX.out.size)
  have HX1 : Hid (w1.heap[w.heap.size]? = some (.cells #[.int .i64 t.op, .int .i64 t.num, .slice ad t.kids.length cap] 34)) := (hb1.block _ HXL.out).trans HXB.out
  clear hb1
  cases hr : rightF ds t f with
  | false =>
    have HV := mkHid (nnO_no (ds := ds) (t := t) (f := f) (fun h => by rw [rightF_iff.2 h] at hr; cases hr))
    clear hr
    go_wp2_with fail
    go_ret3
    rw [HV.out]
    exact ⟨rfl, HB1.out⟩
  | true =>
    have hr2 := rightF_iff.1 hr
    obtain ⟨fu, rfl⟩ : ∃ fu : Nat, f = (fu : Int) := ⟨f.toNat, by omega⟩
    have hfu : fu ≤ 300 := by omega
    have HV := mkHid (nnO_yes (f := fu) hr2.1 hfu)
    have HOK := mkHid (start_ok hr2.1)
    obtain ⟨g0, hg0⟩ : ∃ g0, g0 = (addT [] t []).1 := ⟨_, rfl⟩
    obtain ⟨a0, ha0⟩ : ∃ a0, a0 = (addT [] t []).2 := ⟨_, rfl⟩
    have HG0 := mkHid hg0
    have HA0 := mkHid ha0
    rw [← hg0, ← ha0] at HV HOK
    have x0 := old_cell (cell_of_blk HX1.out 0 _ rfl) (.cells #[] 64)
    have x1 := old_cell (cell_of_blk HX1.out 1 _ rfl) (.cells #[] 64)
    have x2 := old_cell (cell_of_blk HX1.out 2 _ rfl) (.cells #[] 64)
    have hADD : Calls Tryd.prog 33 #[.slice (some ⟨w1.heap.size, 0, none⟩) 0 0, .agg #[.int .i64 t.op, .int .i64 t.num, .slice ad t.kids.length cap], .slice none 0 0] (w1.alloc (.cells #[] 64)) (fun e w' => ∃ gv', e = .returned (.tuple #[gv', .int .i64 (a0 : Int)]) ∧ CIn w' g0 gv' ∧ Below w1.heap.size w1 w') := by
      have hz : (w1.alloc (.cells #[] 64)).heap.size = w1.heap.size + 1 := Deep.nblk_alloc _ _
      refine (ad_calls [] t (.slice (some ⟨w1.heap.size, 0, none⟩) 0 0) (.slice none 0 0) (.slice ad t.kids.length cap) w1.heap.size (fun b => w1.heap.size ≤ b) [] _ (OwnC.zero (Deep.blk_alloc_new _ _) (Nat.le_refl _)) (by omega) ⟨none, 0, rfl, Nat.le_refl _, by simp [maxLen], Or.inl rfl⟩ ((HK.out.next HB1.out).mono (fun _ h => h) fun k hk => Deep.blk_alloc_lt _ _ _ hk) (by have := HOK.out.2.2.2.2; simp; omega) (by simp) HT.out.1 HT.out.2 HOK.out.2.2.2.1).mono ?_
      rintro e w' ⟨gv', rfl, hown, hg, -⟩
      refine ⟨gv', by rw [ha0], ?_, below_grown (box_below _ _) hg fun k e => by simp only [Value.ownBlock, Option.some.injEq] at e; omega⟩
      rw [hg0]
      exact (hown.own fun k h _ => by rcases h with h | h; exact h; omega).inn
    have HADD := mkHid hADD
    clear hr hr2 hg0 ha0 hADD
    go_wp2_with fail
    refine HADD.out.mono ?_
    rintro e w2 ⟨gv, rfl, hc2, hb2⟩
    have HC2 := mkHid hc2
    have HB2 : Hid (Below w.heap.size w w2) := HB1.out.trans (hb2.mono HB1.out.size)
    clear hc2 hb2 x0 x1 x2
    go_wp2_with fail
    refine (l4Eval_calls ds g0 a0 fu _ _ w2 (HP.out.next HB2.out) HC2.out HOK.out.2.1 HOK.out.1 HOK.out.2.2.1 hfu).mono ?_
    rintro e w3 ⟨v3, rfl, hi3, hb3⟩
    have HB3 : Hid (Below w.heap.size w w3) := HB2.out.trans (hb3.mono HB2.out.size)
    have HI3 := mkHid hi3
    have HVA := mkHid (evalG_valid (a := a0) HOK.out.1 fu g0 HOK.out.2.1 HOK.out.2.2.1)
    have HDN := mkHid (evalG_done (ds := ds) (a := a0) fu g0)
    obtain ⟨r, hrr⟩ : ∃ r, r = evalG ds a0 fu g0 := ⟨_, rfl⟩
    rw [← hrr] at HV HI3 HVA HDN ⊢
    obtain ⟨G, cd, n⟩ := r
    clear hi3 hb3 hrr
    by_cases hc : cd = 0
    case neg =>
      have HN : Hid (numR a0 (G, cd, n) = (0, cd, n)) := numR_err hc
      have tc : ((cd : Int) != 0) = true := by simp; omega
      clear hc
      go_wp2_with fail
      go_ret3
      rw [HV.out, HN.out]
      exact ⟨rfl, HB3.out⟩
    subst hc
    have HVB : Hid (valB (arsOf ds) G a0 = true) := HDN.out rfl
    obtain ⟨b, hb⟩ := val_stands HVB.out
    have HF := mkHid hb
    have hal : a0 < G.length := Nat.lt_of_lt_of_le HOK.out.2.2.1 HVA.out.2
    have hbl : b < G.length := (followN_lt HVA.out.1 _ _ _ hal hb).1
    obtain ⟨ad3, cap3, rfl, -, -, -⟩ := id HI3.out
    have hbI : (b : Int) < (G.length : Int) := by omega
    have tc : (((0 : Nat) : Int) != 0) = false := by simp
    clear hb
    go_wp2_with fail
    refine (l3Follow_calls G a0 _ w3 HI3.out ⟨_, HVA.out.1⟩ hal).mono ?_
    rintro e w4 ⟨rfl, hb4⟩
    rw [follow_enough HVA.out.1 a0 hal, HF.out]
    have e2 : folI (some b) = (b : Int) := rfl
    rw [e2]
    have HB4 : Hid (Below w.heap.size w w4) := HB3.out.trans (hb4.mono HB3.out.size)
    obtain ⟨bl, off, r3, rfl, q0, q1, q2, -, -, hkq⟩ := (HI3.out.next hb4).at b hbl
    obtain ⟨adq, capq, rfl, -, -, -⟩ := id hkq
    have HFA : Hid (folAt G a0 = b) := folAt_some HF.out
    have HOB : Hid (opAt G b = G[b].op ∧ numAt G b = G[b].num) := ⟨opAt_at b hbl, numAt_at b hbl⟩
    have HBF : Hid (Below w.heap.size w (w4.alloc (.cells #[.int .i64 G[b].op, .int .i64 G[b].num, .slice adq G[b].kids.length capq] 64))) := HB4.out.alloc HB4.out.size _
    clear hb4 hkq e2
    by_cases ho : G[b].op = 2
    · have t2 : (G[b].op != 2) = false := by simp [ho]
      have HN : Hid (numR a0 (G, 0, n) = (G[b].num, 0, n)) := by
        rw [Hid, numR_num rfl (by show opAt G (folAt G a0) = 2; rw [HFA.out, HOB.out.1]; exact ho)]
        show (numAt G (folAt G a0), 0, n) = _
        rw [HFA.out, HOB.out.2]
      clear ho
      go_wp2_with fail
      go_ret3
      rw [HV.out, HN.out]
      exact ⟨rfl, HBF.out⟩
    · have t2 : (G[b].op != 2) = true := by simpa using ho
      have HN : Hid (numR a0 (G, 0, n) = (0, 2, n)) := numR_not rfl (by show opAt G (folAt G a0) ≠ 2; rw [HFA.out, HOB.out.1]; exact ho)
      clear ho
      go_wp2_with fail
      go_ret3
      rw [HV.out, HN.out]
      exact ⟨rfl, HBF.out⟩
end Go.Proofs.YtjpjikfmdaejeaaDoor
/-
  THE PROGRAM's canEvaluate, startOf, value AND NumberNeed.
-/
namespace Go.Proofs.YtjpjikfmdaejeaaDoor
set_option linter.unusedVariables false
set_option linter.unusedSimpArgs false
open Go.RowKit

set_option maxHeartbeats 800000 in
theorem canEvaluate_calls (ds : List Df) (p : Value) (a : Tr) (c : Value) (f : Int) (w : World) (hp : DIn w ds p) (hk : In w a.kids c) :
    Calls Tryd.prog 55 #[p, .agg #[.int .i64 a.op, .int .i64 a.num, c], .int .i64 f] w fun e w' => e = .returned (.bool (rightF ds a f)) ∧ Below w.heap.size w w' := by
  have HK : Hid (In w a.kids c) := hk
  have HP : Hid (DIn w ds p) := hp
  obtain ⟨ad, cap, rfl, -, -, -⟩ := hk
  have HBX : Hid (Below w.heap.size w (w.alloc (.cells #[.int .i64 a.op, .int .i64 a.num, .slice ad a.kids.length cap] 34))) := box_below _ _
  clear hp
  have HFU : Hid (∀ W : World, Calls Tryd.prog 78 #[.int .i64 f] W fun e w' => e = .returned (.bool (fuelB f)) ∧ W = w') := fun W => fuelFits_calls f W
  have HRF : Hid (rightF ds a f = (closedB ds a && fuelB f)) := rfl
  cases hq : closedB ds a with
  | false =>
    have HV : Hid (rightF ds a f = false) := by rw [Hid, HRF.out, hq]; rfl
    have HQ := mkHid hq
    clear hq
    go_enter Tryd.func55, Tryd.ntmps55
    go_wp2_with (go_at_call 46; refine (isClosed_calls ds _ a _ _ (HP.out.next HBX.out) (HK.out.next HBX.out)).mono ?_; rw [HQ.out]; rintro e w1 ⟨rfl, hb1⟩; have HB1 : Hid (Below w.heap.size w w1) := HBX.out.trans (hb1.mono HBX.out.size); clear hb1)
    go_ret
    exact ⟨ret_bool HV.out.symm, HB1.out⟩
  | true =>
    have HV : Hid (rightF ds a f = fuelB f) := by rw [Hid, HRF.out, hq]; rfl
    have HQ := mkHid hq
    clear hq
    go_enter Tryd.func55, Tryd.ntmps55
    go_wp2_with (first
      | (go_at_call 46; refine (isClosed_calls ds _ a _ _ (HP.out.next HBX.out) (HK.out.next HBX.out)).mono ?_; rw [HQ.out]; rintro e w1 ⟨rfl, hb1⟩; have HB1 : Hid (Below w.heap.size w w1) := HBX.out.trans (hb1.mono HBX.out.size); clear hb1)
      | (go_at_call 78; refine (HFU.out _).mono ?_; rintro e w2 ⟨rfl, rfl⟩))
    go_ret
    exact ⟨ret_bool HV.out.symm, HB1.out⟩
end Go.Proofs.YtjpjikfmdaejeaaDoor
