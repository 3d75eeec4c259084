/-
  THE MODEL's StartRun.
-/
import Derived.Test.YtidijbnoaeopdaaGreatDoorMgExactNumberRun26
import Derived.Test.YtidijbnoaeopdaaGreatDoorMgExactNumberRun27
import Derived.Test.YtidijbnoaeopdaaGreatDoorMgExactNumberRun21
import Derived.Test.YtidijbnoaeopdaaGreatDoorMgExactNumberRun12
import Derived.Test.YtidijbnoaeopdaaGreatDoorMgExactNumberRun23
import Derived.Test.YtidijbnoaeopdaaGreatDoorMgExactNumberRun5
namespace Go.Proofs.YtidijbnoaeopdaaGreatDoor
set_option linter.unusedVariables false
set_option linter.unusedSimpArgs false
open Go.RowKit

/-- a run by value and whether -/
def GotX (r : Rn × Bool) (w : World) (e : Ending) (w' : World) : Prop := ∃ gv, e = .returned (.tuple #[.agg (rnC gv r.1), .bool r.2]) ∧ CIn w' r.1.g gv ∧ Below w.heap.size w w'
set_option maxRecDepth 100000 in
set_option maxHeartbeats 1600000 in
theorem specStart_calls (ds : List Df) (t : Tr) (p c : Value) (w : World) (hp : DIn w ds p) (hk : In w t.kids c) (ht : I64 t.op ∧ I64 t.num) :
    Calls Tryz.prog 50 #[p, .agg #[.int .i64 t.op, .int .i64 t.num, c]] w (GotX (sxO ds t) w) := by
  have HK : Hid (In w t.kids c) := hk
  have HP : Hid (DIn w ds p) := hp
  have HT := mkHid ht
  obtain ⟨ad, cap, rfl, -, -, -⟩ := hk
  obtain ⟨adp, capp, rfl, -, -, -⟩ := hp
  obtain ⟨W, hW⟩ : ∃ W, W = (w.alloc (.cells #[.int .i64 t.op, .int .i64 t.num, .slice ad t.kids.length cap] 48)).alloc (.cells #[.slice none 0 0, .int .i64 0, .int .i64 0, .int .i64 0, .int .i64 0, .int .i64 0, .int .i64 0] 30) := ⟨_, rfl⟩
  have HB_W : Hid (Below w.heap.size w W) := by rw [hW]; exact (box_below _ _).alloc (by rw [Deep.nblk_alloc]; omega) _
  have HX_W : Hid (W.heap[w.heap.size]? = some (.cells #[.int .i64 t.op, .int .i64 t.num, .slice ad t.kids.length cap] 48)) := by
    rw [hW]; exact (Deep.blk_alloc_lt _ _ _ (by rw [Deep.nblk_alloc]; omega)).trans (Deep.blk_alloc_new _ _)
  have HY_W : Hid (W.heap[w.heap.size + 1]? = some (.cells #[.slice none 0 0, .int .i64 0, .int .i64 0, .int .i64 0, .int .i64 0, .int .i64 0, .int .i64 0] 30)) := by
    have h := Deep.blk_alloc_new (w.alloc (.cells #[.int .i64 t.op, .int .i64 t.num, .slice ad t.kids.length cap] 48)) (.cells #[.slice none 0 0, .int .i64 0, .int .i64 0, .int .i64 0, .int .i64 0, .int .i64 0, .int .i64 0] 30)
    rw [Deep.nblk_alloc] at h
    rw [hW]; exact h
  have HL_W : Hid (w.heap.size + 2 ≤ W.heap.size) := by rw [hW, Hid, Deep.nblk_alloc, Deep.nblk_alloc]; exact Nat.le_refl _
  clear ht
  go_enter Tryz.func50, Tryz.ntmps50
  go_wp2_with fail
  rw [← hW]
  clear hW
  refine (l2Closed_calls ds _ t _ W (HP.out.next HB_W.out) (HK.out.next HB_W.out)).mono ?_
  rintro e w1 ⟨rfl, hb1⟩
  have HB1 : Hid (Below w.heap.size w w1) := HB_W.out.trans (hb1.mono HB_W.out.size)
  have HL1 : Hid (w.heap.size + 2 ≤ w1.heap.size) := Nat.le_trans HL_W.out hb1.size
  have HX1 := mkHid ((hb1.block _ (by have := HL_W.out; omega)).trans HX_W.out)
  have HY1 := mkHid ((hb1.block _ (by have := HL_W.out; omega)).trans HY_W.out)
  clear hb1
  cases hr : closedB ds t with
  | false =>
    have HV : Hid (sxO ds t = (rnZ, false)) := by unfold Hid sxO; rw [if_neg (by rw [hr]; simp)]
    have y0 := cell_of_blk HY1.out 0 _ rfl
    have y1 := cell_of_blk HY1.out 1 _ rfl
    have y2 := cell_of_blk HY1.out 2 _ rfl
    have y3 := cell_of_blk HY1.out 3 _ rfl
    have y4 := cell_of_blk HY1.out 4 _ rfl
    have y5 := cell_of_blk HY1.out 5 _ rfl
    have y6 := cell_of_blk HY1.out 6 _ rfl
    have fy := frz_of_blk HY1.out
    clear hr
    go_wp2_with fail
    refine bodyPost_ret (v := .tuple #[.agg (rnC (.slice none 0 0) rnZ), .bool false]) (by simp [results, Tryz.results50, go_sem, y0, y1, y2, y3, y4, y5, y6, fy, rnC, rnZ]) rfl ?_
    rw [HV.out]
    exact ⟨_, rfl, ⟨none, 0, rfl, Nat.le_refl _, by simp [maxLen], Or.inl rfl⟩, st7_below HB1.out (by omega)⟩
  | true =>
    have HV : Hid (sxO ds t = (startX (addT [] t []).1 (addT [] t []).2, true)) := by unfold Hid sxO; rw [if_pos hr]
    have HOK := mkHid (start_ok hr)
    obtain ⟨g0, hg0⟩ : ∃ g0, g0 = (addT [] t []).1 := ⟨_, rfl⟩
    obtain ⟨a0, ha0⟩ : ∃ a0, a0 = (addT [] t []).2 := ⟨_, rfl⟩
    have x0 := old_cell (cell_of_blk HX1.out 0 _ rfl) (.cells #[] 93)
    have x1 := old_cell (cell_of_blk HX1.out 1 _ rfl) (.cells #[] 93)
    have x2 := old_cell (cell_of_blk HX1.out 2 _ rfl) (.cells #[] 93)
    have hADD : Calls Tryz.prog 75 #[.slice (some ⟨w1.heap.size, 0, none⟩) 0 0, .agg #[.int .i64 t.op, .int .i64 t.num, .slice ad t.kids.length cap], .slice none 0 0] (w1.alloc (.cells #[] 93)) (fun e w' => ∃ gv', e = .returned (.tuple #[gv', .int .i64 (a0 : Int)]) ∧ CellsOn w' (fun k => k < w'.heap.size ∧ w1.heap.size ≤ k) g0 gv' ∧ Below w1.heap.size w1 w') := by
      have hz : (w1.alloc (.cells #[] 93)).heap.size = w1.heap.size + 1 := Deep.nblk_alloc _ _
      refine (ad_calls [] t (.slice (some ⟨w1.heap.size, 0, none⟩) 0 0) (.slice none 0 0) (.slice ad t.kids.length cap) w1.heap.size (fun b => w1.heap.size ≤ b) [] _ (OwnC.zero (Deep.blk_alloc_new _ _) (Nat.le_refl _)) (by omega) ⟨none, 0, rfl, Nat.le_refl _, by simp [maxLen], Or.inl rfl⟩ ((HK.out.next HB1.out).mono (fun _ h => h) fun k hk => Deep.blk_alloc_lt _ _ _ hk) (by have := HOK.out.2.2.2.2; simp; omega) (by simp) HT.out.1 HT.out.2 HOK.out.2.2.2.1).mono ?_
      rintro e w' ⟨gv', rfl, hown, hg, -⟩
      refine ⟨gv', by rw [ha0], ?_, below_grown (box_below _ _) hg fun k e => by simp only [Value.ownBlock, Option.some.injEq] at e; omega⟩
      rw [hg0]
      exact (hown.own fun k h _ => by rcases h with h | h; exact h; omega).onS fun k hk hz => ⟨hz, (List.mem_range'_1.1 hk).1⟩
    have HADD := mkHid hADD
    rw [← hg0, ← ha0] at HV
    clear hr hg0 ha0 hADD
    go_wp2_with fail
    refine HADD.out.mono ?_
    rintro e w2 ⟨gv, rfl, hc2, hb2⟩
    obtain ⟨adz, capz, rfl, -, -, -⟩ := id hc2
    have HC2 := mkHid hc2
    have HB2 : Hid (Below w.heap.size w w2) := HB1.out.trans (hb2.mono HB1.out.size)
    have HY2 := mkHid ((hb2.block _ (by have := HL1.out; omega)).trans HY1.out)
    have y0 := cell_of_blk HY2.out 0 _ rfl
    have y1 := cell_of_blk HY2.out 1 _ rfl
    have y2 := cell_of_blk HY2.out 2 _ rfl
    have y3 := cell_of_blk HY2.out 3 _ rfl
    have y4 := cell_of_blk HY2.out 4 _ rfl
    have y5 := cell_of_blk HY2.out 5 _ rfl
    have y6 := cell_of_blk HY2.out 6 _ rfl
    have fy := frz_of_blk HY2.out
    clear hc2 hb2 x0 x1 x2
    go_wp2_with fail
    refine bodyPost_ret (v := .tuple #[.agg (rnC (.slice adz g0.length capz) (startX g0 a0)), .bool true]) (by simp [results, Tryz.results50, go_sem, y0, y1, y2, y3, y4, y5, y6, fy, rnC, startX]) rfl ?_
    rw [HV.out]
    refine ⟨_, rfl, ?_, st7_below HB2.out (by omega)⟩
    exact CellsOn.mono HC2.out (fun k hk => by show k < _; rw [st7_size]; exact hk.1) (fun k hk => st7_far (by have := hk.2; have := HL1.out; omega))
end Go.Proofs.YtidijbnoaeopdaaGreatDoor
/-
  THE MODEL's RunValid AND l6Limit.
-/
namespace Go.Proofs.YtidijbnoaeopdaaGreatDoor
set_option linter.unusedVariables false
set_option linter.unusedSimpArgs false
open Go.RowKit

set_option maxHeartbeats 400000 in
theorem l6Limit_calls (n : Int) (w : World) : Calls Tryz.prog 31 #[.int .i64 n] w fun e w' => e = .returned (.bool (btB n 400)) ∧ w = w' := by
  by_cases h0 : 0 ≤ n
  · by_cases h1 : n ≤ 400
    · have HV : Hid (btB n 400 = true) := by rw [Hid, btB, decide_eq_true_eq]; exact ⟨h0, h1⟩
      go_enter Tryz.func31, Tryz.ntmps31
      go_wp2_with fail
      go_ret
      exact ⟨ret_bool HV.out.symm, rfl⟩
    · have HV : Hid (btB n 400 = false) := by rw [Hid, btB, decide_eq_false_iff_not]; rintro ⟨-, h⟩; exact h1 h
      have h1' : decide (n ≤ 400) = false := by simpa using h1
      have h2' : 400 < n := by omega
      go_enter Tryz.func31, Tryz.ntmps31
      go_wp2_with fail
      go_ret
      exact ⟨ret_bool HV.out.symm, rfl⟩
  · have HV : Hid (btB n 400 = false) := by rw [Hid, btB, decide_eq_false_iff_not]; rintro ⟨h, -⟩; exact h0 h
    have h0' : decide (0 ≤ n) = false := by simpa using h0
    have h2' : n < 0 := by omega
    go_enter Tryz.func31, Tryz.ntmps31
    go_wp2_with fail
    go_ret
    exact ⟨ret_bool HV.out.symm, rfl⟩
end Go.Proofs.YtidijbnoaeopdaaGreatDoor
/-
  THE MODEL's EvalRun AND StepRun.
-/
namespace Go.Proofs.YtidijbnoaeopdaaGreatDoor
set_option linter.unusedVariables false
set_option linter.unusedSimpArgs false
open Go.RowKit



theorem eRun_no {ds : List Df} {t : Tr} {f limit : Int} {tidy : Bool} (h : ¬ (closedB ds t = true ∧ fuelO f = true ∧ btB limit 400 = true)) : eRun ds t f limit tidy = (rnZ, 4) := by unfold eRun; rw [if_neg h]
set_option maxRecDepth 100000 in
set_option maxHeartbeats 6400000 in
theorem specEvalR_calls (ds : List Df) (t : Tr) (p c : Value) (f limit : Int) (tidy : Bool) (w : World) (hp : DIn w ds p) (hk : In w t.kids c) (ht : I64 t.op ∧ I64 t.num) :
    Calls Tryz.prog 19 #[p, .agg #[.int .i64 t.op, .int .i64 t.num, c], .int .i64 f, .int .i64 limit, .bool tidy] w (GotRC (eRun ds t f limit tidy) w) := by
  have HK : Hid (In w t.kids c) := hk
  have HP : Hid (DIn w ds p) := hp
  have HT := mkHid ht
  obtain ⟨ad, cap, rfl, -, -, -⟩ := hk
  obtain ⟨adp, capp, rfl, -, -, -⟩ := hp
  obtain ⟨W, hW⟩ : ∃ W, W = (w.alloc (.cells #[.int .i64 t.op, .int .i64 t.num, .slice ad t.kids.length cap] 48)).alloc (.cells #[.slice none 0 0, .int .i64 0, .int .i64 0, .int .i64 0, .int .i64 0, .int .i64 0, .int .i64 0] 30) := ⟨_, rfl⟩
  have HB_W : Hid (Below w.heap.size w W) := by rw [hW]; exact (box_below _ _).alloc (by rw [Deep.nblk_alloc]; omega) _
  have HY_W : Hid (W.heap[w.heap.size + 1]? = some (.cells #[.slice none 0 0, .int .i64 0, .int .i64 0, .int .i64 0, .int .i64 0, .int .i64 0, .int .i64 0] 30)) := by
    have h := Deep.blk_alloc_new (w.alloc (.cells #[.int .i64 t.op, .int .i64 t.num, .slice ad t.kids.length cap] 48)) (.cells #[.slice none 0 0, .int .i64 0, .int .i64 0, .int .i64 0, .int .i64 0, .int .i64 0, .int .i64 0] 30)
    rw [Deep.nblk_alloc] at h
    rw [hW]; exact h
  have HL_W : Hid (w.heap.size + 2 ≤ W.heap.size) := by rw [hW, Hid, Deep.nblk_alloc, Deep.nblk_alloc]; exact Nat.le_refl _
  clear ht
  go_enter Tryz.func19, Tryz.ntmps19
  go_wp2_with fail
  rw [← hW]
  clear hW
  refine (specStart_calls ds t _ _ W (HP.out.next HB_W.out) (HK.out.next HB_W.out) HT.out).mono ?_
  rintro e w1 ⟨gv, rfl, hk1, hb1⟩
  have HB1 : Hid (Below w.heap.size w w1) := HB_W.out.trans (hb1.mono HB_W.out.size)
  have HL1 : Hid (w.heap.size + 2 ≤ w1.heap.size) := Nat.le_trans HL_W.out hb1.size
  have HY1 := mkHid ((hb1.block _ (by have := HL_W.out; omega)).trans HY_W.out)
  have hs1 := HB1.out.size
  clear hb1
  cases hr : closedB ds t with
  | false =>
    have HV : Hid (eRun ds t f limit tidy = (rnZ, 4)) := eRun_no (by rw [hr]; simp)
    have hsx : sxO ds t = (rnZ, false) := by unfold sxO; rw [if_neg (by rw [hr]; simp)]
    rw [hsx] at hk1 ⊢
    dsimp only at hk1 ⊢
    obtain ⟨z0, hz0⟩ : ∃ z0 : Rn, z0 = rnZ := ⟨_, rfl⟩
    rw [← hz0] at hk1 ⊢
    clear hz0
    obtain ⟨adz, capz, rfl, -, -, -⟩ := id hk1
    have HYA : Hid ((w1.alloc (.cells #[.slice adz z0.g.length capz, .int .i64 (z0.root : Int), .int .i64 z0.steps, .int .i64 z0.moved, .int .i64 z0.peak, .int .i64 z0.ticks, .int .i64 z0.rounds] 30)).heap[w.heap.size + 1]? = some (.cells #[.slice none 0 0, .int .i64 0, .int .i64 0, .int .i64 0, .int .i64 0, .int .i64 0, .int .i64 0] 30)) := (Deep.blk_alloc_lt _ _ _ (by have := HL1.out; omega)).trans HY1.out
    have HBA : Hid (Below w.heap.size w (w1.alloc (.cells #[.slice adz z0.g.length capz, .int .i64 (z0.root : Int), .int .i64 z0.steps, .int .i64 z0.moved, .int .i64 z0.peak, .int .i64 z0.ticks, .int .i64 z0.rounds] 30))) := HB1.out.alloc hs1 _
    clear hsx hr hk1 hs1
    unfold rnC
    have y0 := cell_of_blk HYA.out 0 _ rfl
    have y1 := cell_of_blk HYA.out 1 _ rfl
    have y2 := cell_of_blk HYA.out 2 _ rfl
    have y3 := cell_of_blk HYA.out 3 _ rfl
    have y4 := cell_of_blk HYA.out 4 _ rfl
    have y5 := cell_of_blk HYA.out 5 _ rfl
    have y6 := cell_of_blk HYA.out 6 _ rfl
    have fy := frz_of_blk HYA.out
    go_wp2_with fail
    refine bodyPost_ret (v := .tuple #[.agg (rnC (.slice none 0 0) rnZ), .int .i64 4]) (by simp [results, Tryz.results19, go_sem, y0, y1, y2, y3, y4, y5, y6, fy, rnC, rnZ]) rfl ?_
    rw [HV.out]
    exact ⟨_, rfl, ⟨none, 0, rfl, Nat.le_refl _, by simp [maxLen], Or.inl rfl⟩, st7_below HBA.out (by omega)⟩
  | true =>
    have hsx : sxO ds t = (startX (addT [] t []).1 (addT [] t []).2, true) := by unfold sxO; rw [if_pos hr]
    have HSO := mkHid (start_run hr)
    have HPR := mkHid (start_ok hr).1
    have HCL := mkHid hr
    rw [hsx] at hk1 ⊢
    obtain ⟨x, hx⟩ : ∃ x, x = startX (addT [] t []).1 (addT [] t []).2 := ⟨_, rfl⟩
    have HXE := mkHid hx
    have HXO : Hid (x.Ok ds) := by rw [hx]; exact HSO.out
    dsimp only at hk1 ⊢
    rw [← hx] at hk1 ⊢
    obtain ⟨adz, capz, rfl, -, -, -⟩ := id hk1
    have HK1 := mkHid hk1
    have HYA : Hid ((w1.alloc (.cells #[.slice adz x.g.length capz, .int .i64 (x.root : Int), .int .i64 x.steps, .int .i64 x.moved, .int .i64 x.peak, .int .i64 x.ticks, .int .i64 x.rounds] 30)).heap[w.heap.size + 1]? = some (.cells #[.slice none 0 0, .int .i64 0, .int .i64 0, .int .i64 0, .int .i64 0, .int .i64 0, .int .i64 0] 30)) := (Deep.blk_alloc_lt _ _ _ (by have := HL1.out; omega)).trans HY1.out
    have HBA : Hid (Below w.heap.size w (w1.alloc (.cells #[.slice adz x.g.length capz, .int .i64 (x.root : Int), .int .i64 x.steps, .int .i64 x.moved, .int .i64 x.peak, .int .i64 x.ticks, .int .i64 x.rounds] 30))) := HB1.out.alloc hs1 _
    have HLA : Hid (w.heap.size + 2 ≤ (w1.alloc (.cells #[.slice adz x.g.length capz, .int .i64 (x.root : Int), .int .i64 x.steps, .int .i64 x.moved, .int .i64 x.peak, .int .i64 x.ticks, .int .i64 x.rounds] 30)).heap.size) := by rw [Hid, Deep.nblk_alloc]; have := HL1.out; omega
    clear hsx hr hk1 hx hs1
    unfold rnC
    by_cases h0 : 0 ≤ f
    case neg =>
      have HV : Hid (eRun ds t f limit tidy = (rnZ, 4)) := eRun_no (by unfold fuelO; simp; omega)
      have h0' : decide (0 ≤ f) = false := by simpa using h0
      have h0n : f < 0 := by omega
      have y0 := cell_of_blk HYA.out 0 _ rfl
      have y1 := cell_of_blk HYA.out 1 _ rfl
      have y2 := cell_of_blk HYA.out 2 _ rfl
      have y3 := cell_of_blk HYA.out 3 _ rfl
      have y4 := cell_of_blk HYA.out 4 _ rfl
      have y5 := cell_of_blk HYA.out 5 _ rfl
      have y6 := cell_of_blk HYA.out 6 _ rfl
      have fy := frz_of_blk HYA.out
      go_wp2_with fail
      refine bodyPost_ret (v := .tuple #[.agg (rnC (.slice none 0 0) rnZ), .int .i64 4]) (by simp [results, Tryz.results19, go_sem, y0, y1, y2, y3, y4, y5, y6, fy, rnC, rnZ]) rfl ?_
      rw [HV.out]
      exact ⟨_, rfl, ⟨none, 0, rfl, Nat.le_refl _, by simp [maxLen], Or.inl rfl⟩, st7_below HBA.out (by omega)⟩
    by_cases h3 : f ≤ 300
    case neg =>
      have HV : Hid (eRun ds t f limit tidy = (rnZ, 4)) := eRun_no (by unfold fuelO; simp; omega)
      have h3' : decide (f ≤ 300) = false := by simpa using h3
      have h3n : 300 < f := by omega
      have y0 := cell_of_blk HYA.out 0 _ rfl
      have y1 := cell_of_blk HYA.out 1 _ rfl
      have y2 := cell_of_blk HYA.out 2 _ rfl
      have y3 := cell_of_blk HYA.out 3 _ rfl
      have y4 := cell_of_blk HYA.out 4 _ rfl
      have y5 := cell_of_blk HYA.out 5 _ rfl
      have y6 := cell_of_blk HYA.out 6 _ rfl
      have fy := frz_of_blk HYA.out
      go_wp2_with fail
      refine bodyPost_ret (v := .tuple #[.agg (rnC (.slice none 0 0) rnZ), .int .i64 4]) (by simp [results, Tryz.results19, go_sem, y0, y1, y2, y3, y4, y5, y6, fy, rnC, rnZ]) rfl ?_
      rw [HV.out]
      exact ⟨_, rfl, ⟨none, 0, rfl, Nat.le_refl _, by simp [maxLen], Or.inl rfl⟩, st7_below HBA.out (by omega)⟩
    obtain ⟨fu, rfl⟩ : ∃ fu : Nat, f = (fu : Int) := ⟨f.toNat, by omega⟩
    have hfu : fu ≤ 300 := by omega
    go_wp2_with fail
    refine (l6Limit_calls limit _).mono ?_
    rintro e w2 ⟨rfl, rfl⟩
    cases hl : btB limit 400 with
    | false =>
      have HV : Hid (eRun ds t (fu : Int) limit tidy = (rnZ, 4)) := eRun_no (by rw [hl]; simp)
      clear hl
      have y0 := cell_of_blk HYA.out 0 _ rfl
      have y1 := cell_of_blk HYA.out 1 _ rfl
      have y2 := cell_of_blk HYA.out 2 _ rfl
      have y3 := cell_of_blk HYA.out 3 _ rfl
      have y4 := cell_of_blk HYA.out 4 _ rfl
      have y5 := cell_of_blk HYA.out 5 _ rfl
      have y6 := cell_of_blk HYA.out 6 _ rfl
      have fy := frz_of_blk HYA.out
      go_wp2_with fail
      refine bodyPost_ret (v := .tuple #[.agg (rnC (.slice none 0 0) rnZ), .int .i64 4]) (by simp [results, Tryz.results19, go_sem, y0, y1, y2, y3, y4, y5, y6, fy, rnC, rnZ]) rfl ?_
      rw [HV.out]
      exact ⟨_, rfl, ⟨none, 0, rfl, Nat.le_refl _, by simp [maxLen], Or.inl rfl⟩, st7_below HBA.out (by omega)⟩
    | true =>
      have HV : Hid (eRun ds t (fu : Int) limit tidy = runE ds limit tidy fu x) := by
        unfold Hid eRun
        rw [if_pos ⟨HCL.out, by unfold fuelO; simp; omega, hl⟩, HXE.out, Int.toNat_natCast]
      have HRR : Hid (RunRel ds limit tidy x fu 0 x) := by rw [HXE.out]; exact RunRel.start HSO.out
      clear hl h0 h3
      go_wp2_with fail
      refine (l6Eval_calls ds x _ (.slice adz x.g.length capz) fu limit tidy _ (HP.out.next HBA.out) (HK1.out.next (box_below _ _)) HPR.out hfu HRR.out).mono ?_
      obtain ⟨r, hrr⟩ : ∃ r, r = runE ds limit tidy fu x := ⟨_, rfl⟩
      have HROK : Hid (r.1.Ok ds) := by rw [hrr]; exact runE_ok HPR.out _ _ HXO.out
      rw [← hrr] at HV ⊢
      clear hrr
      rintro e w3 ⟨gv3, rfl, hk3, hb3⟩
      obtain ⟨ad3, cap3, rfl, -, -, -⟩ := id hk3
      have HK3 := mkHid hk3
      have HB3 : Hid (Below w.heap.size w w3) := HBA.out.trans (hb3.mono HBA.out.size)
      have HY3 := mkHid ((hb3.block _ (by have := HLA.out; omega)).trans HYA.out)
      have HL3 : Hid (w.heap.size + 2 ≤ w3.heap.size) := Nat.le_trans HLA.out hb3.size
      obtain ⟨z, hz⟩ : ∃ z, z = r.1 := ⟨_, rfl⟩
      obtain ⟨cd, hcd⟩ : ∃ cd, cd = r.2 := ⟨_, rfl⟩
      have HRE : Hid (r = (z, cd)) := by rw [hz, hcd]; rfl
      rw [← hz] at HK3 HROK ⊢
      rw [← hcd]
      clear hk3 hb3 hz hcd
      unfold rnC
      go_wp2_with fail
      have HBB : Hid (Below w3.heap.size w3 (w3.alloc (.cells #[.slice ad3 z.g.length cap3, .int .i64 (z.root : Int), .int .i64 z.steps, .int .i64 z.moved, .int .i64 z.peak, .int .i64 z.ticks, .int .i64 z.rounds] 30))) := box_below _ _
      refine (l6Copy_calls z (.slice ad3 z.g.length cap3) _ (HK3.out.next HBB.out) ⟨_, HROK.out.1⟩).mono ?_
      rintro e w5 ⟨gv5, rfl, hk5, hb5⟩
      obtain ⟨ad5, cap5, rfl, -, -, -⟩ := id hk5
      have HK5 := mkHid hk5
      have HB5 : Hid (Below w.heap.size w w5) := (HB3.out.trans (HBB.out.mono HB3.out.size)).trans (hb5.mono (by rw [Deep.nblk_alloc]; have := HB3.out.size; omega))
      have HY5 := mkHid ((hb5.block _ (by rw [Deep.nblk_alloc]; have := HL3.out; omega)).trans ((HBB.out.block _ (by have := HL3.out; omega)).trans HY3.out))
      have HN5 : Hid (w.heap.size + 2 ≤ (w3.alloc (.cells #[.slice ad3 z.g.length cap3, .int .i64 (z.root : Int), .int .i64 z.steps, .int .i64 z.moved, .int .i64 z.peak, .int .i64 z.ticks, .int .i64 z.rounds] 30)).heap.size) := by rw [Hid, Deep.nblk_alloc]; have := HL3.out; omega
      clear hk5 hb5
      unfold rnC
      have y0 := cell_of_blk HY5.out 0 _ rfl
      have y1 := cell_of_blk HY5.out 1 _ rfl
      have y2 := cell_of_blk HY5.out 2 _ rfl
      have y3 := cell_of_blk HY5.out 3 _ rfl
      have y4 := cell_of_blk HY5.out 4 _ rfl
      have y5 := cell_of_blk HY5.out 5 _ rfl
      have y6 := cell_of_blk HY5.out 6 _ rfl
      have fy := frz_of_blk HY5.out
      go_wp2_with fail
      refine bodyPost_ret (v := .tuple #[.agg #[(.slice ad5 z.g.length cap5), .int .i64 (z.root : Int), .int .i64 z.steps, .int .i64 z.moved, .int .i64 z.peak, .int .i64 z.ticks, .int .i64 z.rounds], .int .i64 (cd : Int)]) (by simp [results, Tryz.results19, go_sem, y0, y1, y2, y3, y4, y5, y6, fy]) rfl ?_
      rw [HV.out, HRE.out]
      refine ⟨_, rfl, ?_, st7_below HB5.out (by omega)⟩
      exact CellsOn.mono HK5.out (fun k hk => by show k < _; rw [st7_size]; exact hk.1) (fun k hk => st7_far (by have := hk.2; have := HN5.out; omega))


end Go.Proofs.YtidijbnoaeopdaaGreatDoor
/-
  PLAIN: the number of a run. No program is named here.
-/
namespace Go.Proofs.YtidijbnoaeopdaaGreatDoor
set_option linter.unusedVariables false
set_option linter.unusedSimpArgs false

theorem nRun_err {ds : List Df} {t : Tr} {f limit : Int} {tidy : Bool} {z : Rn} {cd : Nat} (h : eRun ds t f limit tidy = (z, cd)) (hc : cd ≠ 0) : nRun ds t f limit tidy = (0, cd) := by
  unfold nRun; rw [h, if_neg hc]
theorem nRun_num {ds : List Df} {t : Tr} {f limit : Int} {tidy : Bool} {z : Rn} {b : Nat} (h : eRun ds t f limit tidy = (z, 0)) (hb : followN z.g z.g.length z.root = some b) (hl : b < z.g.length) (ho : z.g[b].op = 2) : nRun ds t f limit tidy = (z.g[b].num, 0) := by
  unfold nRun; rw [h]
  rw [if_pos rfl]
  show (if opAt z.g (folAt z.g z.root) = 2 then (numAt z.g (folAt z.g z.root), 0) else (0, 2)) = _
  rw [folAt_some hb, opAt_at b hl, if_pos ho, numAt_at b hl]
theorem nRun_no {ds : List Df} {t : Tr} {f limit : Int} {tidy : Bool} {z : Rn} {b : Nat} (h : eRun ds t f limit tidy = (z, 0)) (hb : followN z.g z.g.length z.root = some b) (hl : b < z.g.length) (ho : z.g[b].op ≠ 2) : nRun ds t f limit tidy = (0, 2) := by
  unfold nRun; rw [h]
  rw [if_pos rfl]
  show (if opAt z.g (folAt z.g z.root) = 2 then (numAt z.g (folAt z.g z.root), 0) else (0, 2)) = _
  rw [folAt_some hb, opAt_at b hl, if_neg ho]
/-- a run that is done stands for a cell -/
theorem eRun_done {ds : List Df} {t : Tr} {f limit : Int} {tidy : Bool} {z : Rn} (h : eRun ds t f limit tidy = (z, 0)) : z.Ok ds ∧ ∃ b, followN z.g z.g.length z.root = some b ∧ b < z.g.length := by
  unfold eRun at h
  split at h
  · rename_i hc
    have ho := runE_ok (limit := limit) (tidy := tidy) (start_ok hc.1).1 f.toNat _ (start_run hc.1)
    have hv := runE_val (ds := ds) (limit := limit) (tidy := tidy) f.toNat (startX (addT [] t []).1 (addT [] t []).2)
    rw [h] at ho hv
    have hv2 := hv rfl
    unfold Rn.val at hv2
    obtain ⟨b, hb⟩ := val_follow hv2
    exact ⟨ho, b, hb, (followN_lt ho.1 _ _ _ ho.2 hb).1⟩
  · simp at h
end Go.Proofs.YtidijbnoaeopdaaGreatDoor
/-
  THE MODEL's NumberRun.
-/
namespace Go.Proofs.YtidijbnoaeopdaaGreatDoor
set_option linter.unusedVariables false
set_option linter.unusedSimpArgs false
open Go.RowKit


theorem cell_farN {w : World} {a b : Addr} {v u : Value} (h : w.cell? a = some v) (hb : b.block ≠ a.block) : (w.setCell b u).cell? a = some v := (World.cell?_setCell_far _ _ _ _ hb).trans h
theorem lt_box (w : World) (o : Obj) : w.heap.size < (w.alloc o).heap.size := by rw [Deep.nblk_alloc]; exact Nat.lt_succ_self _
theorem lt_boxD (w : World) (o : Obj) : w.heap.size < (w.alloc o).drew.heap.size := lt_box w o
theorem box_blk (w : World) (o : Obj) : (w.alloc o).drew.heap[w.heap.size]? = some o := Deep.blk_alloc_new w o
set_option maxRecDepth 100000 in
set_option maxHeartbeats 1600000 in
theorem specNumR_calls (ds : List Df) (t : Tr) (p c : Value) (f limit : Int) (tidy : Bool) (w : World) (hp : DIn w ds p) (hk : In w t.kids c) (ht : I64 t.op ∧ I64 t.num) :
    Calls Tryz.prog 24 #[p, .agg #[.int .i64 t.op, .int .i64 t.num, c], .int .i64 f, .int .i64 limit, .bool tidy] w fun e w' => e = .returned (.tuple #[.int .i64 (nRun ds t f limit tidy).1, .int .i64 ((nRun ds t f limit tidy).2 : Int)]) ∧ Below w.heap.size w w' := by
  have HK : Hid (In w t.kids c) := hk
  have HP : Hid (DIn w ds p) := hp
  have HT := mkHid ht
  skip
  obtain ⟨ad, cap, rfl, -, -, -⟩ := hk
  obtain ⟨adp, capp, rfl, -, -, -⟩ := id hp
  obtain ⟨W, hW⟩ : ∃ W, W = w.alloc (.cells #[.int .i64 t.op, .int .i64 t.num, .slice ad t.kids.length cap] 48) := ⟨_, rfl⟩
  have HB_W : Hid (Below w.heap.size w W) := by rw [hW]; exact box_below _ _
  clear ht hp
  go_enter Tryz.func24, Tryz.ntmps24
  go_wp2_with fail
  rw [← hW]
  clear hW
  refine (specEvalR_calls ds t _ _ f limit tidy W (HP.out.next HB_W.out) (HK.out.next HB_W.out) HT.out).mono ?_
  obtain ⟨r, hrr⟩ : ∃ r, r = eRun ds t f limit tidy := ⟨_, rfl⟩
  rw [← hrr]
  rintro e w1 ⟨gv, rfl, hk1, hb1⟩
  have HB1 : Hid (Below w.heap.size w w1) := HB_W.out.trans (hb1.mono HB_W.out.size)
  have hs1 := HB1.out.size
  obtain ⟨z, hz⟩ : ∃ z, z = r.1 := ⟨_, rfl⟩
  obtain ⟨cd, hcd⟩ : ∃ cd, cd = r.2 := ⟨_, rfl⟩
  have HRE : Hid (eRun ds t f limit tidy = (z, cd)) := by rw [← hrr, hz, hcd]; rfl
  rw [← hz] at hk1 ⊢
  rw [← hcd]
  obtain ⟨adz, capz, rfl, -, -, -⟩ := id hk1
  have HK1 := mkHid hk1
  clear hk1 hb1 hz hcd hrr
  unfold rnC
  have HBA : Hid (Below w.heap.size w (w1.alloc (.cells #[(.slice adz z.g.length capz), .int .i64 (z.root : Int), .int .i64 z.steps, .int .i64 z.moved, .int .i64 z.peak, .int .i64 z.ticks, .int .i64 z.rounds] 30))) := HB1.out.alloc hs1 _
  by_cases hc : cd = 0
  case neg =>
    have HN : Hid (nRun ds t f limit tidy = (0, cd)) := nRun_err HRE.out hc
    have tc : ((cd : Int) != 0) = true := by simp; omega
    clear hc
    go_wp2_with fail
    go_ret2
    rw [HN.out]
    exact ⟨rfl, HBA.out⟩
  subst hc
  obtain ⟨hzo, b, hb, hbl⟩ := eRun_done HRE.out
  have HZO := mkHid hzo
  have HF := mkHid hb
  have hbI : (b : Int) < (z.g.length : Int) := by omega
  have tc : (((0 : Nat) : Int) != 0) = false := by simp
  obtain ⟨W2, hW2⟩ : ∃ W2, W2 = w1.alloc (.cells #[(.slice adz z.g.length capz), .int .i64 (z.root : Int), .int .i64 z.steps, .int .i64 z.moved, .int .i64 z.peak, .int .i64 z.ticks, .int .i64 z.rounds] 30) := ⟨_, rfl⟩
  have HX2 : Hid (W2.heap[w1.heap.size]? = some (.cells #[(.slice adz z.g.length capz), .int .i64 (z.root : Int), .int .i64 z.steps, .int .i64 z.moved, .int .i64 z.peak, .int .i64 z.ticks, .int .i64 z.rounds] 30)) := by rw [hW2]; exact Deep.blk_alloc_new _ _
  have HB2 : Hid (Below w.heap.size w W2) := by rw [hW2]; exact HBA.out
  have HK2 : Hid (CIn W2 z.g (.slice adz z.g.length capz)) := by rw [hW2]; exact HK1.out.next (box_below _ _)
  have HS2 : Hid (w1.heap.size < W2.heap.size) := by rw [hW2, Hid, Deep.nblk_alloc]; exact Nat.lt_succ_self _
  clear hzo hb hs1
  go_wp2_with fail
  rw [← hW2]
  clear hW2
  obtain ⟨bl, off, r3, hsl, q0, q1, q2, -, -, hkq⟩ := HK2.out.at b hbl
  cases hsl
  obtain ⟨adq, capq, rfl, -, -, -⟩ := id hkq
  have hbl2 : bl < W2.heap.size := cell_lt q0
  have hCX : W2.heap.size ≠ w1.heap.size := by have := HS2.out; omega
  have hCb : W2.heap.size ≠ bl := by omega
  clear hkq
  have a0 := cell_of_blk HX2.out 0 _ rfl
  have a1 := cell_of_blk HX2.out 1 _ rfl
  have p0 := old_cell a0 (.cells #[.int .i64 0, .int .i64 0, .slice none 0 0] 93)
  have p1 := old_cell a1 (.cells #[.int .i64 0, .int .i64 0, .slice none 0 0] 93)
  have HQC := mkHid (And.intro q0 (And.intro q1 q2))
  have HFO : Hid (∀ W : World, Below W2.heap.size W2 W → Calls Tryz.prog 56 #[.slice (some ⟨bl, off, none⟩) z.g.length capz, .int .i64 (z.root : Int)] W fun e w' => e = .returned (.int .i64 (b : Int)) ∧ Below W2.heap.size W2 w' ∧ Below W.heap.size W w') := fun W hb => (l3Follow_calls z.g z.root _ W (HK2.out.next hb) ⟨_, HZO.out.1⟩ HZO.out.2).mono fun e w' h => ⟨by rw [h.1, follow_enough HZO.out.1 _ HZO.out.2, HF.out]; rfl, hb.trans (h.2.mono hb.size), h.2⟩
  have HWC : Hid (w.heap.size ≤ W2.heap.size) := HB2.out.size
  go_region_held3 (fun w' => w'.cell? ⟨w1.heap.size, 0, none⟩ = some (.slice (some ⟨bl, off, none⟩) z.g.length capz) ∧ w'.cell? ⟨w1.heap.size, 1, none⟩ = some (.int .i64 (z.root : Int)) ∧ w'.cell? ⟨bl, off + b * 3, none⟩ = some (.int .i64 z.g[b].op) ∧ w'.cell? ⟨bl, off + b * 3 + 1, none⟩ = some (.int .i64 z.g[b].num) ∧ w'.cell? ⟨bl, off + b * 3 + 2, none⟩ = some (.slice adq z.g[b].kids.length capq))
    (first
      | go_keep
      | exact ⟨a0, a1, q0, q1, q2⟩
      | exact ⟨old_cell a0 _, old_cell a1 _, old_cell q0 _, old_cell q1 _, old_cell q2 _⟩
      | exact ⟨m0, m1, m2, m3, m4⟩
      | exact ⟨old_cell m0 _, old_cell m1 _, old_cell m2 _, old_cell m3 _, old_cell m4 _⟩
      | exact ⟨cell_farN (cell_farN (cell_farN m0 hCX) hCX) hCX, cell_farN (cell_farN (cell_farN m1 hCX) hCX) hCX, cell_farN (cell_farN (cell_farN m2 hCb) hCb) hCb, cell_farN (cell_farN (cell_farN m3 hCb) hCb) hCb, cell_farN (cell_farN (cell_farN m4 hCb) hCb) hCb⟩)
    (first
      | (go_at_call 56; refine (HFO.out _ (by first | exact (Below.refl _ _).drew | exact (box_below _ _).drew)).mono ?_; rintro e w4 ⟨rfl, hb4, hb5⟩; have HB4 := mkHid hb4; have hx4 := (hb4.block _ HS2.out).trans HX2.out; have m0 := cell_of_blk hx4 0 _ rfl; have m1 := cell_of_blk hx4 1 _ rfl; have m2 := (HB4.out.cell (cell_lt HQC.out.1)).trans HQC.out.1; have m3 := (HB4.out.cell (cell_lt HQC.out.2.1)).trans HQC.out.2.1; have m4 := (HB4.out.cell (cell_lt HQC.out.2.2)).trans HQC.out.2.2; (try (have HC4 := (hb5.block W2.heap.size (by first | exact lt_box _ _ | exact lt_boxD _ _)).trans (box_blk _ _); have n0 := cell_of_blk HC4 0 _ rfl; have n1 := cell_of_blk HC4 1 _ rfl; have n2 := cell_of_blk HC4 2 _ rfl; have fc := frz_of_blk HC4; clear HC4)); clear hb4 hb5 hx4))
  · have HBF : Hid (Below w.heap.size w w4) := HB2.out.trans (HB4.out.mono HB2.out.size)
    clear m0 m1 m2 m3 m4 a0 a1 q0 q1 q2
    by_cases ho : z.g[b].op = 2
    · have t2 : (z.g[b].op != 2) = false := by simp [ho]
      have HN : Hid (nRun ds t f limit tidy = (z.g[b].num, 0)) := nRun_num HRE.out HF.out hbl ho
      clear ho
      go_wp2_with fail
      go_ret2
      rw [HN.out]
      exact ⟨rfl, HBF.out.alloc HBF.out.size _⟩
    · have t2 : (z.g[b].op != 2) = true := by simp [ho]
      have HN : Hid (nRun ds t f limit tidy = (0, 2)) := nRun_no HRE.out HF.out hbl ho
      clear ho
      go_wp2_with fail
      go_ret2
      rw [HN.out]
      exact ⟨rfl, HBF.out.alloc HBF.out.size _⟩
  · have HBF : Hid (Below w.heap.size w w4) := HB2.out.trans (HB4.out.mono HB2.out.size)
    clear m0 m1 m2 m3 m4 a0 a1 q0 q1 q2
    by_cases ho : z.g[b].op = 2
    · have t2 : (z.g[b].op != 2) = false := by simp [ho]
      have HN : Hid (nRun ds t f limit tidy = (z.g[b].num, 0)) := nRun_num HRE.out HF.out hbl ho
      clear ho
      go_wp2_with fail
      go_ret2
      rw [HN.out]
      exact ⟨rfl, ((HBF.out.setCell HWC.out _).setCell HWC.out _).setCell HWC.out _⟩
    · have t2 : (z.g[b].op != 2) = true := by simp [ho]
      have HN : Hid (nRun ds t f limit tidy = (0, 2)) := nRun_no HRE.out HF.out hbl ho
      clear ho
      go_wp2_with fail
      go_ret2
      rw [HN.out]
      exact ⟨rfl, ((HBF.out.setCell HWC.out _).setCell HWC.out _).setCell HWC.out _⟩
end Go.Proofs.YtidijbnoaeopdaaGreatDoor
