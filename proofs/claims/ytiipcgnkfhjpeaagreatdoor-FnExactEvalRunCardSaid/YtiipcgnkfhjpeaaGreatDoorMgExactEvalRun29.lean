/-
  THE MODEL's StartRun.
-/
import Derived.Test.YtiipcgnkfhjpeaaGreatDoorMgExactEvalRun27
import Derived.Test.YtiipcgnkfhjpeaaGreatDoorMgExactEvalRun28
import Derived.Test.YtiipcgnkfhjpeaaGreatDoorMgExactEvalRun22
import Derived.Test.YtiipcgnkfhjpeaaGreatDoorMgExactEvalRun13
import Derived.Test.YtiipcgnkfhjpeaaGreatDoorMgExactEvalRun24
import Derived.Test.YtiipcgnkfhjpeaaGreatDoorMgExactEvalRun11
import Derived.Test.YtiipcgnkfhjpeaaGreatDoorMgExactEvalRun18
import Derived.Deep.DeepCutAuto
import Derived.Deep.RegionWith
import Derived.Deep.RegionHeld3
import Derived.Deep.RegionLaw
import Derived.IntWalk
import Derived.Test.YtiipcgnkfhjpeaaGreatDoorMgExactEvalRun21
namespace Go.Proofs.YtiipcgnkfhjpeaaGreatDoor
set_option linter.unusedVariables false
set_option linter.unusedSimpArgs false
open Go.RowKit

/-- a run by value and whether -/
def GotX (r : Rn × Bool) (w : World) (e : Ending) (w' : World) : Prop := ∃ gv, e = .returned (.tuple #[.agg (rnC gv r.1), .bool r.2]) ∧ CIn w' r.1.g gv ∧ Below w.heap.size w w'
/-- .. whose graph lies in new blocks -/
def GotXN (r : Rn × Bool) (w : World) (e : Ending) (w' : World) : Prop := ∃ gv, e = .returned (.tuple #[.agg (rnC gv r.1), .bool r.2]) ∧ CellsOn w' (fun k => k < w'.heap.size ∧ w.heap.size ≤ k) r.1.g gv ∧ Below w.heap.size w w'
set_option maxRecDepth 100000 in
set_option maxHeartbeats 1600000 in
theorem specStartN_calls (ds : List Df) (t : Tr) (p c : Value) (w : World) (hp : DIn w ds p) (hk : In w t.kids c) (ht : I64 t.op ∧ I64 t.num) :
    Calls Tryz.prog 44 #[p, .agg #[.int .i64 t.op, .int .i64 t.num, c]] w (GotXN (sxO ds t) w) := by
  have HK : Hid (In w t.kids c) := hk
  have HP : Hid (DIn w ds p) := hp
  have HT := mkHid ht
  obtain ⟨ad, cap, rfl, -, -, -⟩ := hk
  obtain ⟨adp, capp, rfl, -, -, -⟩ := hp
  obtain ⟨W, hW⟩ : ∃ W, W = (w.alloc (.cells #[.int .i64 t.op, .int .i64 t.num, .slice ad t.kids.length cap] 48)).alloc (.cells #[.slice none 0 0, .int .i64 0, .int .i64 0, .int .i64 0, .int .i64 0, .int .i64 0, .int .i64 0] 30) := ⟨_, rfl⟩
  have HB_W : Hid (Below w.heap.size w W) := by rw [hW]; exact (box_below _ _).alloc (by rw [Deep.nblk_alloc]; omega) _
  have HX_W : Hid (W.heap[w.heap.size]? = some (.cells #[.int .i64 t.op, .int .i64 t.num, .slice ad t.kids.length cap] 48)) := by
    rw [hW]; exact (Deep.blk_alloc_lt _ _ _ (by rw [Deep.nblk_alloc]; omega)).trans (Deep.blk_alloc_new _ _)
  have HY_W : Hid (W.heap[w.heap.size + 1]? = some (.cells #[.slice none 0 0, .int .i64 0, .int .i64 0, .int .i64 0, .int .i64 0, .int .i64 0, .int .i64 0] 30)) := by
    have h := Deep.blk_alloc_new (w.alloc (.cells #[.int .i64 t.op, .int .i64 t.num, .slice ad t.kids.length cap] 48)) (.cells #[.slice none 0 0, .int .i64 0, .int .i64 0, .int .i64 0, .int .i64 0, .int .i64 0, .int .i64 0] 30)
    rw [Deep.nblk_alloc] at h
    rw [hW]; exact h
  have HL_W : Hid (w.heap.size + 2 ≤ W.heap.size) := by rw [hW, Hid, Deep.nblk_alloc, Deep.nblk_alloc]; exact Nat.le_refl _
  clear ht
  go_enter Tryz.func44, Tryz.ntmps44
  go_wp2_with fail
  rw [← hW]
  clear hW
  refine (l2Closed_calls ds _ t _ W (HP.out.next HB_W.out) (HK.out.next HB_W.out)).mono ?_
  rintro e w1 ⟨rfl, hb1⟩
  have HB1 : Hid (Below w.heap.size w w1) := HB_W.out.trans (hb1.mono HB_W.out.size)
  have HL1 : Hid (w.heap.size + 2 ≤ w1.heap.size) := Nat.le_trans HL_W.out hb1.size
  have HX1 := mkHid ((hb1.block _ (by have := HL_W.out; omega)).trans HX_W.out)
  have HY1 := mkHid ((hb1.block _ (by have := HL_W.out; omega)).trans HY_W.out)
  clear hb1
  cases hr : closedB ds t with
  | false =>
    have HV : Hid (sxO ds t = (rnZ, false)) := by unfold Hid sxO; rw [if_neg (by rw [hr]; simp)]
    have y0 := cell_of_blk HY1.out 0 _ rfl
    have y1 := cell_of_blk HY1.out 1 _ rfl
    have y2 := cell_of_blk HY1.out 2 _ rfl
    have y3 := cell_of_blk HY1.out 3 _ rfl
    have y4 := cell_of_blk HY1.out 4 _ rfl
    have y5 := cell_of_blk HY1.out 5 _ rfl
    have y6 := cell_of_blk HY1.out 6 _ rfl
    have fy := frz_of_blk HY1.out
    clear hr
    go_wp2_with fail
    refine bodyPost_ret (v := .tuple #[.agg (rnC (.slice none 0 0) rnZ), .bool false]) (by simp [results, Tryz.results44, go_sem, y0, y1, y2, y3, y4, y5, y6, fy, rnC, rnZ]) rfl ?_
    rw [HV.out]
    exact ⟨_, rfl, ⟨none, 0, rfl, Nat.le_refl _, by simp [maxLen], Or.inl rfl⟩, st7_below HB1.out (by omega)⟩
  | true =>
    have HV : Hid (sxO ds t = (startX (addT [] t []).1 (addT [] t []).2, true)) := by unfold Hid sxO; rw [if_pos hr]
    have HOK := mkHid (start_ok hr)
    obtain ⟨g0, hg0⟩ : ∃ g0, g0 = (addT [] t []).1 := ⟨_, rfl⟩
    obtain ⟨a0, ha0⟩ : ∃ a0, a0 = (addT [] t []).2 := ⟨_, rfl⟩
    have x0 := old_cell (cell_of_blk HX1.out 0 _ rfl) (.cells #[] 93)
    have x1 := old_cell (cell_of_blk HX1.out 1 _ rfl) (.cells #[] 93)
    have x2 := old_cell (cell_of_blk HX1.out 2 _ rfl) (.cells #[] 93)
    have hADD : Calls Tryz.prog 66 #[.slice (some ⟨w1.heap.size, 0, none⟩) 0 0, .agg #[.int .i64 t.op, .int .i64 t.num, .slice ad t.kids.length cap], .slice none 0 0] (w1.alloc (.cells #[] 93)) (fun e w' => ∃ gv', e = .returned (.tuple #[gv', .int .i64 (a0 : Int)]) ∧ CellsOn w' (fun k => k < w'.heap.size ∧ w1.heap.size ≤ k) g0 gv' ∧ Below w1.heap.size w1 w') := by
      have hz : (w1.alloc (.cells #[] 93)).heap.size = w1.heap.size + 1 := Deep.nblk_alloc _ _
      refine (ad_calls [] t (.slice (some ⟨w1.heap.size, 0, none⟩) 0 0) (.slice none 0 0) (.slice ad t.kids.length cap) w1.heap.size (fun b => w1.heap.size ≤ b) [] _ (OwnC.zero (Deep.blk_alloc_new _ _) (Nat.le_refl _)) (by omega) ⟨none, 0, rfl, Nat.le_refl _, by simp [maxLen], Or.inl rfl⟩ ((HK.out.next HB1.out).mono (fun _ h => h) fun k hk => Deep.blk_alloc_lt _ _ _ hk) (by have := HOK.out.2.2.2.2; simp; omega) (by simp) HT.out.1 HT.out.2 HOK.out.2.2.2.1).mono ?_
      rintro e w' ⟨gv', rfl, hown, hg, -⟩
      refine ⟨gv', by rw [ha0], ?_, below_grown (box_below _ _) hg fun k e => by simp only [Value.ownBlock, Option.some.injEq] at e; omega⟩
      rw [hg0]
      exact (hown.own fun k h _ => by rcases h with h | h; exact h; omega).onS fun k hk hz => ⟨hz, (List.mem_range'_1.1 hk).1⟩
    have HADD := mkHid hADD
    rw [← hg0, ← ha0] at HV
    clear hr hg0 ha0 hADD
    go_wp2_with fail
    refine HADD.out.mono ?_
    rintro e w2 ⟨gv, rfl, hc2, hb2⟩
    obtain ⟨adz, capz, rfl, -, -, -⟩ := id hc2
    have HC2 := mkHid hc2
    have HB2 : Hid (Below w.heap.size w w2) := HB1.out.trans (hb2.mono HB1.out.size)
    have HY2 := mkHid ((hb2.block _ (by have := HL1.out; omega)).trans HY1.out)
    have y0 := cell_of_blk HY2.out 0 _ rfl
    have y1 := cell_of_blk HY2.out 1 _ rfl
    have y2 := cell_of_blk HY2.out 2 _ rfl
    have y3 := cell_of_blk HY2.out 3 _ rfl
    have y4 := cell_of_blk HY2.out 4 _ rfl
    have y5 := cell_of_blk HY2.out 5 _ rfl
    have y6 := cell_of_blk HY2.out 6 _ rfl
    have fy := frz_of_blk HY2.out
    clear hc2 hb2 x0 x1 x2
    go_wp2_with fail
    refine bodyPost_ret (v := .tuple #[.agg (rnC (.slice adz g0.length capz) (startX g0 a0)), .bool true]) (by simp [results, Tryz.results44, go_sem, y0, y1, y2, y3, y4, y5, y6, fy, rnC, startX]) rfl ?_
    rw [HV.out]
    refine ⟨_, rfl, ?_, st7_below HB2.out (by omega)⟩
    exact CellsOn.mono HC2.out (fun k hk => by rw [st7_size]; exact ⟨hk.1, by have := hk.2; have := HL1.out; omega⟩) (fun k hk => st7_far (by have := hk.2; have := HL1.out; omega))
theorem specStart_calls (ds : List Df) (t : Tr) (p c : Value) (w : World) (hp : DIn w ds p) (hk : In w t.kids c) (ht : I64 t.op ∧ I64 t.num) :
    Calls Tryz.prog 44 #[p, .agg #[.int .i64 t.op, .int .i64 t.num, c]] w (GotX (sxO ds t) w) :=
  (specStartN_calls ds t p c w hp hk ht).mono fun e w' h => by
    obtain ⟨gv, h1, h2, h3⟩ := h
    exact ⟨gv, h1, h2.mono (fun k hk => hk.1) fun _ _ => rfl, h3⟩
end Go.Proofs.YtiipcgnkfhjpeaaGreatDoor
/-
  THE MODEL's RunValid AND l6Limit.
-/
namespace Go.Proofs.YtiipcgnkfhjpeaaGreatDoor
set_option linter.unusedVariables false
set_option linter.unusedSimpArgs false
open Go.RowKit

set_option maxHeartbeats 400000 in
theorem l6Limit_calls (n : Int) (w : World) : Calls Tryz.prog 25 #[.int .i64 n] w fun e w' => e = .returned (.bool (btB n 400)) ∧ w = w' := by
  by_cases h0 : 0 ≤ n
  · by_cases h1 : n ≤ 400
    · have HV : Hid (btB n 400 = true) := by rw [Hid, btB, decide_eq_true_eq]; exact ⟨h0, h1⟩
      go_enter Tryz.func25, Tryz.ntmps25
      go_wp2_with fail
      go_ret
      exact ⟨ret_bool HV.out.symm, rfl⟩
    · have HV : Hid (btB n 400 = false) := by rw [Hid, btB, decide_eq_false_iff_not]; rintro ⟨-, h⟩; exact h1 h
      have h1' : decide (n ≤ 400) = false := by simpa using h1
      have h2' : 400 < n := by omega
      go_enter Tryz.func25, Tryz.ntmps25
      go_wp2_with fail
      go_ret
      exact ⟨ret_bool HV.out.symm, rfl⟩
  · have HV : Hid (btB n 400 = false) := by rw [Hid, btB, decide_eq_false_iff_not]; rintro ⟨h, -⟩; exact h0 h
    have h0' : decide (0 ≤ n) = false := by simpa using h0
    have h2' : n < 0 := by omega
    go_enter Tryz.func25, Tryz.ntmps25
    go_wp2_with fail
    go_ret
    exact ⟨ret_bool HV.out.symm, rfl⟩
end Go.Proofs.YtiipcgnkfhjpeaaGreatDoor
/-
  THE MODEL's EvalRun AND StepRun.
-/
namespace Go.Proofs.YtiipcgnkfhjpeaaGreatDoor
set_option linter.unusedVariables false
set_option linter.unusedSimpArgs false
open Go.RowKit



/-- a run by value and a number; its graph lies in new blocks -/
def GotRCN (r : Rn × Nat) (w : World) (e : Ending) (w' : World) : Prop := ∃ gv, e = .returned (.tuple #[.agg (rnC gv r.1), .int .i64 (r.2 : Int)]) ∧ CellsOn w' (fun k => k < w'.heap.size ∧ w.heap.size ≤ k) r.1.g gv ∧ Below w.heap.size w w'
theorem GotRCN.old {r : Rn × Nat} {w : World} {e : Ending} {w' : World} (h : GotRCN r w e w') : GotRC r w e w' := by
  obtain ⟨gv, h1, h2, h3⟩ := h
  exact ⟨gv, h1, h2.mono (fun k hk => hk.1) fun _ _ => rfl, h3⟩
theorem eRun_no {ds : List Df} {t : Tr} {f limit : Int} {tidy : Bool} (h : ¬ (closedB ds t = true ∧ fuelO f = true ∧ btB limit 400 = true)) : eRun ds t f limit tidy = (rnZ, 4) := by unfold eRun; rw [if_neg h]
set_option maxRecDepth 100000 in
set_option maxHeartbeats 6400000 in
theorem specEvalRN_calls (ds : List Df) (t : Tr) (p c : Value) (f limit : Int) (tidy : Bool) (w : World) (hp : DIn w ds p) (hk : In w t.kids c) (ht : I64 t.op ∧ I64 t.num) :
    Calls Tryz.prog 17 #[p, .agg #[.int .i64 t.op, .int .i64 t.num, c], .int .i64 f, .int .i64 limit, .bool tidy] w (GotRCN (eRun ds t f limit tidy) w) := by
  have HK : Hid (In w t.kids c) := hk
  have HP : Hid (DIn w ds p) := hp
  have HT := mkHid ht
  obtain ⟨ad, cap, rfl, -, -, -⟩ := hk
  obtain ⟨adp, capp, rfl, -, -, -⟩ := hp
  obtain ⟨W, hW⟩ : ∃ W, W = (w.alloc (.cells #[.int .i64 t.op, .int .i64 t.num, .slice ad t.kids.length cap] 48)).alloc (.cells #[.slice none 0 0, .int .i64 0, .int .i64 0, .int .i64 0, .int .i64 0, .int .i64 0, .int .i64 0] 30) := ⟨_, rfl⟩
  have HB_W : Hid (Below w.heap.size w W) := by rw [hW]; exact (box_below _ _).alloc (by rw [Deep.nblk_alloc]; omega) _
  have HY_W : Hid (W.heap[w.heap.size + 1]? = some (.cells #[.slice none 0 0, .int .i64 0, .int .i64 0, .int .i64 0, .int .i64 0, .int .i64 0, .int .i64 0] 30)) := by
    have h := Deep.blk_alloc_new (w.alloc (.cells #[.int .i64 t.op, .int .i64 t.num, .slice ad t.kids.length cap] 48)) (.cells #[.slice none 0 0, .int .i64 0, .int .i64 0, .int .i64 0, .int .i64 0, .int .i64 0, .int .i64 0] 30)
    rw [Deep.nblk_alloc] at h
    rw [hW]; exact h
  have HL_W : Hid (w.heap.size + 2 ≤ W.heap.size) := by rw [hW, Hid, Deep.nblk_alloc, Deep.nblk_alloc]; exact Nat.le_refl _
  clear ht
  go_enter Tryz.func17, Tryz.ntmps17
  go_wp2_with fail
  rw [← hW]
  clear hW
  refine (specStart_calls ds t _ _ W (HP.out.next HB_W.out) (HK.out.next HB_W.out) HT.out).mono ?_
  rintro e w1 ⟨gv, rfl, hk1, hb1⟩
  have HB1 : Hid (Below w.heap.size w w1) := HB_W.out.trans (hb1.mono HB_W.out.size)
  have HL1 : Hid (w.heap.size + 2 ≤ w1.heap.size) := Nat.le_trans HL_W.out hb1.size
  have HY1 := mkHid ((hb1.block _ (by have := HL_W.out; omega)).trans HY_W.out)
  have hs1 := HB1.out.size
  clear hb1
  cases hr : closedB ds t with
  | false =>
    have HV : Hid (eRun ds t f limit tidy = (rnZ, 4)) := eRun_no (by rw [hr]; simp)
    have hsx : sxO ds t = (rnZ, false) := by unfold sxO; rw [if_neg (by rw [hr]; simp)]
    rw [hsx] at hk1 ⊢
    dsimp only at hk1 ⊢
    obtain ⟨z0, hz0⟩ : ∃ z0 : Rn, z0 = rnZ := ⟨_, rfl⟩
    rw [← hz0] at hk1 ⊢
    clear hz0
    obtain ⟨adz, capz, rfl, -, -, -⟩ := id hk1
    have HYA : Hid ((w1.alloc (.cells #[.slice adz z0.g.length capz, .int .i64 (z0.root : Int), .int .i64 z0.steps, .int .i64 z0.moved, .int .i64 z0.peak, .int .i64 z0.ticks, .int .i64 z0.rounds] 30)).heap[w.heap.size + 1]? = some (.cells #[.slice none 0 0, .int .i64 0, .int .i64 0, .int .i64 0, .int .i64 0, .int .i64 0, .int .i64 0] 30)) := (Deep.blk_alloc_lt _ _ _ (by have := HL1.out; omega)).trans HY1.out
    have HBA : Hid (Below w.heap.size w (w1.alloc (.cells #[.slice adz z0.g.length capz, .int .i64 (z0.root : Int), .int .i64 z0.steps, .int .i64 z0.moved, .int .i64 z0.peak, .int .i64 z0.ticks, .int .i64 z0.rounds] 30))) := HB1.out.alloc hs1 _
    clear hsx hr hk1 hs1
    unfold rnC
    have y0 := cell_of_blk HYA.out 0 _ rfl
    have y1 := cell_of_blk HYA.out 1 _ rfl
    have y2 := cell_of_blk HYA.out 2 _ rfl
    have y3 := cell_of_blk HYA.out 3 _ rfl
    have y4 := cell_of_blk HYA.out 4 _ rfl
    have y5 := cell_of_blk HYA.out 5 _ rfl
    have y6 := cell_of_blk HYA.out 6 _ rfl
    have fy := frz_of_blk HYA.out
    go_wp2_with fail
    refine bodyPost_ret (v := .tuple #[.agg (rnC (.slice none 0 0) rnZ), .int .i64 4]) (by simp [results, Tryz.results17, go_sem, y0, y1, y2, y3, y4, y5, y6, fy, rnC, rnZ]) rfl ?_
    rw [HV.out]
    exact ⟨_, rfl, ⟨none, 0, rfl, Nat.le_refl _, by simp [maxLen], Or.inl rfl⟩, st7_below HBA.out (by omega)⟩
  | true =>
    have hsx : sxO ds t = (startX (addT [] t []).1 (addT [] t []).2, true) := by unfold sxO; rw [if_pos hr]
    have HSO := mkHid (start_run hr)
    have HPR := mkHid (start_ok hr).1
    have HCL := mkHid hr
    rw [hsx] at hk1 ⊢
    obtain ⟨x, hx⟩ : ∃ x, x = startX (addT [] t []).1 (addT [] t []).2 := ⟨_, rfl⟩
    have HXE := mkHid hx
    have HXO : Hid (x.Ok ds) := by rw [hx]; exact HSO.out
    dsimp only at hk1 ⊢
    rw [← hx] at hk1 ⊢
    obtain ⟨adz, capz, rfl, -, -, -⟩ := id hk1
    have HK1 := mkHid hk1
    have HYA : Hid ((w1.alloc (.cells #[.slice adz x.g.length capz, .int .i64 (x.root : Int), .int .i64 x.steps, .int .i64 x.moved, .int .i64 x.peak, .int .i64 x.ticks, .int .i64 x.rounds] 30)).heap[w.heap.size + 1]? = some (.cells #[.slice none 0 0, .int .i64 0, .int .i64 0, .int .i64 0, .int .i64 0, .int .i64 0, .int .i64 0] 30)) := (Deep.blk_alloc_lt _ _ _ (by have := HL1.out; omega)).trans HY1.out
    have HBA : Hid (Below w.heap.size w (w1.alloc (.cells #[.slice adz x.g.length capz, .int .i64 (x.root : Int), .int .i64 x.steps, .int .i64 x.moved, .int .i64 x.peak, .int .i64 x.ticks, .int .i64 x.rounds] 30))) := HB1.out.alloc hs1 _
    have HLA : Hid (w.heap.size + 2 ≤ (w1.alloc (.cells #[.slice adz x.g.length capz, .int .i64 (x.root : Int), .int .i64 x.steps, .int .i64 x.moved, .int .i64 x.peak, .int .i64 x.ticks, .int .i64 x.rounds] 30)).heap.size) := by rw [Hid, Deep.nblk_alloc]; have := HL1.out; omega
    clear hsx hr hk1 hx hs1
    unfold rnC
    by_cases h0 : 0 ≤ f
    case neg =>
      have HV : Hid (eRun ds t f limit tidy = (rnZ, 4)) := eRun_no (by unfold fuelO; simp; omega)
      have h0' : decide (0 ≤ f) = false := by simpa using h0
      have h0n : f < 0 := by omega
      have y0 := cell_of_blk HYA.out 0 _ rfl
      have y1 := cell_of_blk HYA.out 1 _ rfl
      have y2 := cell_of_blk HYA.out 2 _ rfl
      have y3 := cell_of_blk HYA.out 3 _ rfl
      have y4 := cell_of_blk HYA.out 4 _ rfl
      have y5 := cell_of_blk HYA.out 5 _ rfl
      have y6 := cell_of_blk HYA.out 6 _ rfl
      have fy := frz_of_blk HYA.out
      go_wp2_with fail
      refine bodyPost_ret (v := .tuple #[.agg (rnC (.slice none 0 0) rnZ), .int .i64 4]) (by simp [results, Tryz.results17, go_sem, y0, y1, y2, y3, y4, y5, y6, fy, rnC, rnZ]) rfl ?_
      rw [HV.out]
      exact ⟨_, rfl, ⟨none, 0, rfl, Nat.le_refl _, by simp [maxLen], Or.inl rfl⟩, st7_below HBA.out (by omega)⟩
    by_cases h3 : f ≤ 300
    case neg =>
      have HV : Hid (eRun ds t f limit tidy = (rnZ, 4)) := eRun_no (by unfold fuelO; simp; omega)
      have h3' : decide (f ≤ 300) = false := by simpa using h3
      have h3n : 300 < f := by omega
      have y0 := cell_of_blk HYA.out 0 _ rfl
      have y1 := cell_of_blk HYA.out 1 _ rfl
      have y2 := cell_of_blk HYA.out 2 _ rfl
      have y3 := cell_of_blk HYA.out 3 _ rfl
      have y4 := cell_of_blk HYA.out 4 _ rfl
      have y5 := cell_of_blk HYA.out 5 _ rfl
      have y6 := cell_of_blk HYA.out 6 _ rfl
      have fy := frz_of_blk HYA.out
      go_wp2_with fail
      refine bodyPost_ret (v := .tuple #[.agg (rnC (.slice none 0 0) rnZ), .int .i64 4]) (by simp [results, Tryz.results17, go_sem, y0, y1, y2, y3, y4, y5, y6, fy, rnC, rnZ]) rfl ?_
      rw [HV.out]
      exact ⟨_, rfl, ⟨none, 0, rfl, Nat.le_refl _, by simp [maxLen], Or.inl rfl⟩, st7_below HBA.out (by omega)⟩
    obtain ⟨fu, rfl⟩ : ∃ fu : Nat, f = (fu : Int) := ⟨f.toNat, by omega⟩
    have hfu : fu ≤ 300 := by omega
    go_wp2_with fail
    refine (l6Limit_calls limit _).mono ?_
    rintro e w2 ⟨rfl, rfl⟩
    cases hl : btB limit 400 with
    | false =>
      have HV : Hid (eRun ds t (fu : Int) limit tidy = (rnZ, 4)) := eRun_no (by rw [hl]; simp)
      clear hl
      have y0 := cell_of_blk HYA.out 0 _ rfl
      have y1 := cell_of_blk HYA.out 1 _ rfl
      have y2 := cell_of_blk HYA.out 2 _ rfl
      have y3 := cell_of_blk HYA.out 3 _ rfl
      have y4 := cell_of_blk HYA.out 4 _ rfl
      have y5 := cell_of_blk HYA.out 5 _ rfl
      have y6 := cell_of_blk HYA.out 6 _ rfl
      have fy := frz_of_blk HYA.out
      go_wp2_with fail
      refine bodyPost_ret (v := .tuple #[.agg (rnC (.slice none 0 0) rnZ), .int .i64 4]) (by simp [results, Tryz.results17, go_sem, y0, y1, y2, y3, y4, y5, y6, fy, rnC, rnZ]) rfl ?_
      rw [HV.out]
      exact ⟨_, rfl, ⟨none, 0, rfl, Nat.le_refl _, by simp [maxLen], Or.inl rfl⟩, st7_below HBA.out (by omega)⟩
    | true =>
      have HV : Hid (eRun ds t (fu : Int) limit tidy = runE ds limit tidy fu x) := by
        unfold Hid eRun
        rw [if_pos ⟨HCL.out, by unfold fuelO; simp; omega, hl⟩, HXE.out, Int.toNat_natCast]
      have HRR : Hid (RunRel ds limit tidy x fu 0 x) := by rw [HXE.out]; exact RunRel.start HSO.out
      clear hl h0 h3
      go_wp2_with fail
      refine (l6Eval_calls ds x _ (.slice adz x.g.length capz) fu limit tidy _ (HP.out.next HBA.out) (HK1.out.next (box_below _ _)) HPR.out hfu HRR.out).mono ?_
      obtain ⟨r, hrr⟩ : ∃ r, r = runE ds limit tidy fu x := ⟨_, rfl⟩
      have HROK : Hid (r.1.Ok ds) := by rw [hrr]; exact runE_ok HPR.out _ _ HXO.out
      rw [← hrr] at HV ⊢
      clear hrr
      rintro e w3 ⟨gv3, rfl, hk3, hb3⟩
      obtain ⟨ad3, cap3, rfl, -, -, -⟩ := id hk3
      have HK3 := mkHid hk3
      have HB3 : Hid (Below w.heap.size w w3) := HBA.out.trans (hb3.mono HBA.out.size)
      have HY3 := mkHid ((hb3.block _ (by have := HLA.out; omega)).trans HYA.out)
      have HL3 : Hid (w.heap.size + 2 ≤ w3.heap.size) := Nat.le_trans HLA.out hb3.size
      obtain ⟨z, hz⟩ : ∃ z, z = r.1 := ⟨_, rfl⟩
      obtain ⟨cd, hcd⟩ : ∃ cd, cd = r.2 := ⟨_, rfl⟩
      have HRE : Hid (r = (z, cd)) := by rw [hz, hcd]; rfl
      rw [← hz] at HK3 HROK ⊢
      rw [← hcd]
      clear hk3 hb3 hz hcd
      unfold rnC
      go_wp2_with fail
      have HBB : Hid (Below w3.heap.size w3 (w3.alloc (.cells #[.slice ad3 z.g.length cap3, .int .i64 (z.root : Int), .int .i64 z.steps, .int .i64 z.moved, .int .i64 z.peak, .int .i64 z.ticks, .int .i64 z.rounds] 30))) := box_below _ _
      refine (l6Copy_calls z (.slice ad3 z.g.length cap3) _ (HK3.out.next HBB.out) ⟨_, HROK.out.1⟩).mono ?_
      rintro e w5 ⟨gv5, rfl, hk5, hb5⟩
      obtain ⟨ad5, cap5, rfl, -, -, -⟩ := id hk5
      have HK5 := mkHid hk5
      have HB5 : Hid (Below w.heap.size w w5) := (HB3.out.trans (HBB.out.mono HB3.out.size)).trans (hb5.mono (by rw [Deep.nblk_alloc]; have := HB3.out.size; omega))
      have HY5 := mkHid ((hb5.block _ (by rw [Deep.nblk_alloc]; have := HL3.out; omega)).trans ((HBB.out.block _ (by have := HL3.out; omega)).trans HY3.out))
      have HN5 : Hid (w.heap.size + 2 ≤ (w3.alloc (.cells #[.slice ad3 z.g.length cap3, .int .i64 (z.root : Int), .int .i64 z.steps, .int .i64 z.moved, .int .i64 z.peak, .int .i64 z.ticks, .int .i64 z.rounds] 30)).heap.size) := by rw [Hid, Deep.nblk_alloc]; have := HL3.out; omega
      clear hk5 hb5
      unfold rnC
      have y0 := cell_of_blk HY5.out 0 _ rfl
      have y1 := cell_of_blk HY5.out 1 _ rfl
      have y2 := cell_of_blk HY5.out 2 _ rfl
      have y3 := cell_of_blk HY5.out 3 _ rfl
      have y4 := cell_of_blk HY5.out 4 _ rfl
      have y5 := cell_of_blk HY5.out 5 _ rfl
      have y6 := cell_of_blk HY5.out 6 _ rfl
      have fy := frz_of_blk HY5.out
      go_wp2_with fail
      refine bodyPost_ret (v := .tuple #[.agg #[(.slice ad5 z.g.length cap5), .int .i64 (z.root : Int), .int .i64 z.steps, .int .i64 z.moved, .int .i64 z.peak, .int .i64 z.ticks, .int .i64 z.rounds], .int .i64 (cd : Int)]) (by simp [results, Tryz.results17, go_sem, y0, y1, y2, y3, y4, y5, y6, fy]) rfl ?_
      rw [HV.out, HRE.out]
      refine ⟨_, rfl, ?_, st7_below HB5.out (by omega)⟩
      exact CellsOn.mono HK5.out (fun k hk => by rw [st7_size]; exact ⟨hk.1, by have := hk.2; have := HN5.out; omega⟩) (fun k hk => st7_far (by have := hk.2; have := HN5.out; omega))


end Go.Proofs.YtiipcgnkfhjpeaaGreatDoor
/-
  THE PROGRAM's arena, wherever it lies: one cell more.
-/
namespace Go.Proofs.YtiipcgnkfhjpeaaGreatDoor
set_option linter.unusedVariables false
set_option linter.unusedSimpArgs false
open Go.RowKit

theorem row_ne_cells {w : World} {A lo n : Nat} {T : TypeId} {CC : Array Value} {gv : Value} {xs : List Value} (hT : T ≠ 93) (hA : w.heap[A]? = some (.cells CC T)) (hx : w.ownsRow lo 93 3 gv n xs) : some A ≠ gv.ownBlock := by
  intro e
  rcases hx.2 with ⟨rfl, -⟩ | ⟨b, cap, cur, rfl, -, hh, -⟩
  · simp [Value.ownBlock] at e
  · simp only [Value.ownBlock, Option.some.injEq] at e
    subst e
    rw [hh] at hA
    simp only [Option.some.injEq, Obj.cells.injEq] at hA
    exact hT hA.2.1.symm
theorem grown_drew {w w5 : World} {b : Option Nat} (h : w.drew.grownBy w5 b) : w.grownBy w5 b := ⟨h.os, h.tape, h.output, h.size, h.block⟩
theorem arp_keep {w w5 : World} {A lo n : Nat} {T : TypeId} {CC : Array Value} {gv : Value} {xs : List Value} {o1 o2 : Obj} (hT : T ≠ 93) (hA : w.heap[A]? = some (.cells CC T)) (hx : w.ownsRow lo 93 3 gv n xs) (hg : ((w.alloc o1).alloc o2).grownBy w5 gv.ownBlock) : w5.heap[A]? = some (.cells CC T) := by
  have hl : A < w.heap.size := (Array.getElem?_eq_some_iff.1 hA).1
  exact ((hg.block A (by rw [Deep.nblk_alloc, Deep.nblk_alloc]; omega) (row_ne_cells hT hA hx)).trans ((Deep.blk_alloc_lt _ _ _ (by rw [Deep.nblk_alloc]; omega)).trans (Deep.blk_alloc_lt _ _ _ hl))).trans hA

/-- what add hands back: the cell's place; its row is the arena's -/
def AddedP (A q lo n : Nat) (o m : Int) (gv kv : Value) (xs : List Value) (w : World) (e : Ending) (w' : World) : Prop :=
  ∃ v' w5, e = .returned (.int .i64 (n : Int)) ∧ w5.ownsRow lo 93 3 v' (n + 1) (xs ++ [.int .i64 o, .int .i64 m, kv]) ∧ ((w.alloc (.cells #[.int .i64 o, .int .i64 m, kv] 93)).alloc (.cells #[.int .i64 o, .int .i64 m, kv] 93)).grownBy w5 gv.ownBlock ∧ (v'.ownBlock = gv.ownBlock ∨ ∃ g, v'.ownBlock = some g ∧ ((w.alloc (.cells #[.int .i64 o, .int .i64 m, kv] 93)).alloc (.cells #[.int .i64 o, .int .i64 m, kv] 93)).heap.size ≤ g) ∧ w' = w5.setCell ⟨A, q, none⟩ v'

set_option maxRecDepth 100000 in
set_option maxHeartbeats 1600000 in
theorem addP_calls (A q : Nat) (T : TypeId) (CC : Array Value) (hT : T ≠ 93) (lo n : Nat) (o m : Int) (gv : Value) (adk : Option Addr) (nk ck : Nat) (xs : List Value) (w : World) (hA : w.heap[A]? = some (.cells CC T)) (hq : CC[q]? = some gv) (hx : w.ownsRow lo 93 3 gv n xs) (hlo : lo ≤ w.heap.size) (hn : n ≤ 500000) :
    Calls Tryz.prog 98 #[.pointer (some ⟨A, q, none⟩), .agg #[.int .i64 o, .int .i64 m, .slice adk nk ck]] w (AddedP A q lo n o m gv (.slice adk nk ck) xs w) := by
  have HA : Hid (w.heap[A]? = some (.cells CC T)) := hA
  have HX : Hid (w.ownsRow lo 93 3 gv n xs) := hx
  have a0 := cell_of_blk hA q _ hq
  have af := frz_of_blk hA q
  obtain ⟨ad, cap, rfl⟩ : ∃ ad cap, gv = .slice ad n cap := by
    rcases hx.2 with ⟨rfl, h0⟩ | ⟨b, cap, cur, rfl, -⟩
    · exact ⟨none, 0, by rw [h0]⟩
    · exact ⟨_, _, rfl⟩
  have HQ := mkHid hq
  clear hA hx hq
  go_enter Tryz.func98, Tryz.ntmps98
  have p0 := old_cell a0 (.cells #[.int .i64 o, .int .i64 m, .slice adk nk ck] 93)
  have p1 := old_cell p0 (.cells #[.int .i64 o, .int .i64 m, .slice adk nk ck] 93)
  have b0 := box_cell w #[.int .i64 o, .int .i64 m, .slice adk nk ck] 93 0 _ rfl
  have b1 := box_cell w #[.int .i64 o, .int .i64 m, .slice adk nk ck] 93 1 _ rfl
  have b2 := box_cell w #[.int .i64 o, .int .i64 m, .slice adk nk ck] 93 2 _ rfl
  obtain ⟨iC, zC, hII⟩ := infoC1
  have HII : Hid (Tryz.prog.info? 93 = some iC ∧ iC.zero = some zC ∧ iC.size = 3 ∧ iC.bytes = 40 ∧ zC.cells.size = 3) := hII
  have HX2 : Hid (((w.alloc (.cells #[.int .i64 o, .int .i64 m, .slice adk nk ck] 93)).alloc (.cells #[.int .i64 o, .int .i64 m, .slice adk nk ck] 93)).drew.ownsRow lo 93 3 (.slice ad n cap) n xs) := own_keep (own_keep (own_keep HX.out (fun k _ hk => Deep.blk_alloc_lt _ _ _ hk)) (fun k _ hk => Deep.blk_alloc_lt _ _ _ hk)) (fun _ _ _ => rfl)
  clear hII
  go_wp2_with fail
  go_region_law (refine step_append_where rfl (.tmp 9) (.tmp 11) 28 rfl lo 93 iC zC 3 40 Tryz.underlying28 HII.out.1 HII.out.2.1 HII.out.2.2.1 HII.out.2.2.2.1 HII.out.2.2.2.2 (by decide) (.slice ad n cap) n xs (by simp [Act.eval, Act.put]) HX2.out ⟨w.heap.size + 1, 0, none⟩ 1 1 [.int .i64 o, .int .i64 m, .slice adk nk ck] (by simp [Act.eval, Act.put]) rfl (by have h := news3c (w.alloc (.cells #[.int .i64 o, .int .i64 m, .slice adk nk ck] 93)) (.int .i64 o) (.int .i64 m) (.slice adk nk ck); rw [Deep.nblk_alloc] at h; exact h) (by simp [Value.oneCell']) (by unfold maxLen; omega) (by omega) (by show lo ≤ ((w.alloc _).alloc _).heap.size; simp only [Deep.nblk_alloc]; omega) (by omega) ?_; intro v' w5 hown hg0 hw; have hg := grown_drew hg0; clear hg0; obtain ⟨g', c', rfl, -, -, -, -⟩ := own_form hown (by omega); have s2 := cell_of_blk (arp_keep hT HA.out HX.out hg) q _ HQ.out; have sf := frz_of_blk (arp_keep hT HA.out HX.out hg) q)
  all_goals
    have hn0 : ¬ ((n : Int) + 1 - 1 < 0) := by omega
    have h64 : IntKind.i64.wrap ((n : Int) + 1 - 1) = (n : Int) := by rw [show (n : Int) + 1 - 1 = (n : Int) by omega]; exact IntWalk.i64_in _ (by omega)
    go_wp2_with fail
    go_ret
    exact ⟨_, w5, rfl, hown, hg, hw, rfl⟩
end Go.Proofs.YtiipcgnkfhjpeaaGreatDoor
/-
  THE PROGRAM's arena: one cell more.
-/
namespace Go.Proofs.YtiipcgnkfhjpeaaGreatDoor
set_option linter.unusedVariables false
set_option linter.unusedSimpArgs false
open Go.RowKit

theorem cells_ne_arena {w : World} {A lo n : Nat} {gv gv0 : Value} {xs : List Value} (hA : w.heap[A]? = some (.cells #[gv0] 142)) (hx : w.ownsRow lo 93 3 gv n xs) : some A ≠ gv.ownBlock := by
  intro e
  rcases hx.2 with ⟨rfl, -⟩ | ⟨b, cap, cur, rfl, -, hh, -⟩
  · simp [Value.ownBlock] at e
  · simp only [Value.ownBlock, Option.some.injEq] at e
    subst e
    rw [hh] at hA
    simp at hA
theorem ar_keep {w w5 : World} {A lo n : Nat} {gv : Value} {xs : List Value} {o1 o2 : Obj} (hA : w.heap[A]? = some (.cells #[gv] 142)) (hx : w.ownsRow lo 93 3 gv n xs) (hg : ((w.alloc o1).alloc o2).grownBy w5 gv.ownBlock) : w5.heap[A]? = some (.cells #[gv] 142) := by
  have hl : A < w.heap.size := (Array.getElem?_eq_some_iff.1 hA).1
  exact ((hg.block A (by rw [Deep.nblk_alloc, Deep.nblk_alloc]; omega) (cells_ne_arena hA hx)).trans ((Deep.blk_alloc_lt _ _ _ (by rw [Deep.nblk_alloc]; omega)).trans (Deep.blk_alloc_lt _ _ _ hl))).trans hA

/-- what add hands back: the cell's place; its row is the arena's -/
abbrev Added (A lo n : Nat) (o m : Int) (gv kv : Value) (xs : List Value) (w : World) (e : Ending) (w' : World) : Prop := AddedP A 0 lo n o m gv kv xs w e w'
theorem arena_not_cell : (142 : TypeId) ≠ 93 := by decide
theorem add_calls (A lo n : Nat) (o m : Int) (gv : Value) (adk : Option Addr) (nk ck : Nat) (xs : List Value) (w : World) (hA : w.heap[A]? = some (.cells #[gv] 142)) (hx : w.ownsRow lo 93 3 gv n xs) (hlo : lo ≤ w.heap.size) (hn : n ≤ 500000) :
    Calls Tryz.prog 98 #[.pointer (some ⟨A, 0, none⟩), .agg #[.int .i64 o, .int .i64 m, .slice adk nk ck]] w (Added A lo n o m gv (.slice adk nk ck) xs w) :=
  addP_calls A 0 142 #[gv] arena_not_cell lo n o m gv adk nk ck xs w hA rfl hx hlo hn
end Go.Proofs.YtiipcgnkfhjpeaaGreatDoor
