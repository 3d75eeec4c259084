/-
  THE MODEL's StartRun.
-/
import Derived.Test.YtidijbnoaeopdaaGreatDoorMgExactPeakCells26
import Derived.Test.YtidijbnoaeopdaaGreatDoorMgExactPeakCells22
import Derived.Test.YtidijbnoaeopdaaGreatDoorMgExactPeakCells12
import Derived.Deep.LoopGhost
namespace Go.Proofs.YtidijbnoaeopdaaGreatDoor
set_option linter.unusedVariables false
set_option linter.unusedSimpArgs false
open Go.RowKit

/-- a run by value and whether -/
def GotX (r : Rn × Bool) (w : World) (e : Ending) (w' : World) : Prop := ∃ gv, e = .returned (.tuple #[.agg (rnC gv r.1), .bool r.2]) ∧ CIn w' r.1.g gv ∧ Below w.heap.size w w'
set_option maxRecDepth 100000 in
set_option maxHeartbeats 1600000 in
theorem specStart_calls (ds : List Df) (t : Tr) (p c : Value) (w : World) (hp : DIn w ds p) (hk : In w t.kids c) (ht : I64 t.op ∧ I64 t.num) :
    Calls Tryz.prog 50 #[p, .agg #[.int .i64 t.op, .int .i64 t.num, c]] w (GotX (sxO ds t) w) := by
  have HK : Hid (In w t.kids c) := hk
  have HP : Hid (DIn w ds p) := hp
  have HT := mkHid ht
  obtain ⟨ad, cap, rfl, -, -, -⟩ := hk
  obtain ⟨adp, capp, rfl, -, -, -⟩ := hp
  obtain ⟨W, hW⟩ : ∃ W, W = (w.alloc (.cells #[.int .i64 t.op, .int .i64 t.num, .slice ad t.kids.length cap] 48)).alloc (.cells #[.slice none 0 0, .int .i64 0, .int .i64 0, .int .i64 0, .int .i64 0, .int .i64 0, .int .i64 0] 30) := ⟨_, rfl⟩
  have HB_W : Hid (Below w.heap.size w W) := by rw [hW]; exact (box_below _ _).alloc (by rw [Deep.nblk_alloc]; omega) _
  have HX_W : Hid (W.heap[w.heap.size]? = some (.cells #[.int .i64 t.op, .int .i64 t.num, .slice ad t.kids.length cap] 48)) := by
    rw [hW]; exact (Deep.blk_alloc_lt _ _ _ (by rw [Deep.nblk_alloc]; omega)).trans (Deep.blk_alloc_new _ _)
  have HY_W : Hid (W.heap[w.heap.size + 1]? = some (.cells #[.slice none 0 0, .int .i64 0, .int .i64 0, .int .i64 0, .int .i64 0, .int .i64 0, .int .i64 0] 30)) := by
    have h := Deep.blk_alloc_new (w.alloc (.cells #[.int .i64 t.op, .int .i64 t.num, .slice ad t.kids.length cap] 48)) (.cells #[.slice none 0 0, .int .i64 0, .int .i64 0, .int .i64 0, .int .i64 0, .int .i64 0, .int .i64 0] 30)
    rw [Deep.nblk_alloc] at h
    rw [hW]; exact h
  have HL_W : Hid (w.heap.size + 2 ≤ W.heap.size) := by rw [hW, Hid, Deep.nblk_alloc, Deep.nblk_alloc]; exact Nat.le_refl _
  clear ht
  go_enter Tryz.func50, Tryz.ntmps50
  go_wp2_with fail
  rw [← hW]
  clear hW
  refine (l2Closed_calls ds _ t _ W (HP.out.next HB_W.out) (HK.out.next HB_W.out)).mono ?_
  rintro e w1 ⟨rfl, hb1⟩
  have HB1 : Hid (Below w.heap.size w w1) := HB_W.out.trans (hb1.mono HB_W.out.size)
  have HL1 : Hid (w.heap.size + 2 ≤ w1.heap.size) := Nat.le_trans HL_W.out hb1.size
  have HX1 := mkHid ((hb1.block _ (by have := HL_W.out; omega)).trans HX_W.out)
  have HY1 := mkHid ((hb1.block _ (by have := HL_W.out; omega)).trans HY_W.out)
  clear hb1
  cases hr : closedB ds t with
  | false =>
    have HV : Hid (sxO ds t = (rnZ, false)) := by unfold Hid sxO; rw [if_neg (by rw [hr]; simp)]
    have y0 := cell_of_blk HY1.out 0 _ rfl
    have y1 := cell_of_blk HY1.out 1 _ rfl
    have y2 := cell_of_blk HY1.out 2 _ rfl
    have y3 := cell_of_blk HY1.out 3 _ rfl
    have y4 := cell_of_blk HY1.out 4 _ rfl
    have y5 := cell_of_blk HY1.out 5 _ rfl
    have y6 := cell_of_blk HY1.out 6 _ rfl
    have fy := frz_of_blk HY1.out
    clear hr
    go_wp2_with fail
    refine bodyPost_ret (v := .tuple #[.agg (rnC (.slice none 0 0) rnZ), .bool false]) (by simp [results, Tryz.results50, go_sem, y0, y1, y2, y3, y4, y5, y6, fy, rnC, rnZ]) rfl ?_
    rw [HV.out]
    exact ⟨_, rfl, ⟨none, 0, rfl, Nat.le_refl _, by simp [maxLen], Or.inl rfl⟩, st7_below HB1.out (by omega)⟩
  | true =>
    have HV : Hid (sxO ds t = (startX (addT [] t []).1 (addT [] t []).2, true)) := by unfold Hid sxO; rw [if_pos hr]
    have HOK := mkHid (start_ok hr)
    obtain ⟨g0, hg0⟩ : ∃ g0, g0 = (addT [] t []).1 := ⟨_, rfl⟩
    obtain ⟨a0, ha0⟩ : ∃ a0, a0 = (addT [] t []).2 := ⟨_, rfl⟩
    have x0 := old_cell (cell_of_blk HX1.out 0 _ rfl) (.cells #[] 93)
    have x1 := old_cell (cell_of_blk HX1.out 1 _ rfl) (.cells #[] 93)
    have x2 := old_cell (cell_of_blk HX1.out 2 _ rfl) (.cells #[] 93)
    have hADD : Calls Tryz.prog 75 #[.slice (some ⟨w1.heap.size, 0, none⟩) 0 0, .agg #[.int .i64 t.op, .int .i64 t.num, .slice ad t.kids.length cap], .slice none 0 0] (w1.alloc (.cells #[] 93)) (fun e w' => ∃ gv', e = .returned (.tuple #[gv', .int .i64 (a0 : Int)]) ∧ CellsOn w' (fun k => k < w'.heap.size ∧ w1.heap.size ≤ k) g0 gv' ∧ Below w1.heap.size w1 w') := by
      have hz : (w1.alloc (.cells #[] 93)).heap.size = w1.heap.size + 1 := Deep.nblk_alloc _ _
      refine (ad_calls [] t (.slice (some ⟨w1.heap.size, 0, none⟩) 0 0) (.slice none 0 0) (.slice ad t.kids.length cap) w1.heap.size (fun b => w1.heap.size ≤ b) [] _ (OwnC.zero (Deep.blk_alloc_new _ _) (Nat.le_refl _)) (by omega) ⟨none, 0, rfl, Nat.le_refl _, by simp [maxLen], Or.inl rfl⟩ ((HK.out.next HB1.out).mono (fun _ h => h) fun k hk => Deep.blk_alloc_lt _ _ _ hk) (by have := HOK.out.2.2.2.2; simp; omega) (by simp) HT.out.1 HT.out.2 HOK.out.2.2.2.1).mono ?_
      rintro e w' ⟨gv', rfl, hown, hg, -⟩
      refine ⟨gv', by rw [ha0], ?_, below_grown (box_below _ _) hg fun k e => by simp only [Value.ownBlock, Option.some.injEq] at e; omega⟩
      rw [hg0]
      exact (hown.own fun k h _ => by rcases h with h | h; exact h; omega).onS fun k hk hz => ⟨hz, (List.mem_range'_1.1 hk).1⟩
    have HADD := mkHid hADD
    rw [← hg0, ← ha0] at HV
    clear hr hg0 ha0 hADD
    go_wp2_with fail
    refine HADD.out.mono ?_
    rintro e w2 ⟨gv, rfl, hc2, hb2⟩
    obtain ⟨adz, capz, rfl, -, -, -⟩ := id hc2
    have HC2 := mkHid hc2
    have HB2 : Hid (Below w.heap.size w w2) := HB1.out.trans (hb2.mono HB1.out.size)
    have HY2 := mkHid ((hb2.block _ (by have := HL1.out; omega)).trans HY1.out)
    have y0 := cell_of_blk HY2.out 0 _ rfl
    have y1 := cell_of_blk HY2.out 1 _ rfl
    have y2 := cell_of_blk HY2.out 2 _ rfl
    have y3 := cell_of_blk HY2.out 3 _ rfl
    have y4 := cell_of_blk HY2.out 4 _ rfl
    have y5 := cell_of_blk HY2.out 5 _ rfl
    have y6 := cell_of_blk HY2.out 6 _ rfl
    have fy := frz_of_blk HY2.out
    clear hc2 hb2 x0 x1 x2
    go_wp2_with fail
    refine bodyPost_ret (v := .tuple #[.agg (rnC (.slice adz g0.length capz) (startX g0 a0)), .bool true]) (by simp [results, Tryz.results50, go_sem, y0, y1, y2, y3, y4, y5, y6, fy, rnC, startX]) rfl ?_
    rw [HV.out]
    refine ⟨_, rfl, ?_, st7_below HB2.out (by omega)⟩
    exact CellsOn.mono HC2.out (fun k hk => by show k < _; rw [st7_size]; exact hk.1) (fun k hk => st7_far (by have := hk.2; have := HL1.out; omega))
end Go.Proofs.YtidijbnoaeopdaaGreatDoor
/-
  THE MODEL's PeakCells.
-/
namespace Go.Proofs.YtidijbnoaeopdaaGreatDoor
set_option linter.unusedVariables false
set_option linter.unusedSimpArgs false
open Go.RowKit



/-- a graph outside of one block -/
def RB (B : Nat) (w : World) (g : List Ce) (v : Value) : Prop := CellsOn w (fun k => k < w.heap.size ∧ k ≠ B) g v
theorem RB.cin {B : Nat} {w : World} {g : List Ce} {v : Value} (h : RB B w g v) : CIn w g v := CellsOn.mono h (fun _ h => h.1) (fun _ _ => rfl)
theorem RB.next {B : Nat} {w w' : World} {g : List Ce} {v : Value} (h : RB B w g v) (hb : Below w.heap.size w w') : RB B w' g v := CellsOn.mono h (fun _ h => ⟨Nat.lt_of_lt_of_le h.1 hb.size, h.2⟩) (fun k h => hb.block k h.1)
theorem RB.far {B : Nat} {w w' : World} {g : List Ce} {v : Value} (h : RB B w g v) (hf : ∀ k, k ≠ B → w'.heap[k]? = w.heap[k]?) (hs : w'.heap.size = w.heap.size) : RB B w' g v := CellsOn.mono h (fun _ h => ⟨by rw [hs]; exact h.1, h.2⟩) (fun k h => hf k h.2)
theorem RB.new {B m : Nat} {w : World} {g : List Ce} {v : Value} (h : CellsOn w (fun k => k < w.heap.size ∧ m ≤ k) g v) (hm : B < m) : RB B w g v := CellsOn.mono h (fun k hk => ⟨hk.1, by have := hk.2; omega⟩) (fun _ _ => rfl)
theorem RB.box {w : World} {g : List Ce} {v : Value} (h : CIn w g v) (o : Obj) : RB w.heap.size (w.alloc o) g v := CellsOn.mono h (fun k (hk : k < _) => ⟨by show k < (w.alloc o).heap.size; rw [Deep.nblk_alloc]; omega, by omega⟩) (fun k hk => Deep.blk_alloc_lt _ _ _ hk)
theorem Rn.col_g {y z : Rn} (tidy : Bool) (hg : z.g = y.g) (hr : z.root = y.root) : (z.col tidy).g = (y.col tidy).g ∧ (z.col tidy).root = (y.col tidy).root := by
  unfold Rn.col; rw [hg, hr]; exact ⟨rfl, rfl⟩
set_option maxRecDepth 100000 in
set_option maxHeartbeats 3200000 in
theorem specPeak_calls (ds : List Df) (t : Tr) (p c : Value) (f : Int) (tidy : Bool) (w : World) (hp : DIn w ds p) (hk : In w t.kids c) (ht : I64 t.op ∧ I64 t.num) :
    Calls Tryz.prog 26 #[p, .agg #[.int .i64 t.op, .int .i64 t.num, c], .int .i64 f, .bool tidy] w fun e w' => e = .returned (.tuple #[.int .i64 (pRun ds t f tidy).1, .int .i64 ((pRun ds t f tidy).2 : Int)]) ∧ Below w.heap.size w w' := by
  have HK : Hid (In w t.kids c) := hk
  have HP : Hid (DIn w ds p) := hp
  have HT := mkHid ht
  obtain ⟨ad, cap, rfl, -, -, -⟩ := hk
  obtain ⟨adp, capp, rfl, -, -, -⟩ := hp
  have HBX : Hid (Below w.heap.size w (w.alloc (.cells #[.int .i64 t.op, .int .i64 t.num, .slice ad t.kids.length cap] 48))) := box_below _ _
  clear ht
  go_enter Tryz.func26, Tryz.ntmps26
  go_wp2_with fail
  refine (specStart_calls ds t _ _ _ (HP.out.next HBX.out) (HK.out.next HBX.out) HT.out).mono ?_
  rintro e w1 ⟨gv, rfl, hk1, hb1⟩
  have HB1 : Hid (Below w.heap.size w w1) := HBX.out.trans (hb1.mono HBX.out.size)
  have hs1 := HB1.out.size
  clear hb1
  cases hr : closedB ds t with
  | false =>
    have HV : Hid (pRun ds t f tidy = (0, 4)) := by unfold Hid pRun; rw [if_neg (by rw [hr]; simp)]
    have hsx : sxO ds t = (rnZ, false) := by unfold sxO; rw [if_neg (by rw [hr]; simp)]
    rw [hsx] at hk1 ⊢
    obtain ⟨adz, capz, rfl, -, -, -⟩ := id hk1
    clear hsx hr hk1
    unfold rnC
    go_wp2_with fail
    go_ret2
    rw [HV.out]
    exact ⟨rfl, HB1.out.alloc hs1 _⟩
  | true =>
    have hsx : sxO ds t = (startX (addT [] t []).1 (addT [] t []).2, true) := by unfold sxO; rw [if_pos hr]
    have HSO := mkHid (start_run hr)
    have HPR := mkHid (start_ok hr).1
    have HCL := mkHid hr
    rw [hsx] at hk1 ⊢
    obtain ⟨x, hx⟩ : ∃ x, x = startX (addT [] t []).1 (addT [] t []).2 := ⟨_, rfl⟩
    have HXE := mkHid hx
    have HXB : Hid (x.Bd 400 ∧ x.Ok ds) := by rw [hx]; exact ⟨(RunRel.start (limit := 0) (tidy := false) (fuel := 0) HSO.out).bd.mono (by omega), HSO.out⟩
    dsimp only at hk1 ⊢
    rw [← hx] at hk1 ⊢
    obtain ⟨adz, capz, rfl, -, -, -⟩ := id hk1
    have HK1 := mkHid hk1
    clear hsx hr hk1 hx
    unfold rnC
    by_cases h0 : 0 ≤ f
    case neg =>
      have HV : Hid (pRun ds t f tidy = (0, 4)) := by unfold Hid pRun; rw [if_neg (by unfold fuelO; simp; omega)]
      have h0' : decide (0 ≤ f) = false := by simpa using h0
      have h0n : f < 0 := by omega
      go_wp2_with fail
      go_ret2
      rw [HV.out]
      exact ⟨rfl, HB1.out.alloc hs1 _⟩
    by_cases h3 : f ≤ 300
    case neg =>
      have HV : Hid (pRun ds t f tidy = (0, 4)) := by unfold Hid pRun; rw [if_neg (by unfold fuelO; simp; omega)]
      have h3' : decide (f ≤ 300) = false := by simpa using h3
      have h3n : 300 < f := by omega
      go_wp2_with fail
      go_ret2
      rw [HV.out]
      exact ⟨rfl, HB1.out.alloc hs1 _⟩
    obtain ⟨fu, rfl⟩ : ∃ fu : Nat, f = (fu : Int) := ⟨f.toNat, by omega⟩
    have hfu : fu ≤ 300 := by omega
    have HV : Hid (pRun ds t (fu : Int) tidy = pkE ds tidy fu x 0) := by
      unfold Hid pRun
      rw [if_pos ⟨HCL.out, by unfold fuelO; simp; omega⟩, HXE.out, Int.toNat_natCast]
    have HR : Hid (PkRel ds tidy x fu 0 x 0) := ⟨Nat.zero_le _, rfl, HXB.out.2, by rw [HXE.out]; rfl, by omega, HXB.out.1.mono (by omega)⟩
    obtain ⟨W, hW⟩ : ∃ W, W = w1.alloc (.cells #[.slice adz x.g.length capz, .int .i64 (x.root : Int), .int .i64 x.steps, .int .i64 x.moved, .int .i64 x.peak, .int .i64 x.ticks, .int .i64 x.rounds] 30) := ⟨_, rfl⟩
    have HXW : Hid (W.heap[w1.heap.size]? = some (.cells #[.slice adz x.g.length capz, .int .i64 (x.root : Int), .int .i64 x.steps, .int .i64 x.moved, .int .i64 x.peak, .int .i64 x.ticks, .int .i64 x.rounds] 30)) := by rw [hW]; exact Deep.blk_alloc_new _ _
    have HLW : Hid (w1.heap.size + 1 ≤ W.heap.size) := by rw [hW, Hid, Deep.nblk_alloc]; exact Nat.le_refl _
    have HBW : Hid (Below w.heap.size w W) := by rw [hW]; exact HB1.out.alloc hs1 _
    have HKW : Hid (RB w1.heap.size W x.g (.slice adz x.g.length capz)) := by rw [hW]; exact RB.box HK1.out _
    have HSW := mkHid hs1
    obtain ⟨B, hB⟩ : ∃ B, B = w1.heap.size := ⟨_, rfl⟩
    have hBw : w.heap.size ≤ B := by rw [hB]; exact hs1
    go_wp2_with fail
    rw [← hW]
    rw [← hB] at HXW HLW HKW ⊢
    clear hW hs1 hB h0 h3
    go_loopg [12, 13] (fu + 1) (fun k pk nv wr => ∃ (n : Nat) (y z : Rn) (m : Int) (ad : Option Addr) (cap : Nat), k = fu + 1 - n ∧ PkRel ds tidy x fu n y m ∧ pk = .int .i64 m ∧ nv = .int .i64 (n : Int) ∧ z.g = y.g ∧ z.root = y.root ∧ z.Bd (400 + 1000 * n) ∧ wr.heap[B]? = some (.cells #[(.slice ad z.g.length cap), .int .i64 (z.root : Int), .int .i64 z.steps, .int .i64 z.moved, .int .i64 z.peak, .int .i64 z.ticks, .int .i64 z.rounds] 30) ∧ B + 1 ≤ wr.heap.size ∧ Below w.heap.size w wr ∧ RB B wr z.g (.slice ad z.g.length cap))
    case atStart => exact ⟨0, x, x, 0, adz, capz, rfl, HR.out, rfl, rfl, rfl, rfl, HXB.out.1.mono (by omega), HXW.out, HLW.out, HBW.out, HKW.out⟩
    case round =>
      obtain ⟨n, y, z, m, ad2, cap2, rfl, hrel, rfl, rfl, hzg, hzr, hzb, hx, hl, hb, hk⟩ := hrel
      have HRL := mkHid hrel
      have HZ : Hid (z.g = y.g ∧ z.root = y.root) := ⟨hzg, hzr⟩
      have HZB := mkHid hzb
      have HOZ : Hid (z.Ok ds) := by unfold Hid Rn.Ok; rw [hzg, hzr]; exact hrel.ok
      have HXr := mkHid hx
      have HLr := mkHid hl
      have HBr := mkHid hb
      have HKr := mkHid hk
      have hnf := hrel.le
      have hm0 := hrel.m0
      clear hrel hzg hzr hzb hx hl hb hk
      have x0 := cell_of_blk HXr.out 0 _ rfl
      have x1 := cell_of_blk HXr.out 1 _ rfl
      have x2 := cell_of_blk HXr.out 2 _ rfl
      have x3 := cell_of_blk HXr.out 3 _ rfl
      have x4 := cell_of_blk HXr.out 4 _ rfl
      have x5 := cell_of_blk HXr.out 5 _ rfl
      have x6 := cell_of_blk HXr.out 6 _ rfl
      go_wp2_with fail
      clear x0 x1 x2 x3 x4 x5 x6
      refine (l6Collect_calls ds z tidy _ wr HKr.out.cin HOZ.out (HZB.out.mono (by omega))).mono ?_
      rintro e v1 ⟨gv1, rfl, hk1, hb1⟩
      obtain ⟨u, hu⟩ : ∃ u, u = z.col tidy := ⟨_, rfl⟩
      have HU : Hid (u.g = (y.col tidy).g ∧ u.root = (y.col tidy).root) := by rw [hu]; exact Rn.col_g tidy HZ.out.1 HZ.out.2
      have HUB : Hid (u.Bd (800 + 1000 * n)) := by rw [hu]; exact (HZB.out.col HOZ.out tidy).mono (by omega)
      have HUO : Hid (u.Ok ds) := by rw [hu]; exact HOZ.out.col tidy
      rw [← hu] at hk1 ⊢
      clear hu
      unfold rnC
      obtain ⟨ad1, cap1, rfl, -, -, -⟩ := id hk1
      have HK1' : Hid (RB B v1 u.g (.slice ad1 u.g.length cap1)) := RB.new hk1 (by have := HLr.out; omega)
      have HX1 := mkHid ((hb1.block _ (by have := HLr.out; omega)).trans HXr.out)
      have HL1 : Hid (B + 1 ≤ v1.heap.size) := Nat.le_trans HLr.out hb1.size
      have HBv1 : Hid (Below w.heap.size w v1) := HBr.out.trans (hb1.mono HBr.out.size)
      have HLN : Hid ((u.g.length : Int) ≤ 400 ∧ (y.top tidy m) = max m (u.g.length : Int)) := ⟨Int.ofNat_le.2 HUO.out.len, by rw [HU.out.1]; rfl⟩
      clear hk1 hb1
      have x0 := cell_of_blk HX1.out 0 _ rfl
      have x1 := cell_of_blk HX1.out 1 _ rfl
      have x2 := cell_of_blk HX1.out 2 _ rfl
      have x3 := cell_of_blk HX1.out 3 _ rfl
      have x4 := cell_of_blk HX1.out 4 _ rfl
      have x5 := cell_of_blk HX1.out 5 _ rfl
      have x6 := cell_of_blk HX1.out 6 _ rfl
      have fx := frz_of_blk HX1.out
      obtain ⟨q, hq⟩ : ∃ q, q = y.top tidy m := ⟨_, rfl⟩
      have HQ := mkHid hq
      have hgv : ∀ W2 : World, W2 = (((((((v1.setCell ⟨B, 0, none⟩ (.slice ad1 u.g.length cap1)).setCell ⟨B, 1, none⟩ (.int .i64 (u.root : Int))).setCell ⟨B, 2, none⟩ (.int .i64 u.steps)).setCell ⟨B, 3, none⟩ (.int .i64 u.moved)).setCell ⟨B, 4, none⟩ (.int .i64 u.peak)).setCell ⟨B, 5, none⟩ (.int .i64 u.ticks)).setCell ⟨B, 6, none⟩ (.int .i64 u.rounds)) → (W2.heap[B]? = some (.cells #[(.slice ad1 u.g.length cap1), .int .i64 (u.root : Int), .int .i64 u.steps, .int .i64 u.moved, .int .i64 u.peak, .int .i64 u.ticks, .int .i64 u.rounds] 30)) ∧ B + 1 ≤ W2.heap.size ∧ Below w.heap.size w W2 ∧ RB B W2 u.g (.slice ad1 u.g.length cap1) := by
        rintro W2 rfl
        exact ⟨st7_blk HX1.out, by rw [st7_size]; exact HL1.out, st7_below HBv1.out hBw, HK1'.out.far (fun k h => st7_far h) st7_size⟩
      have HGV := mkHid hgv
      clear hgv hq
      go_wp2_with fail
      · have hq2 : q = (u.g.length : Int) := by rw [HQ.out, HLN.out.2]; omega
        have hq0 : 0 ≤ q ∧ q ≤ 400 := by have := HLN.out.1; omega
        obtain ⟨W2, hW2⟩ : ∃ W2, W2 = (((((((v1.setCell ⟨B, 0, none⟩ (.slice ad1 u.g.length cap1)).setCell ⟨B, 1, none⟩ (.int .i64 (u.root : Int))).setCell ⟨B, 2, none⟩ (.int .i64 u.steps)).setCell ⟨B, 3, none⟩ (.int .i64 u.moved)).setCell ⟨B, 4, none⟩ (.int .i64 u.peak)).setCell ⟨B, 5, none⟩ (.int .i64 u.ticks)).setCell ⟨B, 6, none⟩ (.int .i64 u.rounds)) := ⟨_, rfl⟩
        obtain ⟨g1, g2, g3, g4⟩ := HGV.out W2 hW2
        rw [← hW2]
        have HX2 := mkHid g1
        have HL2 := mkHid g2
        have HB2 := mkHid g3
        have HK2 := mkHid g4
        clear hW2 g1 g2 g3 g4 x0 x1 x2 x3 x4 x5 x6 fx
        rw [← hq2]
        clear hq2
        refine (l4Value_calls ds u.g u.root _ _ W2 (HP.out.next HB2.out) HK2.out.cin HUO.out.1 HUO.out.2).mono ?_
        rintro e v2 ⟨rfl, hb⟩
        have HX3 := mkHid ((hb.block _ (by have := HL2.out; omega)).trans HX2.out)
        have HL3 : Hid (B + 1 ≤ v2.heap.size) := Nat.le_trans HL2.out hb.size
        have HB3 : Hid (Below w.heap.size w v2) := HB2.out.trans (hb.mono HB2.out.size)
        have HK3 : Hid (RB B v2 u.g (.slice ad1 u.g.length cap1)) := HK2.out.next hb
        clear hb
        have hval : valB (arsOf ds) u.g u.root = (y.col tidy).val ds := by unfold Rn.val; rw [HU.out.1, HU.out.2]
        rw [hval]
        clear hval
        cases hv : (y.col tidy).val ds with
        | true =>
          have HVE := mkHid (HRL.out.val hv)
          clear hv
          go_wp2_with fail
          go_ret2
          rw [HV.out, HVE.out, ← HQ.out]
          exact ⟨rfl, HB3.out⟩
        | false =>
          have HVF := mkHid hv
          clear hv
          by_cases hnn : n = fu
          · subst hnn
            have HVE := mkHid (HRL.out.fuel HVF.out)
            go_wp2_with fail
            go_ret2
            rw [HV.out, HVE.out, ← HQ.out]
            exact ⟨rfl, HB3.out⟩
          have hnlt : n < fu := by omega
          have tn : ((n : Int) == (fu : Int)) = false := by rw [beq_eq_false_iff_ne]; omega
          clear hnn
          have x0 := cell_of_blk HX3.out 0 _ rfl
          have x1 := cell_of_blk HX3.out 1 _ rfl
          go_wp2_with fail
          clear x0 x1 tn
          refine (l4Step_calls ds u.g u.root _ _ v2 (HP.out.next HB3.out) HK3.out.cin HUO.out.1 HPR.out HUO.out.2 (by have h := HVF.out; unfold Rn.val at h; rw [HU.out.1, HU.out.2]; exact h)).mono ?_
          rintro e v3 ⟨sv, rfl, hs, hb⟩
          have hcode : (stepG ds u.g u.root).2 = (y.col tidy).code ds := by unfold Rn.code; rw [HU.out.1, HU.out.2]
          have HGN : Hid ((stepG ds u.g u.root).1 = ((y.col tidy).step ds).g) := by unfold Rn.step; rw [HU.out.1, HU.out.2]; rfl
          obtain ⟨ads, caps, rfl, -, -, -⟩ := id hs
          have HX4 := mkHid ((hb.block _ (by have := HL3.out; omega)).trans HX3.out)
          have HL4 : Hid (B + 1 ≤ v3.heap.size) := Nat.le_trans HL3.out hb.size
          have HB4 : Hid (Below w.heap.size w v3) := HB3.out.trans (hb.mono HB3.out.size)
          by_cases hc : (y.col tidy).code ds = 0
          · have HN := mkHid (HRL.out.next HPR.out hnlt HVF.out hc)
            have HKS : Hid (RB B v3 (stepG ds u.g u.root).1 (.slice ads (stepG ds u.g u.root).1.length caps)) := RB.new (m := B + 1) (hs.mono (fun k hk => ⟨hk.1, Nat.le_trans HL3.out (hk.2 (by rw [hcode]; exact hc))⟩) (fun _ _ => rfl)) (Nat.lt_succ_self _)
            have e0 : (((stepG ds u.g u.root).2 : Nat) : Int) = 0 := by rw [hcode, hc]; rfl
            rw [e0]
            have x0 := cell_of_blk HX4.out 0 _ rfl
            have fx := frz_of_blk HX4.out
            clear hs hb hcode hc e0
            go_wp2_with fail
            go_roundg (fu + 1 - (n + 1))
            case rel =>
              refine ⟨n + 1, (y.col tidy).step ds, { u with g := (stepG ds u.g u.root).1 }, q, ads, caps, rfl, by have h := HN.out; rw [← HQ.out] at h; exact h, rfl, by go_num, HGN.out, by show u.root = _; rw [HU.out.2]; rfl, HUB.out.mono (by omega) |> fun h => ⟨h.1, h.2, h.3, h.4, h.5⟩, ?_, by rw [size_setCell]; exact HL4.out, HB4.out.setCell hBw _, HKS.out.far (fun k h => Below.heap_setCell _ _ _ _ h) (size_setCell _ _ _)⟩
              simp [World.setCell, Array.getElem?_modify, HX4.out]
            case measure => omega
          · have HVE := mkHid (HRL.out.bad hnlt HVF.out hc)
            have t0 : ((((y.col tidy).code ds : Nat) : Int) != 0) = true := by simp; exact hc
            rw [hcode]
            clear hs hb hcode hc
            go_wp2_with fail
            go_ret2
            rw [HV.out, HVE.out, ← HQ.out]
            exact ⟨rfl, HB4.out⟩
      · have hq2 : q = m := by rw [HQ.out, HLN.out.2]; omega
        have hq0 : 0 ≤ q ∧ q ≤ 400 := by have := HLN.out.1; omega
        obtain ⟨W2, hW2⟩ : ∃ W2, W2 = (((((((v1.setCell ⟨B, 0, none⟩ (.slice ad1 u.g.length cap1)).setCell ⟨B, 1, none⟩ (.int .i64 (u.root : Int))).setCell ⟨B, 2, none⟩ (.int .i64 u.steps)).setCell ⟨B, 3, none⟩ (.int .i64 u.moved)).setCell ⟨B, 4, none⟩ (.int .i64 u.peak)).setCell ⟨B, 5, none⟩ (.int .i64 u.ticks)).setCell ⟨B, 6, none⟩ (.int .i64 u.rounds)) := ⟨_, rfl⟩
        obtain ⟨g1, g2, g3, g4⟩ := HGV.out W2 hW2
        rw [← hW2]
        have HX2 := mkHid g1
        have HL2 := mkHid g2
        have HB2 := mkHid g3
        have HK2 := mkHid g4
        clear hW2 g1 g2 g3 g4 x0 x1 x2 x3 x4 x5 x6 fx
        rw [← hq2]
        clear hq2
        refine (l4Value_calls ds u.g u.root _ _ W2 (HP.out.next HB2.out) HK2.out.cin HUO.out.1 HUO.out.2).mono ?_
        rintro e v2 ⟨rfl, hb⟩
        have HX3 := mkHid ((hb.block _ (by have := HL2.out; omega)).trans HX2.out)
        have HL3 : Hid (B + 1 ≤ v2.heap.size) := Nat.le_trans HL2.out hb.size
        have HB3 : Hid (Below w.heap.size w v2) := HB2.out.trans (hb.mono HB2.out.size)
        have HK3 : Hid (RB B v2 u.g (.slice ad1 u.g.length cap1)) := HK2.out.next hb
        clear hb
        have hval : valB (arsOf ds) u.g u.root = (y.col tidy).val ds := by unfold Rn.val; rw [HU.out.1, HU.out.2]
        rw [hval]
        clear hval
        cases hv : (y.col tidy).val ds with
        | true =>
          have HVE := mkHid (HRL.out.val hv)
          clear hv
          go_wp2_with fail
          go_ret2
          rw [HV.out, HVE.out, ← HQ.out]
          exact ⟨rfl, HB3.out⟩
        | false =>
          have HVF := mkHid hv
          clear hv
          by_cases hnn : n = fu
          · subst hnn
            have HVE := mkHid (HRL.out.fuel HVF.out)
            go_wp2_with fail
            go_ret2
            rw [HV.out, HVE.out, ← HQ.out]
            exact ⟨rfl, HB3.out⟩
          have hnlt : n < fu := by omega
          have tn : ((n : Int) == (fu : Int)) = false := by rw [beq_eq_false_iff_ne]; omega
          clear hnn
          have x0 := cell_of_blk HX3.out 0 _ rfl
          have x1 := cell_of_blk HX3.out 1 _ rfl
          go_wp2_with fail
          clear x0 x1 tn
          refine (l4Step_calls ds u.g u.root _ _ v2 (HP.out.next HB3.out) HK3.out.cin HUO.out.1 HPR.out HUO.out.2 (by have h := HVF.out; unfold Rn.val at h; rw [HU.out.1, HU.out.2]; exact h)).mono ?_
          rintro e v3 ⟨sv, rfl, hs, hb⟩
          have hcode : (stepG ds u.g u.root).2 = (y.col tidy).code ds := by unfold Rn.code; rw [HU.out.1, HU.out.2]
          have HGN : Hid ((stepG ds u.g u.root).1 = ((y.col tidy).step ds).g) := by unfold Rn.step; rw [HU.out.1, HU.out.2]; rfl
          obtain ⟨ads, caps, rfl, -, -, -⟩ := id hs
          have HX4 := mkHid ((hb.block _ (by have := HL3.out; omega)).trans HX3.out)
          have HL4 : Hid (B + 1 ≤ v3.heap.size) := Nat.le_trans HL3.out hb.size
          have HB4 : Hid (Below w.heap.size w v3) := HB3.out.trans (hb.mono HB3.out.size)
          by_cases hc : (y.col tidy).code ds = 0
          · have HN := mkHid (HRL.out.next HPR.out hnlt HVF.out hc)
            have HKS : Hid (RB B v3 (stepG ds u.g u.root).1 (.slice ads (stepG ds u.g u.root).1.length caps)) := RB.new (m := B + 1) (hs.mono (fun k hk => ⟨hk.1, Nat.le_trans HL3.out (hk.2 (by rw [hcode]; exact hc))⟩) (fun _ _ => rfl)) (Nat.lt_succ_self _)
            have e0 : (((stepG ds u.g u.root).2 : Nat) : Int) = 0 := by rw [hcode, hc]; rfl
            rw [e0]
            have x0 := cell_of_blk HX4.out 0 _ rfl
            have fx := frz_of_blk HX4.out
            clear hs hb hcode hc e0
            go_wp2_with fail
            go_roundg (fu + 1 - (n + 1))
            case rel =>
              refine ⟨n + 1, (y.col tidy).step ds, { u with g := (stepG ds u.g u.root).1 }, q, ads, caps, rfl, by have h := HN.out; rw [← HQ.out] at h; exact h, rfl, by go_num, HGN.out, by show u.root = _; rw [HU.out.2]; rfl, HUB.out.mono (by omega) |> fun h => ⟨h.1, h.2, h.3, h.4, h.5⟩, ?_, by rw [size_setCell]; exact HL4.out, HB4.out.setCell hBw _, HKS.out.far (fun k h => Below.heap_setCell _ _ _ _ h) (size_setCell _ _ _)⟩
              simp [World.setCell, Array.getElem?_modify, HX4.out]
            case measure => omega
          · have HVE := mkHid (HRL.out.bad hnlt HVF.out hc)
            have t0 : ((((y.col tidy).code ds : Nat) : Int) != 0) = true := by simp; exact hc
            rw [hcode]
            clear hs hb hcode hc
            go_wp2_with fail
            go_ret2
            rw [HV.out, HVE.out, ← HQ.out]
            exact ⟨rfl, HB4.out⟩
end Go.Proofs.YtidijbnoaeopdaaGreatDoor
