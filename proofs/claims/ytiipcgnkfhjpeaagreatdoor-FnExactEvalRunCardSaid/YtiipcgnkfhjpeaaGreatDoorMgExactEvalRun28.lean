/-
  THE MODEL's l6Eval.
-/
import Derived.Test.YtiipcgnkfhjpeaaGreatDoorMgExactEvalRun27
import Derived.Deep.LoopGhost
import Derived.Test.YtiipcgnkfhjpeaaGreatDoorMgExactEvalRun1
import Derived.Test.YtiipcgnkfhjpeaaGreatDoorProg
import Derived.Deep.RegionHeld3
import Derived.Deep.RegionWith
import Derived.Deep.DeepMust
import Derived.BigRegion
import Derived.Test.YtiipcgnkfhjpeaaGreatDoorMgExactEvalRun12
import Derived.Test.YtiipcgnkfhjpeaaGreatDoorMgExactEvalRun16
import Derived.Test.YtiipcgnkfhjpeaaGreatDoorMgExactEvalRun8
import Derived.Test.YtiipcgnkfhjpeaaGreatDoorMgExactEvalRun14
import Derived.Test.YtiipcgnkfhjpeaaGreatDoorMgExactEvalRun17
namespace Go.Proofs.YtiipcgnkfhjpeaaGreatDoor
set_option linter.unusedVariables false
set_option linter.unusedSimpArgs false
open Go.RowKit



set_option maxRecDepth 100000 in
set_option maxHeartbeats 3200000 in
theorem l6Eval_calls (ds : List Df) (x : Rn) (c gv : Value) (fuel : Nat) (limit : Int) (tidy : Bool) (w : World) (hd : DIn w ds c) (hk : CIn w x.g gv) (hp : progB ds = true) (hf : fuel ≤ 300) (hr : RunRel ds limit tidy x fuel 0 x) :
    Calls Tryz.prog 45 #[c, .agg (rnC gv x), .int .i64 (fuel : Int), .int .i64 limit, .bool tidy] w (GotRC (runE ds limit tidy fuel x) w) := by
  have HD := mkHid hd
  have HP := mkHid hp
  have HR := mkHid hr
  obtain ⟨adc, capc, rfl, -, -, -⟩ := hd
  obtain ⟨T, hT, hk⟩ : ∃ T : Nat → Prop, (∀ k, T k → k < w.heap.size) ∧ CellsOn w T x.g gv := ⟨Lt w.heap.size, fun _ h => h, hk⟩
  have HTS := mkHid hT
  clear hT hp hr
  obtain ⟨adg, capg, rfl, -, -, -⟩ := id hk
  obtain ⟨W, hW⟩ : ∃ W, W = (w.alloc (.cells #[.slice adg x.g.length capg, .int .i64 (x.root : Int), .int .i64 x.steps, .int .i64 x.moved, .int .i64 x.peak, .int .i64 x.ticks, .int .i64 x.rounds] 30)).alloc (.cells #[.slice none 0 0, .int .i64 0, .int .i64 0, .int .i64 0, .int .i64 0, .int .i64 0, .int .i64 0] 30) := ⟨_, rfl⟩
  have HB_W : Hid (Below w.heap.size w W) := by rw [hW]; exact (box_below _ _).alloc (by rw [Deep.nblk_alloc]; omega) _
  have HX_W : Hid (W.heap[w.heap.size]? = some (.cells #[.slice adg x.g.length capg, .int .i64 (x.root : Int), .int .i64 x.steps, .int .i64 x.moved, .int .i64 x.peak, .int .i64 x.ticks, .int .i64 x.rounds] 30)) := by
    rw [hW]; exact (Deep.blk_alloc_lt _ _ _ (by rw [Deep.nblk_alloc]; omega)).trans (Deep.blk_alloc_new _ _)
  have HY_W : Hid (W.heap[w.heap.size + 1]? = some (.cells #[.slice none 0 0, .int .i64 0, .int .i64 0, .int .i64 0, .int .i64 0, .int .i64 0, .int .i64 0] 30)) := by
    have h := Deep.blk_alloc_new (w.alloc (.cells #[.slice adg x.g.length capg, .int .i64 (x.root : Int), .int .i64 x.steps, .int .i64 x.moved, .int .i64 x.peak, .int .i64 x.ticks, .int .i64 x.rounds] 30)) (.cells #[.slice none 0 0, .int .i64 0, .int .i64 0, .int .i64 0, .int .i64 0, .int .i64 0, .int .i64 0] 30)
    rw [Deep.nblk_alloc] at h
    rw [hW]; exact h
  have HL_W : Hid (w.heap.size + 2 ≤ W.heap.size) := by rw [hW, Hid, Deep.nblk_alloc, Deep.nblk_alloc]; exact Nat.le_refl _
  have HK_W : Hid (RIn T w.heap.size W x.g (.slice adg x.g.length capg)) := RIn.old hk HTS.out HB_W.out
  clear hk
  unfold rnC
  go_enter Tryz.func45, Tryz.ntmps45
  go_wp2_with fail
  rw [← hW]
  clear hW
  go_loopg [] (fuel + 1) (fun k wr => ∃ (n : Nat) (y : Rn) (ad : Option Addr) (cap : Nat), k = fuel + 1 - n ∧ RunRel ds limit tidy x fuel n y ∧ wr.heap[w.heap.size]? = some (.cells #[(.slice ad y.g.length cap), .int .i64 (y.root : Int), .int .i64 y.steps, .int .i64 y.moved, .int .i64 y.peak, .int .i64 y.ticks, .int .i64 y.rounds] 30) ∧ wr.heap[w.heap.size + 1]? = some (.cells #[.slice none 0 0, .int .i64 0, .int .i64 0, .int .i64 0, .int .i64 0, .int .i64 0, .int .i64 0] 30) ∧ w.heap.size + 2 ≤ wr.heap.size ∧ Below w.heap.size w wr ∧ RIn T w.heap.size wr y.g (.slice ad y.g.length cap))
  case atStart => exact ⟨0, x, adg, capg, rfl, HR.out, HX_W.out, HY_W.out, HL_W.out, HB_W.out, HK_W.out⟩
  case round =>
    obtain ⟨n, y, ad, cap, rfl, hrel, hx, hy, hl, hb, hk⟩ := hrel
    have HRL := mkHid hrel
    have HX_wr := mkHid hx
    have HY_wr := mkHid hy
    have HL_wr := mkHid hl
    have HB_wr := mkHid hb
    have HK_wr := mkHid hk
    have hnf := hrel.le
    clear hrel hx hy hl hb hk
    have x0 := cell_of_blk HX_wr.out 0 _ rfl
    have x1 := cell_of_blk HX_wr.out 1 _ rfl
    have x2 := cell_of_blk HX_wr.out 2 _ rfl
    have x3 := cell_of_blk HX_wr.out 3 _ rfl
    have x4 := cell_of_blk HX_wr.out 4 _ rfl
    have x5 := cell_of_blk HX_wr.out 5 _ rfl
    have x6 := cell_of_blk HX_wr.out 6 _ rfl
    have fx := frz_of_blk HX_wr.out
    go_wp2_with fail
    clear x0 x1 x2 x3 x4 x5 x6 fx
    refine (l4Value_calls ds y.g y.root _ _ wr (HD.out.next HB_wr.out) HK_wr.out.cin HRL.out.ok.1 HRL.out.ok.2).mono ?_
    rintro e v1 ⟨rfl, hb⟩
    have HX_v1 := mkHid ((hb.block _ (by have := HL_wr.out; omega)).trans HX_wr.out)
    have HY_v1 := mkHid ((hb.block _ (by have := HL_wr.out; omega)).trans HY_wr.out)
    have HL_v1 : Hid (w.heap.size + 2 ≤ v1.heap.size) := Nat.le_trans HL_wr.out hb.size
    have HB_v1 : Hid (Below w.heap.size w v1) := HB_wr.out.trans (hb.mono HB_wr.out.size)
    have HK_v1 : Hid (RIn T w.heap.size v1 y.g (.slice ad y.g.length cap)) := HK_wr.out.next hb
    clear hb
    cases hv : y.val ds with
    | true =>
      have HV := mkHid (HRL.out.val hv)
      have e1 : valB (arsOf ds) y.g y.root = true := hv
      rw [e1]
      clear hv e1
      have x0 := cell_of_blk HX_v1.out 0 _ rfl
      have x1 := cell_of_blk HX_v1.out 1 _ rfl
      have x2 := cell_of_blk HX_v1.out 2 _ rfl
      have x3 := cell_of_blk HX_v1.out 3 _ rfl
      have x4 := cell_of_blk HX_v1.out 4 _ rfl
      have x5 := cell_of_blk HX_v1.out 5 _ rfl
      have x6 := cell_of_blk HX_v1.out 6 _ rfl
      have fx := frz_of_blk HX_v1.out
      have y0 := cell_of_blk HY_v1.out 0 _ rfl
      have y1 := cell_of_blk HY_v1.out 1 _ rfl
      have y2 := cell_of_blk HY_v1.out 2 _ rfl
      have y3 := cell_of_blk HY_v1.out 3 _ rfl
      have y4 := cell_of_blk HY_v1.out 4 _ rfl
      have y5 := cell_of_blk HY_v1.out 5 _ rfl
      have y6 := cell_of_blk HY_v1.out 6 _ rfl
      have fy := frz_of_blk HY_v1.out
      go_wp2_with fail
      refine bodyPost_ret (v := .tuple #[.agg #[(.slice ad y.g.length cap), .int .i64 (y.root : Int), .int .i64 y.steps, .int .i64 y.moved, .int .i64 y.peak, .int .i64 y.ticks, .int .i64 y.rounds], .int .i64 0]) (by simp [results, Tryz.results45, go_sem, y0, y1, y2, y3, y4, y5, y6, fy]) rfl ?_
      rw [HV.out]
      exact ⟨_, rfl, (RIn.far (HK_v1.out) (fun k h1 h2 => st7_far h2) st7_size).cin, st7_below HB_v1.out (by omega)⟩
    | false =>
      have HVF := mkHid hv
      have e1 : valB (arsOf ds) y.g y.root = false := hv
      rw [e1]
      clear hv e1
      by_cases hnn : n = fuel
      · subst hnn
        have HV := mkHid (HRL.out.fuel HVF.out)
        have ht := HRL.out.ticks
        have x0 := cell_of_blk HX_v1.out 0 _ rfl
        have x1 := cell_of_blk HX_v1.out 1 _ rfl
        have x2 := cell_of_blk HX_v1.out 2 _ rfl
        have x3 := cell_of_blk HX_v1.out 3 _ rfl
        have x4 := cell_of_blk HX_v1.out 4 _ rfl
        have x5 := cell_of_blk HX_v1.out 5 _ rfl
        have x6 := cell_of_blk HX_v1.out 6 _ rfl
        have fx := frz_of_blk HX_v1.out
        have y0 := cell_of_blk HY_v1.out 0 _ rfl
        have y1 := cell_of_blk HY_v1.out 1 _ rfl
        have y2 := cell_of_blk HY_v1.out 2 _ rfl
        have y3 := cell_of_blk HY_v1.out 3 _ rfl
        have y4 := cell_of_blk HY_v1.out 4 _ rfl
        have y5 := cell_of_blk HY_v1.out 5 _ rfl
        have y6 := cell_of_blk HY_v1.out 6 _ rfl
        have fy := frz_of_blk HY_v1.out
        have tq : (y.ticks == (n : Int)) = true := by rw [ht]; simp
        clear ht
        go_wp2_with fail
        refine bodyPost_ret (v := .tuple #[.agg #[(.slice ad y.g.length cap), .int .i64 (y.root : Int), .int .i64 y.steps, .int .i64 y.moved, .int .i64 y.peak, .int .i64 y.ticks, .int .i64 y.rounds], .int .i64 1]) (by simp [results, Tryz.results45, go_sem, y0, y1, y2, y3, y4, y5, y6, fy]) rfl ?_
        rw [HV.out]
        exact ⟨_, rfl, (RIn.far (HK_v1.out) (fun k h1 h2 => st7_far h2) st7_size).cin, st7_below HB_v1.out (by omega)⟩
      have hnlt : n < fuel := by omega
      have ht := HRL.out.ticks
      have tn : (y.ticks == (fuel : Int)) = false := by rw [beq_eq_false_iff_ne]; omega
      clear hnn ht
      have x0 := cell_of_blk HX_v1.out 0 _ rfl
      have x1 := cell_of_blk HX_v1.out 1 _ rfl
      have x2 := cell_of_blk HX_v1.out 2 _ rfl
      have x3 := cell_of_blk HX_v1.out 3 _ rfl
      have x4 := cell_of_blk HX_v1.out 4 _ rfl
      have x5 := cell_of_blk HX_v1.out 5 _ rfl
      have x6 := cell_of_blk HX_v1.out 6 _ rfl
      have fx := frz_of_blk HX_v1.out
      have y0 := cell_of_blk HY_v1.out 0 _ rfl
      have y1 := cell_of_blk HY_v1.out 1 _ rfl
      have y2 := cell_of_blk HY_v1.out 2 _ rfl
      have y3 := cell_of_blk HY_v1.out 3 _ rfl
      have y4 := cell_of_blk HY_v1.out 4 _ rfl
      have y5 := cell_of_blk HY_v1.out 5 _ rfl
      have y6 := cell_of_blk HY_v1.out 6 _ rfl
      have fy := frz_of_blk HY_v1.out
      go_wp2_with fail
      clear tn
      clear x0 x1 x2 x3 x4 x5 x6 fx y0 y1 y2 y3 y4 y5 y6 fy
      refine (l6Step_calls ds y _ _ limit tidy v1 (fun k => k < v1.heap.size ∧ k ≠ w.heap.size ∧ k ≠ w.heap.size + 1 ∧ (k < w.heap.size → T k)) (HD.out.next HB_v1.out) HK_v1.out (fun _ h => h.1) HRL.out.ok HP.out (HRL.out.bd.mono (by omega)) HVF.out (by have := HRL.out.rounds; omega)).mono ?_
      rintro e v2 ⟨gv2, rfl, hk2, hb⟩
      obtain ⟨z, hz⟩ : ∃ z, z = (y.tick ds limit tidy).1 := ⟨_, rfl⟩
      have HZ := mkHid hz
      have HZT : Hid (z.ticks = n) := by rw [hz, Hid, Rn.ticks_tick]; exact HRL.out.ticks
      have HMO : Hid (y.more ds limit tidy = { z with ticks := z.ticks + 1 }) := by unfold Hid Rn.more Rn.tk; rw [HZT.out, HRL.out.ticks, hz]
      rw [← hz] at hk2 ⊢
      clear hz
      obtain ⟨adz, capz, rfl, -, -, -⟩ := id hk2
      unfold rnC
      have HKZ : Hid (RIn T w.heap.size v2 z.g (.slice adz z.g.length capz)) := CellsOn.mono hk2 (fun k hk => by
        have hL := HL_v1.out
        refine ⟨hk.1, ?_, ?_, ?_⟩
        · intro h; exact (hk.2 (by omega)).2.1 h
        · intro h; exact (hk.2 (by omega)).2.2.1 h
        · intro h; exact (hk.2 (by omega)).2.2.2 h) (fun _ _ => rfl)
      have HX_v2 := mkHid ((hb.block _ (by have := HL_v1.out; omega)).trans HX_v1.out)
      have HY_v2 := mkHid ((hb.block _ (by have := HL_v1.out; omega)).trans HY_v1.out)
      have HL_v2 : Hid (w.heap.size + 2 ≤ v2.heap.size) := Nat.le_trans HL_v1.out hb.size
      have HB_v2 : Hid (Below w.heap.size w v2) := HB_v1.out.trans (hb.mono HB_v1.out.size)
      clear hb hk2
      obtain ⟨v3, hv3⟩ : ∃ v3, v3 = v2.alloc (.cells #[(.slice adz z.g.length capz), .int .i64 (z.root : Int), .int .i64 z.steps, .int .i64 z.moved, .int .i64 z.peak, .int .i64 z.ticks, .int .i64 z.rounds] 30) := ⟨_, rfl⟩
      have HBA : Hid (Below v2.heap.size v2 v3) := by rw [hv3]; exact box_below _ _
      have HKZ3 : Hid (RIn T w.heap.size v3 z.g (.slice adz z.g.length capz)) := HKZ.out.next HBA.out
      have HX_v3 := mkHid ((HBA.out.block _ (by have := HL_v2.out; omega)).trans HX_v2.out)
      have HY_v3 := mkHid ((HBA.out.block _ (by have := HL_v2.out; omega)).trans HY_v2.out)
      have HL_v3 : Hid (w.heap.size + 2 ≤ v3.heap.size) := Nat.le_trans HL_v2.out HBA.out.size
      have HB_v3 : Hid (Below w.heap.size w v3) := HB_v2.out.trans (HBA.out.mono HB_v2.out.size)
      have HX5 : Hid (((((((((v3.setCell ⟨w.heap.size, 0, none⟩ (.slice adz z.g.length capz)).setCell ⟨w.heap.size, 1, none⟩ (.int .i64 (z.root : Int))).setCell ⟨w.heap.size, 2, none⟩ (.int .i64 z.steps)).setCell ⟨w.heap.size, 3, none⟩ (.int .i64 z.moved)).setCell ⟨w.heap.size, 4, none⟩ (.int .i64 z.peak)).setCell ⟨w.heap.size, 5, none⟩ (.int .i64 z.ticks)).setCell ⟨w.heap.size, 6, none⟩ (.int .i64 z.rounds)).setCell ⟨w.heap.size, 5, none⟩ (.int .i64 (z.ticks + 1))).heap[w.heap.size]? = some (.cells #[(.slice adz z.g.length capz), .int .i64 (z.root : Int), .int .i64 z.steps, .int .i64 z.moved, .int .i64 z.peak, .int .i64 (z.ticks + 1), .int .i64 z.rounds] 30)) := st8_blk HX_v3.out
      have HF5 : Hid (∀ k, k ≠ w.heap.size → ((((((((v3.setCell ⟨w.heap.size, 0, none⟩ (.slice adz z.g.length capz)).setCell ⟨w.heap.size, 1, none⟩ (.int .i64 (z.root : Int))).setCell ⟨w.heap.size, 2, none⟩ (.int .i64 z.steps)).setCell ⟨w.heap.size, 3, none⟩ (.int .i64 z.moved)).setCell ⟨w.heap.size, 4, none⟩ (.int .i64 z.peak)).setCell ⟨w.heap.size, 5, none⟩ (.int .i64 z.ticks)).setCell ⟨w.heap.size, 6, none⟩ (.int .i64 z.rounds)).setCell ⟨w.heap.size, 5, none⟩ (.int .i64 (z.ticks + 1))).heap[k]? = v3.heap[k]?) := fun k hk => (Below.heap_setCell _ _ _ _ hk).trans (st7_far hk)
      have HS5 : Hid (((((((((v3.setCell ⟨w.heap.size, 0, none⟩ (.slice adz z.g.length capz)).setCell ⟨w.heap.size, 1, none⟩ (.int .i64 (z.root : Int))).setCell ⟨w.heap.size, 2, none⟩ (.int .i64 z.steps)).setCell ⟨w.heap.size, 3, none⟩ (.int .i64 z.moved)).setCell ⟨w.heap.size, 4, none⟩ (.int .i64 z.peak)).setCell ⟨w.heap.size, 5, none⟩ (.int .i64 z.ticks)).setCell ⟨w.heap.size, 6, none⟩ (.int .i64 z.rounds)).setCell ⟨w.heap.size, 5, none⟩ (.int .i64 (z.ticks + 1))).heap.size = v3.heap.size) := (size_setCell _ _ _).trans st7_size
      have HB5 : Hid (Below w.heap.size w ((((((((v3.setCell ⟨w.heap.size, 0, none⟩ (.slice adz z.g.length capz)).setCell ⟨w.heap.size, 1, none⟩ (.int .i64 (z.root : Int))).setCell ⟨w.heap.size, 2, none⟩ (.int .i64 z.steps)).setCell ⟨w.heap.size, 3, none⟩ (.int .i64 z.moved)).setCell ⟨w.heap.size, 4, none⟩ (.int .i64 z.peak)).setCell ⟨w.heap.size, 5, none⟩ (.int .i64 z.ticks)).setCell ⟨w.heap.size, 6, none⟩ (.int .i64 z.rounds)).setCell ⟨w.heap.size, 5, none⟩ (.int .i64 (z.ticks + 1)))) := (st7_below HB_v3.out (Nat.le_refl _)).setCell (Nat.le_refl _) _
      have HK5 : Hid (RIn T w.heap.size ((((((((v3.setCell ⟨w.heap.size, 0, none⟩ (.slice adz z.g.length capz)).setCell ⟨w.heap.size, 1, none⟩ (.int .i64 (z.root : Int))).setCell ⟨w.heap.size, 2, none⟩ (.int .i64 z.steps)).setCell ⟨w.heap.size, 3, none⟩ (.int .i64 z.moved)).setCell ⟨w.heap.size, 4, none⟩ (.int .i64 z.peak)).setCell ⟨w.heap.size, 5, none⟩ (.int .i64 z.ticks)).setCell ⟨w.heap.size, 6, none⟩ (.int .i64 z.rounds)).setCell ⟨w.heap.size, 5, none⟩ (.int .i64 (z.ticks + 1))) z.g (.slice adz z.g.length capz)) := HKZ3.out.far (fun k h1 h2 => HF5.out k h1) HS5.out
      have HY5 : Hid (((((((((v3.setCell ⟨w.heap.size, 0, none⟩ (.slice adz z.g.length capz)).setCell ⟨w.heap.size, 1, none⟩ (.int .i64 (z.root : Int))).setCell ⟨w.heap.size, 2, none⟩ (.int .i64 z.steps)).setCell ⟨w.heap.size, 3, none⟩ (.int .i64 z.moved)).setCell ⟨w.heap.size, 4, none⟩ (.int .i64 z.peak)).setCell ⟨w.heap.size, 5, none⟩ (.int .i64 z.ticks)).setCell ⟨w.heap.size, 6, none⟩ (.int .i64 z.rounds)).setCell ⟨w.heap.size, 5, none⟩ (.int .i64 (z.ticks + 1))).heap[w.heap.size + 1]? = some (.cells #[.slice none 0 0, .int .i64 0, .int .i64 0, .int .i64 0, .int .i64 0, .int .i64 0, .int .i64 0] 30)) := (HF5.out _ (by omega)).trans HY_v3.out
      have hzt : 0 ≤ z.ticks ∧ z.ticks ≤ 300 := by rw [HZT.out]; omega
      have x0 := cell_of_blk HX_v3.out 0 _ rfl
      have y0 := cell_of_blk HY_v3.out 0 _ rfl
      have x1 := cell_of_blk HX_v3.out 1 _ rfl
      have y1 := cell_of_blk HY_v3.out 1 _ rfl
      have x2 := cell_of_blk HX_v3.out 2 _ rfl
      have y2 := cell_of_blk HY_v3.out 2 _ rfl
      have x3 := cell_of_blk HX_v3.out 3 _ rfl
      have y3 := cell_of_blk HY_v3.out 3 _ rfl
      have x4 := cell_of_blk HX_v3.out 4 _ rfl
      have y4 := cell_of_blk HY_v3.out 4 _ rfl
      have x5 := cell_of_blk HX_v3.out 5 _ rfl
      have y5 := cell_of_blk HY_v3.out 5 _ rfl
      have x6 := cell_of_blk HX_v3.out 6 _ rfl
      have y6 := cell_of_blk HY_v3.out 6 _ rfl
      have fx := frz_of_blk HX_v3.out
      have fy := frz_of_blk HY_v3.out
      rw [hv3] at x0 y0 x1 y1 x2 y2 x3 y3 x4 y4 x5 y5 x6 y6 fx fy
      by_cases hc : (y.tick ds limit tidy).2 = 0
      · have HN := mkHid (HRL.out.next HP.out hnlt HVF.out hc)
        have e0 : (((y.tick ds limit tidy).2 : Nat) : Int) = 0 := by rw [hc]; rfl
        rw [e0]
        clear hc e0
        go_wp2_with fail
        rw [← hv3]
        clear hv3
        go_roundg (fuel + 1 - (n + 1))
        case rel => exact ⟨n + 1, _, adz, capz, rfl, HN.out, by rw [HMO.out]; exact HX5.out, HY5.out, by rw [HS5.out]; exact HL_v3.out, HB5.out, by rw [HMO.out]; exact HK5.out⟩
        case measure => omega
      · have HV := mkHid (HRL.out.bad hnlt HVF.out hc)
        have t0 : ((((y.tick ds limit tidy).2 : Nat) : Int) != 0) = true := by simp; exact hc
        clear hc
        go_upto_region 8 with fail
        rw [← hv3]
        clear x0 y0 x1 y1 x2 y2 x3 y3 x4 y4 x5 y5 x6 y6 fx fy
        generalize ((((((((v3.setCell ⟨w.heap.size, 0, none⟩ (.slice adz z.g.length capz)).setCell ⟨w.heap.size, 1, none⟩ (.int .i64 (z.root : Int))).setCell ⟨w.heap.size, 2, none⟩ (.int .i64 z.steps)).setCell ⟨w.heap.size, 3, none⟩ (.int .i64 z.moved)).setCell ⟨w.heap.size, 4, none⟩ (.int .i64 z.peak)).setCell ⟨w.heap.size, 5, none⟩ (.int .i64 z.ticks)).setCell ⟨w.heap.size, 6, none⟩ (.int .i64 z.rounds)).setCell ⟨w.heap.size, 5, none⟩ (.int .i64 (z.ticks + 1))) = v5 at HX5 HF5 HS5 HB5 HK5 HY5 ⊢
        have z0 := cell_of_blk HY5.out 0 _ rfl
        have z1 := cell_of_blk HY5.out 1 _ rfl
        have z2 := cell_of_blk HY5.out 2 _ rfl
        have z3 := cell_of_blk HY5.out 3 _ rfl
        have z4 := cell_of_blk HY5.out 4 _ rfl
        have z5 := cell_of_blk HY5.out 5 _ rfl
        have z6 := cell_of_blk HY5.out 6 _ rfl
        have x0 := cell_of_blk HX5.out 0 _ rfl
        have x1 := cell_of_blk HX5.out 1 _ rfl
        have x2 := cell_of_blk HX5.out 2 _ rfl
        have x3 := cell_of_blk HX5.out 3 _ rfl
        have x4 := cell_of_blk HX5.out 4 _ rfl
        have x5 := cell_of_blk HX5.out 5 _ rfl
        have x6 := cell_of_blk HX5.out 6 _ rfl
        have fz := frz_of_blk HY5.out
        go_wp2_with fail
        clear hv3
        refine bodyPost_ret (v := .tuple #[.agg #[(.slice adz z.g.length capz), .int .i64 (z.root : Int), .int .i64 z.steps, .int .i64 z.moved, .int .i64 z.peak, .int .i64 (z.ticks + 1), .int .i64 z.rounds], .int .i64 ((y.tick ds limit tidy).2 : Int)]) (by simp [results, Tryz.results45, go_sem, z0, z1, z2, z3, z4, z5, z6, fz]) rfl ?_
        rw [HV.out, HMO.out]
        exact ⟨_, rfl, (RIn.far HK5.out (fun k h1 h2 => st7_far h2) st7_size).cin, st7_below HB5.out (by omega)⟩
end Go.Proofs.YtiipcgnkfhjpeaaGreatDoor
/-
  slices.Reverse AT A ROW OF EXPRESSIONS: the elements' cells, turned around; nothing else is changed.
-/
namespace Go.Proofs.YtiipcgnkfhjpeaaGreatDoor
set_option linter.unusedVariables false
set_option linter.unusedSimpArgs false
open Go.RowKit

end Go.Proofs.YtiipcgnkfhjpeaaGreatDoor
/-
  THE PROGRAM's unwind: the function of nested applications, and its arguments in order; nothing that was there is changed.
-/
namespace Go.Proofs.YtiipcgnkfhjpeaaGreatDoor
set_option linter.unusedVariables false
set_option linter.unusedSimpArgs false
open Go.RowKit

/-- a row of cards, in new memory -/
def CdRow (w : World) (lo : Nat) (l : List Cd) (v : Value) : Prop :=
  (l = [] ∧ v = .slice none 0 0) ∨ ∃ g cap f, v = .slice (some ⟨g, 0, none⟩) l.length cap ∧ lo ≤ g ∧ l.length ≤ cap ∧ cap ≤ maxLen ∧ w.rowIs g 48 (cap * 3) f ∧
    ∀ j (hj : j < l.length), f (j * 3) = l[j].2.1 ∧ f (j * 3 + 1) = l[j].2.2.1 ∧ f (j * 3 + 2) = l[j].2.2.2

theorem CdRow.keep {w w' : World} {lo lo' : Nat} {l : List Cd} {v : Value} (h : CdRow w lo l v) (hl : lo' ≤ lo) (hk : ∀ k, lo ≤ k → k < w.heap.size → w'.heap[k]? = w.heap[k]?) : CdRow w' lo' l v := by
  rcases h with h | ⟨g, cap, f, e, hg, hn, hc, hr, hv⟩
  · exact Or.inl h
  · exact Or.inr ⟨g, cap, f, e, Nat.le_trans hl hg, hn, hc, hr.of_block (hk g hg hr.lt), hv⟩
end Go.Proofs.YtiipcgnkfhjpeaaGreatDoor
/-
  THE PROGRAM's isValue: which closed expressions are values; nothing that was there is changed.
-/
namespace Go.Proofs.YtiipcgnkfhjpeaaGreatDoor
set_option linter.unusedVariables false
set_option linter.unusedSimpArgs false
open Go.RowKit

/-- closed for so many functions, down to some depth -/
def Closed (ds : List Df) (t : Tr) : Prop := ∃ d, shB 0 ds.length d t = true

theorem Closed.kid {ds : List Df} {t : Tr} (h : Closed ds t) {k : Tr} (hk : k ∈ t.kids) : Closed ds k := by
  obtain ⟨d, h⟩ := h
  cases d with
  | zero => simp [shB] at h
  | succ d =>
    unfold shB at h
    simp only [Bool.and_eq_true, List.all_eq_true] at h
    exact ⟨d, h.2 k hk⟩
theorem Closed.fun {ds : List Df} {t : Tr} (h : Closed ds t) (ho : t.op = 3) : 0 ≤ t.num ∧ t.num < ds.length := by
  obtain ⟨d, h⟩ := h
  cases d with
  | zero => simp [shB] at h
  | succ d =>
    unfold shB at h
    simp only [Bool.and_eq_true] at h
    have h2 := h.1.2
    unfold ownB at h2
    rw [if_neg (by omega), if_neg (by omega), if_pos ho] at h2
    simpa using h2
theorem Unw.value {w : World} {a t : Tr} {c ct : Value} {l : List Cd} (h : Unw w a c t ct l) (hs : ¬ (t.op = 4 ∧ t.kids.length = 2)) : unwT a [] = (t, (l.map (·.1)).reverse) := by
  rw [h.unw, unwT_stop hs]

theorem CdRow.form {w : World} {lo : Nat} {l : List Cd} {v : Value} (h : CdRow w lo l v) : ∃ ad cap, v = .slice ad l.length cap := by
  rcases h with ⟨rfl, rfl⟩ | ⟨g, cap, f, rfl, -⟩
  · exact ⟨_, _, rfl⟩
  · exact ⟨_, _, rfl⟩

/-- a valid program and a closed expression -/
def closedB (ds : List Df) (t : Tr) : Bool := progB ds && validB t 0 ds.length
end Go.Proofs.YtiipcgnkfhjpeaaGreatDoor
/-
  PLAIN: what NumberNeed answers. No program is named here.
-/
namespace Go.Proofs.YtiipcgnkfhjpeaaGreatDoor
set_option linter.unusedVariables false
set_option linter.unusedSimpArgs false

/-- the graph of a closed expression -/
theorem start_ok {ds : List Df} {t : Tr} (h : closedB ds t = true) : progB ds = true ∧ graphB (addT [] t []).1 ds.length = true ∧ (addT [] t []).2 < (addT [] t []).1.length ∧ AllT (VarOk 0) t ∧ 1 + szT t ≤ 60 := by
  unfold closedB validB at h
  simp only [Bool.and_eq_true, decide_eq_true_eq] at h
  obtain ⟨hp, ⟨hd, hs, hz⟩⟩ := h
  have h0 : GOk (ds.length : Int) ([] : List Ce).length [] := (graphB_iff.1 (by unfold graphB; simp; omega : graphB [] (ds.length : Int) = true)).2
  have hok := addT_ok (defs := ds.length) (args := []) 16 t [] h0 (fun x hx => by simp at hx) hs
  have hsz := (addT_size [] t []).2.1
  refine ⟨hp, graphB_iff.2 ⟨⟨by simp only [List.length_nil] at hsz; omega, by omega⟩, hok.1⟩, hok.2, varOk_of_sh 0 _ 16 t hs, hz⟩
end Go.Proofs.YtiipcgnkfhjpeaaGreatDoor
/-
  PLAIN: what the functions on runs answer. No program is named here.
-/
namespace Go.Proofs.YtiipcgnkfhjpeaaGreatDoor
set_option linter.unusedVariables false
set_option linter.unusedSimpArgs false

/-- the fields of a run whose root is any number -/
def rnA (gv : Value) (a : Int) (x : Rn) : Array Value := #[gv, .int .i64 a, .int .i64 x.steps, .int .i64 x.moved, .int .i64 x.peak, .int .i64 x.ticks, .int .i64 x.rounds]
/-- no run -/
def rnZ : Rn := ⟨[], 0, 0, 0, 0, 0, 0⟩
def btB (n m : Int) : Bool := decide (0 ≤ n ∧ n ≤ m)
def Rn.at (x : Rn) (a : Int) : Rn := { x with root := a.toNat }
/-- what StartRun answers -/
noncomputable def sxO (ds : List Df) (t : Tr) : Rn × Bool := if closedB ds t = true then (startX (addT [] t []).1 (addT [] t []).2, true) else (rnZ, false)
def fuelO (f : Int) : Bool := decide (0 ≤ f ∧ f ≤ 300)
/-- what EvalRun answers -/
noncomputable def eRun (ds : List Df) (t : Tr) (f limit : Int) (tidy : Bool) : Rn × Nat :=
  if closedB ds t = true ∧ fuelO f = true ∧ btB limit 400 = true then runE ds limit tidy f.toNat (startX (addT [] t []).1 (addT [] t []).2) else (rnZ, 4)
theorem start_run {ds : List Df} {t : Tr} (h : closedB ds t = true) : (startX (addT [] t []).1 (addT [] t []).2).Ok ds := ⟨(start_ok h).2.1, (start_ok h).2.2.1⟩
theorem runE_ok {ds : List Df} {limit : Int} {tidy : Bool} (hp : progB ds = true) : ∀ (n : Nat) (x : Rn), x.Ok ds → (runE ds limit tidy n x).1.Ok ds
  | 0, x, h => by unfold runE; split <;> exact h
  | n + 1, x, h => by
    unfold runE
    split
    · exact h
    · split
      · exact runE_ok hp n _ (h.tick hp limit tidy)
      · exact h.tick hp limit tidy
theorem graph_small {g : List Ce} {defs : Int} (hg : graphB g defs = true) : g.length + sumK g ≤ 2000 := by
  have h4 := graphB_len hg
  have h3 := kidsSum_le3 g fun c hc => by
    obtain ⟨i, hi, rfl⟩ := List.getElem_of_mem hc
    exact (kids_graph hg i hi).1
  omega
theorem rnZ_small : rnZ.g.length + sumK rnZ.g ≤ 2000 := by simp [rnZ, sumK]
theorem eRun_small (ds : List Df) (t : Tr) (f limit : Int) (tidy : Bool) : (eRun ds t f limit tidy).1.g.length + sumK (eRun ds t f limit tidy).1.g ≤ 2000 := by
  unfold eRun
  split
  · rename_i h; exact graph_small (runE_ok (start_ok h.1).1 _ _ (start_run h.1)).1
  · exact rnZ_small
end Go.Proofs.YtiipcgnkfhjpeaaGreatDoor
/-
  THE MODEL's l2Args: the function of nested applications, and its arguments in order; nothing that was there is changed.
-/
namespace Go.Proofs.YtiipcgnkfhjpeaaGreatDoor
set_option linter.unusedVariables false
set_option linter.unusedSimpArgs false
open Go.RowKit

end Go.Proofs.YtiipcgnkfhjpeaaGreatDoor
/-
  THE MODEL's l2Head, l2Closed, IsHead: which closed expressions are values; nothing that was there is changed.
-/
namespace Go.Proofs.YtiipcgnkfhjpeaaGreatDoor
set_option linter.unusedVariables false
set_option linter.unusedSimpArgs false
open Go.RowKit

set_option maxRecDepth 100000 in
set_option maxHeartbeats 800000 in
theorem l2Closed_calls (ds : List Df) (p : Value) (a : Tr) (c : Value) (w : World) (hp : DIn w ds p) (hk : In w a.kids c) :
    Calls Tryz.prog 65 #[p, .agg #[.int .i64 a.op, .int .i64 a.num, c]] w fun e w' => e = .returned (.bool (closedB ds a)) ∧ Below w.heap.size w w' := by
  have HK : Hid (In w a.kids c) := hk
  have HP : Hid (DIn w ds p) := hp
  obtain ⟨ad, cap, rfl, -, -, -⟩ := hk
  obtain ⟨adp, capp, rfl, -, -, -⟩ := hp
  unfold closedB
  cases hpb : progB ds with
  | false =>
    have hq : ∀ W, DIn W ds (.slice adp ds.length capp) → Calls Tryz.prog 70 #[.slice adp ds.length capp] W fun e w' => e = .returned (.bool false) ∧ Below W.heap.size W w' := fun W h => by have := specProg_calls ds _ W h; rwa [hpb] at this
    clear hpb
    go_enter Tryz.func65, Tryz.ntmps65
    go_wp2_with (go_at_call 70; refine (hq _ ?_).mono ?_; exact HP.out.next (box_below _ _); rintro e w1 ⟨rfl, hb1⟩; obtain ⟨q0, q1, q2, q3, HB1⟩ := box_after hb1; have HB1 : Hid _ := HB1; clear hb1)
    go_ret
    exact ⟨rfl, HB1.out⟩
  | true =>
    have hv : ∀ W, In W a.kids (.slice ad a.kids.length cap) → Calls Tryz.prog 87 #[.agg #[.int .i64 a.op, .int .i64 a.num, .slice ad a.kids.length cap], .int .i64 0, .int .i64 ds.length] W fun e w' => e = .returned (.bool (true && validB a 0 ds.length)) ∧ Below W.heap.size W w' := fun W h => by
      have h6 : ds.length ≤ 6 := by
        unfold progB at hpb
        simp only [Bool.and_eq_true, decide_eq_true_eq] at hpb
        exact hpb.1
      have := l1Is_calls a 0 ds.length _ W h
      rw [← validB_is a 0 ds.length (by omega)] at this
      rw [Bool.true_and]
      exact this
    have hq : ∀ W, DIn W ds (.slice adp ds.length capp) → Calls Tryz.prog 70 #[.slice adp ds.length capp] W fun e w' => e = .returned (.bool true) ∧ Below W.heap.size W w' := fun W h => by have := specProg_calls ds _ W h; rwa [hpb] at this
    clear hpb
    go_enter Tryz.func65, Tryz.ntmps65
    go_wp2_with (first
      | (go_at_call 70; refine (hq _ ?_).mono ?_; exact HP.out.next (box_below _ _); rintro e w1 ⟨rfl, hb1⟩; obtain ⟨q0, q1, q2, q3, HB1⟩ := box_after hb1; have HB1 : Hid _ := HB1; clear hb1)
      | (go_at_call 87; refine (hv _ (HK.out.next HB1.out)).mono ?_; rintro e w2 ⟨rfl, hb2⟩; have HB2 : Hid (Below w.heap.size w w2) := HB1.out.trans (hb2.mono HB1.out.size); clear hb2))
    go_ret
    exact ⟨rfl, HB2.out⟩

end Go.Proofs.YtiipcgnkfhjpeaaGreatDoor
