/-
  THE MODEL's l6Copy AND l6Step.
-/
import Derived.Test.YtiipcgnkfhjpeaaGreatDoorMgExactStepRun28
namespace Go.Proofs.YtiipcgnkfhjpeaaGreatDoor
set_option linter.unusedVariables false
set_option linter.unusedSimpArgs false
open Go.RowKit


/-- seven cells are stored in a box -/
theorem st7_blk {w : World} {B : Nat} {a0 a1 a2 a3 a4 a5 a6 b0 b1 b2 b3 b4 b5 b6 : Value} {T : TypeId} (h : w.heap[B]? = some (.cells #[a0, a1, a2, a3, a4, a5, a6] T)) : (((((((w.setCell ⟨B, 0, none⟩ b0).setCell ⟨B, 1, none⟩ b1).setCell ⟨B, 2, none⟩ b2).setCell ⟨B, 3, none⟩ b3).setCell ⟨B, 4, none⟩ b4).setCell ⟨B, 5, none⟩ b5).setCell ⟨B, 6, none⟩ b6).heap[B]? = some (.cells #[b0, b1, b2, b3, b4, b5, b6] T) := by
  simp [World.setCell, Array.getElem?_modify, h]
theorem st7_far {w : World} {B k : Nat} {b0 b1 b2 b3 b4 b5 b6 : Value} (hk : k ≠ B) : (((((((w.setCell ⟨B, 0, none⟩ b0).setCell ⟨B, 1, none⟩ b1).setCell ⟨B, 2, none⟩ b2).setCell ⟨B, 3, none⟩ b3).setCell ⟨B, 4, none⟩ b4).setCell ⟨B, 5, none⟩ b5).setCell ⟨B, 6, none⟩ b6).heap[k]? = w.heap[k]? :=
  (Below.heap_setCell _ _ _ _ hk).trans ((Below.heap_setCell _ _ _ _ hk).trans ((Below.heap_setCell _ _ _ _ hk).trans ((Below.heap_setCell _ _ _ _ hk).trans ((Below.heap_setCell _ _ _ _ hk).trans ((Below.heap_setCell _ _ _ _ hk).trans (Below.heap_setCell _ _ _ _ hk))))))
theorem st7_size {w : World} {B : Nat} {b0 b1 b2 b3 b4 b5 b6 : Value} : (((((((w.setCell ⟨B, 0, none⟩ b0).setCell ⟨B, 1, none⟩ b1).setCell ⟨B, 2, none⟩ b2).setCell ⟨B, 3, none⟩ b3).setCell ⟨B, 4, none⟩ b4).setCell ⟨B, 5, none⟩ b5).setCell ⟨B, 6, none⟩ b6).heap.size = w.heap.size := by
  rw [size_setCell, size_setCell, size_setCell, size_setCell, size_setCell, size_setCell, size_setCell]
theorem st7_below {w0 w : World} {B n : Nat} {b0 b1 b2 b3 b4 b5 b6 : Value} (h : Below n w0 w) (hB : n ≤ B) : Below n w0 (((((((w.setCell ⟨B, 0, none⟩ b0).setCell ⟨B, 1, none⟩ b1).setCell ⟨B, 2, none⟩ b2).setCell ⟨B, 3, none⟩ b3).setCell ⟨B, 4, none⟩ b4).setCell ⟨B, 5, none⟩ b5).setCell ⟨B, 6, none⟩ b6) :=
  ((((((h.setCell hB _).setCell hB _).setCell hB _).setCell hB _).setCell hB _).setCell hB _).setCell hB _
/-- a graph that lies outside the blocks n and n + 1, below n in the blocks of T -/
def RIn (T : Nat → Prop) (n : Nat) (w : World) (g : List Ce) (v : Value) : Prop := CellsOn w (fun k => k < w.heap.size ∧ k ≠ n ∧ k ≠ n + 1 ∧ (k < n → T k)) g v
theorem RIn.cin {T : Nat → Prop} {n : Nat} {w : World} {g : List Ce} {v : Value} (h : RIn T n w g v) : CIn w g v := CellsOn.mono h (fun _ h => h.1) (fun _ _ => rfl)
theorem RIn.outT {T : Nat → Prop} {n : Nat} {w : World} {g : List Ce} {v : Value} (h : RIn T n w g v) : CellsOn w (fun k => k < w.heap.size ∧ (k < n → T k)) g v := CellsOn.mono h (fun _ h => ⟨h.1, h.2.2.2⟩) (fun _ _ => rfl)
theorem RIn.next {T : Nat → Prop} {n : Nat} {w w' : World} {g : List Ce} {v : Value} (h : RIn T n w g v) (hb : Below w.heap.size w w') : RIn T n w' g v := CellsOn.mono h (fun _ h => ⟨Nat.lt_of_lt_of_le h.1 hb.size, h.2⟩) (fun k h => hb.block k h.1)
theorem RIn.far {T : Nat → Prop} {n : Nat} {w w' : World} {g : List Ce} {v : Value} (h : RIn T n w g v) (hf : ∀ k, k ≠ n → k ≠ n + 1 → w'.heap[k]? = w.heap[k]?) (hs : w'.heap.size = w.heap.size) : RIn T n w' g v := CellsOn.mono h (fun _ h => ⟨by rw [hs]; exact h.1, h.2⟩) (fun k h => hf k h.2.1 h.2.2.1)
theorem RIn.old {T : Nat → Prop} {w W : World} {g : List Ce} {v : Value} (h : CellsOn w T g v) (hT : ∀ k, T k → k < w.heap.size) (hb : Below w.heap.size w W) : RIn T w.heap.size W g v := CellsOn.mono h (fun k hk => by have := hT k hk; have := hb.size; exact ⟨by omega, by omega, by omega, fun _ => hk⟩) (fun k hk => hb.block k (hT k hk))
theorem RIn.new {T : Nat → Prop} {n m : Nat} {w : World} {g : List Ce} {v : Value} (h : CellsOn w (fun k => k < w.heap.size ∧ m ≤ k) g v) (hm : n + 2 ≤ m) : RIn T n w g v := CellsOn.mono h (fun k hk => ⟨hk.1, by have := hk.2; omega, by have := hk.2; omega, fun h => by have := hk.2; omega⟩) (fun _ _ => rfl)
set_option maxRecDepth 100000 in
set_option maxHeartbeats 3200000 in
theorem l6Copy_calls (x : Rn) (gv : Value) (w : World) (hk : CIn w x.g gv) (hg : ∃ defs, graphB x.g defs = true) :
    Calls Tryz.prog 27 #[.agg (rnC gv x)] w (fun e w' => ∃ gv, e = .returned (.agg (rnC gv x)) ∧ CellsOn w' (fun k => k < w'.heap.size ∧ w.heap.size ≤ k) x.g gv ∧ Below w.heap.size w w') := by
  have HG := mkHid hg
  clear hg
  obtain ⟨T, hT, hk⟩ : ∃ T : Nat → Prop, (∀ k, T k → k < w.heap.size) ∧ CellsOn w T x.g gv := ⟨Lt w.heap.size, fun _ h => h, hk⟩
  have HTS := mkHid hT
  clear hT
  obtain ⟨adg, capg, rfl, -, -, -⟩ := id hk
  obtain ⟨W, hW⟩ : ∃ W, W = (w.alloc (.cells #[.slice adg x.g.length capg, .int .i64 (x.root : Int), .int .i64 x.steps, .int .i64 x.moved, .int .i64 x.peak, .int .i64 x.ticks, .int .i64 x.rounds] 30)).alloc (.cells #[.slice none 0 0, .int .i64 0, .int .i64 0, .int .i64 0, .int .i64 0, .int .i64 0, .int .i64 0] 30) := ⟨_, rfl⟩
  have HB_W : Hid (Below w.heap.size w W) := by rw [hW]; exact (box_below _ _).alloc (by rw [Deep.nblk_alloc]; omega) _
  have HX_W : Hid (W.heap[w.heap.size]? = some (.cells #[.slice adg x.g.length capg, .int .i64 (x.root : Int), .int .i64 x.steps, .int .i64 x.moved, .int .i64 x.peak, .int .i64 x.ticks, .int .i64 x.rounds] 30)) := by
    rw [hW]; exact (Deep.blk_alloc_lt _ _ _ (by rw [Deep.nblk_alloc]; omega)).trans (Deep.blk_alloc_new _ _)
  have HY_W : Hid (W.heap[w.heap.size + 1]? = some (.cells #[.slice none 0 0, .int .i64 0, .int .i64 0, .int .i64 0, .int .i64 0, .int .i64 0, .int .i64 0] 30)) := by
    have h := Deep.blk_alloc_new (w.alloc (.cells #[.slice adg x.g.length capg, .int .i64 (x.root : Int), .int .i64 x.steps, .int .i64 x.moved, .int .i64 x.peak, .int .i64 x.ticks, .int .i64 x.rounds] 30)) (.cells #[.slice none 0 0, .int .i64 0, .int .i64 0, .int .i64 0, .int .i64 0, .int .i64 0, .int .i64 0] 30)
    rw [Deep.nblk_alloc] at h
    rw [hW]; exact h
  have HL_W : Hid (w.heap.size + 2 ≤ W.heap.size) := by rw [hW, Hid, Deep.nblk_alloc, Deep.nblk_alloc]; exact Nat.le_refl _
  have HK_W : Hid (RIn T w.heap.size W x.g (.slice adg x.g.length capg)) := RIn.old hk HTS.out HB_W.out
  clear hk
  unfold rnC
  go_enter Tryz.func27, Tryz.ntmps27
  go_wp2_with fail
  rw [← hW]
  clear hW
  refine (l3Copy_calls x.g _ W HK_W.out.cin HG.out).mono ?_
  rintro e w1 ⟨gv1, rfl, ho, hb⟩
  obtain ⟨ad1, cap1, rfl⟩ := ho.form
  have HK1 := mkHid (RIn.new (T := fun _ => False) (n := w.heap.size) ((ho.own fun k h _ => h).onS (S := fun k => k < w1.heap.size ∧ W.heap.size ≤ k) fun k hk hz => ⟨hz, (List.mem_range'_1.1 hk).1⟩) HL_W.out)
  have HX_w1 := mkHid ((hb.block _ (by have := HL_W.out; omega)).trans HX_W.out)
  have HY_w1 := mkHid ((hb.block _ (by have := HL_W.out; omega)).trans HY_W.out)
  have HL_w1 : Hid (w.heap.size + 2 ≤ w1.heap.size) := Nat.le_trans HL_W.out hb.size
  have HB_w1 : Hid (Below w.heap.size w w1) := HB_W.out.trans (hb.mono HB_W.out.size)
  clear ho hb
  have x0 := cell_of_blk HX_w1.out 0 _ rfl
  have x1 := cell_of_blk HX_w1.out 1 _ rfl
  have x2 := cell_of_blk HX_w1.out 2 _ rfl
  have x3 := cell_of_blk HX_w1.out 3 _ rfl
  have x4 := cell_of_blk HX_w1.out 4 _ rfl
  have x5 := cell_of_blk HX_w1.out 5 _ rfl
  have x6 := cell_of_blk HX_w1.out 6 _ rfl
  have fx := frz_of_blk HX_w1.out
  have y0 := cell_of_blk HY_w1.out 0 _ rfl
  have y1 := cell_of_blk HY_w1.out 1 _ rfl
  have y2 := cell_of_blk HY_w1.out 2 _ rfl
  have y3 := cell_of_blk HY_w1.out 3 _ rfl
  have y4 := cell_of_blk HY_w1.out 4 _ rfl
  have y5 := cell_of_blk HY_w1.out 5 _ rfl
  have y6 := cell_of_blk HY_w1.out 6 _ rfl
  have fy := frz_of_blk HY_w1.out
  go_wp2_with fail
  refine bodyPost_ret (v := .agg #[(.slice ad1 x.g.length cap1), .int .i64 (x.root : Int), .int .i64 x.steps, .int .i64 x.moved, .int .i64 x.peak, .int .i64 x.ticks, .int .i64 x.rounds]) (by simp [results, Tryz.results27, go_sem, y0, y1, y2, y3, y4, y5, y6, fy]) rfl ?_
  refine ⟨_, rfl, (RIn.far (n := w.heap.size) (RIn.far (n := w.heap.size) HK1.out (w' := w1.setCell ⟨w.heap.size, 0, none⟩ (.slice ad1 x.g.length cap1)) (fun k h1 h2 => Below.heap_setCell _ _ _ _ h1) (size_setCell _ _ _)) (fun k h1 h2 => st7_far h2) st7_size).outT.mono (fun k hk => ⟨hk.1, Nat.le_of_not_lt hk.2⟩) (fun _ _ => rfl), st7_below (Below.setCell HB_w1.out (Nat.le_refl _) _) (by omega)⟩

/-- a run and a code, the graph in new blocks or in those of T -/
def GotRT (T : Nat → Prop) (r : Rn × Nat) (w : World) (e : Ending) (w' : World) : Prop := ∃ gv, e = .returned (.tuple #[.agg (rnC gv r.1), .int .i64 (r.2 : Int)]) ∧ CellsOn w' (fun k => k < w'.heap.size ∧ (k < w.heap.size → T k)) r.1.g gv ∧ Below w.heap.size w w'
set_option maxRecDepth 100000 in
set_option maxHeartbeats 6400000 in
theorem l6Step_calls (ds : List Df) (x : Rn) (c gv : Value) (limit : Int) (tidy : Bool) (w : World) (T : Nat → Prop) (hd : DIn w ds c) (hk : CellsOn w T x.g gv) (hT : ∀ k, T k → k < w.heap.size) (ho : x.Ok ds) (hp : progB ds = true) (hb : x.Bd 800000000) (hv : x.val ds = false) (hr : x.rounds ≤ 998) :
    Calls Tryz.prog 28 #[c, .agg (rnC gv x), .int .i64 limit, .bool tidy] w (GotRT T (x.tick ds limit tidy) w) := by
  have HTS := mkHid hT
  clear hT
  have HD := mkHid hd
  have HO := mkHid ho
  have HP := mkHid hp
  have HBD := mkHid hb
  have HVF := mkHid hv
  have HRD : Hid (0 ≤ x.rounds ∧ x.rounds ≤ 998) := ⟨hb.5.1, hr⟩
  obtain ⟨adc, capc, rfl, -, -, -⟩ := hd
  clear ho hp hb hv hr
  obtain ⟨adg, capg, rfl, -, -, -⟩ := id hk
  obtain ⟨W, hW⟩ : ∃ W, W = (w.alloc (.cells #[.slice adg x.g.length capg, .int .i64 (x.root : Int), .int .i64 x.steps, .int .i64 x.moved, .int .i64 x.peak, .int .i64 x.ticks, .int .i64 x.rounds] 30)).alloc (.cells #[.slice none 0 0, .int .i64 0, .int .i64 0, .int .i64 0, .int .i64 0, .int .i64 0, .int .i64 0] 30) := ⟨_, rfl⟩
  have HB_W : Hid (Below w.heap.size w W) := by rw [hW]; exact (box_below _ _).alloc (by rw [Deep.nblk_alloc]; omega) _
  have HX_W : Hid (W.heap[w.heap.size]? = some (.cells #[.slice adg x.g.length capg, .int .i64 (x.root : Int), .int .i64 x.steps, .int .i64 x.moved, .int .i64 x.peak, .int .i64 x.ticks, .int .i64 x.rounds] 30)) := by
    rw [hW]; exact (Deep.blk_alloc_lt _ _ _ (by rw [Deep.nblk_alloc]; omega)).trans (Deep.blk_alloc_new _ _)
  have HY_W : Hid (W.heap[w.heap.size + 1]? = some (.cells #[.slice none 0 0, .int .i64 0, .int .i64 0, .int .i64 0, .int .i64 0, .int .i64 0, .int .i64 0] 30)) := by
    have h := Deep.blk_alloc_new (w.alloc (.cells #[.slice adg x.g.length capg, .int .i64 (x.root : Int), .int .i64 x.steps, .int .i64 x.moved, .int .i64 x.peak, .int .i64 x.ticks, .int .i64 x.rounds] 30)) (.cells #[.slice none 0 0, .int .i64 0, .int .i64 0, .int .i64 0, .int .i64 0, .int .i64 0, .int .i64 0] 30)
    rw [Deep.nblk_alloc] at h
    rw [hW]; exact h
  have HL_W : Hid (w.heap.size + 2 ≤ W.heap.size) := by rw [hW, Hid, Deep.nblk_alloc, Deep.nblk_alloc]; exact Nat.le_refl _
  have HK_W : Hid (RIn T w.heap.size W x.g (.slice adg x.g.length capg)) := RIn.old hk HTS.out HB_W.out
  clear hk
  unfold rnC
  go_enter Tryz.func28, Tryz.ntmps28
  by_cases hl : limit < (x.g.length : Int)
  · have HLM : Hid (x.lim limit tidy = x.col tidy) := by unfold Hid Rn.lim; rw [if_pos hl]
    go_wp2_with fail
    rw [← hW]
    clear hW hl
    refine (l6Collect_calls ds x tidy _ W HK_W.out.cin HO.out (HBD.out.mono (by omega))).mono ?_
    rintro e w1 ⟨gv1, rfl, hk1, hb1⟩
    obtain ⟨z1, hx1⟩ : ∃ z1, z1 = x.col tidy := ⟨_, rfl⟩
    have HX1E := mkHid hx1
    have HO1 : Hid (z1.Ok ds) := by rw [hx1]; exact HO.out.col tidy
    have HBD1 : Hid (z1.Bd 850000000) := by rw [hx1]; exact (HBD.out.col HO.out tidy).mono (by omega)
    have HRD1 : Hid (0 ≤ z1.rounds ∧ z1.rounds ≤ 999) := by rw [hx1]; have := HRD.out; exact ⟨by show 0 ≤ x.rounds + 1; omega, by show x.rounds + 1 ≤ 999; omega⟩
    rw [← hx1] at hk1 ⊢
    clear hx1
    unfold rnC
    obtain ⟨ad1, cap1, rfl, -, -, -⟩ := id hk1
    have HK1 := mkHid (RIn.new (T := T) (n := w.heap.size) hk1 (by have := HL_W.out; omega))
    have HX_w1 := mkHid ((hb1.block _ (by have := HL_W.out; omega)).trans HX_W.out)
    have HY_w1 := mkHid ((hb1.block _ (by have := HL_W.out; omega)).trans HY_W.out)
    have HL_w1 : Hid (w.heap.size + 2 ≤ w1.heap.size) := Nat.le_trans HL_W.out hb1.size
    have HB_w1 : Hid (Below w.heap.size w w1) := HB_W.out.trans (hb1.mono HB_W.out.size)
    clear hk1 hb1
    have x0 := cell_of_blk HX_w1.out 0 _ rfl
    have x1 := cell_of_blk HX_w1.out 1 _ rfl
    have x2 := cell_of_blk HX_w1.out 2 _ rfl
    have x3 := cell_of_blk HX_w1.out 3 _ rfl
    have x4 := cell_of_blk HX_w1.out 4 _ rfl
    have x5 := cell_of_blk HX_w1.out 5 _ rfl
    have x6 := cell_of_blk HX_w1.out 6 _ rfl
    have fx := frz_of_blk HX_w1.out
    have y0 := cell_of_blk HY_w1.out 0 _ rfl
    have y1 := cell_of_blk HY_w1.out 1 _ rfl
    have y2 := cell_of_blk HY_w1.out 2 _ rfl
    have y3 := cell_of_blk HY_w1.out 3 _ rfl
    have y4 := cell_of_blk HY_w1.out 4 _ rfl
    have y5 := cell_of_blk HY_w1.out 5 _ rfl
    have y6 := cell_of_blk HY_w1.out 6 _ rfl
    have fy := frz_of_blk HY_w1.out
    go_wp2_with fail
    have HX_w2 : Hid ((((((((w1.setCell ⟨w.heap.size, 0, none⟩ (.slice ad1 z1.g.length cap1)).setCell ⟨w.heap.size, 1, none⟩ (.int .i64 (z1.root : Int))).setCell ⟨w.heap.size, 2, none⟩ (.int .i64 z1.steps)).setCell ⟨w.heap.size, 3, none⟩ (.int .i64 z1.moved)).setCell ⟨w.heap.size, 4, none⟩ (.int .i64 z1.peak)).setCell ⟨w.heap.size, 5, none⟩ (.int .i64 z1.ticks)).setCell ⟨w.heap.size, 6, none⟩ (.int .i64 z1.rounds)).heap[w.heap.size]? = some (.cells #[(.slice ad1 z1.g.length cap1), .int .i64 (z1.root : Int), .int .i64 z1.steps, .int .i64 z1.moved, .int .i64 z1.peak, .int .i64 z1.ticks, .int .i64 z1.rounds] 30)) := st7_blk HX_w1.out
    have HY_w2 : Hid ((((((((w1.setCell ⟨w.heap.size, 0, none⟩ (.slice ad1 z1.g.length cap1)).setCell ⟨w.heap.size, 1, none⟩ (.int .i64 (z1.root : Int))).setCell ⟨w.heap.size, 2, none⟩ (.int .i64 z1.steps)).setCell ⟨w.heap.size, 3, none⟩ (.int .i64 z1.moved)).setCell ⟨w.heap.size, 4, none⟩ (.int .i64 z1.peak)).setCell ⟨w.heap.size, 5, none⟩ (.int .i64 z1.ticks)).setCell ⟨w.heap.size, 6, none⟩ (.int .i64 z1.rounds)).heap[w.heap.size + 1]? = some (.cells #[.slice none 0 0, .int .i64 0, .int .i64 0, .int .i64 0, .int .i64 0, .int .i64 0, .int .i64 0] 30)) := (st7_far (by omega)).trans HY_w1.out
    have HL_w2 : Hid (w.heap.size + 2 ≤ (((((((w1.setCell ⟨w.heap.size, 0, none⟩ (.slice ad1 z1.g.length cap1)).setCell ⟨w.heap.size, 1, none⟩ (.int .i64 (z1.root : Int))).setCell ⟨w.heap.size, 2, none⟩ (.int .i64 z1.steps)).setCell ⟨w.heap.size, 3, none⟩ (.int .i64 z1.moved)).setCell ⟨w.heap.size, 4, none⟩ (.int .i64 z1.peak)).setCell ⟨w.heap.size, 5, none⟩ (.int .i64 z1.ticks)).setCell ⟨w.heap.size, 6, none⟩ (.int .i64 z1.rounds)).heap.size) := by rw [st7_size]; exact HL_w1.out
    have HB_w2 : Hid (Below w.heap.size w (((((((w1.setCell ⟨w.heap.size, 0, none⟩ (.slice ad1 z1.g.length cap1)).setCell ⟨w.heap.size, 1, none⟩ (.int .i64 (z1.root : Int))).setCell ⟨w.heap.size, 2, none⟩ (.int .i64 z1.steps)).setCell ⟨w.heap.size, 3, none⟩ (.int .i64 z1.moved)).setCell ⟨w.heap.size, 4, none⟩ (.int .i64 z1.peak)).setCell ⟨w.heap.size, 5, none⟩ (.int .i64 z1.ticks)).setCell ⟨w.heap.size, 6, none⟩ (.int .i64 z1.rounds))) := st7_below HB_w1.out (Nat.le_refl _)
    have HK_w2 : Hid (RIn T w.heap.size (((((((w1.setCell ⟨w.heap.size, 0, none⟩ (.slice ad1 z1.g.length cap1)).setCell ⟨w.heap.size, 1, none⟩ (.int .i64 (z1.root : Int))).setCell ⟨w.heap.size, 2, none⟩ (.int .i64 z1.steps)).setCell ⟨w.heap.size, 3, none⟩ (.int .i64 z1.moved)).setCell ⟨w.heap.size, 4, none⟩ (.int .i64 z1.peak)).setCell ⟨w.heap.size, 5, none⟩ (.int .i64 z1.ticks)).setCell ⟨w.heap.size, 6, none⟩ (.int .i64 z1.rounds)) z1.g (.slice ad1 z1.g.length cap1)) := RIn.far (HK1.out) (fun k h1 h2 => st7_far h1) st7_size
    generalize (((((((w1.setCell ⟨w.heap.size, 0, none⟩ (.slice ad1 z1.g.length cap1)).setCell ⟨w.heap.size, 1, none⟩ (.int .i64 (z1.root : Int))).setCell ⟨w.heap.size, 2, none⟩ (.int .i64 z1.steps)).setCell ⟨w.heap.size, 3, none⟩ (.int .i64 z1.moved)).setCell ⟨w.heap.size, 4, none⟩ (.int .i64 z1.peak)).setCell ⟨w.heap.size, 5, none⟩ (.int .i64 z1.ticks)).setCell ⟨w.heap.size, 6, none⟩ (.int .i64 z1.rounds)) = w2 at HX_w2 HY_w2 HL_w2 HB_w2 HK_w2 ⊢
    clear x0 x1 x2 x3 x4 x5 x6 fx y0 y1 y2 y3 y4 y5 y6 fy
    have HTK : Hid (x.tick ds limit tidy = if z1.val ds = true then (z1, 0) else z1.tic2 ds tidy) := by unfold Hid Rn.tick; rw [HLM.out, ← HX1E.out]
    clear HLM HX1E
    have x0 := cell_of_blk HX_w2.out 0 _ rfl
    have x1 := cell_of_blk HX_w2.out 1 _ rfl
    have x2 := cell_of_blk HX_w2.out 2 _ rfl
    have x3 := cell_of_blk HX_w2.out 3 _ rfl
    have x4 := cell_of_blk HX_w2.out 4 _ rfl
    have x5 := cell_of_blk HX_w2.out 5 _ rfl
    have x6 := cell_of_blk HX_w2.out 6 _ rfl
    have fx := frz_of_blk HX_w2.out
    have y0 := cell_of_blk HY_w2.out 0 _ rfl
    have y1 := cell_of_blk HY_w2.out 1 _ rfl
    have y2 := cell_of_blk HY_w2.out 2 _ rfl
    have y3 := cell_of_blk HY_w2.out 3 _ rfl
    have y4 := cell_of_blk HY_w2.out 4 _ rfl
    have y5 := cell_of_blk HY_w2.out 5 _ rfl
    have y6 := cell_of_blk HY_w2.out 6 _ rfl
    have fy := frz_of_blk HY_w2.out
    go_wp2_with fail
    clear x0 x1 x2 x3 x4 x5 x6 fx y0 y1 y2 y3 y4 y5 y6 fy
    refine (l4Value_calls ds z1.g z1.root _ _ w2 (HD.out.next HB_w2.out) HK_w2.out.cin HO1.out.1 HO1.out.2).mono ?_
    rintro e v1 ⟨rfl, hb⟩
    have HX_v1 := mkHid ((hb.block _ (by have := HL_w2.out; omega)).trans HX_w2.out)
    have HY_v1 := mkHid ((hb.block _ (by have := HL_w2.out; omega)).trans HY_w2.out)
    have HL_v1 : Hid (w.heap.size + 2 ≤ v1.heap.size) := Nat.le_trans HL_w2.out hb.size
    have HB_v1 : Hid (Below w.heap.size w v1) := HB_w2.out.trans (hb.mono HB_w2.out.size)
    have HK_v1 : Hid (RIn T w.heap.size v1 z1.g (.slice ad1 z1.g.length cap1)) := HK_w2.out.next hb
    clear hb
    cases hvv : z1.val ds with
    | true =>
      have HVT := mkHid hvv
      have e1 : valB (arsOf ds) z1.g z1.root = true := hvv
      rw [e1]
      clear hvv e1
      have x0 := cell_of_blk HX_v1.out 0 _ rfl
      have x1 := cell_of_blk HX_v1.out 1 _ rfl
      have x2 := cell_of_blk HX_v1.out 2 _ rfl
      have x3 := cell_of_blk HX_v1.out 3 _ rfl
      have x4 := cell_of_blk HX_v1.out 4 _ rfl
      have x5 := cell_of_blk HX_v1.out 5 _ rfl
      have x6 := cell_of_blk HX_v1.out 6 _ rfl
      have fx := frz_of_blk HX_v1.out
      have y0 := cell_of_blk HY_v1.out 0 _ rfl
      have y1 := cell_of_blk HY_v1.out 1 _ rfl
      have y2 := cell_of_blk HY_v1.out 2 _ rfl
      have y3 := cell_of_blk HY_v1.out 3 _ rfl
      have y4 := cell_of_blk HY_v1.out 4 _ rfl
      have y5 := cell_of_blk HY_v1.out 5 _ rfl
      have y6 := cell_of_blk HY_v1.out 6 _ rfl
      have fy := frz_of_blk HY_v1.out
      have HTF : Hid (x.tick ds limit tidy = (z1, 0)) := HTK.out.trans (if_pos HVT.out)
      go_wp2_with fail
      refine bodyPost_ret (v := .tuple #[.agg #[(.slice ad1 z1.g.length cap1), .int .i64 (z1.root : Int), .int .i64 z1.steps, .int .i64 z1.moved, .int .i64 z1.peak, .int .i64 z1.ticks, .int .i64 z1.rounds], .int .i64 0]) (by simp [results, Tryz.results28, go_sem, y0, y1, y2, y3, y4, y5, y6, fy]) rfl ?_
      rw [HTF.out]
      exact ⟨_, rfl, (RIn.far (HK_v1.out) (fun k h1 h2 => st7_far h2) st7_size).outT, st7_below HB_v1.out (by omega)⟩
    | false =>
      have HVT := mkHid hvv
      have e1 : valB (arsOf ds) z1.g z1.root = false := hvv
      rw [e1]
      have HTA : Hid (x.tick ds limit tidy = z1.tic2 ds tidy) := HTK.out.trans (if_neg (by rw [HVT.out]; simp))
      clear hvv e1
      have x0 := cell_of_blk HX_v1.out 0 _ rfl
      have x1 := cell_of_blk HX_v1.out 1 _ rfl
      have x2 := cell_of_blk HX_v1.out 2 _ rfl
      have x3 := cell_of_blk HX_v1.out 3 _ rfl
      have x4 := cell_of_blk HX_v1.out 4 _ rfl
      have x5 := cell_of_blk HX_v1.out 5 _ rfl
      have x6 := cell_of_blk HX_v1.out 6 _ rfl
      have fx := frz_of_blk HX_v1.out
      have y0 := cell_of_blk HY_v1.out 0 _ rfl
      have y1 := cell_of_blk HY_v1.out 1 _ rfl
      have y2 := cell_of_blk HY_v1.out 2 _ rfl
      have y3 := cell_of_blk HY_v1.out 3 _ rfl
      have y4 := cell_of_blk HY_v1.out 4 _ rfl
      have y5 := cell_of_blk HY_v1.out 5 _ rfl
      have y6 := cell_of_blk HY_v1.out 6 _ rfl
      have fy := frz_of_blk HY_v1.out
      go_wp2_with fail
      clear x0 x1 x2 x3 x4 x5 x6 fx y0 y1 y2 y3 y4 y5 y6 fy
      refine (l4Step_calls ds z1.g z1.root _ _ v1 (HD.out.next HB_v1.out) HK_v1.out.cin HO1.out.1 HP.out HO1.out.2 HVT.out).mono ?_
      rintro e v2 ⟨sv, rfl, hs, hb⟩
      obtain ⟨ads, caps, rfl, -, -, -⟩ := id hs
      have HS := mkHid hs
      have HX_v2 := mkHid ((hb.block _ (by have := HL_v1.out; omega)).trans HX_v1.out)
      have HY_v2 := mkHid ((hb.block _ (by have := HL_v1.out; omega)).trans HY_v1.out)
      have HL_v2 : Hid (w.heap.size + 2 ≤ v2.heap.size) := Nat.le_trans HL_v1.out hb.size
      have HB_v2 : Hid (Below w.heap.size w v2) := HB_v1.out.trans (hb.mono HB_v1.out.size)
      have HK_v2 : Hid (RIn T w.heap.size v2 z1.g (.slice ad1 z1.g.length cap1)) := HK_v1.out.next hb
      clear hb hs
      by_cases h3 : z1.code ds = 3
      · have e3 : (((stepG ds z1.g z1.root).2 : Nat) : Int) = 3 := by have h : (stepG ds z1.g z1.root).2 = 3 := h3; rw [h]; rfl
        have HC3 := mkHid h3
        have hrr := HRD1.out
        rw [e3]
        clear e3 h3
        have x0 := cell_of_blk HX_v2.out 0 _ rfl
        have x1 := cell_of_blk HX_v2.out 1 _ rfl
        have x2 := cell_of_blk HX_v2.out 2 _ rfl
        have x3 := cell_of_blk HX_v2.out 3 _ rfl
        have x4 := cell_of_blk HX_v2.out 4 _ rfl
        have x5 := cell_of_blk HX_v2.out 5 _ rfl
        have x6 := cell_of_blk HX_v2.out 6 _ rfl
        have fx := frz_of_blk HX_v2.out
        have y0 := cell_of_blk HY_v2.out 0 _ rfl
        have y1 := cell_of_blk HY_v2.out 1 _ rfl
        have y2 := cell_of_blk HY_v2.out 2 _ rfl
        have y3 := cell_of_blk HY_v2.out 3 _ rfl
        have y4 := cell_of_blk HY_v2.out 4 _ rfl
        have y5 := cell_of_blk HY_v2.out 5 _ rfl
        have y6 := cell_of_blk HY_v2.out 6 _ rfl
        have fy := frz_of_blk HY_v2.out
        go_wp2_with fail
        clear x0 x1 x2 x3 x4 x5 x6 fx y0 y1 y2 y3 y4 y5 y6 fy
        refine (l6Collect_calls ds z1 tidy _ v2 HK_v2.out.cin HO1.out (HBD1.out.mono (by omega))).mono ?_
        rintro e v3 ⟨gv3, rfl, hk3, hb⟩
        obtain ⟨z3, hx3⟩ : ∃ z3, z3 = z1.col tidy := ⟨_, rfl⟩
        have HX3E := mkHid hx3
        have HO3 : Hid (z3.Ok ds) := by rw [hx3]; exact HO1.out.col tidy
        have HBD3 : Hid (z3.Bd 900000000) := by rw [hx3]; exact (HBD1.out.col HO1.out tidy).mono (by omega)
        rw [← hx3] at hk3 ⊢
        clear hx3 hrr
        unfold rnC
        obtain ⟨ad3, cap3, rfl, -, -, -⟩ := id hk3
        have HK3 := mkHid (RIn.new (T := T) (n := w.heap.size) hk3 (by have := HL_v2.out; omega))
        have HX_v3 := mkHid ((hb.block _ (by have := HL_v2.out; omega)).trans HX_v2.out)
        have HY_v3 := mkHid ((hb.block _ (by have := HL_v2.out; omega)).trans HY_v2.out)
        have HL_v3 : Hid (w.heap.size + 2 ≤ v3.heap.size) := Nat.le_trans HL_v2.out hb.size
        have HB_v3 : Hid (Below w.heap.size w v3) := HB_v2.out.trans (hb.mono HB_v2.out.size)
        clear hk3 hb
        have x0 := cell_of_blk HX_v3.out 0 _ rfl
        have x1 := cell_of_blk HX_v3.out 1 _ rfl
        have x2 := cell_of_blk HX_v3.out 2 _ rfl
        have x3 := cell_of_blk HX_v3.out 3 _ rfl
        have x4 := cell_of_blk HX_v3.out 4 _ rfl
        have x5 := cell_of_blk HX_v3.out 5 _ rfl
        have x6 := cell_of_blk HX_v3.out 6 _ rfl
        have fx := frz_of_blk HX_v3.out
        have y0 := cell_of_blk HY_v3.out 0 _ rfl
        have y1 := cell_of_blk HY_v3.out 1 _ rfl
        have y2 := cell_of_blk HY_v3.out 2 _ rfl
        have y3 := cell_of_blk HY_v3.out 3 _ rfl
        have y4 := cell_of_blk HY_v3.out 4 _ rfl
        have y5 := cell_of_blk HY_v3.out 5 _ rfl
        have y6 := cell_of_blk HY_v3.out 6 _ rfl
        have fy := frz_of_blk HY_v3.out
        go_wp2_with fail
        have HX_v4 : Hid ((((((((v3.setCell ⟨w.heap.size, 0, none⟩ (.slice ad3 z3.g.length cap3)).setCell ⟨w.heap.size, 1, none⟩ (.int .i64 (z3.root : Int))).setCell ⟨w.heap.size, 2, none⟩ (.int .i64 z3.steps)).setCell ⟨w.heap.size, 3, none⟩ (.int .i64 z3.moved)).setCell ⟨w.heap.size, 4, none⟩ (.int .i64 z3.peak)).setCell ⟨w.heap.size, 5, none⟩ (.int .i64 z3.ticks)).setCell ⟨w.heap.size, 6, none⟩ (.int .i64 z3.rounds)).heap[w.heap.size]? = some (.cells #[(.slice ad3 z3.g.length cap3), .int .i64 (z3.root : Int), .int .i64 z3.steps, .int .i64 z3.moved, .int .i64 z3.peak, .int .i64 z3.ticks, .int .i64 z3.rounds] 30)) := st7_blk HX_v3.out
        have HY_v4 : Hid ((((((((v3.setCell ⟨w.heap.size, 0, none⟩ (.slice ad3 z3.g.length cap3)).setCell ⟨w.heap.size, 1, none⟩ (.int .i64 (z3.root : Int))).setCell ⟨w.heap.size, 2, none⟩ (.int .i64 z3.steps)).setCell ⟨w.heap.size, 3, none⟩ (.int .i64 z3.moved)).setCell ⟨w.heap.size, 4, none⟩ (.int .i64 z3.peak)).setCell ⟨w.heap.size, 5, none⟩ (.int .i64 z3.ticks)).setCell ⟨w.heap.size, 6, none⟩ (.int .i64 z3.rounds)).heap[w.heap.size + 1]? = some (.cells #[.slice none 0 0, .int .i64 0, .int .i64 0, .int .i64 0, .int .i64 0, .int .i64 0, .int .i64 0] 30)) := (st7_far (by omega)).trans HY_v3.out
        have HL_v4 : Hid (w.heap.size + 2 ≤ (((((((v3.setCell ⟨w.heap.size, 0, none⟩ (.slice ad3 z3.g.length cap3)).setCell ⟨w.heap.size, 1, none⟩ (.int .i64 (z3.root : Int))).setCell ⟨w.heap.size, 2, none⟩ (.int .i64 z3.steps)).setCell ⟨w.heap.size, 3, none⟩ (.int .i64 z3.moved)).setCell ⟨w.heap.size, 4, none⟩ (.int .i64 z3.peak)).setCell ⟨w.heap.size, 5, none⟩ (.int .i64 z3.ticks)).setCell ⟨w.heap.size, 6, none⟩ (.int .i64 z3.rounds)).heap.size) := by rw [st7_size]; exact HL_v3.out
        have HB_v4 : Hid (Below w.heap.size w (((((((v3.setCell ⟨w.heap.size, 0, none⟩ (.slice ad3 z3.g.length cap3)).setCell ⟨w.heap.size, 1, none⟩ (.int .i64 (z3.root : Int))).setCell ⟨w.heap.size, 2, none⟩ (.int .i64 z3.steps)).setCell ⟨w.heap.size, 3, none⟩ (.int .i64 z3.moved)).setCell ⟨w.heap.size, 4, none⟩ (.int .i64 z3.peak)).setCell ⟨w.heap.size, 5, none⟩ (.int .i64 z3.ticks)).setCell ⟨w.heap.size, 6, none⟩ (.int .i64 z3.rounds))) := st7_below HB_v3.out (Nat.le_refl _)
        have HK_v4 : Hid (RIn T w.heap.size (((((((v3.setCell ⟨w.heap.size, 0, none⟩ (.slice ad3 z3.g.length cap3)).setCell ⟨w.heap.size, 1, none⟩ (.int .i64 (z3.root : Int))).setCell ⟨w.heap.size, 2, none⟩ (.int .i64 z3.steps)).setCell ⟨w.heap.size, 3, none⟩ (.int .i64 z3.moved)).setCell ⟨w.heap.size, 4, none⟩ (.int .i64 z3.peak)).setCell ⟨w.heap.size, 5, none⟩ (.int .i64 z3.ticks)).setCell ⟨w.heap.size, 6, none⟩ (.int .i64 z3.rounds)) z3.g (.slice ad3 z3.g.length cap3)) := RIn.far (HK3.out) (fun k h1 h2 => st7_far h1) st7_size
        generalize (((((((v3.setCell ⟨w.heap.size, 0, none⟩ (.slice ad3 z3.g.length cap3)).setCell ⟨w.heap.size, 1, none⟩ (.int .i64 (z3.root : Int))).setCell ⟨w.heap.size, 2, none⟩ (.int .i64 z3.steps)).setCell ⟨w.heap.size, 3, none⟩ (.int .i64 z3.moved)).setCell ⟨w.heap.size, 4, none⟩ (.int .i64 z3.peak)).setCell ⟨w.heap.size, 5, none⟩ (.int .i64 z3.ticks)).setCell ⟨w.heap.size, 6, none⟩ (.int .i64 z3.rounds)) = v4 at HX_v4 HY_v4 HL_v4 HB_v4 HK_v4 ⊢
        clear x0 x1 x2 x3 x4 x5 x6 fx y0 y1 y2 y3 y4 y5 y6 fy
        have HT2 : Hid (z1.tic2 ds tidy = if z3.val ds = true then (z3, 0) else z3.adv ds) := by unfold Hid Rn.tic2; rw [if_pos HC3.out, ← HX3E.out]
        have x0 := cell_of_blk HX_v4.out 0 _ rfl
        have x1 := cell_of_blk HX_v4.out 1 _ rfl
        have x2 := cell_of_blk HX_v4.out 2 _ rfl
        have x3 := cell_of_blk HX_v4.out 3 _ rfl
        have x4 := cell_of_blk HX_v4.out 4 _ rfl
        have x5 := cell_of_blk HX_v4.out 5 _ rfl
        have x6 := cell_of_blk HX_v4.out 6 _ rfl
        have fx := frz_of_blk HX_v4.out
        have y0 := cell_of_blk HY_v4.out 0 _ rfl
        have y1 := cell_of_blk HY_v4.out 1 _ rfl
        have y2 := cell_of_blk HY_v4.out 2 _ rfl
        have y3 := cell_of_blk HY_v4.out 3 _ rfl
        have y4 := cell_of_blk HY_v4.out 4 _ rfl
        have y5 := cell_of_blk HY_v4.out 5 _ rfl
        have y6 := cell_of_blk HY_v4.out 6 _ rfl
        have fy := frz_of_blk HY_v4.out
        go_wp2_with fail
        clear x0 x1 x2 x3 x4 x5 x6 fx y0 y1 y2 y3 y4 y5 y6 fy
        refine (l4Value_calls ds z3.g z3.root _ _ v4 (HD.out.next HB_v4.out) HK_v4.out.cin HO3.out.1 HO3.out.2).mono ?_
        rintro e v5 ⟨rfl, hb⟩
        have HX_v5 := mkHid ((hb.block _ (by have := HL_v4.out; omega)).trans HX_v4.out)
        have HY_v5 := mkHid ((hb.block _ (by have := HL_v4.out; omega)).trans HY_v4.out)
        have HL_v5 : Hid (w.heap.size + 2 ≤ v5.heap.size) := Nat.le_trans HL_v4.out hb.size
        have HB_v5 : Hid (Below w.heap.size w v5) := HB_v4.out.trans (hb.mono HB_v4.out.size)
        have HK_v5 : Hid (RIn T w.heap.size v5 z3.g (.slice ad3 z3.g.length cap3)) := HK_v4.out.next hb
        clear hb
        cases hvv : z3.val ds with
        | true =>
          have HV3 := mkHid hvv
          have e1 : valB (arsOf ds) z3.g z3.root = true := hvv
          rw [e1]
          clear hvv e1
          have x0 := cell_of_blk HX_v5.out 0 _ rfl
          have x1 := cell_of_blk HX_v5.out 1 _ rfl
          have x2 := cell_of_blk HX_v5.out 2 _ rfl
          have x3 := cell_of_blk HX_v5.out 3 _ rfl
          have x4 := cell_of_blk HX_v5.out 4 _ rfl
          have x5 := cell_of_blk HX_v5.out 5 _ rfl
          have x6 := cell_of_blk HX_v5.out 6 _ rfl
          have fx := frz_of_blk HX_v5.out
          have y0 := cell_of_blk HY_v5.out 0 _ rfl
          have y1 := cell_of_blk HY_v5.out 1 _ rfl
          have y2 := cell_of_blk HY_v5.out 2 _ rfl
          have y3 := cell_of_blk HY_v5.out 3 _ rfl
          have y4 := cell_of_blk HY_v5.out 4 _ rfl
          have y5 := cell_of_blk HY_v5.out 5 _ rfl
          have y6 := cell_of_blk HY_v5.out 6 _ rfl
          have fy := frz_of_blk HY_v5.out
          have HTF : Hid (x.tick ds limit tidy = (z3, 0)) := HTA.out.trans (HT2.out.trans (if_pos HV3.out))
          go_wp2_with fail
          refine bodyPost_ret (v := .tuple #[.agg #[(.slice ad3 z3.g.length cap3), .int .i64 (z3.root : Int), .int .i64 z3.steps, .int .i64 z3.moved, .int .i64 z3.peak, .int .i64 z3.ticks, .int .i64 z3.rounds], .int .i64 0]) (by simp [results, Tryz.results28, go_sem, y0, y1, y2, y3, y4, y5, y6, fy]) rfl ?_
          rw [HTF.out]
          exact ⟨_, rfl, (RIn.far (HK_v5.out) (fun k h1 h2 => st7_far h2) st7_size).outT, st7_below HB_v5.out (by omega)⟩
        | false =>
          have HV3 := mkHid hvv
          have e1 : valB (arsOf ds) z3.g z3.root = false := hvv
          rw [e1]
          have HTC : Hid (x.tick ds limit tidy = z3.adv ds) := HTA.out.trans (HT2.out.trans (if_neg (by rw [HV3.out]; simp)))
          clear hvv e1
          have x0 := cell_of_blk HX_v5.out 0 _ rfl
          have x1 := cell_of_blk HX_v5.out 1 _ rfl
          have x2 := cell_of_blk HX_v5.out 2 _ rfl
          have x3 := cell_of_blk HX_v5.out 3 _ rfl
          have x4 := cell_of_blk HX_v5.out 4 _ rfl
          have x5 := cell_of_blk HX_v5.out 5 _ rfl
          have x6 := cell_of_blk HX_v5.out 6 _ rfl
          have fx := frz_of_blk HX_v5.out
          have y0 := cell_of_blk HY_v5.out 0 _ rfl
          have y1 := cell_of_blk HY_v5.out 1 _ rfl
          have y2 := cell_of_blk HY_v5.out 2 _ rfl
          have y3 := cell_of_blk HY_v5.out 3 _ rfl
          have y4 := cell_of_blk HY_v5.out 4 _ rfl
          have y5 := cell_of_blk HY_v5.out 5 _ rfl
          have y6 := cell_of_blk HY_v5.out 6 _ rfl
          have fy := frz_of_blk HY_v5.out
          go_wp2_with fail
          clear x0 x1 x2 x3 x4 x5 x6 fx y0 y1 y2 y3 y4 y5 y6 fy
          refine (l4Step_calls ds z3.g z3.root _ _ v5 (HD.out.next HB_v5.out) HK_v5.out.cin HO3.out.1 HP.out HO3.out.2 HV3.out).mono ?_
          rintro e v6 ⟨sv6, rfl, hs, hb⟩
          obtain ⟨ad6, cap6, rfl, -, -, -⟩ := id hs
          have HS6 := mkHid hs
          have HX_v6 := mkHid ((hb.block _ (by have := HL_v5.out; omega)).trans HX_v5.out)
          have HY_v6 := mkHid ((hb.block _ (by have := HL_v5.out; omega)).trans HY_v5.out)
          have HL_v6 : Hid (w.heap.size + 2 ≤ v6.heap.size) := Nat.le_trans HL_v5.out hb.size
          have HB_v6 : Hid (Below w.heap.size w v6) := HB_v5.out.trans (hb.mono HB_v5.out.size)
          have HK_v6 : Hid (RIn T w.heap.size v6 z3.g (.slice ad3 z3.g.length cap3)) := HK_v5.out.next hb
          clear hb hs
          by_cases h0 : z3.code ds = 0
          · have e0 : (((stepG ds z3.g z3.root).2 : Nat) : Int) = 0 := by have h : (stepG ds z3.g z3.root).2 = 0 := h0; rw [h]; rfl
            have HA : Hid (z3.adv ds = (z3.step ds, 0)) := by unfold Hid Rn.adv; rw [if_pos h0]
            have HKS : Hid (RIn T w.heap.size v6 (stepG ds z3.g z3.root).1 (.slice ad6 (stepG ds z3.g z3.root).1.length cap6)) := RIn.new (m := w.heap.size + 2) (HS6.out.mono (fun k hk => ⟨hk.1, Nat.le_trans HL_v5.out (hk.2 h0)⟩) (fun _ _ => rfl)) (Nat.le_refl _)
            have HN : Hid ((stepG ds z3.g z3.root).1.length ≤ 400) := (HO3.out.step HP.out HV3.out).len
            obtain ⟨gn, hgn⟩ : ∃ gn, gn = (stepG ds z3.g z3.root).1 := ⟨_, rfl⟩
            have HSTP : Hid (z3.step ds = { z3 with g := gn, steps := z3.steps + 1, peak := max z3.peak gn.length }) := by rw [hgn]; rfl
            rw [← hgn] at HKS HN ⊢
            rw [e0]
            have hn4 := HN.out
            have hbs := HBD3.out.1
            have hbp := HBD3.out.3
            have t3 : ((0 : Int) == 3) = false := by decide
            clear e0 h0 hgn
            have x0 := cell_of_blk HX_v6.out 0 _ rfl
            have x1 := cell_of_blk HX_v6.out 1 _ rfl
            have x2 := cell_of_blk HX_v6.out 2 _ rfl
            have x3 := cell_of_blk HX_v6.out 3 _ rfl
            have x4 := cell_of_blk HX_v6.out 4 _ rfl
            have x5 := cell_of_blk HX_v6.out 5 _ rfl
            have x6 := cell_of_blk HX_v6.out 6 _ rfl
            have fx := frz_of_blk HX_v6.out
            have y0 := cell_of_blk HY_v6.out 0 _ rfl
            have y1 := cell_of_blk HY_v6.out 1 _ rfl
            have y2 := cell_of_blk HY_v6.out 2 _ rfl
            have y3 := cell_of_blk HY_v6.out 3 _ rfl
            have y4 := cell_of_blk HY_v6.out 4 _ rfl
            have y5 := cell_of_blk HY_v6.out 5 _ rfl
            have y6 := cell_of_blk HY_v6.out 6 _ rfl
            have fy := frz_of_blk HY_v6.out
            go_wp2_with fail
            · have hm : max z3.peak (gn.length : Int) = (gn.length : Int) := by omega
              refine bodyPost_ret (v := .tuple #[.agg #[(.slice ad6 gn.length cap6), .int .i64 (z3.root : Int), .int .i64 (z3.steps + 1), .int .i64 z3.moved, .int .i64 (gn.length : Int), .int .i64 z3.ticks, .int .i64 z3.rounds], .int .i64 0]) (by simp [results, Tryz.results28, go_sem, y0, y1, y2, y3, y4, y5, y6, fy]) rfl ?_
              rw [HTC.out, HA.out, HSTP.out, hm]
              refine ⟨_, rfl, (RIn.far (n := w.heap.size) (RIn.far (n := w.heap.size) (w' := (((v6.setCell ⟨w.heap.size, 0, none⟩ (.slice ad6 gn.length cap6)).setCell ⟨w.heap.size, 2, none⟩ (.int .i64 (z3.steps + 1))).setCell ⟨w.heap.size, 4, none⟩ (.int .i64 (gn.length : Int)))) HKS.out (fun k h1 h2 => ?_) ?_) (fun k h1 h2 => st7_far h2) st7_size).outT, st7_below ?_ (by omega)⟩
              · exact (Below.heap_setCell _ _ _ _ h1).trans ((Below.heap_setCell _ _ _ _ h1).trans (Below.heap_setCell _ _ _ _ h1))
              · rw [size_setCell, size_setCell, size_setCell]
              · exact ((HB_v6.out.setCell (Nat.le_refl _) _).setCell (Nat.le_refl _) _).setCell (Nat.le_refl _) _
            · have hm : max z3.peak (gn.length : Int) = z3.peak := by omega
              refine bodyPost_ret (v := .tuple #[.agg #[(.slice ad6 gn.length cap6), .int .i64 (z3.root : Int), .int .i64 (z3.steps + 1), .int .i64 z3.moved, .int .i64 z3.peak, .int .i64 z3.ticks, .int .i64 z3.rounds], .int .i64 0]) (by simp [results, Tryz.results28, go_sem, y0, y1, y2, y3, y4, y5, y6, fy]) rfl ?_
              rw [HTC.out, HA.out, HSTP.out, hm]
              refine ⟨_, rfl, (RIn.far (n := w.heap.size) (RIn.far (n := w.heap.size) (w' := ((v6.setCell ⟨w.heap.size, 0, none⟩ (.slice ad6 gn.length cap6)).setCell ⟨w.heap.size, 2, none⟩ (.int .i64 (z3.steps + 1)))) HKS.out (fun k h1 h2 => ?_) ?_) (fun k h1 h2 => st7_far h2) st7_size).outT, st7_below ?_ (by omega)⟩
              · exact (Below.heap_setCell _ _ _ _ h1).trans (Below.heap_setCell _ _ _ _ h1)
              · rw [size_setCell, size_setCell]
              · exact (HB_v6.out.setCell (Nat.le_refl _) _).setCell (Nat.le_refl _) _
          · have HA : Hid (z3.adv ds = (z3, z3.code ds)) := by unfold Hid Rn.adv; rw [if_neg h0]
            have t0 : ((((stepG ds z3.g z3.root).2 : Nat) : Int) != 0) = true := by simp; exact h0
            clear h0
            have x0 := cell_of_blk HX_v6.out 0 _ rfl
            have x1 := cell_of_blk HX_v6.out 1 _ rfl
            have x2 := cell_of_blk HX_v6.out 2 _ rfl
            have x3 := cell_of_blk HX_v6.out 3 _ rfl
            have x4 := cell_of_blk HX_v6.out 4 _ rfl
            have x5 := cell_of_blk HX_v6.out 5 _ rfl
            have x6 := cell_of_blk HX_v6.out 6 _ rfl
            have fx := frz_of_blk HX_v6.out
            have y0 := cell_of_blk HY_v6.out 0 _ rfl
            have y1 := cell_of_blk HY_v6.out 1 _ rfl
            have y2 := cell_of_blk HY_v6.out 2 _ rfl
            have y3 := cell_of_blk HY_v6.out 3 _ rfl
            have y4 := cell_of_blk HY_v6.out 4 _ rfl
            have y5 := cell_of_blk HY_v6.out 5 _ rfl
            have y6 := cell_of_blk HY_v6.out 6 _ rfl
            have fy := frz_of_blk HY_v6.out
            go_wp2_with fail
            refine bodyPost_ret (v := .tuple #[.agg #[(.slice ad3 z3.g.length cap3), .int .i64 (z3.root : Int), .int .i64 z3.steps, .int .i64 z3.moved, .int .i64 z3.peak, .int .i64 z3.ticks, .int .i64 z3.rounds], .int .i64 ((stepG ds z3.g z3.root).2 : Int)]) (by simp [results, Tryz.results28, go_sem, y0, y1, y2, y3, y4, y5, y6, fy]) rfl ?_
            rw [HTC.out, HA.out]
            exact ⟨_, rfl, (RIn.far (HK_v6.out) (fun k h1 h2 => st7_far h2) st7_size).outT, st7_below HB_v6.out (by omega)⟩
      · have HC3 : Hid (z1.tic2 ds tidy = z1.adv ds) := by unfold Hid Rn.tic2; rw [if_neg h3]
        have t3 : ((((stepG ds z1.g z1.root).2 : Nat) : Int) == 3) = false := by rw [beq_eq_false_iff_ne]; intro h; apply h3; show (stepG ds z1.g z1.root).2 = 3; omega
        have HTC : Hid (x.tick ds limit tidy = z1.adv ds) := HTA.out.trans HC3.out
        clear h3
        by_cases h0 : z1.code ds = 0
        · have e0 : (((stepG ds z1.g z1.root).2 : Nat) : Int) = 0 := by have h : (stepG ds z1.g z1.root).2 = 0 := h0; rw [h]; rfl
          have HA : Hid (z1.adv ds = (z1.step ds, 0)) := by unfold Hid Rn.adv; rw [if_pos h0]
          have HKS : Hid (RIn T w.heap.size v2 (stepG ds z1.g z1.root).1 (.slice ads (stepG ds z1.g z1.root).1.length caps)) := RIn.new (m := w.heap.size + 2) (HS.out.mono (fun k hk => ⟨hk.1, Nat.le_trans HL_v1.out (hk.2 h0)⟩) (fun _ _ => rfl)) (Nat.le_refl _)
          have HN : Hid ((stepG ds z1.g z1.root).1.length ≤ 400) := (HO1.out.step HP.out HVT.out).len
          obtain ⟨gn, hgn⟩ : ∃ gn, gn = (stepG ds z1.g z1.root).1 := ⟨_, rfl⟩
          have HSTP : Hid (z1.step ds = { z1 with g := gn, steps := z1.steps + 1, peak := max z1.peak gn.length }) := by rw [hgn]; rfl
          rw [← hgn] at HKS HN ⊢
          rw [e0]
          have hn4 := HN.out
          have hbs := HBD1.out.1
          have hbp := HBD1.out.3
          have t3 : ((0 : Int) == 3) = false := by decide
          clear e0 h0 hgn
          have x0 := cell_of_blk HX_v2.out 0 _ rfl
          have x1 := cell_of_blk HX_v2.out 1 _ rfl
          have x2 := cell_of_blk HX_v2.out 2 _ rfl
          have x3 := cell_of_blk HX_v2.out 3 _ rfl
          have x4 := cell_of_blk HX_v2.out 4 _ rfl
          have x5 := cell_of_blk HX_v2.out 5 _ rfl
          have x6 := cell_of_blk HX_v2.out 6 _ rfl
          have fx := frz_of_blk HX_v2.out
          have y0 := cell_of_blk HY_v2.out 0 _ rfl
          have y1 := cell_of_blk HY_v2.out 1 _ rfl
          have y2 := cell_of_blk HY_v2.out 2 _ rfl
          have y3 := cell_of_blk HY_v2.out 3 _ rfl
          have y4 := cell_of_blk HY_v2.out 4 _ rfl
          have y5 := cell_of_blk HY_v2.out 5 _ rfl
          have y6 := cell_of_blk HY_v2.out 6 _ rfl
          have fy := frz_of_blk HY_v2.out
          go_wp2_with fail
          · have hm : max z1.peak (gn.length : Int) = (gn.length : Int) := by omega
            refine bodyPost_ret (v := .tuple #[.agg #[(.slice ads gn.length caps), .int .i64 (z1.root : Int), .int .i64 (z1.steps + 1), .int .i64 z1.moved, .int .i64 (gn.length : Int), .int .i64 z1.ticks, .int .i64 z1.rounds], .int .i64 0]) (by simp [results, Tryz.results28, go_sem, y0, y1, y2, y3, y4, y5, y6, fy]) rfl ?_
            rw [HTC.out, HA.out, HSTP.out, hm]
            refine ⟨_, rfl, (RIn.far (n := w.heap.size) (RIn.far (n := w.heap.size) (w' := (((v2.setCell ⟨w.heap.size, 0, none⟩ (.slice ads gn.length caps)).setCell ⟨w.heap.size, 2, none⟩ (.int .i64 (z1.steps + 1))).setCell ⟨w.heap.size, 4, none⟩ (.int .i64 (gn.length : Int)))) HKS.out (fun k h1 h2 => ?_) ?_) (fun k h1 h2 => st7_far h2) st7_size).outT, st7_below ?_ (by omega)⟩
            · exact (Below.heap_setCell _ _ _ _ h1).trans ((Below.heap_setCell _ _ _ _ h1).trans (Below.heap_setCell _ _ _ _ h1))
            · rw [size_setCell, size_setCell, size_setCell]
            · exact ((HB_v2.out.setCell (Nat.le_refl _) _).setCell (Nat.le_refl _) _).setCell (Nat.le_refl _) _
          · have hm : max z1.peak (gn.length : Int) = z1.peak := by omega
            refine bodyPost_ret (v := .tuple #[.agg #[(.slice ads gn.length caps), .int .i64 (z1.root : Int), .int .i64 (z1.steps + 1), .int .i64 z1.moved, .int .i64 z1.peak, .int .i64 z1.ticks, .int .i64 z1.rounds], .int .i64 0]) (by simp [results, Tryz.results28, go_sem, y0, y1, y2, y3, y4, y5, y6, fy]) rfl ?_
            rw [HTC.out, HA.out, HSTP.out, hm]
            refine ⟨_, rfl, (RIn.far (n := w.heap.size) (RIn.far (n := w.heap.size) (w' := ((v2.setCell ⟨w.heap.size, 0, none⟩ (.slice ads gn.length caps)).setCell ⟨w.heap.size, 2, none⟩ (.int .i64 (z1.steps + 1)))) HKS.out (fun k h1 h2 => ?_) ?_) (fun k h1 h2 => st7_far h2) st7_size).outT, st7_below ?_ (by omega)⟩
            · exact (Below.heap_setCell _ _ _ _ h1).trans (Below.heap_setCell _ _ _ _ h1)
            · rw [size_setCell, size_setCell]
            · exact (HB_v2.out.setCell (Nat.le_refl _) _).setCell (Nat.le_refl _) _
        · have HA : Hid (z1.adv ds = (z1, z1.code ds)) := by unfold Hid Rn.adv; rw [if_neg h0]
          have t0 : ((((stepG ds z1.g z1.root).2 : Nat) : Int) != 0) = true := by simp; exact h0
          clear h0
          have x0 := cell_of_blk HX_v2.out 0 _ rfl
          have x1 := cell_of_blk HX_v2.out 1 _ rfl
          have x2 := cell_of_blk HX_v2.out 2 _ rfl
          have x3 := cell_of_blk HX_v2.out 3 _ rfl
          have x4 := cell_of_blk HX_v2.out 4 _ rfl
          have x5 := cell_of_blk HX_v2.out 5 _ rfl
          have x6 := cell_of_blk HX_v2.out 6 _ rfl
          have fx := frz_of_blk HX_v2.out
          have y0 := cell_of_blk HY_v2.out 0 _ rfl
          have y1 := cell_of_blk HY_v2.out 1 _ rfl
          have y2 := cell_of_blk HY_v2.out 2 _ rfl
          have y3 := cell_of_blk HY_v2.out 3 _ rfl
          have y4 := cell_of_blk HY_v2.out 4 _ rfl
          have y5 := cell_of_blk HY_v2.out 5 _ rfl
          have y6 := cell_of_blk HY_v2.out 6 _ rfl
          have fy := frz_of_blk HY_v2.out
          go_wp2_with fail
          refine bodyPost_ret (v := .tuple #[.agg #[(.slice ad1 z1.g.length cap1), .int .i64 (z1.root : Int), .int .i64 z1.steps, .int .i64 z1.moved, .int .i64 z1.peak, .int .i64 z1.ticks, .int .i64 z1.rounds], .int .i64 ((stepG ds z1.g z1.root).2 : Int)]) (by simp [results, Tryz.results28, go_sem, y0, y1, y2, y3, y4, y5, y6, fy]) rfl ?_
          rw [HTC.out, HA.out]
          exact ⟨_, rfl, (RIn.far (HK_v2.out) (fun k h1 h2 => st7_far h2) st7_size).outT, st7_below HB_v2.out (by omega)⟩
  · have HLM : Hid (x.lim limit tidy = x) := by unfold Hid Rn.lim; rw [if_neg hl]
    have hl2 : (x.g.length : Int) ≤ limit := by omega
    have HTK : Hid (x.tick ds limit tidy = if x.val ds = true then (x, 0) else x.tic2 ds tidy) := by unfold Hid Rn.tick; rw [HLM.out]
    have HO1 := HO
    have HBD1 : Hid (x.Bd 850000000) := HBD.out.mono (by omega)
    have HRD1 : Hid (0 ≤ x.rounds ∧ x.rounds ≤ 999) := ⟨HRD.out.1, by have := HRD.out.2; omega⟩
    go_wp2_with fail
    rw [← hW]
    clear hW hl hl2
    refine (l4Value_calls ds x.g x.root _ _ W (HD.out.next HB_W.out) HK_W.out.cin HO1.out.1 HO1.out.2).mono ?_
    rintro e v1 ⟨rfl, hb⟩
    have HX_v1 := mkHid ((hb.block _ (by have := HL_W.out; omega)).trans HX_W.out)
    have HY_v1 := mkHid ((hb.block _ (by have := HL_W.out; omega)).trans HY_W.out)
    have HL_v1 : Hid (w.heap.size + 2 ≤ v1.heap.size) := Nat.le_trans HL_W.out hb.size
    have HB_v1 : Hid (Below w.heap.size w v1) := HB_W.out.trans (hb.mono HB_W.out.size)
    have HK_v1 : Hid (RIn T w.heap.size v1 x.g (.slice adg x.g.length capg)) := HK_W.out.next hb
    clear hb
    cases hvv : x.val ds with
    | true =>
      have HVT := mkHid hvv
      have e1 : valB (arsOf ds) x.g x.root = true := hvv
      rw [e1]
      clear hvv e1
      have x0 := cell_of_blk HX_v1.out 0 _ rfl
      have x1 := cell_of_blk HX_v1.out 1 _ rfl
      have x2 := cell_of_blk HX_v1.out 2 _ rfl
      have x3 := cell_of_blk HX_v1.out 3 _ rfl
      have x4 := cell_of_blk HX_v1.out 4 _ rfl
      have x5 := cell_of_blk HX_v1.out 5 _ rfl
      have x6 := cell_of_blk HX_v1.out 6 _ rfl
      have fx := frz_of_blk HX_v1.out
      have y0 := cell_of_blk HY_v1.out 0 _ rfl
      have y1 := cell_of_blk HY_v1.out 1 _ rfl
      have y2 := cell_of_blk HY_v1.out 2 _ rfl
      have y3 := cell_of_blk HY_v1.out 3 _ rfl
      have y4 := cell_of_blk HY_v1.out 4 _ rfl
      have y5 := cell_of_blk HY_v1.out 5 _ rfl
      have y6 := cell_of_blk HY_v1.out 6 _ rfl
      have fy := frz_of_blk HY_v1.out
      have HTF : Hid (x.tick ds limit tidy = (x, 0)) := HTK.out.trans (if_pos HVT.out)
      go_wp2_with fail
      refine bodyPost_ret (v := .tuple #[.agg #[(.slice adg x.g.length capg), .int .i64 (x.root : Int), .int .i64 x.steps, .int .i64 x.moved, .int .i64 x.peak, .int .i64 x.ticks, .int .i64 x.rounds], .int .i64 0]) (by simp [results, Tryz.results28, go_sem, y0, y1, y2, y3, y4, y5, y6, fy]) rfl ?_
      rw [HTF.out]
      exact ⟨_, rfl, (RIn.far (HK_v1.out) (fun k h1 h2 => st7_far h2) st7_size).outT, st7_below HB_v1.out (by omega)⟩
    | false =>
      have HVT := mkHid hvv
      have e1 : valB (arsOf ds) x.g x.root = false := hvv
      rw [e1]
      have HTA : Hid (x.tick ds limit tidy = x.tic2 ds tidy) := HTK.out.trans (if_neg (by rw [HVT.out]; simp))
      clear hvv e1
      have x0 := cell_of_blk HX_v1.out 0 _ rfl
      have x1 := cell_of_blk HX_v1.out 1 _ rfl
      have x2 := cell_of_blk HX_v1.out 2 _ rfl
      have x3 := cell_of_blk HX_v1.out 3 _ rfl
      have x4 := cell_of_blk HX_v1.out 4 _ rfl
      have x5 := cell_of_blk HX_v1.out 5 _ rfl
      have x6 := cell_of_blk HX_v1.out 6 _ rfl
      have fx := frz_of_blk HX_v1.out
      have y0 := cell_of_blk HY_v1.out 0 _ rfl
      have y1 := cell_of_blk HY_v1.out 1 _ rfl
      have y2 := cell_of_blk HY_v1.out 2 _ rfl
      have y3 := cell_of_blk HY_v1.out 3 _ rfl
      have y4 := cell_of_blk HY_v1.out 4 _ rfl
      have y5 := cell_of_blk HY_v1.out 5 _ rfl
      have y6 := cell_of_blk HY_v1.out 6 _ rfl
      have fy := frz_of_blk HY_v1.out
      go_wp2_with fail
      clear x0 x1 x2 x3 x4 x5 x6 fx y0 y1 y2 y3 y4 y5 y6 fy
      refine (l4Step_calls ds x.g x.root _ _ v1 (HD.out.next HB_v1.out) HK_v1.out.cin HO1.out.1 HP.out HO1.out.2 HVT.out).mono ?_
      rintro e v2 ⟨sv, rfl, hs, hb⟩
      obtain ⟨ads, caps, rfl, -, -, -⟩ := id hs
      have HS := mkHid hs
      have HX_v2 := mkHid ((hb.block _ (by have := HL_v1.out; omega)).trans HX_v1.out)
      have HY_v2 := mkHid ((hb.block _ (by have := HL_v1.out; omega)).trans HY_v1.out)
      have HL_v2 : Hid (w.heap.size + 2 ≤ v2.heap.size) := Nat.le_trans HL_v1.out hb.size
      have HB_v2 : Hid (Below w.heap.size w v2) := HB_v1.out.trans (hb.mono HB_v1.out.size)
      have HK_v2 : Hid (RIn T w.heap.size v2 x.g (.slice adg x.g.length capg)) := HK_v1.out.next hb
      clear hb hs
      by_cases h3 : x.code ds = 3
      · have e3 : (((stepG ds x.g x.root).2 : Nat) : Int) = 3 := by have h : (stepG ds x.g x.root).2 = 3 := h3; rw [h]; rfl
        have HC3 := mkHid h3
        have hrr := HRD1.out
        rw [e3]
        clear e3 h3
        have x0 := cell_of_blk HX_v2.out 0 _ rfl
        have x1 := cell_of_blk HX_v2.out 1 _ rfl
        have x2 := cell_of_blk HX_v2.out 2 _ rfl
        have x3 := cell_of_blk HX_v2.out 3 _ rfl
        have x4 := cell_of_blk HX_v2.out 4 _ rfl
        have x5 := cell_of_blk HX_v2.out 5 _ rfl
        have x6 := cell_of_blk HX_v2.out 6 _ rfl
        have fx := frz_of_blk HX_v2.out
        have y0 := cell_of_blk HY_v2.out 0 _ rfl
        have y1 := cell_of_blk HY_v2.out 1 _ rfl
        have y2 := cell_of_blk HY_v2.out 2 _ rfl
        have y3 := cell_of_blk HY_v2.out 3 _ rfl
        have y4 := cell_of_blk HY_v2.out 4 _ rfl
        have y5 := cell_of_blk HY_v2.out 5 _ rfl
        have y6 := cell_of_blk HY_v2.out 6 _ rfl
        have fy := frz_of_blk HY_v2.out
        go_wp2_with fail
        clear x0 x1 x2 x3 x4 x5 x6 fx y0 y1 y2 y3 y4 y5 y6 fy
        refine (l6Collect_calls ds x tidy _ v2 HK_v2.out.cin HO1.out (HBD1.out.mono (by omega))).mono ?_
        rintro e v3 ⟨gv3, rfl, hk3, hb⟩
        obtain ⟨z3, hx3⟩ : ∃ z3, z3 = x.col tidy := ⟨_, rfl⟩
        have HX3E := mkHid hx3
        have HO3 : Hid (z3.Ok ds) := by rw [hx3]; exact HO1.out.col tidy
        have HBD3 : Hid (z3.Bd 900000000) := by rw [hx3]; exact (HBD1.out.col HO1.out tidy).mono (by omega)
        rw [← hx3] at hk3 ⊢
        clear hx3 hrr
        unfold rnC
        obtain ⟨ad3, cap3, rfl, -, -, -⟩ := id hk3
        have HK3 := mkHid (RIn.new (T := T) (n := w.heap.size) hk3 (by have := HL_v2.out; omega))
        have HX_v3 := mkHid ((hb.block _ (by have := HL_v2.out; omega)).trans HX_v2.out)
        have HY_v3 := mkHid ((hb.block _ (by have := HL_v2.out; omega)).trans HY_v2.out)
        have HL_v3 : Hid (w.heap.size + 2 ≤ v3.heap.size) := Nat.le_trans HL_v2.out hb.size
        have HB_v3 : Hid (Below w.heap.size w v3) := HB_v2.out.trans (hb.mono HB_v2.out.size)
        clear hk3 hb
        have x0 := cell_of_blk HX_v3.out 0 _ rfl
        have x1 := cell_of_blk HX_v3.out 1 _ rfl
        have x2 := cell_of_blk HX_v3.out 2 _ rfl
        have x3 := cell_of_blk HX_v3.out 3 _ rfl
        have x4 := cell_of_blk HX_v3.out 4 _ rfl
        have x5 := cell_of_blk HX_v3.out 5 _ rfl
        have x6 := cell_of_blk HX_v3.out 6 _ rfl
        have fx := frz_of_blk HX_v3.out
        have y0 := cell_of_blk HY_v3.out 0 _ rfl
        have y1 := cell_of_blk HY_v3.out 1 _ rfl
        have y2 := cell_of_blk HY_v3.out 2 _ rfl
        have y3 := cell_of_blk HY_v3.out 3 _ rfl
        have y4 := cell_of_blk HY_v3.out 4 _ rfl
        have y5 := cell_of_blk HY_v3.out 5 _ rfl
        have y6 := cell_of_blk HY_v3.out 6 _ rfl
        have fy := frz_of_blk HY_v3.out
        go_wp2_with fail
        have HX_v4 : Hid ((((((((v3.setCell ⟨w.heap.size, 0, none⟩ (.slice ad3 z3.g.length cap3)).setCell ⟨w.heap.size, 1, none⟩ (.int .i64 (z3.root : Int))).setCell ⟨w.heap.size, 2, none⟩ (.int .i64 z3.steps)).setCell ⟨w.heap.size, 3, none⟩ (.int .i64 z3.moved)).setCell ⟨w.heap.size, 4, none⟩ (.int .i64 z3.peak)).setCell ⟨w.heap.size, 5, none⟩ (.int .i64 z3.ticks)).setCell ⟨w.heap.size, 6, none⟩ (.int .i64 z3.rounds)).heap[w.heap.size]? = some (.cells #[(.slice ad3 z3.g.length cap3), .int .i64 (z3.root : Int), .int .i64 z3.steps, .int .i64 z3.moved, .int .i64 z3.peak, .int .i64 z3.ticks, .int .i64 z3.rounds] 30)) := st7_blk HX_v3.out
        have HY_v4 : Hid ((((((((v3.setCell ⟨w.heap.size, 0, none⟩ (.slice ad3 z3.g.length cap3)).setCell ⟨w.heap.size, 1, none⟩ (.int .i64 (z3.root : Int))).setCell ⟨w.heap.size, 2, none⟩ (.int .i64 z3.steps)).setCell ⟨w.heap.size, 3, none⟩ (.int .i64 z3.moved)).setCell ⟨w.heap.size, 4, none⟩ (.int .i64 z3.peak)).setCell ⟨w.heap.size, 5, none⟩ (.int .i64 z3.ticks)).setCell ⟨w.heap.size, 6, none⟩ (.int .i64 z3.rounds)).heap[w.heap.size + 1]? = some (.cells #[.slice none 0 0, .int .i64 0, .int .i64 0, .int .i64 0, .int .i64 0, .int .i64 0, .int .i64 0] 30)) := (st7_far (by omega)).trans HY_v3.out
        have HL_v4 : Hid (w.heap.size + 2 ≤ (((((((v3.setCell ⟨w.heap.size, 0, none⟩ (.slice ad3 z3.g.length cap3)).setCell ⟨w.heap.size, 1, none⟩ (.int .i64 (z3.root : Int))).setCell ⟨w.heap.size, 2, none⟩ (.int .i64 z3.steps)).setCell ⟨w.heap.size, 3, none⟩ (.int .i64 z3.moved)).setCell ⟨w.heap.size, 4, none⟩ (.int .i64 z3.peak)).setCell ⟨w.heap.size, 5, none⟩ (.int .i64 z3.ticks)).setCell ⟨w.heap.size, 6, none⟩ (.int .i64 z3.rounds)).heap.size) := by rw [st7_size]; exact HL_v3.out
        have HB_v4 : Hid (Below w.heap.size w (((((((v3.setCell ⟨w.heap.size, 0, none⟩ (.slice ad3 z3.g.length cap3)).setCell ⟨w.heap.size, 1, none⟩ (.int .i64 (z3.root : Int))).setCell ⟨w.heap.size, 2, none⟩ (.int .i64 z3.steps)).setCell ⟨w.heap.size, 3, none⟩ (.int .i64 z3.moved)).setCell ⟨w.heap.size, 4, none⟩ (.int .i64 z3.peak)).setCell ⟨w.heap.size, 5, none⟩ (.int .i64 z3.ticks)).setCell ⟨w.heap.size, 6, none⟩ (.int .i64 z3.rounds))) := st7_below HB_v3.out (Nat.le_refl _)
        have HK_v4 : Hid (RIn T w.heap.size (((((((v3.setCell ⟨w.heap.size, 0, none⟩ (.slice ad3 z3.g.length cap3)).setCell ⟨w.heap.size, 1, none⟩ (.int .i64 (z3.root : Int))).setCell ⟨w.heap.size, 2, none⟩ (.int .i64 z3.steps)).setCell ⟨w.heap.size, 3, none⟩ (.int .i64 z3.moved)).setCell ⟨w.heap.size, 4, none⟩ (.int .i64 z3.peak)).setCell ⟨w.heap.size, 5, none⟩ (.int .i64 z3.ticks)).setCell ⟨w.heap.size, 6, none⟩ (.int .i64 z3.rounds)) z3.g (.slice ad3 z3.g.length cap3)) := RIn.far (HK3.out) (fun k h1 h2 => st7_far h1) st7_size
        generalize (((((((v3.setCell ⟨w.heap.size, 0, none⟩ (.slice ad3 z3.g.length cap3)).setCell ⟨w.heap.size, 1, none⟩ (.int .i64 (z3.root : Int))).setCell ⟨w.heap.size, 2, none⟩ (.int .i64 z3.steps)).setCell ⟨w.heap.size, 3, none⟩ (.int .i64 z3.moved)).setCell ⟨w.heap.size, 4, none⟩ (.int .i64 z3.peak)).setCell ⟨w.heap.size, 5, none⟩ (.int .i64 z3.ticks)).setCell ⟨w.heap.size, 6, none⟩ (.int .i64 z3.rounds)) = v4 at HX_v4 HY_v4 HL_v4 HB_v4 HK_v4 ⊢
        clear x0 x1 x2 x3 x4 x5 x6 fx y0 y1 y2 y3 y4 y5 y6 fy
        have HT2 : Hid (x.tic2 ds tidy = if z3.val ds = true then (z3, 0) else z3.adv ds) := by unfold Hid Rn.tic2; rw [if_pos HC3.out, ← HX3E.out]
        have x0 := cell_of_blk HX_v4.out 0 _ rfl
        have x1 := cell_of_blk HX_v4.out 1 _ rfl
        have x2 := cell_of_blk HX_v4.out 2 _ rfl
        have x3 := cell_of_blk HX_v4.out 3 _ rfl
        have x4 := cell_of_blk HX_v4.out 4 _ rfl
        have x5 := cell_of_blk HX_v4.out 5 _ rfl
        have x6 := cell_of_blk HX_v4.out 6 _ rfl
        have fx := frz_of_blk HX_v4.out
        have y0 := cell_of_blk HY_v4.out 0 _ rfl
        have y1 := cell_of_blk HY_v4.out 1 _ rfl
        have y2 := cell_of_blk HY_v4.out 2 _ rfl
        have y3 := cell_of_blk HY_v4.out 3 _ rfl
        have y4 := cell_of_blk HY_v4.out 4 _ rfl
        have y5 := cell_of_blk HY_v4.out 5 _ rfl
        have y6 := cell_of_blk HY_v4.out 6 _ rfl
        have fy := frz_of_blk HY_v4.out
        go_wp2_with fail
        clear x0 x1 x2 x3 x4 x5 x6 fx y0 y1 y2 y3 y4 y5 y6 fy
        refine (l4Value_calls ds z3.g z3.root _ _ v4 (HD.out.next HB_v4.out) HK_v4.out.cin HO3.out.1 HO3.out.2).mono ?_
        rintro e v5 ⟨rfl, hb⟩
        have HX_v5 := mkHid ((hb.block _ (by have := HL_v4.out; omega)).trans HX_v4.out)
        have HY_v5 := mkHid ((hb.block _ (by have := HL_v4.out; omega)).trans HY_v4.out)
        have HL_v5 : Hid (w.heap.size + 2 ≤ v5.heap.size) := Nat.le_trans HL_v4.out hb.size
        have HB_v5 : Hid (Below w.heap.size w v5) := HB_v4.out.trans (hb.mono HB_v4.out.size)
        have HK_v5 : Hid (RIn T w.heap.size v5 z3.g (.slice ad3 z3.g.length cap3)) := HK_v4.out.next hb
        clear hb
        cases hvv : z3.val ds with
        | true =>
          have HV3 := mkHid hvv
          have e1 : valB (arsOf ds) z3.g z3.root = true := hvv
          rw [e1]
          clear hvv e1
          have x0 := cell_of_blk HX_v5.out 0 _ rfl
          have x1 := cell_of_blk HX_v5.out 1 _ rfl
          have x2 := cell_of_blk HX_v5.out 2 _ rfl
          have x3 := cell_of_blk HX_v5.out 3 _ rfl
          have x4 := cell_of_blk HX_v5.out 4 _ rfl
          have x5 := cell_of_blk HX_v5.out 5 _ rfl
          have x6 := cell_of_blk HX_v5.out 6 _ rfl
          have fx := frz_of_blk HX_v5.out
          have y0 := cell_of_blk HY_v5.out 0 _ rfl
          have y1 := cell_of_blk HY_v5.out 1 _ rfl
          have y2 := cell_of_blk HY_v5.out 2 _ rfl
          have y3 := cell_of_blk HY_v5.out 3 _ rfl
          have y4 := cell_of_blk HY_v5.out 4 _ rfl
          have y5 := cell_of_blk HY_v5.out 5 _ rfl
          have y6 := cell_of_blk HY_v5.out 6 _ rfl
          have fy := frz_of_blk HY_v5.out
          have HTF : Hid (x.tick ds limit tidy = (z3, 0)) := HTA.out.trans (HT2.out.trans (if_pos HV3.out))
          go_wp2_with fail
          refine bodyPost_ret (v := .tuple #[.agg #[(.slice ad3 z3.g.length cap3), .int .i64 (z3.root : Int), .int .i64 z3.steps, .int .i64 z3.moved, .int .i64 z3.peak, .int .i64 z3.ticks, .int .i64 z3.rounds], .int .i64 0]) (by simp [results, Tryz.results28, go_sem, y0, y1, y2, y3, y4, y5, y6, fy]) rfl ?_
          rw [HTF.out]
          exact ⟨_, rfl, (RIn.far (HK_v5.out) (fun k h1 h2 => st7_far h2) st7_size).outT, st7_below HB_v5.out (by omega)⟩
        | false =>
          have HV3 := mkHid hvv
          have e1 : valB (arsOf ds) z3.g z3.root = false := hvv
          rw [e1]
          have HTC : Hid (x.tick ds limit tidy = z3.adv ds) := HTA.out.trans (HT2.out.trans (if_neg (by rw [HV3.out]; simp)))
          clear hvv e1
          have x0 := cell_of_blk HX_v5.out 0 _ rfl
          have x1 := cell_of_blk HX_v5.out 1 _ rfl
          have x2 := cell_of_blk HX_v5.out 2 _ rfl
          have x3 := cell_of_blk HX_v5.out 3 _ rfl
          have x4 := cell_of_blk HX_v5.out 4 _ rfl
          have x5 := cell_of_blk HX_v5.out 5 _ rfl
          have x6 := cell_of_blk HX_v5.out 6 _ rfl
          have fx := frz_of_blk HX_v5.out
          have y0 := cell_of_blk HY_v5.out 0 _ rfl
          have y1 := cell_of_blk HY_v5.out 1 _ rfl
          have y2 := cell_of_blk HY_v5.out 2 _ rfl
          have y3 := cell_of_blk HY_v5.out 3 _ rfl
          have y4 := cell_of_blk HY_v5.out 4 _ rfl
          have y5 := cell_of_blk HY_v5.out 5 _ rfl
          have y6 := cell_of_blk HY_v5.out 6 _ rfl
          have fy := frz_of_blk HY_v5.out
          go_wp2_with fail
          clear x0 x1 x2 x3 x4 x5 x6 fx y0 y1 y2 y3 y4 y5 y6 fy
          refine (l4Step_calls ds z3.g z3.root _ _ v5 (HD.out.next HB_v5.out) HK_v5.out.cin HO3.out.1 HP.out HO3.out.2 HV3.out).mono ?_
          rintro e v6 ⟨sv6, rfl, hs, hb⟩
          obtain ⟨ad6, cap6, rfl, -, -, -⟩ := id hs
          have HS6 := mkHid hs
          have HX_v6 := mkHid ((hb.block _ (by have := HL_v5.out; omega)).trans HX_v5.out)
          have HY_v6 := mkHid ((hb.block _ (by have := HL_v5.out; omega)).trans HY_v5.out)
          have HL_v6 : Hid (w.heap.size + 2 ≤ v6.heap.size) := Nat.le_trans HL_v5.out hb.size
          have HB_v6 : Hid (Below w.heap.size w v6) := HB_v5.out.trans (hb.mono HB_v5.out.size)
          have HK_v6 : Hid (RIn T w.heap.size v6 z3.g (.slice ad3 z3.g.length cap3)) := HK_v5.out.next hb
          clear hb hs
          by_cases h0 : z3.code ds = 0
          · have e0 : (((stepG ds z3.g z3.root).2 : Nat) : Int) = 0 := by have h : (stepG ds z3.g z3.root).2 = 0 := h0; rw [h]; rfl
            have HA : Hid (z3.adv ds = (z3.step ds, 0)) := by unfold Hid Rn.adv; rw [if_pos h0]
            have HKS : Hid (RIn T w.heap.size v6 (stepG ds z3.g z3.root).1 (.slice ad6 (stepG ds z3.g z3.root).1.length cap6)) := RIn.new (m := w.heap.size + 2) (HS6.out.mono (fun k hk => ⟨hk.1, Nat.le_trans HL_v5.out (hk.2 h0)⟩) (fun _ _ => rfl)) (Nat.le_refl _)
            have HN : Hid ((stepG ds z3.g z3.root).1.length ≤ 400) := (HO3.out.step HP.out HV3.out).len
            obtain ⟨gn, hgn⟩ : ∃ gn, gn = (stepG ds z3.g z3.root).1 := ⟨_, rfl⟩
            have HSTP : Hid (z3.step ds = { z3 with g := gn, steps := z3.steps + 1, peak := max z3.peak gn.length }) := by rw [hgn]; rfl
            rw [← hgn] at HKS HN ⊢
            rw [e0]
            have hn4 := HN.out
            have hbs := HBD3.out.1
            have hbp := HBD3.out.3
            have t3 : ((0 : Int) == 3) = false := by decide
            clear e0 h0 hgn
            have x0 := cell_of_blk HX_v6.out 0 _ rfl
            have x1 := cell_of_blk HX_v6.out 1 _ rfl
            have x2 := cell_of_blk HX_v6.out 2 _ rfl
            have x3 := cell_of_blk HX_v6.out 3 _ rfl
            have x4 := cell_of_blk HX_v6.out 4 _ rfl
            have x5 := cell_of_blk HX_v6.out 5 _ rfl
            have x6 := cell_of_blk HX_v6.out 6 _ rfl
            have fx := frz_of_blk HX_v6.out
            have y0 := cell_of_blk HY_v6.out 0 _ rfl
            have y1 := cell_of_blk HY_v6.out 1 _ rfl
            have y2 := cell_of_blk HY_v6.out 2 _ rfl
            have y3 := cell_of_blk HY_v6.out 3 _ rfl
            have y4 := cell_of_blk HY_v6.out 4 _ rfl
            have y5 := cell_of_blk HY_v6.out 5 _ rfl
            have y6 := cell_of_blk HY_v6.out 6 _ rfl
            have fy := frz_of_blk HY_v6.out
            go_wp2_with fail
            · have hm : max z3.peak (gn.length : Int) = (gn.length : Int) := by omega
              refine bodyPost_ret (v := .tuple #[.agg #[(.slice ad6 gn.length cap6), .int .i64 (z3.root : Int), .int .i64 (z3.steps + 1), .int .i64 z3.moved, .int .i64 (gn.length : Int), .int .i64 z3.ticks, .int .i64 z3.rounds], .int .i64 0]) (by simp [results, Tryz.results28, go_sem, y0, y1, y2, y3, y4, y5, y6, fy]) rfl ?_
              rw [HTC.out, HA.out, HSTP.out, hm]
              refine ⟨_, rfl, (RIn.far (n := w.heap.size) (RIn.far (n := w.heap.size) (w' := (((v6.setCell ⟨w.heap.size, 0, none⟩ (.slice ad6 gn.length cap6)).setCell ⟨w.heap.size, 2, none⟩ (.int .i64 (z3.steps + 1))).setCell ⟨w.heap.size, 4, none⟩ (.int .i64 (gn.length : Int)))) HKS.out (fun k h1 h2 => ?_) ?_) (fun k h1 h2 => st7_far h2) st7_size).outT, st7_below ?_ (by omega)⟩
              · exact (Below.heap_setCell _ _ _ _ h1).trans ((Below.heap_setCell _ _ _ _ h1).trans (Below.heap_setCell _ _ _ _ h1))
              · rw [size_setCell, size_setCell, size_setCell]
              · exact ((HB_v6.out.setCell (Nat.le_refl _) _).setCell (Nat.le_refl _) _).setCell (Nat.le_refl _) _
            · have hm : max z3.peak (gn.length : Int) = z3.peak := by omega
              refine bodyPost_ret (v := .tuple #[.agg #[(.slice ad6 gn.length cap6), .int .i64 (z3.root : Int), .int .i64 (z3.steps + 1), .int .i64 z3.moved, .int .i64 z3.peak, .int .i64 z3.ticks, .int .i64 z3.rounds], .int .i64 0]) (by simp [results, Tryz.results28, go_sem, y0, y1, y2, y3, y4, y5, y6, fy]) rfl ?_
              rw [HTC.out, HA.out, HSTP.out, hm]
              refine ⟨_, rfl, (RIn.far (n := w.heap.size) (RIn.far (n := w.heap.size) (w' := ((v6.setCell ⟨w.heap.size, 0, none⟩ (.slice ad6 gn.length cap6)).setCell ⟨w.heap.size, 2, none⟩ (.int .i64 (z3.steps + 1)))) HKS.out (fun k h1 h2 => ?_) ?_) (fun k h1 h2 => st7_far h2) st7_size).outT, st7_below ?_ (by omega)⟩
              · exact (Below.heap_setCell _ _ _ _ h1).trans (Below.heap_setCell _ _ _ _ h1)
              · rw [size_setCell, size_setCell]
              · exact (HB_v6.out.setCell (Nat.le_refl _) _).setCell (Nat.le_refl _) _
          · have HA : Hid (z3.adv ds = (z3, z3.code ds)) := by unfold Hid Rn.adv; rw [if_neg h0]
            have t0 : ((((stepG ds z3.g z3.root).2 : Nat) : Int) != 0) = true := by simp; exact h0
            clear h0
            have x0 := cell_of_blk HX_v6.out 0 _ rfl
            have x1 := cell_of_blk HX_v6.out 1 _ rfl
            have x2 := cell_of_blk HX_v6.out 2 _ rfl
            have x3 := cell_of_blk HX_v6.out 3 _ rfl
            have x4 := cell_of_blk HX_v6.out 4 _ rfl
            have x5 := cell_of_blk HX_v6.out 5 _ rfl
            have x6 := cell_of_blk HX_v6.out 6 _ rfl
            have fx := frz_of_blk HX_v6.out
            have y0 := cell_of_blk HY_v6.out 0 _ rfl
            have y1 := cell_of_blk HY_v6.out 1 _ rfl
            have y2 := cell_of_blk HY_v6.out 2 _ rfl
            have y3 := cell_of_blk HY_v6.out 3 _ rfl
            have y4 := cell_of_blk HY_v6.out 4 _ rfl
            have y5 := cell_of_blk HY_v6.out 5 _ rfl
            have y6 := cell_of_blk HY_v6.out 6 _ rfl
            have fy := frz_of_blk HY_v6.out
            go_wp2_with fail
            refine bodyPost_ret (v := .tuple #[.agg #[(.slice ad3 z3.g.length cap3), .int .i64 (z3.root : Int), .int .i64 z3.steps, .int .i64 z3.moved, .int .i64 z3.peak, .int .i64 z3.ticks, .int .i64 z3.rounds], .int .i64 ((stepG ds z3.g z3.root).2 : Int)]) (by simp [results, Tryz.results28, go_sem, y0, y1, y2, y3, y4, y5, y6, fy]) rfl ?_
            rw [HTC.out, HA.out]
            exact ⟨_, rfl, (RIn.far (HK_v6.out) (fun k h1 h2 => st7_far h2) st7_size).outT, st7_below HB_v6.out (by omega)⟩
      · have HC3 : Hid (x.tic2 ds tidy = x.adv ds) := by unfold Hid Rn.tic2; rw [if_neg h3]
        have t3 : ((((stepG ds x.g x.root).2 : Nat) : Int) == 3) = false := by rw [beq_eq_false_iff_ne]; intro h; apply h3; show (stepG ds x.g x.root).2 = 3; omega
        have HTC : Hid (x.tick ds limit tidy = x.adv ds) := HTA.out.trans HC3.out
        clear h3
        by_cases h0 : x.code ds = 0
        · have e0 : (((stepG ds x.g x.root).2 : Nat) : Int) = 0 := by have h : (stepG ds x.g x.root).2 = 0 := h0; rw [h]; rfl
          have HA : Hid (x.adv ds = (x.step ds, 0)) := by unfold Hid Rn.adv; rw [if_pos h0]
          have HKS : Hid (RIn T w.heap.size v2 (stepG ds x.g x.root).1 (.slice ads (stepG ds x.g x.root).1.length caps)) := RIn.new (m := w.heap.size + 2) (HS.out.mono (fun k hk => ⟨hk.1, Nat.le_trans HL_v1.out (hk.2 h0)⟩) (fun _ _ => rfl)) (Nat.le_refl _)
          have HN : Hid ((stepG ds x.g x.root).1.length ≤ 400) := (HO1.out.step HP.out HVT.out).len
          obtain ⟨gn, hgn⟩ : ∃ gn, gn = (stepG ds x.g x.root).1 := ⟨_, rfl⟩
          have HSTP : Hid (x.step ds = { x with g := gn, steps := x.steps + 1, peak := max x.peak gn.length }) := by rw [hgn]; rfl
          rw [← hgn] at HKS HN ⊢
          rw [e0]
          have hn4 := HN.out
          have hbs := HBD1.out.1
          have hbp := HBD1.out.3
          have t3 : ((0 : Int) == 3) = false := by decide
          clear e0 h0 hgn
          have x0 := cell_of_blk HX_v2.out 0 _ rfl
          have x1 := cell_of_blk HX_v2.out 1 _ rfl
          have x2 := cell_of_blk HX_v2.out 2 _ rfl
          have x3 := cell_of_blk HX_v2.out 3 _ rfl
          have x4 := cell_of_blk HX_v2.out 4 _ rfl
          have x5 := cell_of_blk HX_v2.out 5 _ rfl
          have x6 := cell_of_blk HX_v2.out 6 _ rfl
          have fx := frz_of_blk HX_v2.out
          have y0 := cell_of_blk HY_v2.out 0 _ rfl
          have y1 := cell_of_blk HY_v2.out 1 _ rfl
          have y2 := cell_of_blk HY_v2.out 2 _ rfl
          have y3 := cell_of_blk HY_v2.out 3 _ rfl
          have y4 := cell_of_blk HY_v2.out 4 _ rfl
          have y5 := cell_of_blk HY_v2.out 5 _ rfl
          have y6 := cell_of_blk HY_v2.out 6 _ rfl
          have fy := frz_of_blk HY_v2.out
          go_wp2_with fail
          · have hm : max x.peak (gn.length : Int) = (gn.length : Int) := by omega
            refine bodyPost_ret (v := .tuple #[.agg #[(.slice ads gn.length caps), .int .i64 (x.root : Int), .int .i64 (x.steps + 1), .int .i64 x.moved, .int .i64 (gn.length : Int), .int .i64 x.ticks, .int .i64 x.rounds], .int .i64 0]) (by simp [results, Tryz.results28, go_sem, y0, y1, y2, y3, y4, y5, y6, fy]) rfl ?_
            rw [HTC.out, HA.out, HSTP.out, hm]
            refine ⟨_, rfl, (RIn.far (n := w.heap.size) (RIn.far (n := w.heap.size) (w' := (((v2.setCell ⟨w.heap.size, 0, none⟩ (.slice ads gn.length caps)).setCell ⟨w.heap.size, 2, none⟩ (.int .i64 (x.steps + 1))).setCell ⟨w.heap.size, 4, none⟩ (.int .i64 (gn.length : Int)))) HKS.out (fun k h1 h2 => ?_) ?_) (fun k h1 h2 => st7_far h2) st7_size).outT, st7_below ?_ (by omega)⟩
            · exact (Below.heap_setCell _ _ _ _ h1).trans ((Below.heap_setCell _ _ _ _ h1).trans (Below.heap_setCell _ _ _ _ h1))
            · rw [size_setCell, size_setCell, size_setCell]
            · exact ((HB_v2.out.setCell (Nat.le_refl _) _).setCell (Nat.le_refl _) _).setCell (Nat.le_refl _) _
          · have hm : max x.peak (gn.length : Int) = x.peak := by omega
            refine bodyPost_ret (v := .tuple #[.agg #[(.slice ads gn.length caps), .int .i64 (x.root : Int), .int .i64 (x.steps + 1), .int .i64 x.moved, .int .i64 x.peak, .int .i64 x.ticks, .int .i64 x.rounds], .int .i64 0]) (by simp [results, Tryz.results28, go_sem, y0, y1, y2, y3, y4, y5, y6, fy]) rfl ?_
            rw [HTC.out, HA.out, HSTP.out, hm]
            refine ⟨_, rfl, (RIn.far (n := w.heap.size) (RIn.far (n := w.heap.size) (w' := ((v2.setCell ⟨w.heap.size, 0, none⟩ (.slice ads gn.length caps)).setCell ⟨w.heap.size, 2, none⟩ (.int .i64 (x.steps + 1)))) HKS.out (fun k h1 h2 => ?_) ?_) (fun k h1 h2 => st7_far h2) st7_size).outT, st7_below ?_ (by omega)⟩
            · exact (Below.heap_setCell _ _ _ _ h1).trans (Below.heap_setCell _ _ _ _ h1)
            · rw [size_setCell, size_setCell]
            · exact (HB_v2.out.setCell (Nat.le_refl _) _).setCell (Nat.le_refl _) _
        · have HA : Hid (x.adv ds = (x, x.code ds)) := by unfold Hid Rn.adv; rw [if_neg h0]
          have t0 : ((((stepG ds x.g x.root).2 : Nat) : Int) != 0) = true := by simp; exact h0
          clear h0
          have x0 := cell_of_blk HX_v2.out 0 _ rfl
          have x1 := cell_of_blk HX_v2.out 1 _ rfl
          have x2 := cell_of_blk HX_v2.out 2 _ rfl
          have x3 := cell_of_blk HX_v2.out 3 _ rfl
          have x4 := cell_of_blk HX_v2.out 4 _ rfl
          have x5 := cell_of_blk HX_v2.out 5 _ rfl
          have x6 := cell_of_blk HX_v2.out 6 _ rfl
          have fx := frz_of_blk HX_v2.out
          have y0 := cell_of_blk HY_v2.out 0 _ rfl
          have y1 := cell_of_blk HY_v2.out 1 _ rfl
          have y2 := cell_of_blk HY_v2.out 2 _ rfl
          have y3 := cell_of_blk HY_v2.out 3 _ rfl
          have y4 := cell_of_blk HY_v2.out 4 _ rfl
          have y5 := cell_of_blk HY_v2.out 5 _ rfl
          have y6 := cell_of_blk HY_v2.out 6 _ rfl
          have fy := frz_of_blk HY_v2.out
          go_wp2_with fail
          refine bodyPost_ret (v := .tuple #[.agg #[(.slice adg x.g.length capg), .int .i64 (x.root : Int), .int .i64 x.steps, .int .i64 x.moved, .int .i64 x.peak, .int .i64 x.ticks, .int .i64 x.rounds], .int .i64 ((stepG ds x.g x.root).2 : Int)]) (by simp [results, Tryz.results28, go_sem, y0, y1, y2, y3, y4, y5, y6, fy]) rfl ?_
          rw [HTC.out, HA.out]
          exact ⟨_, rfl, (RIn.far (HK_v2.out) (fun k h1 h2 => st7_far h2) st7_size).outT, st7_below HB_v2.out (by omega)⟩
end Go.Proofs.YtiipcgnkfhjpeaaGreatDoor
