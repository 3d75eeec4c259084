/-
  THE MODEL's collections of a run.
-/
import Derived.Test.YtiipcgnkfhjpeaaGreatDoorMgExactStepRun17
import Derived.Test.YtiipcgnkfhjpeaaGreatDoorMgExactStepRun23
import Derived.Test.YtiipcgnkfhjpeaaGreatDoorMgExactStepRun27
namespace Go.Proofs.YtiipcgnkfhjpeaaGreatDoor
set_option linter.unusedVariables false
set_option linter.unusedSimpArgs false
open Go.RowKit

/-- the fields of a run -/
def rnC (gv : Value) (x : Rn) : Array Value := #[gv, .int .i64 (x.root : Int), .int .i64 x.steps, .int .i64 x.moved, .int .i64 x.peak, .int .i64 x.ticks, .int .i64 x.rounds]
/-- a run by value, its graph in memory -/
def GotR (x : Rn) (w : World) (e : Ending) (w' : World) : Prop := ∃ gv, e = .returned (.agg (rnC gv x)) ∧ CellsOn w' (fun k => k < w'.heap.size ∧ w.heap.size + 2 ≤ k) x.g gv ∧ Below w.heap.size w w'
/-- .. and a code -/
def GotRC (r : Rn × Nat) (w : World) (e : Ending) (w' : World) : Prop := ∃ gv, e = .returned (.tuple #[.agg (rnC gv r.1), .int .i64 (r.2 : Int)]) ∧ CIn w' r.1.g gv ∧ Below w.heap.size w w'
/-- a run with no cells in the place of a result -/
def rn0 : Array Value := #[.slice none 0 0, .int .i64 0, .int .i64 0, .int .i64 0, .int .i64 0, .int .i64 0, .int .i64 0]

/-- the blocks from n on stay -/
def Far (w w' : World) (n : Nat) : Prop := ∀ k, n ≤ k → w'.heap[k]? = w.heap[k]?
theorem Far.refl (w : World) (n : Nat) : Far w w n := fun _ _ => rfl
theorem Far.set {w w' : World} {n : Nat} (h : Far w w' n) {a : Addr} (ha : a.block < n) (v : Value) : Far w (w'.setCell a v) n := fun k hk => (Below.heap_setCell _ _ _ _ (by omega)).trans (h k hk)
theorem OwnC.far {w w' : World} {lo : Nat} {g : List Ce} {v : Value} (h : OwnC w lo (fun k => lo ≤ k) g v) (hf : Far w w' lo) : OwnC w' lo (fun k => lo ≤ k) g v :=
  h.next (fun _ h _ => h) (fun k hk _ => hf k (by obtain ⟨ys, hy⟩ := h.row; exact (hy.lt k hk.symm).1)) (fun k hk _ => hf k hk)
set_option maxRecDepth 100000 in
set_option maxHeartbeats 3200000 in
theorem l6Collect_calls (ds : List Df) (x : Rn) (tidy : Bool) (gv : Value) (w : World) (hk : CIn w x.g gv) (ho : x.Ok ds) (hb : x.Bd 1000000000) :
    Calls Tryz.prog 54 #[.agg (rnC gv x), .bool tidy] w (GotR (x.col tidy) w) := by
  have HK : Hid (CIn w x.g gv) := hk
  have HO := mkHid ho
  have HP := mkHid (preC_ok tidy ho.1)
  have HG6 := mkHid (graphB_six ho.1)
  obtain ⟨bs, bm, bp, bt, br⟩ := hb
  have HCL : Hid (((x.col tidy).g.length : Int) ≤ 400) := Int.ofNat_le.2 (ho.col tidy).len
  have HRT := mkHid ho.2
  obtain ⟨adg, capg, rfl, -, -, -⟩ := hk
  clear ho
  unfold rnC
  obtain ⟨W, hW⟩ : ∃ W, W = (w.alloc (.cells #[.slice adg x.g.length capg, .int .i64 (x.root : Int), .int .i64 x.steps, .int .i64 x.moved, .int .i64 x.peak, .int .i64 x.ticks, .int .i64 x.rounds] 30)).alloc (.cells rn0 30) := ⟨_, rfl⟩
  have HBX : Hid (Below w.heap.size w W) := by rw [hW]; exact (box_below _ _).alloc (by rw [Deep.nblk_alloc]; omega) _
  have HX : Hid (W.heap[w.heap.size]? = some (.cells #[.slice adg x.g.length capg, .int .i64 (x.root : Int), .int .i64 x.steps, .int .i64 x.moved, .int .i64 x.peak, .int .i64 x.ticks, .int .i64 x.rounds] 30)) := by
    rw [hW]; exact (Deep.blk_alloc_lt _ _ _ (by rw [Deep.nblk_alloc]; omega)).trans (Deep.blk_alloc_new _ _)
  have HY : Hid (W.heap[w.heap.size + 1]? = some (.cells rn0 30)) := by
    have h := Deep.blk_alloc_new (w.alloc (.cells #[.slice adg x.g.length capg, .int .i64 (x.root : Int), .int .i64 x.steps, .int .i64 x.moved, .int .i64 x.peak, .int .i64 x.ticks, .int .i64 x.rounds] 30)) (.cells rn0 30)
    rw [Deep.nblk_alloc] at h
    rw [hW]; exact h
  have HZ : Hid (W.heap.size = w.heap.size + 2) := by rw [hW, Hid, Deep.nblk_alloc, Deep.nblk_alloc]
  unfold rn0 at hW HY
  go_enter Tryz.func54, Tryz.ntmps54
  cases tidy with
  | true =>
    go_wp2_with fail
    rw [← hW]
    clear hW
    have HK1 := mkHid (HK.out.next HBX.out)
    refine (l5Select_calls x.g _ W HK1.out HG6.out).mono ?_
    rintro e w2 ⟨gv2, rfl, ho2, hb2⟩
    obtain ⟨ad2, cap2, rfl⟩ := ho2.form
    have HO2 := mkHid (ho2.cin fun k h _ => h)
    have HB2 := mkHid hb2
    have HX2 := mkHid ((hb2.block _ (by rw [HZ.out]; omega)).trans HX.out)
    have HY2 := mkHid ((hb2.block _ (by rw [HZ.out]; omega)).trans HY.out)
    have HL2 : Hid (w.heap.size + 2 ≤ w2.heap.size) := by have := hb2.size; have := HZ.out; unfold Hid; omega
    have HBW2 : Hid (Below w.heap.size w w2) := HBX.out.trans (hb2.mono HBX.out.size)
    clear ho2 hb2
    have x1 := cell_of_blk HX2.out 1 _ rfl
    have HO1 := mkHid (one_in w2 x.root)
    have HSZ : Hid ((w2.alloc (.cells #[.int .i64 (x.root : Int)] 3)).heap.size = w2.heap.size + 1) := Deep.nblk_alloc _ _
    have HX3 := mkHid (((box_below w2 (.cells #[.int .i64 (x.root : Int)] 3)).block _ (by have := HL2.out; omega)).trans HX2.out)
    have HY3 := mkHid (((box_below w2 (.cells #[.int .i64 (x.root : Int)] 3)).block _ (by have := HL2.out; omega)).trans HY2.out)
    go_wp2_with fail
    refine (l5Collect_calls (selRes x.g).1 [x.root] _ _ _ (HO2.out.next (box_below _ _)) HO1.out (graphB_six HP.out.1) (fun y hy => by rw [List.mem_singleton] at hy; subst hy; exact Nat.lt_of_lt_of_eq HRT.out HP.out.2.symm) (by simp)).mono ?_
    rintro e w3 ⟨gv3, tv3, rfl, ho3, hs3, hb3⟩
    change OwnC w3 _ _ (colG true x.g x.root) gv3 at ho3
    change Stk w3 _ ([] ++ [colA true x.g x.root]) tv3 at hs3
    obtain ⟨b, cap3, rfl, hlb, -, -, -, hi3, -⟩ := hs3.top
    obtain ⟨ad4, cap4, rfl⟩ := ho3.form
    have HBW3 : Hid (Below w.heap.size w w3) := (HBW2.out.trans ((box_below _ _).mono HBW2.out.size)).trans (hb3.mono (by rw [HSZ.out]; have := HL2.out; omega))
    have HX4 := mkHid ((hb3.block _ (by rw [HSZ.out]; have := HL2.out; omega)).trans HX3.out)
    have HY4 := mkHid ((hb3.block _ (by rw [HSZ.out]; have := HL2.out; omega)).trans HY3.out)
    have HO4 := mkHid (ho3.lower (lo' := w.heap.size + 2) (S' := fun k => w.heap.size + 2 ≤ k) (by rw [HSZ.out]; have := HL2.out; omega) (fun k hk => by rw [HSZ.out] at hk; have := HL2.out; omega))
    have hbX : w.heap.size ≠ b := by rw [HSZ.out] at hlb; have := HL2.out; omega
    have hi4 : (w3.setCell ⟨w.heap.size, 0, none⟩ (.slice ad4 (colG true x.g x.root).length cap4)).cell? ⟨b, 0, none⟩ = some (.int .i64 (colA true x.g x.root : Int)) := (World.cell?_setCell_far _ _ _ _ (by show w.heap.size ≠ b; exact hbX)).trans hi3
    have h400 : ((colG true x.g x.root).length : Int) ≤ 400 := HCL.out
    clear ho3 hs3 hb3 hi3 x1 hlb
    have x1 := cell_of_blk HX4.out 1 _ rfl
    have x2 := cell_of_blk HX4.out 2 _ rfl
    have x3 := cell_of_blk HX4.out 3 _ rfl
    have x4 := cell_of_blk HX4.out 4 _ rfl
    have x5 := cell_of_blk HX4.out 5 _ rfl
    have x6 := cell_of_blk HX4.out 6 _ rfl
    have x0 := cell_of_blk HX4.out 0 _ rfl
    have y0 := cell_of_blk HY4.out 0 _ rfl
    have y1 := cell_of_blk HY4.out 1 _ rfl
    have y2 := cell_of_blk HY4.out 2 _ rfl
    have y3 := cell_of_blk HY4.out 3 _ rfl
    have y4 := cell_of_blk HY4.out 4 _ rfl
    have y5 := cell_of_blk HY4.out 5 _ rfl
    have y6 := cell_of_blk HY4.out 6 _ rfl
    have fx := frz_of_blk HX4.out
    have fy := frz_of_blk HY4.out
    go_wp2_with fail
    refine bodyPost_ret (v := .agg (rnC (.slice ad4 (colG true x.g x.root).length cap4) (x.col true))) (by simp [results, Tryz.results54, go_sem, y0, y1, y2, y3, y4, y5, y6, fy, rnC, Rn.col]) rfl ?_
    refine ⟨_, rfl, ?_, ?_⟩
    · refine ((HO4.out.far ?_).own fun k h _ => h).onS fun k hk hz => ⟨hz, (List.mem_range'_1.1 hk).1⟩
      repeat' (refine Far.set ?_ (by simp) _)
      exact Far.refl _ _
    · repeat' (refine Below.setCell ?_ (by simp) _)
      exact HBW3.out
  | false =>
    go_wp2_with fail
    rw [← hW]
    clear hW
    have HK1 := mkHid (HK.out.next HBX.out)
    have HX2 := HX
    have HY2 := HY
    have HL2 : Hid (w.heap.size + 2 ≤ W.heap.size) := by have := HZ.out; unfold Hid; omega
    have HBW2 := HBX
    have HO2 := HK1
    have x1 := cell_of_blk HX2.out 1 _ rfl
    have HO1 : Hid (IIn (W.alloc (.cells #[.int .i64 (x.root : Int)] 3)) [(x.root : Int)] (.slice (some ⟨w.heap.size + 1 + 1, 0, none⟩) 1 1)) := by have h := one_in W x.root; rw [HZ.out] at h; exact h
    have HSZ : Hid ((W.alloc (.cells #[.int .i64 (x.root : Int)] 3)).heap.size = W.heap.size + 1) := Deep.nblk_alloc _ _
    have HX3 := mkHid (((box_below W (.cells #[.int .i64 (x.root : Int)] 3)).block _ (by have := HL2.out; omega)).trans HX2.out)
    have HY3 := mkHid (((box_below W (.cells #[.int .i64 (x.root : Int)] 3)).block _ (by have := HL2.out; omega)).trans HY2.out)
    refine (l5Collect_calls x.g [x.root] _ _ _ (HO2.out.next (box_below _ _)) HO1.out HG6.out (fun y hy => by rw [List.mem_singleton] at hy; subst hy; exact HRT.out) (by simp)).mono ?_
    rintro e w3 ⟨gv3, tv3, rfl, ho3, hs3, hb3⟩
    change OwnC w3 _ _ (colG false x.g x.root) gv3 at ho3
    change Stk w3 _ ([] ++ [colA false x.g x.root]) tv3 at hs3
    obtain ⟨b, cap3, rfl, hlb, -, -, -, hi3, -⟩ := hs3.top
    obtain ⟨ad4, cap4, rfl⟩ := ho3.form
    have HBW3 : Hid (Below w.heap.size w w3) := (HBW2.out.trans ((box_below _ _).mono HBW2.out.size)).trans (hb3.mono (by rw [HSZ.out]; have := HL2.out; omega))
    have HX4 := mkHid ((hb3.block _ (by rw [HSZ.out]; have := HL2.out; omega)).trans HX3.out)
    have HY4 := mkHid ((hb3.block _ (by rw [HSZ.out]; have := HL2.out; omega)).trans HY3.out)
    have HO4 := mkHid (ho3.lower (lo' := w.heap.size + 2) (S' := fun k => w.heap.size + 2 ≤ k) (by rw [HSZ.out]; have := HL2.out; omega) (fun k hk => by rw [HSZ.out] at hk; have := HL2.out; omega))
    have hbX : w.heap.size ≠ b := by rw [HSZ.out] at hlb; have := HL2.out; omega
    have hi4 : (w3.setCell ⟨w.heap.size, 0, none⟩ (.slice ad4 (colG false x.g x.root).length cap4)).cell? ⟨b, 0, none⟩ = some (.int .i64 (colA false x.g x.root : Int)) := (World.cell?_setCell_far _ _ _ _ (by show w.heap.size ≠ b; exact hbX)).trans hi3
    have h400 : ((colG false x.g x.root).length : Int) ≤ 400 := HCL.out
    clear ho3 hs3 hb3 hi3 x1 hlb
    have x1 := cell_of_blk HX4.out 1 _ rfl
    have x2 := cell_of_blk HX4.out 2 _ rfl
    have x3 := cell_of_blk HX4.out 3 _ rfl
    have x4 := cell_of_blk HX4.out 4 _ rfl
    have x5 := cell_of_blk HX4.out 5 _ rfl
    have x6 := cell_of_blk HX4.out 6 _ rfl
    have x0 := cell_of_blk HX4.out 0 _ rfl
    have y0 := cell_of_blk HY4.out 0 _ rfl
    have y1 := cell_of_blk HY4.out 1 _ rfl
    have y2 := cell_of_blk HY4.out 2 _ rfl
    have y3 := cell_of_blk HY4.out 3 _ rfl
    have y4 := cell_of_blk HY4.out 4 _ rfl
    have y5 := cell_of_blk HY4.out 5 _ rfl
    have y6 := cell_of_blk HY4.out 6 _ rfl
    have fx := frz_of_blk HX4.out
    have fy := frz_of_blk HY4.out
    go_wp2_with fail
    refine bodyPost_ret (v := .agg (rnC (.slice ad4 (colG false x.g x.root).length cap4) (x.col false))) (by simp [results, Tryz.results54, go_sem, y0, y1, y2, y3, y4, y5, y6, fy, rnC, Rn.col]) rfl ?_
    refine ⟨_, rfl, ?_, ?_⟩
    · refine ((HO4.out.far ?_).own fun k h _ => h).onS fun k hk hz => ⟨hz, (List.mem_range'_1.1 hk).1⟩
      repeat' (refine Far.set ?_ (by simp) _)
      exact Far.refl _ _
    · repeat' (refine Below.setCell ?_ (by simp) _)
      exact HBW3.out
end Go.Proofs.YtiipcgnkfhjpeaaGreatDoor
