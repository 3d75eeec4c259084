/-
  THE MODEL's collections of a run.
-/
import Derived.Test.YtidijbnoaeopdaaGreatDoorMgExactPeakCells16
import Derived.Test.YtidijbnoaeopdaaGreatDoorMgExactPeakCells21
import Derived.Test.YtidijbnoaeopdaaGreatDoorMgExactPeakCells25
import Derived.Test.YtidijbnoaeopdaaGreatDoorMgExactPeakCells1
import Derived.Test.YtidijbnoaeopdaaGreatDoorProg
import Derived.Deep.RegionHeld3
import Derived.Deep.RegionWith
import Derived.Deep.DeepMust
import Derived.BigRegion
import Derived.Test.YtidijbnoaeopdaaGreatDoorMgExactPeakCells11
import Derived.Test.YtidijbnoaeopdaaGreatDoorMgExactPeakCells15
import Derived.Test.YtidijbnoaeopdaaGreatDoorMgExactPeakCells8
import Derived.Test.YtidijbnoaeopdaaGreatDoorMgExactPeakCells13
namespace Go.Proofs.YtidijbnoaeopdaaGreatDoor
set_option linter.unusedVariables false
set_option linter.unusedSimpArgs false
open Go.RowKit

/-- the fields of a run -/
def rnC (gv : Value) (x : Rn) : Array Value := #[gv, .int .i64 (x.root : Int), .int .i64 x.steps, .int .i64 x.moved, .int .i64 x.peak, .int .i64 x.ticks, .int .i64 x.rounds]
/-- a run by value, its graph in memory -/
def GotR (x : Rn) (w : World) (e : Ending) (w' : World) : Prop := ∃ gv, e = .returned (.agg (rnC gv x)) ∧ CellsOn w' (fun k => k < w'.heap.size ∧ w.heap.size + 2 ≤ k) x.g gv ∧ Below w.heap.size w w'
/-- a run with no cells in the place of a result -/
def rn0 : Array Value := #[.slice none 0 0, .int .i64 0, .int .i64 0, .int .i64 0, .int .i64 0, .int .i64 0, .int .i64 0]

/-- the blocks from n on stay -/
def Far (w w' : World) (n : Nat) : Prop := ∀ k, n ≤ k → w'.heap[k]? = w.heap[k]?
theorem Far.refl (w : World) (n : Nat) : Far w w n := fun _ _ => rfl
theorem Far.set {w w' : World} {n : Nat} (h : Far w w' n) {a : Addr} (ha : a.block < n) (v : Value) : Far w (w'.setCell a v) n := fun k hk => (Below.heap_setCell _ _ _ _ (by omega)).trans (h k hk)
theorem OwnC.far {w w' : World} {lo : Nat} {g : List Ce} {v : Value} (h : OwnC w lo (fun k => lo ≤ k) g v) (hf : Far w w' lo) : OwnC w' lo (fun k => lo ≤ k) g v :=
  h.next (fun _ h _ => h) (fun k hk _ => hf k (by obtain ⟨ys, hy⟩ := h.row; exact (hy.lt k hk.symm).1)) (fun k hk _ => hf k hk)
set_option maxRecDepth 100000 in
set_option maxHeartbeats 3200000 in
theorem l6Collect_calls (ds : List Df) (x : Rn) (tidy : Bool) (gv : Value) (w : World) (hk : CIn w x.g gv) (ho : x.Ok ds) (hb : x.Bd 1000000000) :
    Calls Tryz.prog 58 #[.agg (rnC gv x), .bool tidy] w (GotR (x.col tidy) w) := by
  have HK : Hid (CIn w x.g gv) := hk
  have HO := mkHid ho
  have HP := mkHid (preC_ok tidy ho.1)
  have HG6 := mkHid (graphB_six ho.1)
  obtain ⟨bs, bm, bp, bt, br⟩ := hb
  have HCL : Hid (((x.col tidy).g.length : Int) ≤ 400) := Int.ofNat_le.2 (ho.col tidy).len
  have HRT := mkHid ho.2
  obtain ⟨adg, capg, rfl, -, -, -⟩ := hk
  clear ho
  unfold rnC
  obtain ⟨W, hW⟩ : ∃ W, W = (w.alloc (.cells #[.slice adg x.g.length capg, .int .i64 (x.root : Int), .int .i64 x.steps, .int .i64 x.moved, .int .i64 x.peak, .int .i64 x.ticks, .int .i64 x.rounds] 30)).alloc (.cells rn0 30) := ⟨_, rfl⟩
  have HBX : Hid (Below w.heap.size w W) := by rw [hW]; exact (box_below _ _).alloc (by rw [Deep.nblk_alloc]; omega) _
  have HX : Hid (W.heap[w.heap.size]? = some (.cells #[.slice adg x.g.length capg, .int .i64 (x.root : Int), .int .i64 x.steps, .int .i64 x.moved, .int .i64 x.peak, .int .i64 x.ticks, .int .i64 x.rounds] 30)) := by
    rw [hW]; exact (Deep.blk_alloc_lt _ _ _ (by rw [Deep.nblk_alloc]; omega)).trans (Deep.blk_alloc_new _ _)
  have HY : Hid (W.heap[w.heap.size + 1]? = some (.cells rn0 30)) := by
    have h := Deep.blk_alloc_new (w.alloc (.cells #[.slice adg x.g.length capg, .int .i64 (x.root : Int), .int .i64 x.steps, .int .i64 x.moved, .int .i64 x.peak, .int .i64 x.ticks, .int .i64 x.rounds] 30)) (.cells rn0 30)
    rw [Deep.nblk_alloc] at h
    rw [hW]; exact h
  have HZ : Hid (W.heap.size = w.heap.size + 2) := by rw [hW, Hid, Deep.nblk_alloc, Deep.nblk_alloc]
  unfold rn0 at hW HY
  go_enter Tryz.func58, Tryz.ntmps58
  cases tidy with
  | true =>
    go_wp2_with fail
    rw [← hW]
    clear hW
    have HK1 := mkHid (HK.out.next HBX.out)
    refine (l5Select_calls x.g _ W HK1.out HG6.out).mono ?_
    rintro e w2 ⟨gv2, rfl, ho2, hb2⟩
    obtain ⟨ad2, cap2, rfl⟩ := ho2.form
    have HO2 := mkHid (ho2.cin fun k h _ => h)
    have HB2 := mkHid hb2
    have HX2 := mkHid ((hb2.block _ (by rw [HZ.out]; omega)).trans HX.out)
    have HY2 := mkHid ((hb2.block _ (by rw [HZ.out]; omega)).trans HY.out)
    have HL2 : Hid (w.heap.size + 2 ≤ w2.heap.size) := by have := hb2.size; have := HZ.out; unfold Hid; omega
    have HBW2 : Hid (Below w.heap.size w w2) := HBX.out.trans (hb2.mono HBX.out.size)
    clear ho2 hb2
    have x1 := cell_of_blk HX2.out 1 _ rfl
    have HO1 := mkHid (one_in w2 x.root)
    have HSZ : Hid ((w2.alloc (.cells #[.int .i64 (x.root : Int)] 3)).heap.size = w2.heap.size + 1) := Deep.nblk_alloc _ _
    have HX3 := mkHid (((box_below w2 (.cells #[.int .i64 (x.root : Int)] 3)).block _ (by have := HL2.out; omega)).trans HX2.out)
    have HY3 := mkHid (((box_below w2 (.cells #[.int .i64 (x.root : Int)] 3)).block _ (by have := HL2.out; omega)).trans HY2.out)
    go_wp2_with fail
    refine (l5Collect_calls (selRes x.g).1 [x.root] _ _ _ (HO2.out.next (box_below _ _)) HO1.out (graphB_six HP.out.1) (fun y hy => by rw [List.mem_singleton] at hy; subst hy; exact Nat.lt_of_lt_of_eq HRT.out HP.out.2.symm) (by simp)).mono ?_
    rintro e w3 ⟨gv3, tv3, rfl, ho3, hs3, hb3⟩
    change OwnC w3 _ _ (colG true x.g x.root) gv3 at ho3
    change Stk w3 _ ([] ++ [colA true x.g x.root]) tv3 at hs3
    obtain ⟨b, cap3, rfl, hlb, -, -, -, hi3, -⟩ := hs3.top
    obtain ⟨ad4, cap4, rfl⟩ := ho3.form
    have HBW3 : Hid (Below w.heap.size w w3) := (HBW2.out.trans ((box_below _ _).mono HBW2.out.size)).trans (hb3.mono (by rw [HSZ.out]; have := HL2.out; omega))
    have HX4 := mkHid ((hb3.block _ (by rw [HSZ.out]; have := HL2.out; omega)).trans HX3.out)
    have HY4 := mkHid ((hb3.block _ (by rw [HSZ.out]; have := HL2.out; omega)).trans HY3.out)
    have HO4 := mkHid (ho3.lower (lo' := w.heap.size + 2) (S' := fun k => w.heap.size + 2 ≤ k) (by rw [HSZ.out]; have := HL2.out; omega) (fun k hk => by rw [HSZ.out] at hk; have := HL2.out; omega))
    have hbX : w.heap.size ≠ b := by rw [HSZ.out] at hlb; have := HL2.out; omega
    have hi4 : (w3.setCell ⟨w.heap.size, 0, none⟩ (.slice ad4 (colG true x.g x.root).length cap4)).cell? ⟨b, 0, none⟩ = some (.int .i64 (colA true x.g x.root : Int)) := (World.cell?_setCell_far _ _ _ _ (by show w.heap.size ≠ b; exact hbX)).trans hi3
    have h400 : ((colG true x.g x.root).length : Int) ≤ 400 := HCL.out
    clear ho3 hs3 hb3 hi3 x1 hlb
    have x1 := cell_of_blk HX4.out 1 _ rfl
    have x2 := cell_of_blk HX4.out 2 _ rfl
    have x3 := cell_of_blk HX4.out 3 _ rfl
    have x4 := cell_of_blk HX4.out 4 _ rfl
    have x5 := cell_of_blk HX4.out 5 _ rfl
    have x6 := cell_of_blk HX4.out 6 _ rfl
    have x0 := cell_of_blk HX4.out 0 _ rfl
    have y0 := cell_of_blk HY4.out 0 _ rfl
    have y1 := cell_of_blk HY4.out 1 _ rfl
    have y2 := cell_of_blk HY4.out 2 _ rfl
    have y3 := cell_of_blk HY4.out 3 _ rfl
    have y4 := cell_of_blk HY4.out 4 _ rfl
    have y5 := cell_of_blk HY4.out 5 _ rfl
    have y6 := cell_of_blk HY4.out 6 _ rfl
    have fx := frz_of_blk HX4.out
    have fy := frz_of_blk HY4.out
    go_wp2_with fail
    refine bodyPost_ret (v := .agg (rnC (.slice ad4 (colG true x.g x.root).length cap4) (x.col true))) (by simp [results, Tryz.results58, go_sem, y0, y1, y2, y3, y4, y5, y6, fy, rnC, Rn.col]) rfl ?_
    refine ⟨_, rfl, ?_, ?_⟩
    · refine ((HO4.out.far ?_).own fun k h _ => h).onS fun k hk hz => ⟨hz, (List.mem_range'_1.1 hk).1⟩
      repeat' (refine Far.set ?_ (by simp) _)
      exact Far.refl _ _
    · repeat' (refine Below.setCell ?_ (by simp) _)
      exact HBW3.out
  | false =>
    go_wp2_with fail
    rw [← hW]
    clear hW
    have HK1 := mkHid (HK.out.next HBX.out)
    have HX2 := HX
    have HY2 := HY
    have HL2 : Hid (w.heap.size + 2 ≤ W.heap.size) := by have := HZ.out; unfold Hid; omega
    have HBW2 := HBX
    have HO2 := HK1
    have x1 := cell_of_blk HX2.out 1 _ rfl
    have HO1 : Hid (IIn (W.alloc (.cells #[.int .i64 (x.root : Int)] 3)) [(x.root : Int)] (.slice (some ⟨w.heap.size + 1 + 1, 0, none⟩) 1 1)) := by have h := one_in W x.root; rw [HZ.out] at h; exact h
    have HSZ : Hid ((W.alloc (.cells #[.int .i64 (x.root : Int)] 3)).heap.size = W.heap.size + 1) := Deep.nblk_alloc _ _
    have HX3 := mkHid (((box_below W (.cells #[.int .i64 (x.root : Int)] 3)).block _ (by have := HL2.out; omega)).trans HX2.out)
    have HY3 := mkHid (((box_below W (.cells #[.int .i64 (x.root : Int)] 3)).block _ (by have := HL2.out; omega)).trans HY2.out)
    refine (l5Collect_calls x.g [x.root] _ _ _ (HO2.out.next (box_below _ _)) HO1.out HG6.out (fun y hy => by rw [List.mem_singleton] at hy; subst hy; exact HRT.out) (by simp)).mono ?_
    rintro e w3 ⟨gv3, tv3, rfl, ho3, hs3, hb3⟩
    change OwnC w3 _ _ (colG false x.g x.root) gv3 at ho3
    change Stk w3 _ ([] ++ [colA false x.g x.root]) tv3 at hs3
    obtain ⟨b, cap3, rfl, hlb, -, -, -, hi3, -⟩ := hs3.top
    obtain ⟨ad4, cap4, rfl⟩ := ho3.form
    have HBW3 : Hid (Below w.heap.size w w3) := (HBW2.out.trans ((box_below _ _).mono HBW2.out.size)).trans (hb3.mono (by rw [HSZ.out]; have := HL2.out; omega))
    have HX4 := mkHid ((hb3.block _ (by rw [HSZ.out]; have := HL2.out; omega)).trans HX3.out)
    have HY4 := mkHid ((hb3.block _ (by rw [HSZ.out]; have := HL2.out; omega)).trans HY3.out)
    have HO4 := mkHid (ho3.lower (lo' := w.heap.size + 2) (S' := fun k => w.heap.size + 2 ≤ k) (by rw [HSZ.out]; have := HL2.out; omega) (fun k hk => by rw [HSZ.out] at hk; have := HL2.out; omega))
    have hbX : w.heap.size ≠ b := by rw [HSZ.out] at hlb; have := HL2.out; omega
    have hi4 : (w3.setCell ⟨w.heap.size, 0, none⟩ (.slice ad4 (colG false x.g x.root).length cap4)).cell? ⟨b, 0, none⟩ = some (.int .i64 (colA false x.g x.root : Int)) := (World.cell?_setCell_far _ _ _ _ (by show w.heap.size ≠ b; exact hbX)).trans hi3
    have h400 : ((colG false x.g x.root).length : Int) ≤ 400 := HCL.out
    clear ho3 hs3 hb3 hi3 x1 hlb
    have x1 := cell_of_blk HX4.out 1 _ rfl
    have x2 := cell_of_blk HX4.out 2 _ rfl
    have x3 := cell_of_blk HX4.out 3 _ rfl
    have x4 := cell_of_blk HX4.out 4 _ rfl
    have x5 := cell_of_blk HX4.out 5 _ rfl
    have x6 := cell_of_blk HX4.out 6 _ rfl
    have x0 := cell_of_blk HX4.out 0 _ rfl
    have y0 := cell_of_blk HY4.out 0 _ rfl
    have y1 := cell_of_blk HY4.out 1 _ rfl
    have y2 := cell_of_blk HY4.out 2 _ rfl
    have y3 := cell_of_blk HY4.out 3 _ rfl
    have y4 := cell_of_blk HY4.out 4 _ rfl
    have y5 := cell_of_blk HY4.out 5 _ rfl
    have y6 := cell_of_blk HY4.out 6 _ rfl
    have fx := frz_of_blk HX4.out
    have fy := frz_of_blk HY4.out
    go_wp2_with fail
    refine bodyPost_ret (v := .agg (rnC (.slice ad4 (colG false x.g x.root).length cap4) (x.col false))) (by simp [results, Tryz.results58, go_sem, y0, y1, y2, y3, y4, y5, y6, fy, rnC, Rn.col]) rfl ?_
    refine ⟨_, rfl, ?_, ?_⟩
    · refine ((HO4.out.far ?_).own fun k h _ => h).onS fun k hk hz => ⟨hz, (List.mem_range'_1.1 hk).1⟩
      repeat' (refine Far.set ?_ (by simp) _)
      exact Far.refl _ _
    · repeat' (refine Below.setCell ?_ (by simp) _)
      exact HBW3.out
end Go.Proofs.YtidijbnoaeopdaaGreatDoor
/-
  THE MODEL's l6Copy AND l6Step.
-/
namespace Go.Proofs.YtidijbnoaeopdaaGreatDoor
set_option linter.unusedVariables false
set_option linter.unusedSimpArgs false
open Go.RowKit


/-- seven cells are stored in a box -/
theorem st7_blk {w : World} {B : Nat} {a0 a1 a2 a3 a4 a5 a6 b0 b1 b2 b3 b4 b5 b6 : Value} {T : TypeId} (h : w.heap[B]? = some (.cells #[a0, a1, a2, a3, a4, a5, a6] T)) : (((((((w.setCell ⟨B, 0, none⟩ b0).setCell ⟨B, 1, none⟩ b1).setCell ⟨B, 2, none⟩ b2).setCell ⟨B, 3, none⟩ b3).setCell ⟨B, 4, none⟩ b4).setCell ⟨B, 5, none⟩ b5).setCell ⟨B, 6, none⟩ b6).heap[B]? = some (.cells #[b0, b1, b2, b3, b4, b5, b6] T) := by
  simp [World.setCell, Array.getElem?_modify, h]
theorem st7_far {w : World} {B k : Nat} {b0 b1 b2 b3 b4 b5 b6 : Value} (hk : k ≠ B) : (((((((w.setCell ⟨B, 0, none⟩ b0).setCell ⟨B, 1, none⟩ b1).setCell ⟨B, 2, none⟩ b2).setCell ⟨B, 3, none⟩ b3).setCell ⟨B, 4, none⟩ b4).setCell ⟨B, 5, none⟩ b5).setCell ⟨B, 6, none⟩ b6).heap[k]? = w.heap[k]? :=
  (Below.heap_setCell _ _ _ _ hk).trans ((Below.heap_setCell _ _ _ _ hk).trans ((Below.heap_setCell _ _ _ _ hk).trans ((Below.heap_setCell _ _ _ _ hk).trans ((Below.heap_setCell _ _ _ _ hk).trans ((Below.heap_setCell _ _ _ _ hk).trans (Below.heap_setCell _ _ _ _ hk))))))
theorem st7_size {w : World} {B : Nat} {b0 b1 b2 b3 b4 b5 b6 : Value} : (((((((w.setCell ⟨B, 0, none⟩ b0).setCell ⟨B, 1, none⟩ b1).setCell ⟨B, 2, none⟩ b2).setCell ⟨B, 3, none⟩ b3).setCell ⟨B, 4, none⟩ b4).setCell ⟨B, 5, none⟩ b5).setCell ⟨B, 6, none⟩ b6).heap.size = w.heap.size := by
  rw [size_setCell, size_setCell, size_setCell, size_setCell, size_setCell, size_setCell, size_setCell]
theorem st7_below {w0 w : World} {B n : Nat} {b0 b1 b2 b3 b4 b5 b6 : Value} (h : Below n w0 w) (hB : n ≤ B) : Below n w0 (((((((w.setCell ⟨B, 0, none⟩ b0).setCell ⟨B, 1, none⟩ b1).setCell ⟨B, 2, none⟩ b2).setCell ⟨B, 3, none⟩ b3).setCell ⟨B, 4, none⟩ b4).setCell ⟨B, 5, none⟩ b5).setCell ⟨B, 6, none⟩ b6) :=
  ((((((h.setCell hB _).setCell hB _).setCell hB _).setCell hB _).setCell hB _).setCell hB _).setCell hB _
/-- a graph that lies outside the blocks n and n + 1, below n in the blocks of T -/
def RIn (T : Nat → Prop) (n : Nat) (w : World) (g : List Ce) (v : Value) : Prop := CellsOn w (fun k => k < w.heap.size ∧ k ≠ n ∧ k ≠ n + 1 ∧ (k < n → T k)) g v
theorem RIn.cin {T : Nat → Prop} {n : Nat} {w : World} {g : List Ce} {v : Value} (h : RIn T n w g v) : CIn w g v := CellsOn.mono h (fun _ h => h.1) (fun _ _ => rfl)
theorem RIn.next {T : Nat → Prop} {n : Nat} {w w' : World} {g : List Ce} {v : Value} (h : RIn T n w g v) (hb : Below w.heap.size w w') : RIn T n w' g v := CellsOn.mono h (fun _ h => ⟨Nat.lt_of_lt_of_le h.1 hb.size, h.2⟩) (fun k h => hb.block k h.1)
theorem RIn.far {T : Nat → Prop} {n : Nat} {w w' : World} {g : List Ce} {v : Value} (h : RIn T n w g v) (hf : ∀ k, k ≠ n → k ≠ n + 1 → w'.heap[k]? = w.heap[k]?) (hs : w'.heap.size = w.heap.size) : RIn T n w' g v := CellsOn.mono h (fun _ h => ⟨by rw [hs]; exact h.1, h.2⟩) (fun k h => hf k h.2.1 h.2.2.1)
theorem RIn.old {T : Nat → Prop} {w W : World} {g : List Ce} {v : Value} (h : CellsOn w T g v) (hT : ∀ k, T k → k < w.heap.size) (hb : Below w.heap.size w W) : RIn T w.heap.size W g v := CellsOn.mono h (fun k hk => by have := hT k hk; have := hb.size; exact ⟨by omega, by omega, by omega, fun _ => hk⟩) (fun k hk => hb.block k (hT k hk))
theorem RIn.new {T : Nat → Prop} {n m : Nat} {w : World} {g : List Ce} {v : Value} (h : CellsOn w (fun k => k < w.heap.size ∧ m ≤ k) g v) (hm : n + 2 ≤ m) : RIn T n w g v := CellsOn.mono h (fun k hk => ⟨hk.1, by have := hk.2; omega, by have := hk.2; omega, fun h => by have := hk.2; omega⟩) (fun _ _ => rfl)
end Go.Proofs.YtidijbnoaeopdaaGreatDoor
/-
  slices.Reverse AT A ROW OF EXPRESSIONS: the elements' cells, turned around; nothing else is changed.
-/
namespace Go.Proofs.YtidijbnoaeopdaaGreatDoor
set_option linter.unusedVariables false
set_option linter.unusedSimpArgs false
open Go.RowKit

end Go.Proofs.YtidijbnoaeopdaaGreatDoor
/-
  THE PROGRAM's unwind: the function of nested applications, and its arguments in order; nothing that was there is changed.
-/
namespace Go.Proofs.YtidijbnoaeopdaaGreatDoor
set_option linter.unusedVariables false
set_option linter.unusedSimpArgs false
open Go.RowKit

/-- a row of cards, in new memory -/
def CdRow (w : World) (lo : Nat) (l : List Cd) (v : Value) : Prop :=
  (l = [] ∧ v = .slice none 0 0) ∨ ∃ g cap f, v = .slice (some ⟨g, 0, none⟩) l.length cap ∧ lo ≤ g ∧ l.length ≤ cap ∧ cap ≤ maxLen ∧ w.rowIs g 48 (cap * 3) f ∧
    ∀ j (hj : j < l.length), f (j * 3) = l[j].2.1 ∧ f (j * 3 + 1) = l[j].2.2.1 ∧ f (j * 3 + 2) = l[j].2.2.2

theorem CdRow.keep {w w' : World} {lo lo' : Nat} {l : List Cd} {v : Value} (h : CdRow w lo l v) (hl : lo' ≤ lo) (hk : ∀ k, lo ≤ k → k < w.heap.size → w'.heap[k]? = w.heap[k]?) : CdRow w' lo' l v := by
  rcases h with h | ⟨g, cap, f, e, hg, hn, hc, hr, hv⟩
  · exact Or.inl h
  · exact Or.inr ⟨g, cap, f, e, Nat.le_trans hl hg, hn, hc, hr.of_block (hk g hg hr.lt), hv⟩
end Go.Proofs.YtidijbnoaeopdaaGreatDoor
/-
  THE PROGRAM's isValue: which closed expressions are values; nothing that was there is changed.
-/
namespace Go.Proofs.YtidijbnoaeopdaaGreatDoor
set_option linter.unusedVariables false
set_option linter.unusedSimpArgs false
open Go.RowKit

/-- closed for so many functions, down to some depth -/
def Closed (ds : List Df) (t : Tr) : Prop := ∃ d, shB 0 ds.length d t = true

theorem Closed.kid {ds : List Df} {t : Tr} (h : Closed ds t) {k : Tr} (hk : k ∈ t.kids) : Closed ds k := by
  obtain ⟨d, h⟩ := h
  cases d with
  | zero => simp [shB] at h
  | succ d =>
    unfold shB at h
    simp only [Bool.and_eq_true, List.all_eq_true] at h
    exact ⟨d, h.2 k hk⟩
theorem Closed.fun {ds : List Df} {t : Tr} (h : Closed ds t) (ho : t.op = 3) : 0 ≤ t.num ∧ t.num < ds.length := by
  obtain ⟨d, h⟩ := h
  cases d with
  | zero => simp [shB] at h
  | succ d =>
    unfold shB at h
    simp only [Bool.and_eq_true] at h
    have h2 := h.1.2
    unfold ownB at h2
    rw [if_neg (by omega), if_neg (by omega), if_pos ho] at h2
    simpa using h2
theorem Unw.value {w : World} {a t : Tr} {c ct : Value} {l : List Cd} (h : Unw w a c t ct l) (hs : ¬ (t.op = 4 ∧ t.kids.length = 2)) : unwT a [] = (t, (l.map (·.1)).reverse) := by
  rw [h.unw, unwT_stop hs]

theorem CdRow.form {w : World} {lo : Nat} {l : List Cd} {v : Value} (h : CdRow w lo l v) : ∃ ad cap, v = .slice ad l.length cap := by
  rcases h with ⟨rfl, rfl⟩ | ⟨g, cap, f, rfl, -⟩
  · exact ⟨_, _, rfl⟩
  · exact ⟨_, _, rfl⟩

/-- a valid program and a closed expression -/
def closedB (ds : List Df) (t : Tr) : Bool := progB ds && validB t 0 ds.length
end Go.Proofs.YtidijbnoaeopdaaGreatDoor
/-
  PLAIN: what NumberNeed answers. No program is named here.
-/
namespace Go.Proofs.YtidijbnoaeopdaaGreatDoor
set_option linter.unusedVariables false
set_option linter.unusedSimpArgs false

/-- the graph of a closed expression -/
theorem start_ok {ds : List Df} {t : Tr} (h : closedB ds t = true) : progB ds = true ∧ graphB (addT [] t []).1 ds.length = true ∧ (addT [] t []).2 < (addT [] t []).1.length ∧ AllT (VarOk 0) t ∧ 1 + szT t ≤ 60 := by
  unfold closedB validB at h
  simp only [Bool.and_eq_true, decide_eq_true_eq] at h
  obtain ⟨hp, ⟨hd, hs, hz⟩⟩ := h
  have h0 : GOk (ds.length : Int) ([] : List Ce).length [] := (graphB_iff.1 (by unfold graphB; simp; omega : graphB [] (ds.length : Int) = true)).2
  have hok := addT_ok (defs := ds.length) (args := []) 16 t [] h0 (fun x hx => by simp at hx) hs
  have hsz := (addT_size [] t []).2.1
  refine ⟨hp, graphB_iff.2 ⟨⟨by simp only [List.length_nil] at hsz; omega, by omega⟩, hok.1⟩, hok.2, varOk_of_sh 0 _ 16 t hs, hz⟩
end Go.Proofs.YtidijbnoaeopdaaGreatDoor
/-
  PLAIN: what the functions on runs answer. No program is named here.
-/
namespace Go.Proofs.YtidijbnoaeopdaaGreatDoor
set_option linter.unusedVariables false
set_option linter.unusedSimpArgs false

/-- no run -/
def rnZ : Rn := ⟨[], 0, 0, 0, 0, 0, 0⟩
def Rn.at (x : Rn) (a : Int) : Rn := { x with root := a.toNat }
/-- what StartRun answers -/
noncomputable def sxO (ds : List Df) (t : Tr) : Rn × Bool := if closedB ds t = true then (startX (addT [] t []).1 (addT [] t []).2, true) else (rnZ, false)
def fuelO (f : Int) : Bool := decide (0 ≤ f ∧ f ≤ 300)
/-- what PeakCells answers -/
noncomputable def pRun (ds : List Df) (t : Tr) (f : Int) (tidy : Bool) : Int × Nat :=
  if closedB ds t = true ∧ fuelO f = true then pkE ds tidy f.toNat (startX (addT [] t []).1 (addT [] t []).2) 0 else (0, 4)
theorem start_run {ds : List Df} {t : Tr} (h : closedB ds t = true) : (startX (addT [] t []).1 (addT [] t []).2).Ok ds := ⟨(start_ok h).2.1, (start_ok h).2.2.1⟩
end Go.Proofs.YtidijbnoaeopdaaGreatDoor
/-
  THE MODEL's l2Args: the function of nested applications, and its arguments in order; nothing that was there is changed.
-/
namespace Go.Proofs.YtidijbnoaeopdaaGreatDoor
set_option linter.unusedVariables false
set_option linter.unusedSimpArgs false
open Go.RowKit

end Go.Proofs.YtidijbnoaeopdaaGreatDoor
/-
  THE MODEL's l2Head, l2Closed, IsHead: which closed expressions are values; nothing that was there is changed.
-/
namespace Go.Proofs.YtidijbnoaeopdaaGreatDoor
set_option linter.unusedVariables false
set_option linter.unusedSimpArgs false
open Go.RowKit

set_option maxRecDepth 100000 in
set_option maxHeartbeats 800000 in
theorem l2Closed_calls (ds : List Df) (p : Value) (a : Tr) (c : Value) (w : World) (hp : DIn w ds p) (hk : In w a.kids c) :
    Calls Tryz.prog 74 #[p, .agg #[.int .i64 a.op, .int .i64 a.num, c]] w fun e w' => e = .returned (.bool (closedB ds a)) ∧ Below w.heap.size w w' := by
  have HK : Hid (In w a.kids c) := hk
  have HP : Hid (DIn w ds p) := hp
  obtain ⟨ad, cap, rfl, -, -, -⟩ := hk
  obtain ⟨adp, capp, rfl, -, -, -⟩ := hp
  unfold closedB
  cases hpb : progB ds with
  | false =>
    have hq : ∀ W, DIn W ds (.slice adp ds.length capp) → Calls Tryz.prog 83 #[.slice adp ds.length capp] W fun e w' => e = .returned (.bool false) ∧ Below W.heap.size W w' := fun W h => by have := specProg_calls ds _ W h; rwa [hpb] at this
    clear hpb
    go_enter Tryz.func74, Tryz.ntmps74
    go_wp2_with (go_at_call 83; refine (hq _ ?_).mono ?_; exact HP.out.next (box_below _ _); rintro e w1 ⟨rfl, hb1⟩; obtain ⟨q0, q1, q2, q3, HB1⟩ := box_after hb1; have HB1 : Hid _ := HB1; clear hb1)
    go_ret
    exact ⟨rfl, HB1.out⟩
  | true =>
    have hv : ∀ W, In W a.kids (.slice ad a.kids.length cap) → Calls Tryz.prog 95 #[.agg #[.int .i64 a.op, .int .i64 a.num, .slice ad a.kids.length cap], .int .i64 0, .int .i64 ds.length] W fun e w' => e = .returned (.bool (true && validB a 0 ds.length)) ∧ Below W.heap.size W w' := fun W h => by
      have h6 : ds.length ≤ 6 := by
        unfold progB at hpb
        simp only [Bool.and_eq_true, decide_eq_true_eq] at hpb
        exact hpb.1
      have := l1Is_calls a 0 ds.length _ W h
      rw [← validB_is a 0 ds.length (by omega)] at this
      rw [Bool.true_and]
      exact this
    have hq : ∀ W, DIn W ds (.slice adp ds.length capp) → Calls Tryz.prog 83 #[.slice adp ds.length capp] W fun e w' => e = .returned (.bool true) ∧ Below W.heap.size W w' := fun W h => by have := specProg_calls ds _ W h; rwa [hpb] at this
    clear hpb
    go_enter Tryz.func74, Tryz.ntmps74
    go_wp2_with (first
      | (go_at_call 83; refine (hq _ ?_).mono ?_; exact HP.out.next (box_below _ _); rintro e w1 ⟨rfl, hb1⟩; obtain ⟨q0, q1, q2, q3, HB1⟩ := box_after hb1; have HB1 : Hid _ := HB1; clear hb1)
      | (go_at_call 95; refine (hv _ (HK.out.next HB1.out)).mono ?_; rintro e w2 ⟨rfl, hb2⟩; have HB2 : Hid (Below w.heap.size w w2) := HB1.out.trans (hb2.mono HB1.out.size); clear hb2))
    go_ret
    exact ⟨rfl, HB2.out⟩

end Go.Proofs.YtidijbnoaeopdaaGreatDoor
