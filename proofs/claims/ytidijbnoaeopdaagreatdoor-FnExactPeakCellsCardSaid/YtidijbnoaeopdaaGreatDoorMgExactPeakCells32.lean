/-
  THE PROGRAM's (*reducer).operand AND sumOf.
-/
import Derived.Test.YtidijbnoaeopdaaGreatDoorMgExactPeakCells31
import Derived.Deep.RegionHeld3
namespace Go.Proofs.YtidijbnoaeopdaaGreatDoor
set_option linter.unusedVariables false
set_option linter.unusedSimpArgs false
open Go.RowKit

/-- a cell by value -/
def CellV (c : Ce) (w : World) (e : Ending) (w' : World) : Prop := ∃ v, e = .returned (.agg #[.int .i64 c.op, .int .i64 c.num, v]) ∧ IIn w' c.kids v ∧ Below w.heap.size w w'
set_option maxRecDepth 100000 in
set_option maxHeartbeats 1600000 in
theorem operand_calls (R A lo k b i : Nat) (c : Value) (fu : Fu) (st : Int) (g : List Ce) (op num : Int) (ks : List Int) (kv : Value) (w : World) (h : RedW R A lo c fu st g w) (hg : ∃ defs, graphB g defs = true) (hk : IIn w ks kv) (hi : i < ks.length) (hki : ks[i] = (k : Int)) (hkl : k < g.length) (hb : followN g g.length k = some b) (hbl : b < g.length) :
    Calls Tryz.prog 161 #[.pointer (some ⟨R, 0, none⟩), .agg #[.int .i64 op, .int .i64 num, kv], .int .i64 (i : Int)] w (CellV g[b] w) := by
  obtain ⟨ada, capa, hA, hC⟩ := h.inn
  have HC := mkHid hC
  have HGB := mkHid hg
  have HB := mkHid hb
  have HA := mkHid hA
  have HR := mkHid h.red
  obtain ⟨ad, cap, rfl, hcl, hcm, -⟩ := id hk
  obtain ⟨bk, ok, rfl, d0⟩ := hk.at i hi
  rw [hki] at d0
  unfold maxLen at hcm
  have hgl : g.length ≤ 400 := by obtain ⟨d, hd⟩ := hg; exact graphB_len hd
  have r0 := old_cell (old_cell (cell_of_blk h.red 0 _ rfl) (.cells #[.int .i64 op, .int .i64 num, .slice (some ⟨bk, ok, none⟩) ks.length cap] 93)) (.cells #[.int .i64 0, .int .i64 0, .slice none 0 0] 93)
  have a0 := old_cell (old_cell (cell_of_blk hA 0 _ rfl) (.cells #[.int .i64 op, .int .i64 num, .slice (some ⟨bk, ok, none⟩) ks.length cap] 93)) (.cells #[.int .i64 0, .int .i64 0, .slice none 0 0] 93)
  have dk := old_cell (old_cell d0 (.cells #[.int .i64 op, .int .i64 num, .slice (some ⟨bk, ok, none⟩) ks.length cap] 93)) (.cells #[.int .i64 0, .int .i64 0, .slice none 0 0] 93)
  have b2 := old_cell (box_cell w #[.int .i64 op, .int .i64 num, .slice (some ⟨bk, ok, none⟩) ks.length cap] 93 2 _ rfl) (.cells #[.int .i64 0, .int .i64 0, .slice none 0 0] 93)
  have hiI : (i : Int) < (ks.length : Int) := by omega
  have HBX : Hid (Below w.heap.size w ((w.alloc (.cells #[.int .i64 op, .int .i64 num, .slice (some ⟨bk, ok, none⟩) ks.length cap] 93)).alloc (.cells #[.int .i64 0, .int .i64 0, .slice none 0 0] 93))) := (box_below _ _).alloc (by rw [Deep.nblk_alloc]; omega) _
  have HXB : Hid (((w.alloc (.cells #[.int .i64 op, .int .i64 num, .slice (some ⟨bk, ok, none⟩) ks.length cap] 93)).alloc (.cells #[.int .i64 0, .int .i64 0, .slice none 0 0] 93)).heap[w.heap.size]? = some (.cells #[.int .i64 op, .int .i64 num, .slice (some ⟨bk, ok, none⟩) ks.length cap] 93)) := (Deep.blk_alloc_lt _ _ _ (by rw [Deep.nblk_alloc]; omega)).trans (Deep.blk_alloc_new _ _)
  have HZB : Hid (((w.alloc (.cells #[.int .i64 op, .int .i64 num, .slice (some ⟨bk, ok, none⟩) ks.length cap] 93)).alloc (.cells #[.int .i64 0, .int .i64 0, .slice none 0 0] 93)).heap[w.heap.size + 1]? = some (.cells #[.int .i64 0, .int .i64 0, .slice none 0 0] 93)) := by
    have h := Deep.blk_alloc_new (w.alloc (.cells #[.int .i64 op, .int .i64 num, .slice (some ⟨bk, ok, none⟩) ks.length cap] 93)) (.cells #[.int .i64 0, .int .i64 0, .slice none 0 0] 93)
    rw [Deep.nblk_alloc] at h; exact h
  have HSZ : Hid (((w.alloc (.cells #[.int .i64 op, .int .i64 num, .slice (some ⟨bk, ok, none⟩) ks.length cap] 93)).alloc (.cells #[.int .i64 0, .int .i64 0, .slice none 0 0] 93)).heap.size = w.heap.size + 2) := by rw [Hid, Deep.nblk_alloc, Deep.nblk_alloc]
  have HD := mkHid d0
  clear h hA hC hg hk hki hb d0
  go_enter Tryz.func161, Tryz.ntmps161
  go_wp2_with fail
  go_region_held3 (fun w' => w'.cell? ⟨R, 0, none⟩ = some (.pointer (some ⟨A, 0, none⟩)) ∧ w'.cell? ⟨A, 0, none⟩ = some (.slice ada g.length capa) ∧ w'.cell? ⟨w.heap.size, 2, none⟩ = some (.slice (some ⟨bk, ok, none⟩) ks.length cap) ∧ w'.cell? ⟨bk, ok + i, none⟩ = some (.int .i64 (k : Int)))
    (first
      | go_keep
      | exact ⟨m0, m1, m2, m3⟩
      | exact ⟨r0, a0, b2, dk⟩)
    (first
      | (go_at_call 57; refine (standsFor_calls g k _ ((w.alloc (.cells #[.int .i64 op, .int .i64 num, .slice (some ⟨bk, ok, none⟩) ks.length cap] 93)).alloc (.cells #[.int .i64 0, .int .i64 0, .slice none 0 0] 93)).drew (HC.out.next HBX.out.drew) HGB.out hkl).mono ?_; rintro e w1 ⟨rfl, hb1⟩; rw [HB.out, show folO (some b) = (b : Int) from rfl]; have HB1 : Hid (Below ((w.alloc (.cells #[.int .i64 op, .int .i64 num, .slice (some ⟨bk, ok, none⟩) ks.length cap] 93)).alloc (.cells #[.int .i64 0, .int .i64 0, .slice none 0 0] 93)).heap.size ((w.alloc (.cells #[.int .i64 op, .int .i64 num, .slice (some ⟨bk, ok, none⟩) ks.length cap] 93)).alloc (.cells #[.int .i64 0, .int .i64 0, .slice none 0 0] 93)) w1) := (Below.refl _ _).drew.trans hb1; have HBW : Hid (Below w.heap.size w w1) := HBX.out.trans (HB1.out.mono HBX.out.size); have m0 := cell_of_blk ((HBW.out.block _ (Array.getElem?_eq_some_iff.1 HR.out).1).trans HR.out) 0 _ rfl; have m1 := cell_of_blk ((HBW.out.block _ (Array.getElem?_eq_some_iff.1 HA.out).1).trans HA.out) 0 _ rfl; have HX1 := mkHid ((HB1.out.block w.heap.size (by rw [HSZ.out]; omega)).trans HXB.out); have m2 := cell_of_blk HX1.out 2 _ rfl; have m3 := (HBW.out.cell (p := ⟨bk, ok + i, none⟩) (cell_lt HD.out)).trans HD.out; have HZ1 := mkHid ((HB1.out.block (w.heap.size + 1) (by rw [HSZ.out]; omega)).trans HZB.out); clear hb1))
  obtain ⟨bg, og, rg, hea, g0w, g1w, g2w, -, -, hkk⟩ := HC.out.at b hbl
  subst hea
  have HKK := mkHid hkk
  obtain ⟨adk, capk, rfl, -, -, -⟩ := hkk
  have g0 := (HBW.out.cell (p := ⟨bg, og + b * 3, none⟩) (cell_lt g0w)).trans g0w
  have g1 := (HBW.out.cell (p := ⟨bg, og + b * 3 + 1, none⟩) (cell_lt g1w)).trans g1w
  have g2 := (HBW.out.cell (p := ⟨bg, og + b * 3 + 2, none⟩) (cell_lt g2w)).trans g2w
  have z0 := cell_of_blk HZ1.out 0 _ rfl
  have z1 := cell_of_blk HZ1.out 1 _ rfl
  have z2 := cell_of_blk HZ1.out 2 _ rfl
  have f0 := frz_of_blk HZ1.out 0
  have f1 := frz_of_blk HZ1.out 1
  have f2 := frz_of_blk HZ1.out 2
  have HFB : Hid (Below w.heap.size w (((w1.setCell ⟨w.heap.size + 1, 0, none⟩ (.int .i64 g[b].op)).setCell ⟨w.heap.size + 1, 1, none⟩ (.int .i64 g[b].num)).setCell ⟨w.heap.size + 1, 2, none⟩ (.slice adk g[b].kids.length capk))) := ((HBW.out.setCell (Nat.le_succ _) _).setCell (Nat.le_succ _) _).setCell (Nat.le_succ _) _
  clear m2 m3 r0 a0 b2 dk g0w g1w g2w
  go_wp2_with fail
  refine bodyPost_ret (v := .agg #[.int .i64 g[b].op, .int .i64 g[b].num, .slice adk g[b].kids.length capk]) (by simp [results, Tryz.results161, go_sem, z0, z1, z2, f0, f1, f2]) rfl ?_
  exact ⟨_, rfl, HKK.out.next HFB.out, HFB.out⟩
end Go.Proofs.YtidijbnoaeopdaaGreatDoor
