/-
  THE MODEL's ReadGraph.
-/
import Derived.Test.YticoegjackgldabReadB
import Derived.Test.YticoegjackgldabSpecRead
namespace Go.Proofs.Yticoegjackgldab
set_option linter.unusedVariables false
set_option linter.unusedSimpArgs false
open Go.RowKit

set_option maxRecDepth 100000 in
set_option maxHeartbeats 1600000 in
theorem specRead_calls (g : List Ce) (root defs : Int) (v : Value) (w : World) (hk : CIn w g v) :
    Calls Try.prog 35 #[v, .int .i64 root, .int .i64 defs] w (ReadOut (readB g root defs) w) := by
  have HK : Hid (CIn w g v) := hk
  obtain ⟨ad, cap, rfl, hl, hm, -⟩ := hk
  unfold maxLen at hm
  go_enter Try.func35, Try.ntmps35
  go_wp2_with fail
  refine (specGraph_calls g defs _ _ (HK.out.next (box_below _ _))).mono ?_
  rintro e w1 ⟨rfl, hb1⟩
  have HB1 : Hid (Below w.heap.size w w1) := (box_below _ _).trans (hb1.mono (by rw [Deep.nblk_alloc]; omega))
  have hz1 : w.heap.size < w1.heap.size := by have := hb1.size; rw [Deep.nblk_alloc] at this; omega
  have hr1 : w1.heap[w.heap.size]? = some (.cells #[.int .i64 0, .int .i64 0, .slice none 0 0] 28) := (hb1.block _ (by rw [Deep.nblk_alloc]; omega)).trans (Deep.blk_alloc_new _ _)
  have HR1 : Hid (w1.heap[w.heap.size]? = some (.cells #[.int .i64 0, .int .i64 0, .slice none 0 0] 28)) := hr1
  have r0 := cell_of_blk hr1 0 _ rfl
  have r1 := cell_of_blk hr1 1 _ rfl
  have r2 := cell_of_blk hr1 2 _ rfl
  have rf := fun i => frz_of_blk hr1 i
  clear hb1 hr1
  by_cases hok : graphB g defs = true ∧ isAt g.length root = true
  · have HV : Hid (readB g root defs = (readT g 16 root.toNat 60).map (·.1)) := readB_yes hok
    have HG : Hid (graphB g 6 = true) := graphB_six hok.1
    obtain ⟨hg, hi⟩ := hok
    obtain ⟨h0, h1⟩ : 0 ≤ root ∧ root < (g.length : Int) := by unfold isAt at hi; simpa using hi
    obtain ⟨n, rfl⟩ : ∃ n : Nat, root = (n : Int) := ⟨root.toNat, by omega⟩
    have hn : n < g.length := by omega
    have hn0 : ¬ ((n : Int) < 0) := by omega
    have hn1 : ¬ ((g.length : Int) ≤ (n : Int)) := by omega
    rw [hg]
    clear hg hi r0 r1 r2 rf h0 h1
    go_wp2_with fail
    refine (rd_calls g HG.out 16 (by omega) _ n 60 _ (HK.out.next HB1.out) hn (by omega)).mono ?_
    rintro e w2 hres
    cases hr : readT g 16 n 60 with
    | none =>
      rw [hr] at hres
      obtain ⟨x, y, ad5, n5, c5, rfl, hb2⟩ := hres
      have HN : Hid (readB g (n : Int) defs = none) := by rw [Hid, HV.out, show ((n : Int)).toNat = n from rfl, hr]; rfl
      have hrw := (hb2.block w.heap.size hz1).trans HR1.out
      have hrw3 : (w2.alloc (.cells #[.int .i64 x, .int .i64 y, .slice ad5 n5 c5] 28)).heap[w.heap.size]? = some (.cells #[.int .i64 0, .int .i64 0, .slice none 0 0] 28) := (Deep.blk_alloc_lt _ _ _ (by have := hb2.size; omega)).trans hrw
      have r0 := cell_of_blk hrw3 0 _ rfl
      have r1 := cell_of_blk hrw3 1 _ rfl
      have r2 := cell_of_blk hrw3 2 _ rfl
      have rf := fun i => frz_of_blk hrw3 i
      have HB2 : Hid (Below w.heap.size w w2) := HB1.out.trans (hb2.mono HB1.out.size)
      have HB3 : Hid (Below w.heap.size w (w2.alloc (.cells #[.int .i64 x, .int .i64 y, .slice ad5 n5 c5] 28))) := HB2.out.alloc HB2.out.size _
      clear hb2 hrw hrw3 hr
      go_wp2_with fail
      refine bodyPost_ret (v := .tuple #[.agg #[.int .i64 0, .int .i64 0, .slice none 0 0], .bool false]) (by simp [results, Try.results35, go_sem, r0, r1, r2, rf]) rfl ?_
      rw [HN.out]
      exact ⟨rfl, ((HB3.out.setCell (Nat.le_refl _) _).setCell (Nat.le_refl _) _).setCell (Nat.le_refl _) _⟩
    | some q =>
      obtain ⟨t, l⟩ := q
      rw [hr] at hres
      obtain ⟨vt, rfl, hfr, hto, htn, hb2⟩ := hres
      have HN : Hid (readB g (n : Int) defs = some t) := by rw [Hid, HV.out, show ((n : Int)).toNat = n from rfl, hr]; rfl
      have HFR : Hid (Fresh w2 w1.heap.size t.kids vt) := hfr
      have HTO : Hid (I64 t.op ∧ I64 t.num) := ⟨hto, htn⟩
      have hrw := (hb2.block w.heap.size hz1).trans HR1.out
      obtain ⟨adt, capt, rfl, -, -, -⟩ := hfr.on
      have hrw3 : (w2.alloc (.cells #[.int .i64 t.op, .int .i64 t.num, .slice adt t.kids.length capt] 28)).heap[w.heap.size]? = some (.cells #[.int .i64 0, .int .i64 0, .slice none 0 0] 28) := (Deep.blk_alloc_lt _ _ _ (by have := hb2.size; omega)).trans hrw
      have r0 := cell_of_blk hrw3 0 _ rfl
      have r1 := cell_of_blk hrw3 1 _ rfl
      have r2 := cell_of_blk hrw3 2 _ rfl
      have rf := fun i => frz_of_blk hrw3 i
      have HB2 : Hid (Below w.heap.size w w2) := HB1.out.trans (hb2.mono HB1.out.size)
      have HB3 : Hid (Below w.heap.size w (w2.alloc (.cells #[.int .i64 t.op, .int .i64 t.num, .slice adt t.kids.length capt] 28))) := HB2.out.alloc HB2.out.size _
      have HFR3 : Hid (Fresh (w2.alloc (.cells #[.int .i64 t.op, .int .i64 t.num, .slice adt t.kids.length capt] 28)) w1.heap.size t.kids (.slice adt t.kids.length capt)) := HFR.out.next (box_below _ _)
      clear hb2 hrw hrw3 hr hfr hto htn
      go_wp2_with fail
      refine bodyPost_ret (v := .tuple #[.agg #[.int .i64 t.op, .int .i64 t.num, .slice adt t.kids.length capt], .bool true]) (by simp [results, Try.results35, go_sem, r0, r1, r2, rf]) rfl ?_
      rw [HN.out]
      refine ⟨_, rfl, ?_, HTO.out.1, HTO.out.2, ((HB3.out.setCell (Nat.le_refl _) _).setCell (Nat.le_refl _) _).setCell (Nat.le_refl _) _⟩
      refine Fresh.mono (lo := w1.heap.size) ?_ (by omega) (fun _ _ _ => rfl)
      exact ((HFR3.out.setCell (by show w.heap.size < _; omega) _).setCell (by show w.heap.size < _; omega) _).setCell (by show w.heap.size < _; omega) _
  · have HV : Hid (readB g root defs = none) := readB_no hok
    cases hg : graphB g defs with
    | false =>
      clear hok hg
      go_wp2_with fail
      refine bodyPost_ret (v := .tuple #[.agg #[.int .i64 0, .int .i64 0, .slice none 0 0], .bool false]) (by simp [results, Try.results35, go_sem, r0, r1, r2, rf]) rfl ?_
      rw [HV.out]
      exact ⟨rfl, ((HB1.out.setCell (Nat.le_refl _) _).setCell (Nat.le_refl _) _).setCell (Nat.le_refl _) _⟩
    | true =>
      by_cases h0 : root < 0
      · clear hok hg
        go_wp2_with fail
        refine bodyPost_ret (v := .tuple #[.agg #[.int .i64 0, .int .i64 0, .slice none 0 0], .bool false]) (by simp [results, Try.results35, go_sem, r0, r1, r2, rf]) rfl ?_
        rw [HV.out]
        exact ⟨rfl, ((HB1.out.setCell (Nat.le_refl _) _).setCell (Nat.le_refl _) _).setCell (Nat.le_refl _) _⟩
      · have h1 : (g.length : Int) ≤ root := by
          rcases Int.lt_or_le root g.length with h | h
          · exact absurd ⟨hg, by unfold isAt; simp; omega⟩ hok
          · exact h
        clear hok hg
        go_wp2_with fail
        refine bodyPost_ret (v := .tuple #[.agg #[.int .i64 0, .int .i64 0, .slice none 0 0], .bool false]) (by simp [results, Try.results35, go_sem, r0, r1, r2, rf]) rfl ?_
        rw [HV.out]
        exact ⟨rfl, ((HB1.out.setCell (Nat.le_refl _) _).setCell (Nat.le_refl _) _).setCell (Nat.le_refl _) _⟩
end Go.Proofs.Yticoegjackgldab
