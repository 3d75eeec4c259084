/-
  THE PROGRAM's ReadGraph.
-/
import Derived.Test.YticoegjackgldabImplRead
namespace Go.Proofs.Yticoegjackgldab
set_option linter.unusedVariables false
set_option linter.unusedSimpArgs false
open Go.RowKit

set_option maxRecDepth 100000 in
set_option maxHeartbeats 1600000 in
theorem implRead_calls (g : List Ce) (root defs : Int) (v : Value) (w : World) (hk : CIn w g v) :
    Calls Try.prog 36 #[v, .int .i64 root, .int .i64 defs] w (ReadOut (readB g root defs) w) := by
  have HK : Hid (CIn w g v) := hk
  obtain ⟨ad, cap, rfl, hl, hm, -⟩ := hk
  unfold maxLen at hm
  go_enter Try.func36, Try.ntmps36
  go_wp2_with fail
  refine (implGraph_calls g defs _ _ (HK.out.next (box_below _ _))).mono ?_
  rintro e w1 ⟨rfl, hb1⟩
  have HB1 : Hid (Below w.heap.size w w1) := (box_below _ _).trans (hb1.mono (by rw [Deep.nblk_alloc]; omega))
  have hz1 : w.heap.size < w1.heap.size := by have := hb1.size; rw [Deep.nblk_alloc] at this; omega
  have hr1 : w1.heap[w.heap.size]? = some (.cells #[.int .i64 0, .int .i64 0, .slice none 0 0] 28) := (hb1.block _ (by rw [Deep.nblk_alloc]; omega)).trans (Deep.blk_alloc_new _ _)
  have HR1 : Hid (w1.heap[w.heap.size]? = some (.cells #[.int .i64 0, .int .i64 0, .slice none 0 0] 28)) := hr1
  clear hb1
  cases hg : graphB g defs with
  | false =>
    have HV : Hid (readB g root defs = none) := readB_no (by rw [hg]; simp)
    have r0 := cell_of_blk hr1 0 _ rfl
    have r1 := cell_of_blk hr1 1 _ rfl
    have r2 := cell_of_blk hr1 2 _ rfl
    have rf := fun i => frz_of_blk hr1 i
    clear hg hr1
    go_wp2_with fail
    refine bodyPost_ret (v := .tuple #[.agg #[.int .i64 0, .int .i64 0, .slice none 0 0], .bool false]) (by simp [results, Try.results36, go_sem, r0, r1, r2, rf]) rfl ?_
    rw [HV.out]
    exact ⟨rfl, ((HB1.out.setCell (Nat.le_refl _) _).setCell (Nat.le_refl _) _).setCell (Nat.le_refl _) _⟩
  | true =>
    have HGD : Hid (graphB g defs = true) := hg
    have h400 : g.length ≤ 400 := graphB_len hg
    clear hg hr1
    go_wp2_with fail
    refine (isCell_calls g.length cap ad root _ (by omega)).mono ?_
    rintro e w2 ⟨rfl, hb2⟩
    have hr2 := (hb2.block w.heap.size hz1).trans HR1.out
    have HR2 : Hid (w2.heap[w.heap.size]? = some (.cells #[.int .i64 0, .int .i64 0, .slice none 0 0] 28)) := hr2
    have HB2 : Hid (Below w.heap.size w w2) := HB1.out.trans (hb2.mono HB1.out.size)
    have hz2 : w.heap.size < w2.heap.size := Nat.lt_of_lt_of_le hz1 hb2.size
    clear hb2
    cases hi : isAt (g.length : Int) root with
    | false =>
      have HV : Hid (readB g root defs = none) := readB_no (by rw [hi]; simp)
      have r0 := cell_of_blk hr2 0 _ rfl
      have r1 := cell_of_blk hr2 1 _ rfl
      have r2 := cell_of_blk hr2 2 _ rfl
      have rf := fun i => frz_of_blk hr2 i
      clear hi hr2
      go_wp2_with fail
      refine bodyPost_ret (v := .tuple #[.agg #[.int .i64 0, .int .i64 0, .slice none 0 0], .bool false]) (by simp [results, Try.results36, go_sem, r0, r1, r2, rf]) rfl ?_
      rw [HV.out]
      exact ⟨rfl, ((HB2.out.setCell (Nat.le_refl _) _).setCell (Nat.le_refl _) _).setCell (Nat.le_refl _) _⟩
    | true =>
      have HV : Hid (readB g root defs = (readT g 16 root.toNat 60).map (·.1)) := readB_yes ⟨HGD.out, hi⟩
      have HG : Hid (graphB g 6 = true) := graphB_six HGD.out
      obtain ⟨h0, h1⟩ : 0 ≤ root ∧ root < (g.length : Int) := by unfold isAt at hi; simpa using hi
      obtain ⟨n, rfl⟩ : ∃ n : Nat, root = (n : Int) := ⟨root.toNat, by omega⟩
      have hn : n < g.length := by omega
      obtain ⟨w3, hw3⟩ : ∃ w3 : World, w3 = w2.alloc (.cells #[.slice ad g.length cap, .int .i64 60] 88) := ⟨_, rfl⟩
      have HW3 : Hid (w3 = w2.alloc (.cells #[.slice ad g.length cap, .int .i64 60] 88)) := hw3
      have HZ3 : Hid (w2.heap.size < w3.heap.size) := by rw [Hid, hw3, Deep.nblk_alloc]; omega
      have HO3 : Hid (∀ j, j < w2.heap.size → w3.heap[j]? = w2.heap[j]?) := fun j hj => by rw [hw3]; exact Deep.blk_alloc_lt _ _ _ hj
      have HRD : Hid (GRd w3 w2.heap.size (.slice ad g.length cap) 60) := by rw [Hid, hw3]; exact Deep.blk_alloc_new _ _
      have HK3 : Hid (CellsOn w3 (Lt w2.heap.size) g (.slice ad g.length cap)) := (HK.out.next HB2.out).mono (fun _ h => h) fun j hj => HO3.out j hj
      have HB3 : Hid (Below w.heap.size w w3) := by rw [Hid, hw3]; exact HB2.out.alloc HB2.out.size _
      clear hi hr2 h0 h1 hw3
      go_wp2_with fail
      rw [← HW3.out]
      refine (im_calls g HG.out 16 (by omega) w2.heap.size _ n 60 w3 HK3.out HZ3.out hn (by omega) HRD.out).mono ?_
      rintro e w4 hres
      cases hr : readT g 16 n 60 with
      | none =>
        rw [hr] at hres
        obtain ⟨rfl, -, hb4⟩ := hres
        have HN : Hid (readB g (n : Int) defs = none) := by rw [Hid, HV.out, show ((n : Int)).toNat = n from rfl, hr]; rfl
        have hr4 := (hb4.block w.heap.size (Nat.lt_trans hz2 HZ3.out) (by simp; omega)).trans ((HO3.out _ hz2).trans HR2.out)
        have r0 := cell_of_blk hr4 0 _ rfl
        have r1 := cell_of_blk hr4 1 _ rfl
        have r2 := cell_of_blk hr4 2 _ rfl
        have rf := fun i => frz_of_blk hr4 i
        have HB4 : Hid (Below w.heap.size w w4) := HB3.out.trans (hb4.below (by simp; omega) HB3.out.size)
        clear hb4 hr4 hr
        go_wp2_with fail
        refine bodyPost_ret (v := .tuple #[.agg #[.int .i64 0, .int .i64 0, .slice none 0 0], .bool false]) (by simp [results, Try.results36, go_sem, r0, r1, r2, rf]) rfl ?_
        rw [HN.out]
        exact ⟨rfl, ((HB4.out.setCell (Nat.le_refl _) _).setCell (Nat.le_refl _) _).setCell (Nat.le_refl _) _⟩
      | some q =>
        obtain ⟨t, l⟩ := q
        rw [hr] at hres
        obtain ⟨vt, rfl, hfr, hto, htn, -, hb4⟩ := hres
        have HN : Hid (readB g (n : Int) defs = some t) := by rw [Hid, HV.out, show ((n : Int)).toNat = n from rfl, hr]; rfl
        have HFR : Hid (Fresh w4 w3.heap.size t.kids vt) := hfr
        have HTO : Hid (I64 t.op ∧ I64 t.num) := ⟨hto, htn⟩
        obtain ⟨adt, capt, rfl, -, -, -⟩ := hfr.on
        have hr4 := (hb4.block w.heap.size (Nat.lt_trans hz2 HZ3.out) (by simp; omega)).trans ((HO3.out _ hz2).trans HR2.out)
        have r0 := cell_of_blk hr4 0 _ rfl
        have r1 := cell_of_blk hr4 1 _ rfl
        have r2 := cell_of_blk hr4 2 _ rfl
        have rf := fun i => frz_of_blk hr4 i
        have HB4 : Hid (Below w.heap.size w w4) := HB3.out.trans (hb4.below (by simp; omega) HB3.out.size)
        clear hb4 hr4 hr hfr hto htn
        go_wp2_with fail
        refine bodyPost_ret (v := .tuple #[.agg #[.int .i64 t.op, .int .i64 t.num, .slice adt t.kids.length capt], .bool true]) (by simp [results, Try.results36, go_sem, r0, r1, r2, rf]) rfl ?_
        rw [HN.out]
        refine ⟨_, rfl, ?_, HTO.out.1, HTO.out.2, ((HB4.out.setCell (Nat.le_refl _) _).setCell (Nat.le_refl _) _).setCell (Nat.le_refl _) _⟩
        refine Fresh.mono (lo := w3.heap.size) ?_ (by have := HZ3.out; omega) (fun _ _ _ => rfl)
        have hwl : w.heap.size < w3.heap.size := Nat.lt_trans hz2 HZ3.out
        exact ((HFR.out.setCell (by show w.heap.size < _; omega) _).setCell (by show w.heap.size < _; omega) _).setCell (by show w.heap.size < _; omega) _
end Go.Proofs.Yticoegjackgldab
