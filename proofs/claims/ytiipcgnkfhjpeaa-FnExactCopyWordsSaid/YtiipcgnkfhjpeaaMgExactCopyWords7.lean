/-
  THE PROGRAM's cellOf.
-/
import Derived.Test.YtiipcgnkfhjpeaaMgExactCopyWords6
import Derived.Test.YtiipcgnkfhjpeaaMgExactCopyWords4
import Derived.Test.YtiipcgnkfhjpeaaMgExactCopyWords3
import Derived.Deep.RegionHeld3
import Derived.Test.YtiipcgnkfhjpeaaMgExactCopyWords5
import Derived.Test.YtiipcgnkfhjpeaaMgExactCopyWords1
import Derived.Test.YtiipcgnkfhjpeaaMgExactCopyWords2
import Derived.Laws.CopyRow
import Derived.Laws.IdiomCopy
import Derived.Deep.RegionLaw
import Derived.BigQuiet
import Derived.IntWalk
namespace Go.Proofs.Ytiipcgnkfhjpeaa
set_option linter.unusedVariables false
set_option linter.unusedSimpArgs false
open Go.RowKit


/-- the words of a cell, in place -/
structure CellIn (ws : List Int) (a n : Nat) (bl off cap : Nat) (w : World) : Prop where
  len : n = wLen (opW ws a)
  pos : 2 ≤ n
  cap1 : n ≤ cap
  cap2 : cap ≤ 9223372036854775807
  cell : ∀ q, q < n → w.cell? ⟨bl, off + q, none⟩ = some (.int .i64 (opW ws (a + q)))
  fit : a + n ≤ ws.length
theorem CellIn.next {ws : List Int} {a n bl off cap : Nat} {w w' : World} (h : CellIn ws a n bl off cap w) (hb : Below w.heap.size w w') : CellIn ws a n bl off cap w' :=
  ⟨h.len, h.pos, h.cap1, h.cap2, fun q hq => (hb.cell (p := ⟨bl, off + q, none⟩) (cell_lt (h.cell q hq))).trans (h.cell q hq), h.fit⟩
/-- where the operands' addresses lie -/
def kidSl (ws : List Int) (a n bl off cap : Nat) : Value := if isNumOp (opW ws a) = true then .slice none 0 0 else .slice (some ⟨bl, off + 1, none⟩) (n - 1) (cap - 1)
theorem kidSl_in {ws : List Int} {a n bl off cap : Nat} {w : World} (h : CellIn ws a n bl off cap w) : IIn w (cellW ws a).kids (kidSl ws a n bl off cap) := by
  unfold kidSl
  cases hn : isNumOp (opW ws a) with
  | true =>
    rw [cellW_num hn, if_pos rfl]
    exact ⟨none, 0, rfl, Nat.le_refl _, by simp [maxLen], Or.inl rfl⟩
  | false =>
    rw [cellW_kid hn, if_neg (by simp), ← h.len]
    have h1 := h.fit
    have h2 := h.pos
    have h3 := h.cap1
    have h4 := h.cap2
    have hl : ((ws.drop (a + 1)).take (n - 1)).length = n - 1 := by rw [List.length_take, List.length_drop]; omega
    refine ⟨_, cap - 1, by rw [hl], by rw [hl]; omega, by unfold maxLen; omega, Or.inr ⟨bl, off + 1, rfl, ?_, fun i hi => ?_⟩⟩
    · exact cell_lt (h.cell 0 (by omega))
    · rw [hl] at hi
      have h5 := h.cell (1 + i) (by omega)
      have e1 : off + 1 + i = off + (1 + i) := by omega
      rw [e1, h5]
      have h6 := kidsW_get (ws := ws) (a := a) (q := i) (by rw [← h.len]; exact h1) (by rw [← h.len]; exact hi)
      rw [← h.len, List.getElem?_eq_getElem (by rw [hl]; exact hi)] at h6
      simp only [Option.some.injEq] at h6
      rw [h6]
      have e2 : a + 1 + i = a + (1 + i) := by omega
      rw [e2]
theorem addr_calls (ws : List Int) (a n bl off cap : Nat) (w : World) (h : CellIn ws a n bl off cap w) : Calls Try.prog 68 #[.slice (some ⟨bl, off, none⟩) n cap] w fun e w' => e = .returned (kidSl ws a n bl off cap) ∧ w = w' := by
  unfold kidSl
  cases hn : isNumOp (opW ws a) with
  | true => rw [if_pos rfl]; exact addr_num ws a bl off cap w (h.cell 0 (by have := h.pos; omega)) n (by have := h.pos; omega) h.cap1 h.cap2 hn
  | false => rw [if_neg (by simp)]; exact addr_kids ws a bl off cap w (h.cell 0 (by have := h.pos; omega)) n h.pos h.cap1 h.cap2 hn

/-- a row of ints is no box -/
theorem stk_off {w w' : World} {lo lo' B : Nat} {xs : List Int} {v : Value} {cs : Array Value} (h : StkI w lo xs v) (hl : lo' ≤ lo) (hw : ∀ k, lo' ≤ k → k < w.heap.size → (k = B → w.heap[B]? ≠ some (.cells cs 40)) → w'.heap[k]? = w.heap[k]?) : StkI w' lo' xs v := by
  refine ⟨h.1, ?_⟩
  rcases h.2 with h | ⟨g, cap, cur, rfl, hg, hh, r⟩
  · exact Or.inl h
  · refine Or.inr ⟨g, cap, cur, rfl, Nat.le_trans hl hg, (hw g (Nat.le_trans hl hg) (Array.getElem?_eq_some_iff.1 hh).1 fun e h2 => ?_).trans hh, r⟩
    subst e
    rw [hh] at h2
    simp at h2
theorem s3_cell {w : World} {B bl off : Nat} {b0 b1 b2 v : Value} (hk : bl ≠ B) (h : w.cell? ⟨bl, off, none⟩ = some v) : (((w.setCell ⟨B, 0, none⟩ b0).setCell ⟨B, 1, none⟩ b1).setCell ⟨B, 2, none⟩ b2).cell? ⟨bl, off, none⟩ = some v :=
  (World.cell?_of_block (a := ⟨bl, off, none⟩) (s3_far hk)).trans h
set_option maxRecDepth 100000 in
set_option maxHeartbeats 800000 in
theorem cellOf_calls (ws : List Int) (a n bl off cap : Nat) (w : World) (h : CellIn ws a n bl off cap w) (hl : ws.length ≤ 1048576) :
    Calls Try.prog 53 #[.slice (some ⟨bl, off, none⟩) n cap] w (NewCellW (cellW ws a) w) := by
  have HC := mkHid h
  obtain ⟨sl, hsl⟩ : ∃ sl, sl = kidSl ws a n bl off cap := ⟨_, rfl⟩
  have HADR : Hid (∀ W, Below w.heap.size w W → Calls Try.prog 68 #[.slice (some ⟨bl, off, none⟩) n cap] W fun e w' => e = .returned sl ∧ W = w') := fun W hW => by rw [hsl]; exact addr_calls ws a n bl off cap W (HC.out.next hW)
  obtain ⟨ks, hks⟩ : ∃ ks, ks = (cellW ws a).kids := ⟨_, rfl⟩
  have HKI : Hid (∀ W, Below w.heap.size w W → IIn W ks sl) := fun W hW => by rw [hsl, hks]; exact kidSl_in (HC.out.next hW)
  have HKL : Hid (ks.length ≤ 1048576) := by
    rw [hks, Hid]
    have h1 := HC.out.fit
    cases hn : isNumOp (opW ws a) with
    | true => rw [cellW_num hn]; simp
    | false => rw [cellW_kid hn, List.length_take]; have := wLen_le (opW ws a); omega
  have HCL : Hid (∀ W, Below w.heap.size w W → Calls Try.prog 47 #[sl] W (CloneW ks W)) := fun W hW => cloneW_calls ks sl W (HKI.out W hW) HKL.out
  obtain ⟨op, hop⟩ : ∃ op, op = opW ws a := ⟨_, rfl⟩
  have HOP := mkHid hop
  have hn0 : 0 < n := by have := h.pos; omega
  have hnI : (0 : Int) < (n : Int) := by omega
  have hcap1 := h.cap1
  have hcap2 := h.cap2
  have d0w : w.cell? ⟨bl, off, none⟩ = some (.int .i64 op) := by rw [hop]; exact h.cell 0 hn0
  have hbl := cell_lt d0w
  have HBL : Hid (bl < w.heap.size) := hbl
  obtain ⟨W, hW⟩ : ∃ W, W = w.alloc (.cells #[.int .i64 0, .int .i64 0, .slice none 0 0] 40) := ⟨_, rfl⟩
  have HB : Hid (Below w.heap.size w W) := by rw [hW]; exact box_below _ _
  have HX : Hid (W.heap[w.heap.size]? = some (.cells #[.int .i64 0, .int .i64 0, .slice none 0 0] 40)) := by rw [hW]; exact Deep.blk_alloc_new _ _
  have HL : Hid (W.heap.size = w.heap.size + 1) := by rw [hW, Hid, Deep.nblk_alloc]
  have HD0 := mkHid d0w
  obtain ⟨adk, nk, capk, hslv⟩ : ∃ ad n cap, sl = .slice ad n cap := by rw [hsl]; unfold kidSl; split; exact ⟨_, _, _, rfl⟩; exact ⟨_, _, _, rfl⟩
  subst hslv
  have HKS := mkHid hks
  clear h hsl hop hks hbl
  go_enter Try.func53, Try.ntmps53
  go_wp2_with fail
  rw [← hW]
  clear hW d0w
  have d0 := (HB.out.cell (p := ⟨bl, off, none⟩) HBL.out).trans HD0.out
  have HNB : Hid (bl ≠ W.heap.size) := by have := HL.out; have := HBL.out; unfold Hid; omega
  go_region_held3 (fun w' => w'.cell? ⟨bl, off, none⟩ = some (.int .i64 op))
    (first
      | go_keep
      | with_reducible exact d0
      | with_reducible exact m0
      | with_reducible exact old_cell d0 _
      | with_reducible exact old_cell m0 _
      | with_reducible exact s3_cell HNB.out m0)
    (first
      | (go_at_call 68; refine (HADR.out _ ?_).mono ?_; (first | exact HB.out.drew | exact (HB.out.alloc HB.out.size _).drew); rintro e w3 ⟨rfl, rfl⟩)
      | (go_at_call 47; refine (HCL.out _ ?_).mono ?_; (first | exact HB.out.drew | exact (HB.out.alloc HB.out.size _).drew); rintro e w4 ⟨v4, rfl, hst4, hb4⟩; have HST4 := mkHid hst4; have HB4 := mkHid hb4; obtain ⟨ad4, n4, cap4, rfl⟩ := hst4.form; have hsz4 : w.heap.size + 1 ≤ w4.heap.size := (Nat.le_trans (by first | (show w.heap.size + 1 ≤ W.heap.size; rw [HL.out]; omega) | (show w.heap.size + 1 ≤ (W.alloc _).heap.size; rw [Deep.nblk_alloc, HL.out]; omega)) hb4.size); have HFAR4 : Hid (∀ k, k < w.heap.size + 1 → w4.heap[k]? = W.heap[k]?) := (fun k hk => (hb4.block k (Nat.lt_of_lt_of_le hk (by first | (show w.heap.size + 1 ≤ W.heap.size; rw [HL.out]; omega) | (show w.heap.size + 1 ≤ (W.alloc _).heap.size; rw [Deep.nblk_alloc, HL.out]; omega)))).trans (by first | rfl | exact Deep.blk_alloc_lt _ _ _ (by rw [HL.out]; exact hk))); have HSZ4 := mkHid hsz4; have m0 := (World.cell?_of_block (a := ⟨bl, off, none⟩) (HFAR4.out bl (by have := HBL.out; omega))).trans d0; (try (have HBX4 : Hid (w4.heap[W.heap.size]? = some (.cells #[.int .i64 0, .int .i64 0, .slice none 0 0] 40)) := (hb4.block W.heap.size (by show _ < (W.alloc _).heap.size; rw [Deep.nblk_alloc]; omega)).trans (Deep.blk_alloc_new _ _); have z0 := cell_of_blk HBX4.out 0 _ rfl; have z1 := cell_of_blk HBX4.out 1 _ rfl; have z2 := cell_of_blk HBX4.out 2 _ rfl; have fz := frz_of_blk HBX4.out)); have HBW4 : Hid (Below w.heap.size w w4) := ⟨hb4.os.trans HB.out.os, hb4.tape.trans HB.out.tape, hb4.output.trans HB.out.output, Nat.le_trans (Nat.le_succ _) hsz4, fun k hk => (HFAR4.out k (Nat.lt_succ_of_lt hk)).trans (HB.out.block k hk)⟩; have HSU4 : Hid (∀ w', (∀ k, w.heap.size + 1 ≤ k → k < w4.heap.size → (k = W.heap.size → w4.heap[W.heap.size]? ≠ some (.cells #[.int .i64 0, .int .i64 0, .slice none 0 0] 40)) → w'.heap[k]? = w4.heap[k]?) → StkI w' (w.heap.size + 1) ks (.slice ad4 n4 cap4)) := (fun w' hw' => stk_off HST4.out (by first | (show w.heap.size + 1 ≤ W.heap.size; rw [HL.out]; omega) | (show w.heap.size + 1 ≤ (W.alloc _).heap.size; rw [Deep.nblk_alloc, HL.out]; omega)) hw'); clear hsz4; clear hst4 hb4))
  all_goals
    first
    | (obtain ⟨wz, hwz⟩ : ∃ wz : World, wz = w4.alloc (.cells #[.int .i64 op, .int .i64 0, .slice ad4 n4 cap4] 40) := ⟨_, rfl⟩
       rw [← hwz]
       obtain ⟨b, hb⟩ : ∃ b : Nat, b = w4.heap.size := ⟨_, rfl⟩
       rw [← hb]
       have HZB : Hid (wz.heap[b]? = some (.cells #[.int .i64 op, .int .i64 0, .slice ad4 n4 cap4] 40)) := by rw [hwz, hb]; exact Deep.blk_alloc_new _ _
       have HZX : Hid (wz.heap[w.heap.size]? = some (.cells #[.int .i64 0, .int .i64 0, .slice none 0 0] 40)) := by rw [hwz]; exact (Deep.blk_alloc_lt _ _ _ (by have := HSZ4.out; omega)).trans ((HFAR4.out _ (Nat.lt_succ_self _)).trans HX.out)
       have HZS : Hid (StkI wz (w.heap.size + 1) ks (.slice ad4 n4 cap4)) := by rw [hwz]; exact HSU4.out _ fun k _ hk _ => Deep.blk_alloc_lt _ _ _ hk
       have HZW : Hid (Below w.heap.size w wz) := by rw [hwz]; exact HBW4.out.alloc HBW4.out.size _
       have HNE : Hid (w.heap.size < b) := by rw [hb]; exact HSZ4.out
       clear hwz hb)
    | (obtain ⟨wz, hwz⟩ : ∃ wz : World, wz = (((w4.setCell ⟨W.heap.size, 0, none⟩ (.int .i64 op)).setCell ⟨W.heap.size, 1, none⟩ (.int .i64 0)).setCell ⟨W.heap.size, 2, none⟩ (.slice ad4 n4 cap4)) := ⟨_, rfl⟩
       rw [← hwz]
       obtain ⟨b, hb⟩ : ∃ b : Nat, b = W.heap.size := ⟨_, rfl⟩
       rw [← hb]
       have HZB : Hid (wz.heap[b]? = some (.cells #[.int .i64 op, .int .i64 0, .slice ad4 n4 cap4] 40)) := by rw [hwz, hb]; exact s3_blk HBX4.out
       have HZX : Hid (wz.heap[w.heap.size]? = some (.cells #[.int .i64 0, .int .i64 0, .slice none 0 0] 40)) := by rw [hwz]; exact (s3_far (by have := HL.out; omega)).trans ((HFAR4.out _ (Nat.lt_succ_self _)).trans HX.out)
       have HZS : Hid (StkI wz (w.heap.size + 1) ks (.slice ad4 n4 cap4)) := by rw [hwz]; exact HSU4.out _ fun k _ _ hne => s3_far fun e => hne e HBX4.out
       have HZW : Hid (Below w.heap.size w wz) := by rw [hwz]; exact s3_below HBW4.out HB.out.size
       have HNE : Hid (w.heap.size < b) := by rw [hb, HL.out]; exact Nat.lt_succ_self _
       clear hwz hb)
    clear m0 d0
    try clear z0 z1 z2 fz HBX4
    clear HSU4 HFAR4 HST4 HB4 HBW4
    have y0 := cell_of_blk HZB.out 0 _ rfl
    go_wp2_with fail
    refine (hasNumber_calls op wz).mono ?_
    rintro e w7 ⟨rfl, rfl⟩
    have x0 := cell_of_blk HZX.out 0 _ rfl
    have x1 := cell_of_blk HZX.out 1 _ rfl
    have x2 := cell_of_blk HZX.out 2 _ rfl
    have fx := frz_of_blk HZX.out
    cases hnum : isNumOp op with
    | true =>
      have hn2 : 1 < n := by have := HC.out.pos; omega
      have hn2I : (1 : Int) < (n : Int) := by omega
      have d1 := (HC.out.next HZW.out).cell 1 hn2
      obtain ⟨m, hm⟩ : ∃ m, m = opW ws (a + 1) := ⟨_, rfl⟩
      rw [← hm] at d1
      have HV : Hid (cellW ws a = ⟨op, m, ks⟩) := by
        have h := cellW_num (ws := ws) (a := a) (by rw [← HOP.out]; exact hnum)
        have h2 : ks = [] := by rw [HKS.out, h]
        rw [Hid, h, ← HOP.out, h2, hm]
      have fy := frz_of_blk HZB.out
      have HBX : Hid ((wz.setCell ⟨b, 1, none⟩ (.int .i64 m)).heap[b]? = some (.cells #[.int .i64 op, .int .i64 m, .slice ad4 n4 cap4] 40)) := c1_blk HZB.out
      have HZX2 : Hid ((wz.setCell ⟨b, 1, none⟩ (.int .i64 m)).heap[w.heap.size]? = some (.cells #[.int .i64 0, .int .i64 0, .slice none 0 0] 40)) := (Below.heap_setCell _ _ _ _ (by show w.heap.size ≠ b; have := HNE.out; omega)).trans HZX.out
      have HNB2 : Hid (b ≠ w.heap.size) := by have := HNE.out; unfold Hid; omega
      clear hm y0 x0 x1 x2 fx
      have y0 := cell_of_blk HZB.out 0 _ rfl
      have y1 := cell_of_blk HZB.out 1 _ rfl
      have y2 := cell_of_blk HZB.out 2 _ rfl
      obtain ⟨wy, hwy⟩ : ∃ wy : World, wy = wz.setCell ⟨b, 1, none⟩ (.int .i64 m) := ⟨_, rfl⟩
      rw [← hwy] at HBX HZX2
      have q0 := cell_of_blk HBX.out 0 _ rfl
      have q1 := cell_of_blk HBX.out 1 _ rfl
      have q2 := cell_of_blk HBX.out 2 _ rfl
      have x0 := cell_of_blk HZX2.out 0 _ rfl
      have x1 := cell_of_blk HZX2.out 1 _ rfl
      have x2 := cell_of_blk HZX2.out 2 _ rfl
      have fx := frz_of_blk HZX2.out
      rw [hwy] at q0 q1 q2 x0 x1 x2 fx
      go_wp2_with fail
      rw [← hwy]
      have hb := s3_blk (b0 := .int .i64 op) (b1 := .int .i64 m) (b2 := .slice ad4 n4 cap4) HZX2.out
      refine bodyPost_ret (v := .agg #[.int .i64 op, .int .i64 m, .slice ad4 n4 cap4]) (by simp [results, Try.results53, go_sem, cell_of_blk hb 0 _ rfl, cell_of_blk hb 1 _ rfl, cell_of_blk hb 2 _ rfl]) rfl ?_
      rw [HV.out]
      refine ⟨_, rfl, ?_, s3_below (by rw [hwy]; exact HZW.out.setCell (Nat.le_of_lt HNE.out) _) (Nat.le_refl _)⟩
      have hz := stk_off (w' := wy) (B := b) HZS.out (Nat.le_refl _) fun k _ _ hne => by rw [hwy]; exact Below.heap_setCell _ _ _ _ (fun e => hne e HZB.out)
      exact (hz.keep fun j hj _ => s3_far (by omega)).lower (Nat.le_succ _)
    | false =>
      have HV : Hid (cellW ws a = ⟨op, 0, ks⟩) := by
        have h := cellW_kid (ws := ws) (a := a) (by rw [← HOP.out]; exact hnum)
        rw [Hid, HKS.out, h, ← HOP.out]
      have y1 := cell_of_blk HZB.out 1 _ rfl
      have y2 := cell_of_blk HZB.out 2 _ rfl
      go_wp2_with fail
      have hb := s3_blk (b0 := .int .i64 op) (b1 := .int .i64 0) (b2 := .slice ad4 n4 cap4) HZX.out
      refine bodyPost_ret (v := .agg #[.int .i64 op, .int .i64 0, .slice ad4 n4 cap4]) (by simp [results, Try.results53, go_sem, cell_of_blk hb 0 _ rfl, cell_of_blk hb 1 _ rfl, cell_of_blk hb 2 _ rfl]) rfl ?_
      rw [HV.out]
      refine ⟨_, rfl, ?_, s3_below HZW.out (Nat.le_refl _)⟩
      exact (HZS.out.keep fun j hj _ => s3_far (by omega)).lower (Nat.le_succ _)
end Go.Proofs.Ytiipcgnkfhjpeaa
/-
  THE PROGRAM's slices.Index, slices.Contains AND sizeAfter.
-/
namespace Go.Proofs.Ytiipcgnkfhjpeaa
set_option linter.unusedVariables false
set_option linter.unusedSimpArgs false
open Go.RowKit


theorem IIn.take {w : World} {xs : List Int} {ad : Option Addr} {cap q : Nat} (h : IIn w xs (.slice ad xs.length cap)) (hq : q ≤ xs.length) (hq0 : 0 < xs.length) : IIn w (xs.take q) (.slice ad q cap) := by
  obtain ⟨ad2, cap2, he, hlc, hm, hr⟩ := h
  simp only [Value.slice.injEq, true_and] at he
  obtain ⟨rfl, rfl⟩ := he
  have hl : (xs.take q).length = q := by rw [List.length_take]; omega
  refine ⟨ad, cap, by rw [hl], by rw [hl]; omega, hm, ?_⟩
  rcases hr with hr | ⟨bl, off, rfl, hlt, hc⟩
  · rw [hr] at hq0; exact absurd hq0 (by simp)
  · refine Or.inr ⟨bl, off, rfl, hlt, fun i hi => ?_⟩
    rw [hl] at hi
    rw [hc i (by omega)]
    simp
end Go.Proofs.Ytiipcgnkfhjpeaa
/-
  THE PROGRAM's canScan.
-/
namespace Go.Proofs.Ytiipcgnkfhjpeaa
set_option linter.unusedVariables false
set_option linter.unusedSimpArgs false
open Go.RowKit


theorem below_step {w w2 w3 : World} (h : Below w.heap.size w w2) (k : Below w2.heap.size w2 w3) : Below w.heap.size w w3 := ⟨k.os.trans h.os, k.tape.trans h.tape, k.output.trans h.output, Nat.le_trans h.size k.size, fun j hj => (k.block j (Nat.lt_of_lt_of_le hj h.size)).trans (h.block j hj)⟩
end Go.Proofs.Ytiipcgnkfhjpeaa
/-
  THE PROGRAM's SPACES OF WORDS: add, inUse, spaceOf.
-/
namespace Go.Proofs.Ytiipcgnkfhjpeaa
set_option linter.unusedVariables false
set_option linter.unusedSimpArgs false
open Go.RowKit


/-- a space of words in the block B: its words in use, its scan -/
structure Spc (w : World) (B : Nat) (F : List Int) (scan : Int) : Prop where
  len : F.length ≤ 1600
  mem : ∃ cur : Array Value, w.heap[B]? = some (.cells cur 72) ∧ cur.size = 1602 ∧ (∀ i (h : i < F.length), cur[i]? = some (.int .i64 F[i])) ∧ cur[1600]? = some (.int .i64 scan) ∧ cur[1601]? = some (.int .i64 (F.length : Int))
theorem Spc.keep {w w' : World} {B : Nat} {F : List Int} {scan : Int} (h : Spc w B F scan) (hb : w'.heap[B]? = w.heap[B]?) : Spc w' B F scan := by
  obtain ⟨h1, cur, h2, h3⟩ := h
  exact ⟨h1, cur, hb.trans h2, h3⟩
theorem Spc.lt {w : World} {B : Nat} {F : List Int} {scan : Int} (h : Spc w B F scan) : B < w.heap.size := by
  obtain ⟨-, cur, h2, -⟩ := h; exact (Array.getElem?_eq_some_iff.1 h2).1
theorem Spc.word {w : World} {B : Nat} {F : List Int} {scan : Int} (h : Spc w B F scan) {a : Nat} (ha : a < F.length) : w.cell? ⟨B, a, none⟩ = some (.int .i64 (opW F a)) := by
  obtain ⟨-, cur, h2, -, h4, -⟩ := h
  rw [opW_at ha]; exact cell_of_blk h2 a _ (h4 a ha)
theorem Spc.scanC {w : World} {B : Nat} {F : List Int} {scan : Int} (h : Spc w B F scan) : w.cell? ⟨B, 1600, none⟩ = some (.int .i64 scan) := by
  obtain ⟨-, cur, h2, -, -, h4, -⟩ := h; exact cell_of_blk h2 _ _ h4
theorem Spc.freeC {w : World} {B : Nat} {F : List Int} {scan : Int} (h : Spc w B F scan) : w.cell? ⟨B, 1601, none⟩ = some (.int .i64 (F.length : Int)) := by
  obtain ⟨-, cur, h2, -, -, -, h4⟩ := h; exact cell_of_blk h2 _ _ h4
theorem Spc.frz {w : World} {B : Nat} {F : List Int} {scan : Int} (h : Spc w B F scan) (i : Nat) : w.frozen? ⟨B, i, none⟩ = false := by
  obtain ⟨-, cur, h2, -⟩ := h; exact frz_of_blk h2 i
theorem Spc.inn {w : World} {B : Nat} {F : List Int} {scan : Int} (h : Spc w B F scan) : IIn w F (.slice (some ⟨B, 0, none⟩) F.length 1600) :=
  ⟨_, _, rfl, h.len, by simp [maxLen], Or.inr ⟨B, 0, rfl, h.lt, fun i hi => by rw [Nat.zero_add, h.word hi, opW_at hi]⟩⟩
theorem Spc.setWord {w : World} {B : Nat} {F : List Int} {scan : Int} (h : Spc w B F scan) {a : Nat} (ha : a < F.length) (v : Int) : Spc (w.setCell ⟨B, a, none⟩ (.int .i64 v)) B (F.set a v) scan := by
  obtain ⟨h1, cur, h2, h3, h4, h5, h6⟩ := h
  refine ⟨by rw [List.length_set]; exact h1, cur.setIfInBounds a (.int .i64 v), ?_, by simpa using h3, fun i hi => ?_, ?_, ?_⟩
  · simp [World.setCell, Array.getElem?_modify, h2]
  · rw [List.length_set] at hi
    rw [Array.getElem?_setIfInBounds, List.getElem_set]
    by_cases e : a = i
    · subst e; rw [if_pos rfl, if_pos (by omega), if_pos rfl]
    · rw [if_neg e, if_neg e]; exact h4 i hi
  · rw [Array.getElem?_setIfInBounds, if_neg (by omega)]; exact h5
  · rw [Array.getElem?_setIfInBounds, if_neg (by omega), List.length_set]; exact h6
theorem Spc.setScan {w : World} {B : Nat} {F : List Int} {scan : Int} (h : Spc w B F scan) (v : Int) : Spc (w.setCell ⟨B, 1600, none⟩ (.int .i64 v)) B F v := by
  obtain ⟨h1, cur, h2, h3, h4, h5, h6⟩ := h
  refine ⟨h1, cur.setIfInBounds 1600 (.int .i64 v), ?_, by simpa using h3, fun i hi => ?_, ?_, ?_⟩
  · simp [World.setCell, Array.getElem?_modify, h2]
  · rw [Array.getElem?_setIfInBounds, if_neg (by omega)]; exact h4 i hi
  · rw [Array.getElem?_setIfInBounds, if_pos rfl, if_pos (by omega)]
  · rw [Array.getElem?_setIfInBounds, if_neg (by omega)]; exact h6
/-- words behind those in use, and the count -/
theorem Spc.push {w : World} {B : Nat} {F seg : List Int} {scan : Int} {cur : Array Value} (h : Spc w B F scan) (hc : w.heap[B]? = some (.cells cur 72)) (hl : F.length + seg.length ≤ 1600) :
    Spc ((w.setRow B (cur.toList.take F.length ++ inV seg ++ cur.toList.drop (F.length + seg.length)).toArray).setCell ⟨B, 1601, none⟩ (.int .i64 ((F.length : Int) + (seg.length : Int)))) B (F ++ seg) scan := by
  obtain ⟨h1, cur2, h2, h3, h4, h5, h6⟩ := h
  obtain rfl : cur = cur2 := by rw [hc] at h2; simpa using h2
  have hz : (cur.toList.take F.length ++ inV seg ++ cur.toList.drop (F.length + seg.length)).length = 1602 := by
    simp [inV_length]; omega
  obtain ⟨L, hL⟩ : ∃ L, L = cur.toList.take F.length ++ inV seg ++ cur.toList.drop (F.length + seg.length) := ⟨_, rfl⟩
  rw [← hL] at hz ⊢
  have hr := setRow_heap w B cur L.toArray _ _ hc
  have g1 : ∀ i, i < F.length → L[i]? = cur[i]? := fun i hi => by
    rw [hL, List.append_assoc, List.getElem?_append_left (by simp; omega), List.getElem?_take_of_lt hi, Array.getElem?_toList]
  have g2 : ∀ i, F.length ≤ i → i < F.length + seg.length → L[i]? = (inV seg)[i - F.length]? := fun i h1 h2 => by
    rw [hL, List.append_assoc, List.getElem?_append_right (by simp; omega), List.getElem?_append_left (by simp [inV_length]; omega)]
    simp
    congr 1
    omega
  have g3 : ∀ i, F.length + seg.length ≤ i → i < 1602 → L[i]? = cur[i]? := fun i h1 h2 => by
    rw [hL, List.getElem?_append_right (by simp [inV_length]; omega), List.getElem?_drop, Array.getElem?_toList]
    congr 1
    simp [inV_length]
    omega
  refine ⟨by rw [List.length_append]; exact hl, L.toArray.setIfInBounds 1601 (.int .i64 ((F.length : Int) + (seg.length : Int))), ?_, by simpa using hz, fun i hi => ?_, ?_, ?_⟩
  · simp [World.setCell, Array.getElem?_modify, hr]
  · rw [List.length_append] at hi
    rw [Array.getElem?_setIfInBounds, if_neg (by omega), List.getElem?_toArray]
    by_cases e : i < F.length
    · rw [g1 i e, h4 i e, List.getElem_append_left e]
    · rw [g2 i (by omega) hi, List.getElem_append_right (by omega)]
      simp [inV, show i - F.length < seg.length by omega]
  · rw [Array.getElem?_setIfInBounds, if_neg (by omega), List.getElem?_toArray, g3 1600 hl (by omega)]; exact h5
  · rw [Array.getElem?_setIfInBounds, if_pos rfl, if_pos (by simp; omega), List.length_append]; push_cast; rfl
/-- copy of numbers into a space, as one step of a region that draws its order -/
theorem step_copyW {ops : Array Oper} {o : Oper} {a : Act} {w : World} {K : Act → World → Prop} {Q : Exit → Act → World → Prop} {E : Prop} (hgd : o.guard = none) (d s : Operand)
    (ho : o.op = .call { callee := .builtin .copy, args := #[d, s], argTypes := #[24, 24] })
    (B off dl dc : Nat) (sv : Value) (seg : List Int) (cur : Array Value) (hd : a.eval d = .slice (some ⟨B, off, none⟩) dl dc) (hs : a.eval s = sv) (hsv : IIn w seg sv) (hB : w.heap[B]? = some (.cells cur 72)) (hlen : seg.length ≤ dl) (hfit : off + seg.length ≤ cur.size) (L : Array Value) (hL : L = (cur.toList.take off ++ inV seg ++ cur.toList.drop (off + seg.length)).toArray)
    (h : K (a.put o.dst (.int .i64 (seg.length : Int))) (w.setRow B L)) : if Region.wanted o (yielded ops a.tmps) = true then Oper.wp Try.prog o a w K Q else E := by
  have hw : Region.wanted o (yielded ops a.tmps) = true := by simp [Region.wanted, hgd]
  rw [if_pos hw]
  obtain ⟨i, z, hi, hz, hsz, hby, hzs⟩ := infoI1
  have hs1 : (Try.prog.info? 3).map (·.size) = some 1 := by rw [hi]; simp [hsz]
  have hrun : ∃ v, (Builtin.copy_ #[24, 24] o.type #[.slice (some ⟨B, off, none⟩) dl dc, sv]).run Try.prog w = .ok v (w.setRow B L) ∧ v = .int .i64 (seg.length : Int) := by
    rw [hL]
    obtain ⟨ad, cap, rfl, -, -, hr⟩ := id hsv
    rcases ad with _ | ad
    · have hnil : seg = [] := by
        rcases hr with h | ⟨_, _, h, -⟩
        · exact h
        · simp at h
      subst hnil
      have e9 : (cur.toList.take off ++ inV [] ++ cur.toList.drop (off + ([] : List Int).length)).toArray = cur := by
        show (cur.toList.take off ++ [] ++ cur.toList.drop (off + 0)).toArray = cur
        rw [List.append_nil, Nat.add_zero, List.take_append_drop]
      refine ⟨.int .i64 0, ?_, rfl⟩
      rw [e9, setRow_self w B cur _ _ hB]
      exact run_copy_none (P := Try.prog) w _ _ _ 3 _ _ _ _ _ _ Try.underlying24 hs1 (Nat.zero_min _)
    · refine ⟨_, run_copy_row Try.prog w _ _ _ 3 B off dl dc ad seg.length cap cur _ (inV seg) Try.underlying24 hs1 hB (by rw [inV_length]; exact (Nat.min_eq_left hlen).symm) (ints_newsI hsv) (by rw [inV_length]; exact hfit) (inV_one _) |>.trans ?_, rfl⟩
      rw [inV_length]
      rfl
  obtain ⟨v, hrun, rfl⟩ := hrun
  unfold Oper.wp
  simp [execOp, ho, resolve, invoke, builtin, hd, hs, hrun, Result.andThen]
  exact h
/-- a part of the array of a space -/
theorem sliceW_hi (B n : Nat) (hn : n ≤ 1600) (w : World) : (Instr.sliceAt 70 (.pointer (some ⟨B, 0, none⟩)) none (some (.int .i64 (n : Int))) none).run Try.prog w = .ok (.slice (some ⟨B, 0, none⟩) n 1600) w := by
  obtain ⟨i, z, hi, hz, hsz, hby, hzs⟩ := infoI1
  have h1 : (0 : Int) ≤ (n : Int) := by omega
  have h2 : (n : Int) ≤ ((1600 : Nat) : Int) := by omega
  simp [Instr.sliceAt, run_underlying Try.underlying70, Instr.sureAddr, Instr.sliceBounds, run_sliceBound, sizeOf, typeInfo, hi, hsz, Addr.add, hn]
  rw [run_sliceBound w _ _ _ _ h1 h2]
  simp
theorem sliceW_lo (B n : Nat) (hn : n ≤ 1600) (w : World) : (Instr.sliceAt 70 (.pointer (some ⟨B, 0, none⟩)) (some (.int .i64 (n : Int))) none none).run Try.prog w = .ok (.slice (some ⟨B, if n = 1600 then 0 else n, none⟩) (1600 - n) (1600 - n)) w := by
  obtain ⟨i, z, hi, hz, hsz, hby, hzs⟩ := infoI1
  have h1 : (0 : Int) ≤ (n : Int) := by omega
  have h2 : (n : Int) ≤ ((1600 : Nat) : Int) := by omega
  by_cases e : n = 1600
  · subst e
    simp [Instr.sliceAt, run_underlying Try.underlying70, Instr.sureAddr, Instr.sliceBounds, run_sliceBound, sizeOf, typeInfo, hi, hsz, Addr.add]
  · simp [Instr.sliceAt, run_underlying Try.underlying70, Instr.sureAddr, Instr.sliceBounds, run_sliceBound, sizeOf, typeInfo, hi, hsz, Addr.add, hn, e, Ne.symm e]
    rw [run_sliceBound w _ _ _ _ h1 h2]
    simp [Ne.symm e, e]
    intro h0
    omega
/-- nothing but the block B is written -/
structure OnlyB (B : Nat) (w w' : World) : Prop where
  os : w'.os = w.os
  tape : w'.tape = w.tape
  output : w'.output = w.output
  size : w'.heap.size = w.heap.size
  block : ∀ k, k ≠ B → w'.heap[k]? = w.heap[k]?
theorem forwarding_calls (x : Int) (w : World) (h0 : -1000000 ≤ x) (h1 : x ≤ 1000000) : Calls Try.prog 76 #[.int .i64 x] w fun e w' => e = .returned (.int .i64 (-x - 1)) ∧ w = w' := by
  go_enter Try.func76, Try.ntmps76
  go_wp2_with fail
  go_ret
  exact ⟨rfl, rfl⟩
set_option maxHeartbeats 800000 in
theorem inUse_calls (B : Nat) (F : List Int) (scan : Int) (w : World) (h : Spc w B F scan) : Calls Try.prog 50 #[.pointer (some ⟨B, 0, none⟩)] w fun e w' => e = .returned (.slice (some ⟨B, 0, none⟩) F.length 1600) ∧ Below w.heap.size w w' := by
  have H := mkHid h
  have hl := h.len
  have d1 := h.freeC
  have hbl := h.lt
  have hsl := sliceW_hi B F.length hl
  clear h
  go_enter Try.func50, Try.ntmps50
  go_wp2_with fail
  go_region
  all_goals
    go_wp2_with fail
    go_ret
    exact ⟨rfl, (Below.refl _ _).drew⟩
set_option maxHeartbeats 800000 in
theorem add_calls (B : Nat) (F seg : List Int) (scan : Int) (sv : Value) (w : World) (h : Spc w B F scan) (hs : IIn w seg sv) (hl : F.length + seg.length ≤ 1600) :
    Calls Try.prog 66 #[.pointer (some ⟨B, 0, none⟩), sv] w fun e w' => e = .returned (.int .i64 (F.length : Int)) ∧ Spc w' B (F ++ seg) scan ∧ OnlyB B w w' := by
  have H := mkHid h
  have HS := mkHid hs
  have hF := h.len
  have d1 := h.freeC
  have f1 := h.frz 1601
  obtain ⟨cur, hB, hcs, hc4, hc5, hc6⟩ := id h.mem
  have HBK := mkHid hB
  have hbl := h.lt
  obtain ⟨adv, capv, rfl, -, -, -⟩ := hs
  have hsl := sliceW_lo B F.length hF
  obtain ⟨off, hoff⟩ : ∃ off : Nat, off = if F.length = 1600 then 0 else F.length := ⟨_, rfl⟩
  obtain ⟨dl, hdle⟩ : ∃ dl : Nat, dl = 1600 - F.length := ⟨_, rfl⟩
  rw [← hoff, ← hdle] at hsl
  have HOFF : Hid (cur.toList.take off ++ inV seg ++ cur.toList.drop (off + seg.length) = cur.toList.take F.length ++ inV seg ++ cur.toList.drop (F.length + seg.length)) := by
    by_cases e : F.length = 1600
    · have e2 : seg = [] := List.eq_nil_of_length_eq_zero (by omega)
      subst e2
      simp [Hid, inV]
    · rw [hoff, if_neg e]; rfl
  have hfit : off + seg.length ≤ cur.size := by rw [hoff]; split <;> omega
  have hdl : seg.length ≤ dl := by omega
  obtain ⟨L, hL⟩ : ∃ L : Array Value, L = (cur.toList.take off ++ inV seg ++ cur.toList.drop (off + seg.length)).toArray := ⟨_, rfl⟩
  have HL := mkHid hL
  have HPU : Hid (Spc ((w.drew.setRow B L).setCell ⟨B, 1601, none⟩ (.int .i64 ((F.length : Int) + (seg.length : Int)))) B (F ++ seg) scan) := by
    have hp := Spc.push (w := w.drew) (h.keep rfl) hB hl
    rw [hL, HOFF.out]; exact hp
  have hrow : (w.drew.setRow B L).heap[B]? = some (.cells L 72) := setRow_heap w.drew B cur _ _ _ hB
  have r1 : (w.drew.setRow B L).cell? ⟨B, 1601, none⟩ = some (.int .i64 (F.length : Int)) := by
    refine cell_of_blk hrow 1601 _ ?_
    rw [hL, List.getElem?_toArray, HOFF.out, List.getElem?_append_right (by simp [inV_length]; omega), List.getElem?_drop, Array.getElem?_toList]
    have e : F.length + seg.length + (1601 - (cur.toList.take F.length ++ inV seg).length) = 1601 := by simp [inV_length]; omega
    rw [e]; exact hc6
  have rf : (w.drew.setRow B L).frozen? ⟨B, 1601, none⟩ = false := frz_of_blk hrow 1601
  have hwr : IntKind.i64.wrap ((F.length : Int) + (seg.length : Int)) = (F.length : Int) + (seg.length : Int) := IntWalk.i64_in _ (by omega)
  clear h hc4 hc5 hc6 hcs hB hoff hL hrow hdle
  go_enter Try.func66, Try.ntmps66
  go_wp2_with fail
  go_region_law (first
    | (refine step_copyW (by rfl) (.tmp 18) (.tmp 19) (by rfl) B off dl dl (.slice adv seg.length capv) seg cur (by simp [Act.eval, Act.put]) (by simp [Act.eval, Act.put]) (IntsOn.drew HS.out) HBK.out hdl hfit L HL.out ?_))
  all_goals
    go_wp2_with fail
    go_ret
    exact ⟨rfl, HPU.out, ⟨rfl, rfl, rfl, by rw [size_setCell, setRow_size]; rfl, fun k hk => (Below.heap_setCell _ _ _ _ hk).trans (setRow_other w.drew B k _ hk)⟩⟩
theorem zero_size : Try.zeroCells72.size = 1602 := by kernel_rfl
theorem zero_a : Try.zeroCells72[1600]? = some (.int .i64 0) := by kernel_rfl
theorem zero_b : Try.zeroCells72[1601]? = some (.int .i64 (([] : List Int).length : Int)) := by kernel_rfl
theorem OnlyB.trans {B : Nat} {a b c : World} (h : OnlyB B a b) (k : OnlyB B b c) : OnlyB B a c := ⟨k.os.trans h.os, k.tape.trans h.tape, k.output.trans h.output, k.size.trans h.size, fun i hi => (k.block i hi).trans (h.block i hi)⟩
set_option maxHeartbeats 800000 in
theorem spaceOf_calls (ws : List Int) (v : Value) (w : World) (hk : IIn w ws v) (hl : ws.length ≤ 1600) :
    Calls Try.prog 46 #[v] w fun e w' => e = .returned (.pointer (some ⟨w.heap.size, 0, none⟩)) ∧ Spc w' w.heap.size ws 0 ∧ Below w.heap.size w w' ∧ w'.heap.size = w.heap.size + 1 := by
  have HK := mkHid hk
  obtain ⟨ad, cap, rfl, -, -, -⟩ := hk
  go_enter Try.func46, Try.ntmps46
  have HZ : Hid (Spc (w.alloc (.cells Try.zeroCells72 72)) w.heap.size [] 0) :=
    ⟨by simp, _, Deep.blk_alloc_new _ _, zero_size, fun i hi => absurd hi (by simp), zero_a, zero_b⟩
  go_wp2_with fail
  refine (add_calls w.heap.size [] ws 0 _ _ HZ.out (HK.out.next (box_below _ _)) (by simpa using hl)).mono ?_
  rintro e w1 ⟨rfl, hs, ho⟩
  have HS : Hid (Spc w1 w.heap.size ws 0) := hs
  have HB : Hid (Below w.heap.size w w1) := ⟨ho.os, ho.tape, ho.output, by rw [ho.size, Deep.nblk_alloc]; omega, fun k hk => (ho.block k (by omega)).trans (Deep.blk_alloc_lt _ _ _ hk)⟩
  have HN : Hid (w1.heap.size = w.heap.size + 1) := by rw [Hid, ho.size, Deep.nblk_alloc]
  clear hs ho
  go_wp2_with fail
  go_ret
  exact ⟨rfl, HS.out, HB.out, HN.out⟩
end Go.Proofs.Ytiipcgnkfhjpeaa
/-
  THE PROGRAM's wordMover: forward AND forwardAll.
-/
namespace Go.Proofs.Ytiipcgnkfhjpeaa
set_option linter.unusedVariables false
set_option linter.unusedSimpArgs false
open Go.RowKit


theorem scanN_lenT {F T : List Int} {scan n : Nat} (hf : FitsF F T scan n) (hn : n ≤ 4) (hs : scan + n ≤ T.length) (hT : T.length ≤ 800000) (k : Nat) (hk : k + 1 < n) : (scanN F T scan k).2.length ≤ (scanN F T scan (k + 1)).2.length := by
  have hi := scanN_inv hf hn hs hT k (by omega)
  have hc := hi.can (hf (k + 1) (by omega) hk)
  rw [← hi.rest (k + 1) (by omega) hk] at hc
  have h := (fwd_lenT (T := (scanN F T scan k).2) hc).1
  show _ ≤ (scanS scan (k + 1) (scanN F T scan k)).2.length
  unfold scanS
  simp only [List.length_set]
  exact h
theorem scanN_mono {F T : List Int} {scan n : Nat} (hf : FitsF F T scan n) (hn : n ≤ 4) (hs : scan + n ≤ T.length) (hT : T.length ≤ 800000) (k : Nat) : ∀ d, k + d < n → (scanN F T scan k).2.length ≤ (scanN F T scan (k + d)).2.length
  | 0, _ => Nat.le_refl _
  | d + 1, h => Nat.le_trans (scanN_mono hf hn hs hT k d (by omega)) (scanN_lenT hf hn hs hT (k + d) (by omega))
/-- a mover in the block M, its spaces in Q and S -/
structure MvW (w : World) (M Q S : Nat) (F T : List Int) (fs ts : Int) : Prop where
  box : w.heap[M]? = some (.cells #[.pointer (some ⟨Q, 0, none⟩), .pointer (some ⟨S, 0, none⟩)] 68)
  old : Spc w Q F fs
  new : Spc w S T ts
  ne : Q ≠ S
/-- nothing that was there but the blocks Q and S is written -/
structure KeepQ (Q S : Nat) (w w' : World) : Prop where
  os : w'.os = w.os
  tape : w'.tape = w.tape
  output : w'.output = w.output
  size : w.heap.size ≤ w'.heap.size
  block : ∀ k, k < w.heap.size → k ≠ Q → k ≠ S → w'.heap[k]? = w.heap[k]?
theorem KeepQ.refl (Q S : Nat) (w : World) : KeepQ Q S w w := ⟨rfl, rfl, rfl, Nat.le_refl _, fun _ _ _ _ => rfl⟩
theorem KeepQ.trans {Q S : Nat} {a b c : World} (h : KeepQ Q S a b) (k : KeepQ Q S b c) : KeepQ Q S a c := ⟨k.os.trans h.os, k.tape.trans h.tape, k.output.trans h.output, Nat.le_trans h.size k.size, fun i h0 h1 h2 => (k.block i (Nat.lt_of_lt_of_le h0 h.size) h1 h2).trans (h.block i h0 h1 h2)⟩
theorem KeepQ.below {Q S : Nat} {a b : World} (h : Below a.heap.size a b) : KeepQ Q S a b := ⟨h.os, h.tape, h.output, h.size, fun k h0 _ _ => h.block k h0⟩
theorem KeepQ.onlyS {Q S : Nat} {a b : World} (h : OnlyB S a b) : KeepQ Q S a b := ⟨h.os, h.tape, h.output, by rw [h.size]; exact Nat.le_refl _, fun k _ _ h2 => h.block k h2⟩
theorem KeepQ.setQ (Q S : Nat) (w : World) (i : Nat) (v : Value) : KeepQ Q S w (w.setCell ⟨Q, i, none⟩ v) := ⟨rfl, rfl, rfl, by rw [size_setCell]; exact Nat.le_refl _, fun k _ h1 _ => Below.heap_setCell _ _ _ _ h1⟩
theorem KeepQ.setS (Q S : Nat) (w : World) (i : Nat) (v : Value) : KeepQ Q S w (w.setCell ⟨S, i, none⟩ v) := ⟨rfl, rfl, rfl, by rw [size_setCell]; exact Nat.le_refl _, fun k _ _ h2 => Below.heap_setCell _ _ _ _ h2⟩
theorem MvW.neM {w : World} {M Q S : Nat} {F T : List Int} {fs ts : Int} (h : MvW w M Q S F T fs ts) : M ≠ Q ∧ M ≠ S := by
  obtain ⟨-, cq, hq, -⟩ := h.old
  obtain ⟨-, cs, hs, -⟩ := h.new
  have hb := h.box
  refine ⟨fun e => ?_, fun e => ?_⟩
  · rw [e, hq] at hb; simp at hb
  · rw [e, hs] at hb; simp at hb
theorem MvW.below {w w' : World} {M Q S : Nat} {F T : List Int} {fs ts : Int} (h : MvW w M Q S F T fs ts) (hb : Below w.heap.size w w') : MvW w' M Q S F T fs ts :=
  ⟨(hb.block _ (Array.getElem?_eq_some_iff.1 h.box).1).trans h.box, h.old.keep (hb.block _ h.old.lt), h.new.keep (hb.block _ h.new.lt), h.ne⟩
theorem MvW.push {w w' : World} {M Q S : Nat} {F T T' : List Int} {fs ts : Int} (h : MvW w M Q S F T fs ts) (hs : Spc w' S T' ts) (ho : OnlyB S w w') : MvW w' M Q S F T' fs ts :=
  ⟨(ho.block _ h.neM.2).trans h.box, h.old.keep (ho.block _ h.ne), hs, h.ne⟩
theorem MvW.setQ {w : World} {M Q S : Nat} {F T : List Int} {fs ts : Int} (h : MvW w M Q S F T fs ts) {a : Nat} (ha : a < F.length) (v : Int) : MvW (w.setCell ⟨Q, a, none⟩ (.int .i64 v)) M Q S (F.set a v) T fs ts :=
  ⟨(Below.heap_setCell _ _ _ _ h.neM.1).trans h.box, h.old.setWord ha v, h.new.keep (Below.heap_setCell _ _ _ _ h.ne.symm), h.ne⟩
theorem MvW.setS {w : World} {M Q S : Nat} {F T : List Int} {fs ts : Int} (h : MvW w M Q S F T fs ts) {a : Nat} (ha : a < T.length) (v : Int) : MvW (w.setCell ⟨S, a, none⟩ (.int .i64 v)) M Q S F (T.set a v) fs ts :=
  ⟨(Below.heap_setCell _ _ _ _ h.neM.2).trans h.box, h.old.keep (Below.heap_setCell _ _ _ _ h.ne), h.new.setWord ha v, h.ne⟩
theorem MvW.setScan {w : World} {M Q S : Nat} {F T : List Int} {fs ts : Int} (h : MvW w M Q S F T fs ts) (v : Int) : MvW (w.setCell ⟨S, 1600, none⟩ (.int .i64 v)) M Q S F T fs v :=
  ⟨(Below.heap_setCell _ _ _ _ h.neM.2).trans h.box, h.old.keep (Below.heap_setCell _ _ _ _ h.ne), h.new.setScan v, h.ne⟩
theorem Spc.seg {w : World} {B : Nat} {F : List Int} {scan : Int} (h : Spc w B F scan) {a : Nat} (hw : WholeAt F a) : IIn w (segW F a) (.slice (some ⟨B, a, none⟩) (wLen (opW F a)) (1600 - a)) := by
  have hl := segW_len hw
  have hfit := hw.2
  have hF := h.len
  refine ⟨_, _, by rw [hl], by rw [hl]; omega, by unfold maxLen; omega, Or.inr ⟨B, a, rfl, h.lt, fun i hi => ?_⟩⟩
  rw [hl] at hi
  rw [h.word (by omega)]
  congr 2
  unfold segW opW
  rw [List.getD_eq_getElem?_getD, List.getElem?_eq_getElem (by omega)]
  simp
set_option maxRecDepth 100000 in
set_option maxHeartbeats 800000 in
theorem forward_calls (M Q S x : Nat) (F T : List Int) (fs ts : Int) (w : World) (h : MvW w M Q S F T fs ts) (hc : CanF F (x : Int)) (hl : (fwd F T x).2.1.length ≤ 1600) :
    Calls Try.prog 67 #[.pointer (some ⟨M, 0, none⟩), .int .i64 (x : Int)] w fun e w' => e = .returned (.int .i64 (fwd F T x).2.2) ∧ MvW w' M Q S (fwd F T x).1 (fwd F T x).2.1 fs ts ∧ KeepQ Q S w w' := by
  have H := mkHid h
  obtain ⟨-, hlt, hcc⟩ := hc
  rw [Int.toNat_natCast] at hcc
  have hxl : x < F.length := by omega
  have hF := h.old.len
  have hx16 : x < 1600 := by omega
  have hT := h.new.len
  obtain ⟨op, hop⟩ : ∃ op, op = opW F x := ⟨_, rfl⟩
  have HOP := mkHid hop
  have m0 := cell_of_blk h.box 0 _ rfl
  have d0 := h.old.word hxl
  rw [← hop] at d0 hcc
  by_cases hn : op < 0
  · have HV := mkHid (fwd_old (F := F) (T := T) (a := x) (by rw [← hop]; exact hn))
    have hlo : -1000000 ≤ op := by
      rcases hcc with hcc | hcc
      · exact hcc.2
      · exact absurd (wLen_neg (by rw [← hop]; exact hn)) hcc.1
    rw [HV.out, ← HOP.out]
    clear h hop hcc hl
    go_enter Try.func67, Try.ntmps67
    go_wp2_with fail
    refine (forwarding_calls op w hlo (by omega)).mono ?_
    rintro e w1 ⟨rfl, rfl⟩
    go_wp2_with fail
    go_ret
    exact ⟨rfl, H.out, KeepQ.refl _ _ _⟩
  · have hw : WholeAt F x := by
      rcases hcc with hcc | hcc
      · exact absurd hcc.1 hn
      · exact hcc
    have HW := mkHid hw
    have HV := mkHid (fwd_new (F := F) (T := T) (a := x) (by rw [← hop]; exact hn))
    rw [HV.out] at hl ⊢
    have hl2 : (T ++ segW F x).length ≤ 1600 := hl
    rw [List.length_append] at hl2
    have hop0 : ¬ op < 0 := hn
    have m1 := cell_of_blk h.box 1 _ rfl
    have HN := mkHid h.ne
    clear h hop hcc hl hw
    go_enter Try.func67, Try.ntmps67
    go_wp2_with fail
    refine (inUse_calls Q F fs w H.out.old).mono ?_
    rintro e w1 ⟨rfl, hb1⟩
    have H1 := mkHid (H.out.below hb1)
    have HB1 := mkHid hb1
    clear hb1 m0 m1 d0
    go_wp2_with fail
    refine (wordsAt_yes F x Q 0 1600 w1 H1.out.old.inn hxl HW.out (by omega)).mono ?_
    rintro e w2 ⟨rfl, hb2⟩
    rw [Nat.zero_add]
    have H2 := mkHid (H1.out.below hb2)
    have HB2 : Hid (Below w.heap.size w w2) := HB1.out.trans (hb2.mono HB1.out.size)
    have m1 := cell_of_blk H2.out.box 1 _ rfl
    obtain ⟨k, hk⟩ : ∃ k : Nat, k = wLen (opW F x) := ⟨_, rfl⟩
    have HSG := mkHid (H2.out.old.seg HW.out)
    rw [← hk] at HSG ⊢
    clear hb2 hk
    go_wp2_with fail
    refine (add_calls S T (segW F x) ts _ w2 H2.out.new HSG.out hl2).mono ?_
    rintro e w3 ⟨rfl, hs3, ho3⟩
    have H3 := mkHid (H2.out.push hs3 ho3)
    have HK3 : Hid (KeepQ Q S w w3) := (KeepQ.below HB2.out).trans (KeepQ.onlyS ho3)
    have c3 := H3.out.old.word hxl
    have f3 := H3.out.old.frz x
    clear hs3 ho3 m1
    go_wp2_with fail
    refine (forwarding_calls (T.length : Int) w3 (by omega) (by omega)).mono ?_
    rintro e w4 ⟨rfl, rfl⟩
    go_wp2_with fail
    refine (forwarding_calls (-(T.length : Int) - 1) _ (by omega) (by omega)).mono ?_
    rintro e w5 ⟨rfl, rfl⟩
    have he : -(-(T.length : Int) - 1) - 1 = (T.length : Int) := by omega
    rw [he]
    go_wp2_with fail
    go_ret
    exact ⟨rfl, H3.out.setQ hxl _, HK3.out.trans (KeepQ.setQ _ _ _ _ _)⟩
end Go.Proofs.Ytiipcgnkfhjpeaa
/-
  THE PROGRAM's wordMover: forwardAll AND scanCell.
-/
namespace Go.Proofs.Ytiipcgnkfhjpeaa
set_option linter.unusedVariables false
set_option linter.unusedSimpArgs false
open Go.RowKit


set_option maxRecDepth 100000 in
set_option maxHeartbeats 800000 in
theorem forwardAll_calls (M Q S scan n cap : Nat) (F T : List Int) (fs ts : Int) (ad : Option Addr) (w : World) (h : MvW w M Q S F T fs ts) (hn : n + 1 ≤ 4) (hsc : scan + (n + 1) ≤ T.length) (hf : FitsF F T scan (n + 1)) (hl : (scanN F T scan n).2.length ≤ 1600) (had : 0 < n → ad = some ⟨S, scan + 1, none⟩) (hcap : n ≤ cap) :
    Calls Try.prog 48 #[.pointer (some ⟨M, 0, none⟩), .slice ad n cap] w fun e w' => e = .returned (.tuple #[]) ∧ MvW w' M Q S (scanN F T scan n).1 (scanN F T scan n).2 fs ts ∧ KeepQ Q S w w' := by
  have HT : Hid (T.length ≤ 1600) := h.new.len
  have HF := mkHid hf
  have HL := mkHid hl
  have HI : ∀ q, q < n + 1 → ScanI F T scan (n + 1) q (scanN F T scan q) := fun q hq => scanN_inv hf hn hsc (by have := HT.out; omega) q hq
  have HII := mkHid HI
  have HMO : Hid (∀ q, q ≤ n → (scanN F T scan q).2.length ≤ 1600) := fun q hq => by
    have := scanN_mono hf hn hsc (by have := HT.out; omega) q (n - q) (by omega)
    have e : q + (n - q) = n := by omega
    rw [e] at this; exact Nat.le_trans this hl
  have H := mkHid h
  clear h hf hl HI
  go_enter Try.func48, Try.ntmps48
  go_wp2_with fail
  go_loopw [8] (fun a wr => ∃ q : Nat, a = .int .i64 q ∧ q ≤ n ∧ MvW wr M Q S (scanN F T scan q).1 (scanN F T scan q).2 fs ts ∧ KeepQ Q S w wr) (fun a _ => n - (intOf a).toNat)
  case atStart => exact ⟨0, rfl, Nat.zero_le _, H.out, KeepQ.refl _ _ _⟩
  case round =>
    obtain ⟨q, rfl, hq, hmv, hkq⟩ := hrel
    by_cases hlt : q < n
    · obtain rfl := had (by omega)
      obtain ⟨wo, rfl⟩ : ∃ wo : World, wo = wr := ⟨_, rfl⟩
      have HKQ := mkHid hkq
      have hi := HII.out q (by omega)
      have hca := hi.can (HF.out (q + 1) (by omega) (by omega))
      have hre := hi.rest (q + 1) (by omega) (by omega)
      have hlT := hi.lenT
      have HMN := mkHid (HMO.out (q + 1) (by omega))
      have HNX : Hid (scanN F T scan (q + 1) = scanS scan (q + 1) (scanN F T scan q)) := rfl
      generalize scanN F T scan q = s at hmv hi hca hre hlT HNX
      obtain ⟨F1, T1⟩ := s
      obtain ⟨x, hx⟩ : ∃ x : Nat, opW T (scan + (q + 1)) = (x : Int) := ⟨(opW T (scan + (q + 1))).toNat, by have := hca.1; omega⟩
      rw [hx] at hca hre
      simp only at hca hre hlT hmv
      have hxx : (opW T1 (scan + (q + 1))).toNat = x := by rw [hre]; rfl
      have eN : scanN F T scan (q + 1) = ((fwd F1 T1 x).1, (fwd F1 T1 x).2.1.set (scan + 1 + q) (fwd F1 T1 x).2.2) := by
        rw [HNX.out]; unfold scanS
        simp only [hxx]
        rw [show scan + 1 + q = scan + (q + 1) by omega]
      have HEN := mkHid eN
      have d0 : wo.cell? ⟨S, scan + 1 + q, none⟩ = some (.int .i64 (x : Int)) := by
        rw [show scan + 1 + q = scan + (q + 1) by omega, hmv.new.word (by omega), hre]
      have HCA := mkHid hca
      have HMV := mkHid hmv
      have HLN : Hid ((fwd F1 T1 x).2.1.length ≤ 1600 ∧ scan + 1 + q < (fwd F1 T1 x).2.1.length) := by
        have h1 := HMN.out
        rw [eN] at h1
        simp only [List.length_set] at h1
        have h2 := (fwd_lenT (T := T1) hca).1
        rw [Int.toNat_natCast] at h2
        exact ⟨h1, by omega⟩
      clear hmv hkq hi hca hre hlT HNX hx hxx eN
      go_wp2_with fail
      refine (forward_calls M Q S x F1 T1 fs ts wo HMV.out HCA.out HLN.out.1).mono ?_
      rintro e w5 ⟨rfl, hm5, hk5⟩
      have f5 := hm5.new.frz (scan + 1 + q)
      have c5 := hm5.new.word HLN.out.2
      have HM5 := mkHid (hm5.setS HLN.out.2 (fwd F1 T1 x).2.2)
      have HK5 : Hid (KeepQ Q S w (w5.setCell ⟨S, scan + 1 + q, none⟩ (.int .i64 (fwd F1 T1 x).2.2))) := (HKQ.out.trans hk5).trans (KeepQ.setS _ _ _ _ _)
      clear hm5 hk5 d0
      go_wp2_with fail
      go_roundw
      case rel => first | exact ⟨q + 1, by go_num, by omega, by rw [HEN.out]; exact HM5.out, HK5.out⟩ | ((repeat apply Exists.intro); exact ⟨⟨q + 1, by go_num, by omega, by rw [HEN.out]; exact HM5.out, HK5.out⟩, rfl⟩)
      case measure => simp [intOf]; omega
    · obtain rfl : q = n := by omega
      have HMV := mkHid hmv
      have HKQ := mkHid hkq
      clear hmv hkq
      go_wp2_with fail
      refine bodyPost_end (results_none rfl _ _ _) rfl ?_
      exact ⟨rfl, HMV.out, HKQ.out⟩
set_option maxRecDepth 100000 in
set_option maxHeartbeats 1600000 in
theorem scanCell_calls (M Q S a : Nat) (F T : List Int) (fs : Int) (w : World) (h : MvW w M Q S F T fs (a : Int)) (hw : WholeAt T a) (hf : FitsF F T a (kidsN7 (opW T a) + 1)) (hl : (scanC F T a).2.length ≤ 1600) :
    Calls Try.prog 49 #[.pointer (some ⟨M, 0, none⟩)] w fun e w' => e = .returned (.tuple #[]) ∧ MvW w' M Q S (scanC F T a).1 (scanC F T a).2 fs ((a : Int) + (wLen (opW T a) : Int)) ∧ KeepQ Q S w w' := by
  have H := mkHid h
  have HWH := mkHid hw
  have HFF := mkHid hf
  have HLL := mkHid hl
  have HT : Hid (T.length ≤ 1600) := h.new.len
  obtain ⟨k, hk⟩ : ∃ k : Nat, k = wLen (opW T a) := ⟨_, rfl⟩
  have HK := mkHid hk
  have HKB : Hid (2 ≤ k ∧ a + k ≤ T.length ∧ k ≤ 4) := by
    rw [hk]; exact ⟨wLen_pos hw.1, hw.2, wLen_le _⟩
  have hal : a < T.length := by have := HKB.out; omega
  have ha16 : a < 1600 := by have := HT.out; omega
  have HAL := mkHid hal
  have HIN : Hid (∀ W, Below w.heap.size w W → Calls Try.prog 50 #[.pointer (some ⟨S, 0, none⟩)] W fun e w' => e = .returned (.slice (some ⟨S, 0, none⟩) T.length 1600) ∧ Below W.heap.size W w') := fun W hW => inUse_calls S T (a : Int) W (H.out.below hW).new
  have HWA : Hid (∀ W, Below w.heap.size w W → Calls Try.prog 52 #[.slice (some ⟨S, 0, none⟩) T.length 1600, .int .i64 (a : Int)] W fun e w' => e = .returned (.tuple #[.slice (some ⟨S, a, none⟩) k (1600 - a), .bool true]) ∧ Below W.heap.size W w') := fun W hW => by
    have h := wordsAt_yes T a S 0 1600 W (H.out.below hW).new.inn HAL.out HWH.out (by have := HT.out; omega)
    rw [Nat.zero_add, ← HK.out] at h
    exact h
  have HCI : Hid (∀ W, Below w.heap.size w W → CellIn T a k S a (1600 - a) W) := fun W hW => by
    have h1 := HKB.out
    have h2 := HT.out
    exact ⟨HK.out, h1.1, by omega, by omega, fun q hq => (H.out.below hW).new.word (by omega), h1.2.1⟩
  have m1 := cell_of_blk h.box 1 _ rfl
  have s0 := h.new.scanC
  clear h hw hf hl hk
  have HB : Hid (Below w.heap.size w w) := Below.refl _ _
  go_enter Try.func49, Try.ntmps49
  go_wp2_with fail
  go_region_held3 (fun w' => w'.cell? ⟨M, 1, none⟩ = some (.pointer (some ⟨S, 0, none⟩)) ∧ w'.cell? ⟨S, 1600, none⟩ = some (.int .i64 (a : Int)))
    (first
      | go_keep
      | with_reducible exact ⟨m1, s0⟩)
    (first
      | (go_at_call 50; refine (HIN.out _ ?_).mono ?_; (first | exact HB.out | exact HB.out.drew); rintro e w3 ⟨rfl, hb3⟩; have HB3 : Hid (Below w.heap.size w w3) := ⟨hb3.os.trans HB.out.os, hb3.tape.trans HB.out.tape, hb3.output.trans HB.out.output, Nat.le_trans HB.out.size hb3.size, fun k hk => (hb3.block k (Nat.lt_of_lt_of_le hk HB.out.size)).trans (HB.out.block k hk)⟩; have HM3 := mkHid (H.out.below HB3.out); have m1 := cell_of_blk HM3.out.box 1 _ rfl; have s0 := HM3.out.new.scanC; clear hb3)
      | (go_at_call 52; refine (HWA.out _ ?_).mono ?_; (first | exact HB3.out | exact HB3.out.drew); rintro e w4 ⟨rfl, hb4⟩; have HB4 : Hid (Below w.heap.size w w4) := ⟨hb4.os.trans HB3.out.os, hb4.tape.trans HB3.out.tape, hb4.output.trans HB3.out.output, Nat.le_trans HB3.out.size hb4.size, fun k hk => (hb4.block k (Nat.lt_of_lt_of_le hk HB3.out.size)).trans (HB3.out.block k hk)⟩; have HM4 := mkHid (H.out.below HB4.out); have m1 := cell_of_blk HM4.out.box 1 _ rfl; have s0 := HM4.out.new.scanC; clear hb4))
  go_wp2_with fail
  refine (addr_calls T a k S a (1600 - a) _ (HCI.out _ HB4.out)).mono ?_
  rintro e w5 ⟨rfl, rfl⟩
  have HKN : Hid (kidsN7 (opW T a) + 1 ≤ k ∧ kidsN7 (opW T a) ≤ 3) := by rw [HK.out]; exact kidsN7_lt HWH.out.1
  have HKS : Hid (∃ (ad : Option Addr) (n cap : Nat), kidSl T a k S a (1600 - a) = .slice ad n cap ∧ n = kidsN7 (opW T a) ∧ (0 < n → ad = some ⟨S, a + 1, none⟩) ∧ n ≤ cap) := by
    have h1 := HKB.out
    have h2 := HT.out
    unfold kidSl kidsN7
    cases hn : isNumOp (opW T a) with
    | true => exact ⟨none, 0, 0, by rw [if_pos rfl], by rw [if_pos rfl], fun h => absurd h (by omega), Nat.le_refl _⟩
    | false => exact ⟨some ⟨S, a + 1, none⟩, k - 1, 1600 - a - 1, by rw [if_neg (by simp)], by rw [if_neg (by simp), HK.out], fun _ => rfl, by omega⟩
  obtain ⟨ad, n, cap, hks, hn, had, hcap⟩ := HKS.out
  rw [hks]
  have HN := mkHid hn
  have HSC : Hid (scanC F T a = scanN F T a n) := by rw [HN.out]; rfl
  have HCA : Hid (Calls Try.prog 48 #[.pointer (some ⟨M, 0, none⟩), .slice ad n cap] w4 fun e w' => e = .returned (.tuple #[]) ∧ MvW w' M Q S (scanN F T a n).1 (scanN F T a n).2 fs (a : Int) ∧ KeepQ Q S w4 w') := by
    have h1 := HKB.out
    have h2 := HKN.out
    refine forwardAll_calls M Q S a n cap F T fs (a : Int) ad w4 HM4.out (by rw [hn]; omega) (by rw [hn]; omega) (by rw [hn]; exact HFF.out) (by rw [← HSC.out]; exact HLL.out) had hcap
  clear hks hn had hcap HKS m1 s0
  go_wp2_with fail
  refine HCA.out.mono ?_
  rintro e w6 ⟨rfl, hm6, hk6⟩
  have HM6 := mkHid hm6
  have HK6 := mkHid hk6
  have m1 := cell_of_blk hm6.box 1 _ rfl
  have s0 := hm6.new.scanC
  have f0 := hm6.new.frz 1600
  have HADD : Hid (((a : Int) + (k : Int)) = ((a : Int) + (wLen (opW T a) : Int))) := by rw [Hid, HK.out]
  have hk4 := HKB.out
  clear hm6 hk6
  go_wp2_with fail
  refine bodyPost_end (results_none rfl _ _ _) rfl ?_
  rw [HSC.out, ← HADD.out]
  exact ⟨rfl, HM6.out.setScan _, ((KeepQ.below HB4.out).trans HK6.out).trans (KeepQ.setS _ _ _ _ _)⟩
end Go.Proofs.Ytiipcgnkfhjpeaa
/-
  A NODE OF THE PROGRAM: nodeOf's answer, the method fits that it leads to, and that one's answer.
-/
namespace Go.Proofs.Ytiipcgnkfhjpeaa
set_option linter.unusedVariables false
set_option linter.unusedSimpArgs false
open Go.RowKit

/-- is a node right at its top? -/
def topC (op num : Int) (n : Nat) (vars defs : Int) : Bool := decide ((n : Int) = arity op) && ownB op num vars defs
/-- what is known of the node at a tree's top: nodeOf's answer, the method that it leads to, and that one's answer -/
structure NodeAt (vars defs op num : Int) (n : Nat) (T : TypeId) (x : Value) (K : FuncId) (ok fit : Bool) : Prop where
  node : ∀ (w : World), Calls Try.prog 73 #[.int .i64 op, .int .i64 num, .int .i64 (n : Int)] w fun e w' => e = .returned (.tuple #[.iface T x, .bool ok]) ∧ Below w.heap.size w w'
  meth : ∀ w : World, (method 222 T x "loop.example/graphreducer/impl.fits").run Try.prog w = .ok (K, x) w
  enters : ∀ (args : Array Value) (w : World), (callFunc K args).run Try.prog w = .ok (.enter K args) w
  fits : ok = true → ∀ w : World, Calls Try.prog K #[x, .int .i64 vars, .int .i64 defs] w fun e w' => e = .returned (.bool fit) ∧ Below w.heap.size w w'
  top : (ok && fit) = topC op num n vars defs

set_option maxHeartbeats 400000 in
theorem fits_1 (n vars defs : Int) (w : World) : Calls Try.prog 97 #[.int .i64 n, .int .i64 vars, .int .i64 defs] w fun e w' => e = .returned (.bool (ownB 1 n vars defs)) ∧ Below w.heap.size w w' := by
  by_cases h0 : 0 ≤ n
  · go_enter Try.func97, Try.ntmps97
    go_wp2_with fail
    go_ret
    exact ⟨ret_bool (by simp [ownB, h0]), Below.refl _ _⟩
  · have h1 : decide (0 ≤ n) = false := by simpa using h0
    go_enter Try.func97, Try.ntmps97
    go_wp2_with fail
    go_ret
    exact ⟨ret_bool (by simp [ownB]; omega), Below.refl _ _⟩
theorem meth_1 (n : Int) (w : World) : (method 222 99 (.int .i64 n) "loop.example/graphreducer/impl.fits").run Try.prog w = .ok (97, .int .i64 n) w := by kernel_rfl
theorem enters_1 (args : Array Value) (w : World) : (callFunc 97 args).run Try.prog w = .ok (.enter 97 args) w := by kernel_rfl
theorem nodeAt_1 (vars defs op num : Int) (n : Nat) (h : op = 1) : NodeAt vars defs op num n 99 (.int .i64 num) 97 ((n : Int) == 0) (ownB op num vars defs) where
  node w := by rw [h]; exact nodeOf_1 num n w
  meth w := meth_1 _ w
  enters := enters_1
  fits _ w := by rw [h]; exact fits_1 _ _ _ w
  top := by unfold topC; rw [h, show arity 1 = 0 from rfl]; rfl

set_option maxHeartbeats 400000 in
theorem fits_2 (n vars defs : Int) (w : World) : Calls Try.prog 99 #[.int .i64 n, .int .i64 vars, .int .i64 defs] w fun e w' => e = .returned (.bool (ownB 2 n vars defs)) ∧ Below w.heap.size w w' := by
  by_cases h0 : 0 ≤ n
  · go_enter Try.func99, Try.ntmps99
    go_wp2_with fail
    go_ret
    exact ⟨ret_bool (by simp [ownB, h0]), Below.refl _ _⟩
  · have h1 : decide (0 ≤ n) = false := by simpa using h0
    go_enter Try.func99, Try.ntmps99
    go_wp2_with fail
    go_ret
    exact ⟨ret_bool (by simp [ownB]; omega), Below.refl _ _⟩
theorem meth_2 (n : Int) (w : World) : (method 222 100 (.int .i64 n) "loop.example/graphreducer/impl.fits").run Try.prog w = .ok (99, .int .i64 n) w := by kernel_rfl
theorem enters_2 (args : Array Value) (w : World) : (callFunc 99 args).run Try.prog w = .ok (.enter 99 args) w := by kernel_rfl
theorem nodeAt_2 (vars defs op num : Int) (n : Nat) (h : op = 2) : NodeAt vars defs op num n 100 (.int .i64 num) 99 ((n : Int) == 0) (ownB op num vars defs) where
  node w := by rw [h]; exact nodeOf_2 num n w
  meth w := meth_2 _ w
  enters := enters_2
  fits _ w := by rw [h]; exact fits_2 _ _ _ w
  top := by unfold topC; rw [h, show arity 2 = 0 from rfl]; rfl

set_option maxHeartbeats 400000 in
theorem fits_3 (n vars defs : Int) (w : World) : Calls Try.prog 101 #[.int .i64 n, .int .i64 vars, .int .i64 defs] w fun e w' => e = .returned (.bool (ownB 3 n vars defs)) ∧ Below w.heap.size w w' := by
  by_cases h0 : 0 ≤ n
  · go_enter Try.func101, Try.ntmps101
    go_wp2_with fail
    go_ret
    exact ⟨ret_bool (by simp [ownB, h0]), Below.refl _ _⟩
  · have h1 : decide (0 ≤ n) = false := by simpa using h0
    go_enter Try.func101, Try.ntmps101
    go_wp2_with fail
    go_ret
    exact ⟨ret_bool (by simp [ownB]; omega), Below.refl _ _⟩
theorem meth_3 (n : Int) (w : World) : (method 222 101 (.int .i64 n) "loop.example/graphreducer/impl.fits").run Try.prog w = .ok (101, .int .i64 n) w := by kernel_rfl
theorem enters_3 (args : Array Value) (w : World) : (callFunc 101 args).run Try.prog w = .ok (.enter 101 args) w := by kernel_rfl
theorem nodeAt_3 (vars defs op num : Int) (n : Nat) (h : op = 3) : NodeAt vars defs op num n 101 (.int .i64 num) 101 ((n : Int) == 0) (ownB op num vars defs) where
  node w := by rw [h]; exact nodeOf_3 num n w
  meth w := meth_3 _ w
  enters := enters_3
  fits _ w := by rw [h]; exact fits_3 _ _ _ w
  top := by unfold topC; rw [h, show arity 3 = 0 from rfl]; rfl

set_option maxHeartbeats 400000 in
theorem fits_o (k : Int) (m : ByteArray) (vars defs : Int) (w : World) : Calls Try.prog 96 #[.agg #[.int .i64 k, .string m], .int .i64 vars, .int .i64 defs] w fun e w' => e = .returned (.bool true) ∧ Below w.heap.size w w' := by
  go_enter Try.func96, Try.ntmps96
  go_wp2_with fail
  go_ret
  exact ⟨rfl, box_below _ _⟩
theorem meth_o (k : Int) (m : ByteArray) (w : World) : (method 222 82 (.agg #[.int .i64 k, .string m]) "loop.example/graphreducer/impl.fits").run Try.prog w = .ok (96, .agg #[.int .i64 k, .string m]) w := by kernel_rfl
theorem enters_o (args : Array Value) (w : World) : (callFunc 96 args).run Try.prog w = .ok (.enter 96 args) w := by kernel_rfl
theorem nodeAt_o (vars defs op num : Int) (n : Nat) (h1 : op ≠ 1) (h2 : op ≠ 2) (h3 : op ≠ 3) : NodeAt vars defs op num n 82 (.agg #[.int .i64 (opKids op), .string (opMarks op)]) 96 (opOk op && ((num == 0) && ((n : Int) == opKids op))) true where
  node w := nodeOf_op op num n w (by simpa using h1) (by simpa using h2) (by simpa using h3)
  meth w := meth_o _ _ w
  enters := enters_o
  fits _ w := fits_o _ _ _ _ w
  top := by
    unfold topC ownB
    rw [if_neg h1, if_neg h2, if_neg h3, Bool.and_true]
    by_cases hr : 4 ≤ op ∧ op ≤ 10
    · have e : opKids op = arity op := by
        have : op = 4 ∨ op = 5 ∨ op = 6 ∨ op = 7 ∨ op = 8 ∨ op = 9 ∨ op = 10 := by omega
        rcases this with h | h | h | h | h | h | h <;> rw [h] <;> rfl
      have e2 : opOk op = true := by unfold opOk; rw [decide_eq_true hr]
      rw [e, e2, Bool.true_and, Bool.and_comm]
      rfl
    · have e2 : opOk op = false := by unfold opOk; rw [decide_eq_false hr]
      have e3 : arity op = -1 := by
        unfold arity
        rw [if_neg (by omega), if_neg (by omega), if_neg (by omega), if_neg (by omega)]
      rw [e2, e3, Bool.false_and, decide_eq_false (by omega), Bool.false_and]
end Go.Proofs.Ytiipcgnkfhjpeaa
