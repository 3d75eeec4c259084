/-
  THE PROGRAM's cellOf.
-/
import Derived.Test.YtiipcgnkfhjpeaaMgExactUnpackWords5
import Derived.Test.YtiipcgnkfhjpeaaMgExactUnpackWords2
import Derived.Test.YtiipcgnkfhjpeaaMgExactUnpackWords3
import Derived.Deep.RegionHeld3
import Derived.Test.YtiipcgnkfhjpeaaMgExactUnpackWords4
import Derived.Test.YtiipcgnkfhjpeaaMgExactUnpackWords1
import Derived.Test.YtiipcgnkfhjpeaaProg
namespace Go.Proofs.Ytiipcgnkfhjpeaa
set_option linter.unusedVariables false
set_option linter.unusedSimpArgs false
open Go.RowKit


/-- the words of a cell, in place -/
structure CellIn (ws : List Int) (a n : Nat) (bl off cap : Nat) (w : World) : Prop where
  len : n = wLen (opW ws a)
  pos : 2 ≤ n
  cap1 : n ≤ cap
  cap2 : cap ≤ 9223372036854775807
  cell : ∀ q, q < n → w.cell? ⟨bl, off + q, none⟩ = some (.int .i64 (opW ws (a + q)))
  fit : a + n ≤ ws.length
theorem CellIn.next {ws : List Int} {a n bl off cap : Nat} {w w' : World} (h : CellIn ws a n bl off cap w) (hb : Below w.heap.size w w') : CellIn ws a n bl off cap w' :=
  ⟨h.len, h.pos, h.cap1, h.cap2, fun q hq => (hb.cell (p := ⟨bl, off + q, none⟩) (cell_lt (h.cell q hq))).trans (h.cell q hq), h.fit⟩
/-- where the operands' addresses lie -/
def kidSl (ws : List Int) (a n bl off cap : Nat) : Value := if isNumOp (opW ws a) = true then .slice none 0 0 else .slice (some ⟨bl, off + 1, none⟩) (n - 1) (cap - 1)
theorem kidSl_in {ws : List Int} {a n bl off cap : Nat} {w : World} (h : CellIn ws a n bl off cap w) : IIn w (cellW ws a).kids (kidSl ws a n bl off cap) := by
  unfold kidSl
  cases hn : isNumOp (opW ws a) with
  | true =>
    rw [cellW_num hn, if_pos rfl]
    exact ⟨none, 0, rfl, Nat.le_refl _, by simp [maxLen], Or.inl rfl⟩
  | false =>
    rw [cellW_kid hn, if_neg (by simp), ← h.len]
    have h1 := h.fit
    have h2 := h.pos
    have h3 := h.cap1
    have h4 := h.cap2
    have hl : ((ws.drop (a + 1)).take (n - 1)).length = n - 1 := by rw [List.length_take, List.length_drop]; omega
    refine ⟨_, cap - 1, by rw [hl], by rw [hl]; omega, by unfold maxLen; omega, Or.inr ⟨bl, off + 1, rfl, ?_, fun i hi => ?_⟩⟩
    · exact cell_lt (h.cell 0 (by omega))
    · rw [hl] at hi
      have h5 := h.cell (1 + i) (by omega)
      have e1 : off + 1 + i = off + (1 + i) := by omega
      rw [e1, h5]
      have h6 := kidsW_get (ws := ws) (a := a) (q := i) (by rw [← h.len]; exact h1) (by rw [← h.len]; exact hi)
      rw [← h.len, List.getElem?_eq_getElem (by rw [hl]; exact hi)] at h6
      simp only [Option.some.injEq] at h6
      rw [h6]
      have e2 : a + 1 + i = a + (1 + i) := by omega
      rw [e2]
theorem addr_calls (ws : List Int) (a n bl off cap : Nat) (w : World) (h : CellIn ws a n bl off cap w) : Calls Try.prog 68 #[.slice (some ⟨bl, off, none⟩) n cap] w fun e w' => e = .returned (kidSl ws a n bl off cap) ∧ w = w' := by
  unfold kidSl
  cases hn : isNumOp (opW ws a) with
  | true => rw [if_pos rfl]; exact addr_num ws a bl off cap w (h.cell 0 (by have := h.pos; omega)) n (by have := h.pos; omega) h.cap1 h.cap2 hn
  | false => rw [if_neg (by simp)]; exact addr_kids ws a bl off cap w (h.cell 0 (by have := h.pos; omega)) n h.pos h.cap1 h.cap2 hn

/-- a row of ints is no box -/
theorem stk_off {w w' : World} {lo lo' B : Nat} {xs : List Int} {v : Value} {cs : Array Value} (h : StkI w lo xs v) (hl : lo' ≤ lo) (hw : ∀ k, lo' ≤ k → k < w.heap.size → (k = B → w.heap[B]? ≠ some (.cells cs 40)) → w'.heap[k]? = w.heap[k]?) : StkI w' lo' xs v := by
  refine ⟨h.1, ?_⟩
  rcases h.2 with h | ⟨g, cap, cur, rfl, hg, hh, r⟩
  · exact Or.inl h
  · refine Or.inr ⟨g, cap, cur, rfl, Nat.le_trans hl hg, (hw g (Nat.le_trans hl hg) (Array.getElem?_eq_some_iff.1 hh).1 fun e h2 => ?_).trans hh, r⟩
    subst e
    rw [hh] at h2
    simp at h2
theorem s3_cell {w : World} {B bl off : Nat} {b0 b1 b2 v : Value} (hk : bl ≠ B) (h : w.cell? ⟨bl, off, none⟩ = some v) : (((w.setCell ⟨B, 0, none⟩ b0).setCell ⟨B, 1, none⟩ b1).setCell ⟨B, 2, none⟩ b2).cell? ⟨bl, off, none⟩ = some v :=
  (World.cell?_of_block (a := ⟨bl, off, none⟩) (s3_far hk)).trans h
set_option maxRecDepth 100000 in
set_option maxHeartbeats 800000 in
theorem cellOf_calls (ws : List Int) (a n bl off cap : Nat) (w : World) (h : CellIn ws a n bl off cap w) (hl : ws.length ≤ 1048576) :
    Calls Try.prog 53 #[.slice (some ⟨bl, off, none⟩) n cap] w (NewCellW (cellW ws a) w) := by
  have HC := mkHid h
  obtain ⟨sl, hsl⟩ : ∃ sl, sl = kidSl ws a n bl off cap := ⟨_, rfl⟩
  have HADR : Hid (∀ W, Below w.heap.size w W → Calls Try.prog 68 #[.slice (some ⟨bl, off, none⟩) n cap] W fun e w' => e = .returned sl ∧ W = w') := fun W hW => by rw [hsl]; exact addr_calls ws a n bl off cap W (HC.out.next hW)
  obtain ⟨ks, hks⟩ : ∃ ks, ks = (cellW ws a).kids := ⟨_, rfl⟩
  have HKI : Hid (∀ W, Below w.heap.size w W → IIn W ks sl) := fun W hW => by rw [hsl, hks]; exact kidSl_in (HC.out.next hW)
  have HKL : Hid (ks.length ≤ 1048576) := by
    rw [hks, Hid]
    have h1 := HC.out.fit
    cases hn : isNumOp (opW ws a) with
    | true => rw [cellW_num hn]; simp
    | false => rw [cellW_kid hn, List.length_take]; have := wLen_le (opW ws a); omega
  have HCL : Hid (∀ W, Below w.heap.size w W → Calls Try.prog 47 #[sl] W (CloneW ks W)) := fun W hW => cloneW_calls ks sl W (HKI.out W hW) HKL.out
  obtain ⟨op, hop⟩ : ∃ op, op = opW ws a := ⟨_, rfl⟩
  have HOP := mkHid hop
  have hn0 : 0 < n := by have := h.pos; omega
  have hnI : (0 : Int) < (n : Int) := by omega
  have hcap1 := h.cap1
  have hcap2 := h.cap2
  have d0w : w.cell? ⟨bl, off, none⟩ = some (.int .i64 op) := by rw [hop]; exact h.cell 0 hn0
  have hbl := cell_lt d0w
  have HBL : Hid (bl < w.heap.size) := hbl
  obtain ⟨W, hW⟩ : ∃ W, W = w.alloc (.cells #[.int .i64 0, .int .i64 0, .slice none 0 0] 40) := ⟨_, rfl⟩
  have HB : Hid (Below w.heap.size w W) := by rw [hW]; exact box_below _ _
  have HX : Hid (W.heap[w.heap.size]? = some (.cells #[.int .i64 0, .int .i64 0, .slice none 0 0] 40)) := by rw [hW]; exact Deep.blk_alloc_new _ _
  have HL : Hid (W.heap.size = w.heap.size + 1) := by rw [hW, Hid, Deep.nblk_alloc]
  have HD0 := mkHid d0w
  obtain ⟨adk, nk, capk, hslv⟩ : ∃ ad n cap, sl = .slice ad n cap := by rw [hsl]; unfold kidSl; split; exact ⟨_, _, _, rfl⟩; exact ⟨_, _, _, rfl⟩
  subst hslv
  have HKS := mkHid hks
  clear h hsl hop hks hbl
  go_enter Try.func53, Try.ntmps53
  go_wp2_with fail
  rw [← hW]
  clear hW d0w
  have d0 := (HB.out.cell (p := ⟨bl, off, none⟩) HBL.out).trans HD0.out
  have HNB : Hid (bl ≠ W.heap.size) := by have := HL.out; have := HBL.out; unfold Hid; omega
  go_region_held3 (fun w' => w'.cell? ⟨bl, off, none⟩ = some (.int .i64 op))
    (first
      | go_keep
      | with_reducible exact d0
      | with_reducible exact m0
      | with_reducible exact old_cell d0 _
      | with_reducible exact old_cell m0 _
      | with_reducible exact s3_cell HNB.out m0)
    (first
      | (go_at_call 68; refine (HADR.out _ ?_).mono ?_; (first | exact HB.out.drew | exact (HB.out.alloc HB.out.size _).drew); rintro e w3 ⟨rfl, rfl⟩)
      | (go_at_call 47; refine (HCL.out _ ?_).mono ?_; (first | exact HB.out.drew | exact (HB.out.alloc HB.out.size _).drew); rintro e w4 ⟨v4, rfl, hst4, hb4⟩; have HST4 := mkHid hst4; have HB4 := mkHid hb4; obtain ⟨ad4, n4, cap4, rfl⟩ := hst4.form; have hsz4 : w.heap.size + 1 ≤ w4.heap.size := (Nat.le_trans (by first | (show w.heap.size + 1 ≤ W.heap.size; rw [HL.out]; omega) | (show w.heap.size + 1 ≤ (W.alloc _).heap.size; rw [Deep.nblk_alloc, HL.out]; omega)) hb4.size); have HFAR4 : Hid (∀ k, k < w.heap.size + 1 → w4.heap[k]? = W.heap[k]?) := (fun k hk => (hb4.block k (Nat.lt_of_lt_of_le hk (by first | (show w.heap.size + 1 ≤ W.heap.size; rw [HL.out]; omega) | (show w.heap.size + 1 ≤ (W.alloc _).heap.size; rw [Deep.nblk_alloc, HL.out]; omega)))).trans (by first | rfl | exact Deep.blk_alloc_lt _ _ _ (by rw [HL.out]; exact hk))); have HSZ4 := mkHid hsz4; have m0 := (World.cell?_of_block (a := ⟨bl, off, none⟩) (HFAR4.out bl (by have := HBL.out; omega))).trans d0; (try (have HBX4 : Hid (w4.heap[W.heap.size]? = some (.cells #[.int .i64 0, .int .i64 0, .slice none 0 0] 40)) := (hb4.block W.heap.size (by show _ < (W.alloc _).heap.size; rw [Deep.nblk_alloc]; omega)).trans (Deep.blk_alloc_new _ _); have z0 := cell_of_blk HBX4.out 0 _ rfl; have z1 := cell_of_blk HBX4.out 1 _ rfl; have z2 := cell_of_blk HBX4.out 2 _ rfl; have fz := frz_of_blk HBX4.out)); have HBW4 : Hid (Below w.heap.size w w4) := ⟨hb4.os.trans HB.out.os, hb4.tape.trans HB.out.tape, hb4.output.trans HB.out.output, Nat.le_trans (Nat.le_succ _) hsz4, fun k hk => (HFAR4.out k (Nat.lt_succ_of_lt hk)).trans (HB.out.block k hk)⟩; have HSU4 : Hid (∀ w', (∀ k, w.heap.size + 1 ≤ k → k < w4.heap.size → (k = W.heap.size → w4.heap[W.heap.size]? ≠ some (.cells #[.int .i64 0, .int .i64 0, .slice none 0 0] 40)) → w'.heap[k]? = w4.heap[k]?) → StkI w' (w.heap.size + 1) ks (.slice ad4 n4 cap4)) := (fun w' hw' => stk_off HST4.out (by first | (show w.heap.size + 1 ≤ W.heap.size; rw [HL.out]; omega) | (show w.heap.size + 1 ≤ (W.alloc _).heap.size; rw [Deep.nblk_alloc, HL.out]; omega)) hw'); clear hsz4; clear hst4 hb4))
  all_goals
    first
    | (obtain ⟨wz, hwz⟩ : ∃ wz : World, wz = w4.alloc (.cells #[.int .i64 op, .int .i64 0, .slice ad4 n4 cap4] 40) := ⟨_, rfl⟩
       rw [← hwz]
       obtain ⟨b, hb⟩ : ∃ b : Nat, b = w4.heap.size := ⟨_, rfl⟩
       rw [← hb]
       have HZB : Hid (wz.heap[b]? = some (.cells #[.int .i64 op, .int .i64 0, .slice ad4 n4 cap4] 40)) := by rw [hwz, hb]; exact Deep.blk_alloc_new _ _
       have HZX : Hid (wz.heap[w.heap.size]? = some (.cells #[.int .i64 0, .int .i64 0, .slice none 0 0] 40)) := by rw [hwz]; exact (Deep.blk_alloc_lt _ _ _ (by have := HSZ4.out; omega)).trans ((HFAR4.out _ (Nat.lt_succ_self _)).trans HX.out)
       have HZS : Hid (StkI wz (w.heap.size + 1) ks (.slice ad4 n4 cap4)) := by rw [hwz]; exact HSU4.out _ fun k _ hk _ => Deep.blk_alloc_lt _ _ _ hk
       have HZW : Hid (Below w.heap.size w wz) := by rw [hwz]; exact HBW4.out.alloc HBW4.out.size _
       have HNE : Hid (w.heap.size < b) := by rw [hb]; exact HSZ4.out
       clear hwz hb)
    | (obtain ⟨wz, hwz⟩ : ∃ wz : World, wz = (((w4.setCell ⟨W.heap.size, 0, none⟩ (.int .i64 op)).setCell ⟨W.heap.size, 1, none⟩ (.int .i64 0)).setCell ⟨W.heap.size, 2, none⟩ (.slice ad4 n4 cap4)) := ⟨_, rfl⟩
       rw [← hwz]
       obtain ⟨b, hb⟩ : ∃ b : Nat, b = W.heap.size := ⟨_, rfl⟩
       rw [← hb]
       have HZB : Hid (wz.heap[b]? = some (.cells #[.int .i64 op, .int .i64 0, .slice ad4 n4 cap4] 40)) := by rw [hwz, hb]; exact s3_blk HBX4.out
       have HZX : Hid (wz.heap[w.heap.size]? = some (.cells #[.int .i64 0, .int .i64 0, .slice none 0 0] 40)) := by rw [hwz]; exact (s3_far (by have := HL.out; omega)).trans ((HFAR4.out _ (Nat.lt_succ_self _)).trans HX.out)
       have HZS : Hid (StkI wz (w.heap.size + 1) ks (.slice ad4 n4 cap4)) := by rw [hwz]; exact HSU4.out _ fun k _ _ hne => s3_far fun e => hne e HBX4.out
       have HZW : Hid (Below w.heap.size w wz) := by rw [hwz]; exact s3_below HBW4.out HB.out.size
       have HNE : Hid (w.heap.size < b) := by rw [hb, HL.out]; exact Nat.lt_succ_self _
       clear hwz hb)
    clear m0 d0
    try clear z0 z1 z2 fz HBX4
    clear HSU4 HFAR4 HST4 HB4 HBW4
    have y0 := cell_of_blk HZB.out 0 _ rfl
    go_wp2_with fail
    refine (hasNumber_calls op wz).mono ?_
    rintro e w7 ⟨rfl, rfl⟩
    have x0 := cell_of_blk HZX.out 0 _ rfl
    have x1 := cell_of_blk HZX.out 1 _ rfl
    have x2 := cell_of_blk HZX.out 2 _ rfl
    have fx := frz_of_blk HZX.out
    cases hnum : isNumOp op with
    | true =>
      have hn2 : 1 < n := by have := HC.out.pos; omega
      have hn2I : (1 : Int) < (n : Int) := by omega
      have d1 := (HC.out.next HZW.out).cell 1 hn2
      obtain ⟨m, hm⟩ : ∃ m, m = opW ws (a + 1) := ⟨_, rfl⟩
      rw [← hm] at d1
      have HV : Hid (cellW ws a = ⟨op, m, ks⟩) := by
        have h := cellW_num (ws := ws) (a := a) (by rw [← HOP.out]; exact hnum)
        have h2 : ks = [] := by rw [HKS.out, h]
        rw [Hid, h, ← HOP.out, h2, hm]
      have fy := frz_of_blk HZB.out
      have HBX : Hid ((wz.setCell ⟨b, 1, none⟩ (.int .i64 m)).heap[b]? = some (.cells #[.int .i64 op, .int .i64 m, .slice ad4 n4 cap4] 40)) := c1_blk HZB.out
      have HZX2 : Hid ((wz.setCell ⟨b, 1, none⟩ (.int .i64 m)).heap[w.heap.size]? = some (.cells #[.int .i64 0, .int .i64 0, .slice none 0 0] 40)) := (Below.heap_setCell _ _ _ _ (by show w.heap.size ≠ b; have := HNE.out; omega)).trans HZX.out
      have HNB2 : Hid (b ≠ w.heap.size) := by have := HNE.out; unfold Hid; omega
      clear hm y0 x0 x1 x2 fx
      have y0 := cell_of_blk HZB.out 0 _ rfl
      have y1 := cell_of_blk HZB.out 1 _ rfl
      have y2 := cell_of_blk HZB.out 2 _ rfl
      obtain ⟨wy, hwy⟩ : ∃ wy : World, wy = wz.setCell ⟨b, 1, none⟩ (.int .i64 m) := ⟨_, rfl⟩
      rw [← hwy] at HBX HZX2
      have q0 := cell_of_blk HBX.out 0 _ rfl
      have q1 := cell_of_blk HBX.out 1 _ rfl
      have q2 := cell_of_blk HBX.out 2 _ rfl
      have x0 := cell_of_blk HZX2.out 0 _ rfl
      have x1 := cell_of_blk HZX2.out 1 _ rfl
      have x2 := cell_of_blk HZX2.out 2 _ rfl
      have fx := frz_of_blk HZX2.out
      rw [hwy] at q0 q1 q2 x0 x1 x2 fx
      go_wp2_with fail
      rw [← hwy]
      have hb := s3_blk (b0 := .int .i64 op) (b1 := .int .i64 m) (b2 := .slice ad4 n4 cap4) HZX2.out
      refine bodyPost_ret (v := .agg #[.int .i64 op, .int .i64 m, .slice ad4 n4 cap4]) (by simp [results, Try.results53, go_sem, cell_of_blk hb 0 _ rfl, cell_of_blk hb 1 _ rfl, cell_of_blk hb 2 _ rfl]) rfl ?_
      rw [HV.out]
      refine ⟨_, rfl, ?_, s3_below (by rw [hwy]; exact HZW.out.setCell (Nat.le_of_lt HNE.out) _) (Nat.le_refl _)⟩
      have hz := stk_off (w' := wy) (B := b) HZS.out (Nat.le_refl _) fun k _ _ hne => by rw [hwy]; exact Below.heap_setCell _ _ _ _ (fun e => hne e HZB.out)
      exact (hz.keep fun j hj _ => s3_far (by omega)).lower (Nat.le_succ _)
    | false =>
      have HV : Hid (cellW ws a = ⟨op, 0, ks⟩) := by
        have h := cellW_kid (ws := ws) (a := a) (by rw [← HOP.out]; exact hnum)
        rw [Hid, HKS.out, h, ← HOP.out]
      have y1 := cell_of_blk HZB.out 1 _ rfl
      have y2 := cell_of_blk HZB.out 2 _ rfl
      go_wp2_with fail
      have hb := s3_blk (b0 := .int .i64 op) (b1 := .int .i64 0) (b2 := .slice ad4 n4 cap4) HZX.out
      refine bodyPost_ret (v := .agg #[.int .i64 op, .int .i64 0, .slice ad4 n4 cap4]) (by simp [results, Try.results53, go_sem, cell_of_blk hb 0 _ rfl, cell_of_blk hb 1 _ rfl, cell_of_blk hb 2 _ rfl]) rfl ?_
      rw [HV.out]
      refine ⟨_, rfl, ?_, s3_below HZW.out (Nat.le_refl _)⟩
      exact (HZS.out.keep fun j hj _ => s3_far (by omega)).lower (Nat.le_succ _)
end Go.Proofs.Ytiipcgnkfhjpeaa
/-
  A NODE OF THE PROGRAM: nodeOf's answer, the method fits that it leads to, and that one's answer.
-/
namespace Go.Proofs.Ytiipcgnkfhjpeaa
set_option linter.unusedVariables false
set_option linter.unusedSimpArgs false
open Go.RowKit

/-- is a node right at its top? -/
def topC (op num : Int) (n : Nat) (vars defs : Int) : Bool := decide ((n : Int) = arity op) && ownB op num vars defs
/-- what is known of the node at a tree's top: nodeOf's answer, the method that it leads to, and that one's answer -/
structure NodeAt (vars defs op num : Int) (n : Nat) (T : TypeId) (x : Value) (K : FuncId) (ok fit : Bool) : Prop where
  node : ∀ (w : World), Calls Try.prog 73 #[.int .i64 op, .int .i64 num, .int .i64 (n : Int)] w fun e w' => e = .returned (.tuple #[.iface T x, .bool ok]) ∧ Below w.heap.size w w'
  meth : ∀ w : World, (method 222 T x "loop.example/graphreducer/impl.fits").run Try.prog w = .ok (K, x) w
  enters : ∀ (args : Array Value) (w : World), (callFunc K args).run Try.prog w = .ok (.enter K args) w
  fits : ok = true → ∀ w : World, Calls Try.prog K #[x, .int .i64 vars, .int .i64 defs] w fun e w' => e = .returned (.bool fit) ∧ Below w.heap.size w w'
  top : (ok && fit) = topC op num n vars defs

set_option maxHeartbeats 400000 in
theorem fits_1 (n vars defs : Int) (w : World) : Calls Try.prog 97 #[.int .i64 n, .int .i64 vars, .int .i64 defs] w fun e w' => e = .returned (.bool (ownB 1 n vars defs)) ∧ Below w.heap.size w w' := by
  by_cases h0 : 0 ≤ n
  · go_enter Try.func97, Try.ntmps97
    go_wp2_with fail
    go_ret
    exact ⟨ret_bool (by simp [ownB, h0]), Below.refl _ _⟩
  · have h1 : decide (0 ≤ n) = false := by simpa using h0
    go_enter Try.func97, Try.ntmps97
    go_wp2_with fail
    go_ret
    exact ⟨ret_bool (by simp [ownB]; omega), Below.refl _ _⟩
theorem meth_1 (n : Int) (w : World) : (method 222 99 (.int .i64 n) "loop.example/graphreducer/impl.fits").run Try.prog w = .ok (97, .int .i64 n) w := by kernel_rfl
theorem enters_1 (args : Array Value) (w : World) : (callFunc 97 args).run Try.prog w = .ok (.enter 97 args) w := by kernel_rfl
theorem nodeAt_1 (vars defs op num : Int) (n : Nat) (h : op = 1) : NodeAt vars defs op num n 99 (.int .i64 num) 97 ((n : Int) == 0) (ownB op num vars defs) where
  node w := by rw [h]; exact nodeOf_1 num n w
  meth w := meth_1 _ w
  enters := enters_1
  fits _ w := by rw [h]; exact fits_1 _ _ _ w
  top := by unfold topC; rw [h, show arity 1 = 0 from rfl]; rfl

set_option maxHeartbeats 400000 in
theorem fits_2 (n vars defs : Int) (w : World) : Calls Try.prog 99 #[.int .i64 n, .int .i64 vars, .int .i64 defs] w fun e w' => e = .returned (.bool (ownB 2 n vars defs)) ∧ Below w.heap.size w w' := by
  by_cases h0 : 0 ≤ n
  · go_enter Try.func99, Try.ntmps99
    go_wp2_with fail
    go_ret
    exact ⟨ret_bool (by simp [ownB, h0]), Below.refl _ _⟩
  · have h1 : decide (0 ≤ n) = false := by simpa using h0
    go_enter Try.func99, Try.ntmps99
    go_wp2_with fail
    go_ret
    exact ⟨ret_bool (by simp [ownB]; omega), Below.refl _ _⟩
theorem meth_2 (n : Int) (w : World) : (method 222 100 (.int .i64 n) "loop.example/graphreducer/impl.fits").run Try.prog w = .ok (99, .int .i64 n) w := by kernel_rfl
theorem enters_2 (args : Array Value) (w : World) : (callFunc 99 args).run Try.prog w = .ok (.enter 99 args) w := by kernel_rfl
theorem nodeAt_2 (vars defs op num : Int) (n : Nat) (h : op = 2) : NodeAt vars defs op num n 100 (.int .i64 num) 99 ((n : Int) == 0) (ownB op num vars defs) where
  node w := by rw [h]; exact nodeOf_2 num n w
  meth w := meth_2 _ w
  enters := enters_2
  fits _ w := by rw [h]; exact fits_2 _ _ _ w
  top := by unfold topC; rw [h, show arity 2 = 0 from rfl]; rfl

set_option maxHeartbeats 400000 in
theorem fits_3 (n vars defs : Int) (w : World) : Calls Try.prog 101 #[.int .i64 n, .int .i64 vars, .int .i64 defs] w fun e w' => e = .returned (.bool (ownB 3 n vars defs)) ∧ Below w.heap.size w w' := by
  by_cases h0 : 0 ≤ n
  · go_enter Try.func101, Try.ntmps101
    go_wp2_with fail
    go_ret
    exact ⟨ret_bool (by simp [ownB, h0]), Below.refl _ _⟩
  · have h1 : decide (0 ≤ n) = false := by simpa using h0
    go_enter Try.func101, Try.ntmps101
    go_wp2_with fail
    go_ret
    exact ⟨ret_bool (by simp [ownB]; omega), Below.refl _ _⟩
theorem meth_3 (n : Int) (w : World) : (method 222 101 (.int .i64 n) "loop.example/graphreducer/impl.fits").run Try.prog w = .ok (101, .int .i64 n) w := by kernel_rfl
theorem enters_3 (args : Array Value) (w : World) : (callFunc 101 args).run Try.prog w = .ok (.enter 101 args) w := by kernel_rfl
theorem nodeAt_3 (vars defs op num : Int) (n : Nat) (h : op = 3) : NodeAt vars defs op num n 101 (.int .i64 num) 101 ((n : Int) == 0) (ownB op num vars defs) where
  node w := by rw [h]; exact nodeOf_3 num n w
  meth w := meth_3 _ w
  enters := enters_3
  fits _ w := by rw [h]; exact fits_3 _ _ _ w
  top := by unfold topC; rw [h, show arity 3 = 0 from rfl]; rfl

set_option maxHeartbeats 400000 in
theorem fits_o (k : Int) (m : ByteArray) (vars defs : Int) (w : World) : Calls Try.prog 96 #[.agg #[.int .i64 k, .string m], .int .i64 vars, .int .i64 defs] w fun e w' => e = .returned (.bool true) ∧ Below w.heap.size w w' := by
  go_enter Try.func96, Try.ntmps96
  go_wp2_with fail
  go_ret
  exact ⟨rfl, box_below _ _⟩
theorem meth_o (k : Int) (m : ByteArray) (w : World) : (method 222 82 (.agg #[.int .i64 k, .string m]) "loop.example/graphreducer/impl.fits").run Try.prog w = .ok (96, .agg #[.int .i64 k, .string m]) w := by kernel_rfl
theorem enters_o (args : Array Value) (w : World) : (callFunc 96 args).run Try.prog w = .ok (.enter 96 args) w := by kernel_rfl
theorem nodeAt_o (vars defs op num : Int) (n : Nat) (h1 : op ≠ 1) (h2 : op ≠ 2) (h3 : op ≠ 3) : NodeAt vars defs op num n 82 (.agg #[.int .i64 (opKids op), .string (opMarks op)]) 96 (opOk op && ((num == 0) && ((n : Int) == opKids op))) true where
  node w := nodeOf_op op num n w (by simpa using h1) (by simpa using h2) (by simpa using h3)
  meth w := meth_o _ _ w
  enters := enters_o
  fits _ w := fits_o _ _ _ _ w
  top := by
    unfold topC ownB
    rw [if_neg h1, if_neg h2, if_neg h3, Bool.and_true]
    by_cases hr : 4 ≤ op ∧ op ≤ 10
    · have e : opKids op = arity op := by
        have : op = 4 ∨ op = 5 ∨ op = 6 ∨ op = 7 ∨ op = 8 ∨ op = 9 ∨ op = 10 := by omega
        rcases this with h | h | h | h | h | h | h <;> rw [h] <;> rfl
      have e2 : opOk op = true := by unfold opOk; rw [decide_eq_true hr]
      rw [e, e2, Bool.true_and, Bool.and_comm]
      rfl
    · have e2 : opOk op = false := by unfold opOk; rw [decide_eq_false hr]
      have e3 : arity op = -1 := by
        unfold arity
        rw [if_neg (by omega), if_neg (by omega), if_neg (by omega), if_neg (by omega)]
      rw [e2, e3, Bool.false_and, decide_eq_false (by omega), Bool.false_and]
end Go.Proofs.Ytiipcgnkfhjpeaa
/-
  THE PROGRAM's GraphValid (cellFits, isCell, areCells); nothing that was there is changed.
-/
namespace Go.Proofs.Ytiipcgnkfhjpeaa
set_option linter.unusedVariables false
set_option linter.unusedSimpArgs false
open Go.RowKit

set_option maxHeartbeats 400000 in
theorem isCell_calls (n cap : Nat) (ad : Option Addr) (a : Int) (w : World) (hn : n ≤ 9223372036854775807) :
    Calls Try.prog 74 #[.slice ad n cap, .int .i64 a] w fun e w' => e = .returned (.bool (isAt n a)) ∧ Below w.heap.size w w' := by
  by_cases h0 : 0 ≤ a
  · by_cases h1 : a < (n : Int)
    · have HV : Hid (isAt n a = true) := isAt_in h0 h1
      go_enter Try.func74, Try.ntmps74
      go_wp2_with fail
      go_ret
      exact ⟨ret_bool HV.out.symm, Below.refl _ _⟩
    · have HV : Hid (isAt n a = false) := isAt_hi h1
      go_enter Try.func74, Try.ntmps74
      go_wp2_with fail
      go_ret
      exact ⟨ret_bool HV.out.symm, Below.refl _ _⟩
  · have HV : Hid (isAt n a = false) := isAt_lo (by omega)
    go_enter Try.func74, Try.ntmps74
    go_wp2_with fail
    go_ret
    exact ⟨ret_bool HV.out.symm, Below.refl _ _⟩

set_option maxHeartbeats 800000 in
theorem areCells_calls (n cap : Nat) (ad : Option Addr) (xs : List Int) (v : Value) (w : World) (hn : n ≤ 9223372036854775807) (hk : IIn w xs v) :
    Calls Try.prog 61 #[.slice ad n cap, v] w fun e w' => e = .returned (.bool (xs.all (isAt n))) ∧ Below w.heap.size w w' := by
  have HK : Hid (IIn w xs v) := hk
  obtain ⟨ad2, cap2, rfl, hl, hm, -⟩ := hk
  unfold maxLen at hm
  go_enter Try.func61, Try.ntmps61
  go_wp2_with fail
  go_loopw [9] (fun i wr => ∃ k : Nat, k ≤ xs.length ∧ i = .int .i64 k ∧ (xs.take k).all (isAt n) = true ∧ Below w.heap.size w wr) (fun i _ => xs.length - (intOf i).toNat)
  case atStart => exact ⟨0, Nat.zero_le _, rfl, by simp, Below.refl _ _⟩
  case round =>
    obtain ⟨k, hk, rfl, hall, hb⟩ := hrel
    have HA : Hid ((xs.take k).all (isAt n) = true) := hall
    have HB : Hid (Below w.heap.size w wr) := hb
    clear hall hb
    by_cases hlt : k < xs.length
    · obtain ⟨bl, off, rfl, d0⟩ := (HK.out.next HB.out).at k hlt
      go_wp2_with fail
      refine (isCell_calls n cap ad xs[k] _ hn).mono ?_
      rintro e w1 ⟨rfl, hb1⟩
      have HB1 : Hid (Below w.heap.size w w1) := HB.out.trans (hb1.mono HB.out.size)
      clear hb1 d0
      cases hc : isAt n xs[k] with
      | false =>
        have HV : Hid (xs.all (isAt n) = false) := allI_false_of _ _ k hlt hc
        clear hc
        go_wp2_with fail
        go_ret
        exact ⟨ret_bool HV.out.symm, HB1.out⟩
      | true =>
        have HA2 : Hid ((xs.take (k + 1)).all (isAt n) = true) := by rw [Hid, allI_take_succ _ _ _ hlt, HA.out, hc]; rfl
        clear hc
        go_wp2_with fail
        go_roundw
        case rel => exact ⟨k + 1, by omega, by go_num, HA2.out, HB1.out⟩
        case measure => simp [intOf]; omega
    · have hke : xs.length = k := by omega
      have HV : Hid (xs.all (isAt n) = true) := all_end HA.out hke
      clear hke
      go_wp2_with fail
      go_ret
      exact ⟨ret_bool HV.out.symm, HB.out⟩

/-- cellFits, for a kind with a node -/
theorem fits_node {defs op num : Int} {n : Nat} (h : op ≠ 11) : topC op num n 0 defs = (decide ((n : Int) = cArity op) && ownB op num 0 defs) := by
  unfold topC cArity; rw [if_neg h]

set_option maxRecDepth 100000 in
set_option maxHeartbeats 800000 in
theorem cellFits_node (op num defs : Int) (n cap : Nat) (ad : Option Addr) (T : TypeId) (x : Value) (K : FuncId) (ok fit : Bool) (hn : NodeAt 0 defs op num n T x K ok fit) (h11 : op ≠ 11) (hm : n ≤ 9223372036854775807) (w : World) :
    Calls Try.prog 60 #[.agg #[.int .i64 op, .int .i64 num, .slice ad n cap], .int .i64 defs] w fun e w' => e = .returned (.bool (topC op num n 0 defs)) ∧ Below w.heap.size w w' := by
  have HN : Hid (NodeAt 0 defs op num n T x K ok fit) := hn
  have HBX : Hid (Below w.heap.size w (w.alloc (.cells #[.int .i64 op, .int .i64 num, .slice ad n cap] 40))) := box_below _ _
  have hme := hn.meth
  have hen := hn.enters
  have HT : Hid ((ok && fit) = topC op num n 0 defs) := hn.top
  have t11 : (op == 11) = false := by simpa using h11
  clear hn h11
  cases hok : ok with
  | false =>
    subst hok
    have HV : Hid (topC op num n 0 defs = false) := by have := HT.out; rw [Bool.false_and] at this; exact this.symm
    clear hme hen
    go_enter Try.func60, Try.ntmps60
    go_wp2_with fail
    refine (HN.out.node _).mono ?_
    rintro e w1 ⟨rfl, hb⟩
    have HB : Hid (Below w.heap.size w w1) := HBX.out.trans (hb.mono HBX.out.size)
    clear hb
    go_wp2_with fail
    go_ret
    exact ⟨ret_bool HV.out.symm, HB.out⟩
  | true =>
    subst hok
    have HV : Hid (topC op num n 0 defs = fit) := by have := HT.out; rw [Bool.true_and] at this; exact this.symm
    go_enter Try.func60, Try.ntmps60
    go_wp2_with fail
    refine (HN.out.node _).mono ?_
    rintro e w1 ⟨rfl, hb⟩
    have HB : Hid (Below w.heap.size w w1) := HBX.out.trans (hb.mono HBX.out.size)
    clear hb
    go_wp2_with fail
    refine (HN.out.fits rfl _).mono ?_
    rintro e w2 ⟨rfl, hb⟩
    have HB2 : Hid (Below w.heap.size w w2) := HB.out.trans (hb.mono HB.out.size)
    clear hb
    go_wp2_with fail
    go_ret
    exact ⟨ret_bool HV.out.symm, HB2.out⟩

set_option maxHeartbeats 800000 in
theorem cellFits_ind (num defs : Int) (n cap : Nat) (ad : Option Addr) (hm : n ≤ 9223372036854775807) (w : World) :
    Calls Try.prog 60 #[.agg #[.int .i64 11, .int .i64 num, .slice ad n cap], .int .i64 defs] w fun e w' => e = .returned (.bool ((num == 0) && ((n : Int) == 1))) ∧ Below w.heap.size w w' := by
  have HBX : Hid (Below w.heap.size w (w.alloc (.cells #[.int .i64 11, .int .i64 num, .slice ad n cap] 40))) := box_below _ _
  cases hnum : (num == 0) with
  | false =>
    go_enter Try.func60, Try.ntmps60
    go_wp2_with fail
    go_ret
    exact ⟨rfl, HBX.out⟩
  | true =>
    go_enter Try.func60, Try.ntmps60
    go_wp2_with fail
    go_ret
    exact ⟨rfl, HBX.out⟩

theorem cellFits_calls (c : Ce) (defs : Int) (v : Value) (w : World) (hk : IIn w c.kids v) :
    Calls Try.prog 60 #[.agg #[.int .i64 c.op, .int .i64 c.num, v], .int .i64 defs] w fun e w' => e = .returned (.bool (fitsB defs c)) ∧ Below w.heap.size w w' := by
  obtain ⟨ad, cap, rfl, hl, hm, -⟩ := hk
  have hm' : c.kids.length ≤ 9223372036854775807 := by unfold maxLen at hm; omega
  by_cases h11 : c.op = 11
  · have hv : fitsB defs c = ((c.num == 0) && ((c.kids.length : Int) == 1)) := by
      unfold fitsB cArity ownB
      rw [h11, if_pos rfl, if_neg (by omega), if_neg (by omega), if_neg (by omega), Bool.and_comm]
      rfl
    rw [hv, h11]
    exact cellFits_ind _ _ _ _ _ hm' w
  have hv : fitsB defs c = topC c.op c.num c.kids.length 0 defs := (fits_node h11).symm
  rw [hv]
  by_cases e1 : c.op = 1
  · exact cellFits_node _ _ _ _ _ _ _ _ _ _ _ (nodeAt_1 0 defs c.op c.num c.kids.length e1) h11 hm' w
  by_cases e2 : c.op = 2
  · exact cellFits_node _ _ _ _ _ _ _ _ _ _ _ (nodeAt_2 0 defs c.op c.num c.kids.length e2) h11 hm' w
  by_cases e3 : c.op = 3
  · exact cellFits_node _ _ _ _ _ _ _ _ _ _ _ (nodeAt_3 0 defs c.op c.num c.kids.length e3) h11 hm' w
  exact cellFits_node _ _ _ _ _ _ _ _ _ _ _ (nodeAt_o 0 defs c.op c.num c.kids.length e1 e2 e3) h11 hm' w

theorem cellB_fits {cells defs : Int} {c : Ce} (h : fitsB defs c = false) : cellB cells defs c = false := by unfold cellB; rw [h]; rfl
theorem cellB_kids {cells defs : Int} {c : Ce} (h : fitsB defs c = true) : cellB cells defs c = c.kids.all (isAt cells) := by unfold cellB; rw [h]; rfl

set_option maxHeartbeats 800000 in
theorem implGraph_calls (g : List Ce) (defs : Int) (v : Value) (w : World) (hk : CIn w g v) :
    Calls Try.prog 37 #[v, .int .i64 defs] w fun e w' => e = .returned (.bool (graphB g defs)) ∧ Below w.heap.size w w' := by
  have HK : Hid (CIn w g v) := hk
  obtain ⟨ad, cap, rfl, hl, hm, -⟩ := hk
  unfold maxLen at hm
  by_cases hlim : (g.length : Int) ≤ 400 ∧ 0 ≤ defs ∧ defs ≤ 6
  · have HLM : Hid ((g.length : Int) ≤ 400 ∧ 0 ≤ defs ∧ defs ≤ 6) := hlim
    obtain ⟨l1, l2, l3⟩ := hlim
    go_enter Try.func37, Try.ntmps37
    go_wp2_with fail
    go_loopw [20] (fun i wr => ∃ k : Nat, k ≤ g.length ∧ i = .int .i64 k ∧ (g.take k).all (cellB g.length defs) = true ∧ Below w.heap.size w wr) (fun i _ => g.length - (intOf i).toNat)
    case atStart => exact ⟨0, Nat.zero_le _, rfl, by simp, Below.refl _ _⟩
    case round =>
      obtain ⟨k, hk, rfl, hall, hb⟩ := hrel
      have HA : Hid ((g.take k).all (cellB g.length defs) = true) := hall
      have HB : Hid (Below w.heap.size w wr) := hb
      clear hall hb
      by_cases hlt : k < g.length
      · obtain ⟨bl, off, r, rfl, c0, c1, c2, -, -, hkk⟩ := (HK.out.next HB.out).at k hlt
        obtain ⟨ad2, cap2, rfl, -, -, -⟩ := id hkk
        have HKK : Hid (IIn wr g[k].kids (.slice ad2 g[k].kids.length cap2)) := hkk
        clear hkk
        go_wp2_with fail
        refine (cellFits_calls g[k] defs _ _ (HKK.out.next (box_below _ _))).mono ?_
        rintro e w1 ⟨rfl, hb1⟩
        have HB0 : Hid (Below wr.heap.size wr w1) := (box_below _ _).trans (hb1.mono (by rw [Deep.nblk_alloc]; omega))
        have HB1 : Hid (Below w.heap.size w w1) := HB.out.trans (HB0.out.mono HB.out.size)
        have b2 := (hb1.cell (p := ⟨wr.heap.size, 2, none⟩) (by rw [Deep.nblk_alloc]; exact Nat.lt_succ_self _)).trans (box_cell wr #[.int .i64 g[k].op, .int .i64 g[k].num, .slice ad2 g[k].kids.length cap2] 40 2 _ rfl)
        clear hb1 c0 c1 c2
        cases hc : fitsB defs g[k] with
        | false =>
          have HV : Hid (graphB g defs = false) := graphB_cellNo k hlt (cellB_fits hc)
          clear hc
          go_wp2_with fail
          go_ret
          exact ⟨ret_bool HV.out.symm, HB1.out⟩
        | true =>
          have HC : Hid (cellB (g.length : Int) defs g[k] = g[k].kids.all (isAt g.length)) := cellB_kids hc
          clear hc
          go_wp2_with fail
          refine (areCells_calls g.length cap _ g[k].kids _ _ (by omega) (HKK.out.next HB0.out)).mono ?_
          rintro e w2 ⟨rfl, hb2⟩
          have HB2 : Hid (Below w.heap.size w w2) := HB1.out.trans (hb2.mono HB1.out.size)
          clear hb2 b2
          cases hc2 : g[k].kids.all (isAt (g.length : Int)) with
          | false =>
            have HV : Hid (graphB g defs = false) := graphB_cellNo k hlt (by rw [HC.out, hc2])
            clear hc2
            go_wp2_with fail
            go_ret
            exact ⟨ret_bool HV.out.symm, HB2.out⟩
          | true =>
            have HA2 : Hid ((g.take (k + 1)).all (cellB g.length defs) = true) := by rw [Hid, allI_take_succ _ _ _ hlt, HA.out, HC.out, hc2]; rfl
            clear hc2
            go_wp2_with fail
            go_roundw
            case rel => exact ⟨k + 1, by omega, by go_num, HA2.out, HB2.out⟩
            case measure => simp [intOf]; omega
      · have hke : g.length = k := by omega
        have HV : Hid (graphB g defs = true) := graphB_yes HLM.out (all_end HA.out hke)
        clear hke
        go_wp2_with fail
        go_ret
        exact ⟨ret_bool HV.out.symm, HB.out⟩
  · have HV : Hid (graphB g defs = false) := graphB_no hlim
    by_cases l1 : (g.length : Int) ≤ 400
    · by_cases l2 : 0 ≤ defs
      · have l3 : ¬ defs ≤ 6 := fun h => hlim ⟨l1, l2, h⟩
        clear hlim
        go_enter Try.func37, Try.ntmps37
        go_wp2_with fail
        go_ret
        exact ⟨ret_bool HV.out.symm, Below.refl _ _⟩
      · clear hlim
        go_enter Try.func37, Try.ntmps37
        go_wp2_with fail
        go_ret
        exact ⟨ret_bool HV.out.symm, Below.refl _ _⟩
    · clear hlim
      go_enter Try.func37, Try.ntmps37
      go_wp2_with fail
      go_ret
      exact ⟨ret_bool HV.out.symm, Below.refl _ _⟩
end Go.Proofs.Ytiipcgnkfhjpeaa
/-
  THE PROGRAM's unpack, UnpackWords, AddressesOf.
-/
namespace Go.Proofs.Ytiipcgnkfhjpeaa
set_option linter.unusedVariables false
set_option linter.unusedSimpArgs false
open Go.RowKit


theorem oc_formI {w : World} {lo : Nat} {S : Nat → Prop} {g : List Ce} {v : Value} (h : OwnC w lo S g v) : ∃ ad n cap, v = .slice ad n cap := by obtain ⟨ad, cap, e⟩ := h.form; exact ⟨ad, _, cap, e⟩
theorem cellW_64I {ws : List Int} {a : Nat} (hw : ∀ x ∈ ws, I64 x) (ha : a < ws.length) (h : WholeAt ws a) : I64 (cellW ws a).op ∧ I64 (cellW ws a).num := by
  have h2 := wLen_pos h.1
  have h3 := h.2
  refine ⟨by rw [cellW_op, opW_at ha]; exact hw _ (List.getElem_mem ha), ?_⟩
  cases h : isNumOp (opW ws a) with
  | true => rw [cellW_num h]; show I64 (opW ws (a + 1)); rw [opW_at (by omega)]; exact hw _ (List.getElem_mem _)
  | false => rw [cellW_kid h]; unfold I64; simp
theorem ow_low {w : World} {lo lo' : Nat} {g : List Ce} {v : Value} (h : OwnC w lo (fun b => lo ≤ b) g v) (hl : lo' ≤ lo) : OwnC w lo' (fun b => lo' ≤ b) g v := by
  obtain ⟨hi0, xs, kb, h1, h2, h3⟩ := h
  refine ⟨hi0, xs, kb, ⟨h1.1, ?_⟩, fun j hj => ?_, h3⟩
  · rcases h1.2 with h | ⟨g, cap, cur, rfl, hg, r⟩
    · exact Or.inl h
    · exact Or.inr ⟨g, cap, cur, rfl, Nat.le_trans hl hg, r⟩
  · obtain ⟨kv, e0, e1, e2, e3⟩ := h2 j hj
    exact ⟨kv, e0, e1, e2, e3.keep (fun k hk _ => Nat.le_trans hl hk) fun _ _ _ _ => rfl⟩
theorem plcB_all {st xs : List Int} (h : plcB st xs = false) : ∃ x ∈ xs, idxI st x = -1 := by
  unfold plcB at h
  rw [List.all_eq_false] at h
  obtain ⟨x, hx, h1⟩ := h
  refine ⟨x, hx, ?_⟩
  have := (idxI_bound st x).1
  simp at h1
  omega
/-- a graph in rows of its own and addresses, and whether there are any -/
def OwnUnp (r : List Ce × List Int × Bool) (w : World) (e : Ending) (w' : World) : Prop := ∃ gv t, e = .returned (.tuple #[gv, t, .bool r.2.2]) ∧ OwnC w' w.heap.size (fun b => w.heap.size ≤ b) r.1 gv ∧ IntRow w' w.heap.size r.2.1 t ∧ Below w.heap.size w w'
set_option maxRecDepth 100000 in
set_option maxHeartbeats 1600000 in
theorem unpack_calls (ws : List Int) (v : Value) (w : World) (hk : IIn w ws v) (hw : ∀ x ∈ ws, I64 x) (hl : ws.length ≤ 1048576) :
    Calls Try.prog 41 #[v] w (OwnUnp (unpO ws) w) := by
  have HK := mkHid hk
  have HW := mkHid hw
  obtain ⟨ad, cap, rfl, hlc, hm, -⟩ := hk
  unfold maxLen at hm
  clear hw
  go_enter Try.func41, Try.ntmps41
  have HNIL : Hid (∀ w', Below w.heap.size w w' → unpO ws = ([], [], false) → OwnUnp (unpO ws) w (.returned (.tuple #[.slice none 0 0, .slice none 0 0, .bool false])) w') := fun w' hb h => by
    rw [h]; exact ⟨_, _, rfl, OwnC.nil _ _ _, IntRow.none _ _, hb⟩
  by_cases hbig : ws.length ≤ 1600
  case neg =>
    have HV := mkHid (unpO_long hbig)
    have hb' : (1600 : Int) < (ws.length : Int) := by omega
    clear hbig
    go_wp2_with fail
    refine bodyPost_ret (v := .tuple #[.slice none 0 0, .slice none 0 0, .bool false]) (by simp [results, Try.results41, go_sem]) rfl ?_
    exact HNIL.out _ (Below.refl _ _) HV.out
  go_wp2_with fail
  refine (startsOf_calls ws _ w HK.out hl).mono ?_
  rintro e w2 ⟨sv, rfl, hsv, hb2⟩
  have HB2 := mkHid hb2
  have HSV := mkHid hsv
  clear hsv hb2
  obtain ⟨bs, hbs⟩ : ∃ bs, bs = (startsW ws 0).isSome := ⟨_, rfl⟩
  rw [← hbs]
  cases hst : startsW ws 0 with
  | none =>
    have HV := mkHid (unpO_none hst)
    obtain rfl : bs = false := by rw [hbs, hst]; rfl
    clear hst hbs
    go_wp2_with fail
    refine bodyPost_ret (v := .tuple #[.slice none 0 0, .slice none 0 0, .bool false]) (by simp [results, Try.results41, go_sem]) rfl ?_
    exact HNIL.out _ HB2.out HV.out
  | some st =>
    rw [hst] at HSV
    obtain rfl : bs = true := by rw [hbs, hst]; rfl
    clear hbs
    have HST := mkHid hst
    have HSO := mkHid (starts_sorted hst)
    have hsm := starts_small hst
    have HSC : Hid (∀ x ∈ st, CellAt ws x) := fun x hx => starts_cell HST.out hx
    clear hst
    have HSR : Hid (IntRow w2 w.heap.size st sv) := (show StkI w2 w.heap.size st sv from HSV.out).row
    have HSI : Hid (IIn w2 st sv) := HSR.out.inn
    obtain ⟨ads, caps, rfl, -, -, -⟩ := id HSI.out
    obtain ⟨iC, zC, hII⟩ := infoC1
    have HII := mkHid hII
    clear hII
    go_wp2_with fail
    go_loopw [7, 25] (fun o i wr => ∃ j : Nat, j ≤ st.length ∧ i = .int .i64 j ∧ OwnC wr w2.heap.size (fun b => w2.heap.size ≤ b ∧ b < wr.heap.size) (graphTo ws st j) o ∧ Below w2.heap.size w2 wr) (fun _ i _ => st.length - (intOf i).toNat)
    case atStart => exact ⟨0, Nat.zero_le _, rfl, by rw [graphTo_zero]; exact OwnC.nil _ _ _, Below.refl _ _⟩
    case round =>
      obtain ⟨j, hj, rfl, hown, hb⟩ := hrel
      obtain ⟨wo, rfl⟩ : ∃ wo : World, wo = wr := ⟨_, rfl⟩
      obtain ⟨ado, capo, rfl⟩ := hown.form
      rw [graphTo_len hj] at hown ⊢
      have HO := mkHid hown
      have HB := mkHid hb
      by_cases hlt : j < st.length
      · obtain ⟨b0, o0, rfl, d0w⟩ := HSI.out.at j hlt
        obtain ⟨a, hae, ha, hc, he⟩ := HSC.out _ (List.getElem_mem hlt)
        rw [hae] at d0w
        have d0 := (hb.cell (p := ⟨b0, o0 + j, none⟩) (cell_lt d0w)).trans d0w
        have HSN := mkHid (graphTo_snoc (ws := ws) hlt hae)
        have HMISS : Hid (∀ x ∈ (cellW ws a).kids, idxI st x = -1 → graphB (graphW ws st) 6 = false) := fun x hx hi => graph_miss hlt hae hx hi
        rw [← opW_at ha] at hc he
        have HWA : Hid (WholeAt ws a) := ⟨hc, he⟩
        have H64 := mkHid (cellW_64I HW.out ha HWA.out)
        obtain ⟨bl, off, rfl, -⟩ := HK.out.at a ha
        have HKW : Hid (∀ W, Below w2.heap.size w2 W → IIn W ws (.slice (some ⟨bl, off, none⟩) ws.length cap)) := fun W hW => HK.out.next (HB2.out.trans (hW.mono HB2.out.size))
        clear hown hb d0w hae hc he
        go_wp2_with fail
        refine (wordsAt_yes ws a bl off cap wo (HKW.out wo HB.out) ha HWA.out hl).mono ?_
        rintro e w5 ⟨rfl, hb5⟩
        have HB5 : Hid (Below wo.heap.size wo w5) := hb5
        obtain ⟨n, hn⟩ : ∃ n : Nat, n = wLen (opW ws a) := ⟨_, rfl⟩
        rw [← hn]
        have HCI : Hid (∀ W, Below w2.heap.size w2 W → CellIn ws a n bl (off + a) (cap - a) W) := fun W hW => by
          have h2 := wLen_pos HWA.out.1
          have h3 := HWA.out.2
          rw [← hn] at h2 h3
          refine ⟨hn, h2, by omega, by omega, fun q hq => ?_, h3⟩
          obtain ⟨b9, o9, e9, d9⟩ := (HKW.out W hW).at (a + q) (by omega)
          simp only [Option.some.injEq, Addr.mk.injEq, and_true] at e9
          obtain ⟨rfl, rfl⟩ := e9
          rw [opW_at (by omega), Nat.add_assoc]
          exact d9
        clear hb5 hn d0 ha
        go_wp2_with fail
        refine (cellOf_calls ws a n bl (off + a) (cap - a) w5 (HCI.out w5 (HB.out.trans (HB5.out.mono HB.out.size))) hl).mono ?_
        rintro e w6 ⟨kv, rfl, hkv, hb6⟩
        obtain ⟨c, hcw⟩ : ∃ c, c = cellW ws a := ⟨_, rfl⟩
        have HKL : Hid (c.kids.length ≤ 3) := by
          rw [hcw, Hid]
          have h4 := wLen_le (opW ws a)
          cases hnum : isNumOp (opW ws a) with
          | true => rw [cellW_num hnum]; simp
          | false => rw [cellW_kid hnum, List.length_take]; omega
        rw [← hcw] at HSN H64 hkv HMISS ⊢
        obtain ⟨adk, nk, capk, rfl⟩ := hkv.form
        have HKV := mkHid hkv
        have HB6 : Hid (Below wo.heap.size wo w6) := HB5.out.trans (hb6.mono HB5.out.size)
        clear hcw hkv hb6
        obtain ⟨w7, hw7⟩ : ∃ w7 : World, w7 = w6.alloc (.cells #[.int .i64 c.op, .int .i64 c.num, .slice adk nk capk] 40) := ⟨_, rfl⟩
        have HX7 : Hid (w7.heap[w6.heap.size]? = some (.cells #[.int .i64 c.op, .int .i64 c.num, .slice adk nk capk] 40)) := by rw [hw7]; exact Deep.blk_alloc_new _ _
        have HB7 : Hid (Below wo.heap.size wo w7) := by rw [hw7]; exact HB6.out.alloc HB6.out.size _
        have HK7 : Hid (IIn w7 c.kids (.slice adk nk capk)) := by rw [hw7]; exact (StkI.alloc HKV.out _).row.inn
        have HS7 : Hid (IIn w7 st (.slice (some ⟨b0, o0, none⟩) st.length caps)) := HSI.out.next (HB.out.trans (HB7.out.mono HB.out.size))
        go_wp2_with fail
        rw [← hw7]
        clear hw7
        have x2 := cell_of_blk HX7.out 2 _ rfl
        go_wp2_with fail
        refine (placesIn_calls st c.kids _ _ w7 HS7.out HK7.out HSO.out (by omega) (by have := HKL.out; omega)).mono ?_
        rintro e w8 ⟨tv, rfl, htv, hb8⟩
        have HX8 := mkHid ((hb8.block _ (Array.getElem?_eq_some_iff.1 HX7.out).1).trans HX7.out)
        have HB8 : Hid (Below wo.heap.size wo w8) := HB7.out.trans (hb8.mono HB7.out.size)
        have HT8 := mkHid htv
        have HL8 : Hid (w6.heap.size < w7.heap.size) := (Array.getElem?_eq_some_iff.1 HX7.out).1
        obtain ⟨adt, nt, capt, rfl⟩ := htv.form
        have y2 := cell_of_blk HX8.out 2 _ rfl
        have fy := frz_of_blk HX8.out
        clear htv hb8 x2
        cases hp : plcB st c.kids with
        | false =>
          obtain ⟨x, hx, hxi⟩ := plcB_all hp
          have HV := mkHid (unpO_bad HST.out (HMISS.out x hx hxi))
          clear hp hx hxi
          go_wp2_with fail
          refine bodyPost_ret (v := .tuple #[.slice none 0 0, .slice none 0 0, .bool false]) (by simp [results, Try.results41, go_sem]) rfl ?_
          exact HNIL.out _ ((HB2.out.trans (HB.out.mono HB2.out.size)).trans ((HB8.out.mono (Nat.le_trans HB2.out.size HB.out.size)).setCell (by show _ ≤ w6.heap.size; exact Nat.le_trans (Nat.le_trans HB2.out.size HB.out.size) HB6.out.size) _)) HV.out
        | true =>
          have HT9 : Hid (StkI w8 w7.heap.size (cellP st c).kids (.slice adt nt capt)) := by
            have h := HT8.out
            rw [plcL_yes hp] at h
            exact h
          clear hp
          obtain ⟨wq, hwq⟩ : ∃ wq : World, wq = w8.setCell ⟨w6.heap.size, 2, none⟩ (.slice adt nt capt) := ⟨_, rfl⟩
          have HXQ : Hid (wq.heap[w6.heap.size]? = some (.cells #[.int .i64 c.op, .int .i64 c.num, .slice adt nt capt] 40)) := by rw [hwq]; exact c2_blk HX8.out
          have HBQ : Hid (Below wo.heap.size wo wq) := by rw [hwq]; exact HB8.out.setCell HB6.out.size _
          have HKA : Hid (StkI wq wo.heap.size (cellP st c).kids (.slice adt nt capt)) := by
            rw [hwq]
            exact (HT9.out.keep fun k hk _ => Below.heap_setCell _ _ _ _ (by show k ≠ w6.heap.size; have := HL8.out; omega)).lower HB7.out.size
          have q0 := cell_of_blk HXQ.out 0 _ rfl
          have q1 := cell_of_blk HXQ.out 1 _ rfl
          have q2 := cell_of_blk HXQ.out 2 _ rfl
          rw [hwq] at q0 q1 q2
          have HOA : Hid (OwnC (wq.alloc (.cells #[.int .i64 c.op, .int .i64 c.num, .slice adt nt capt] 40)) w2.heap.size (fun b => w2.heap.size ≤ b ∧ b < wo.heap.size) (graphTo ws st j) (.slice ado j capo)) := (HO.out.keepB HBQ.out).next (fun _ h _ => h) (fun b _ hb => Deep.blk_alloc_lt _ _ _ hb) (fun b _ hb => Deep.blk_alloc_lt _ _ _ hb)
          obtain ⟨xs, hx⟩ := HOA.out.row
          rw [graphTo_len hj] at hx
          have HX := mkHid hx
          have hj9 : j ≤ 800 := by omega
          have HSZ : Hid (w2.heap.size ≤ wo.heap.size ∧ wo.heap.size ≤ wq.heap.size) := ⟨HB.out.size, HBQ.out.size⟩
          have HNW : Hid (∀ (k : Nat) (u : Value), [.int .i64 c.op, .int .i64 c.num, .slice adt nt capt][k]? = some u → (wq.alloc (.cells #[.int .i64 c.op, .int .i64 c.num, .slice adt nt capt] 40)).cell? ((⟨w8.heap.size, 0, none⟩ : Addr).add k) = some u) := fun k u hu => by
            have h := news3c wq (.int .i64 c.op) (.int .i64 c.num) (.slice adt nt capt) k u hu
            have e : wq.heap.size = w8.heap.size := by rw [hwq, size_setCell]
            rw [e] at h
            exact h
          clear hx
          subst hwq
          go_wp2_with (at_builtin; go_must (refine wpList_append_where _ rfl _ _ 27 rfl w2.heap.size 40 iC zC 3 40 Try.underlying27 HII.out.1 HII.out.2.1 HII.out.2.2.1 HII.out.2.2.2.1 HII.out.2.2.2.2 (by decide) (.slice ado j capo) j xs rfl HX.out ⟨w8.heap.size, 0, none⟩ 1 1 [.int .i64 c.op, .int .i64 c.num, .slice adt nt capt] rfl rfl HNW.out (by simp [Value.oneCell']) (by unfold maxLen; omega) (by omega) (by rw [Deep.nblk_alloc]; have := HSZ.out; omega) (by omega) ?_); go_must (intro v' w9 hown hg5 hw5); go_must (have HB9 : Hid (Below w2.heap.size w2 w9) := below_grown ((HB.out.trans (HBQ.out.mono HB.out.size)).alloc (by have := HSZ.out; omega) _) hg5 (fun k hk => own_lo HX.out hk.symm)); go_must (have HO9 : Hid (OwnC w9 w2.heap.size (fun b => w2.heap.size ≤ b ∧ b < w9.heap.size) (graphTo ws st (j + 1)) v') := by rw [HSN.out]; exact OwnC.push (c := cellP st c) HOA.out (StkI.alloc HKA.out _) HSZ.out.1 (by rw [Deep.nblk_alloc]; have := HSZ.out; omega) H64.out (by rw [graphTo_len hj]; exact HX.out) (by rw [graphTo_len hj]; exact hown) hg5); go_must (obtain ⟨ad9, n9, cap9, rfl⟩ := oc_formI HO9.out); clear hown hg5 hw5 q0 q1 q2 y2 fy)
          go_roundw
          case rel => first | exact ⟨j + 1, by omega, by go_num, HO9.out, HB9.out⟩ | ((repeat apply Exists.intro); exact ⟨⟨j + 1, by omega, by go_num, HO9.out, HB9.out⟩, rfl⟩)
          case measure => simp [intOf]; omega
      · have hje : j = st.length := by omega
        have HOG : Hid (OwnC wo w2.heap.size (fun b => w2.heap.size ≤ b ∧ b < wo.heap.size) (graphW ws st) (.slice ado j capo)) := by
          have h := HO.out
          rw [hje, graphTo_all] at h
          rw [hje]; exact h
        have HCI : Hid (CIn wo (graphW ws st) (.slice ado j capo)) := HOG.out.inn fun k h _ => h.1
        have HBW : Hid (Below w.heap.size w wo) := HB2.out.trans (HB.out.mono HB2.out.size)
        have HS9 : Hid (IntRow wo w.heap.size st (.slice ads st.length caps)) := HSR.out.next HB.out
        clear hown hb hje
        go_wp2_with fail
        refine (implGraph_calls (graphW ws st) 6 _ _ HCI.out).mono ?_
        rintro e w7 ⟨rfl, hb7⟩
        have HB7 : Hid (Below w.heap.size w w7) := HBW.out.trans (hb7.mono HBW.out.size)
        have HC7 : Hid (OwnC w7 w.heap.size (fun b => w.heap.size ≤ b) (graphW ws st) (.slice ado j capo)) := ow_low ((HOG.out.keepB hb7).next (S' := fun b => w2.heap.size ≤ b) (fun _ h _ => h.1) (fun _ _ _ => rfl) (fun _ _ _ => rfl)) HB2.out.size
        have HS7 := mkHid (HS9.out.next hb7)
        clear hb7
        cases hg : graphB (graphW ws st) 6 with
        | false =>
          have HV := mkHid (unpO_bad HST.out hg)
          clear hg
          go_wp2_with fail
          refine bodyPost_ret (v := .tuple #[.slice none 0 0, .slice none 0 0, .bool false]) (by simp [results, Try.results41, go_sem]) rfl ?_
          exact HNIL.out _ HB7.out HV.out
        | true =>
          have HV := mkHid (unpO_yes hbig HST.out hg)
          clear hg
          go_wp2_with fail
          refine bodyPost_ret (v := .tuple #[.slice ado j capo, .slice ads st.length caps, .bool true]) (by simp [results, Try.results41, go_sem]) rfl ?_
          rw [HV.out]
          exact ⟨_, _, rfl, HC7.out, HS7.out, HB7.out⟩

set_option maxHeartbeats 400000 in
theorem implUnp_calls (ws : List Int) (v : Value) (w : World) (hk : IIn w ws v) (hw : ∀ x ∈ ws, I64 x) (hl : ws.length ≤ 1048576) :
    Calls Try.prog 20 #[v] w fun e w' => ∃ gv, e = .returned (.tuple #[gv, .bool (unpO ws).2.2]) ∧ OwnC w' w.heap.size (fun b => w.heap.size ≤ b) (unpO ws).1 gv ∧ Below w.heap.size w w' := by
  have HK := mkHid hk
  obtain ⟨ad, cap, rfl, -, -, -⟩ := hk
  obtain ⟨r, hr⟩ : ∃ r, r = unpO ws := ⟨_, rfl⟩
  have HR := mkHid hr
  rw [← hr]
  clear hr
  go_enter Try.func20, Try.ntmps20
  go_wp2_with fail
  refine (unpack_calls ws _ w HK.out hw hl).mono ?_
  rw [← HR.out]
  rintro e w1 ⟨gv, t, rfl, h1, h2, h3⟩
  have H1 := mkHid (And.intro h1 h3)
  clear h1 h2 h3
  go_wp2_with fail
  refine bodyPost_ret (v := .tuple #[gv, .bool r.2.2]) (by simp [results, Try.results20, go_sem]) rfl ?_
  exact ⟨_, rfl, H1.out.1, H1.out.2⟩
end Go.Proofs.Ytiipcgnkfhjpeaa
/-
  ONE ROW OF NUMBERS OF ITS OWN; a graph that keeps its rows while it is marked.
-/
namespace Go.Proofs.Ytiipcgnkfhjpeaa
set_option linter.unusedVariables false
set_option linter.unusedSimpArgs false
open Go.RowKit

/-- numbers in the row b -/
def OneRow (w : World) (b : Nat) (X : List Int) (v : Value) : Prop := KRow w [b] X b v
theorem OneRow.keep {w w' : World} {b : Nat} {X : List Int} {v : Value} (h : OneRow w b X v) (hb : ∀ k, k = b → k < w.heap.size → w'.heap[k]? = w.heap[k]?) : OneRow w' b X v := by
  unfold OneRow at h ⊢
  refine h.keep (fun _ h => h) fun hx hm => ?_
  obtain ⟨_, _, _, _, _, h5⟩ := h
  rcases h5 with h5 | ⟨f5, -, -, h6, -⟩
  · exact absurd h5 hx
  · exact hb _ rfl h6.lt
theorem OneRow.next {w w' : World} {b : Nat} {X : List Int} {v : Value} (h : OneRow w b X v) (hb : Below w.heap.size w w') : OneRow w' b X v := h.keep fun k _ hk => hb.block k hk
theorem OneRow.form {w : World} {b : Nat} {X : List Int} {v : Value} (h : OneRow w b X v) : ∃ ad cap, v = .slice ad X.length cap := by
  obtain ⟨ad, cap, e, -⟩ := h; exact ⟨ad, cap, e⟩
theorem OneRow.inn {w : World} {b : Nat} {X : List Int} {v : Value} (h : OneRow w b X v) : IIn w X v := by
  obtain ⟨ad, cap, e, l1, l2, h⟩ := h
  refine ⟨ad, cap, e, l1, l2, h.imp id ?_⟩
  rintro ⟨f, rfl, -, hr, hf⟩
  exact ⟨b, 0, rfl, hr.lt, fun i hi => by rw [Nat.zero_add, hr.cell (by omega), hf i hi]⟩
theorem OneRow.nil (w : World) (b : Nat) (ad : Option Addr) (cap : Nat) (h : cap ≤ maxLen) : OneRow w b [] (.slice ad 0 cap) := ⟨ad, cap, rfl, Nat.zero_le _, h, Or.inl rfl⟩
theorem labC_half2 (g : List Ce) (k : Int) : HalfC g k g.length (labC g k) := ⟨labC_length g k, fun i hi hm => by rw [if_pos hi, labC_get g k i hi]⟩
theorem gmarkG_calls (g : List Ce) (fp : List Nat) (v : Value) (k : Int) (w : World) (h : GOwn w fp g v) (h0 : 0 ≤ k) (h1 : k ≤ 1048576) (hs : g.length + sumK g ≤ 1048576) :
    Calls Try.prog 15 #[v, .int .i64 k] w fun e w' => e = .returned (.int .i64 (k + 2 * (g.length : Int) + (sumK g : Int))) ∧ GOwn w' fp (labC g k) v ∧ ButL fp w w' := by
  obtain ⟨hi, ad, cap, rfl, l1, l2, hr⟩ := h
  rcases hr with rfl | ⟨b, kb, rfl, hb, hr, hd⟩
  · refine (markCells_calls [] fp (.slice ad 0 cap) k w ⟨ad, cap, rfl, l1, l2, Or.inl rfl⟩ h0 (by omega) (by simp [sumN'])).mono ?_
    rintro e w' ⟨rfl, hb⟩
    refine ⟨ret_int (by simp [sumK, sumN']), ⟨fun i hi' => absurd hi' (by simp [labC]), ad, cap, rfl, l1, l2, Or.inl rfl⟩, hb⟩
  · refine (gmark_calls g fp b cap kb k w hr hb hd l1 l2 h0 (by omega) hs).mono ?_
    rintro e w' ⟨rfl, h5, h6⟩
    refine ⟨rfl, ⟨fun i hi' => ?_, some ⟨b, 0, none⟩, cap, by rw [labC_length], by rw [labC_length]; exact l1, l2, Or.inr ⟨b, kb, rfl, hb, h5, (labC_half2 g k).dist hd⟩⟩, h6⟩
    have hl := labC_length g k
    rw [labC_get g k i (by omega) hi']
    have := cLab_le g k i (by omega)
    unfold markedC I64
    simp only
    omega
/-- what a call hands back: a graph and numbers, in rows of their own -/
def GIRes (G : List Ce) (X : List Int) (gv tv : Value) (w w' : World) : Prop :=
  ∃ fG bL, GOwn w' fG G gv ∧ (∀ k ∈ fG, w.heap.size ≤ k ∧ k < w'.heap.size) ∧ OneRow w' bL X tv ∧ w.heap.size ≤ bL ∧ bL ∉ fG
theorem GIRes.inn {G : List Ce} {X : List Int} {gv tv : Value} {w w' : World} (h : GIRes G X gv tv w w') : CIn w' G gv ∧ IIn w' X tv := by
  obtain ⟨fG, bL, h1, -, h3, -⟩ := h
  exact ⟨h1.inn, h3.inn⟩
theorem IntRow.shape {w : World} {lo : Nat} {xs : List Int} {v : Value} (h : IntRow w lo xs v) : IShape w (List.range' lo (w.heap.size - lo)) xs.length v := by
  obtain ⟨ad, cap, e, l1, l2, h⟩ := h
  refine ⟨ad, cap, e, l1, l2, ?_⟩
  rcases h with rfl | ⟨b, f, rfl, hb, hr, -⟩
  · exact Or.inl rfl
  · exact Or.inr ⟨b, f, rfl, by rw [List.mem_range'_1]; have := hr.lt; omega, hr⟩
theorem IShape.blocks {fp : List Nat} {w w' : World} {n : Nat} {v : Value} (h : IShape w fp n v) (k : ∀ b ∈ fp, w'.heap[b]? = w.heap[b]?) : IShape w' fp n v := by
  obtain ⟨ad, cap, e, l1, l2, h⟩ := h
  refine ⟨ad, cap, e, l1, l2, h.imp id ?_⟩
  rintro ⟨g, f, rfl, hg, hr⟩
  exact ⟨g, f, rfl, hg, hr.of_block (k g hg)⟩
theorem GIRes.lower {G : List Ce} {X : List Int} {gv tv : Value} {w w1 w' : World} (h : GIRes G X gv tv w1 w') (hl : w.heap.size ≤ w1.heap.size) : GIRes G X gv tv w w' := by
  obtain ⟨fG, bL, h1, h2, h3, h4, h5⟩ := h
  exact ⟨fG, bL, h1, fun k hk => ⟨Nat.le_trans hl (h2 k hk).1, (h2 k hk).2⟩, h3, Nat.le_trans hl h4, h5⟩
end Go.Proofs.Ytiipcgnkfhjpeaa
/-
  A COPY OF A GRAPH, AS ROWS THAT MAY BE MARKED.
-/
namespace Go.Proofs.Ytiipcgnkfhjpeaa
set_option linter.unusedVariables false
set_option linter.unusedSimpArgs false
open Go.RowKit

theorem CellRow.shape {w : World} {lo : Nat} {g : List Ce} {v : Value} (h : CellRow w lo g v) : CShape w (List.range' lo (w.heap.size - lo)) (g.map (·.kids.length)) v := by
  obtain ⟨ad, cap, e, l1, l2, h⟩ := h
  refine ⟨ad, cap, by rw [List.length_map]; exact e, by rw [List.length_map]; exact l1, l2, ?_⟩
  rcases h with rfl | ⟨b, f, rfl, hb, hr, hf⟩
  · exact Or.inl rfl
  · refine Or.inr ⟨b, f, rfl, by rw [List.mem_range'_1]; have := hr.lt; omega, hr, fun i hi => ?_⟩
    rw [List.length_map] at hi
    obtain ⟨-, -, -, -, ad2, cap2, e2, l3, l4, h2⟩ := hf i hi
    refine ⟨ad2, cap2, by rw [e2]; simp, by simpa using l3, l4, ?_⟩
    rcases h2 with h2 | ⟨b2, f2, rfl, hb2, hr2, -⟩
    · left; simp [h2]
    · exact Or.inr ⟨b2, f2, rfl, by rw [List.mem_range'_1]; have := hr2.lt; omega, hr2⟩
end Go.Proofs.Ytiipcgnkfhjpeaa
/-
  THE LAWS' OWN COUNT OF AN ARGUMENT (szExpr, szExprS): what is left of the budget; nothing that was there is changed.
-/
namespace Go.Proofs.Ytiipcgnkfhjpeaa
set_option linter.unusedVariables false
set_option linter.unusedSimpArgs false
open Go.RowKit

end Go.Proofs.Ytiipcgnkfhjpeaa
