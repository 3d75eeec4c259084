/-
  THE MODEL's l7Cell.
-/
import Derived.Test.YtiipcgnkfhjpeaaMgExactCopyWords2
import Derived.Test.YtiipcgnkfhjpeaaMgExactCopyWords3
import Derived.Deep.RegionHeld3
import Derived.Test.YtiipcgnkfhjpeaaMgExactCopyWords1
import Derived.Maps.Own
import Derived.Maps.OwnOps
import Derived.LaidEqlPtr
import Derived.Test.YtiipcgnkfhjpeaaProg
import Derived.Deep.DeepMust
import Derived.Deep.RegionLaw
import Derived.Deep.RegionLawGrows
namespace Go.Proofs.Ytiipcgnkfhjpeaa
set_option linter.unusedVariables false
set_option linter.unusedSimpArgs false
open Go.RowKit


/-- three stores into a block of three -/
theorem s3_blk {w : World} {B : Nat} {a0 a1 a2 b0 b1 b2 : Value} {T : TypeId} (h : w.heap[B]? = some (.cells #[a0, a1, a2] T)) : (((w.setCell ⟨B, 0, none⟩ b0).setCell ⟨B, 1, none⟩ b1).setCell ⟨B, 2, none⟩ b2).heap[B]? = some (.cells #[b0, b1, b2] T) := by
  simp [World.setCell, Array.getElem?_modify, h]
theorem s3_far {w : World} {B k : Nat} {b0 b1 b2 : Value} (hk : k ≠ B) : (((w.setCell ⟨B, 0, none⟩ b0).setCell ⟨B, 1, none⟩ b1).setCell ⟨B, 2, none⟩ b2).heap[k]? = w.heap[k]? :=
  (Below.heap_setCell _ _ _ _ hk).trans ((Below.heap_setCell _ _ _ _ hk).trans (Below.heap_setCell _ _ _ _ hk))
theorem s3_below {w0 w : World} {B n : Nat} {b0 b1 b2 : Value} (h : Below n w0 w) (hB : n ≤ B) : Below n w0 (((w.setCell ⟨B, 0, none⟩ b0).setCell ⟨B, 1, none⟩ b1).setCell ⟨B, 2, none⟩ b2) := ((h.setCell hB _).setCell hB _).setCell hB _
theorem c1_blk {w : World} {B : Nat} {a0 a1 a2 u : Value} {T : TypeId} (h : w.heap[B]? = some (.cells #[a0, a1, a2] T)) : (w.setCell ⟨B, 1, none⟩ u).heap[B]? = some (.cells #[a0, u, a2] T) := by
  simp [World.setCell, Array.getElem?_modify, h]
theorem c2_blk {w : World} {B : Nat} {a0 a1 a2 u : Value} {T : TypeId} (h : w.heap[B]? = some (.cells #[a0, a1, a2] T)) : (w.setCell ⟨B, 2, none⟩ u).heap[B]? = some (.cells #[a0, a1, u] T) := by
  simp [World.setCell, Array.getElem?_modify, h]

/-- a world behind an append of one number -/
theorem grown_one {w0 wo w5 : World} {lo : Nat} {xs : List Int} {v : Value} {o : Obj} (hst : StkI (wo.alloc o).drew lo xs v) (hg : (wo.alloc o).drew.grownBy w5 v.ownBlock) (hb : Below w0.heap.size w0 wo) (hl : w0.heap.size ≤ lo) (hlo : lo ≤ wo.heap.size) : Below w0.heap.size w0 w5 ∧ (∀ k, k < lo → w5.heap[k]? = wo.heap[k]?) ∧ wo.heap.size ≤ w5.heap.size := by
  have h1 : ∀ k, k < lo → w5.heap[k]? = wo.heap[k]? := fun k hk => (StkI.far hst hg (by show k < (wo.alloc o).heap.size; rw [Deep.nblk_alloc]; omega) hk).trans (Deep.blk_alloc_lt _ _ _ (by omega))
  have h2 : (wo.alloc o).heap.size ≤ w5.heap.size := hg.size
  rw [Deep.nblk_alloc] at h2
  exact ⟨⟨hg.os.trans hb.os, hg.tape.trans hb.tape, hg.output.trans hb.output, by have := hb.size; omega, fun k hk => (h1 k (by omega)).trans (hb.block k hk)⟩, h1, by omega⟩

/-- a cell by value, its operands in a row that the call owns -/
def NewCellW (c : Ce) (w : World) (e : Ending) (w' : World) : Prop := ∃ v, e = .returned (.agg #[.int .i64 c.op, .int .i64 c.num, v]) ∧ StkI w' w.heap.size c.kids v ∧ Below w.heap.size w w'
set_option maxRecDepth 100000 in
set_option maxHeartbeats 800000 in
theorem l7Cell_calls (ws : List Int) (a : Nat) (v : Value) (w : World) (hk : IIn w ws v) (ha : a < ws.length) (hc : wLen (opW ws a) ≠ 0) (he : a + wLen (opW ws a) ≤ ws.length) (hl : ws.length ≤ 1048576) :
    Calls Try.prog 51 #[v, .int .i64 (a : Int)] w (NewCellW (cellW ws a) w) := by
  have HK := mkHid hk
  obtain ⟨ad, cap, rfl, hlc, hm, -⟩ := hk
  unfold maxLen at hm
  obtain ⟨op, hop⟩ : ∃ op, op = opW ws a := ⟨_, rfl⟩
  have HOP := mkHid hop
  rw [← hop] at hc he
  obtain ⟨bl, off, rfl, d0⟩ := HK.out.at a ha
  rw [← opW_at ha, ← hop] at d0
  have hbl : bl < w.heap.size := cell_lt d0
  have hn2 := wLen_pos hc
  have hn4 := wLen_le op
  have HLEN : Hid (∀ q, q < wLen op → ∃ h : a + q < ws.length, w.cell? ⟨bl, off + (a + q), none⟩ = some (.int .i64 (opW ws (a + q)))) := fun q hq => by
    refine ⟨by omega, ?_⟩
    obtain ⟨b2, o2, e2, d2⟩ := HK.out.at (a + q) (by omega)
    simp only [Option.some.injEq, Addr.mk.injEq, and_true] at e2
    obtain ⟨rfl, rfl⟩ := e2
    rw [opW_at (by omega)]
    exact d2
  obtain ⟨n, hn⟩ : ∃ n : Nat, n = wLen op := ⟨_, rfl⟩
  have HN := mkHid hn
  rw [← hn] at hn2 hn4 he HLEN
  obtain ⟨W, hW⟩ : ∃ W, W = (w.alloc (.cells #[.int .i64 0, .int .i64 0, .slice none 0 0] 40)).alloc (.cells #[.int .i64 op, .int .i64 0, .slice none 0 0] 40) := ⟨_, rfl⟩
  have HB : Hid (Below w.heap.size w W) := by rw [hW]; exact (box_below _ _).alloc (by rw [Deep.nblk_alloc]; omega) _
  have HX : Hid (W.heap[w.heap.size]? = some (.cells #[.int .i64 0, .int .i64 0, .slice none 0 0] 40)) := by
    rw [hW]; exact (Deep.blk_alloc_lt _ _ _ (by rw [Deep.nblk_alloc]; omega)).trans (Deep.blk_alloc_new _ _)
  have HY : Hid (W.heap[w.heap.size + 1]? = some (.cells #[.int .i64 op, .int .i64 0, .slice none 0 0] 40)) := by
    have h := Deep.blk_alloc_new (w.alloc (.cells #[.int .i64 0, .int .i64 0, .slice none 0 0] 40)) (.cells #[.int .i64 op, .int .i64 0, .slice none 0 0] 40)
    rw [Deep.nblk_alloc] at h
    rw [hW]; exact h
  have HL : Hid (W.heap.size = w.heap.size + 2) := by rw [hW, Hid, Deep.nblk_alloc, Deep.nblk_alloc]
  clear hop hn hc
  go_enter Try.func51, Try.ntmps51
  go_wp2_with fail
  rw [← hW]
  clear hW
  refine (l7Length_calls op W).mono ?_
  rintro e w1 ⟨rfl, rfl⟩
  rw [← HN.out]
  have x0 := cell_of_blk HX.out 0 _ rfl
  have x1 := cell_of_blk HX.out 1 _ rfl
  have x2 := cell_of_blk HX.out 2 _ rfl
  have fx := frz_of_blk HX.out
  have y0 := cell_of_blk HY.out 0 _ rfl
  have y1 := cell_of_blk HY.out 1 _ rfl
  have y2 := cell_of_blk HY.out 2 _ rfl
  have fy := frz_of_blk HY.out
  cases hnum : isNumOp op with
  | true =>
    have hnn : n = 2 := by rw [HN.out]; exact wLen_num hnum
    obtain ⟨h1, d1w⟩ := HLEN.out 1 (by omega)
    have d1 := (HB.out.cell (p := ⟨bl, off + (a + 1), none⟩) (cell_lt d1w)).trans d1w
    have HV : Hid (cellW ws a = ⟨op, opW ws (a + 1), []⟩) := by rw [Hid, cellW_num (by rw [← HOP.out]; exact hnum), ← HOP.out]
    have hop : op = 2 ∨ op = 3 := by unfold isNumOp at hnum; simpa using hnum
    obtain ⟨m, hm0⟩ : ∃ m, m = opW ws (a + 1) := ⟨_, rfl⟩
    rw [← hm0] at d1 HV
    clear hnum d1w hm0 d0
    subst hnn
    have HFIN : Hid (NewCellW (cellW ws a) w (.returned (.agg #[.int .i64 op, .int .i64 m, .slice none 0 0])) ((((W.setCell ⟨w.heap.size + 1, 1, none⟩ (.int .i64 m)).setCell ⟨w.heap.size, 0, none⟩ (.int .i64 op)).setCell ⟨w.heap.size, 1, none⟩ (.int .i64 m)).setCell ⟨w.heap.size, 2, none⟩ (.slice none 0 0))) := by
      rw [Hid, HV.out]
      exact ⟨_, rfl, StkI.none _ _, s3_below (HB.out.setCell (Nat.le_succ _) _) (Nat.le_refl _)⟩
    rcases hop with rfl | rfl
    · go_wp2_with fail
      refine bodyPost_ret (v := .agg #[.int .i64 2, .int .i64 m, .slice none 0 0]) ?_ rfl HFIN.out
      have hb := s3_blk (b0 := .int .i64 2) (b1 := .int .i64 m) (b2 := .slice none 0 0) ((Below.heap_setCell W ⟨w.heap.size + 1, 1, none⟩ (.int .i64 m) w.heap.size (by show w.heap.size ≠ w.heap.size + 1; omega)).trans HX.out)
      simp [results, Try.results51, go_sem, cell_of_blk hb 0 _ rfl, cell_of_blk hb 1 _ rfl, cell_of_blk hb 2 _ rfl]
    · go_wp2_with fail
      refine bodyPost_ret (v := .agg #[.int .i64 3, .int .i64 m, .slice none 0 0]) ?_ rfl HFIN.out
      have hb := s3_blk (b0 := .int .i64 3) (b1 := .int .i64 m) (b2 := .slice none 0 0) ((Below.heap_setCell W ⟨w.heap.size + 1, 1, none⟩ (.int .i64 m) w.heap.size (by show w.heap.size ≠ w.heap.size + 1; omega)).trans HX.out)
      simp [results, Try.results51, go_sem, cell_of_blk hb 0 _ rfl, cell_of_blk hb 1 _ rfl, cell_of_blk hb 2 _ rfl]
  | false =>
    have hop2 : (op == 2) = false := by unfold isNumOp at hnum; simp at hnum; simp; omega
    have hop3 : (op == 3) = false := by unfold isNumOp at hnum; simp at hnum; simp; omega
    obtain ⟨ks, hks⟩ : ∃ ks, ks = (ws.drop (a + 1)).take (n - 1) := ⟨_, rfl⟩
    have HV : Hid (cellW ws a = ⟨op, 0, ks⟩) := by rw [Hid, cellW_kid (by rw [← HOP.out]; exact hnum), ← HOP.out, ← HN.out, hks]
    have HKL : Hid (ks.length = n - 1) := by rw [hks, Hid, List.length_take, List.length_drop]; omega
    have HKG : Hid (∀ q, q < n - 1 → ks[q]? = some (opW ws (a + 1 + q))) := fun q hq => by
      have h := kidsW_get (ws := ws) (a := a) (q := q) (by rw [← HOP.out, ← HN.out]; omega) (by rw [← HOP.out, ← HN.out]; omega)
      rw [← HOP.out, ← HN.out, ← hks] at h
      exact h
    clear hnum hks d0 x0 x1 x2 fx
    have HY' : Hid (∃ kv, W.heap[w.heap.size + 1]? = some (.cells #[.int .i64 op, .int .i64 0, kv] 40) ∧ StkI W (w.heap.size + 2) (ks.take 0) kv) := ⟨_, HY.out, StkI.none _ _⟩
    by_cases hn22 : n = 2
    all_goals
      have hnb : ((n : Int) == 2) = decide (n = 2) := by by_cases h : n = 2 <;> simp [h] <;> omega
      go_wp2_with fail
      go_loopw [6] (fun i wr => ∃ k : Nat, 1 ≤ k ∧ k ≤ n ∧ i = .int .i64 k ∧ (∃ kv, wr.heap[w.heap.size + 1]? = some (.cells #[.int .i64 op, .int .i64 0, kv] 40) ∧ StkI wr (w.heap.size + 2) (ks.take (k - 1)) kv) ∧ wr.heap[w.heap.size]? = some (.cells #[.int .i64 0, .int .i64 0, .slice none 0 0] 40) ∧ Below w.heap.size w wr) (fun i _ => n - (intOf i).toNat)
      case atStart => exact ⟨1, Nat.le_refl _, by omega, rfl, ⟨_, HY.out, StkI.none _ _⟩, HX.out, HB.out⟩
      case round =>
        obtain ⟨k, hk1, hk2, rfl, ⟨kv, hbx, hst⟩, hz, hb⟩ := hrel
        obtain ⟨wo, rfl⟩ : ∃ wo : World, wo = wr := ⟨_, rfl⟩
        obtain ⟨adk, nk, capk, rfl⟩ := hst.form
        have HY1 := mkHid hbx
        have HS1 := mkHid hst
        have HZ1 := mkHid hz
        have HB1 := mkHid hb
        have HTL : Hid ((ks.take (k - 1)).length ≤ 4) := by rw [Hid, List.length_take]; have := HKL.out; omega
        have q0 := cell_of_blk hbx 0 _ rfl
        have q2 := cell_of_blk hbx 2 _ rfl
        have fq := frz_of_blk hbx
        have hsz : w.heap.size + 2 ≤ wo.heap.size := by have := (Array.getElem?_eq_some_iff.1 hbx).1; omega
        have HSZ := mkHid hsz
        clear hbx hst hz hb y0 y1 y2 fy hsz
        go_wp2_with fail
        refine (l7Length_calls op wo).mono ?_
        rintro e w1 ⟨rfl, rfl⟩
        rw [← HN.out]
        by_cases hlt : k < n
        · obtain ⟨h1, d1w⟩ := HLEN.out k hlt
          have d1 := (HB1.out.cell (p := ⟨bl, off + (a + k), none⟩) (cell_lt d1w)).trans d1w
          obtain ⟨y, hy⟩ : ∃ y, y = opW ws (a + k) := ⟨_, rfl⟩
          have HT : Hid (ks.take (k + 1 - 1) = ks.take (k - 1) ++ [y]) := by
            have h := HKG.out (k - 1) (by omega)
            have e1 : a + 1 + (k - 1) = a + k := by omega
            rw [e1, ← hy] at h
            have e2 : k + 1 - 1 = (k - 1) + 1 := by omega
            rw [Hid, e2, List.take_add_one, h]
            rfl
          rw [← hy] at d1
          have qd2 : wo.drew.cell? ⟨w.heap.size + 1, 2, none⟩ = some (.slice adk nk capk) := q2
          have dd1 : wo.drew.cell? ⟨bl, off + (a + k), none⟩ = some (.int .i64 y) := d1
          have qa2 := old_cell q2 (.cells #[.int .i64 y] 3)
          have qb2 := old_cell qd2 (.cells #[.int .i64 y] 3)
          have A1 : Hid (StkI (wo.alloc (.cells #[.int .i64 y] 3)).drew (w.heap.size + 2) (ks.take (k - 1)) (.slice adk nk capk)) := StkI.drew (StkI.alloc HS1.out _)
          have K1 : Hid (IIn (wo.alloc (.cells #[.int .i64 y] 3)).drew [y] (.slice (some ⟨wo.heap.size, 0, none⟩) 1 1)) := IntsOn.drew (oneI_in wo y)
          have L1 : Hid (w.heap.size + 2 ≤ (wo.alloc (.cells #[.int .i64 y] 3)).drew.heap.size) := by show w.heap.size + 2 ≤ (wo.alloc _).heap.size; rw [Deep.nblk_alloc]; have := HSZ.out; omega
          have hiI : (a : Int) + (k : Int) < (ws.length : Int) := by omega
          have hi0 : 0 ≤ (a : Int) + (k : Int) := by omega
          have hwr : IntKind.i64.wrap ((a : Int) + (k : Int)) = (a : Int) + (k : Int) := IntWalk.i64_in _ (by omega)
          have htn : ((a : Int) + (k : Int)).toNat = a + k := by omega
          clear d1w hy
          go_wp2_with fail
          go_region_law (first
            | (refine step_pushI (by rfl) (.tmp 41) (.tmp 48) (by rfl) (w.heap.size + 2) (ks.take (k - 1)) [y] (.slice adk nk capk) (.slice (some ⟨wo.heap.size, 0, none⟩) 1 1) (by rfl) A1.out (by rfl) K1.out L1.out (by have := HTL.out; simp; omega) ?_; intro v1 w5 hst5 hg5; have HS5 : Hid (StkI w5 (w.heap.size + 2) (ks.take (k + 1 - 1)) v1) := (by rw [HT.out]; exact hst5); obtain ⟨hbw5, hfar5, hsz5⟩ := grown_one A1.out hg5 HB1.out (Nat.le_add_right _ 2) HSZ.out; have HY5 := mkHid ((hfar5 _ (Nat.lt_succ_self _)).trans HY1.out); have HZ5 := mkHid ((hfar5 _ (by omega)).trans HZ1.out); have HBW5 := mkHid hbw5; obtain ⟨ad5, n5, cap5, rfl⟩ := hst5.form; have s2 := cell_of_blk HY5.out 2 _ rfl; have sf := frz_of_blk HY5.out; clear hst5 hg5 hsz5 hfar5 hbw5))
          all_goals
            go_wp2_with fail
            go_roundw
            case rel => exact ⟨k + 1, by omega, by omega, by go_num, ⟨_, c2_blk HY5.out, HS5.out.keep fun j hj _ => Below.heap_setCell _ _ _ _ (by show j ≠ w.heap.size + 1; omega)⟩, (Below.heap_setCell _ _ _ _ (by show w.heap.size ≠ w.heap.size + 1; omega)).trans HZ5.out, HBW5.out.setCell (Nat.le_succ _) _⟩
            case measure => simp [intOf]; omega
        · have hke : k = n := by omega
          have HKS : Hid (StkI wo (w.heap.size + 2) ks (.slice adk nk capk)) := by
            have h := HS1.out
            rw [List.take_of_length_le (by have := HKL.out; omega)] at h
            exact h
          have q1 := cell_of_blk HY1.out 1 _ rfl
          have z0 := cell_of_blk HZ1.out 0 _ rfl
          have z1 := cell_of_blk HZ1.out 1 _ rfl
          have z2 := cell_of_blk HZ1.out 2 _ rfl
          have fz := frz_of_blk HZ1.out
          clear hke
          go_wp2_with fail
          have hb := s3_blk (b0 := .int .i64 op) (b1 := .int .i64 0) (b2 := .slice adk nk capk) HZ1.out
          refine bodyPost_ret (v := .agg #[.int .i64 op, .int .i64 0, .slice adk nk capk]) (by simp [results, Try.results51, go_sem, cell_of_blk hb 0 _ rfl, cell_of_blk hb 1 _ rfl, cell_of_blk hb 2 _ rfl]) rfl ?_
          rw [HV.out]
          refine ⟨_, rfl, ?_, s3_below HB1.out (Nat.le_refl _)⟩
          exact ((HKS.out.lower (Nat.le_add_right _ 1)).keep fun j hj _ => s3_far (by omega)).lower (by omega)
end Go.Proofs.Ytiipcgnkfhjpeaa
/-
  PLAIN: the cells of an expression, added to a graph. No program is named here.
-/
namespace Go.Proofs.Ytiipcgnkfhjpeaa
set_option linter.unusedVariables false
set_option linter.unusedSimpArgs false

end Go.Proofs.Ytiipcgnkfhjpeaa
/-
  MAPS KEYED BY ADDRESSES (pointers, or structs of them): what a look-up finds and what a store leaves, the map seen as a function from keys to values.
-/
namespace Go.Proofs.Ytiipcgnkfhjpeaa
set_option linter.unusedVariables false
set_option linter.unusedSimpArgs false
open Go.RowKit Go.MapKept

section
variable {κ : Type} [DecidableEq κ]

/-- where a key stands in a list, and its value -/
def pfind (c : κ) : List (κ × Value) → Nat → Option (Nat × Value)
  | [], _ => none
  | x :: xs, i => if c = x.1 then some (i, x.2) else pfind c xs (i + 1)

/-- block b is a map, its keys of K, seen as the function M -/
def PMap (emb : κ → Value) (w : World) (b : Nat) (K : κ → Prop) (M : κ → Option Value) : Prop :=
  ∃ es clock L, w.heap[b]? = some (.map es clock) ∧ es.toList.map (fun e => (e.key, e.val)) = L.map (fun x : κ × Value => (emb x.1, x.2)) ∧ (∀ x ∈ L, K x.1) ∧ ∀ c, M c = (pfind c L 0).map (·.2)

/-- a function changed at one place -/
def pput (M : κ → Option Value) (a : κ) (v : Value) : κ → Option Value := fun c => if c = a then some v else M c
@[simp] theorem pput_same (M : κ → Option Value) (a : κ) (v : Value) : pput M a v a = some v := by simp [pput]
theorem pput_other (M : κ → Option Value) {a c : κ} (v : Value) (h : c ≠ a) : pput M a v c = M c := by simp [pput, h]

variable {P : Program} {kt et mt : TypeId} {emb : κ → Value} {ok : World → κ → Prop} {w : World} {b : Nat} {K : κ → Prop} {M : κ → Option Value}

theorem PMap.keep {w' : World} (h : PMap emb w b K M) (hb : w'.heap[b]? = w.heap[b]?) : PMap emb w' b K M := by
  obtain ⟨es, clock, L, h1, h2⟩ := h
  exact ⟨es, clock, L, hb.trans h1, h2⟩
theorem PMap.lt (h : PMap emb w b K M) : b < w.heap.size := by
  obtain ⟨es, clock, L, h1, h2⟩ := h
  exact (Array.getElem?_eq_some_iff.1 h1).1
end

/-! ### The operations, for the walk -/
section
variable {κ : Type} [DecidableEq κ] {P : Program} {emb : κ → Value} {ok : World → κ → Prop}
end

end Go.Proofs.Ytiipcgnkfhjpeaa
/-
  AN ADDRESS HOLDS ONE TREE; blocks of plain cells; trees that lie in such blocks; the way down nested applications.
-/
namespace Go.Proofs.Ytiipcgnkfhjpeaa
set_option linter.unusedVariables false
set_option linter.unusedSimpArgs false
open Go.RowKit

mutual
theorem TrOn.uniq {w : World} {S S' : Nat → Prop} : ∀ (t t' : Tr) (a b c : Value), TrOn w S t a b c → TrOn w S' t' a b c → t = t'
  | .node o n ks, .node o' n' ks', a, b, c, h, h' => by
    simp only [TrOn] at h h'
    obtain ⟨rfl, rfl, -, -, ad, cap, rfl, -, -, h⟩ := h
    obtain ⟨e1, e2, -, -, ad', cap', e3, -, -, h'⟩ := h'
    simp only [Value.int.injEq, true_and] at e1 e2
    simp only [Value.slice.injEq] at e3
    obtain ⟨rfl, hl, rfl⟩ := e3
    subst e1
    subst e2
    congr 1
    rcases h with rfl | ⟨bl, off, rfl, -, hr⟩
    · exact (List.eq_nil_of_length_eq_zero (by simpa using hl.symm)).symm
    · rcases h' with rfl | ⟨bl', off', e, -, hr'⟩
      · exact List.eq_nil_of_length_eq_zero (by simpa using hl)
      · simp only [Option.some.injEq, Addr.mk.injEq] at e
        obtain ⟨rfl, rfl, -⟩ := e
        exact RowOn.uniq bl off ks ks' hl hr hr'
theorem RowOn.uniq {w : World} {S S' : Nat → Prop} (bl off : Nat) : ∀ (ks ks' : List Tr), ks.length = ks'.length → RowOn w S bl off ks → RowOn w S' bl off ks' → ks = ks'
  | [], [], _, _, _ => rfl
  | [], _ :: _, hl, _, _ => by simp at hl
  | _ :: _, [], hl, _, _ => by simp at hl
  | t :: ts, t' :: ts', hl, h, h' => by
    simp only [RowOn] at h h'
    obtain ⟨⟨a, b, c, ha, hb, hc, ht⟩, hr⟩ := h
    obtain ⟨⟨a', b', c', ha', hb', hc', ht'⟩, hr'⟩ := h'
    rw [ha] at ha'
    rw [hb] at hb'
    rw [hc] at hc'
    cases ha'
    cases hb'
    cases hc'
    rw [TrOn.uniq t t' a b c ht ht', RowOn.uniq bl (off + 3) ts ts' (by simpa using hl) hr hr']
end

/-- plain blocks of cells -/
def Pl (w : World) : Nat → Prop := fun k => k < w.heap.size ∧ ∃ C T, w.heap[k]? = some (.cells C T (0, 0))
theorem Pl.next {w w' : World} (hb : Below w.heap.size w w') {k : Nat} (h : Pl w k) : Pl w' k :=
  ⟨Nat.lt_of_lt_of_le h.1 hb.size, by obtain ⟨C, T, e⟩ := h.2; exact ⟨C, T, (hb.block k h.1).trans e⟩⟩
/-- a tree that lies at an address -/
def LiesAt (w : World) (S : Nat → Prop) (a : Addr) (t : Tr) : Prop :=
  ∃ bl off x y z, a = ⟨bl, off, none⟩ ∧ S bl ∧ w.cell? ⟨bl, off, none⟩ = some x ∧ w.cell? ⟨bl, off + 1, none⟩ = some y ∧ w.cell? ⟨bl, off + 2, none⟩ = some z ∧ TrOn w S t x y z
theorem LiesAt.uniq {w : World} {S S' : Nat → Prop} {a : Addr} {t t' : Tr} (h : LiesAt w S a t) (h' : LiesAt w S' a t') : t = t' := by
  obtain ⟨bl, off, x, y, z, rfl, -, hx, hy, hz, ht⟩ := h
  obtain ⟨bl', off', x', y', z', e, -, hx', hy', hz', ht'⟩ := h'
  simp only [Addr.mk.injEq] at e
  obtain ⟨rfl, rfl, -⟩ := e
  rw [hx] at hx'
  rw [hy] at hy'
  rw [hz] at hz'
  cases hx'
  cases hy'
  cases hz'
  exact TrOn.uniq t t' x y z ht ht'
/-- element i of a row, as a node -/
theorem RowOn.liesAt {w : World} {S : Nat → Prop} {bl off i : Nat} {ks : List Tr} (hi : i < ks.length) (hS : S bl) (h : RowOn w S bl off ks) : LiesAt w S ⟨bl, off + i * 3, none⟩ ks[i] := by
  obtain ⟨a, b, c, ha, hb, hc, ht⟩ := RowOn.at ks off i hi h
  exact ⟨bl, off + i * 3, a, b, c, rfl, hS, ha, hb, hc, ht⟩

/-- an argument with its three cells -/
abbrev Cd := Tr × Value × Value × Value
/-- the way down nested applications, from a tree and its operands' slice: where it stands, and the arguments met, in order -/
inductive Unw (w : World) (a : Tr) (c : Value) : Tr → Value → List Cd → Prop
  | here : Unw w a c a c []
  | down {t f x : Tr} {ct cf u v r : Value} {l : List Cd} {bl off cap : Nat} : Unw w a c t ct l → t.op = 4 → t.kids = [f, x] → ct = .slice (some ⟨bl, off, none⟩) 2 cap →
      w.cell? ⟨bl, off + 2, none⟩ = some cf → w.cell? ⟨bl, off + 3, none⟩ = some u → w.cell? ⟨bl, off + 4, none⟩ = some v → w.cell? ⟨bl, off + 5, none⟩ = some r → Unw w a c f cf (l ++ [(x, u, v, r)])

/-- two operands, in their cells -/
theorem KidsOn.two {w : World} {S : Nat → Prop} {f x : Tr} {c : Value} (h : KidsOn w S [f, x] c) : ∃ bl off cap a b cf u v r, c = .slice (some ⟨bl, off, none⟩) 2 cap ∧ 2 ≤ cap ∧ cap ≤ maxLen ∧ S bl ∧ RowOn w S bl off [f, x] ∧
    w.cell? ⟨bl, off, none⟩ = some a ∧ w.cell? ⟨bl, off + 1, none⟩ = some b ∧ w.cell? ⟨bl, off + 2, none⟩ = some cf ∧ TrOn w S f a b cf ∧
    w.cell? ⟨bl, off + 3, none⟩ = some u ∧ w.cell? ⟨bl, off + 4, none⟩ = some v ∧ w.cell? ⟨bl, off + 5, none⟩ = some r ∧ TrOn w S x u v r := by
  obtain ⟨ad, cap, rfl, l1, l2, h⟩ := h
  rcases h with h | ⟨bl, off, rfl, hs, hr⟩
  · simp at h
  obtain ⟨a, b, cf, h0, h1, h2, h3⟩ := RowOn.at _ off 0 (by simp) hr
  obtain ⟨u, v, r, g0, g1, g2, g3⟩ := RowOn.at _ off 1 (by simp) hr
  simp only [Nat.zero_mul, Nat.add_zero, Nat.one_mul, List.getElem_cons_zero, List.getElem_cons_succ, Nat.add_assoc] at h0 h1 h2 h3 g0 g1 g2 g3
  exact ⟨bl, off, cap, a, b, cf, u, v, r, rfl, l1, l2, hs, hr, h0, h1, h2, h3, g0, g1, g2, g3⟩

theorem Unw.on {w : World} {S : Nat → Prop} {a t : Tr} {c ct : Value} {l : List Cd} (h : Unw w a c t ct l) (hc : KidsOn w S a.kids c) (ha : I64 a.op ∧ I64 a.num) :
    KidsOn w S t.kids ct ∧ I64 t.op ∧ I64 t.num ∧ (∀ d ∈ l, TrOn w S d.1 d.2.1 d.2.2.1 d.2.2.2) ∧ szT t + l.length ≤ szT a := by
  induction h with
  | here => exact ⟨hc, ha.1, ha.2, by simp, by simp⟩
  | @down t f x ct cf u v r l bl off cap h ho hk hct hcf hu hv hr ih =>
    obtain ⟨i1, i2, i3, i4, i5⟩ := ih
    rw [hk] at i1
    obtain ⟨bl', off', cap', p, q, cf', u', v', r', e, -, -, -, -, h0, h1, h2, h3, g0, g1, g2, g3⟩ := i1.two
    rw [hct] at e
    simp only [Value.slice.injEq, Option.some.injEq, Addr.mk.injEq] at e
    obtain ⟨⟨rfl, rfl, -⟩, -, rfl⟩ := e
    rw [hcf] at h2
    rw [hu] at g0
    rw [hv] at g1
    rw [hr] at g2
    cases h2
    cases g0
    cases g1
    cases g2
    have h4 := trOn_iff.1 h3
    refine ⟨h4.2.2.2.2, h4.2.2.1, h4.2.2.2.1, fun d hd => ?_, ?_⟩
    · simp only [List.mem_append, List.mem_singleton] at hd
      rcases hd with hd | rfl
      · exact i4 d hd
      · exact g3
    · have e1 : szT t = szL [f, x] := by rw [szT_eq, hk]
      simp only [szL, List.length_append, List.length_cons, List.length_nil] at e1 ⊢
      omega
end Go.Proofs.Ytiipcgnkfhjpeaa
/-
  PAIRS OF PLACES: what a list of pairs still to be compared, and the pairs seen, say of two trees. No program is named here.
-/
namespace Go.Proofs.Ytiipcgnkfhjpeaa
set_option linter.unusedVariables false
set_option linter.unusedSimpArgs false
open Go.RowKit

/-- the place of operand i of the tree at a place -/
def KidAt (w : World) (x : Addr) (i : Nat) (z : Addr) : Prop :=
  ∃ bl off kb ko n cap, x = ⟨bl, off, none⟩ ∧ w.cell? ⟨bl, off + 2, none⟩ = some (.slice (some ⟨kb, ko, none⟩) n cap) ∧ z = ⟨kb, ko + i * 3, none⟩
theorem KidAt.uniq {w : World} {x z z' : Addr} {i : Nat} (h : KidAt w x i z) (h' : KidAt w x i z') : z = z' := by
  obtain ⟨bl, off, kb, ko, n, cap, rfl, hc, rfl⟩ := h
  obtain ⟨bl', off', kb', ko', n', cap', e, hc', rfl⟩ := h'
  simp only [Addr.mk.injEq] at e
  obtain ⟨rfl, rfl, -⟩ := e
  rw [hc] at hc'
  simp only [Option.some.injEq, Value.slice.injEq, Addr.mk.injEq] at hc'
  obtain ⟨⟨rfl, rfl, -⟩, -⟩ := hc'
  rfl
theorem LiesAt.kid {w : World} {S : Nat → Prop} {x : Addr} {s : Tr} (h : LiesAt w S x s) (i : Nat) (hi : i < s.kids.length) : ∃ z, KidAt w x i z ∧ LiesAt w S z s.kids[i] := by
  obtain ⟨bl, off, a, b, c, rfl, hs, h0, h1, h2, ht⟩ := h
  obtain ⟨-, -, -, -, ad, cap, rfl, -, -, hr⟩ := trOn_iff.1 ht
  rcases hr with hr | ⟨kb, ko, rfl, hk, hr⟩
  · rw [hr] at hi; simp at hi
  · exact ⟨_, ⟨bl, off, kb, ko, _, _, rfl, h2, rfl⟩, RowOn.liesAt hi hk hr⟩
/-- two places and their trees -/
structure Wk where
  x : Addr
  y : Addr
  s : Tr
  t : Tr
def Wk.key (e : Wk) : Addr × Addr := (e.x, e.y)
def WkOk (w : World) (S : Nat → Prop) (Q : Prop) (e : Wk) : Prop := LiesAt w S e.x e.s ∧ LiesAt w S e.y e.t ∧ (Q → e.s = e.t)
abbrev Mp := Addr × Addr → Option Value
/-- the first operands of both are at one place, or have been seen -/
def KidsSeen (w : World) (M : Mp) (k : Addr × Addr) (m : Nat) : Prop := ∀ i, i < m → ∀ z z', KidAt w k.1 i z → KidAt w k.2 i z' → z = z' ∨ (M (z, z')).isSome = true
def Done (w : World) (S : Nat → Prop) (M : Mp) (k : Addr × Addr) : Prop := ∀ s t, LiesAt w S k.1 s → LiesAt w S k.2 t → s.op = t.op ∧ s.num = t.num ∧ s.kids.length = t.kids.length ∧ KidsSeen w M k s.kids.length
def Seen (root : Addr × Addr) (M : Mp) (k : Addr × Addr) : Prop := k = root ∨ (M k).isSome = true
def Inv (w : World) (S : Nat → Prop) (root : Addr × Addr) (M : Mp) (l : List Wk) (cur : Option (Addr × Addr)) : Prop :=
  ∀ k, Seen root M k → cur = some k ∨ (∃ e ∈ l, e.key = k) ∨ Done w S M k

theorem pput_some {κ : Type} [DecidableEq κ] {M : κ → Option Value} {a : κ} {v : Value} {k : κ} (h : (M k).isSome = true) : (pput M a v k).isSome = true := by
  unfold pput; split <;> simp_all
theorem KidsSeen.put {w : World} {M : Mp} {k a : Addr × Addr} {m : Nat} {v : Value} (h : KidsSeen w M k m) : KidsSeen w (pput M a v) k m :=
  fun i hi z z' hz hz' => (h i hi z z' hz hz').imp id pput_some
theorem Done.put {w : World} {S : Nat → Prop} {M : Mp} {k a : Addr × Addr} {v : Value} (h : Done w S M k) : Done w S (pput M a v) k :=
  fun s t hs ht => by
    obtain ⟨h1, h2, h3, h4⟩ := h s t hs ht
    exact ⟨h1, h2, h3, h4.put⟩

theorem Inv.start (w : World) (S : Nat → Prop) (e : Wk) : Inv w S e.key (fun _ => none) [e] none := by
  intro k hk
  rcases hk with rfl | hk
  · exact Or.inr (Or.inl ⟨e, by simp, rfl⟩)
  · simp at hk
theorem Inv.push {w : World} {S : Nat → Prop} {root : Addr × Addr} {M : Mp} {l : List Wk} {cur : Option (Addr × Addr)} (h : Inv w S root M l cur) (e : Wk) (v : Value) : Inv w S root (pput M e.key v) (l ++ [e]) cur := by
  intro k hk
  by_cases hke : k = e.key
  · exact Or.inr (Or.inl ⟨e, by simp, hke.symm⟩)
  · have hk' : Seen root M k := by
      rcases hk with hk | hk
      · exact Or.inl hk
      · rw [pput_other _ _ hke] at hk; exact Or.inr hk
    rcases h k hk' with h | ⟨d, hd, hdk⟩ | h
    · exact Or.inl h
    · exact Or.inr (Or.inl ⟨d, by simp [hd], hdk⟩)
    · exact Or.inr (Or.inr h.put)
theorem KidsSeen.zero (w : World) (M : Mp) (k : Addr × Addr) : KidsSeen w M k 0 := fun i hi => absurd hi (by omega)
theorem KidsSeen.succ {w : World} {M : Mp} {k : Addr × Addr} {m : Nat} {z z' : Addr} (h : KidsSeen w M k m) (hz : KidAt w k.1 m z) (hz' : KidAt w k.2 m z') (hs : z = z' ∨ (M (z, z')).isSome = true) : KidsSeen w M k (m + 1) := by
  intro i hi y y' hy hy'
  by_cases e : i = m
  · subst e
    rw [hy.uniq hz, hy'.uniq hz']
    exact hs
  · exact h i (by omega) y y' hy hy'
theorem Done.of {w : World} {S : Nat → Prop} {M : Mp} {e : Wk} {Q : Prop} (he : WkOk w S Q e) (h1 : e.s.op = e.t.op) (h2 : e.s.num = e.t.num) (h3 : e.s.kids.length = e.t.kids.length) (h4 : KidsSeen w M e.key e.s.kids.length) : Done w S M e.key := by
  intro s t hs ht
  rw [LiesAt.uniq hs he.1, LiesAt.uniq ht he.2.1]
  exact ⟨h1, h2, h3, h4⟩

end Go.Proofs.Ytiipcgnkfhjpeaa
/-
  COUNTING NODES: a path of nodes that are being counted, and the counts that are known; what they say of a tree. No program is named here.
-/
namespace Go.Proofs.Ytiipcgnkfhjpeaa
set_option linter.unusedVariables false
set_option linter.unusedSimpArgs false
open Go.RowKit

mutual
/-- how many nodes of a tree are wanted -/
def cntT (p : Tr → Bool) : Tr → Nat
  | .node o n ks => (if p (.node o n ks) then 1 else 0) + cntL p ks
/-- .. of a list of trees -/
def cntL (p : Tr → Bool) : List Tr → Nat
  | [] => 0
  | t :: ts => cntT p t + cntL p ts
end
/-- a node that is being counted: where, its tree, the operands counted, the sum so far -/
structure Fr where
  x : Addr
  t : Tr
  nx : Nat
  sm : Nat
abbrev Mc := Addr → Option Value
/-- the place of operand i, as a function -/
def kidAddr (w : World) (x : Addr) (i : Nat) : Addr :=
  match w.cell? ⟨x.block, x.off + 2, none⟩ with
  | some (.slice (some a) _ _) => ⟨a.block, a.off + i * 3, none⟩
  | _ => x
theorem KidAt.addr {w : World} {x z : Addr} {i : Nat} (h : KidAt w x i z) : kidAddr w x i = z := by
  obtain ⟨bl, off, kb, ko, n, cap, rfl, hc, rfl⟩ := h
  simp [kidAddr, hc]
def FrOk (w : World) (S : Nat → Prop) (p : Tr → Bool) (f : Fr) : Prop :=
  LiesAt w S f.x f.t ∧ f.nx ≤ f.t.kids.length ∧ f.sm = (if p f.t then 1 else 0) + cntL p (f.t.kids.take f.nx)
/-- the nodes lie in one another, the last one innermost -/
def Nest : List Fr → Prop
  | [] => True
  | f :: fs => (∀ g ∈ fs, szT g.t < szT f.t) ∧ Nest fs
theorem Nest.snoc : ∀ {l : List Fr} {f : Fr}, Nest l → (∀ g ∈ l, szT f.t < szT g.t) → Nest (l ++ [f])
  | [], f, _, _ => by simp [Nest]
  | g :: l, f, h, hf => by
    simp only [List.cons_append, Nest] at h ⊢
    refine ⟨fun d hd => ?_, Nest.snoc h.2 fun d hd => hf d (by simp [hd])⟩
    rw [List.mem_append] at hd
    rcases hd with hd | hd
    · exact h.1 d hd
    · rw [List.mem_singleton] at hd; subst hd; exact hf g (by simp)
theorem Nest.init : ∀ {l : List Fr} {f : Fr}, Nest (l ++ [f]) → Nest l ∧ ∀ g ∈ l, szT f.t < szT g.t
  | [], f, _ => by simp [Nest]
  | g :: l, f, h => by
    simp only [List.cons_append, Nest] at h ⊢
    obtain ⟨h1, h2⟩ := Nest.init h.2
    refine ⟨⟨fun d hd => h.1 d (by simp [hd]), h1⟩, fun d hd => ?_⟩
    rw [List.mem_cons] at hd
    rcases hd with rfl | hd
    · exact h.1 f (by simp)
    · exact h2 d hd
/-- what is known: a count, or that the node is on the path -/
def Known (w : World) (S : Nat → Prop) (p : Tr → Bool) (l : List Fr) (k : Addr) (v : Value) : Prop :=
  ∃ t, LiesAt w S k t ∧ (v = .int .i64 (cntT p t) ∨ (v = .int .i64 (-1) ∧ ∃ f ∈ l, f.x = k))
def TInv (w : World) (S : Nat → Prop) (p : Tr → Bool) (M : Mc) (l : List Fr) : Prop :=
  (∀ f ∈ l, FrOk w S p f) ∧ Nest l ∧ ∀ k v, M k = some v → Known w S p l k v

/-- what is still to be done -/
def wtOf (M : Mc) (k : Addr) (t : Tr) : Nat := if (M k).isSome then 1 else 3 * (1 + szT t)
def remL (w : World) (M : Mc) (x : Addr) : Nat → List Tr → Nat
  | _, [] => 0
  | i, k :: ks => wtOf M (kidAddr w x i) k + remL w M x (i + 1) ks
def remF (w : World) (M : Mc) (f : Fr) : Nat := remL w M f.x f.nx (f.t.kids.drop f.nx)
def remP (w : World) (M : Mc) (l : List Fr) : Nat := (l.map (remF w M)).sum + l.length
theorem wtOf_put (M : Mc) (a k : Addr) (v : Value) (t : Tr) : wtOf (pput M a v) k t ≤ wtOf M k t := by
  unfold wtOf
  by_cases h : (M k).isSome = true
  · rw [if_pos h, if_pos (pput_some h)]; exact Nat.le_refl _
  · rw [if_neg h]; split <;> omega
theorem remL_put (w : World) (M : Mc) (a x : Addr) (v : Value) : ∀ (l : List Tr) (i : Nat), remL w (pput M a v) x i l ≤ remL w M x i l
  | [], _ => by simp [remL]
  | k :: ks, i => by
    have := remL_put w M a x v ks (i + 1)
    have := wtOf_put M a (kidAddr w x i) v k
    simp only [remL]
    omega
theorem remP_put (w : World) (M : Mc) (a : Addr) (v : Value) : ∀ (l : List Fr), (l.map (remF w (pput M a v))).sum ≤ (l.map (remF w M)).sum
  | [] => by simp
  | f :: l => by
    have := remP_put w M a v l
    have := remL_put w M a f.x v (f.t.kids.drop f.nx) f.nx
    simp only [List.map_cons, List.sum_cons, remF] at this ⊢
    omega
theorem remL_le (w : World) (M : Mc) (x : Addr) : ∀ (l : List Tr) (i : Nat), remL w M x i l ≤ 3 * szL l
  | [], _ => by simp [remL, szL]
  | k :: ks, i => by
    have := remL_le w M x ks (i + 1)
    have : wtOf M (kidAddr w x i) k ≤ 3 * (1 + szT k) := by unfold wtOf; split <;> omega
    simp only [remL, szL]
    omega
theorem remF_at (w : World) (M : Mc) (f : Fr) (h : f.nx < f.t.kids.length) : remF w M f = wtOf M (kidAddr w f.x f.nx) f.t.kids[f.nx] + remL w M f.x (f.nx + 1) (f.t.kids.drop (f.nx + 1)) := by
  unfold remF
  rw [List.drop_eq_getElem_cons h]
  rfl
theorem remP_snoc (w : World) (M : Mc) (l : List Fr) (f : Fr) : remP w M (l ++ [f]) = (l.map (remF w M)).sum + l.length + (remF w M f + 1) := by
  simp [remP]; omega

/-- an operand that is new: it goes onto the path -/
theorem TInv.push {w : World} {S : Nat → Prop} {p : Tr → Bool} {M : Mc} {l : List Fr} {f : Fr} (h : TInv w S p M (l ++ [f])) (hf : f.nx < f.t.kids.length) (hv : M (kidAddr w f.x f.nx) = none) :
    TInv w S p (pput M (kidAddr w f.x f.nx) (.int .i64 (-1))) (l ++ [f] ++ [⟨kidAddr w f.x f.nx, f.t.kids[f.nx], 0, if p f.t.kids[f.nx] then 1 else 0⟩]) ∧
      remP w (pput M (kidAddr w f.x f.nx) (.int .i64 (-1))) (l ++ [f] ++ [⟨kidAddr w f.x f.nx, f.t.kids[f.nx], 0, if p f.t.kids[f.nx] then 1 else 0⟩]) < remP w M (l ++ [f]) := by
  obtain ⟨h1, h2, h3⟩ := h
  obtain ⟨f1, f2, f3⟩ := h1 f (by simp)
  obtain ⟨n1, n2⟩ := h2.init
  obtain ⟨z, hz, hl⟩ := f1.kid f.nx hf
  have hza := hz.addr
  have hlt := szT_lt_szL f.t.kids f.nx hf
  rw [← szT_eq] at hlt
  refine ⟨⟨fun g hg => ?_, ?_, fun k u hk => ?_⟩, ?_⟩
  · rw [List.mem_append] at hg
    rcases hg with hg | hg
    · exact h1 g hg
    · rw [List.mem_singleton] at hg
      subst hg
      exact ⟨by rw [hza]; exact hl, Nat.zero_le _, by simp [cntL]⟩
  · refine Nest.snoc h2 fun g hg => ?_
    rw [List.mem_append] at hg
    rcases hg with hg | hg
    · have := n2 g hg
      show szT f.t.kids[f.nx] < _
      omega
    · rw [List.mem_singleton] at hg; subst hg; exact hlt
  · by_cases e : k = kidAddr w f.x f.nx
    · subst e
      rw [pput_same] at hk
      cases hk
      exact ⟨_, by rw [hza]; exact hl, Or.inr ⟨rfl, _, List.mem_append_right _ (List.mem_singleton.2 rfl), rfl⟩⟩
    · rw [pput_other _ _ e] at hk
      obtain ⟨t, ht, hv'⟩ := h3 k u hk
      exact ⟨t, ht, hv'.imp id fun ⟨e1, g, hg, hgx⟩ => ⟨e1, g, List.mem_append_left _ hg, hgx⟩⟩
  · rw [remP_snoc, remP_snoc, List.map_append, List.sum_append]
    have a1 := remP_put w M (kidAddr w f.x f.nx) (.int .i64 (-1)) l
    have a2 := remF_at w M f hf
    have a3 := remF_at w (pput M (kidAddr w f.x f.nx) (.int .i64 (-1))) f hf
    have a4 := remL_put w M (kidAddr w f.x f.nx) f.x (.int .i64 (-1)) (f.t.kids.drop (f.nx + 1)) (f.nx + 1)
    have b1 : wtOf M (kidAddr w f.x f.nx) f.t.kids[f.nx] = 3 * (1 + szT f.t.kids[f.nx]) := by unfold wtOf; rw [hv]; simp
    have b2 : wtOf (pput M (kidAddr w f.x f.nx) (.int .i64 (-1))) (kidAddr w f.x f.nx) f.t.kids[f.nx] = 1 := by unfold wtOf; rw [pput_same]; rfl
    have a5 : remF w (pput M (kidAddr w f.x f.nx) (.int .i64 (-1))) ⟨kidAddr w f.x f.nx, f.t.kids[f.nx], 0, if p f.t.kids[f.nx] then 1 else 0⟩ ≤ 3 * szT f.t.kids[f.nx] := by
      have := remL_le w (pput M (kidAddr w f.x f.nx) (.int .i64 (-1))) (kidAddr w f.x f.nx) (f.t.kids[f.nx]).kids 0
      rw [← szT_eq] at this
      simpa [remF] using this
    rw [b1] at a2
    rw [b2] at a3
    simp only [List.map_cons, List.map_nil, List.sum_cons, List.sum_nil, List.length_append, List.length_cons, List.length_nil]
    omega
theorem TInv.start {w : World} {S : Nat → Prop} {x : Addr} {t : Tr} (h : LiesAt w S x t) (p : Tr → Bool) : TInv w S p (fun _ => none) [⟨x, t, 0, if p t then 1 else 0⟩] := by
  refine ⟨fun f hf => ?_, by simp [Nest], fun k v hk => by simp at hk⟩
  rw [List.mem_singleton] at hf
  subst hf
  exact ⟨h, Nat.zero_le _, by simp [cntL]⟩
/-- how long the path is, how great a sum -/
theorem Nest.len : ∀ {l : List Fr} {n : Nat}, Nest l → (∀ f ∈ l, szT f.t < n) → l.length ≤ n
  | [], n, _, _ => by simp
  | f :: l, n, h, hb => by
    have h1 := hb f (by simp)
    have := Nest.len h.2 h.1
    simp only [List.length_cons]
    omega
/-- the first node -/
def HeadIs (a : Tr) (l : List Fr) : Prop := ∃ g r, l = g :: r ∧ g.t = a
theorem HeadIs.le {a : Tr} {l : List Fr} (h : HeadIs a l) (hn : Nest l) : (∀ f ∈ l, szT f.t ≤ szT a) ∧ l.length ≤ szT a + 1 := by
  obtain ⟨g, r, rfl, rfl⟩ := h
  refine ⟨fun f hf => ?_, ?_⟩
  · rw [List.mem_cons] at hf
    rcases hf with rfl | hf
    · exact Nat.le_refl _
    · exact Nat.le_of_lt (hn.1 f hf)
  · have := Nest.len hn.2 hn.1
    simp only [List.length_cons]
    omega
theorem HeadIs.snoc {a : Tr} {l : List Fr} (h : HeadIs a l) (f : Fr) : HeadIs a (l ++ [f]) := by
  obtain ⟨g, r, rfl, h⟩ := h
  exact ⟨g, r ++ [f], by simp, h⟩
theorem HeadIs.init {a : Tr} {l : List Fr} {f : Fr} (h : HeadIs a (l ++ [f])) (hl : l ≠ []) : HeadIs a l := by
  obtain ⟨g, r, e, h⟩ := h
  cases l with
  | nil => exact absurd rfl hl
  | cons d l =>
    simp only [List.cons_append, List.cons.injEq] at e
    exact ⟨d, l, rfl, by rw [e.1]; exact h⟩
end Go.Proofs.Ytiipcgnkfhjpeaa
/-
  REPLACING VARIABLES, plainly: the tree, its size, its variables. No program is named here.
-/
namespace Go.Proofs.Ytiipcgnkfhjpeaa
set_option linter.unusedVariables false
set_option linter.unusedSimpArgs false
open Go.RowKit

mutual
def AllT (P : Tr → Prop) : Tr → Prop
  | .node o n ks => P (.node o n ks) ∧ AllL P ks
def AllL (P : Tr → Prop) : List Tr → Prop
  | [] => True
  | t :: ts => AllT P t ∧ AllL P ts
end
theorem allT_iff (P : Tr → Prop) (t : Tr) : AllT P t ↔ P t ∧ AllL P t.kids := by cases t; simp [AllT]
theorem allL_iff (P : Tr → Prop) : ∀ l : List Tr, AllL P l ↔ ∀ t ∈ l, AllT P t
  | [] => by simp [AllL]
  | t :: ts => by simp [AllL, allL_iff P ts]
theorem AllT.kid {P : Tr → Prop} {t : Tr} (h : AllT P t) (i : Nat) (hi : i < t.kids.length) : AllT P t.kids[i] := (allL_iff P _).1 ((allT_iff P t).1 h).2 _ (List.getElem_mem hi)
end Go.Proofs.Ytiipcgnkfhjpeaa
/-
  WHAT AddExpr AND BuildGraph HAND BACK.
-/
namespace Go.Proofs.Ytiipcgnkfhjpeaa
set_option linter.unusedVariables false
set_option linter.unusedSimpArgs false
open Go.RowKit

theorem OwnC.zero {w : World} {lo b : Nat} {S : Nat → Prop} (h : w.heap[b]? = some (.cells #[] 40)) (hb : lo ≤ b) : OwnC w lo S [] (.slice (some ⟨b, 0, none⟩) 0 0) :=
  ⟨fun i h => absurd h (by simp), [], fun _ => 0, ⟨rfl, Or.inr ⟨b, 0, #[], rfl, hb, h, Nat.le_refl _, by simp [maxLen], rfl, rfl⟩⟩, fun j hj => absurd hj (by simp), fun i j hi _ => absurd hi (by simp)⟩
end Go.Proofs.Ytiipcgnkfhjpeaa
/-
  ELEMENTS OF ROWS OUT OF A SET OF BLOCKS.
-/
namespace Go.Proofs.Ytiipcgnkfhjpeaa
set_option linter.unusedVariables false
set_option linter.unusedSimpArgs false
open Go.RowKit

end Go.Proofs.Ytiipcgnkfhjpeaa
/-
  THE LAWS' OWN COPY OF AN ARGUMENT (toExpr, toExprS): the same trees, in new memory; nothing that was there is changed.
-/
namespace Go.Proofs.Ytiipcgnkfhjpeaa
set_option linter.unusedVariables false
set_option linter.unusedSimpArgs false
open Go.RowKit

/-- blocks from lo on, below hi -/
def Btw (lo hi : Nat) : Nat → Prop := fun k => lo ≤ k ∧ k < hi
end Go.Proofs.Ytiipcgnkfhjpeaa
/-
  TREES WHOSE BLOCKS ARE ALL DISTINCT: a footprint, the list of the blocks of a tree's rows; what a write into them leaves.
-/
namespace Go.Proofs.Ytiipcgnkfhjpeaa
set_option linter.unusedVariables false
set_option linter.unusedSimpArgs false
open Go.RowKit

mutual
/-- the three cells of a tree, its rows in the blocks fp -/
def TrFp (w : World) (T : TypeId) : Tr → List Nat → Value → Value → Value → Prop
  | .node op n ks, fp, a, b, c => a = .int .i64 op ∧ b = .int .i64 n ∧ I64 op ∧ I64 n ∧
      ∃ ad cap, c = .slice ad ks.length cap ∧ ks.length ≤ cap ∧ cap ≤ maxLen ∧
        ((ks = [] ∧ fp = []) ∨ ∃ bl off C fps, ad = some ⟨bl, off, none⟩ ∧ w.heap[bl]? = some (.cells C T) ∧ fp = bl :: fps.flatten ∧ RowFp w T bl off ks fps)
/-- the trees of a row, each with its own blocks -/
def RowFp (w : World) (T : TypeId) (bl off : Nat) : List Tr → List (List Nat) → Prop
  | [], fps => fps = []
  | t :: ts, fps => ∃ f fs, fps = f :: fs ∧ (∃ a b c, w.cell? ⟨bl, off, none⟩ = some a ∧ w.cell? ⟨bl, off + 1, none⟩ = some b ∧ w.cell? ⟨bl, off + 2, none⟩ = some c ∧ TrFp w T t f a b c) ∧ RowFp w T bl (off + 3) ts fs
end

/-- a slice value that holds these trees, in the blocks fp -/
def KidsFp (w : World) (T : TypeId) (ks : List Tr) (fp : List Nat) (c : Value) : Prop :=
  ∃ ad cap, c = .slice ad ks.length cap ∧ ks.length ≤ cap ∧ cap ≤ maxLen ∧
    ((ks = [] ∧ fp = []) ∨ ∃ bl off C fps, ad = some ⟨bl, off, none⟩ ∧ w.heap[bl]? = some (.cells C T) ∧ fp = bl :: fps.flatten ∧ RowFp w T bl off ks fps)

mutual
theorem TrFp.keep {w w' : World} {T : TypeId} : ∀ (t : Tr) (fp : List Nat) (a b c : Value), (∀ k ∈ fp, w'.heap[k]? = w.heap[k]?) → TrFp w T t fp a b c → TrFp w' T t fp a b c
  | .node op n ks, fp, a, b, c, hw, h => by
    simp only [TrFp] at h ⊢
    obtain ⟨h1, h2, h3, h4, ad, cap, e, l1, l2, h5⟩ := h
    refine ⟨h1, h2, h3, h4, ad, cap, e, l1, l2, ?_⟩
    rcases h5 with h5 | ⟨bl, off, C, fps, e, hb, rfl, r⟩
    · exact Or.inl h5
    · exact Or.inr ⟨bl, off, C, fps, e, (hw bl (by simp)).trans hb, rfl, RowFp.keep bl off ks fps (hw bl (by simp)) (fun f hf k hk => hw k (by simp only [List.mem_cons, List.mem_flatten]; exact Or.inr ⟨f, hf, hk⟩)) r⟩
theorem RowFp.keep {w w' : World} {T : TypeId} (bl off : Nat) : ∀ (ks : List Tr) (fps : List (List Nat)), w'.heap[bl]? = w.heap[bl]? → (∀ f ∈ fps, ∀ k ∈ f, w'.heap[k]? = w.heap[k]?) → RowFp w T bl off ks fps → RowFp w' T bl off ks fps
  | [], fps, _, _, h => by simpa [RowFp] using h
  | t :: ts, fps, hb, hw, h => by
    simp only [RowFp] at h ⊢
    obtain ⟨f, fs, rfl, ⟨a, b, c, ha, hbb, hc, ht⟩, hr⟩ := h
    refine ⟨f, fs, rfl, ⟨a, b, c, ?_, ?_, ?_, TrFp.keep t f a b c (hw f (by simp)) ht⟩, RowFp.keep bl (off + 3) ts fs hb (fun g hg => hw g (by simp [hg])) hr⟩
    · rw [World.cell?_of_block (w := w) hb]; exact ha
    · rw [World.cell?_of_block (w := w) hb]; exact hbb
    · rw [World.cell?_of_block (w := w) hb]; exact hc
end
theorem KidsFp.keep {w w' : World} {T : TypeId} {ks : List Tr} {fp : List Nat} {c : Value} (h : KidsFp w T ks fp c) (hw : ∀ k ∈ fp, w'.heap[k]? = w.heap[k]?) : KidsFp w' T ks fp c := by
  obtain ⟨ad, cap, e, l1, l2, h5⟩ := h
  refine ⟨ad, cap, e, l1, l2, ?_⟩
  rcases h5 with h5 | ⟨bl, off, C, fps, e, hb, rfl, r⟩
  · exact Or.inl h5
  · exact Or.inr ⟨bl, off, C, fps, e, (hw bl (by simp)).trans hb, rfl, RowFp.keep bl off ks fps (hw bl (by simp)) (fun f hf k hk => hw k (by simp only [List.mem_cons, List.mem_flatten]; exact Or.inr ⟨f, hf, hk⟩)) r⟩

/-- the blocks lie in the heap -/
theorem cellsOf_lt {w : World} {b : Nat} {o : Obj} (h : w.heap[b]? = some o) : b < w.heap.size := (Array.getElem?_eq_some_iff.1 h).1
mutual
theorem TrFp.on {w : World} {T : TypeId} {S : Nat → Prop} : ∀ (t : Tr) (fp : List Nat) (a b c : Value), (∀ k ∈ fp, S k) → TrFp w T t fp a b c → TrOn w S t a b c
  | .node op n ks, fp, a, b, c, hS, h => by
    simp only [TrFp] at h
    simp only [TrOn]
    obtain ⟨h1, h2, h3, h4, ad, cap, e, l1, l2, h5⟩ := h
    refine ⟨h1, h2, h3, h4, ad, cap, e, l1, l2, ?_⟩
    rcases h5 with ⟨h5, _⟩ | ⟨bl, off, C, fps, e, hb, rfl, r⟩
    · exact Or.inl h5
    · exact Or.inr ⟨bl, off, e, hS bl (by simp), RowFp.on bl off ks fps (fun f hf k hk => hS k (by simp only [List.mem_cons, List.mem_flatten]; exact Or.inr ⟨f, hf, hk⟩)) r⟩
theorem RowFp.on {w : World} {T : TypeId} {S : Nat → Prop} (bl off : Nat) : ∀ (ks : List Tr) (fps : List (List Nat)), (∀ f ∈ fps, ∀ k ∈ f, S k) → RowFp w T bl off ks fps → RowOn w S bl off ks
  | [], fps, _, h => by simp [RowOn]
  | t :: ts, fps, hS, h => by
    simp only [RowFp] at h
    simp only [RowOn]
    obtain ⟨f, fs, rfl, ⟨a, b, c, ha, hbb, hc, ht⟩, hr⟩ := h
    exact ⟨⟨a, b, c, ha, hbb, hc, TrFp.on t f a b c (hS f (by simp)) ht⟩, RowFp.on bl (off + 3) ts fs (fun g hg => hS g (by simp [hg])) hr⟩
end
theorem KidsFp.on {w : World} {T : TypeId} {S : Nat → Prop} {ks : List Tr} {fp : List Nat} {c : Value} (h : KidsFp w T ks fp c) (hS : ∀ k ∈ fp, S k) : KidsOn w S ks c := by
  obtain ⟨ad, cap, e, l1, l2, h5⟩ := h
  refine ⟨ad, cap, e, l1, l2, ?_⟩
  rcases h5 with ⟨h5, _⟩ | ⟨bl, off, C, fps, e, hb, rfl, r⟩
  · exact Or.inl h5
  · exact Or.inr ⟨bl, off, e, hS bl (by simp), RowFp.on bl off ks fps (fun f hf k hk => hS k (by simp only [List.mem_cons, List.mem_flatten]; exact Or.inr ⟨f, hf, hk⟩)) r⟩

/-- element i of a row -/
theorem RowFp.at {w : World} {T : TypeId} {bl : Nat} : ∀ (ks : List Tr) (fps : List (List Nat)) (off i : Nat) (hi : i < ks.length), RowFp w T bl off ks fps →
    fps.length = ks.length ∧ ∃ f, fps[i]? = some f ∧ ∃ a b c, w.cell? ⟨bl, off + i * 3, none⟩ = some a ∧ w.cell? ⟨bl, off + i * 3 + 1, none⟩ = some b ∧ w.cell? ⟨bl, off + i * 3 + 2, none⟩ = some c ∧ TrFp w T ks[i] f a b c
  | [], _, _, _, hi, _ => by simp at hi
  | t :: ts, fps, off, 0, _, h => by
    simp only [RowFp] at h
    obtain ⟨f, fs, rfl, h1, h2⟩ := h
    refine ⟨?_, f, rfl, by simpa using h1⟩
    cases ts with
    | nil => simp only [RowFp] at h2; simp [h2]
    | cons u us => simp [(RowFp.at (u :: us) fs (off + 3) 0 (by simp) h2).1]
  | t :: ts, fps, off, i + 1, hi, h => by
    simp only [RowFp] at h
    obtain ⟨f, fs, rfl, h1, h2⟩ := h
    have := RowFp.at ts fs (off + 3) i (by simpa using hi) h2
    have e : off + 3 + i * 3 = off + (i + 1) * 3 := by omega
    rw [e] at this
    exact ⟨by simp [this.1], by simpa using this.2⟩

/-- a row from its elements -/
theorem RowFp.of {w : World} {T : TypeId} {bl : Nat} : ∀ (ks : List Tr) (fps : List (List Nat)) (off : Nat), fps.length = ks.length →
    (∀ i (hi : i < ks.length), ∃ f, fps[i]? = some f ∧ ∃ a b c, w.cell? ⟨bl, off + i * 3, none⟩ = some a ∧ w.cell? ⟨bl, off + i * 3 + 1, none⟩ = some b ∧ w.cell? ⟨bl, off + i * 3 + 2, none⟩ = some c ∧ TrFp w T ks[i] f a b c) → RowFp w T bl off ks fps
  | [], fps, _, hl, _ => by simpa [RowFp] using hl
  | t :: ts, [], _, hl, _ => by simp at hl
  | t :: ts, f :: fs, off, hl, h => by
    simp only [RowFp]
    refine ⟨f, fs, rfl, ?_, RowFp.of ts fs (off + 3) (by simpa using hl) fun i hi => ?_⟩
    · obtain ⟨f', hf, a, b, c, h1⟩ := h 0 (by simp)
      simp only [List.getElem?_cons_zero, Option.some.injEq] at hf
      subst hf
      simp only [Nat.zero_mul, Nat.add_zero, List.getElem_cons_zero] at h1
      exact ⟨a, b, c, h1⟩
    · have := h (i + 1) (by simpa using hi)
      have e : off + (i + 1) * 3 = off + 3 + i * 3 := by omega
      rw [e] at this
      simpa using this

end Go.Proofs.Ytiipcgnkfhjpeaa
/-
  THE NUMBERS THAT MARKED TREES BEAR, element by element.
-/
namespace Go.Proofs.Ytiipcgnkfhjpeaa
set_option linter.unusedVariables false
set_option linter.unusedSimpArgs false
open Go.RowKit

end Go.Proofs.Ytiipcgnkfhjpeaa
/-
  THE LAWS' OWN MARKING OF TREES (markExprS, markExpr): a list of trees whose blocks are all distinct bears its numbers in order afterwards; no other block is changed.
-/
namespace Go.Proofs.Ytiipcgnkfhjpeaa
set_option linter.unusedVariables false
set_option linter.unusedSimpArgs false
open Go.RowKit


mutual
theorem TrFp.lt {w : World} {T : TypeId} : ∀ (t : Tr) (fp : List Nat) (a b c : Value), TrFp w T t fp a b c → ∀ k ∈ fp, k < w.heap.size
  | .node op n ks, fp, a, b, c, h, k, hk => by
    simp only [TrFp] at h
    obtain ⟨-, -, -, -, ad, cap, e, l1, l2, h5⟩ := h
    rcases h5 with ⟨-, rfl⟩ | ⟨bl, off, C, fps, e, hb, rfl, r⟩
    · simp at hk
    · simp only [List.mem_cons, List.mem_flatten] at hk
      rcases hk with rfl | ⟨f, hf, hk⟩
      · exact cellsOf_lt hb
      · exact RowFp.lt bl off ks fps r f hf k hk
theorem RowFp.lt {w : World} {T : TypeId} (bl off : Nat) : ∀ (ks : List Tr) (fps : List (List Nat)), RowFp w T bl off ks fps → ∀ f ∈ fps, ∀ k ∈ f, k < w.heap.size
  | [], fps, h, f, hf, k, hk => by simp only [RowFp] at h; subst h; simp at hf
  | t :: ts, fps, h, f, hf, k, hk => by
    simp only [RowFp] at h
    obtain ⟨g, gs, rfl, ⟨a, b, c, -, -, -, ht⟩, hr⟩ := h
    simp only [List.mem_cons] at hf
    rcases hf with rfl | hf
    · exact TrFp.lt t f a b c ht k hk
    · exact RowFp.lt bl (off + 3) ts gs hr f hf k hk
end
theorem KidsFp.lt {w : World} {T : TypeId} {ks : List Tr} {fp : List Nat} {c : Value} (h : KidsFp w T ks fp c) : ∀ k ∈ fp, k < w.heap.size := by
  obtain ⟨ad, cap, e, l1, l2, h5⟩ := h
  intro k hk
  rcases h5 with ⟨-, rfl⟩ | ⟨bl, off, C, fps, e, hb, rfl, r⟩
  · simp at hk
  · simp only [List.mem_cons, List.mem_flatten] at hk
    rcases hk with rfl | ⟨f, hf, hk⟩
    · exact cellsOf_lt hb
    · exact RowFp.lt bl off ks fps r f hf k hk

end Go.Proofs.Ytiipcgnkfhjpeaa
/-
  THE LAWS' OWN COPY OF AN ARGUMENT (toExpr, toExprS), ITS BLOCKS ALL DISTINCT: the same trees, in new memory; nothing that was there is changed.
-/
namespace Go.Proofs.Ytiipcgnkfhjpeaa
set_option linter.unusedVariables false
set_option linter.unusedSimpArgs false
open Go.RowKit

/-- trees whose blocks are distinct, from lo on -/
def Fresh (w : World) (lo : Nat) (ks : List Tr) (c : Value) : Prop := ∃ fp, KidsFp w 91 ks fp c ∧ fp.Nodup ∧ ∀ k ∈ fp, lo ≤ k
theorem Fresh.on {w : World} {lo : Nat} {ks : List Tr} {c : Value} (h : Fresh w lo ks c) : KidsOn w (Btw lo w.heap.size) ks c := by
  obtain ⟨fp, h1, h2, h3⟩ := h
  exact h1.on fun k hk => ⟨h3 k hk, h1.lt k hk⟩
theorem Fresh.mono {w w' : World} {lo lo' : Nat} {ks : List Tr} {c : Value} (h : Fresh w lo ks c) (hl : lo' ≤ lo) (hw : ∀ k, lo ≤ k → k < w.heap.size → w'.heap[k]? = w.heap[k]?) : Fresh w' lo' ks c := by
  obtain ⟨fp, h1, h2, h3⟩ := h
  exact ⟨fp, h1.keep fun k hk => hw k (h3 k hk) (h1.lt k hk), h2, fun k hk => Nat.le_trans hl (h3 k hk)⟩
theorem Fresh.next {w w' : World} {lo : Nat} {ks : List Tr} {c : Value} (h : Fresh w lo ks c) (hb : Below w.heap.size w w') : Fresh w' lo ks c := h.mono (Nat.le_refl _) fun k _ hk => hb.block k hk
theorem Fresh.setCell {w : World} {lo : Nat} {ks : List Tr} {c : Value} (h : Fresh w lo ks c) {a : Addr} (ha : a.block < lo) (u : Value) : Fresh (w.setCell a u) lo ks c :=
  h.mono (Nat.le_refl _) fun k hk _ => Below.heap_setCell _ _ _ _ (by omega)

end Go.Proofs.Ytiipcgnkfhjpeaa
/-
  TREES WHOSE BLOCKS ARE DISTINCT LIE IN PLAIN BLOCKS.
-/
namespace Go.Proofs.Ytiipcgnkfhjpeaa
set_option linter.unusedVariables false
set_option linter.unusedSimpArgs false
open Go.RowKit

end Go.Proofs.Ytiipcgnkfhjpeaa
/-
  SMALL FACTS ON ROWS OF EXPRESSIONS' CELLS: the element type's row of the table; a new block's cells.
-/
namespace Go.Proofs.Ytiipcgnkfhjpeaa
set_option linter.unusedVariables false
set_option linter.unusedSimpArgs false
open Go.RowKit

end Go.Proofs.Ytiipcgnkfhjpeaa
/-
  LISTS OF TREES THAT A CALL BUILDS BY append: the row that it owns, and the trees elsewhere; append as one step of a region that draws its order, with where the new row lies.
-/
namespace Go.Proofs.Ytiipcgnkfhjpeaa
set_option linter.unusedVariables false
set_option linter.unusedSimpArgs false
open Go.RowKit

/-- a list of trees that a call has built by append: the row is its own, the trees lie elsewhere, all from lo on -/
def OwnTr (w : World) (lo : Nat) (ts : List Tr) (v : Value) : Prop :=
  ∃ xs, w.ownsRow lo 91 3 v ts.length xs ∧ ∀ j (hj : j < ts.length), ∃ a b c, xs[j * 3]? = some a ∧ xs[j * 3 + 1]? = some b ∧ xs[j * 3 + 2]? = some c ∧ TrOn w (fun k => lo ≤ k ∧ k < w.heap.size ∧ some k ≠ v.ownBlock) ts[j] a b c

theorem OwnTr.nil (w : World) (lo : Nat) : OwnTr w lo [] (.slice none 0 0) := ⟨[], World.ownsRow_nil w lo _ _, fun j hj => absurd hj (by simp)⟩

/-- it stays where all blocks from lo on stay -/
theorem OwnTr.next {w w' : World} {lo : Nat} {ts : List Tr} {v : Value} (h : OwnTr w lo ts v) (hsz : w.heap.size ≤ w'.heap.size) (hb : ∀ k, lo ≤ k → k < w.heap.size → w'.heap[k]? = w.heap[k]?) : OwnTr w' lo ts v := by
  obtain ⟨xs, h1, h2⟩ := h
  refine ⟨xs, ⟨h1.1, ?_⟩, fun j hj => ?_⟩
  · rcases h1.2 with h | ⟨g, cap, cur, rfl, hg, hh, r⟩
    · exact Or.inl h
    · exact Or.inr ⟨g, cap, cur, rfl, hg, (hb g hg (Array.getElem?_eq_some_iff.1 hh).1).trans hh, r⟩
  · obtain ⟨a, b, c, e1, e2, e3, e4⟩ := h2 j hj
    exact ⟨a, b, c, e1, e2, e3, e4.mono (fun k hk => ⟨hk.1, Nat.lt_of_lt_of_le hk.2.1 hsz, hk.2.2⟩) (fun k hk => hb k hk.1 hk.2.1)⟩

/-- one tree more -/
theorem OwnTr.step {w w' : World} {lo : Nat} {ts : List Tr} {v v' : Value} {t : Tr} {a b c : Value} (h : OwnTr w lo ts v) (xs : List Value) (hx : w.ownsRow lo 91 3 v ts.length xs) (hlo : lo ≤ w.heap.size)
    (ht : ∀ j (hj : j < ts.length), ∃ a b c, xs[j * 3]? = some a ∧ xs[j * 3 + 1]? = some b ∧ xs[j * 3 + 2]? = some c ∧ TrOn w (fun k => lo ≤ k ∧ k < w.heap.size ∧ some k ≠ v.ownBlock) ts[j] a b c)
    (hn : TrOn w (fun k => lo ≤ k ∧ k < w.heap.size ∧ some k ≠ v.ownBlock) t a b c)
    (hown : w'.ownsRow lo 91 3 v' (ts.length + 1) (xs ++ [a, b, c])) (hg : w.grownBy w' v.ownBlock) (hw : v'.ownBlock = v.ownBlock ∨ ∃ g, v'.ownBlock = some g ∧ w.heap.size ≤ g) : OwnTr w' lo (ts ++ [t]) v' := by
  have hlen := hx.1
  have keep : ∀ (s : Tr) (x y z : Value), TrOn w (fun k => lo ≤ k ∧ k < w.heap.size ∧ some k ≠ v.ownBlock) s x y z → TrOn w' (fun k => lo ≤ k ∧ k < w'.heap.size ∧ some k ≠ v'.ownBlock) s x y z := by
    intro s x y z hs
    refine hs.mono (fun k hk => ⟨hk.1, Nat.lt_of_lt_of_le hk.2.1 hg.size, ?_⟩) (fun k hk => hg.block k hk.2.1 hk.2.2)
    rcases hw with hw | ⟨g, hw, hge⟩
    · rw [hw]; exact hk.2.2
    · rw [hw]; intro e; simp only [Option.some.injEq] at e; have := hk.2.1; omega
  refine ⟨xs ++ [a, b, c], by simpa using hown, fun j hj => ?_⟩
  by_cases hjl : j < ts.length
  · obtain ⟨x, y, z, e1, e2, e3, e4⟩ := ht j hjl
    have l1 : j * 3 + 2 < xs.length := by omega
    refine ⟨x, y, z, ?_, ?_, ?_, ?_⟩
    · rw [List.getElem?_append_left (by omega)]; exact e1
    · rw [List.getElem?_append_left (by omega)]; exact e2
    · rw [List.getElem?_append_left (by omega)]; exact e3
    · rw [List.getElem_append_left hjl]; exact keep _ _ _ _ e4
  · have hj' : j = ts.length := by simp at hj; omega
    subst hj'
    refine ⟨a, b, c, ?_, ?_, ?_, ?_⟩
    · rw [List.getElem?_append_right (by omega)]; simp [hlen]
    · rw [List.getElem?_append_right (by omega)]; simp [hlen]
    · rw [List.getElem?_append_right (by omega)]; simp [hlen]
    · simpa using keep _ _ _ _ hn

/-- the list, as trees in memory -/
theorem OwnTr.kids {w : World} {lo : Nat} {ts : List Tr} {v : Value} (h : OwnTr w lo ts v) : KidsOn w (Btw lo w.heap.size) ts v := by
  obtain ⟨xs, h1, h2⟩ := h
  rcases h1.2 with ⟨rfl, h0⟩ | ⟨g, cap, cur, rfl, hg, hh, hn, hc, hs, htk⟩
  · obtain rfl : ts = [] := List.eq_nil_of_length_eq_zero h0
    exact ⟨none, 0, rfl, Nat.le_refl _, by simp [maxLen], Or.inl rfl⟩
  · refine ⟨_, cap, rfl, hn, hc, Or.inr ⟨g, 0, rfl, ⟨hg, (Array.getElem?_eq_some_iff.1 hh).1⟩, RowOn.of _ _ fun i hi => ?_⟩⟩
    obtain ⟨a, b, c, e1, e2, e3, e4⟩ := h2 i hi
    refine ⟨a, b, c, ?_, ?_, ?_, e4.mono (fun k hk => ⟨hk.1, hk.2.1⟩) (fun _ _ => rfl)⟩
    · rw [Nat.zero_add, h1.cellAt (i * 3) (by omega)]; exact e1
    · rw [Nat.zero_add, h1.cellAt (i * 3 + 1) (by omega)]; exact e2
    · rw [Nat.zero_add, h1.cellAt (i * 3 + 2) (by omega)]; exact e3
end Go.Proofs.Ytiipcgnkfhjpeaa
