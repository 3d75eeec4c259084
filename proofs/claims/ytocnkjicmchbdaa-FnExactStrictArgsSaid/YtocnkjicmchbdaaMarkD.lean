/-
  THE LAWS' OWN MARKING OF A PROGRAM (markDefS): the count; no block but its own is changed.
-/
import Derived.Test.YtocnkjicmchbdaaDefsF
import Derived.Test.YtocnkjicmchbdaaMarkS
namespace Go.Proofs.Ytocnkjicmchbdaa
set_option linter.unusedVariables false
set_option linter.unusedSimpArgs false
open Go.RowKit

/-- the nodes below the bodies -/
def sumZ (ds : List Df) : Nat := (ds.map fun d => szL d.2.kids).sum
theorem sumZ_take (ds : List Df) (j : Nat) (h : j < ds.length) : sumZ (ds.take (j + 1)) = sumZ (ds.take j) + szL ds[j].2.kids := by
  unfold sumZ; rw [List.take_succ_eq_append_getElem h, List.map_append, List.sum_append]; simp only [List.map_cons, List.map_nil, List.sum_cons, List.sum_nil, Nat.add_zero]
theorem sumZ_le (ds : List Df) (j : Nat) : sumZ (ds.take j) ≤ sumZ ds := by
  have h : sumZ (ds.take j) + sumZ (ds.drop j) = sumZ ds := by
    unfold sumZ
    rw [← List.sum_append, ← List.map_append, List.take_append_drop]
  omega
theorem sumZ_szL (ds : List Df) : sumZ ds + ds.length ≤ szL (bodies ds) := by
  induction ds with
  | nil => simp [sumZ, bodies]
  | cons d ds ih =>
    have h1 : sumZ (d :: ds) = szL d.2.kids + sumZ ds := by simp [sumZ]
    have h2 : szL (bodies (d :: ds)) = 1 + szT d.2 + szL (bodies ds) := by
      show szL (d.2 :: bodies ds) = _
      simp [szL]
    have h3 := szT_eq d.2
    rw [h1, h2, List.length_cons]
    omega
/-- what holds when j functions have been marked -/
structure MD (ds : List Df) (bl : Nat) (fps : List (List Nat)) (g : Nat → Value) (w : World) (j : Nat) (wr : World) : Prop where
  row : ∃ f, wr.rowIs bl 84 (ds.length * 4) f ∧ ∀ i, i < ds.length → f (i * 4 + 3) = g i
  kids : ∀ i (hi : i < ds.length) (hi2 : i < fps.length), j ≤ i → KidsFp wr 31 ds[i].2.kids fps[i] (g i)
  but : ButL (bl :: fps.flatten) w wr
theorem MD.step {ds : List Df} {bl : Nat} {fps : List (List Nat)} {g : Nat → Value} {w wr w1 : World} {j : Nat} (h : MD ds bl fps g w j wr) (hj : j < ds.length) (hj2 : j < fps.length) (hn : (bl :: fps.flatten).Nodup) (x y z : Value)
    (hb : ButL fps[j] (((wr.setCell ⟨bl, j * 4, none⟩ x).setCell ⟨bl, j * 4 + 1, none⟩ y).setCell ⟨bl, j * 4 + 2, none⟩ z) w1) : MD ds bl fps g w (j + 1) w1 := by
  obtain ⟨f, hr, hf⟩ := h.row
  rw [List.nodup_cons] at hn
  have hlt := hr.lt
  have hnot : ∀ i (hi : i < fps.length), bl ∉ fps[i] := fun i hi hm => hn.1 (List.mem_flatten.2 ⟨_, List.getElem_mem hi, hm⟩)
  have hss : (((wr.setCell ⟨bl, j * 4, none⟩ x).setCell ⟨bl, j * 4 + 1, none⟩ y).setCell ⟨bl, j * 4 + 2, none⟩ z).heap.size = wr.heap.size := by rw [size_setCell, size_setCell, size_setCell]
  have hbl : ∀ k, k ≠ bl → (((wr.setCell ⟨bl, j * 4, none⟩ x).setCell ⟨bl, j * 4 + 1, none⟩ y).setCell ⟨bl, j * 4 + 2, none⟩ z).heap[k]? = wr.heap[k]? := fun k hk => by
    rw [Below.heap_setCell _ _ _ _ hk, Below.heap_setCell _ _ _ _ hk, Below.heap_setCell _ _ _ _ hk]
  have hr3 := ((hr.set (j * 4) x).set (j * 4 + 1) y).set (j * 4 + 2) z
  refine ⟨⟨_, hr3.of_block (hb.block bl (by rw [hss]; exact hlt) (hnot j hj2)), fun i hi => ?_⟩, fun i hi hi2 hij => ?_, ?_⟩
  · simp only [if_neg (show ¬ (i * 4 + 3 = j * 4 + 2) by omega), if_neg (show ¬ (i * 4 + 3 = j * 4 + 1) by omega), if_neg (show ¬ (i * 4 + 3 = j * 4) by omega)]
    exact hf i hi
  · have hk := h.kids i hi hi2 (by omega)
    refine hk.keep fun k hm => ?_
    have hkl := hk.lt k hm
    exact (hb.block k (by rw [hss]; exact hkl) (flatten_disj hn.2 (List.getElem?_eq_getElem hi2) (List.getElem?_eq_getElem hj2) (by omega) k hm)).trans (hbl k (fun e => hnot i hi2 (e ▸ hm)))
  · have h2 : ButL (bl :: fps.flatten) wr w1 := by
      refine ⟨hb.os, hb.tape, hb.output, by have := hb.size; rw [hss] at this; exact this, fun k hk hm => ?_⟩
      simp only [List.mem_cons, not_or] at hm
      exact (hb.block k (by rw [hss]; exact hk) (fun hx => hm.2 (List.mem_flatten.2 ⟨_, List.getElem_mem hj2, hx⟩))).trans (hbl k hm.1)
    exact h.but.trans h2

set_option maxHeartbeats 800000 in
theorem markDefs_calls (ds : List Df) (fp : List Nat) (v : Value) (k : Int) (w : World) (hc : DefsFp w ds fp v) (hn : fp.Nodup) (h0 : 0 ≤ k) (h1 : k ≤ 576460752303423488) (hs : szL (bodies ds) ≤ 1048576) :
    Calls Try.prog 22 #[v, .int .i64 k] w fun e w' => e = .returned (.int .i64 (k + (3 * ds.length + 2 * sumZ ds : Nat))) ∧ ButL fp w w' := by
  obtain ⟨bl, f, fps, rfl, hl, hr, rfl, hfl, hi⟩ := hc
  have hsz := sumZ_szL ds
  have HS : Hid (sumZ ds + ds.length ≤ 1048576) := by rw [Hid]; omega
  have HFL := mkHid hfl
  have HND := mkHid hn
  have HST : Hid (MD ds bl fps (fun i => f (i * 4 + 3)) w 0 w) := ⟨⟨f, hr, fun _ _ => rfl⟩, fun i h1 h2 _ => (trFp_iff.1 (hi i h1 h2).2.2).2.2.2.2, ButL.refl _ _⟩
  obtain ⟨g, hg⟩ : ∃ g : Nat → Value, g = fun i => f (i * 4 + 3) := ⟨_, rfl⟩
  rw [← hg] at HST
  have hm : ds.length ≤ 1048576 := hl
  clear hr hfl hi hn hsz hs hl hg
  go_enter Try.func22, Try.ntmps22
  go_wp2_with fail
  go_loopw [1, 5] (fun qv i wr => ∃ (j : Nat) (q : Int), j ≤ ds.length ∧ i = .int .i64 j ∧ qv = .int .i64 q ∧ Hid (q = k + ((3 * j + 2 * sumZ (ds.take j) : Nat) : Int)) ∧ MD ds bl fps g w j wr) (fun _ i _ => ds.length - (intOf i).toNat)
  case atStart => exact ⟨0, k, Nat.zero_le _, rfl, rfl, by simp [Hid, sumZ], HST.out⟩
  case round =>
    obtain ⟨j, q, hj, rfl, rfl, HQ, hmd⟩ := hrel
    have HMD := mkHid hmd
    by_cases hlt : j < ds.length
    · have e1 := sumZ_take ds j hlt
      have e2 := sumZ_le ds (j + 1)
      have hj2 : j < fps.length := by rw [HFL.out]; exact hlt
      have hq := HQ.out
      have hss := HS.out
      have hq0 : 0 ≤ q := by omega
      have hq1 : q + 3 + 2 * (szL ds[j].2.kids : Int) ≤ 1152921504606846976 := by omega
      have HE : Hid (q + 3 + 2 * (szL ds[j].2.kids : Int) = k + ((3 * (j + 1) + 2 * sumZ (ds.take (j + 1)) : Nat) : Int)) := by rw [Hid]; omega
      obtain ⟨f1, hrow, hf1⟩ := hmd.row
      have c0 := hrow.cell (i := j * 4) (by omega)
      have f0 := hrow.frozen (j * 4)
      have r1 := hrow.set (j * 4) (.int .i64 q)
      have c1 := r1.cell (i := j * 4 + 1) (by omega)
      have g1 := r1.frozen (j * 4 + 1)
      have r2 := r1.set (j * 4 + 1) (.int .i64 (q + 1))
      have c2 := r2.cell (i := j * 4 + 2) (by omega)
      have g2 := r2.frozen (j * 4 + 2)
      have r3 := r2.set (j * 4 + 2) (.int .i64 (q + 1 + 1))
      have c3 := r3.cell (i := j * 4 + 3) (by omega)
      simp only [if_neg (show ¬ (j * 4 + 3 = j * 4 + 2) by omega), if_neg (show ¬ (j * 4 + 3 = j * 4 + 1) by omega), if_neg (show ¬ (j * 4 + 3 = j * 4) by omega), if_neg (show ¬ (j * 4 + 2 = j * 4 + 1) by omega), if_neg (show ¬ (j * 4 + 2 = j * 4) by omega), if_neg (show ¬ (j * 4 + 1 = j * 4) by omega), hf1 j hlt] at c1 c2 c3
      have hkf := hmd.kids j hlt hj2 (Nat.le_refl _)
      have hbl : ∀ x ∈ fps[j], (((wr.setCell ⟨bl, j * 4, none⟩ (.int .i64 q)).setCell ⟨bl, j * 4 + 1, none⟩ (.int .i64 (q + 1))).setCell ⟨bl, j * 4 + 2, none⟩ (.int .i64 (q + 1 + 1))).heap[x]? = wr.heap[x]? := fun x hx => by
        have hne : x ≠ bl := fun e => by
          have hn := HND.out
          rw [List.nodup_cons] at hn
          exact hn.1 (List.mem_flatten.2 ⟨_, List.getElem_mem hj2, e ▸ hx⟩)
        rw [Below.heap_setCell _ _ _ _ hne, Below.heap_setCell _ _ _ _ hne, Below.heap_setCell _ _ _ _ hne]
      have hnd : fps[j].Nodup := by
        have hn := HND.out
        rw [List.nodup_cons] at hn
        exact flatten_one hn.2 (List.getElem?_eq_getElem hj2)
      have HC := mkHid (markS_calls ds[j].2.kids fps[j] (g j) (q + 1 + 1 + 1) _ (hkf.keep hbl) hnd (by omega) (by omega))
      have HJI : (j : Int) < (ds.length : Int) := by omega
      have HNX : Hid (∀ w1, ButL fps[j] (((wr.setCell ⟨bl, j * 4, none⟩ (.int .i64 q)).setCell ⟨bl, j * 4 + 1, none⟩ (.int .i64 (q + 1))).setCell ⟨bl, j * 4 + 2, none⟩ (.int .i64 (q + 1 + 1))) w1 → MD ds bl fps g w (j + 1) w1) := fun w1 hb => HMD.out.step hlt hj2 HND.out _ _ _ hb
      clear hmd hf1 hrow r1 r2 r3 e1 e2 hq hss hbl hnd hkf
      go_wp2_with fail
      refine HC.out.mono ?_
      rintro e w1 ⟨rfl, -, hb1⟩
      have HM1 := mkHid (HNX.out w1 hb1)
      clear hb1
      go_wp2_with fail
      go_roundw
      case rel => exact ⟨j + 1, _, by omega, by go_num, rfl, by rw [← HE.out, Hid]; omega, HM1.out⟩
      case measure => simp [intOf]; omega
    · have hke : j = ds.length := by omega
      have HV : Hid (q = k + ((3 * ds.length + 2 * sumZ ds : Nat) : Int)) := by
        have h := HQ.out
        rw [hke, List.take_length] at h
        exact h
      clear hke hmd HQ
      go_wp2_with fail
      go_ret
      exact ⟨ret_int HV.out, HMD.out.but⟩
end Go.Proofs.Ytocnkjicmchbdaa
