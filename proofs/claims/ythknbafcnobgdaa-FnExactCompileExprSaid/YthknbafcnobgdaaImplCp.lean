/-
  THE PROGRAM's CompileExpr: foldExpr at code, with its join.
-/
import Derived.Test.YthknbafcnobgdaaConcat
import Derived.Test.YthknbafcnobgdaaSpecCp
import Derived.Test.YthknbafcnobgdaaSubImpl
import Derived.Deep.RegionHeld3
namespace Go.Proofs.Ythknbafcnobgdaa
set_option linter.unusedVariables false
set_option linter.unusedSimpArgs false
open Go.RowKit

theorem news_blk2 {W : World} {B : Nat} {x y : Value} {T : TypeId} (h : W.heap[B]? = some (.cells #[x, y] T)) (j : Nat) (u : Value) (hu : [x, y][j]? = some u) : W.cell? ((⟨B, 0, none⟩ : Addr).add j) = some u := by
  rw [WideShapes.add_plain, Nat.zero_add]
  exact cell_of_blk h j u (by simpa using hu)

/-- the code of a tree, in a row of its own -/
def CodeNew (t : Tr) (w : World) (e : Ending) (w' : World) : Prop := ∃ v, e = .returned v ∧ StkP w' w.heap.size (cdT t) v ∧ Below w.heap.size w w'
set_option maxRecDepth 100000 in
set_option maxHeartbeats 1600000 in
theorem join_calls (t : Tr) (c kv : Value) (w : World) (hc : ∃ ad cap, c = .slice ad t.kids.length cap) (hk : RowSl w (t.kids.map cdT) kv) (hz : 1 + szT t ≤ 1048576) : Calls Try.prog 55 #[.agg #[.int .i64 t.op, .int .i64 t.num, c], kv] w (CodeNew t w) := by
  obtain ⟨ad, cap, rfl⟩ := hc
  have hcl : (cdL t.kids).length + 1 ≤ 1048576 := by rw [cdL_length, ← szT_eq]; omega
  obtain ⟨wb, hwb⟩ : ∃ wb : World, wb = w.alloc (.cells #[.int .i64 t.op, .int .i64 t.num, .slice ad t.kids.length cap] 37) := ⟨_, rfl⟩
  have HWB := mkHid hwb
  have HBW : Hid (Below w.heap.size w wb) := by rw [hwb]; exact box_below _ _
  have HBX : Hid (wb.heap[w.heap.size]? = some (.cells #[.int .i64 t.op, .int .i64 t.num, .slice ad t.kids.length cap] 37)) := by rw [hwb]; exact Deep.blk_alloc_new _ _
  have HLT : Hid (w.heap.size < wb.heap.size) := (Array.getElem?_eq_some_iff.1 HBX.out).1
  have HCQ : Hid (∀ V, Below wb.heap.size wb V → Calls Try.prog 56 #[kv] V fun e w' => ∃ v, e = .returned v ∧ StkP w' wb.heap.size (cdL t.kids) v ∧ Below wb.heap.size wb w' ∧ ∀ k, k < V.heap.size → w'.heap[k]? = V.heap[k]?) := fun V hV => by
    refine (concat_calls (t.kids.map cdT) kv V ((hk.next HBW.out).next hV) (fun i h => ?_) (by rw [← cdL_flatten]; omega) (by have h1 := cdL_length t.kids; have h2 := szL_sum t.kids; rw [List.length_map]; omega)).mono ?_
    · rw [List.getElem_map, cdT_eq]; simp
    · rintro e w' ⟨v, rfl, h1, h2⟩
      rw [← cdL_flatten] at h1
      exact ⟨v, rfl, h1.lower hV.size, hV.trans (h2.mono hV.size), fun k hk => h2.block k hk⟩
  obtain ⟨adk, nk, capk, rfl⟩ : ∃ adk nk capk, kv = .slice adk nk capk := ⟨_, _, _, hk.choose_spec.choose_spec.1⟩
  obtain ⟨V1, hV1⟩ : ∃ V : World, V = (wb.alloc (.cells #[.int .i64 t.op, .int .i64 t.num] 66)).drew := ⟨_, rfl⟩
  obtain ⟨V2, hV2⟩ : ∃ V : World, V = wb.drew.alloc (.cells #[.int .i64 t.op, .int .i64 t.num] 66) := ⟨_, rfl⟩
  have HA1 : Hid (Below wb.heap.size wb V1) := by rw [hV1]; exact (box_below _ _).drew
  have HA2 : Hid (Below wb.heap.size wb V2) := by rw [hV2]; exact ((Below.refl _ _).drew).alloc (Nat.le_refl _) _
  have HVS1 : Hid (wb.heap.size < V1.heap.size) := by rw [hV1]; show _ < (wb.alloc _).heap.size; rw [Deep.nblk_alloc]; omega
  have HVS2 : Hid (wb.heap.size < V2.heap.size) := by rw [hV2, Hid, Deep.nblk_alloc]; exact Nat.lt_succ_self _
  have HVN1 : Hid (V1.heap[wb.heap.size]? = some (.cells #[.int .i64 t.op, .int .i64 t.num] 66)) := by rw [hV1]; exact Deep.blk_alloc_new wb _
  have HVN2 : Hid (V2.heap[wb.heap.size]? = some (.cells #[.int .i64 t.op, .int .i64 t.num] 66)) := by rw [hV2]; exact Deep.blk_alloc_new wb.drew _
  have HV1 : Hid ((wb.alloc (.cells #[.int .i64 t.op, .int .i64 t.num] 66)).drew = V1) := hV1.symm
  have HV2 : Hid (wb.drew.alloc (.cells #[.int .i64 t.op, .int .i64 t.num] 66) = V2) := hV2.symm
  have HB0 : Hid (Below wb.heap.size wb wb) := Below.refl _ _
  have HBD : Hid (Below wb.heap.size wb wb.drew) := (Below.refl _ _).drew
  have x0 := cell_of_blk HBX.out 0 _ rfl
  have x1 := cell_of_blk HBX.out 1 _ rfl
  have xd0 : wb.drew.cell? ⟨w.heap.size, 0, none⟩ = some (.int .i64 t.op) := x0
  have xd1 : wb.drew.cell? ⟨w.heap.size, 1, none⟩ = some (.int .i64 t.num) := x1
  have n0 := old_cell x0 (.cells #[.int .i64 t.op, .int .i64 t.num] 66)
  have n1 := old_cell x1 (.cells #[.int .i64 t.op, .int .i64 t.num] 66)
  have m0 : (wb.drew.alloc (.cells #[.int .i64 t.op, .int .i64 t.num] 66)).cell? ⟨w.heap.size, 0, none⟩ = some (.int .i64 t.op) := old_cell (w := wb.drew) x0 (.cells #[.int .i64 t.op, .int .i64 t.num] 66)
  have m1 : (wb.drew.alloc (.cells #[.int .i64 t.op, .int .i64 t.num] 66)).cell? ⟨w.heap.size, 1, none⟩ = some (.int .i64 t.num) := old_cell (w := wb.drew) x1 (.cells #[.int .i64 t.op, .int .i64 t.num] 66)
  have nd0 : (wb.alloc (.cells #[.int .i64 t.op, .int .i64 t.num] 66)).drew.cell? ⟨w.heap.size, 0, none⟩ = some (.int .i64 t.op) := n0
  have nd1 : (wb.alloc (.cells #[.int .i64 t.op, .int .i64 t.num] 66)).drew.cell? ⟨w.heap.size, 1, none⟩ = some (.int .i64 t.num) := n1
  have v10 : V1.cell? ⟨w.heap.size, 0, none⟩ = some (.int .i64 t.op) := by rw [hV1]; exact n0
  have v11 : V1.cell? ⟨w.heap.size, 1, none⟩ = some (.int .i64 t.num) := by rw [hV1]; exact n1
  have v20 : V2.cell? ⟨w.heap.size, 0, none⟩ = some (.int .i64 t.op) := by rw [hV2]; exact m0
  have v21 : V2.cell? ⟨w.heap.size, 1, none⟩ = some (.int .i64 t.num) := by rw [hV2]; exact m1
  obtain ⟨iE, zE, hII⟩ := infoK2
  have HII := mkHid hII
  clear hwb hV1 hV2 hk hII
  go_enter Try.func55, Try.ntmps55
  go_wp2_with fail
  rw [← HWB.out]
  go_region_held3 (fun w' => w'.cell? ⟨w.heap.size, 0, none⟩ = some (.int .i64 t.op) ∧ w'.cell? ⟨w.heap.size, 1, none⟩ = some (.int .i64 t.num))
    (first
      | go_keep
      | with_reducible exact ⟨x0, x1⟩
      | with_reducible exact ⟨xd0, xd1⟩
      | with_reducible exact ⟨n0, n1⟩
      | with_reducible exact ⟨nd0, nd1⟩
      | with_reducible exact ⟨m0, m1⟩
      | with_reducible exact ⟨v10, v11⟩
      | with_reducible exact ⟨v20, v21⟩
      | with_reducible exact ⟨e0, e1⟩
      | with_reducible exact ⟨d0, d1⟩
      | with_reducible exact ⟨g0, g1⟩)
    (first
      | (rw [HV1.out]; go_at_call 56; refine (HCQ.out _ HA1.out).mono ?_; rintro e w3 ⟨v3, rfl, hst3, hb3, hkp3⟩; have HS3 := mkHid hst3; have HB3 := mkHid hb3; have HN3 : Hid (w3.heap[wb.heap.size]? = some (.cells #[.int .i64 t.op, .int .i64 t.num] 66)) := (hkp3 wb.heap.size HVS1.out).trans HVN1.out; have d0 := (HB3.out.cell (p := ⟨w.heap.size, 0, none⟩) HLT.out).trans x0; have d1 := (HB3.out.cell (p := ⟨w.heap.size, 1, none⟩) HLT.out).trans x1; have g0 := old_cell d0 (.cells #[.int .i64 t.op, .int .i64 t.num] 66); have g1 := old_cell d1 (.cells #[.int .i64 t.op, .int .i64 t.num] 66); obtain ⟨ad3, cap3, rfl⟩ := hst3.form; clear hst3 hb3 hkp3)
      | (rw [HV2.out]; go_at_call 56; refine (HCQ.out _ HA2.out).mono ?_; rintro e w3 ⟨v3, rfl, hst3, hb3, hkp3⟩; have HS3 := mkHid hst3; have HB3 := mkHid hb3; have HN3 : Hid (w3.heap[wb.heap.size]? = some (.cells #[.int .i64 t.op, .int .i64 t.num] 66)) := (hkp3 wb.heap.size HVS2.out).trans HVN2.out; have d0 := (HB3.out.cell (p := ⟨w.heap.size, 0, none⟩) HLT.out).trans x0; have d1 := (HB3.out.cell (p := ⟨w.heap.size, 1, none⟩) HLT.out).trans x1; have g0 := old_cell d0 (.cells #[.int .i64 t.op, .int .i64 t.num] 66); have g1 := old_cell d1 (.cells #[.int .i64 t.op, .int .i64 t.num] 66); obtain ⟨ad3, cap3, rfl⟩ := hst3.form; clear hst3 hb3 hkp3)
      | (go_at_call 56; refine (HCQ.out _ HBD.out).mono ?_; rintro e w3 ⟨v3, rfl, hst3, hb3, hkp3⟩; have HS3 := mkHid hst3; have HB3 := mkHid hb3; have HNA := mkHid True.intro; have d0 := (HB3.out.cell (p := ⟨w.heap.size, 0, none⟩) HLT.out).trans x0; have d1 := (HB3.out.cell (p := ⟨w.heap.size, 1, none⟩) HLT.out).trans x1; have g0 := old_cell d0 (.cells #[.int .i64 t.op, .int .i64 t.num] 66); have g1 := old_cell d1 (.cells #[.int .i64 t.op, .int .i64 t.num] 66); obtain ⟨ad3, cap3, rfl⟩ := hst3.form; clear hst3 hb3 hkp3)
      | (go_at_call 56; refine (HCQ.out _ HB0.out).mono ?_; rintro e w3 ⟨v3, rfl, hst3, hb3, hkp3⟩; have HS3 := mkHid hst3; have HB3 := mkHid hb3; have HNA := mkHid True.intro; have d0 := (HB3.out.cell (p := ⟨w.heap.size, 0, none⟩) HLT.out).trans x0; have d1 := (HB3.out.cell (p := ⟨w.heap.size, 1, none⟩) HLT.out).trans x1; have g0 := old_cell d0 (.cells #[.int .i64 t.op, .int .i64 t.num] 66); have g1 := old_cell d1 (.cells #[.int .i64 t.op, .int .i64 t.num] 66); obtain ⟨ad3, cap3, rfl⟩ := hst3.form; clear hst3 hb3 hkp3)
      | (have tk := HNA; clear tk; refine step_append_where (w := w3.alloc (.cells #[.int .i64 t.op, .int .i64 t.num] 66)) (by rfl) (.tmp 6) (.tmp 12) 25 (by rfl) wb.heap.size 66 iE zE 2 16 Try.underlying25 HII.out.1 HII.out.2.1 HII.out.2.2.1 HII.out.2.2.2.1 HII.out.2.2.2.2 (by decide) (.slice ad3 (cdL t.kids).length cap3) (cdL t.kids).length (insV (cdL t.kids)) (by rfl) (HS3.out.alloc _) ⟨w3.heap.size, 0, none⟩ 1 1 [.int .i64 t.op, .int .i64 t.num] (by rfl) (by rfl) (news2 w3 _ _ _) (by simp [Value.oneCell']) (by unfold maxLen; omega) (by omega) (by rw [Deep.nblk_alloc]; have := HB3.out.size; omega) (by omega) ?_; intro v4 w4 hown4 hg4 hw4; have HS4 : Hid (StkP w4 wb.heap.size (cdT t) v4) := (by rw [cdT_eq]; unfold StkP Hid; rw [insV_append, List.length_append]; exact hown4); have HB4 := mkHid (stkP_grown (HS3.out.alloc _) (HB3.out.alloc HB3.out.size (.cells #[.int .i64 t.op, .int .i64 t.num] 66)) (Nat.le_refl _) hg4); have e0 := (HB4.out.cell (p := ⟨w.heap.size, 0, none⟩) HLT.out).trans x0; have e1 := (HB4.out.cell (p := ⟨w.heap.size, 1, none⟩) HLT.out).trans x1; clear hown4 hg4 hw4)
      | (have tk := HN3; clear tk; refine step_append_where (w := w3) (by rfl) (.tmp 6) (.tmp 12) 25 (by rfl) wb.heap.size 66 iE zE 2 16 Try.underlying25 HII.out.1 HII.out.2.1 HII.out.2.2.1 HII.out.2.2.2.1 HII.out.2.2.2.2 (by decide) (.slice ad3 (cdL t.kids).length cap3) (cdL t.kids).length (insV (cdL t.kids)) (by rfl) HS3.out ⟨wb.heap.size, 0, none⟩ 1 1 [.int .i64 t.op, .int .i64 t.num] (by rfl) (by rfl) (news_blk2 HN3.out) (by simp [Value.oneCell']) (by unfold maxLen; omega) (by omega) HB3.out.size (by omega) ?_; intro v4 w4 hown4 hg4 hw4; have HS4 : Hid (StkP w4 wb.heap.size (cdT t) v4) := (by rw [cdT_eq]; unfold StkP Hid; rw [insV_append, List.length_append]; exact hown4); have HB4 := mkHid (stkP_grown HS3.out HB3.out (Nat.le_refl _) hg4); have e0 := (HB4.out.cell (p := ⟨w.heap.size, 0, none⟩) HLT.out).trans x0; have e1 := (HB4.out.cell (p := ⟨w.heap.size, 1, none⟩) HLT.out).trans x1; clear hown4 hg4 hw4))
  all_goals
    obtain ⟨ad4, n4, cap4, rfl⟩ : ∃ ad n cap, v4 = .slice ad n cap := ⟨_, _, _, HS4.out.form.choose_spec.choose_spec⟩
    go_wp2_with fail
    go_ret
    exact ⟨_, rfl, HS4.out.lower HBW.out.size, HBW.out.trans (HB4.out.mono HBW.out.size)⟩
end Go.Proofs.Ythknbafcnobgdaa
