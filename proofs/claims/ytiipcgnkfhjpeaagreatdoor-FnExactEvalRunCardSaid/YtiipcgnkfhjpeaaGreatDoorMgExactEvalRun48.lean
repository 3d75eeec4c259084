/-
  THE PROGRAM's EvalRun AND StepRun.
-/
import Derived.Test.YtiipcgnkfhjpeaaGreatDoorMgExactEvalRun47
import Derived.Test.YtiipcgnkfhjpeaaGreatDoorMgExactEvalRun1
import Derived.Test.YtiipcgnkfhjpeaaGreatDoorMgExactEvalRun28
import Derived.Test.YtiipcgnkfhjpeaaGreatDoorMgExactEvalRun4
import Derived.Deep.DeepCutAuto
import Derived.Test.YtiipcgnkfhjpeaaGreatDoorMgExactEvalRun37
import Derived.Test.YtiipcgnkfhjpeaaGreatDoorMgExactEvalRun34
namespace Go.Proofs.YtiipcgnkfhjpeaaGreatDoor
set_option linter.unusedVariables false
set_option linter.unusedSimpArgs false
open Go.RowKit



/-- a run by value in memory of its own, and a code -/
def OwnRC (r : Rn × Nat) (w : World) (e : Ending) (w' : World) : Prop := ∃ gv, e = .returned (.tuple #[.agg (rnC gv r.1), .int .i64 (r.2 : Int)]) ∧ OwnC w' w.heap.size (fun k => w.heap.size ≤ k) r.1.g gv ∧ Below w.heap.size w w'
theorem tick_code {ds : List Df} {limit : Int} {tidy : Bool} (x : Rn) : (x.tick ds limit tidy).2 ≤ 3 := by
  unfold Rn.tick
  split
  · exact Nat.zero_le _
  · unfold Rn.tic2
    split
    · split
      · exact Nat.zero_le _
      · rw [Rn.adv_code]; exact Rn.code_le _
    · rw [Rn.adv_code]; exact Rn.code_le _
theorem runE_code {ds : List Df} {limit : Int} {tidy : Bool} : ∀ (n : Nat) (x : Rn), (runE ds limit tidy n x).2 ≤ 3
  | 0, x => by unfold runE; split <;> simp
  | n + 1, x => by
    unfold runE
    split
    · simp
    · split
      · exact runE_code n _
      · exact tick_code _
theorem eRun_noI {ds : List Df} {t : Tr} {f limit : Int} {tidy : Bool} (h : ¬ (closedB ds t = true ∧ fuelO f = true ∧ btB limit 400 = true)) : eRun ds t f limit tidy = (rnZ, 4) := by unfold eRun; rw [if_neg h]
set_option maxRecDepth 100000 in
set_option maxHeartbeats 6400000 in
theorem implEvalR_calls (aF aS aL : Addr) (ds : List Df) (t : Tr) (p c : Value) (f limit : Int) (tidy : Bool) (w : World) (hE : Errs aF aS aL w) (hp : DInP w ds p) (hk : In w t.kids c) (ht : I64 t.op ∧ I64 t.num) :
    Calls Tryz.prog 19 #[p, .agg #[.int .i64 t.op, .int .i64 t.num, c], .int .i64 f, .int .i64 limit, .bool tidy] w (OwnRC (eRun ds t f limit tidy) w) := by
  have HK : Hid (In w t.kids c) := hk
  have HP : Hid (DInP w ds p) := hp
  have HT := mkHid ht
  have HE := mkHid hE
  obtain ⟨ad, cap, rfl, -, -, -⟩ := hk
  obtain ⟨adp, capp, rfl, -, -, -⟩ := id hp
  obtain ⟨W, hW⟩ : ∃ W, W = (w.alloc (.cells #[.int .i64 t.op, .int .i64 t.num, .slice ad t.kids.length cap] 48)).alloc (.cells #[.slice none 0 0, .int .i64 0, .int .i64 0, .int .i64 0, .int .i64 0, .int .i64 0, .int .i64 0] 30) := ⟨_, rfl⟩
  have HB_W : Hid (Below w.heap.size w W) := by rw [hW]; exact (box_below _ _).alloc (by rw [Deep.nblk_alloc]; omega) _
  have HY_W : Hid (W.heap[w.heap.size + 1]? = some (.cells #[.slice none 0 0, .int .i64 0, .int .i64 0, .int .i64 0, .int .i64 0, .int .i64 0, .int .i64 0] 30)) := by
    have h := Deep.blk_alloc_new (w.alloc (.cells #[.int .i64 t.op, .int .i64 t.num, .slice ad t.kids.length cap] 48)) (.cells #[.slice none 0 0, .int .i64 0, .int .i64 0, .int .i64 0, .int .i64 0, .int .i64 0, .int .i64 0] 30)
    rw [Deep.nblk_alloc] at h
    rw [hW]; exact h
  have HL_W : Hid (w.heap.size + 2 ≤ W.heap.size) := by rw [hW, Hid, Deep.nblk_alloc, Deep.nblk_alloc]; exact Nat.le_refl _
  have HPW : Hid (DInP W ds (.slice adp ds.length capp)) := DefsOn.nextP HP.out HB_W.out
  have HEW := mkHid (HE.out.next HB_W.out)
  clear ht hp hE
  go_enter Tryz.func19, Tryz.ntmps19
  go_wp2_with fail
  rw [← hW]
  clear hW
  refine (startRunner_calls ds t _ _ f tidy W HPW.out.inP (HK.out.next HB_W.out) HT.out).mono ?_
  rintro e w1 (⟨hc, hf, Q, S, A, rfl, hrw, hb1⟩ | ⟨hn, rfl, hb1⟩)
  · have HS1 : Hid (Sn W w1) := hb1
    have HW1 := mkHid hrw
    have HY1 := mkHid ((hb1.block _ (by have := HL_W.out; omega)).trans HY_W.out)
    have HB1 : Hid (Below w.heap.size w w1) := HB_W.out.trans (hb1.mono HB_W.out.size)
    have HENV : Hid (Env aF aS aL ds (.slice adp ds.length capp) W) := ⟨HEW.out, HPW.out, (start_ok hc).1⟩
    have HC := mkHid hc
    have HF := mkHid hf
    have hf2 := hf
    unfold fuelB at hf2
    rw [decide_eq_true_eq] at hf2
    obtain ⟨fu, rfl⟩ : ∃ fu : Nat, f = (fu : Int) := ⟨f.toNat, by omega⟩
    have hfu : fu ≤ 300 := by omega
    clear hc hf hf2 hb1 hrw
    go_wp2_with fail
    refine (isBetween_calls limit 400 w1).mono ?_
    rintro e w2 ⟨rfl, rfl⟩
    cases hl : btB limit 400 with
    | false =>
      have HV : Hid (eRun ds t (fu : Int) limit tidy = (rnZ, 4)) := eRun_noI (by rw [hl]; simp)
      clear hl
      have y0 := cell_of_blk HY1.out 0 _ rfl
      have y1 := cell_of_blk HY1.out 1 _ rfl
      have y2 := cell_of_blk HY1.out 2 _ rfl
      have y3 := cell_of_blk HY1.out 3 _ rfl
      have y4 := cell_of_blk HY1.out 4 _ rfl
      have y5 := cell_of_blk HY1.out 5 _ rfl
      have y6 := cell_of_blk HY1.out 6 _ rfl
      have fy := frz_of_blk HY1.out
      go_wp2_with fail
      refine bodyPost_ret (v := .tuple #[.agg (rnC (.slice none 0 0) rnZ), .int .i64 4]) (by simp [results, Tryz.results19, go_sem, y0, y1, y2, y3, y4, y5, y6, fy, rnC, rnZ]) rfl ?_
      rw [HV.out]
      exact ⟨_, rfl, OwnC.nil _ _ _, st7_below HB1.out (by omega)⟩
    | true =>
      have HV : Hid (eRun ds t (fu : Int) limit tidy = runE ds limit tidy fu (startX (addT [] t []).1 (addT [] t []).2)) := by
        unfold Hid eRun
        rw [if_pos ⟨HC.out, HF.out, hl⟩, Int.toNat_natCast]
      have HRR : Hid (RunRel ds limit tidy (startX (addT [] t []).1 (addT [] t []).2) fu 0 (startX (addT [] t []).1 (addT [] t []).2)) := RunRel.start (start_run HC.out)
      clear hl
      go_wp2_with fail
      refine (evaluate_env fu limit HENV.out HS1.out HW1.out hfu HRR.out).mono ?_
      obtain ⟨r, hrr⟩ : ∃ r, r = runE ds limit tidy fu (startX (addT [] t []).1 (addT [] t []).2) := ⟨_, rfl⟩
      have HRC : Hid (r.2 ≤ 3) := by rw [hrr]; exact runE_code _ _
      rw [← hrr] at HV ⊢
      clear hrr
      rintro e w3 ⟨rfl, hw3, hs3⟩
      have HWR := mkHid hw3
      have HBR : Hid (Below w.heap.size w w3) := HB_W.out.trans (Below.mono hs3 HB_W.out.size)
      have HYR := mkHid ((Below.block hs3 _ (by have := HL_W.out; omega)).trans HY_W.out)
      have HER := mkHid (HEW.out.next hs3)
      obtain ⟨z, hz⟩ : ∃ z, z = r.1 := ⟨_, rfl⟩
      obtain ⟨cd, hcd⟩ : ∃ cd, cd = r.2 := ⟨_, rfl⟩
      have HRE : Hid (r = (z, cd)) := by rw [hz, hcd]; rfl
      rw [← hz] at HWR
      rw [← hcd] at HRC ⊢
      obtain ⟨ev, hev⟩ : ∃ ev, ev = errV aF aS aL cd := ⟨_, rfl⟩
      have HEV := mkHid hev
      rw [← hev]
      clear hw3 hs3 hz hcd hev
      go_wp2_with fail
      refine (run_calls _ _ _ _ _ _ _ w3 HWR.out).mono ?_
      rintro e w8 ⟨ad8, cap8, rfl, ho8, hb8⟩
      have HO8 := mkHid ho8
      have HB8 : Hid (Below w.heap.size w w8) := HBR.out.trans (hb8.mono HBR.out.size)
      have HY8 := mkHid ((hb8.block _ (cellsOf_ltI HYR.out)).trans HYR.out)
      have HE8 := mkHid (HER.out.next hb8)
      clear ho8 hb8
      unfold rnC
      go_wp2_with fail
      rw [HEV.out]
      refine (codeOf_calls aF aS aL cd HRC.out w8 HE8.out).mono ?_
      rintro e w9 ⟨rfl, rfl⟩
      have y0 := cell_of_blk HY8.out 0 _ rfl
      have y1 := cell_of_blk HY8.out 1 _ rfl
      have y2 := cell_of_blk HY8.out 2 _ rfl
      have y3 := cell_of_blk HY8.out 3 _ rfl
      have y4 := cell_of_blk HY8.out 4 _ rfl
      have y5 := cell_of_blk HY8.out 5 _ rfl
      have y6 := cell_of_blk HY8.out 6 _ rfl
      have fy := frz_of_blk HY8.out
      go_wp2_with fail
      refine bodyPost_ret (v := .tuple #[.agg #[(.slice ad8 z.g.length cap8), .int .i64 (z.root : Int), .int .i64 z.steps, .int .i64 z.moved, .int .i64 z.peak, .int .i64 z.ticks, .int .i64 z.rounds], .int .i64 (cd : Int)]) (by simp [results, Tryz.results19, go_sem, y0, y1, y2, y3, y4, y5, y6, fy]) rfl ?_
      rw [HV.out, HRE.out]
      exact ⟨_, rfl, (HO8.out.far (fun k hk => st7_far (by have := HL_W.out; omega))).lower HB_W.out.size (fun k hk => Nat.le_trans HB_W.out.size hk), st7_below HB8.out (by omega)⟩
  · have HV : Hid (eRun ds t f limit tidy = (rnZ, 4)) := eRun_noI (fun h => hn ⟨h.1, h.2.1⟩)
    have HY1 := mkHid ((hb1.block _ (by have := HL_W.out; omega)).trans HY_W.out)
    have HB1 : Hid (Below w.heap.size w w1) := HB_W.out.trans (hb1.mono HB_W.out.size)
    clear hn hb1
    have y0 := cell_of_blk HY1.out 0 _ rfl
    have y1 := cell_of_blk HY1.out 1 _ rfl
    have y2 := cell_of_blk HY1.out 2 _ rfl
    have y3 := cell_of_blk HY1.out 3 _ rfl
    have y4 := cell_of_blk HY1.out 4 _ rfl
    have y5 := cell_of_blk HY1.out 5 _ rfl
    have y6 := cell_of_blk HY1.out 6 _ rfl
    have fy := frz_of_blk HY1.out
    go_wp2_with fail
    refine bodyPost_ret (v := .tuple #[.agg (rnC (.slice none 0 0) rnZ), .int .i64 4]) (by simp [results, Tryz.results19, go_sem, y0, y1, y2, y3, y4, y5, y6, fy, rnC, rnZ]) rfl ?_
    rw [HV.out]
    exact ⟨_, rfl, OwnC.nil _ _ _, st7_below HB1.out (by omega)⟩


end Go.Proofs.YtiipcgnkfhjpeaaGreatDoor
/-
  SEVEN CELLS OF A BOX ARE STORED.
-/

namespace Go.Proofs.YtiipcgnkfhjpeaaGreatDoor
set_option linter.unusedVariables false
set_option linter.unusedSimpArgs false
open Go.RowKit

end Go.Proofs.YtiipcgnkfhjpeaaGreatDoor
/-
  THE LAWS' szRun, toRun AND eqRun.
-/
namespace Go.Proofs.YtiipcgnkfhjpeaaGreatDoor
set_option linter.unusedVariables false
set_option linter.unusedSimpArgs false
open Go.RowKit

set_option maxHeartbeats 1600000 in
theorem eqRun_calls (x : Rn) (a : Int) (c d : Value) (w : World) (hc : CIn w x.g c) (hd : CIn w x.g d) :
    Calls Tryz.prog 11 #[.agg (rnA c a x), .agg (rnA d a x)] w fun e w' => e = .returned (.bool true) ∧ Below w.heap.size w w' := by
  have HC := mkHid hc
  have HD := mkHid hd
  obtain ⟨adc, capc, rfl, -, -, -⟩ := hc
  obtain ⟨add, capd, rfl, -, -, -⟩ := hd
  have HB0 : Hid (∀ o1 o2, Below w.heap.size w ((w.alloc o1).alloc o2)) := fun o1 o2 => (box_below _ _).alloc (by rw [Deep.nblk_alloc]; omega) _
  have HX : Hid (∀ o1 o2, ((w.alloc o1).alloc o2).heap[w.heap.size]? = some o1) := fun o1 o2 => (Deep.blk_alloc_lt _ _ _ (by rw [Deep.nblk_alloc]; omega)).trans (Deep.blk_alloc_new _ _)
  have HY : Hid (∀ o1 o2, ((w.alloc o1).alloc o2).heap[w.heap.size + 1]? = some o2) := fun o1 o2 => by
    have h := Deep.blk_alloc_new (w.alloc o1) o2
    rw [Deep.nblk_alloc] at h
    exact h
  have HL : Hid (∀ o1 o2, ((w.alloc o1).alloc o2).heap.size = w.heap.size + 2) := fun o1 o2 => by rw [Deep.nblk_alloc, Deep.nblk_alloc]
  unfold rnA
  go_enter Tryz.func11, Tryz.ntmps11
  go_wp2_with fail
  refine (eqCells_calls x.g _ _ _ (HC.out.next (HB0.out _ _)) (HD.out.next (HB0.out _ _))).mono ?_
  rintro e w1 ⟨rfl, hb1⟩
  have HB1 : Hid (Below w.heap.size w w1) := (HB0.out _ _).trans (hb1.mono (HB0.out _ _).size)
  have HX1 := mkHid ((hb1.block _ (by rw [HL.out]; omega)).trans (HX.out _ _))
  have HY1 := mkHid ((hb1.block _ (by rw [HL.out]; omega)).trans (HY.out _ _))
  clear hb1
  have x0 := cell_of_blk HX1.out 0 _ rfl
  have y0 := cell_of_blk HY1.out 0 _ rfl
  have x1 := cell_of_blk HX1.out 1 _ rfl
  have y1 := cell_of_blk HY1.out 1 _ rfl
  have x2 := cell_of_blk HX1.out 2 _ rfl
  have y2 := cell_of_blk HY1.out 2 _ rfl
  have x3 := cell_of_blk HX1.out 3 _ rfl
  have y3 := cell_of_blk HY1.out 3 _ rfl
  have x4 := cell_of_blk HX1.out 4 _ rfl
  have y4 := cell_of_blk HY1.out 4 _ rfl
  have x5 := cell_of_blk HX1.out 5 _ rfl
  have y5 := cell_of_blk HY1.out 5 _ rfl
  have x6 := cell_of_blk HX1.out 6 _ rfl
  have y6 := cell_of_blk HY1.out 6 _ rfl
  have ta : (a != a) = false := by simp
  have tsteps : (x.steps != x.steps) = false := by simp
  have tmoved : (x.moved != x.moved) = false := by simp
  have tpeak : (x.peak != x.peak) = false := by simp
  have tticks : (x.ticks != x.ticks) = false := by simp
  have trounds : (x.rounds != x.rounds) = false := by simp
  go_wp2_with fail
  go_ret
  exact ⟨rfl, HB1.out⟩
end Go.Proofs.YtiipcgnkfhjpeaaGreatDoor
/-
  THE LAWS' markRun AND heldRun: the marks of a run's graph, which lies in rows of its own.
-/
namespace Go.Proofs.YtiipcgnkfhjpeaaGreatDoor
set_option linter.unusedVariables false
set_option linter.unusedSimpArgs false
open Go.RowKit

set_option maxHeartbeats 400000 in
theorem markRun_calls (x : Rn) (a : Int) (fp : List Nat) (c : Value) (k : Int) (w : World) (h : GOwn w fp x.g c) (hz : ∀ b ∈ fp, b < w.heap.size) (h0 : 0 ≤ k) (h1 : k ≤ 1048576) (hs : x.g.length + sumK x.g ≤ 1048576) :
    Calls Tryz.prog 14 #[.agg (rnA c a x), .int .i64 k] w fun e w' => e = .returned (.int .i64 (k + 2 * (x.g.length : Int) + (sumK x.g : Int))) ∧ GOwn w' fp (labC x.g k) c ∧ ButL fp w w' := by
  have HK := mkHid h
  have HZ := mkHid hz
  have HS := mkHid hs
  obtain ⟨-, adg, capg, rfl, -, -, -⟩ := h
  have HBX : Hid (∀ o, Below w.heap.size w (w.alloc o)) := fun o => box_below _ _
  have HM : Hid (I64 (k + 2 * (x.g.length : Int) + (sumK x.g : Int))) := by unfold Hid I64; omega
  clear hz hs
  unfold rnA
  go_enter Tryz.func14, Tryz.ntmps14
  go_wp2_with fail
  refine (gmarkG_calls x.g fp _ k _ (HK.out.keep fun b hb _ => (HBX.out _).block b (HZ.out b hb)) h0 h1 HS.out).mono ?_
  rintro e w1 ⟨rfl, hk1, hb1⟩
  have HK1 := mkHid hk1
  have HB1 : Hid (ButL fp w w1) := (ButL.of_below (HBX.out _)).trans hb1
  clear hk1 hb1
  obtain ⟨z, hze⟩ : ∃ z, z = k + 2 * (x.g.length : Int) + (sumK x.g : Int) := ⟨_, rfl⟩
  have HE := mkHid hze
  rw [← hze]
  clear hze
  go_wp2_with fail
  go_ret
  exact ⟨by rw [HE.out]; rfl, HK1.out, HB1.out⟩
set_option maxHeartbeats 400000 in
theorem heldRun_calls (x : Rn) (a : Int) (g : List Ce) (c : Value) (k : Int) (w : World) (hl : x.g = labC g k) (hk : CIn w x.g c) (h0 : 0 ≤ k) (h1 : k ≤ 1048576) (hs : g.length + sumK g ≤ 1048576) :
    Calls Tryz.prog 15 #[.agg (rnA c a x), .int .i64 k] w fun e w' => e = .returned (.int .i64 (k + 2 * (g.length : Int) + (sumK g : Int))) ∧ Below w.heap.size w w' := by
  have HK := mkHid hk
  have HLB := mkHid hl
  have HS := mkHid hs
  obtain ⟨adg, capg, rfl, -, -, -⟩ := hk
  have HBX : Hid (∀ o, Below w.heap.size w (w.alloc o)) := fun o => box_below _ _
  obtain ⟨z, hze⟩ : ∃ z, z = k + 2 * (g.length : Int) + (sumK g : Int) := ⟨_, rfl⟩
  have HE := mkHid hze
  have hz0 : 0 ≤ z := by omega
  have hz1 : ¬ z < 0 := by omega
  clear hze hs hl
  unfold rnA
  go_enter Tryz.func15, Tryz.ntmps15
  go_wp2_with fail
  refine (gheld_calls g _ k _ (by rw [← HLB.out]; exact HK.out.next (HBX.out _)) h0 (by omega) HS.out).mono ?_
  rintro e w1 ⟨rfl, hb1⟩
  have HB1 : Hid (Below w.heap.size w w1) := (HBX.out _).trans (hb1.mono (HBX.out _).size)
  clear hb1
  rw [← HE.out]
  go_wp2_with fail
  go_ret
  exact ⟨by rw [HE.out]; rfl, HB1.out⟩
end Go.Proofs.YtiipcgnkfhjpeaaGreatDoor
/-
  THE LAWS' COPY OF A PROGRAM, WITH ALL ITS BLOCKS: they are distinct.
-/
namespace Go.Proofs.YtiipcgnkfhjpeaaGreatDoor
set_option linter.unusedVariables false
set_option linter.unusedSimpArgs false
open Go.RowKit

/-- a function whose body's operands have these blocks -/
def DfFp (w : World) (d : Df) (fp : List Nat) (a b c e : Value) : Prop := a = .int .i64 d.1 ∧ I64 d.1 ∧ TrFp w 48 d.2 fp b c e
/-- a program in a row of its own, with all its blocks -/
def DefsFp (w : World) (ds : List Df) (fp : List Nat) (v : Value) : Prop :=
  ∃ (bl : Nat) (f : Nat → Value) (fps : List (List Nat)), v = .slice (some ⟨bl, 0, none⟩) ds.length ds.length ∧ ds.length ≤ 1048576 ∧ w.rowIs bl 62 (ds.length * 4) f ∧ fp = bl :: fps.flatten ∧ fps.length = ds.length ∧ ∀ i (hi : i < ds.length) (hi2 : i < fps.length), DfFp w ds[i] fps[i] (f (i * 4)) (f (i * 4 + 1)) (f (i * 4 + 2)) (f (i * 4 + 3))
theorem DefsFp.keep {w w' : World} {ds : List Df} {fp : List Nat} {v : Value} (h : DefsFp w ds fp v) (hw : ∀ k ∈ fp, w'.heap[k]? = w.heap[k]?) : DefsFp w' ds fp v := by
  obtain ⟨bl, f, fps, e, l1, hr, rfl, hl, hi⟩ := h
  refine ⟨bl, f, fps, e, l1, hr.of_block (hw bl (List.mem_cons_self ..)), rfl, hl, fun i h1 h2 => ?_⟩
  obtain ⟨a1, a2, a3⟩ := hi i h1 h2
  exact ⟨a1, a2, TrFp.keep _ _ _ _ _ (fun k hk => hw k (List.mem_cons_of_mem _ (List.mem_flatten.2 ⟨_, List.getElem_mem h2, hk⟩))) a3⟩
theorem DefsFp.lt {w : World} {ds : List Df} {fp : List Nat} {v : Value} (h : DefsFp w ds fp v) : ∀ k ∈ fp, k < w.heap.size := by
  obtain ⟨bl, f, fps, e, l1, hr, rfl, hl, hi⟩ := h
  intro k hk
  rcases List.mem_cons.1 hk with rfl | hk
  · exact hr.lt
  · obtain ⟨g, hg, hk⟩ := List.mem_flatten.1 hk
    obtain ⟨i, h2, rfl⟩ := List.getElem_of_mem hg
    exact TrFp.lt _ _ _ _ _ (hi i (by omega) h2).2.2 k hk
theorem DefsFp.on {w : World} {S : Nat → Prop} {ds : List Df} {fp : List Nat} {v : Value} (h : DefsFp w ds fp v) (hS : ∀ k ∈ fp, S k) : DefsOn w S ds v := by
  obtain ⟨bl, f, fps, rfl, l1, hr, rfl, hl, hi⟩ := h
  refine ⟨_, _, rfl, Nat.le_refl _, by unfold maxLen; omega, Or.inr ⟨bl, 0, rfl, hS bl (List.mem_cons_self ..), fun i h1 => ?_⟩⟩
  obtain ⟨a1, a2, a3⟩ := hi i h1 (by omega)
  refine ⟨f (i * 4), f (i * 4 + 1), f (i * 4 + 2), f (i * 4 + 3), ?_, ?_, ?_, ?_, a1, a2, TrFp.on _ _ _ _ _ (fun k hk => hS k (List.mem_cons_of_mem _ (List.mem_flatten.2 ⟨_, List.getElem_mem _, hk⟩))) a3⟩
  · simpa using hr.cell (i := i * 4) (by omega)
  · simpa [Nat.zero_add] using hr.cell (i := i * 4 + 1) (by omega)
  · simpa [Nat.zero_add] using hr.cell (i := i * 4 + 2) (by omega)
  · simpa [Nat.zero_add] using hr.cell (i := i * 4 + 3) (by omega)
theorem DefsFp.plain {w : World} {ds : List Df} {fp : List Nat} {v : Value} (h : DefsFp w ds fp v) : ∀ k ∈ fp, Pl w k := by
  obtain ⟨bl, f, fps, rfl, l1, hr, rfl, hl, hi⟩ := h
  intro k hk
  rcases List.mem_cons.1 hk with rfl | hk
  · obtain ⟨C, T', e⟩ := row_plain hr
    exact ⟨hr.lt, C, T', e⟩
  · obtain ⟨g, hg, hk⟩ := List.mem_flatten.1 hk
    obtain ⟨i, h2, rfl⟩ := List.getElem_of_mem hg
    exact TrFp.plain _ _ _ _ _ (hi i (by omega) h2).2.2 k hk

/-- trees of a call's own can be read -/
theorem fresh_inn {w : World} {lo : Nat} {ks : List Tr} {c : Value} (h : Fresh w lo ks c) : In w ks c := by
  obtain ⟨fp, h1, -, -⟩ := h
  exact h1.on h1.lt
theorem Fresh.down {w : World} {lo lo' : Nat} {ks : List Tr} {c : Value} (h : Fresh w lo ks c) (hl : lo' ≤ lo) : Fresh w lo' ks c := by
  obtain ⟨fp, h1, h2, h3⟩ := h
  exact ⟨fp, h1, h2, fun k hk => Nat.le_trans hl (h3 k hk)⟩
theorem Fresh.setC {w : World} {lo : Nat} {ks : List Tr} {c : Value} (h : Fresh w lo ks c) {a : Addr} (ha : a.block < lo) (u : Value) : Fresh (w.setCell a u) lo ks c := by
  obtain ⟨fp, h1, h2, h3⟩ := h
  exact ⟨fp, h1.keep fun k hk => Below.heap_setCell _ _ _ _ (by have := h3 k hk; omega), h2, h3⟩
/-! ### The copy -/
def NewDfF (a o n : Int) (ks : List Tr) (w : World) (e : Ending) (w' : World) : Prop := ∃ v, e = .returned (.agg #[.int .i64 a, .int .i64 o, .int .i64 n, v]) ∧ Fresh w' w.heap.size ks v ∧ Below w.heap.size w w'
def NewDefsF (ds : List Df) (w : World) (e : Ending) (w' : World) : Prop := ∃ v fp, e = .returned v ∧ DefsFp w' ds fp v ∧ fp.Nodup ∧ (∀ k ∈ fp, w.heap.size ≤ k) ∧ Below w.heap.size w w'

set_option maxHeartbeats 400000 in
theorem toDef_callsF (a o n : Int) (ks : List Tr) (c : Value) (w : World) (hk : In w ks c) (hsz : szL ks ≤ 1048576) : Calls Tryz.prog 29 #[.agg #[.int .i64 a, .int .i64 o, .int .i64 n, c]] w (NewDfF a o n ks w) := by
  have HK : Hid (In w ks c) := hk
  clear hk
  go_enter Tryz.func29, Tryz.ntmps29
  go_wp2_with fail
  refine (fto_calls ks _ _ c _ ?_ hsz).mono ?_
  · exact HK.out.next ((((Below.refl _ _).alloc (Nat.le_refl _) _).alloc (by simp) _).alloc (by simp; omega) _)
  rintro e w1 ⟨v, rfl, hv, hb⟩
  obtain ⟨hc, hf⟩ := bcell hb
  have hz : w.heap.size + 2 < w1.heap.size := by have := hb.size; simp at this; omega
  have hlo : w.heap.size + 3 ≤ w1.heap.size := by omega
  have HV : Hid (Fresh w1 (w.heap.size + 3) ks v) := by obtain ⟨fp, h1, h2, h3⟩ := hv; exact ⟨fp, h1, h2, fun k hk => by have := h3 k hk; simpa using this⟩
  have hv := HV.out
  have HB : Hid (Below w.heap.size w w1) := ((((Below.refl _ _).alloc (Nat.le_refl _) _).alloc (by simp) _).alloc (by simp; omega) _).trans (hb.mono (by simp; omega))
  obtain ⟨ad, cap, rfl, -, -, -⟩ := (fresh_inn hv)
  clear hb hv
  go_wp2_with fail
  refine bodyPost_ret (v := .agg #[.int .i64 a, .int .i64 o, .int .i64 n, .slice ad ks.length cap]) (by simp [results, Tryz.results29, go_sem, hc, hf, hz]) rfl ⟨_, rfl, ?_, ?_⟩
  · refine Fresh.down (lo := w.heap.size + 3) ?_ (by omega)
    repeat' (refine Fresh.setC ?_ (by simp <;> omega) _)
    exact HV.out
  · repeat' (refine Below.setCell ?_ (by simp <;> omega) _)
    exact HB.out

/-- what holds of the copy of a program behind k rounds -/
def ToDRelF (ds : List Df) (w : World) (k : Nat) (wr : World) : Prop :=
  ∃ (f : Nat → Value) (fps : List (List Nat)), wr.rowIs w.heap.size 62 (ds.length * 4) f ∧ fps.length = k ∧ fps.flatten.Nodup ∧ (∀ x ∈ fps.flatten, w.heap.size + 1 ≤ x ∧ x < wr.heap.size) ∧ (∀ j (_ : j < k) (hj : j < ds.length) (hj2 : j < fps.length), DfFp wr ds[j] fps[j] (f (j * 4)) (f (j * 4 + 1)) (f (j * 4 + 2)) (f (j * 4 + 3))) ∧ Below w.heap.size w wr

theorem toDRel_startF (ds : List Df) (w : World) (C : Array Value) (h : C.size = ds.length * 4) : ToDRelF ds w 0 (w.alloc (.cells C 62)) := by
  refine ⟨fun i => C.getD i undef, [], ⟨C, Deep.blk_alloc_new _ _, h, fun i hi => ?_⟩, rfl, by simp, by simp, fun j hj => absurd hj (by omega), (Below.refl _ _).alloc (Nat.le_refl _) _⟩
  simp [Array.getElem?_eq_getElem (h ▸ hi : i < C.size), Array.getD, (h ▸ hi : i < C.size)]

theorem toDRel_stepF (ds : List Df) (w wr w1 : World) (k : Nat) (hk : k < ds.length) (h : ToDRelF ds w k wr) (v : Value) (hb : Below wr.heap.size wr w1) (hv : Fresh w1 wr.heap.size (ds[k]).2.kids v) (ha : I64 (ds[k]).1) (ho : I64 (ds[k]).2.op) (hn : I64 (ds[k]).2.num) :
    ToDRelF ds w (k + 1) (stD w1 w.heap.size k ds[k] v) := by
  obtain ⟨f, fps, hr, hl, hnd, hlo, ht, hbw⟩ := h
  obtain ⟨fp, g1, g2, g3⟩ := hv
  have hlt := hr.lt
  have hsz := hb.size
  have hr1 : w1.rowIs w.heap.size 62 (ds.length * 4) f := hr.of_block (hb.block _ hlt)
  have hbl : ∀ x, x ≠ w.heap.size → (stD w1 w.heap.size k ds[k] v).heap[x]? = w1.heap[x]? := fun x hx => by
    unfold stD
    rw [Below.heap_setCell _ _ _ _ hx, Below.heap_setCell _ _ _ _ hx, Below.heap_setCell _ _ _ _ hx, Below.heap_setCell _ _ _ _ hx]
  have hss : (stD w1 w.heap.size k ds[k] v).heap.size = w1.heap.size := by unfold stD; rw [size_setCell, size_setCell, size_setCell, size_setCell]
  have hfl : (fps ++ [fp]).flatten = fps.flatten ++ fp := by simp
  refine ⟨_, fps ++ [fp], (((hr1.set (k * 4) _).set (k * 4 + 1) _).set (k * 4 + 2) _).set (k * 4 + 3) _, by simp [hl], ?_, ?_, fun j hj hjl hj2 => ?_, ?_⟩
  · rw [hfl, List.nodup_append]
    exact ⟨hnd, g2, fun a ha b hb e => by subst e; have := (hlo a ha).2; have := g3 a hb; omega⟩
  · intro x hx
    rw [hfl] at hx
    rw [hss]
    rcases List.mem_append.1 hx with hx | hx
    · have := hlo x hx; omega
    · have := g3 x hx; have := g1.lt x hx; omega
  · by_cases hjk : j = k
    · subst hjk
      have e : (fps ++ [fp])[j] = fp := by rw [List.getElem_append_right (by omega)]; simp [hl]
      rw [e]
      refine ⟨by simp, ha, ?_⟩
      simp only [if_neg (show ¬ (j * 4 + 1 = j * 4 + 3) by omega), if_neg (show ¬ (j * 4 + 1 = j * 4 + 2) by omega), if_neg (show ¬ (j * 4 + 2 = j * 4 + 3) by omega), if_true]
      exact trFp_iff.2 ⟨rfl, rfl, ho, hn, g1.keep fun x hx => hbl x (by have := g3 x hx; omega)⟩
    · have hjl2 : j < fps.length := by omega
      obtain ⟨h01, h02, h03⟩ := ht j (by omega) hjl hjl2
      have e : (fps ++ [fp])[j] = fps[j] := List.getElem_append_left hjl2
      rw [e]
      have keep := TrFp.keep _ _ _ _ _ (w' := stD w1 w.heap.size k ds[k] v) (fun x hx => by have := hlo x (List.mem_flatten.2 ⟨_, List.getElem_mem hjl2, hx⟩); exact (hbl x (by omega)).trans (hb.block x this.2)) h03
      have e1 : ∀ m, m < 4 → j * 4 + m ≠ k * 4 + 3 ∧ j * 4 + m ≠ k * 4 + 2 ∧ j * 4 + m ≠ k * 4 + 1 ∧ j * 4 + m ≠ k * 4 := fun m hm => by omega
      have a0 := e1 0 (by omega)
      have a1 := e1 1 (by omega)
      have a2 := e1 2 (by omega)
      have a3 := e1 3 (by omega)
      simp only [Nat.add_zero] at a0
      refine ⟨?_, h02, ?_⟩
      · simp only [if_neg a0.1, if_neg a0.2.1, if_neg a0.2.2.1, if_neg a0.2.2.2]; exact h01
      · simp only [if_neg a1.1, if_neg a1.2.1, if_neg a1.2.2.1, if_neg a1.2.2.2, if_neg a2.1, if_neg a2.2.1, if_neg a2.2.2.1, if_neg a2.2.2.2, if_neg a3.1, if_neg a3.2.1, if_neg a3.2.2.1, if_neg a3.2.2.2]
        exact keep
  · unfold stD
    exact ((((hbw.trans (hb.mono (Nat.le_of_lt hlt))).setCell (by simp) _).setCell (by simp) _).setCell (by simp) _).setCell (by simp) _

theorem toDRel_endF (ds : List Df) (w wr : World) (h : ToDRelF ds w ds.length wr) (hl : ds.length ≤ 1048576) : NewDefsF ds w (.returned (.slice (some ⟨w.heap.size, 0, none⟩) ds.length ds.length)) wr := by
  obtain ⟨f, fps, hr, h1, h2, h3, h4, h5⟩ := h
  refine ⟨_, w.heap.size :: fps.flatten, rfl, ⟨w.heap.size, f, fps, rfl, hl, hr, rfl, h1, fun i hi hi2 => h4 i hi hi hi2⟩, ?_, ?_, h5⟩
  · rw [List.nodup_cons]
    exact ⟨fun hm => by have := (h3 _ hm).1; omega, h2⟩
  · intro k hk
    rcases List.mem_cons.1 hk with rfl | hk
    · exact Nat.le_refl _
    · have := (h3 k hk).1; omega

set_option maxHeartbeats 400000 in
theorem toDefS_callsF (ds : List Df) (c : Value) (w : World) (hk : DIn w ds c) (hsz : szL (bodies ds) ≤ 1048576) : Calls Tryz.prog 8 #[c] w (NewDefsF ds w) := by
  have HK : Hid (DIn w ds c) := hk
  have HZ : Hid (szL (bodies ds) ≤ 1048576) := hsz
  have hlen : ds.length ≤ 1048576 := by rw [szL_sum, bodies_length] at hsz; omega
  clear hsz
  obtain ⟨ad, cap, rfl, -, -, -⟩ := hk
  obtain ⟨C, hC, hmk⟩ := make_defs ds.length hlen
  have HC : Hid (C.size = ds.length * 4) := hC
  clear hC
  go_enter Tryz.func8, Tryz.ntmps8
  go_wp2_with fail
  go_loopw [4] (fun i wr => ∃ k : Nat, k ≤ ds.length ∧ i = .int .i64 k ∧ ToDRelF ds w k wr) (fun i _ => ds.length - (intOf i).toNat)
  case atStart => exact ⟨0, Nat.zero_le _, rfl, toDRel_startF ds w C HC.out⟩
  case round =>
    obtain ⟨k, hk, rfl, hto⟩ := hrel
    have HT : Hid (ToDRelF ds w k wr) := hto
    obtain ⟨f, fps0, hr0, -, -, -, -, hb⟩ := hto
    have hlt0 := hr0.lt
    by_cases hlt : k < ds.length
    · obtain ⟨bl, off, r, rfl, c0, c1, c2, c3, ia, io, iN, hkk⟩ := (HK.out.next hb).at k hlt
      have HKK : Hid (In wr ds[k].2.kids r) := hkk
      have hkz : szL ds[k].2.kids ≤ 1048576 := by have := szL_body_le ds k hlt; have := HZ.out; omega
      have HR : Hid (wr.rowIs w.heap.size 62 (ds.length * 4) f) := hr0
      clear hkk hr0 hb
      go_wp2_with fail
      refine (toDef_callsF _ _ _ ds[k].2.kids r _ HKK.out hkz).mono ?_
      rintro e w1 ⟨v, rfl, hv, hb1⟩
      have hr1 : w1.rowIs w.heap.size 62 (ds.length * 4) f := HR.out.of_block (hb1.block _ hlt0)
      have HS : Hid (ToDRelF ds w (k + 1) (stD w1 w.heap.size k ds[k] v)) := toDRel_stepF ds w wr w1 k hlt HT.out v hb1 hv ia io iN
      obtain ⟨ad2, cap2, rfl, _, _, _⟩ := (fresh_inn hv)
      have g0 := hr1.cell (i := k * 4) (by omega)
      have g1 := hr1.cell (i := k * 4 + 1) (by omega)
      have g2 := hr1.cell (i := k * 4 + 2) (by omega)
      have g3 := hr1.cell (i := k * 4 + 3) (by omega)
      have f0 := hr1.frozen (k * 4)
      have f1 := hr1.frozen (k * 4 + 1)
      have f2 := hr1.frozen (k * 4 + 2)
      have f3 := hr1.frozen (k * 4 + 3)
      clear hr1 hb1 hv
      go_wp2_with fail
      go_roundw
      case rel => exact ⟨k + 1, by omega, by go_num, HS.out⟩
      case measure => simp [intOf]; omega
    · have hke : ds.length = k := by omega
      have HV : Hid (NewDefsF ds w (.returned (.slice (some ⟨w.heap.size, 0, none⟩) ds.length ds.length)) wr) := by subst hke; exact toDRel_endF ds w wr HT.out hlen
      clear hke hr0 hb
      go_wp2_with fail
      go_ret
      exact HV.out
end Go.Proofs.YtiipcgnkfhjpeaaGreatDoor
