/-
  THE PROGRAM's StartRun.
-/
import Derived.Test.YtidijbnoaeopdaaMgExactStartRun20
import Derived.Test.YtidijbnoaeopdaaMgExactStartRun18
import Derived.Test.YtidijbnoaeopdaaMgExactStartRun1
import Derived.Test.YtidijbnoaeopdaaMgExactStartRun4
import Derived.Deep.DeepCutAuto
import Derived.Test.YtidijbnoaeopdaaMgExactStartRun9
import Derived.Test.YtidijbnoaeopdaaMgExactStartRun10
import Derived.Test.YtidijbnoaeopdaaMgExactStartRun3
import Derived.Test.YtidijbnoaeopdaaMgExactStartRun14
namespace Go.Proofs.Ytidijbnoaeopdaa
set_option linter.unusedVariables false
set_option linter.unusedSimpArgs false
open Go.RowKit

/-- a run by value in memory of its own, and whether -/
def OwnX (r : Rn × Bool) (w : World) (e : Ending) (w' : World) : Prop := ∃ gv, e = .returned (.tuple #[.agg (rnC gv r.1), .bool r.2]) ∧ OwnC w' w.heap.size (fun k => w.heap.size ≤ k) r.1.g gv ∧ Below w.heap.size w w'
set_option maxRecDepth 100000 in
set_option maxHeartbeats 1600000 in
theorem implStart_calls (ds : List Df) (t : Tr) (p c : Value) (w : World) (hp : DIn w ds p) (hk : In w t.kids c) (ht : I64 t.op ∧ I64 t.num) :
    Calls Try.prog 11 #[p, .agg #[.int .i64 t.op, .int .i64 t.num, c]] w (OwnX (sxO ds t) w) := by
  have HK : Hid (In w t.kids c) := hk
  have HP : Hid (DIn w ds p) := hp
  have HT := mkHid ht
  obtain ⟨ad, cap, rfl, -, -, -⟩ := hk
  obtain ⟨adp, capp, rfl, -, -, -⟩ := hp
  obtain ⟨W, hW⟩ : ∃ W, W = (w.alloc (.cells #[.int .i64 t.op, .int .i64 t.num, .slice ad t.kids.length cap] 37)).alloc (.cells #[.slice none 0 0, .int .i64 0, .int .i64 0, .int .i64 0, .int .i64 0, .int .i64 0, .int .i64 0] 30) := ⟨_, rfl⟩
  have HB_W : Hid (Below w.heap.size w W) := by rw [hW]; exact (box_below _ _).alloc (by rw [Deep.nblk_alloc]; omega) _
  have HX_W : Hid (W.heap[w.heap.size]? = some (.cells #[.int .i64 t.op, .int .i64 t.num, .slice ad t.kids.length cap] 37)) := by
    rw [hW]; exact (Deep.blk_alloc_lt _ _ _ (by rw [Deep.nblk_alloc]; omega)).trans (Deep.blk_alloc_new _ _)
  have HY_W : Hid (W.heap[w.heap.size + 1]? = some (.cells #[.slice none 0 0, .int .i64 0, .int .i64 0, .int .i64 0, .int .i64 0, .int .i64 0, .int .i64 0] 30)) := by
    have h := Deep.blk_alloc_new (w.alloc (.cells #[.int .i64 t.op, .int .i64 t.num, .slice ad t.kids.length cap] 37)) (.cells #[.slice none 0 0, .int .i64 0, .int .i64 0, .int .i64 0, .int .i64 0, .int .i64 0, .int .i64 0] 30)
    rw [Deep.nblk_alloc] at h
    rw [hW]; exact h
  have HL_W : Hid (W.heap.size = w.heap.size + 2) := by rw [hW, Hid, Deep.nblk_alloc, Deep.nblk_alloc]
  clear ht
  go_enter Try.func11, Try.ntmps11
  go_wp2_with fail
  rw [← hW]
  clear hW
  refine (implBuild_calls t ds.length _ W (HK.out.next HB_W.out) HT.out.1 HT.out.2).mono ?_
  rintro e w1 ⟨v, rfl, ho, hb1⟩
  have HB1 : Hid (Below w.heap.size w w1) := HB_W.out.trans (hb1.mono HB_W.out.size)
  have HL1 : Hid (w.heap.size + 2 ≤ w1.heap.size) := by have := hb1.size; have := HL_W.out; unfold Hid; omega
  have HY1 := mkHid ((hb1.block _ (by have := HL_W.out; omega)).trans HY_W.out)
  rw [HL_W.out] at ho
  rw [addOut_closed] at ho ⊢
  clear hb1
  cases hr : validB t 0 ds.length with
  | false =>
    have HV : Hid (sxO ds t = (rnZ, false)) := by unfold Hid sxO closedB; rw [hr, Bool.and_false]; rfl
    rw [hr] at ho
    rw [if_neg (by simp)] at ho ⊢
    obtain ⟨ada, capa, rfl⟩ := ho.form
    have y0 := cell_of_blk HY1.out 0 _ rfl
    have y1 := cell_of_blk HY1.out 1 _ rfl
    have y2 := cell_of_blk HY1.out 2 _ rfl
    have y3 := cell_of_blk HY1.out 3 _ rfl
    have y4 := cell_of_blk HY1.out 4 _ rfl
    have y5 := cell_of_blk HY1.out 5 _ rfl
    have y6 := cell_of_blk HY1.out 6 _ rfl
    have fy := frz_of_blk HY1.out
    clear hr ho
    go_wp2_with fail
    refine bodyPost_ret (v := .tuple #[.agg (rnC (.slice none 0 0) rnZ), .bool false]) (by simp [results, Try.results11, go_sem, y0, y1, y2, y3, y4, y5, y6, fy, rnC, rnZ]) rfl ?_
    rw [HV.out]
    exact ⟨_, rfl, OwnC.nil _ _ _, st7_below HB1.out (by omega)⟩
  | true =>
    rw [hr] at ho
    rw [if_pos rfl] at ho ⊢
    dsimp only at ho ⊢
    obtain ⟨g0, hg0⟩ : ∃ g0, g0 = (addT [] t []).1 := ⟨_, rfl⟩
    obtain ⟨a0, ha0⟩ : ∃ a0, a0 = (addT [] t []).2 := ⟨_, rfl⟩
    have HVV : Hid (sxO ds t = if progB ds = true then (startX g0 a0, true) else (rnZ, false)) := by unfold Hid sxO closedB; rw [hr, Bool.and_true, hg0, ha0]
    rw [← hg0] at ho
    rw [← ha0]
    obtain ⟨ada, capa, rfl⟩ := ho.form
    have HO := mkHid ho
    clear hr ho hg0 ha0
    go_wp2_with fail
    refine (implProg_calls ds _ w1 (HP.out.next HB1.out)).mono ?_
    rintro e w2 ⟨rfl, hb2⟩
    have HB2 : Hid (Below w.heap.size w w2) := HB1.out.trans (hb2.mono HB1.out.size)
    have HY2 := mkHid ((hb2.block _ (by have := HL1.out; omega)).trans HY1.out)
    have HO2 : Hid (OwnC w2 (w.heap.size + 2) (fun k => w.heap.size + 2 ≤ k) g0 (.slice ada g0.length capa)) := HO.out.next (fun _ h _ => h) (fun k _ hz => hb2.block k hz) (fun k _ hz => hb2.block k hz)
    have y0 := cell_of_blk HY2.out 0 _ rfl
    have y1 := cell_of_blk HY2.out 1 _ rfl
    have y2 := cell_of_blk HY2.out 2 _ rfl
    have y3 := cell_of_blk HY2.out 3 _ rfl
    have y4 := cell_of_blk HY2.out 4 _ rfl
    have y5 := cell_of_blk HY2.out 5 _ rfl
    have y6 := cell_of_blk HY2.out 6 _ rfl
    have fy := frz_of_blk HY2.out
    clear hb2
    cases hpb : progB ds with
    | false =>
      have HV : Hid (sxO ds t = (rnZ, false)) := HVV.out.trans (by rw [hpb]; rfl)
      clear hpb
      go_wp2_with fail
      refine bodyPost_ret (v := .tuple #[.agg (rnC (.slice none 0 0) rnZ), .bool false]) (by simp [results, Try.results11, go_sem, y0, y1, y2, y3, y4, y5, y6, fy, rnC, rnZ]) rfl ?_
      rw [HV.out]
      exact ⟨_, rfl, OwnC.nil _ _ _, st7_below HB2.out (by omega)⟩
    | true =>
      have HV : Hid (sxO ds t = (startX g0 a0, true)) := HVV.out.trans (by rw [hpb]; rfl)
      clear hpb
      go_wp2_with fail
      refine bodyPost_ret (v := .tuple #[.agg (rnC (.slice ada g0.length capa) (startX g0 a0)), .bool true]) (by simp [results, Try.results11, go_sem, y0, y1, y2, y3, y4, y5, y6, fy, rnC, startX]) rfl ?_
      rw [HV.out]
      exact ⟨_, rfl, (HO2.out.far (fun k hk => st7_far (by omega))).lower (by omega) (fun k hk => by omega), st7_below HB2.out (by omega)⟩
end Go.Proofs.Ytidijbnoaeopdaa
/-
  SEVEN CELLS OF A BOX ARE STORED.
-/

namespace Go.Proofs.Ytidijbnoaeopdaa
set_option linter.unusedVariables false
set_option linter.unusedSimpArgs false
open Go.RowKit

end Go.Proofs.Ytidijbnoaeopdaa
/-
  THE LAWS' szRun, toRun AND eqRun.
-/
namespace Go.Proofs.Ytidijbnoaeopdaa
set_option linter.unusedVariables false
set_option linter.unusedSimpArgs false
open Go.RowKit

set_option maxHeartbeats 1600000 in
theorem eqRun_calls (x : Rn) (a : Int) (c d : Value) (w : World) (hc : CIn w x.g c) (hd : CIn w x.g d) :
    Calls Try.prog 12 #[.agg (rnA c a x), .agg (rnA d a x)] w fun e w' => e = .returned (.bool true) ∧ Below w.heap.size w w' := by
  have HC := mkHid hc
  have HD := mkHid hd
  obtain ⟨adc, capc, rfl, -, -, -⟩ := hc
  obtain ⟨add, capd, rfl, -, -, -⟩ := hd
  have HB0 : Hid (∀ o1 o2, Below w.heap.size w ((w.alloc o1).alloc o2)) := fun o1 o2 => (box_below _ _).alloc (by rw [Deep.nblk_alloc]; omega) _
  have HX : Hid (∀ o1 o2, ((w.alloc o1).alloc o2).heap[w.heap.size]? = some o1) := fun o1 o2 => (Deep.blk_alloc_lt _ _ _ (by rw [Deep.nblk_alloc]; omega)).trans (Deep.blk_alloc_new _ _)
  have HY : Hid (∀ o1 o2, ((w.alloc o1).alloc o2).heap[w.heap.size + 1]? = some o2) := fun o1 o2 => by
    have h := Deep.blk_alloc_new (w.alloc o1) o2
    rw [Deep.nblk_alloc] at h
    exact h
  have HL : Hid (∀ o1 o2, ((w.alloc o1).alloc o2).heap.size = w.heap.size + 2) := fun o1 o2 => by rw [Deep.nblk_alloc, Deep.nblk_alloc]
  unfold rnA
  go_enter Try.func12, Try.ntmps12
  go_wp2_with fail
  refine (eqCells_calls x.g _ _ _ (HC.out.next (HB0.out _ _)) (HD.out.next (HB0.out _ _))).mono ?_
  rintro e w1 ⟨rfl, hb1⟩
  have HB1 : Hid (Below w.heap.size w w1) := (HB0.out _ _).trans (hb1.mono (HB0.out _ _).size)
  have HX1 := mkHid ((hb1.block _ (by rw [HL.out]; omega)).trans (HX.out _ _))
  have HY1 := mkHid ((hb1.block _ (by rw [HL.out]; omega)).trans (HY.out _ _))
  clear hb1
  have x0 := cell_of_blk HX1.out 0 _ rfl
  have y0 := cell_of_blk HY1.out 0 _ rfl
  have x1 := cell_of_blk HX1.out 1 _ rfl
  have y1 := cell_of_blk HY1.out 1 _ rfl
  have x2 := cell_of_blk HX1.out 2 _ rfl
  have y2 := cell_of_blk HY1.out 2 _ rfl
  have x3 := cell_of_blk HX1.out 3 _ rfl
  have y3 := cell_of_blk HY1.out 3 _ rfl
  have x4 := cell_of_blk HX1.out 4 _ rfl
  have y4 := cell_of_blk HY1.out 4 _ rfl
  have x5 := cell_of_blk HX1.out 5 _ rfl
  have y5 := cell_of_blk HY1.out 5 _ rfl
  have x6 := cell_of_blk HX1.out 6 _ rfl
  have y6 := cell_of_blk HY1.out 6 _ rfl
  have ta : (a != a) = false := by simp
  have tsteps : (x.steps != x.steps) = false := by simp
  have tmoved : (x.moved != x.moved) = false := by simp
  have tpeak : (x.peak != x.peak) = false := by simp
  have tticks : (x.ticks != x.ticks) = false := by simp
  have trounds : (x.rounds != x.rounds) = false := by simp
  go_wp2_with fail
  go_ret
  exact ⟨rfl, HB1.out⟩
end Go.Proofs.Ytidijbnoaeopdaa
/-
  ONE ROW OF NUMBERS OF ITS OWN; a graph that keeps its rows while it is marked.
-/
namespace Go.Proofs.Ytidijbnoaeopdaa
set_option linter.unusedVariables false
set_option linter.unusedSimpArgs false
open Go.RowKit

/-- numbers in the row b -/
def OneRow (w : World) (b : Nat) (X : List Int) (v : Value) : Prop := KRow w [b] X b v
theorem OneRow.keep {w w' : World} {b : Nat} {X : List Int} {v : Value} (h : OneRow w b X v) (hb : ∀ k, k = b → k < w.heap.size → w'.heap[k]? = w.heap[k]?) : OneRow w' b X v := by
  unfold OneRow at h ⊢
  refine h.keep (fun _ h => h) fun hx hm => ?_
  obtain ⟨_, _, _, _, _, h5⟩ := h
  rcases h5 with h5 | ⟨f5, -, -, h6, -⟩
  · exact absurd h5 hx
  · exact hb _ rfl h6.lt
theorem OneRow.next {w w' : World} {b : Nat} {X : List Int} {v : Value} (h : OneRow w b X v) (hb : Below w.heap.size w w') : OneRow w' b X v := h.keep fun k _ hk => hb.block k hk
theorem OneRow.form {w : World} {b : Nat} {X : List Int} {v : Value} (h : OneRow w b X v) : ∃ ad cap, v = .slice ad X.length cap := by
  obtain ⟨ad, cap, e, -⟩ := h; exact ⟨ad, cap, e⟩
theorem OneRow.inn {w : World} {b : Nat} {X : List Int} {v : Value} (h : OneRow w b X v) : IIn w X v := by
  obtain ⟨ad, cap, e, l1, l2, h⟩ := h
  refine ⟨ad, cap, e, l1, l2, h.imp id ?_⟩
  rintro ⟨f, rfl, -, hr, hf⟩
  exact ⟨b, 0, rfl, hr.lt, fun i hi => by rw [Nat.zero_add, hr.cell (by omega), hf i hi]⟩
theorem OneRow.nil (w : World) (b : Nat) (ad : Option Addr) (cap : Nat) (h : cap ≤ maxLen) : OneRow w b [] (.slice ad 0 cap) := ⟨ad, cap, rfl, Nat.zero_le _, h, Or.inl rfl⟩
theorem labC_half2 (g : List Ce) (k : Int) : HalfC g k g.length (labC g k) := ⟨labC_length g k, fun i hi hm => by rw [if_pos hi, labC_get g k i hi]⟩
theorem gmarkG_calls (g : List Ce) (fp : List Nat) (v : Value) (k : Int) (w : World) (h : GOwn w fp g v) (h0 : 0 ≤ k) (h1 : k ≤ 1048576) (hs : g.length + sumK g ≤ 1048576) :
    Calls Try.prog 39 #[v, .int .i64 k] w fun e w' => e = .returned (.int .i64 (k + 2 * (g.length : Int) + (sumK g : Int))) ∧ GOwn w' fp (labC g k) v ∧ ButL fp w w' := by
  obtain ⟨hi, ad, cap, rfl, l1, l2, hr⟩ := h
  rcases hr with rfl | ⟨b, kb, rfl, hb, hr, hd⟩
  · refine (markCells_calls [] fp (.slice ad 0 cap) k w ⟨ad, cap, rfl, l1, l2, Or.inl rfl⟩ h0 (by omega) (by simp [sumN'])).mono ?_
    rintro e w' ⟨rfl, hb⟩
    refine ⟨ret_int (by simp [sumK, sumN']), ⟨fun i hi' => absurd hi' (by simp [labC]), ad, cap, rfl, l1, l2, Or.inl rfl⟩, hb⟩
  · refine (gmark_calls g fp b cap kb k w hr hb hd l1 l2 h0 (by omega) hs).mono ?_
    rintro e w' ⟨rfl, h5, h6⟩
    refine ⟨rfl, ⟨fun i hi' => ?_, some ⟨b, 0, none⟩, cap, by rw [labC_length], by rw [labC_length]; exact l1, l2, Or.inr ⟨b, kb, rfl, hb, h5, (labC_half2 g k).dist hd⟩⟩, h6⟩
    have hl := labC_length g k
    rw [labC_get g k i (by omega) hi']
    have := cLab_le g k i (by omega)
    unfold markedC I64
    simp only
    omega
/-- what a call hands back: a graph and numbers, in rows of their own -/
def GIRes (G : List Ce) (X : List Int) (gv tv : Value) (w w' : World) : Prop :=
  ∃ fG bL, GOwn w' fG G gv ∧ (∀ k ∈ fG, w.heap.size ≤ k ∧ k < w'.heap.size) ∧ OneRow w' bL X tv ∧ w.heap.size ≤ bL ∧ bL ∉ fG
theorem GIRes.inn {G : List Ce} {X : List Int} {gv tv : Value} {w w' : World} (h : GIRes G X gv tv w w') : CIn w' G gv ∧ IIn w' X tv := by
  obtain ⟨fG, bL, h1, -, h3, -⟩ := h
  exact ⟨h1.inn, h3.inn⟩
theorem GIRes.lower {G : List Ce} {X : List Int} {gv tv : Value} {w w1 w' : World} (h : GIRes G X gv tv w1 w') (hl : w.heap.size ≤ w1.heap.size) : GIRes G X gv tv w w' := by
  obtain ⟨fG, bL, h1, h2, h3, h4, h5⟩ := h
  exact ⟨fG, bL, h1, fun k hk => ⟨Nat.le_trans hl (h2 k hk).1, (h2 k hk).2⟩, h3, Nat.le_trans hl h4, h5⟩
end Go.Proofs.Ytidijbnoaeopdaa
/-
  THE LAWS' markRun AND heldRun: the marks of a run's graph, which lies in rows of its own.
-/
namespace Go.Proofs.Ytidijbnoaeopdaa
set_option linter.unusedVariables false
set_option linter.unusedSimpArgs false
open Go.RowKit

set_option maxHeartbeats 400000 in
theorem markRun_calls (x : Rn) (a : Int) (fp : List Nat) (c : Value) (k : Int) (w : World) (h : GOwn w fp x.g c) (hz : ∀ b ∈ fp, b < w.heap.size) (h0 : 0 ≤ k) (h1 : k ≤ 1048576) (hs : x.g.length + sumK x.g ≤ 1048576) :
    Calls Try.prog 17 #[.agg (rnA c a x), .int .i64 k] w fun e w' => e = .returned (.int .i64 (k + 2 * (x.g.length : Int) + (sumK x.g : Int))) ∧ GOwn w' fp (labC x.g k) c ∧ ButL fp w w' := by
  have HK := mkHid h
  have HZ := mkHid hz
  have HS := mkHid hs
  obtain ⟨-, adg, capg, rfl, -, -, -⟩ := h
  have HBX : Hid (∀ o, Below w.heap.size w (w.alloc o)) := fun o => box_below _ _
  have HM : Hid (I64 (k + 2 * (x.g.length : Int) + (sumK x.g : Int))) := by unfold Hid I64; omega
  clear hz hs
  unfold rnA
  go_enter Try.func17, Try.ntmps17
  go_wp2_with fail
  refine (gmarkG_calls x.g fp _ k _ (HK.out.keep fun b hb _ => (HBX.out _).block b (HZ.out b hb)) h0 h1 HS.out).mono ?_
  rintro e w1 ⟨rfl, hk1, hb1⟩
  have HK1 := mkHid hk1
  have HB1 : Hid (ButL fp w w1) := (ButL.of_below (HBX.out _)).trans hb1
  clear hk1 hb1
  obtain ⟨z, hze⟩ : ∃ z, z = k + 2 * (x.g.length : Int) + (sumK x.g : Int) := ⟨_, rfl⟩
  have HE := mkHid hze
  rw [← hze]
  clear hze
  go_wp2_with fail
  go_ret
  exact ⟨by rw [HE.out]; rfl, HK1.out, HB1.out⟩
set_option maxHeartbeats 400000 in
theorem heldRun_calls (x : Rn) (a : Int) (g : List Ce) (c : Value) (k : Int) (w : World) (hl : x.g = labC g k) (hk : CIn w x.g c) (h0 : 0 ≤ k) (h1 : k ≤ 1048576) (hs : g.length + sumK g ≤ 1048576) :
    Calls Try.prog 18 #[.agg (rnA c a x), .int .i64 k] w fun e w' => e = .returned (.int .i64 (k + 2 * (g.length : Int) + (sumK g : Int))) ∧ Below w.heap.size w w' := by
  have HK := mkHid hk
  have HLB := mkHid hl
  have HS := mkHid hs
  obtain ⟨adg, capg, rfl, -, -, -⟩ := hk
  have HBX : Hid (∀ o, Below w.heap.size w (w.alloc o)) := fun o => box_below _ _
  obtain ⟨z, hze⟩ : ∃ z, z = k + 2 * (g.length : Int) + (sumK g : Int) := ⟨_, rfl⟩
  have HE := mkHid hze
  have hz0 : 0 ≤ z := by omega
  have hz1 : ¬ z < 0 := by omega
  clear hze hs hl
  unfold rnA
  go_enter Try.func18, Try.ntmps18
  go_wp2_with fail
  refine (gheld_calls g _ k _ (by rw [← HLB.out]; exact HK.out.next (HBX.out _)) h0 (by omega) HS.out).mono ?_
  rintro e w1 ⟨rfl, hb1⟩
  have HB1 : Hid (Below w.heap.size w w1) := (HBX.out _).trans (hb1.mono (HBX.out _).size)
  clear hb1
  rw [← HE.out]
  go_wp2_with fail
  go_ret
  exact ⟨by rw [HE.out]; rfl, HB1.out⟩
end Go.Proofs.Ytidijbnoaeopdaa
/-
  THE LAWS' COPY OF A PROGRAM LIES IN PLAIN BLOCKS.
-/
namespace Go.Proofs.Ytidijbnoaeopdaa
set_option linter.unusedVariables false
set_option linter.unusedSimpArgs false
open Go.RowKit

/-- plain blocks from lo on -/
def BtP (lo : Nat) (w : World) : Nat → Prop := fun k => lo ≤ k ∧ Pl w k
theorem Pl.set {w : World} {k : Nat} {a : Addr} (h : Pl w k) (hk : k ≠ a.block) (u : Value) : Pl (w.setCell a u) k :=
  ⟨by rw [size_setCell]; exact h.1, by obtain ⟨C, T, e⟩ := h.2; exact ⟨C, T, (Below.heap_setCell _ _ _ _ hk).trans e⟩⟩
theorem row_plain {w : World} {b n : Nat} {T : TypeId} {f : Nat → Value} (h : w.rowIs b T n f) : ∃ C T', w.heap[b]? = some (.cells C T' (0, 0)) := by
  obtain ⟨C, h1, -⟩ := h
  exact ⟨C, T, h1⟩
/-- programs that lie in plain blocks -/
abbrev DInP (w : World) (ds : List Df) (v : Value) : Prop := DefsOn w (Pl w) ds v
theorem DefsOn.inP {w : World} {ds : List Df} {v : Value} (h : DInP w ds v) : DIn w ds v := h.mono (fun k hk => hk.1) (fun _ _ => rfl)
theorem DefsOn.plain {w : World} {lo : Nat} {ds : List Df} {v : Value} (h : DefsOn w (BtP lo w) ds v) : DInP w ds v := h.mono (fun k hk => hk.2) (fun _ _ => rfl)
end Go.Proofs.Ytidijbnoaeopdaa
/-
  THE LAWS' COPY OF A PROGRAM, WITH ALL ITS BLOCKS: they are distinct.
-/
namespace Go.Proofs.Ytidijbnoaeopdaa
set_option linter.unusedVariables false
set_option linter.unusedSimpArgs false
open Go.RowKit

/-- a function whose body's operands have these blocks -/
def DfFp (w : World) (d : Df) (fp : List Nat) (a b c e : Value) : Prop := a = .int .i64 d.1 ∧ I64 d.1 ∧ TrFp w 37 d.2 fp b c e
/-- a program in a row of its own, with all its blocks -/
def DefsFp (w : World) (ds : List Df) (fp : List Nat) (v : Value) : Prop :=
  ∃ (bl : Nat) (f : Nat → Value) (fps : List (List Nat)), v = .slice (some ⟨bl, 0, none⟩) ds.length ds.length ∧ ds.length ≤ 1048576 ∧ w.rowIs bl 66 (ds.length * 4) f ∧ fp = bl :: fps.flatten ∧ fps.length = ds.length ∧ ∀ i (hi : i < ds.length) (hi2 : i < fps.length), DfFp w ds[i] fps[i] (f (i * 4)) (f (i * 4 + 1)) (f (i * 4 + 2)) (f (i * 4 + 3))
theorem DefsFp.keep {w w' : World} {ds : List Df} {fp : List Nat} {v : Value} (h : DefsFp w ds fp v) (hw : ∀ k ∈ fp, w'.heap[k]? = w.heap[k]?) : DefsFp w' ds fp v := by
  obtain ⟨bl, f, fps, e, l1, hr, rfl, hl, hi⟩ := h
  refine ⟨bl, f, fps, e, l1, hr.of_block (hw bl (List.mem_cons_self ..)), rfl, hl, fun i h1 h2 => ?_⟩
  obtain ⟨a1, a2, a3⟩ := hi i h1 h2
  exact ⟨a1, a2, TrFp.keep _ _ _ _ _ (fun k hk => hw k (List.mem_cons_of_mem _ (List.mem_flatten.2 ⟨_, List.getElem_mem h2, hk⟩))) a3⟩
theorem DefsFp.lt {w : World} {ds : List Df} {fp : List Nat} {v : Value} (h : DefsFp w ds fp v) : ∀ k ∈ fp, k < w.heap.size := by
  obtain ⟨bl, f, fps, e, l1, hr, rfl, hl, hi⟩ := h
  intro k hk
  rcases List.mem_cons.1 hk with rfl | hk
  · exact hr.lt
  · obtain ⟨g, hg, hk⟩ := List.mem_flatten.1 hk
    obtain ⟨i, h2, rfl⟩ := List.getElem_of_mem hg
    exact TrFp.lt _ _ _ _ _ (hi i (by omega) h2).2.2 k hk
theorem DefsFp.on {w : World} {S : Nat → Prop} {ds : List Df} {fp : List Nat} {v : Value} (h : DefsFp w ds fp v) (hS : ∀ k ∈ fp, S k) : DefsOn w S ds v := by
  obtain ⟨bl, f, fps, rfl, l1, hr, rfl, hl, hi⟩ := h
  refine ⟨_, _, rfl, Nat.le_refl _, by unfold maxLen; omega, Or.inr ⟨bl, 0, rfl, hS bl (List.mem_cons_self ..), fun i h1 => ?_⟩⟩
  obtain ⟨a1, a2, a3⟩ := hi i h1 (by omega)
  refine ⟨f (i * 4), f (i * 4 + 1), f (i * 4 + 2), f (i * 4 + 3), ?_, ?_, ?_, ?_, a1, a2, TrFp.on _ _ _ _ _ (fun k hk => hS k (List.mem_cons_of_mem _ (List.mem_flatten.2 ⟨_, List.getElem_mem _, hk⟩))) a3⟩
  · simpa using hr.cell (i := i * 4) (by omega)
  · simpa [Nat.zero_add] using hr.cell (i := i * 4 + 1) (by omega)
  · simpa [Nat.zero_add] using hr.cell (i := i * 4 + 2) (by omega)
  · simpa [Nat.zero_add] using hr.cell (i := i * 4 + 3) (by omega)
theorem DefsFp.plain {w : World} {ds : List Df} {fp : List Nat} {v : Value} (h : DefsFp w ds fp v) : ∀ k ∈ fp, Pl w k := by
  obtain ⟨bl, f, fps, rfl, l1, hr, rfl, hl, hi⟩ := h
  intro k hk
  rcases List.mem_cons.1 hk with rfl | hk
  · obtain ⟨C, T', e⟩ := row_plain hr
    exact ⟨hr.lt, C, T', e⟩
  · obtain ⟨g, hg, hk⟩ := List.mem_flatten.1 hk
    obtain ⟨i, h2, rfl⟩ := List.getElem_of_mem hg
    exact TrFp.plain _ _ _ _ _ (hi i (by omega) h2).2.2 k hk

/-- trees of a call's own can be read -/
theorem fresh_inn {w : World} {lo : Nat} {ks : List Tr} {c : Value} (h : Fresh w lo ks c) : In w ks c := by
  obtain ⟨fp, h1, -, -⟩ := h
  exact h1.on h1.lt
theorem Fresh.down {w : World} {lo lo' : Nat} {ks : List Tr} {c : Value} (h : Fresh w lo ks c) (hl : lo' ≤ lo) : Fresh w lo' ks c := by
  obtain ⟨fp, h1, h2, h3⟩ := h
  exact ⟨fp, h1, h2, fun k hk => Nat.le_trans hl (h3 k hk)⟩
theorem Fresh.setC {w : World} {lo : Nat} {ks : List Tr} {c : Value} (h : Fresh w lo ks c) {a : Addr} (ha : a.block < lo) (u : Value) : Fresh (w.setCell a u) lo ks c := by
  obtain ⟨fp, h1, h2, h3⟩ := h
  exact ⟨fp, h1.keep fun k hk => Below.heap_setCell _ _ _ _ (by have := h3 k hk; omega), h2, h3⟩
/-! ### The copy -/
def NewDfF (a o n : Int) (ks : List Tr) (w : World) (e : Ending) (w' : World) : Prop := ∃ v, e = .returned (.agg #[.int .i64 a, .int .i64 o, .int .i64 n, v]) ∧ Fresh w' w.heap.size ks v ∧ Below w.heap.size w w'
def NewDefsF (ds : List Df) (w : World) (e : Ending) (w' : World) : Prop := ∃ v fp, e = .returned v ∧ DefsFp w' ds fp v ∧ fp.Nodup ∧ (∀ k ∈ fp, w.heap.size ≤ k) ∧ Below w.heap.size w w'

set_option maxHeartbeats 400000 in
theorem toDef_callsF (a o n : Int) (ks : List Tr) (c : Value) (w : World) (hk : In w ks c) (hsz : szL ks ≤ 1048576) : Calls Try.prog 33 #[.agg #[.int .i64 a, .int .i64 o, .int .i64 n, c]] w (NewDfF a o n ks w) := by
  have HK : Hid (In w ks c) := hk
  clear hk
  go_enter Try.func33, Try.ntmps33
  go_wp2_with fail
  refine (fto_calls ks _ _ c _ ?_ hsz).mono ?_
  · exact HK.out.next ((((Below.refl _ _).alloc (Nat.le_refl _) _).alloc (by simp) _).alloc (by simp; omega) _)
  rintro e w1 ⟨v, rfl, hv, hb⟩
  obtain ⟨hc, hf⟩ := bcell hb
  have hz : w.heap.size + 2 < w1.heap.size := by have := hb.size; simp at this; omega
  have hlo : w.heap.size + 3 ≤ w1.heap.size := by omega
  have HV : Hid (Fresh w1 (w.heap.size + 3) ks v) := by obtain ⟨fp, h1, h2, h3⟩ := hv; exact ⟨fp, h1, h2, fun k hk => by have := h3 k hk; simpa using this⟩
  have hv := HV.out
  have HB : Hid (Below w.heap.size w w1) := ((((Below.refl _ _).alloc (Nat.le_refl _) _).alloc (by simp) _).alloc (by simp; omega) _).trans (hb.mono (by simp; omega))
  obtain ⟨ad, cap, rfl, -, -, -⟩ := (fresh_inn hv)
  clear hb hv
  go_wp2_with fail
  refine bodyPost_ret (v := .agg #[.int .i64 a, .int .i64 o, .int .i64 n, .slice ad ks.length cap]) (by simp [results, Try.results33, go_sem, hc, hf, hz]) rfl ⟨_, rfl, ?_, ?_⟩
  · refine Fresh.down (lo := w.heap.size + 3) ?_ (by omega)
    repeat' (refine Fresh.setC ?_ (by simp <;> omega) _)
    exact HV.out
  · repeat' (refine Below.setCell ?_ (by simp <;> omega) _)
    exact HB.out

/-- what holds of the copy of a program behind k rounds -/
def ToDRelF (ds : List Df) (w : World) (k : Nat) (wr : World) : Prop :=
  ∃ (f : Nat → Value) (fps : List (List Nat)), wr.rowIs w.heap.size 66 (ds.length * 4) f ∧ fps.length = k ∧ fps.flatten.Nodup ∧ (∀ x ∈ fps.flatten, w.heap.size + 1 ≤ x ∧ x < wr.heap.size) ∧ (∀ j (_ : j < k) (hj : j < ds.length) (hj2 : j < fps.length), DfFp wr ds[j] fps[j] (f (j * 4)) (f (j * 4 + 1)) (f (j * 4 + 2)) (f (j * 4 + 3))) ∧ Below w.heap.size w wr

theorem toDRel_startF (ds : List Df) (w : World) (C : Array Value) (h : C.size = ds.length * 4) : ToDRelF ds w 0 (w.alloc (.cells C 66)) := by
  refine ⟨fun i => C.getD i undef, [], ⟨C, Deep.blk_alloc_new _ _, h, fun i hi => ?_⟩, rfl, by simp, by simp, fun j hj => absurd hj (by omega), (Below.refl _ _).alloc (Nat.le_refl _) _⟩
  simp [Array.getElem?_eq_getElem (h ▸ hi : i < C.size), Array.getD, (h ▸ hi : i < C.size)]

theorem toDRel_stepF (ds : List Df) (w wr w1 : World) (k : Nat) (hk : k < ds.length) (h : ToDRelF ds w k wr) (v : Value) (hb : Below wr.heap.size wr w1) (hv : Fresh w1 wr.heap.size (ds[k]).2.kids v) (ha : I64 (ds[k]).1) (ho : I64 (ds[k]).2.op) (hn : I64 (ds[k]).2.num) :
    ToDRelF ds w (k + 1) (stD w1 w.heap.size k ds[k] v) := by
  obtain ⟨f, fps, hr, hl, hnd, hlo, ht, hbw⟩ := h
  obtain ⟨fp, g1, g2, g3⟩ := hv
  have hlt := hr.lt
  have hsz := hb.size
  have hr1 : w1.rowIs w.heap.size 66 (ds.length * 4) f := hr.of_block (hb.block _ hlt)
  have hbl : ∀ x, x ≠ w.heap.size → (stD w1 w.heap.size k ds[k] v).heap[x]? = w1.heap[x]? := fun x hx => by
    unfold stD
    rw [Below.heap_setCell _ _ _ _ hx, Below.heap_setCell _ _ _ _ hx, Below.heap_setCell _ _ _ _ hx, Below.heap_setCell _ _ _ _ hx]
  have hss : (stD w1 w.heap.size k ds[k] v).heap.size = w1.heap.size := by unfold stD; rw [size_setCell, size_setCell, size_setCell, size_setCell]
  have hfl : (fps ++ [fp]).flatten = fps.flatten ++ fp := by simp
  refine ⟨_, fps ++ [fp], (((hr1.set (k * 4) _).set (k * 4 + 1) _).set (k * 4 + 2) _).set (k * 4 + 3) _, by simp [hl], ?_, ?_, fun j hj hjl hj2 => ?_, ?_⟩
  · rw [hfl, List.nodup_append]
    exact ⟨hnd, g2, fun a ha b hb e => by subst e; have := (hlo a ha).2; have := g3 a hb; omega⟩
  · intro x hx
    rw [hfl] at hx
    rw [hss]
    rcases List.mem_append.1 hx with hx | hx
    · have := hlo x hx; omega
    · have := g3 x hx; have := g1.lt x hx; omega
  · by_cases hjk : j = k
    · subst hjk
      have e : (fps ++ [fp])[j] = fp := by rw [List.getElem_append_right (by omega)]; simp [hl]
      rw [e]
      refine ⟨by simp, ha, ?_⟩
      simp only [if_neg (show ¬ (j * 4 + 1 = j * 4 + 3) by omega), if_neg (show ¬ (j * 4 + 1 = j * 4 + 2) by omega), if_neg (show ¬ (j * 4 + 2 = j * 4 + 3) by omega), if_true]
      exact trFp_iff.2 ⟨rfl, rfl, ho, hn, g1.keep fun x hx => hbl x (by have := g3 x hx; omega)⟩
    · have hjl2 : j < fps.length := by omega
      obtain ⟨h01, h02, h03⟩ := ht j (by omega) hjl hjl2
      have e : (fps ++ [fp])[j] = fps[j] := List.getElem_append_left hjl2
      rw [e]
      have keep := TrFp.keep _ _ _ _ _ (w' := stD w1 w.heap.size k ds[k] v) (fun x hx => by have := hlo x (List.mem_flatten.2 ⟨_, List.getElem_mem hjl2, hx⟩); exact (hbl x (by omega)).trans (hb.block x this.2)) h03
      have e1 : ∀ m, m < 4 → j * 4 + m ≠ k * 4 + 3 ∧ j * 4 + m ≠ k * 4 + 2 ∧ j * 4 + m ≠ k * 4 + 1 ∧ j * 4 + m ≠ k * 4 := fun m hm => by omega
      have a0 := e1 0 (by omega)
      have a1 := e1 1 (by omega)
      have a2 := e1 2 (by omega)
      have a3 := e1 3 (by omega)
      simp only [Nat.add_zero] at a0
      refine ⟨?_, h02, ?_⟩
      · simp only [if_neg a0.1, if_neg a0.2.1, if_neg a0.2.2.1, if_neg a0.2.2.2]; exact h01
      · simp only [if_neg a1.1, if_neg a1.2.1, if_neg a1.2.2.1, if_neg a1.2.2.2, if_neg a2.1, if_neg a2.2.1, if_neg a2.2.2.1, if_neg a2.2.2.2, if_neg a3.1, if_neg a3.2.1, if_neg a3.2.2.1, if_neg a3.2.2.2]
        exact keep
  · unfold stD
    exact ((((hbw.trans (hb.mono (Nat.le_of_lt hlt))).setCell (by simp) _).setCell (by simp) _).setCell (by simp) _).setCell (by simp) _

theorem toDRel_endF (ds : List Df) (w wr : World) (h : ToDRelF ds w ds.length wr) (hl : ds.length ≤ 1048576) : NewDefsF ds w (.returned (.slice (some ⟨w.heap.size, 0, none⟩) ds.length ds.length)) wr := by
  obtain ⟨f, fps, hr, h1, h2, h3, h4, h5⟩ := h
  refine ⟨_, w.heap.size :: fps.flatten, rfl, ⟨w.heap.size, f, fps, rfl, hl, hr, rfl, h1, fun i hi hi2 => h4 i hi hi hi2⟩, ?_, ?_, h5⟩
  · rw [List.nodup_cons]
    exact ⟨fun hm => by have := (h3 _ hm).1; omega, h2⟩
  · intro k hk
    rcases List.mem_cons.1 hk with rfl | hk
    · exact Nat.le_refl _
    · have := (h3 k hk).1; omega

set_option maxHeartbeats 400000 in
theorem toDefS_callsF (ds : List Df) (c : Value) (w : World) (hk : DIn w ds c) (hsz : szL (bodies ds) ≤ 1048576) : Calls Try.prog 9 #[c] w (NewDefsF ds w) := by
  have HK : Hid (DIn w ds c) := hk
  have HZ : Hid (szL (bodies ds) ≤ 1048576) := hsz
  have hlen : ds.length ≤ 1048576 := by rw [szL_sum, bodies_length] at hsz; omega
  clear hsz
  obtain ⟨ad, cap, rfl, -, -, -⟩ := hk
  obtain ⟨C, hC, hmk⟩ := make_defs ds.length hlen
  have HC : Hid (C.size = ds.length * 4) := hC
  clear hC
  go_enter Try.func9, Try.ntmps9
  go_wp2_with fail
  go_loopw [4] (fun i wr => ∃ k : Nat, k ≤ ds.length ∧ i = .int .i64 k ∧ ToDRelF ds w k wr) (fun i _ => ds.length - (intOf i).toNat)
  case atStart => exact ⟨0, Nat.zero_le _, rfl, toDRel_startF ds w C HC.out⟩
  case round =>
    obtain ⟨k, hk, rfl, hto⟩ := hrel
    have HT : Hid (ToDRelF ds w k wr) := hto
    obtain ⟨f, fps0, hr0, -, -, -, -, hb⟩ := hto
    have hlt0 := hr0.lt
    by_cases hlt : k < ds.length
    · obtain ⟨bl, off, r, rfl, c0, c1, c2, c3, ia, io, iN, hkk⟩ := (HK.out.next hb).at k hlt
      have HKK : Hid (In wr ds[k].2.kids r) := hkk
      have hkz : szL ds[k].2.kids ≤ 1048576 := by have := szL_body_le ds k hlt; have := HZ.out; omega
      have HR : Hid (wr.rowIs w.heap.size 66 (ds.length * 4) f) := hr0
      clear hkk hr0 hb
      go_wp2_with fail
      refine (toDef_callsF _ _ _ ds[k].2.kids r _ HKK.out hkz).mono ?_
      rintro e w1 ⟨v, rfl, hv, hb1⟩
      have hr1 : w1.rowIs w.heap.size 66 (ds.length * 4) f := HR.out.of_block (hb1.block _ hlt0)
      have HS : Hid (ToDRelF ds w (k + 1) (stD w1 w.heap.size k ds[k] v)) := toDRel_stepF ds w wr w1 k hlt HT.out v hb1 hv ia io iN
      obtain ⟨ad2, cap2, rfl, _, _, _⟩ := (fresh_inn hv)
      have g0 := hr1.cell (i := k * 4) (by omega)
      have g1 := hr1.cell (i := k * 4 + 1) (by omega)
      have g2 := hr1.cell (i := k * 4 + 2) (by omega)
      have g3 := hr1.cell (i := k * 4 + 3) (by omega)
      have f0 := hr1.frozen (k * 4)
      have f1 := hr1.frozen (k * 4 + 1)
      have f2 := hr1.frozen (k * 4 + 2)
      have f3 := hr1.frozen (k * 4 + 3)
      clear hr1 hb1 hv
      go_wp2_with fail
      go_roundw
      case rel => exact ⟨k + 1, by omega, by go_num, HS.out⟩
      case measure => simp [intOf]; omega
    · have hke : ds.length = k := by omega
      have HV : Hid (NewDefsF ds w (.returned (.slice (some ⟨w.heap.size, 0, none⟩) ds.length ds.length)) wr) := by subst hke; exact toDRel_endF ds w wr HT.out hlen
      clear hke hr0 hb
      go_wp2_with fail
      go_ret
      exact HV.out
end Go.Proofs.Ytidijbnoaeopdaa
