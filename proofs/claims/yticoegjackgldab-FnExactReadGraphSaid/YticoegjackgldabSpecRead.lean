/-
  THE MODEL's l3Read AND ReadGraph.
-/
import Derived.Test.YticoegjackgldabReadT
import Derived.Test.YticoegjackgldabSpecFollow
import Derived.Test.YticoegjackgldabRdPush
import Derived.Deep.DeepCutAuto
import Derived.Deep.RegionWith
namespace Go.Proofs.Yticoegjackgldab
set_option linter.unusedVariables false
set_option linter.unusedSimpArgs false
open Go.RowKit

/-- what l3Read hands back -/
def ReadRes (o : Option (Tr × Nat)) (w : World) (e : Ending) (w' : World) : Prop :=
  match o with
  | none => ∃ (a b : Int) (ad : Option Addr) (n c : Nat), e = .returned (.tuple #[.agg #[.int .i64 a, .int .i64 b, .slice ad n c], .int .i64 (-1)]) ∧ Below w.heap.size w w'
  | some (t, l) => ∃ v, e = .returned (.tuple #[.agg #[.int .i64 t.op, .int .i64 t.num, v], .int .i64 (l : Int)]) ∧ Fresh w' w.heap.size t.kids v ∧ I64 t.op ∧ I64 t.num ∧ Below w.heap.size w w'
def RdSaid (g : List Ce) (d : Nat) : Prop := ∀ (v : Value) (a l : Nat) (w : World), CIn w g v → a < g.length → l ≤ 1000 →
  Calls Try.prog 62 #[v, .int .i64 (a : Int), .int .i64 (d : Int), .int .i64 (l : Int)] w (ReadRes (readT g d a l) w)

/-- what holds behind some rounds of the loop over the operands -/
def RdRel (o n : Int) (w1 : World) (res : Option (List Tr × Nat)) (left : Value) (wr : World) : Prop :=
  match res with
  | some (ts, l') => left = .int .i64 (l' : Int) ∧ ∃ v, OwnF wr (w1.heap.size + 1) wr.heap.size ts v ∧ wr.heap[w1.heap.size]? = some (.cells #[.int .i64 o, .int .i64 n, v] 28)
  | none => left = .int .i64 (-1) ∧ ∃ ad m c, wr.heap[w1.heap.size]? = some (.cells #[.int .i64 o, .int .i64 n, .slice ad m c] 28)
theorem rdRel_start (o n : Int) (w1 : World) (l : Nat) : RdRel o n w1 (some ([], l)) (.int .i64 (l : Int)) (w1.alloc (.cells #[.int .i64 o, .int .i64 n, .slice none 0 0] 28)).drew ∧ Below w1.heap.size w1 (w1.alloc (.cells #[.int .i64 o, .int .i64 n, .slice none 0 0] 28)).drew :=
  ⟨⟨rfl, _, OwnF.nil _ _ _, Deep.blk_alloc_new _ _⟩, (box_below _ _).drew⟩

set_option maxRecDepth 100000 in
set_option maxHeartbeats 1600000 in
theorem rd_step (g : List Ce) (hg : graphB g 6 = true) (d : Nat) (hd : d ≤ 16) (ih : RdSaid g d) : RdSaid g (d + 1) := by
  intro v a l w hk ha hl
  have HK : Hid (CIn w g v) := hk
  have HG : Hid (graphB g 6 = true) := hg
  have HI : Hid (RdSaid g d) := ih
  obtain ⟨ad, cap, rfl, -, hm, -⟩ := hk
  unfold maxLen at hm
  have h400 : g.length ≤ 400 := graphB_len hg
  clear hg ih
  go_enter Try.func62, Try.ntmps62
  go_wp2_with fail
  refine (l3Follow_calls g a _ _ (HK.out.next (box_below _ _)) ⟨6, HG.out⟩ ha).mono ?_
  rintro e w1 ⟨rfl, hb1⟩
  rw [follow_enough HG.out a ha]
  have HB1 : Hid (Below w.heap.size w w1) := (box_below _ _).trans (hb1.mono (by rw [Deep.nblk_alloc]; omega))
  have hz1 : w.heap.size < w1.heap.size := by have := hb1.size; rw [Deep.nblk_alloc] at this; omega
  have hr1 : w1.heap[w.heap.size]? = some (.cells #[.int .i64 0, .int .i64 0, .slice none 0 0] 28) := (hb1.block _ (by rw [Deep.nblk_alloc]; omega)).trans (Deep.blk_alloc_new _ _)
  have HR1 : Hid (w1.heap[w.heap.size]? = some (.cells #[.int .i64 0, .int .i64 0, .slice none 0 0] 28)) := hr1
  clear hb1
  cases hf : followN g g.length a with
  | none =>
    have HV : Hid (readT g (d + 1) a l = none) := readT_fol hf
    have e1 : folI none = -1 := rfl
    rw [e1]
    clear hf
    have r0 := cell_of_blk hr1 0 _ rfl
    have r1 := cell_of_blk hr1 1 _ rfl
    have r2 := cell_of_blk hr1 2 _ rfl
    have rf := fun i => frz_of_blk hr1 i
    clear hr1
    go_wp2_with fail
    refine bodyPost_ret (v := .tuple #[.agg #[.int .i64 0, .int .i64 0, .slice none 0 0], .int .i64 (-1)]) (by simp [results, Try.results62, go_sem, r0, r1, r2, rf]) rfl ?_
    rw [HV.out]
    exact ⟨0, 0, none, 0, 0, rfl, ((HB1.out.setCell (Nat.le_refl _) _).setCell (Nat.le_refl _) _).setCell (Nat.le_refl _) _⟩
  | some b =>
    obtain ⟨hbl, hbo⟩ := followN_lt HG.out _ _ _ ha hf
    have HF : Hid (followN g g.length a = some b) := hf
    have e1 : folI (some b) = (b : Int) := rfl
    rw [e1]
    clear hf hbo
    have hbn : ¬ ((b : Int) < 0) := by omega
    have hdn : ¬ ((d : Int) + 1 < 1) := by omega
    rcases l with _ | l
    · have HV : Hid (readT g (d + 1) a 0 = none) := readT_zero
      have r0 := cell_of_blk hr1 0 _ rfl
      have r1 := cell_of_blk hr1 1 _ rfl
      have r2 := cell_of_blk hr1 2 _ rfl
      have rf := fun i => frz_of_blk hr1 i
      clear hr1
      go_wp2_with fail
      refine bodyPost_ret (v := .tuple #[.agg #[.int .i64 0, .int .i64 0, .slice none 0 0], .int .i64 (-1)]) (by simp [results, Try.results62, go_sem, r0, r1, r2, rf]) rfl ?_
      rw [HV.out]
      exact ⟨0, 0, none, 0, 0, rfl, ((HB1.out.setCell (Nat.le_refl _) _).setCell (Nat.le_refl _) _).setCell (Nat.le_refl _) _⟩
    · have hln : ¬ (((l + 1 : Nat) : Int) < 1) := by omega
      obtain ⟨bl, off, r2, rfl, c0, c1, c2, io, iN, hkk⟩ := (HK.out.next HB1.out).at b hbl
      obtain ⟨ad3, cap3, rfl, -, -, -⟩ := id hkk
      clear hr1
      have HKK : Hid (IIn w1 g[b].kids (.slice ad3 g[b].kids.length cap3)) := hkk
      have HIO : Hid (I64 g[b].op ∧ I64 g[b].num) := ⟨io, iN⟩
      have C2 : Hid (w1.cell? ⟨bl, off + b * 3 + 2, none⟩ = some (.slice ad3 g[b].kids.length cap3)) := c2
      have HBL : Hid (bl < w1.heap.size) := cell_lt c2
      obtain ⟨iE, zE, hIE⟩ := infoE3
      have HE : Hid (Try.prog.info? 28 = some iE ∧ iE.zero = some zE ∧ iE.size = 3 ∧ iE.bytes = 40 ∧ zE.cells.size = 3) := hIE
      clear hkk io iN hIE
      go_upto_region 5 with fail
      go_cut [10] (fun s10 wx => s10 = .pointer (some ⟨w1.heap.size, 0, none⟩) ∧ wx = (w1.alloc (.cells #[.int .i64 g[b].op, .int .i64 g[b].num, .slice none 0 0] 28)).drew)
      case first =>
        have q0 := fun k => old_cell (w := w1.drewN k) c0 (.cells #[.int .i64 0, .int .i64 0, .slice none 0 0] 28)
        have q1 := fun k => old_cell (w := w1.drewN k) c1 (.cells #[.int .i64 0, .int .i64 0, .slice none 0 0] 28)
        have q2 := old_cell c0 (.cells #[.int .i64 0, .int .i64 0, .slice none 0 0] 28)
        have q3 := old_cell c1 (.cells #[.int .i64 0, .int .i64 0, .slice none 0 0] 28)
        have q4 := old_cell (w := w1.drew) c0 (.cells #[.int .i64 0, .int .i64 0, .slice none 0 0] 28)
        have q5 := old_cell (w := w1.drew) c1 (.cells #[.int .i64 0, .int .i64 0, .slice none 0 0] 28)
        go_region_with (fail)
        all_goals
          go_wp2_with fail
          go_meet
          exact ⟨rfl, rfl⟩
      case rest =>
      obtain ⟨rfl, hwc⟩ := hcut
      have HW2 : Hid (RdRel g[b].op g[b].num w1 (some ([], l)) (.int .i64 (l : Int)) wc ∧ Below w1.heap.size w1 wc) := by rw [hwc]; exact rdRel_start _ _ _ _
      clear c0 c1 c2 hwc
      go_wp2_with fail
      go_loopw [3, 11] (fun left i wr => ∃ k : Nat, k ≤ g[b].kids.length ∧ i = .int .i64 k ∧ RdRel g[b].op g[b].num w1 (readKids (readT g d) ((kidsN g b).take k) l) left wr ∧ Below w1.heap.size w1 wr) (fun _ i _ => g[b].kids.length - (intOf i).toNat)
      case atStart => exact ⟨0, Nat.zero_le _, rfl, HW2.out⟩
      case round =>
        obtain ⟨k, hk, rfl, hrd, hb⟩ := hrel
        have HB : Hid (Below w1.heap.size w1 wr) := hb
        have hk3 : g[b].kids.length ≤ 3 := (kids_graph HG.out b hbl).1
        have HKN : Hid ((kidsN g b).length = g[b].kids.length) := by rw [Hid, kidsN_at b hbl]; simp
        have hrw := (hb.block w.heap.size hz1).trans HR1.out
        have r0 := cell_of_blk hrw 0 _ rfl
        have r1 := cell_of_blk hrw 1 _ rfl
        have r2 := cell_of_blk hrw 2 _ rfl
        have rf := fun i => frz_of_blk hrw i
        have HBW : Hid (Below w.heap.size w wr) := HB1.out.trans (hb.mono (Nat.le_of_lt hz1))
        clear hrw
        cases hres : readKids (readT g d) ((kidsN g b).take k) l with
        | none =>
          rw [hres] at hrd
          obtain ⟨rfl, adx, mx, cx, hbx⟩ := hrd
          have HV : Hid (readT g (d + 1) a (l + 1) = none) := readT_bad HF.out (readKids_none_take hres)
          have c2 := (hb.cell (p := ⟨bl, off + b * 3 + 2, none⟩) HBL.out).trans C2.out
          have o0 := cell_of_blk hbx 0 _ rfl
          have o1 := cell_of_blk hbx 1 _ rfl
          have o2 := cell_of_blk hbx 2 _ rfl
          clear hb hbx hres
          go_wp2_with fail
          all_goals
            refine bodyPost_ret (v := .tuple #[.agg #[.int .i64 g[b].op, .int .i64 g[b].num, .slice adx mx cx], .int .i64 (-1)]) (by simp [results, Try.results62, go_sem, r0, r1, r2, rf]) rfl ?_
            rw [HV.out]
            exact ⟨_, _, _, _, _, rfl, ((HBW.out.setCell (Nat.le_refl _) _).setCell (Nat.le_refl _) _).setCell (Nat.le_refl _) _⟩
        | some q =>
          obtain ⟨ts, l'⟩ := q
          rw [hres] at hrd
          obtain ⟨rfl, v, hof, hbx⟩ := hrd
          have HOF : Hid (OwnF wr (w1.heap.size + 1) wr.heap.size ts v) := hof
          have HBX : Hid (wr.heap[w1.heap.size]? = some (.cells #[.int .i64 g[b].op, .int .i64 g[b].num, v] 28)) := hbx
          have HRS : Hid (readKids (readT g d) ((kidsN g b).take k) l = some (ts, l')) := hres
          have hll : l' ≤ l := readKids_left (fun k l t l' => readT_left g d k l t l') _ _ _ _ hres
          have c2 := (hb.cell (p := ⟨bl, off + b * 3 + 2, none⟩) HBL.out).trans C2.out
          have hwl : w1.heap.size < wr.heap.size := cellsOf_lt hbx
          by_cases hlt : k < g[b].kids.length
          · obtain ⟨kk, hk1, hk2, hk4⟩ := kidsN_get HG.out b hbl k hlt
            obtain ⟨bl3, off3, rfl, d0w⟩ := HKK.out.at k hlt
            have d0 := (hb.cell (p := ⟨bl3, off3 + k, none⟩) (cell_lt d0w)).trans d0w
            rw [hk1] at d0
            have HTK : Hid ((kidsN g b).take (k + 1) = (kidsN g b).take k ++ [kk]) := take_snoc hk4
            have HKW : Hid (CIn wr g (.slice (some ⟨bl, off, none⟩) g.length cap)) := HK.out.next (HB1.out.trans (hb.mono HB1.out.size))
            have hdd : (1 : Int) ≤ (d : Int) + 1 := by omega
            clear hk1 hk4 d0w hb hres hof hbx
            go_wp2_with fail
            refine (HI.out _ kk l' _ HKW.out hk2 (by omega)).mono ?_
            rintro e w2 hres2
            cases hr2 : readT g d kk l' with
            | none =>
              rw [hr2] at hres2
              obtain ⟨x, y, ad5, n5, c5, rfl, hb2⟩ := hres2
              have HV : Hid (readKids (readT g d) ((kidsN g b).take (k + 1)) l = none) := by rw [Hid, HTK.out]; exact readKids_none_snoc HRS.out hr2
              have HB2 : Hid (Below wr.heap.size wr w2) := hb2
              clear hb2
              obtain ⟨xs, hx⟩ := (HOF.out.next (w' := (w2.alloc (.cells #[.int .i64 x, .int .i64 y, .slice ad5 n5 c5] 28)).alloc (.cells #[.int .i64 x, .int .i64 y, .slice ad5 n5 c5] 28)) (Nat.le_refl _) (Nat.le_refl _) (fun j h1 h2 => (Deep.blk_alloc_lt _ _ _ (by rw [Deep.nblk_alloc]; have := HB2.out.size; omega)).trans ((Deep.blk_alloc_lt _ _ _ (by have := HB2.out.size; omega)).trans (HB2.out.block j h2)))).row
              have HX : Hid (((w2.alloc (.cells #[.int .i64 x, .int .i64 y, .slice ad5 n5 c5] 28)).alloc (.cells #[.int .i64 x, .int .i64 y, .slice ad5 n5 c5] 28)).ownsRow (w1.heap.size + 1) 28 3 v ts.length xs) := hx
              have hbx4 : ((w2.alloc (.cells #[.int .i64 x, .int .i64 y, .slice ad5 n5 c5] 28)).alloc (.cells #[.int .i64 x, .int .i64 y, .slice ad5 n5 c5] 28)).heap[w1.heap.size]? = some (.cells #[.int .i64 g[b].op, .int .i64 g[b].num, v] 28) := (Deep.blk_alloc_lt _ _ _ (by rw [Deep.nblk_alloc]; have := HB2.out.size; omega)).trans ((Deep.blk_alloc_lt _ _ _ (by have := HB2.out.size; omega)).trans ((HB2.out.block _ hwl).trans HBX.out))
              have HBX4 : Hid (((w2.alloc (.cells #[.int .i64 x, .int .i64 y, .slice ad5 n5 c5] 28)).alloc (.cells #[.int .i64 x, .int .i64 y, .slice ad5 n5 c5] 28)).heap[w1.heap.size]? = some (.cells #[.int .i64 g[b].op, .int .i64 g[b].num, v] 28)) := hbx4
              have hbx3 : (w2.alloc (.cells #[.int .i64 x, .int .i64 y, .slice ad5 n5 c5] 28)).heap[w1.heap.size]? = some (.cells #[.int .i64 g[b].op, .int .i64 g[b].num, v] 28) := (Deep.blk_alloc_lt _ _ _ (by have := HB2.out.size; omega)).trans ((HB2.out.block _ hwl).trans HBX.out)
              have p2 := cell_of_blk hbx3 2 _ rfl
              have HZ4 : Hid (((w2.alloc (.cells #[.int .i64 x, .int .i64 y, .slice ad5 n5 c5] 28)).alloc (.cells #[.int .i64 x, .int .i64 y, .slice ad5 n5 c5] 28)).heap.size = w2.heap.size + 2) := by rw [Hid, Deep.nblk_alloc, Deep.nblk_alloc]
              have htl : ts.length < 1000000 := by have h1 := readKids_len _ _ _ _ HRS.out; rw [List.length_take] at h1; have h2 : g[b].kids.length ≤ 3 := (kids_graph HG.out b hbl).1; omega
              clear hx hbx3 hbx4 hr2 c2 d0
              go_wp2_with (at_builtin; go_must (refine wpList_append_where _ rfl _ _ 26 rfl (w1.heap.size + 1) 28 iE zE 3 40 Try.underlying26 HE.out.1 HE.out.2.1 HE.out.2.2.1 HE.out.2.2.2.1 HE.out.2.2.2.2 (by decide) v ts.length xs rfl HX.out ⟨w2.heap.size + 1, 0, none⟩ 1 1 [.int .i64 x, .int .i64 y, .slice ad5 n5 c5] rfl rfl (by have h := news3 (w2.alloc (.cells #[.int .i64 x, .int .i64 y, .slice ad5 n5 c5] 28)) (.int .i64 x) (.int .i64 y) (.slice ad5 n5 c5); rw [Deep.nblk_alloc] at h; exact h) (by simp [Value.oneCell']) (by unfold maxLen; omega) (by omega) (by rw [HZ4.out]; have := HB2.out.size; omega) (by omega) ?_); go_must (intro v' w5 hown hg hw); go_must (have HOWN : Hid (w5.ownsRow (w1.heap.size + 1) 28 3 v' (ts.length + 1) (xs ++ [.int .i64 x, .int .i64 y, .slice ad5 n5 c5])) := hown); go_must (have HGR : Hid (((w2.alloc (.cells #[.int .i64 x, .int .i64 y, .slice ad5 n5 c5] 28)).alloc (.cells #[.int .i64 x, .int .i64 y, .slice ad5 n5 c5] 28)).grownBy w5 v.ownBlock) := hg); go_must (have HWH : Hid (v'.ownBlock = v.ownBlock ∨ ∃ g, v'.ownBlock = some g ∧ ((w2.alloc (.cells #[.int .i64 x, .int .i64 y, .slice ad5 n5 c5] 28)).alloc (.cells #[.int .i64 x, .int .i64 y, .slice ad5 n5 c5] 28)).heap.size ≤ g) := hw); go_must (have hlow : ∀ j, j ≤ w1.heap.size → w5.heap[j]? = ((w2.alloc (.cells #[.int .i64 x, .int .i64 y, .slice ad5 n5 c5] 28)).alloc (.cells #[.int .i64 x, .int .i64 y, .slice ad5 n5 c5] 28)).heap[j]? := fun j hj => hg.block j (by rw [HZ4.out]; have := HB2.out.size; omega) (fun e => by have := (own_some HX.out j e.symm).1; omega)); go_must (have hbx5 := (hlow _ (Nat.le_refl _)).trans HBX4.out); go_must (have HBX5 : Hid (w5.heap[w1.heap.size]? = some (.cells #[.int .i64 g[b].op, .int .i64 g[b].num, v] 28)) := hbx5); go_must (have HB5 : Hid (Below w1.heap.size w1 w5) := ⟨by rw [hg.os]; exact HB2.out.os.trans HB.out.os, by rw [hg.tape]; exact HB2.out.tape.trans HB.out.tape, by rw [hg.output]; exact HB2.out.output.trans HB.out.output, by have h1 := hg.size; rw [HZ4.out] at h1; have := HB.out.size; have := HB2.out.size; omega, fun j hj => (hlow j (by omega)).trans ((Deep.blk_alloc_lt _ _ _ (by rw [Deep.nblk_alloc]; have := HB2.out.size; omega)).trans ((Deep.blk_alloc_lt _ _ _ (by have := HB2.out.size; omega)).trans ((HB2.out.block j (by omega)).trans (HB.out.block j hj))))⟩); go_must (obtain ⟨g', c', rfl, -, -, -, -⟩ := own_form hown (by omega)); go_must (have s2 := cell_of_blk hbx5 2 _ rfl); go_must (have sf := frz_of_blk hbx5 2); clear hown hg hw hlow hbx5 p2)
              go_roundw
              case rel => exact ⟨k + 1, by omega, by go_num, by rw [HV.out]; exact ⟨rfl, _, _, _, box_set HBX5.out _⟩, HB5.out.setCell (Nat.le_refl _) _⟩
              case measure => simp [intOf]; omega
            | some q =>
              obtain ⟨t, l''⟩ := q
              rw [hr2] at hres2
              obtain ⟨vt, rfl, hfr, hto, htn, hb2⟩ := hres2
              have HV : Hid (readKids (readT g d) ((kidsN g b).take (k + 1)) l = some (ts ++ [t], l'')) := by rw [Hid, HTK.out]; exact readKids_some_snoc HRS.out hr2
              have HFR : Hid (Fresh w2 wr.heap.size t.kids vt) := hfr
              have HTO : Hid (I64 t.op ∧ I64 t.num) := ⟨hto, htn⟩
              have HB2 : Hid (Below wr.heap.size wr w2) := hb2
              obtain ⟨adt, capt, rfl, -, -, -⟩ := hfr.on
              clear hb2 hfr hto htn
              obtain ⟨xs, hx⟩ := (HOF.out.next (w' := (w2.alloc (.cells #[.int .i64 t.op, .int .i64 t.num, .slice adt t.kids.length capt] 28)).alloc (.cells #[.int .i64 t.op, .int .i64 t.num, .slice adt t.kids.length capt] 28)) (Nat.le_refl _) (Nat.le_refl _) (fun j h1 h2 => (Deep.blk_alloc_lt _ _ _ (by rw [Deep.nblk_alloc]; have := HB2.out.size; omega)).trans ((Deep.blk_alloc_lt _ _ _ (by have := HB2.out.size; omega)).trans (HB2.out.block j h2)))).row
              have HX : Hid (((w2.alloc (.cells #[.int .i64 t.op, .int .i64 t.num, .slice adt t.kids.length capt] 28)).alloc (.cells #[.int .i64 t.op, .int .i64 t.num, .slice adt t.kids.length capt] 28)).ownsRow (w1.heap.size + 1) 28 3 v ts.length xs) := hx
              have hbx4 : ((w2.alloc (.cells #[.int .i64 t.op, .int .i64 t.num, .slice adt t.kids.length capt] 28)).alloc (.cells #[.int .i64 t.op, .int .i64 t.num, .slice adt t.kids.length capt] 28)).heap[w1.heap.size]? = some (.cells #[.int .i64 g[b].op, .int .i64 g[b].num, v] 28) := (Deep.blk_alloc_lt _ _ _ (by rw [Deep.nblk_alloc]; have := HB2.out.size; omega)).trans ((Deep.blk_alloc_lt _ _ _ (by have := HB2.out.size; omega)).trans ((HB2.out.block _ hwl).trans HBX.out))
              have HBX4 : Hid (((w2.alloc (.cells #[.int .i64 t.op, .int .i64 t.num, .slice adt t.kids.length capt] 28)).alloc (.cells #[.int .i64 t.op, .int .i64 t.num, .slice adt t.kids.length capt] 28)).heap[w1.heap.size]? = some (.cells #[.int .i64 g[b].op, .int .i64 g[b].num, v] 28)) := hbx4
              have hbx3 : (w2.alloc (.cells #[.int .i64 t.op, .int .i64 t.num, .slice adt t.kids.length capt] 28)).heap[w1.heap.size]? = some (.cells #[.int .i64 g[b].op, .int .i64 g[b].num, v] 28) := (Deep.blk_alloc_lt _ _ _ (by have := HB2.out.size; omega)).trans ((HB2.out.block _ hwl).trans HBX.out)
              have p2 := cell_of_blk hbx3 2 _ rfl
              have HZ4 : Hid (((w2.alloc (.cells #[.int .i64 t.op, .int .i64 t.num, .slice adt t.kids.length capt] 28)).alloc (.cells #[.int .i64 t.op, .int .i64 t.num, .slice adt t.kids.length capt] 28)).heap.size = w2.heap.size + 2) := by rw [Hid, Deep.nblk_alloc, Deep.nblk_alloc]
              have htl : ts.length < 1000000 := by have h1 := readKids_len _ _ _ _ HRS.out; rw [List.length_take] at h1; have h2 : g[b].kids.length ≤ 3 := (kids_graph HG.out b hbl).1; omega
              clear hx hbx3 hbx4 hr2 c2 d0
              go_wp2_with (at_builtin; go_must (refine wpList_append_where _ rfl _ _ 26 rfl (w1.heap.size + 1) 28 iE zE 3 40 Try.underlying26 HE.out.1 HE.out.2.1 HE.out.2.2.1 HE.out.2.2.2.1 HE.out.2.2.2.2 (by decide) v ts.length xs rfl HX.out ⟨w2.heap.size + 1, 0, none⟩ 1 1 [.int .i64 t.op, .int .i64 t.num, .slice adt t.kids.length capt] rfl rfl (by have h := news3 (w2.alloc (.cells #[.int .i64 t.op, .int .i64 t.num, .slice adt t.kids.length capt] 28)) (.int .i64 t.op) (.int .i64 t.num) (.slice adt t.kids.length capt); rw [Deep.nblk_alloc] at h; exact h) (by simp [Value.oneCell']) (by unfold maxLen; omega) (by omega) (by rw [HZ4.out]; have := HB2.out.size; omega) (by omega) ?_); go_must (intro v' w5 hown hg hw); go_must (have HOWN : Hid (w5.ownsRow (w1.heap.size + 1) 28 3 v' (ts.length + 1) (xs ++ [.int .i64 t.op, .int .i64 t.num, .slice adt t.kids.length capt])) := hown); go_must (have HGR : Hid (((w2.alloc (.cells #[.int .i64 t.op, .int .i64 t.num, .slice adt t.kids.length capt] 28)).alloc (.cells #[.int .i64 t.op, .int .i64 t.num, .slice adt t.kids.length capt] 28)).grownBy w5 v.ownBlock) := hg); go_must (have HWH : Hid (v'.ownBlock = v.ownBlock ∨ ∃ g, v'.ownBlock = some g ∧ ((w2.alloc (.cells #[.int .i64 t.op, .int .i64 t.num, .slice adt t.kids.length capt] 28)).alloc (.cells #[.int .i64 t.op, .int .i64 t.num, .slice adt t.kids.length capt] 28)).heap.size ≤ g) := hw); go_must (have hlow : ∀ j, j ≤ w1.heap.size → w5.heap[j]? = ((w2.alloc (.cells #[.int .i64 t.op, .int .i64 t.num, .slice adt t.kids.length capt] 28)).alloc (.cells #[.int .i64 t.op, .int .i64 t.num, .slice adt t.kids.length capt] 28)).heap[j]? := fun j hj => hg.block j (by rw [HZ4.out]; have := HB2.out.size; omega) (fun e => by have := (own_some HX.out j e.symm).1; omega)); go_must (have hbx5 := (hlow _ (Nat.le_refl _)).trans HBX4.out); go_must (have HBX5 : Hid (w5.heap[w1.heap.size]? = some (.cells #[.int .i64 g[b].op, .int .i64 g[b].num, v] 28)) := hbx5); go_must (have HB5 : Hid (Below w1.heap.size w1 w5) := ⟨by rw [hg.os]; exact HB2.out.os.trans HB.out.os, by rw [hg.tape]; exact HB2.out.tape.trans HB.out.tape, by rw [hg.output]; exact HB2.out.output.trans HB.out.output, by have h1 := hg.size; rw [HZ4.out] at h1; have := HB.out.size; have := HB2.out.size; omega, fun j hj => (hlow j (by omega)).trans ((Deep.blk_alloc_lt _ _ _ (by rw [Deep.nblk_alloc]; have := HB2.out.size; omega)).trans ((Deep.blk_alloc_lt _ _ _ (by have := HB2.out.size; omega)).trans ((HB2.out.block j (by omega)).trans (HB.out.block j hj))))⟩); go_must (obtain ⟨g', c', rfl, -, -, -, -⟩ := own_form hown (by omega)); go_must (have s2 := cell_of_blk hbx5 2 _ rfl); go_must (have sf := frz_of_blk hbx5 2); clear hown hg hw hlow hbx5 p2)
              go_roundw
              case rel =>
                refine ⟨k + 1, by omega, by go_num, ?_, HB5.out.setCell (Nat.le_refl _) _⟩
                rw [HV.out]
                have hpush := rd_push HOF.out (by omega) (fun j _ h2 => HB2.out.block j h2) HB2.out.size HFR.out HTO.out.1 HTO.out.2 _ _ xs HX.out HOWN.out HGR.out HWH.out
                exact ⟨rfl, _, hpush.next (by rw [size_setCell]; exact HGR.out.size) HGR.out.size (fun j h1 h2 => Below.heap_setCell _ _ _ _ (fun e => by have e' : j = w1.heap.size := e; omega)), box_set HBX5.out _⟩
              case measure => simp [intOf]; omega
          · have hke : k = g[b].kids.length := by omega
            have hall : readKids (readT g d) (kidsN g b) l = some (ts, l') := by
              have h := HRS.out
              rw [hke, ← HKN.out, List.take_length] at h
              exact h
            have HV : Hid (readT g (d + 1) a (l + 1) = some (.node g[b].op g[b].num ts, l')) := readT_ok hbl HF.out hall
            have HFR : Hid (Fresh wr (w1.heap.size + 1) ts v) := hof.fresh
            obtain ⟨adv, capv, rfl, -, -, -⟩ := hof.fresh.on
            have o0 := cell_of_blk hbx 0 _ rfl
            have o1 := cell_of_blk hbx 1 _ rfl
            have o2 := cell_of_blk hbx 2 _ rfl
            clear hb hbx hres hof hall hke
            go_wp2_with fail
            refine bodyPost_ret (v := .tuple #[.agg #[.int .i64 g[b].op, .int .i64 g[b].num, .slice adv ts.length capv], .int .i64 (l' : Int)]) (by simp [results, Try.results62, go_sem, r0, r1, r2, rf]) rfl ?_
            rw [HV.out]
            refine ⟨_, rfl, ?_, HIO.out.1, HIO.out.2, ((HBW.out.setCell (Nat.le_refl _) _).setCell (Nat.le_refl _) _).setCell (Nat.le_refl _) _⟩
            refine Fresh.mono (lo := w1.heap.size + 1) ?_ (by omega) (fun _ _ _ => rfl)
            exact ((HFR.out.setCell (by show w.heap.size < _; omega) _).setCell (by show w.heap.size < _; omega) _).setCell (by show w.heap.size < _; omega) _

theorem rd_zero (g : List Ce) (hg : graphB g 6 = true) : RdSaid g 0 := by
  intro v a l w hk ha hl
  have HK : Hid (CIn w g v) := hk
  have HG : Hid (graphB g 6 = true) := hg
  obtain ⟨ad, cap, rfl, -, hm, -⟩ := hk
  unfold maxLen at hm
  clear hg
  have HV : Hid (readT g 0 a l = none) := rfl
  go_enter Try.func62, Try.ntmps62
  go_wp2_with fail
  refine (l3Follow_calls g a _ _ (HK.out.next (box_below _ _)) ⟨6, HG.out⟩ ha).mono ?_
  rintro e w1 ⟨rfl, hb1⟩
  have HB1 : Hid (Below w.heap.size w w1) := (box_below _ _).trans (hb1.mono (by rw [Deep.nblk_alloc]; omega))
  have hr1 : w1.heap[w.heap.size]? = some (.cells #[.int .i64 0, .int .i64 0, .slice none 0 0] 28) := (hb1.block _ (by rw [Deep.nblk_alloc]; omega)).trans (Deep.blk_alloc_new _ _)
  have r0 := cell_of_blk hr1 0 _ rfl
  have r1 := cell_of_blk hr1 1 _ rfl
  have r2 := cell_of_blk hr1 2 _ rfl
  have rf := fun i => frz_of_blk hr1 i
  clear hb1 hr1
  generalize folI (followN g (g.length + 1) a) = fi
  by_cases hfi : fi < 0
  all_goals
    go_wp2_with fail
    refine bodyPost_ret (v := .tuple #[.agg #[.int .i64 0, .int .i64 0, .slice none 0 0], .int .i64 (-1)]) (by simp [results, Try.results62, go_sem, r0, r1, r2, rf]) rfl ?_
    rw [HV.out]
    exact ⟨0, 0, none, 0, 0, rfl, ((HB1.out.setCell (Nat.le_refl _) _).setCell (Nat.le_refl _) _).setCell (Nat.le_refl _) _⟩
theorem rd_calls (g : List Ce) (hg : graphB g 6 = true) : ∀ d, d ≤ 17 → RdSaid g d
  | 0, _ => rd_zero g hg
  | d + 1, h => rd_step g hg d (by omega) (rd_calls g hg d (by omega))
end Go.Proofs.Yticoegjackgldab
