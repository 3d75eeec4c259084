/-
  THE PROGRAM's graphReader.expr.
-/
import Derived.Test.YticoegjackgldabReadB
import Derived.Test.YticoegjackgldabRdPush
import Derived.Test.YticoegjackgldabImplFollow
import Derived.Deep.DeepCutAuto
namespace Go.Proofs.Yticoegjackgldab
set_option linter.unusedVariables false
set_option linter.unusedSimpArgs false
open Go.RowKit

/-- the reader: the graph and what is left -/
abbrev GRd (w : World) (R : Nat) (gv : Value) (n : Nat) : Prop := w.heap[R]? = some (.cells #[gv, .int .i64 (n : Int)] 88)
/-- what expr hands back -/
def ImRes (o : Option (Tr × Nat)) (R : Nat) (gv : Value) (w : World) (e : Ending) (w' : World) : Prop :=
  match o with
  | none => e = .returned (.tuple #[.agg #[.int .i64 0, .int .i64 0, .slice none 0 0], .bool false]) ∧ (∃ n, GRd w' R gv n) ∧ ButL [R] w w'
  | some (t, l) => ∃ v, e = .returned (.tuple #[.agg #[.int .i64 t.op, .int .i64 t.num, v], .bool true]) ∧ Fresh w' w.heap.size t.kids v ∧ I64 t.op ∧ I64 t.num ∧ GRd w' R gv l ∧ ButL [R] w w'
def ImSaid (g : List Ce) (d : Nat) : Prop := ∀ (R : Nat) (gv : Value) (a l : Nat) (w : World), CellsOn w (Lt R) g gv → R < w.heap.size → a < g.length → l ≤ 1000 → GRd w R gv l →
  Calls Try.prog 64 #[.pointer (some ⟨R, 0, none⟩), .int .i64 (a : Int), .int .i64 (d : Int)] w (ImRes (readT g d a l) R gv w)

/-- element i of a graph out of a set of blocks -/
theorem CellsOn.atS {w : World} {S : Nat → Prop} {g : List Ce} {ad : Option Addr} {n cap : Nat} (h : CellsOn w S g (.slice ad n cap)) (i : Nat) (hi : i < g.length) :
    ∃ bl off c, ad = some ⟨bl, off, none⟩ ∧ S bl ∧ w.cell? ⟨bl, off + i * 3, none⟩ = some (.int .i64 g[i].op) ∧ w.cell? ⟨bl, off + i * 3 + 1, none⟩ = some (.int .i64 g[i].num) ∧ w.cell? ⟨bl, off + i * 3 + 2, none⟩ = some c ∧ I64 g[i].op ∧ I64 g[i].num ∧ IntsOn w S g[i].kids c := by
  obtain ⟨ad', cap', he, -, -, hr⟩ := h
  cases he
  rcases hr with rfl | ⟨bl, off, rfl, hs, r⟩
  · simp at hi
  obtain ⟨c, h1, h2, h3, i1, i2, h4⟩ := r i hi
  exact ⟨bl, off, c, rfl, hs, h1, h2, h3, i1, i2, h4⟩
theorem IntsOn.atS {w : World} {S : Nat → Prop} {xs : List Int} {ad : Option Addr} {n cap : Nat} (h : IntsOn w S xs (.slice ad n cap)) (i : Nat) (hi : i < xs.length) :
    ∃ bl off, ad = some ⟨bl, off, none⟩ ∧ S bl ∧ w.cell? ⟨bl, off + i, none⟩ = some (.int .i64 xs[i]) := by
  obtain ⟨ad', cap', he, -, -, hr⟩ := h
  cases he
  rcases hr with rfl | ⟨bl, off, rfl, hs, r⟩
  · simp at hi
  exact ⟨bl, off, rfl, hs, r i hi⟩

set_option maxRecDepth 100000 in
set_option maxHeartbeats 1600000 in
theorem im_step (g : List Ce) (hg : graphB g 6 = true) (d : Nat) (hd : d ≤ 16) (ih : ImSaid g d) : ImSaid g (d + 1) := by
  intro R gv a l w hk hR ha hl hrd
  have HK : Hid (CellsOn w (Lt R) g gv) := hk
  have HG : Hid (graphB g 6 = true) := hg
  have HI : Hid (ImSaid g d) := ih
  have HRD : Hid (GRd w R gv l) := hrd
  obtain ⟨ad, cap, rfl, -, hm, -⟩ := hk
  unfold maxLen at hm
  have h400 : g.length ≤ 400 := graphB_len hg
  have hrd1 : (w.alloc (.cells #[.int .i64 0, .int .i64 0, .slice none 0 0] 28)).heap[R]? = some (.cells #[.slice ad g.length cap, .int .i64 (l : Int)] 88) := (Deep.blk_alloc_lt _ _ _ hR).trans hrd
  have p0 := cell_of_blk hrd1 0 _ rfl
  have HIN : Hid (CIn (w.alloc (.cells #[.int .i64 0, .int .i64 0, .slice none 0 0] 28)) g (.slice ad g.length cap)) := HK.out.mono (fun k (hk : k < R) => by show k < _; rw [Deep.nblk_alloc]; omega) (fun k (hk : k < R) => Deep.blk_alloc_lt _ _ _ (by omega))
  clear hg ih hrd hrd1
  go_enter Try.func64, Try.ntmps64
  go_wp2_with fail
  clear p0
  refine (standsFor_calls g a _ _ HIN.out ⟨6, HG.out⟩ ha).mono ?_
  rintro e w1 ⟨rfl, hb1⟩
  have HB1 : Hid (Below w.heap.size w w1) := (box_below _ _).trans (hb1.mono (by rw [Deep.nblk_alloc]; omega))
  have hz1 : w.heap.size < w1.heap.size := by have := hb1.size; rw [Deep.nblk_alloc] at this; omega
  have hr1 : w1.heap[w.heap.size]? = some (.cells #[.int .i64 0, .int .i64 0, .slice none 0 0] 28) := (hb1.block _ (by rw [Deep.nblk_alloc]; omega)).trans (Deep.blk_alloc_new _ _)
  have HR1 : Hid (w1.heap[w.heap.size]? = some (.cells #[.int .i64 0, .int .i64 0, .slice none 0 0] 28)) := hr1
  have hrd2 : w1.heap[R]? = some (.cells #[.slice ad g.length cap, .int .i64 (l : Int)] 88) := (HB1.out.block R hR).trans HRD.out
  have HRD1 : Hid (GRd w1 R (.slice ad g.length cap) l) := hrd2
  have p0 := cell_of_blk hrd2 0 _ rfl
  have p1 := cell_of_blk hrd2 1 _ rfl
  have pf := fun i => frz_of_blk hrd2 i
  have r0 := cell_of_blk hr1 0 _ rfl
  have r1 := cell_of_blk hr1 1 _ rfl
  have r2 := cell_of_blk hr1 2 _ rfl
  have rf := fun i => frz_of_blk hr1 i
  clear hb1 hr1 hrd2
  cases hf : followN g g.length a with
  | none =>
    have HV : Hid (readT g (d + 1) a l = none) := readT_fol hf
    have e1 : folO none = 0 := rfl
    have e2 : (none : Option Nat).isSome = false := rfl
    rw [e1, e2]
    clear hf
    go_wp2_with fail
    refine bodyPost_ret (v := .tuple #[.agg #[.int .i64 0, .int .i64 0, .slice none 0 0], .bool false]) (by simp [results, Try.results64, go_sem, r0, r1, r2, rf]) rfl ?_
    rw [HV.out]
    exact ⟨rfl, ⟨l, box_stay HRD1.out (by omega)⟩, box_but HB1.out⟩
  | some b =>
    obtain ⟨hbl, hbo⟩ := followN_lt HG.out _ _ _ ha hf
    have HF : Hid (followN g g.length a = some b) := hf
    have e1 : folO (some b) = (b : Int) := rfl
    have e2 : (some b).isSome = true := rfl
    rw [e1, e2]
    have hdn : ((d : Int) + 1 == 0) = false := by simp; omega
    clear hf hbo
    rcases l with _ | l
    · have HV : Hid (readT g (d + 1) a 0 = none) := readT_zero
      go_wp2_with fail
      refine bodyPost_ret (v := .tuple #[.agg #[.int .i64 0, .int .i64 0, .slice none 0 0], .bool false]) (by simp [results, Try.results64, go_sem, r0, r1, r2, rf]) rfl ?_
      rw [HV.out]
      exact ⟨rfl, ⟨0, box_stay HRD1.out (by omega)⟩, box_but HB1.out⟩
    · have hln : (((l : Int) + 1) == 0) = false := by simp; omega
      obtain ⟨bl, off, rr, rfl, hblR, c0w, c1w, c2w, io, iN, hkk⟩ := HK.out.atS b hbl
      have hblR' : bl < R := hblR
      obtain ⟨ad3, cap3, rfl, -, -, -⟩ := id hkk
      have HKK : Hid (IntsOn w (Lt R) g[b].kids (.slice ad3 g[b].kids.length cap3)) := hkk
      have HIO : Hid (I64 g[b].op ∧ I64 g[b].num) := ⟨io, iN⟩
      have LD : Hid (∀ (x o : Nat) (u : Value), x < R → w.cell? ⟨x, o, none⟩ = some u → (w1.setCell ⟨R, 1, none⟩ (.int .i64 (l : Int))).cell? ⟨x, o, none⟩ = some u) := by
        intro x o u hx hu
        rw [World.cell?_of_block (w := w1) (Below.heap_setCell _ _ _ _ (by show x ≠ R; omega)), HB1.out.cell (p := ⟨x, o, none⟩) (by show x < _; omega)]
        exact hu
      have c0 := LD.out _ _ _ hblR' c0w
      have c1 := LD.out _ _ _ hblR' c1w
      have c2 := LD.out _ _ _ hblR' c2w
      have hk3 : g[b].kids.length ≤ 3 := (kids_graph HG.out b hbl).1
      have HKN : Hid ((kidsN g b).length = g[b].kids.length) := by rw [Hid, kidsN_at b hbl]; simp
      clear io iN hkk c0w c1w c2w r0 r1 r2 rf hblR
      obtain ⟨iE, zE, hIE⟩ := infoE3
      have HE : Hid (Try.prog.info? 28 = some iE ∧ iE.zero = some zE ∧ iE.size = 3 ∧ iE.bytes = 40 ∧ zE.cells.size = 3) := hIE
      obtain ⟨wC, hwC⟩ : ∃ wC : World, wC = ((w1.setCell ⟨R, 1, none⟩ (.int .i64 (l : Int))).alloc (.cells #[.int .i64 g[b].op, .int .i64 g[b].num, .slice ad3 g[b].kids.length cap3] 71)).alloc (.cells #[.int .i64 g[b].op, .int .i64 g[b].num, .slice none 0 0] 28) := ⟨_, rfl⟩
      have HWC : Hid (wC = ((w1.setCell ⟨R, 1, none⟩ (.int .i64 (l : Int))).alloc (.cells #[.int .i64 g[b].op, .int .i64 g[b].num, .slice ad3 g[b].kids.length cap3] 71)).alloc (.cells #[.int .i64 g[b].op, .int .i64 g[b].num, .slice none 0 0] 28)) := hwC
      have hzC : wC.heap.size = w1.heap.size + 2 := by rw [hwC, Deep.nblk_alloc, Deep.nblk_alloc, size_setCell]
      have HZC : Hid (wC.heap.size = w1.heap.size + 2) := hzC
      have hoC : ∀ x, x < w1.heap.size → wC.heap[x]? = (w1.setCell ⟨R, 1, none⟩ (.int .i64 (l : Int))).heap[x]? := by
        intro x hx
        rw [hwC, Deep.blk_alloc_lt _ _ _ (by rw [Deep.nblk_alloc, size_setCell]; omega), Deep.blk_alloc_lt _ _ _ (by rw [size_setCell]; omega)]
      have HEC : Hid (wC.heap[w1.heap.size + 1]? = some (.cells #[.int .i64 g[b].op, .int .i64 g[b].num, .slice none 0 0] 28)) := by
        have h := Deep.blk_alloc_new ((w1.setCell ⟨R, 1, none⟩ (.int .i64 (l : Int))).alloc (.cells #[.int .i64 g[b].op, .int .i64 g[b].num, .slice ad3 g[b].kids.length cap3] 71)) (.cells #[.int .i64 g[b].op, .int .i64 g[b].num, .slice none 0 0] 28)
        rw [Deep.nblk_alloc, size_setCell, ← hwC] at h
        exact h
      have HRC : Hid (GRd wC R (.slice (some ⟨bl, off, none⟩) g.length cap) l) := by
        show wC.heap[R]? = _
        rw [hoC R (by omega)]
        have h : w1.heap[R]? = some (.cells #[.slice (some ⟨bl, off, none⟩) g.length cap, .int .i64 ((l + 1 : Nat) : Int)] 88) := HRD1.out
        simp [World.setCell, Array.getElem?_modify, h]
      have HXC : Hid (wC.heap[w.heap.size]? = some (.cells #[.int .i64 0, .int .i64 0, .slice none 0 0] 28)) := by
        rw [Hid, hoC _ hz1, Below.heap_setCell _ _ _ _ (by show w.heap.size ≠ R; omega)]; exact HR1.out
      have BW : Hid (∀ wx, ButL [R, w1.heap.size + 1] wC wx → ButL [R] w wx) := by
        intro wx hx
        have h1 := HB1.out
        have e1 : wC.os = w1.os := by rw [hwC]; rfl
        have e2 : wC.tape = w1.tape := by rw [hwC]; rfl
        have e3 : wC.output = w1.output := by rw [hwC]; rfl
        refine ⟨hx.os.trans (e1.trans h1.os), hx.tape.trans (e2.trans h1.tape), hx.output.trans (e3.trans h1.output), by have := hx.size; omega, fun x hxl hn => ?_⟩
        have hxR : x ≠ R := by simpa using hn
        rw [hx.block x (by omega) (by simp; omega), hoC x (by omega), Below.heap_setCell _ _ _ _ (by show x ≠ R; exact hxR)]
        exact h1.block x hxl
      have LDX : Hid (∀ wx, ButL [R, w1.heap.size + 1] wC wx → ∀ x, x < R → wx.heap[x]? = w.heap[x]?) := fun wx hx x hxR => (BW.out wx hx).block x (by omega) (by simp; omega)
      clear hIE hwC hzC hoC
      go_wp2_with fail
      rw [← HWC.out]
      clear c0 c1 c2 p0 p1 pf
      go_loopw [60] (fun i wr => ∃ (k : Nat) (ts : List Tr) (l' : Nat) (v : Value), k ≤ g[b].kids.length ∧ i = .int .i64 k ∧ Hid (readKids (readT g d) ((kidsN g b).take k) l = some (ts, l')) ∧ GRd wr R (.slice (some ⟨bl, off, none⟩) g.length cap) l' ∧ OwnF wr (w1.heap.size + 2) wr.heap.size ts v ∧ wr.heap[w1.heap.size + 1]? = some (.cells #[.int .i64 g[b].op, .int .i64 g[b].num, v] 28) ∧ ButL [R, w1.heap.size + 1] wC wr) (fun i _ => g[b].kids.length - (intOf i).toNat)
      case atStart => exact ⟨0, [], l, .slice none 0 0, Nat.zero_le _, rfl, rfl, HRC.out, OwnF.nil _ _ _, HEC.out, ButL.refl _ _⟩
      case round =>
        obtain ⟨k, ts, l', v, hk, rfl, HRS, hgr, hof, hbx, hbl2⟩ := hrel
        have HGR : Hid (GRd wr R (.slice (some ⟨bl, off, none⟩) g.length cap) l') := hgr
        have HOF : Hid (OwnF wr (w1.heap.size + 2) wr.heap.size ts v) := hof
        have HBX : Hid (wr.heap[w1.heap.size + 1]? = some (.cells #[.int .i64 g[b].op, .int .i64 g[b].num, v] 28)) := hbx
        have HBL2 : Hid (ButL [R, w1.heap.size + 1] wC wr) := hbl2
        have hll : l' ≤ l := readKids_left (fun k l t l' => readT_left g d k l t l') _ _ _ _ HRS.out
        have hwz : w1.heap.size + 2 ≤ wr.heap.size := by have := hbl2.size; rw [HZC.out] at this; exact this
        have HXR : Hid (wr.heap[w.heap.size]? = some (.cells #[.int .i64 0, .int .i64 0, .slice none 0 0] 28)) := (hbl2.block _ (by rw [HZC.out]; omega) (by simp; omega)).trans HXC.out
        by_cases hlt : k < g[b].kids.length
        · obtain ⟨kk, hk1, hk2, hk4⟩ := kidsN_get HG.out b hbl k hlt
          obtain ⟨bl3, off3, rfl, hb3, d0w⟩ := HKK.out.atS k hlt
          have d0 := (World.cell?_of_block (a := ⟨bl3, off3 + k, none⟩) (LDX.out wr hbl2 bl3 hb3)).trans d0w
          rw [hk1] at d0
          have HTK : Hid ((kidsN g b).take (k + 1) = (kidsN g b).take k ++ [kk]) := take_snoc hk4
          have HKW : Hid (CellsOn wr (Lt R) g (.slice (some ⟨bl, off, none⟩) g.length cap)) := HK.out.mono (fun _ h => h) fun x hx => LDX.out wr hbl2 x hx
          have hdd : (1 : Int) ≤ (d : Int) + 1 := by omega
          clear hk1 hk4 d0w hb3 hgr hof hbx hbl2
          go_wp2_with fail
          refine (HI.out R _ kk l' _ HKW.out (by omega) hk2 (by omega) HGR.out).mono ?_
          rintro e w2 hres2
          cases hr2 : readT g d kk l' with
          | none =>
            rw [hr2] at hres2
            obtain ⟨rfl, ⟨nn, hg2⟩, hb2⟩ := hres2
            have HV : Hid (readT g (d + 1) a (l + 1) = none) := readT_bad HF.out (readKids_none_take (j := k + 1) (by rw [HTK.out]; exact readKids_none_snoc HRS.out hr2))
            have HB2 : Hid (ButL [R] wr w2) := hb2
            have hrw3 : (w2.alloc (.cells #[.int .i64 0, .int .i64 0, .slice none 0 0] 28)).heap[w.heap.size]? = some (.cells #[.int .i64 0, .int .i64 0, .slice none 0 0] 28) := (Deep.blk_alloc_lt _ _ _ (by have := hb2.size; omega)).trans ((hb2.block _ (by omega) (by simp; omega)).trans HXR.out)
            have HG3 : Hid (GRd (w2.alloc (.cells #[.int .i64 0, .int .i64 0, .slice none 0 0] 28)) R (.slice (some ⟨bl, off, none⟩) g.length cap) nn) := (Deep.blk_alloc_lt _ _ _ (by have := hb2.size; omega)).trans hg2
            have HBF : Hid (ButL [R] w (w2.alloc (.cells #[.int .i64 0, .int .i64 0, .slice none 0 0] 28))) := ((BW.out wr HBL2.out).trans hb2).trans (ButL.of_below (box_below _ _))
            have r0 := cell_of_blk hrw3 0 _ rfl
            have r1 := cell_of_blk hrw3 1 _ rfl
            have r2 := cell_of_blk hrw3 2 _ rfl
            have rf := fun i => frz_of_blk hrw3 i
            clear hb2 hg2 hr2 hrw3 d0
            go_wp2_with fail
            refine bodyPost_ret (v := .tuple #[.agg #[.int .i64 0, .int .i64 0, .slice none 0 0], .bool false]) (by simp [results, Try.results64, go_sem, r0, r1, r2, rf]) rfl ?_
            rw [HV.out]
            exact ⟨rfl, ⟨nn, box_stay HG3.out (by omega)⟩, box_but2 HBF.out⟩
          | some q =>
            obtain ⟨t, l''⟩ := q
            rw [hr2] at hres2
            obtain ⟨vt, rfl, hfr, hto, htn, hg2, hb2⟩ := hres2
            have HV : Hid (readKids (readT g d) ((kidsN g b).take (k + 1)) l = some (ts ++ [t], l'')) := by rw [Hid, HTK.out]; exact readKids_some_snoc HRS.out hr2
            have HFR : Hid (Fresh w2 wr.heap.size t.kids vt) := hfr
            have HTO : Hid (I64 t.op ∧ I64 t.num) := ⟨hto, htn⟩
            have HB2 : Hid (ButL [R] wr w2) := hb2
            have HG2 : Hid (GRd w2 R (.slice (some ⟨bl, off, none⟩) g.length cap) l'') := hg2
            obtain ⟨adt, capt, rfl, -, -, -⟩ := hfr.on
            have HZ4 : Hid (((w2.alloc (.cells #[.int .i64 t.op, .int .i64 t.num, .slice adt t.kids.length capt] 28)).alloc (.cells #[.int .i64 t.op, .int .i64 t.num, .slice adt t.kids.length capt] 28)).heap.size = w2.heap.size + 2) := by rw [Hid, Deep.nblk_alloc, Deep.nblk_alloc]
            have HK4 : Hid (∀ j, j < w2.heap.size → ((w2.alloc (.cells #[.int .i64 t.op, .int .i64 t.num, .slice adt t.kids.length capt] 28)).alloc (.cells #[.int .i64 t.op, .int .i64 t.num, .slice adt t.kids.length capt] 28)).heap[j]? = w2.heap[j]?) := fun j hj => (Deep.blk_alloc_lt _ _ _ (by rw [Deep.nblk_alloc]; omega)).trans (Deep.blk_alloc_lt _ _ _ hj)
            have hs2 := hb2.size
            obtain ⟨xs, hx⟩ := (HOF.out.next (w' := ((w2.alloc (.cells #[.int .i64 t.op, .int .i64 t.num, .slice adt t.kids.length capt] 28)).alloc (.cells #[.int .i64 t.op, .int .i64 t.num, .slice adt t.kids.length capt] 28))) (Nat.le_refl _) (Nat.le_refl _) (fun j h1 h2 => (HK4.out j (by omega)).trans (hb2.block j h2 (by simp; omega)))).row
            have HX : Hid (((w2.alloc (.cells #[.int .i64 t.op, .int .i64 t.num, .slice adt t.kids.length capt] 28)).alloc (.cells #[.int .i64 t.op, .int .i64 t.num, .slice adt t.kids.length capt] 28)).ownsRow (w1.heap.size + 2) 28 3 v ts.length xs) := hx
            have hbx2 : w2.heap[w1.heap.size + 1]? = some (.cells #[.int .i64 g[b].op, .int .i64 g[b].num, v] 28) := (hb2.block _ (by omega) (by simp; omega)).trans HBX.out
            have HBX2 : Hid (w2.heap[w1.heap.size + 1]? = some (.cells #[.int .i64 g[b].op, .int .i64 g[b].num, v] 28)) := hbx2
            have hbx3 : (w2.alloc (.cells #[.int .i64 t.op, .int .i64 t.num, .slice adt t.kids.length capt] 28)).heap[w1.heap.size + 1]? = some (.cells #[.int .i64 g[b].op, .int .i64 g[b].num, v] 28) := (Deep.blk_alloc_lt _ _ _ (by omega)).trans hbx2
            have p2 := cell_of_blk hbx3 2 _ rfl
            have htl : ts.length < 1000000 := by have h1 := readKids_len _ _ _ _ HRS.out; rw [List.length_take] at h1; omega
            clear hb2 hg2 hr2 hfr hto htn hx hbx2 hbx3 d0
            go_wp2_with (at_builtin; go_must (refine wpList_append_where _ rfl _ _ 26 rfl (w1.heap.size + 2) 28 iE zE 3 40 Try.underlying26 HE.out.1 HE.out.2.1 HE.out.2.2.1 HE.out.2.2.2.1 HE.out.2.2.2.2 (by decide) v ts.length xs rfl HX.out ⟨w2.heap.size + 1, 0, none⟩ 1 1 [.int .i64 t.op, .int .i64 t.num, .slice adt t.kids.length capt] rfl rfl (by have h := news3 (w2.alloc (.cells #[.int .i64 t.op, .int .i64 t.num, .slice adt t.kids.length capt] 28)) (.int .i64 t.op) (.int .i64 t.num) (.slice adt t.kids.length capt); rw [Deep.nblk_alloc] at h; exact h) (by simp [Value.oneCell']) (by unfold maxLen; omega) (by omega) (by rw [HZ4.out]; omega) (by omega) ?_); go_must (intro v' w5 hown hg hw); go_must (have HOWN : Hid (w5.ownsRow (w1.heap.size + 2) 28 3 v' (ts.length + 1) (xs ++ [.int .i64 t.op, .int .i64 t.num, .slice adt t.kids.length capt])) := hown); go_must (have HGR5 : Hid (((w2.alloc (.cells #[.int .i64 t.op, .int .i64 t.num, .slice adt t.kids.length capt] 28)).alloc (.cells #[.int .i64 t.op, .int .i64 t.num, .slice adt t.kids.length capt] 28)).grownBy w5 v.ownBlock) := hg); go_must (have HWH : Hid (v'.ownBlock = v.ownBlock ∨ ∃ g, v'.ownBlock = some g ∧ ((w2.alloc (.cells #[.int .i64 t.op, .int .i64 t.num, .slice adt t.kids.length capt] 28)).alloc (.cells #[.int .i64 t.op, .int .i64 t.num, .slice adt t.kids.length capt] 28)).heap.size ≤ g) := hw); go_must (have hlow : ∀ j, j ≤ w1.heap.size + 1 → w5.heap[j]? = w2.heap[j]? := fun j hj => (hg.block j (by rw [HZ4.out]; omega) (fun e => by have := (own_some HX.out j e.symm).1; omega)).trans (HK4.out j (by omega))); go_must (have HBX5 : Hid (w5.heap[w1.heap.size + 1]? = some (.cells #[.int .i64 g[b].op, .int .i64 g[b].num, v] 28)) := (hlow _ (Nat.le_refl _)).trans HBX2.out); go_must (have hbx5 := HBX5.out); go_must (have HG5 : Hid (GRd w5 R (.slice (some ⟨bl, off, none⟩) g.length cap) l'') := (hlow R (by omega)).trans HG2.out); go_must (have HB5 : Hid (ButL [R, w1.heap.size + 1] wC w5) := ⟨by rw [hg.os]; exact HB2.out.os.trans HBL2.out.os, by rw [hg.tape]; exact HB2.out.tape.trans HBL2.out.tape, by rw [hg.output]; exact HB2.out.output.trans HBL2.out.output, by have h1 := hg.size; rw [HZ4.out] at h1; have := HZC.out; omega, fun j hj hn => by have hn2 : j ≠ R ∧ j ≠ w1.heap.size + 1 := (by simpa using hn); have hjl : j < w1.heap.size + 2 := (by have := HZC.out; omega); exact (hlow j (by omega)).trans ((HB2.out.block j (by omega) (by simp; exact hn2.1)).trans (HBL2.out.block j hj hn))⟩); go_must (obtain ⟨g', c', rfl, -, -, -, -⟩ := own_form hown (by omega)); go_must (have s2 := cell_of_blk hbx5 2 _ rfl); go_must (have sf := frz_of_blk hbx5 2); clear hown hg hw hlow hbx5 p2)
            go_roundw
            case rel =>
              have hpush := rd_push HOF.out (by omega) (fun j h1 h2 => HB2.out.block j h2 (by simp; omega)) HB2.out.size HFR.out HTO.out.1 HTO.out.2 _ _ xs HX.out HOWN.out HGR5.out HWH.out
              refine ⟨k + 1, ts ++ [t], l'', _, by omega, by go_num, HV, (Below.heap_setCell _ _ _ _ (by show R ≠ w1.heap.size + 1; omega)).trans HG5.out, hpush.next (by rw [size_setCell]; exact HGR5.out.size) HGR5.out.size (fun j h1 h2 => Below.heap_setCell _ _ _ _ (fun e => by have e' : j = w1.heap.size + 1 := e; omega)), box_set HBX5.out _, HB5.out.trans (ButL.setCell _ _ _ (by simp) _)⟩
            case measure => simp [intOf]; omega
        · have hke : k = g[b].kids.length := by omega
          have hall : readKids (readT g d) (kidsN g b) l = some (ts, l') := by
            have h := HRS.out
            rw [hke, ← HKN.out, List.take_length] at h
            exact h
          have HV : Hid (readT g (d + 1) a (l + 1) = some (.node g[b].op g[b].num ts, l')) := readT_ok hbl HF.out hall
          have HFR : Hid (Fresh wr (w1.heap.size + 2) ts v) := hof.fresh
          obtain ⟨adv, capv, rfl, -, -, -⟩ := hof.fresh.on
          have o0 := cell_of_blk hbx 0 _ rfl
          have o1 := cell_of_blk hbx 1 _ rfl
          have o2 := cell_of_blk hbx 2 _ rfl
          have hxr := HXR.out
          have r0 := cell_of_blk hxr 0 _ rfl
          have r1 := cell_of_blk hxr 1 _ rfl
          have r2 := cell_of_blk hxr 2 _ rfl
          have rf := fun i => frz_of_blk hxr i
          clear hgr hof hbx hbl2 hall hke hxr
          go_wp2_with fail
          refine bodyPost_ret (v := .tuple #[.agg #[.int .i64 g[b].op, .int .i64 g[b].num, .slice adv ts.length capv], .bool true]) (by simp [results, Try.results64, go_sem, r0, r1, r2, rf]) rfl ?_
          rw [HV.out]
          refine ⟨_, rfl, ?_, HIO.out.1, HIO.out.2, box_stay HGR.out (by omega), box_but2 (BW.out _ HBL2.out)⟩
          refine Fresh.mono (lo := w1.heap.size + 2) ?_ (by omega) (fun _ _ _ => rfl)
          exact ((HFR.out.setCell (by show w.heap.size < _; omega) _).setCell (by show w.heap.size < _; omega) _).setCell (by show w.heap.size < _; omega) _

theorem im_zero (g : List Ce) (hg : graphB g 6 = true) : ImSaid g 0 := by
  intro R gv a l w hk hR ha hl hrd
  have HK : Hid (CellsOn w (Lt R) g gv) := hk
  have HG : Hid (graphB g 6 = true) := hg
  have HRD : Hid (GRd w R gv l) := hrd
  obtain ⟨ad, cap, rfl, -, hm, -⟩ := hk
  have hrd1 : (w.alloc (.cells #[.int .i64 0, .int .i64 0, .slice none 0 0] 28)).heap[R]? = some (.cells #[.slice ad g.length cap, .int .i64 (l : Int)] 88) := (Deep.blk_alloc_lt _ _ _ hR).trans hrd
  have p0 := cell_of_blk hrd1 0 _ rfl
  have HIN : Hid (CIn (w.alloc (.cells #[.int .i64 0, .int .i64 0, .slice none 0 0] 28)) g (.slice ad g.length cap)) := HK.out.mono (fun k (hk : k < R) => by show k < _; rw [Deep.nblk_alloc]; omega) (fun k (hk : k < R) => Deep.blk_alloc_lt _ _ _ (by omega))
  have HV : Hid (readT g 0 a l = none) := rfl
  clear hg hrd hrd1 hm
  go_enter Try.func64, Try.ntmps64
  go_wp2_with fail
  clear p0
  refine (standsFor_calls g a _ _ HIN.out ⟨6, HG.out⟩ ha).mono ?_
  rintro e w1 ⟨rfl, hb1⟩
  have HB1 : Hid (Below w.heap.size w w1) := (box_below _ _).trans (hb1.mono (by rw [Deep.nblk_alloc]; omega))
  have hr1 : w1.heap[w.heap.size]? = some (.cells #[.int .i64 0, .int .i64 0, .slice none 0 0] 28) := (hb1.block _ (by rw [Deep.nblk_alloc]; omega)).trans (Deep.blk_alloc_new _ _)
  have hrd2 : w1.heap[R]? = some (.cells #[.slice ad g.length cap, .int .i64 (l : Int)] 88) := (HB1.out.block R hR).trans HRD.out
  have HRD1 : Hid (GRd w1 R (.slice ad g.length cap) l) := hrd2
  have p1 := cell_of_blk hrd2 1 _ rfl
  have r0 := cell_of_blk hr1 0 _ rfl
  have r1 := cell_of_blk hr1 1 _ rfl
  have r2 := cell_of_blk hr1 2 _ rfl
  have rf := fun i => frz_of_blk hr1 i
  clear hb1 hr1 hrd2
  generalize folO (followN g g.length a) = fi
  cases (followN g g.length a).isSome
  all_goals
    go_wp2_with fail
    refine bodyPost_ret (v := .tuple #[.agg #[.int .i64 0, .int .i64 0, .slice none 0 0], .bool false]) (by simp [results, Try.results64, go_sem, r0, r1, r2, rf]) rfl ?_
    rw [HV.out]
    exact ⟨rfl, ⟨l, box_stay HRD1.out (by omega)⟩, box_but HB1.out⟩
theorem im_calls (g : List Ce) (hg : graphB g 6 = true) : ∀ d, d ≤ 17 → ImSaid g d
  | 0, _ => im_zero g hg
  | d + 1, h => im_step g hg d (by omega) (im_calls g hg d (by omega))
end Go.Proofs.Yticoegjackgldab
