/-
  THE PROGRAM's StartRun.
-/
import Derived.Test.YtidijbnoaeopdaaGreatDoorMgExactPeakCells30
import Derived.Test.YtidijbnoaeopdaaGreatDoorMgExactPeakCells26
import Derived.Test.YtidijbnoaeopdaaGreatDoorMgExactPeakCells5
import Derived.Test.YtidijbnoaeopdaaGreatDoorMgExactPeakCells13
import Derived.Test.YtidijbnoaeopdaaGreatDoorMgExactPeakCells20
import Derived.Test.YtidijbnoaeopdaaGreatDoorMgExactPeakCells28
namespace Go.Proofs.YtidijbnoaeopdaaGreatDoor
set_option linter.unusedVariables false
set_option linter.unusedSimpArgs false
open Go.RowKit

/-- a run by value in memory of its own, and whether -/
def OwnX (r : Rn × Bool) (w : World) (e : Ending) (w' : World) : Prop := ∃ gv, e = .returned (.tuple #[.agg (rnC gv r.1), .bool r.2]) ∧ OwnC w' w.heap.size (fun k => w.heap.size ≤ k) r.1.g gv ∧ Below w.heap.size w w'
set_option maxRecDepth 100000 in
set_option maxHeartbeats 1600000 in
theorem implStart_calls (ds : List Df) (t : Tr) (p c : Value) (w : World) (hp : DIn w ds p) (hk : In w t.kids c) (ht : I64 t.op ∧ I64 t.num) :
    Calls Tryz.prog 76 #[p, .agg #[.int .i64 t.op, .int .i64 t.num, c]] w (OwnX (sxO ds t) w) := by
  have HK : Hid (In w t.kids c) := hk
  have HP : Hid (DIn w ds p) := hp
  have HT := mkHid ht
  obtain ⟨ad, cap, rfl, -, -, -⟩ := hk
  obtain ⟨adp, capp, rfl, -, -, -⟩ := hp
  obtain ⟨W, hW⟩ : ∃ W, W = (w.alloc (.cells #[.int .i64 t.op, .int .i64 t.num, .slice ad t.kids.length cap] 48)).alloc (.cells #[.slice none 0 0, .int .i64 0, .int .i64 0, .int .i64 0, .int .i64 0, .int .i64 0, .int .i64 0] 30) := ⟨_, rfl⟩
  have HB_W : Hid (Below w.heap.size w W) := by rw [hW]; exact (box_below _ _).alloc (by rw [Deep.nblk_alloc]; omega) _
  have HX_W : Hid (W.heap[w.heap.size]? = some (.cells #[.int .i64 t.op, .int .i64 t.num, .slice ad t.kids.length cap] 48)) := by
    rw [hW]; exact (Deep.blk_alloc_lt _ _ _ (by rw [Deep.nblk_alloc]; omega)).trans (Deep.blk_alloc_new _ _)
  have HY_W : Hid (W.heap[w.heap.size + 1]? = some (.cells #[.slice none 0 0, .int .i64 0, .int .i64 0, .int .i64 0, .int .i64 0, .int .i64 0, .int .i64 0] 30)) := by
    have h := Deep.blk_alloc_new (w.alloc (.cells #[.int .i64 t.op, .int .i64 t.num, .slice ad t.kids.length cap] 48)) (.cells #[.slice none 0 0, .int .i64 0, .int .i64 0, .int .i64 0, .int .i64 0, .int .i64 0, .int .i64 0] 30)
    rw [Deep.nblk_alloc] at h
    rw [hW]; exact h
  have HL_W : Hid (W.heap.size = w.heap.size + 2) := by rw [hW, Hid, Deep.nblk_alloc, Deep.nblk_alloc]
  clear ht
  go_enter Tryz.func76, Tryz.ntmps76
  go_wp2_with fail
  rw [← hW]
  clear hW
  refine (implBuild_calls t ds.length _ W (HK.out.next HB_W.out) HT.out.1 HT.out.2).mono ?_
  rintro e w1 ⟨v, rfl, ho, hb1⟩
  have HB1 : Hid (Below w.heap.size w w1) := HB_W.out.trans (hb1.mono HB_W.out.size)
  have HL1 : Hid (w.heap.size + 2 ≤ w1.heap.size) := by have := hb1.size; have := HL_W.out; unfold Hid; omega
  have HY1 := mkHid ((hb1.block _ (by have := HL_W.out; omega)).trans HY_W.out)
  rw [HL_W.out] at ho
  rw [addOut_closed] at ho ⊢
  clear hb1
  cases hr : validB t 0 ds.length with
  | false =>
    have HV : Hid (sxO ds t = (rnZ, false)) := by unfold Hid sxO closedB; rw [hr, Bool.and_false]; rfl
    rw [hr] at ho
    rw [if_neg (by simp)] at ho ⊢
    obtain ⟨ada, capa, rfl⟩ := ho.form
    have y0 := cell_of_blk HY1.out 0 _ rfl
    have y1 := cell_of_blk HY1.out 1 _ rfl
    have y2 := cell_of_blk HY1.out 2 _ rfl
    have y3 := cell_of_blk HY1.out 3 _ rfl
    have y4 := cell_of_blk HY1.out 4 _ rfl
    have y5 := cell_of_blk HY1.out 5 _ rfl
    have y6 := cell_of_blk HY1.out 6 _ rfl
    have fy := frz_of_blk HY1.out
    clear hr ho
    go_wp2_with fail
    refine bodyPost_ret (v := .tuple #[.agg (rnC (.slice none 0 0) rnZ), .bool false]) (by simp [results, Tryz.results76, go_sem, y0, y1, y2, y3, y4, y5, y6, fy, rnC, rnZ]) rfl ?_
    rw [HV.out]
    exact ⟨_, rfl, OwnC.nil _ _ _, st7_below HB1.out (by omega)⟩
  | true =>
    rw [hr] at ho
    rw [if_pos rfl] at ho ⊢
    dsimp only at ho ⊢
    obtain ⟨g0, hg0⟩ : ∃ g0, g0 = (addT [] t []).1 := ⟨_, rfl⟩
    obtain ⟨a0, ha0⟩ : ∃ a0, a0 = (addT [] t []).2 := ⟨_, rfl⟩
    have HVV : Hid (sxO ds t = if progB ds = true then (startX g0 a0, true) else (rnZ, false)) := by unfold Hid sxO closedB; rw [hr, Bool.and_true, hg0, ha0]
    rw [← hg0] at ho
    rw [← ha0]
    obtain ⟨ada, capa, rfl⟩ := ho.form
    have HO := mkHid ho
    clear hr ho hg0 ha0
    go_wp2_with fail
    refine (implProg_calls ds _ w1 (HP.out.next HB1.out)).mono ?_
    rintro e w2 ⟨rfl, hb2⟩
    have HB2 : Hid (Below w.heap.size w w2) := HB1.out.trans (hb2.mono HB1.out.size)
    have HY2 := mkHid ((hb2.block _ (by have := HL1.out; omega)).trans HY1.out)
    have HO2 : Hid (OwnC w2 (w.heap.size + 2) (fun k => w.heap.size + 2 ≤ k) g0 (.slice ada g0.length capa)) := HO.out.next (fun _ h _ => h) (fun k _ hz => hb2.block k hz) (fun k _ hz => hb2.block k hz)
    have y0 := cell_of_blk HY2.out 0 _ rfl
    have y1 := cell_of_blk HY2.out 1 _ rfl
    have y2 := cell_of_blk HY2.out 2 _ rfl
    have y3 := cell_of_blk HY2.out 3 _ rfl
    have y4 := cell_of_blk HY2.out 4 _ rfl
    have y5 := cell_of_blk HY2.out 5 _ rfl
    have y6 := cell_of_blk HY2.out 6 _ rfl
    have fy := frz_of_blk HY2.out
    clear hb2
    cases hpb : progB ds with
    | false =>
      have HV : Hid (sxO ds t = (rnZ, false)) := HVV.out.trans (by rw [hpb]; rfl)
      clear hpb
      go_wp2_with fail
      refine bodyPost_ret (v := .tuple #[.agg (rnC (.slice none 0 0) rnZ), .bool false]) (by simp [results, Tryz.results76, go_sem, y0, y1, y2, y3, y4, y5, y6, fy, rnC, rnZ]) rfl ?_
      rw [HV.out]
      exact ⟨_, rfl, OwnC.nil _ _ _, st7_below HB2.out (by omega)⟩
    | true =>
      have HV : Hid (sxO ds t = (startX g0 a0, true)) := HVV.out.trans (by rw [hpb]; rfl)
      clear hpb
      go_wp2_with fail
      refine bodyPost_ret (v := .tuple #[.agg (rnC (.slice ada g0.length capa) (startX g0 a0)), .bool true]) (by simp [results, Tryz.results76, go_sem, y0, y1, y2, y3, y4, y5, y6, fy, rnC, startX]) rfl ?_
      rw [HV.out]
      exact ⟨_, rfl, (HO2.out.far (fun k hk => st7_far (by omega))).lower (by omega) (fun k hk => by omega), st7_below HB2.out (by omega)⟩
end Go.Proofs.YtidijbnoaeopdaaGreatDoor
/-
  THE PROGRAM's standsFor; nothing that was there is changed.
-/
namespace Go.Proofs.YtidijbnoaeopdaaGreatDoor
set_option linter.unusedVariables false
set_option linter.unusedSimpArgs false
open Go.RowKit

/-- what standsFor answers -/
def folO (o : Option Nat) : Int := match o with | some b => (b : Int) | none => 0

set_option maxHeartbeats 800000 in
theorem standsFor_calls (g : List Ce) (a : Nat) (v : Value) (w : World) (hk : CIn w g v) (hg : ∃ defs, graphB g defs = true) (ha : a < g.length) :
    Calls Tryz.prog 57 #[v, .int .i64 (a : Int)] w fun e w' => e = .returned (.tuple #[.int .i64 (folO (followN g g.length a)), .bool (followN g g.length a).isSome]) ∧ Below w.heap.size w w' := by
  have HK : Hid (CIn w g v) := hk
  obtain ⟨ad, cap, rfl, hl, hm, -⟩ := hk
  unfold maxLen at hm
  obtain ⟨defs, hg⟩ := hg
  have HG : Hid (graphB g defs = true) := hg
  have h400 : g.length ≤ 400 := graphB_len hg
  clear hg
  go_enter Tryz.func57, Tryz.ntmps57
  go_wp2_with fail
  go_loopw [1, 8] (fun at' i wr => ∃ k b : Nat, k ≤ g.length ∧ i = .int .i64 k ∧ at' = .int .i64 (b : Int) ∧ b < g.length ∧ followN g g.length a = followN g (g.length - k) b ∧ Below w.heap.size w wr) (fun _ i _ => g.length - (intOf i).toNat)
  case atStart => exact ⟨0, a, Nat.zero_le _, rfl, rfl, ha, rfl, Below.refl _ _⟩
  case round =>
    obtain ⟨k, b, hk, rfl, rfl, hbl, hf, hb⟩ := hrel
    have HF : Hid (followN g g.length a = followN g (g.length - k) b) := hf
    have HB : Hid (Below w.heap.size w wr) := hb
    clear hf
    by_cases hlt : k < g.length
    · have HLT : Hid (k < g.length) := hlt
      obtain ⟨bl, off, r, rfl, c0, c1, c2, -, -, hkk⟩ := (HK.out.next hb).at b hbl
      clear hb
      by_cases ho : g[b].op = 11
      · obtain ⟨y, hy1, hy2, hy3⟩ := ind_kid HG.out b hbl ho
        have HV : Hid (followN g g.length a = followN g (g.length - (k + 1)) y) := by
          have h1 := HF.out
          rw [show g.length - k = (g.length - (k + 1)) + 1 by omega] at h1
          exact h1.trans ((followN_ind (by rw [opAt_at b hbl]; exact ho)).trans (by rw [hy3]))
        have t1 : (g[b].op != 11) = false := by simp [ho]
        obtain ⟨ad2, cap2, rfl, hl2, hm2, -⟩ := id hkk
        obtain ⟨bl2, off2, rfl, d0⟩ := hkk.at 0 (by rw [hy1]; simp)
        have hlen1 : g[b].kids.length = 1 := by rw [hy1]; rfl
        have hkid : g[b].kids[0]'(by omega) = (y : Int) := by simp [hy1]
        rw [hkid, Nat.add_zero] at d0
        rw [hlen1] at c2
        clear ho hy1 hy3 hkid hlen1 hkk hl2 hm2
        go_wp2_with fail
        go_roundw
        case rel => exact ⟨k + 1, y, by have := HLT.out; omega, by go_num, rfl, hy2, HV.out, HB.out⟩
        case measure => have := HLT.out; simp [intOf]; omega
      · have HV : Hid (followN g g.length a = some b) := by
          have h1 := HF.out
          rw [show g.length - k = (g.length - k - 1) + 1 by omega] at h1
          exact h1.trans (followN_stop (by rw [opAt_at b hbl]; exact ho))
        have t1 : (g[b].op != 11) = true := by simpa using ho
        clear ho hkk
        go_wp2_with fail
        go_ret2
        exact ⟨ret_ib (by rw [HV.out]; rfl) (by rw [HV.out]; rfl), HB.out⟩
    · have HV : Hid (followN g g.length a = none) := by
        have := HF.out
        rw [show g.length - k = 0 by omega] at this
        exact this
      clear hb
      go_wp2_with fail
      go_ret2
      exact ⟨ret_ib (by rw [HV.out]; rfl) (by rw [HV.out]; rfl), HB.out⟩

end Go.Proofs.YtidijbnoaeopdaaGreatDoor
/-
  THE PROGRAM's arena IN MEMORY, AND redirect.
-/
namespace Go.Proofs.YtidijbnoaeopdaaGreatDoor
set_option linter.unusedVariables false
set_option linter.unusedSimpArgs false
open Go.RowKit

/-- an arena at A, its graph in rows of its own from lo on -/
structure ArW (A lo : Nat) (g : List Ce) (w : World) : Prop where
  are : ∃ ad cap, w.heap[A]? = some (.cells #[.slice ad g.length cap] 149) ∧ OwnC w lo (fun b => lo ≤ b) g (.slice ad g.length cap)
  loA : lo ≤ A
/-- no row of cells -/
def NoCe (w : World) (j : Nat) : Prop := ∀ C r, w.heap[j]? ≠ some (.cells C 93 r)
theorem ArW.blk {A lo : Nat} {g : List Ce} {w : World} (h : ArW A lo g w) (h0 : 0 < g.length) : ∃ b cap, w.heap[A]? = some (.cells #[.slice (some ⟨b, 0, none⟩) g.length cap] 149) ∧ OwnC w lo (fun b => lo ≤ b) g (.slice (some ⟨b, 0, none⟩) g.length cap) ∧ lo ≤ b ∧ b < w.heap.size ∧ b ≠ A ∧ ¬ NoCe w b := by
  obtain ⟨ad, cap, h1, h2⟩ := h.are
  obtain ⟨ys, hys⟩ := h2.row
  rcases hys.2 with ⟨-, hz⟩ | ⟨b5, c5, cur5, e5, hlo, hh, -⟩
  · omega
  · simp only [Value.slice.injEq] at e5
    obtain ⟨rfl, -, rfl⟩ := e5
    refine ⟨b5, cap, h1, h2, hlo, (Array.getElem?_eq_some_iff.1 hh).1, ?_, fun hn => hn _ _ hh⟩
    rintro rfl; rw [h1] at hh; simp at hh
/-- it stays where all blocks from lo on stay -/
theorem ArW.keep {A lo : Nat} {g : List Ce} {w w' : World} (h : ArW A lo g w) (hb : ∀ k, lo ≤ k → k < w.heap.size → w'.heap[k]? = w.heap[k]?) : ArW A lo g w' := by
  obtain ⟨ad, cap, h1, h2⟩ := h.are
  exact ⟨⟨ad, cap, (hb A h.loA (Array.getElem?_eq_some_iff.1 h1).1).trans h1, h2.next (fun _ h _ => h) (fun k hk hz => hb k (by obtain ⟨ys, hy⟩ := h2.row; exact (hy.lt k hk.symm).1) hz) (fun k hk hz => hb k hk hz)⟩, h.loA⟩
theorem ArW.next {A lo : Nat} {g : List Ce} {w w' : World} (h : ArW A lo g w) (hb : Below w.heap.size w w') : ArW A lo g w' := h.keep fun k _ hk => hb.block k hk
theorem ArW.inn {A lo : Nat} {g : List Ce} {w : World} (h : ArW A lo g w) : ∃ ad cap, w.heap[A]? = some (.cells #[.slice ad g.length cap] 149) ∧ CIn w g (.slice ad g.length cap) := by
  obtain ⟨ad, cap, h1, h2⟩ := h.are
  exact ⟨ad, cap, h1, (h2.own fun k hk _ => hk).inn⟩
/-- a cell is overwritten, its operands in a block that is laid for them -/
theorem ArW.set {A lo b cap : Nat} {g : List Ce} {w : World} (h : ArW A lo g w) (hA : w.heap[A]? = some (.cells #[.slice (some ⟨b, 0, none⟩) g.length cap] 149)) (hO : OwnC w lo (fun b => lo ≤ b) g (.slice (some ⟨b, 0, none⟩) g.length cap)) (hbA : b ≠ A)
    (hlo : lo ≤ w.heap.size) (o : Obj) {at' : Nat} (hat : at' < g.length) {ce : Ce} {kv : Value} (hc : I64 ce.op ∧ I64 ce.num) (hk : KRowS (w.alloc o) (fun x => x = w.heap.size) ce.kids w.heap.size kv) :
    ArW A lo (g.set at' ce) (st3 (w.alloc o) b at' ce.op ce.num kv) := by
  have hAl := (Array.getElem?_eq_some_iff.1 hA).1
  refine ⟨⟨some ⟨b, 0, none⟩, cap, ?_, ?_⟩, h.loA⟩
  · rw [st3_block hbA.symm, Deep.blk_alloc_lt _ _ _ hAl, List.length_set]; exact hA
  · have hoa : OwnC (w.alloc o) lo (fun b => lo ≤ b ∧ b < w.heap.size) g (.slice (some ⟨b, 0, none⟩) g.length cap) :=
      hO.next (fun k hk hz => ⟨hk, hz⟩) (fun k _ hz => Deep.blk_alloc_lt _ _ _ hz) (fun k _ hz => Deep.blk_alloc_lt _ _ _ hz)
    have hset := hoa.setc at' hat (c := ce) hc hk (by rintro ⟨-, h⟩; omega)
    rw [List.length_set]
    exact hset.next (fun k hk _ => by rcases hk with h | h; exact h.1; omega) (fun _ _ _ => rfl) (fun _ _ _ => rfl)
/-- a call that hands back nothing -/
def Did (P : World → Prop) (lo : Nat) (w : World) (e : Ending) (w' : World) : Prop := e = .returned (.tuple #[]) ∧ P w' ∧ Below lo w w'
theorem indI64 (k : Nat) : I64 (indTo k).op ∧ I64 (indTo k).num := by unfold I64 indTo; simp
theorem own_cellI {w : World} {base n cap b : Nat} {xs : List Value} (h : w.ownsRow base 93 3 (.slice (some ⟨b, 0, none⟩) n cap) n xs) (j : Nat) (hj : j < n * 3) : ∃ z, w.cell? ⟨b, j, none⟩ = some z :=
  ⟨_, (h.cellAt j hj).trans (List.getElem?_eq_getElem (by have := h.1; omega))⟩
/-- not the row of the arena's cells -/
def NotRow (w : World) (A j : Nat) : Prop := ∀ o n cap, w.heap[A]? ≠ some (.cells #[.slice (some ⟨j, o, none⟩) n cap] 149)
theorem ArW.notRow {A lo : Nat} {g : List Ce} {w : World} (h : ArW A lo g w) {j : Nat} (hn : NoCe w j) : NotRow w A j := by
  intro o n cap e
  obtain ⟨ad, cap2, h1, h2⟩ := h.are
  rw [h1] at e
  simp only [Option.some.injEq, Obj.cells.injEq, Array.mk.injEq, List.cons.injEq, Value.slice.injEq, and_true] at e
  obtain ⟨rfl, rfl, rfl⟩ := e
  obtain ⟨ys, hys⟩ := h2.row
  rcases hys.2 with ⟨e5, -⟩ | ⟨b5, c5, cur5, e5, hlo, hh, -⟩
  · cases e5
  · cases e5; exact hn _ _ hh
/-- the graph in the end; all but the row of the cells stays -/
def ReAr (A lo : Nat) (g : List Ce) (w w' : World) : Prop := ArW A lo g w' ∧ ∀ j, j < w.heap.size → NotRow w A j → w'.heap[j]? = w.heap[j]?

set_option maxRecDepth 100000 in
set_option maxHeartbeats 1600000 in
theorem redirectA_calls (A lo at' k : Nat) (g : List Ce) (w : World) (h : ArW A lo g w) (hlo : lo ≤ w.heap.size) (hat : at' < g.length) (hg : g.length ≤ 1048576) :
    Calls Tryz.prog 129 #[.pointer (some ⟨A, 0, none⟩), .int .i64 (at' : Int), .int .i64 (k : Int)] w (Did (ReAr A lo (g.set at' (indTo k)) w) lo w) := by
  obtain ⟨b, cap, hA, hO, hbl, hbz, hbA, hbn⟩ := h.blk (by omega)
  have HFIN := mkHid (h.set hA hO hbA hlo (.cells #[.int .i64 (k : Int)] 3) hat (ce := indTo k) (kv := .slice (some ⟨w.heap.size, 0, none⟩) 1 1) (indI64 k) (krow_one w k))
  have HFR : Hid (∀ j, j < w.heap.size → NotRow w A j → (st3 (w.alloc (.cells #[.int .i64 (k : Int)] 3)) b at' 11 0 (.slice (some ⟨w.heap.size, 0, none⟩) 1 1)).heap[j]? = w.heap[j]?) := fun j hj hn => by
    rw [st3_block (by rintro rfl; exact hn _ _ _ hA), Deep.blk_alloc_lt _ _ _ hj]
  have HBF : Hid (Below lo w (st3 (w.alloc (.cells #[.int .i64 (k : Int)] 3)) b at' 11 0 (.slice (some ⟨w.heap.size, 0, none⟩) 1 1))) := st3_below ((Below.refl _ _).alloc hlo _) hbl
  have hAl := (Array.getElem?_eq_some_iff.1 hA).1
  have a0 := cell_of_blk hA 0 _ rfl
  have a0' := old_cell a0 (.cells #[.int .i64 (k : Int)] 3)
  obtain ⟨ys, hys⟩ := hO.row
  have hys2 := World.ownsRow.alloc hys (.cells #[.int .i64 (k : Int)] 3)
  obtain ⟨q0, y0⟩ := own_cellI hys2 (at' * 3) (by omega)
  obtain ⟨q1, y1⟩ := own_cellI hys2 (at' * 3 + 1) (by omega)
  obtain ⟨q2, y2⟩ := own_cellI hys2 (at' * 3 + 2) (by omega)
  have f0 := hys2.frozenAt (at' * 3)
  have f1 := hys2.frozenAt (at' * 3 + 1)
  have f2 := hys2.frozenAt (at' * 3 + 2)
  have hatI : (at' : Int) < (g.length : Int) := by omega
  clear hys hys2 hO hA h hbz hbl hbA hbn hAl
  go_enter Tryz.func129, Tryz.ntmps129
  go_wp2_with fail
  go_end0
  exact ⟨rfl, ⟨HFIN.out, HFR.out⟩, HBF.out⟩
end Go.Proofs.YtidijbnoaeopdaaGreatDoor
/-
  THE PROGRAM's reducer IN MEMORY, AND redirect.
-/
namespace Go.Proofs.YtidijbnoaeopdaaGreatDoor
set_option linter.unusedVariables false
set_option linter.unusedSimpArgs false
open Go.RowKit

/-- the fuel of a reducer, and the rest of the struct that it begins (none for a reducer alone) -/
structure Fu where
  fu : Int
  more : List Value
  ty : TypeId
  ok : ty ≠ 149 ∧ ty ≠ 93 ∧ ty ≠ 3
instance : Coe Int Fu := ⟨fun f => ⟨f, [], 132, by decide⟩⟩
/-- a reducer at R with its arena at A, its graph in rows of its own from lo on -/
structure RedW (R A lo : Nat) (c : Value) (fu : Fu) (st : Int) (g : List Ce) (w : World) : Prop where
  red : w.heap[R]? = some (.cells ⟨.pointer (some ⟨A, 0, none⟩) :: c :: .int .i64 fu.fu :: .int .i64 st :: fu.more⟩ fu.ty)
  are : ∃ ad cap, w.heap[A]? = some (.cells #[.slice ad g.length cap] 149) ∧ OwnC w lo (fun b => lo ≤ b) g (.slice ad g.length cap)
  loR : lo ≤ R
  loA : lo ≤ A
theorem RedW.noT {R A lo : Nat} {c : Value} {fu : Fu} {st : Int} {g : List Ce} {w : World} (h : RedW R A lo c fu st g w) {C : Array Value} {T : TypeId} {r : Nat × Nat} (hT : T = 149 ∨ T = 93 ∨ T = 3) (hh : w.heap[R]? = some (.cells C T r)) : False := by
  rw [h.red] at hh
  simp only [Option.some.injEq, Obj.cells.injEq] at hh
  obtain ⟨-, e, -⟩ := hh
  obtain ⟨f1, f2, f3⟩ := fu.ok
  rcases hT with rfl | rfl | rfl
  · exact f1 e
  · exact f2 e
  · exact f3 e
theorem RedW.blk {R A lo : Nat} {c : Value} {fu : Fu} {st : Int} {g : List Ce} {w : World} (h : RedW R A lo c fu st g w) (h0 : 0 < g.length) : ∃ b cap, w.heap[A]? = some (.cells #[.slice (some ⟨b, 0, none⟩) g.length cap] 149) ∧ OwnC w lo (fun b => lo ≤ b) g (.slice (some ⟨b, 0, none⟩) g.length cap) ∧ lo ≤ b ∧ b < w.heap.size ∧ b ≠ A ∧ b ≠ R := by
  obtain ⟨ad, cap, h1, h2⟩ := h.are
  obtain ⟨ys, hys⟩ := h2.row
  rcases hys.2 with ⟨-, hz⟩ | ⟨b5, c5, cur5, e5, hlo, hh, -⟩
  · omega
  · simp only [Value.slice.injEq] at e5
    obtain ⟨rfl, -, rfl⟩ := e5
    refine ⟨b5, cap, h1, h2, hlo, (Array.getElem?_eq_some_iff.1 hh).1, ?_, ?_⟩
    · rintro rfl; rw [h1] at hh; simp at hh
    · rintro rfl; exact h.noT (Or.inr (Or.inl rfl)) hh
/-- it stays where all blocks from lo on stay -/
theorem RedW.keep {R A lo : Nat} {c : Value} {fu : Fu} {st : Int} {g : List Ce} {w w' : World} (h : RedW R A lo c fu st g w) (hb : ∀ k, lo ≤ k → k < w.heap.size → w'.heap[k]? = w.heap[k]?) : RedW R A lo c fu st g w' := by
  obtain ⟨ad, cap, h1, h2⟩ := h.are
  exact ⟨(hb R h.loR (Array.getElem?_eq_some_iff.1 h.red).1).trans h.red, ⟨ad, cap, (hb A h.loA (Array.getElem?_eq_some_iff.1 h1).1).trans h1, h2.next (fun _ h _ => h) (fun k hk hz => hb k (by obtain ⟨ys, hy⟩ := h2.row; exact (hy.lt k hk.symm).1) hz) (fun k hk hz => hb k hk hz)⟩, h.loR, h.loA⟩
theorem RedW.next {R A lo : Nat} {c : Value} {fu : Fu} {st : Int} {g : List Ce} {w w' : World} (h : RedW R A lo c fu st g w) (hb : Below w.heap.size w w') : RedW R A lo c fu st g w' := h.keep fun k _ hk => hb.block k hk
/-- the graph can be read -/
theorem RedW.inn {R A lo : Nat} {c : Value} {fu : Fu} {st : Int} {g : List Ce} {w : World} (h : RedW R A lo c fu st g w) : ∃ ad cap, w.heap[A]? = some (.cells #[.slice ad g.length cap] 149) ∧ CIn w g (.slice ad g.length cap) := by
  obtain ⟨ad, cap, h1, h2⟩ := h.are
  exact ⟨ad, cap, h1, (h2.own fun k hk _ => hk).inn⟩
/-- a cell is overwritten, its operands in a block that is laid for them -/
theorem RedW.set {R A lo b cap : Nat} {c : Value} {fu : Fu} {st : Int} {g : List Ce} {w : World} (h : RedW R A lo c fu st g w) (hA : w.heap[A]? = some (.cells #[.slice (some ⟨b, 0, none⟩) g.length cap] 149)) (hO : OwnC w lo (fun b => lo ≤ b) g (.slice (some ⟨b, 0, none⟩) g.length cap)) (hbA : b ≠ A) (hbR : b ≠ R)
    (hlo : lo ≤ w.heap.size) (o : Obj) {at' : Nat} (hat : at' < g.length) {ce : Ce} {kv : Value} (hc : I64 ce.op ∧ I64 ce.num) (hk : KRowS (w.alloc o) (fun x => x = w.heap.size) ce.kids w.heap.size kv) :
    RedW R A lo c fu st (g.set at' ce) (st3 (w.alloc o) b at' ce.op ce.num kv) := by
  have hRl := (Array.getElem?_eq_some_iff.1 h.red).1
  have hAl := (Array.getElem?_eq_some_iff.1 hA).1
  refine ⟨?_, ⟨some ⟨b, 0, none⟩, cap, ?_, ?_⟩, h.loR, h.loA⟩
  · rw [st3_block hbR.symm, Deep.blk_alloc_lt _ _ _ hRl]; exact h.red
  · rw [st3_block hbA.symm, Deep.blk_alloc_lt _ _ _ hAl, List.length_set]; exact hA
  · have hoa : OwnC (w.alloc o) lo (fun b => lo ≤ b ∧ b < w.heap.size) g (.slice (some ⟨b, 0, none⟩) g.length cap) :=
      hO.next (fun k hk hz => ⟨hk, hz⟩) (fun k _ hz => Deep.blk_alloc_lt _ _ _ hz) (fun k _ hz => Deep.blk_alloc_lt _ _ _ hz)
    have hset := hoa.setc at' hat (c := ce) hc hk (by rintro ⟨-, h⟩; omega)
    rw [List.length_set]
    exact hset.next (fun k hk _ => by rcases hk with h | h; exact h.1; omega) (fun _ _ _ => rfl) (fun _ _ _ => rfl)
theorem RedW.arw {R A lo : Nat} {c : Value} {fu : Fu} {st : Int} {g : List Ce} {w : World} (h : RedW R A lo c fu st g w) : ArW A lo g w := ⟨h.are, h.loA⟩
theorem RedW.noR {R A lo : Nat} {c : Value} {fu : Fu} {st : Int} {g : List Ce} {w : World} (h : RedW R A lo c fu st g w) : NoCe w R := by intro C r e; exact h.noT (Or.inr (Or.inl rfl)) e
theorem RedW.of {R A lo : Nat} {c : Value} {fu : Fu} {st : Int} {g g' : List Ce} {w w' : World} (h : RedW R A lo c fu st g w) (ha : ReAr A lo g' w w') : RedW R A lo c fu st g' w' :=
  ⟨(ha.2 R (Array.getElem?_eq_some_iff.1 h.red).1 (h.arw.notRow h.noR)).trans h.red, ha.1.are, h.loR, h.loA⟩
/-- what lies outside the reducer, its arena and the row of its cells stays -/
def Kp (R A : Nat) (w w' : World) : Prop := w.heap.size ≤ w'.heap.size ∧ ∀ j, j < w.heap.size → NotRow w A j → j ≠ A → j ≠ R → w'.heap[j]? = w.heap[j]? ∧ NotRow w' A j
theorem Kp.trans {R A : Nat} {w w1 w2 : World} (h1 : Kp R A w w1) (h2 : Kp R A w1 w2) : Kp R A w w2 := ⟨Nat.le_trans h1.1 h2.1, fun j hj hn ha hr => by
  obtain ⟨e1, n1⟩ := h1.2 j hj hn ha hr
  obtain ⟨e2, n2⟩ := h2.2 j (Nat.lt_of_lt_of_le hj h1.1) n1 ha hr
  exact ⟨e2.trans e1, n2⟩⟩
theorem Kp.below {R A : Nat} {w w' : World} (hb : Below w.heap.size w w') (hA : A < w.heap.size) : Kp R A w w' := ⟨hb.size, fun j hj hn _ _ => ⟨hb.block j hj, fun o n cap e => hn o n cap (by rw [← hb.block A hA]; exact e)⟩⟩
theorem Kp.ofX {R A : Nat} {w w' : World} (hs : w.heap.size ≤ w'.heap.size) (hx : ∀ j, j < w.heap.size → NotRow w A j → w'.heap[j]? = w.heap[j]?) (hA : A < w.heap.size) (hn : NotRow w A A) : Kp R A w w' := ⟨hs, fun j hj hj2 _ _ => ⟨hx j hj hj2, fun o n cap e => hj2 o n cap (by rw [← hx A hA hn]; exact e)⟩⟩
theorem Kp.st3 {R A b n cap i : Nat} {o m : Int} {kv : Value} {w : World} (hA : w.heap[A]? = some (.cells #[.slice (some ⟨b, 0, none⟩) n cap] 149)) (hbA : b ≠ A) : Kp R A w (st3 w b i o m kv) := ⟨Nat.le_of_eq st3_size.symm, fun j hj hn _ _ => by
  have hjb : j ≠ b := by rintro rfl; exact hn _ _ _ hA
  exact ⟨st3_block hjb, fun o n cap e => hn o n cap (by rw [← st3_block hbA.symm]; exact e)⟩⟩
theorem RedW.neAR {R A lo : Nat} {c : Value} {fu : Fu} {st : Int} {g : List Ce} {w : World} (h : RedW R A lo c fu st g w) : A ≠ R := by
  rintro rfl
  obtain ⟨ad, cap, h1, -⟩ := h.are
  exact h.noT (Or.inl rfl) h1
theorem RedW.ltA {R A lo : Nat} {c : Value} {fu : Fu} {st : Int} {g : List Ce} {w : World} (h : RedW R A lo c fu st g w) : A < w.heap.size := by
  obtain ⟨ad, cap, h1, -⟩ := h.are
  exact (Array.getElem?_eq_some_iff.1 h1).1
/-- a cell stands for another one; all but the row of the cells stays -/
def RedX (R A lo : Nat) (c : Value) (fu : Fu) (st : Int) (g : List Ce) (w : World) (e : Ending) (w' : World) : Prop := e = .returned (.tuple #[]) ∧ RedW R A lo c fu st g w' ∧ Below lo w w' ∧ ∀ j, j < w.heap.size → NotRow w A j → w'.heap[j]? = w.heap[j]?
theorem redirectX_calls (R A lo at' k : Nat) (c : Value) (fu : Fu) (st : Int) (g : List Ce) (w : World) (h : RedW R A lo c fu st g w) (hlo : lo ≤ w.heap.size) (hat : at' < g.length) (hg : g.length ≤ 1048576) :
    Calls Tryz.prog 129 #[.pointer (some ⟨A, 0, none⟩), .int .i64 (at' : Int), .int .i64 (k : Int)] w (RedX R A lo c fu st (g.set at' (indTo k)) w) :=
  (redirectA_calls A lo at' k g w h.arw hlo hat hg).mono fun _ _ h2 => ⟨h2.1, h.of h2.2.1, h2.2.2, h2.2.1.2⟩
theorem notRow_of {w w' : World} {A b n cap j : Nat} (hA : w.heap[A]? = some (.cells #[.slice (some ⟨b, 0, none⟩) n cap] 149)) (hj : j ≠ b) (he : w'.heap[A]? = w.heap[A]?) : NotRow w' A j := by
  intro o n2 cap2 e
  rw [he, hA] at e
  simp only [Option.some.injEq, Obj.cells.injEq, Array.mk.injEq, List.cons.injEq, Value.slice.injEq, Addr.mk.injEq, and_true] at e
  exact hj e.1.1.symm
end Go.Proofs.YtidijbnoaeopdaaGreatDoor
