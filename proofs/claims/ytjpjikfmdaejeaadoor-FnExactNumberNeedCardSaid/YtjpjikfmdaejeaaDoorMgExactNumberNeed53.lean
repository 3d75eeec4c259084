/-
  THE PROGRAM's value, OF A NUMBER.
-/
import Derived.Test.YtjpjikfmdaejeaaDoorMgExactNumberNeed51
import Derived.Test.YtjpjikfmdaejeaaDoorMgExactNumberNeed52
import Derived.Test.YtjpjikfmdaejeaaDoorMgExactNumberNeed6
import Derived.Test.YtjpjikfmdaejeaaDoorMgExactNumberNeed32
import Derived.Test.YtjpjikfmdaejeaaDoorMgExactNumberNeed24
import Derived.Test.YtjpjikfmdaejeaaDoorMgExactNumberNeed2
import Derived.Test.YtjpjikfmdaejeaaDoorMgExactNumberNeed3
namespace Go.Proofs.YtjpjikfmdaejeaaDoor
set_option linter.unusedVariables false
set_option linter.unusedSimpArgs false
open Go.RowKit

/-- a number: the cell that the value is, and the error -/
def ValD (aF aS aL : Addr) (R A lo a : Nat) (c : Value) (fu : Int) (r : List Ce × Nat × Nat) (w : World) (e : Ending) (w' : World) : Prop :=
  ∃ (o : Int) (adk : Option Addr) (nk capk : Nat), e = .returned (.tuple #[.agg #[.int .i64 o, .int .i64 (numR a r).1, .slice adk nk capk], errV aF aS aL (numR a r).2.1]) ∧ RedW R A lo c fu (r.2.2 : Int) r.1 w' ∧ Below lo w w' ∧ Kp R A w w'

/-- a reducer stays where a block changes that is none of its own -/
theorem RedW.butX {R A lo X : Nat} {c : Value} {fu st : Int} {g : List Ce} {w w' : World} (h : RedW R A lo c fu st g w) (hR : X ≠ R) (hA : X ≠ A) (hn : NotRow w A X) (hX : ∃ C r, w.heap[X]? = some (.cells C 64 r)) (hk : ∀ k, k ≠ X → w'.heap[k]? = w.heap[k]?) : RedW R A lo c fu st g w' := by
  obtain ⟨ad, cap, h1, h2⟩ := h.are
  refine ⟨(hk R hR.symm).trans h.red, ⟨ad, cap, (hk A hA.symm).trans h1, h2.next2 (fun _ hz _ => hz) (fun k e hz => hk k ?_) (fun k C hz _ hC => hk k ?_)⟩, h.loR, h.loA⟩
  · rintro rfl
    obtain ⟨ys, hys⟩ := h2.row
    rcases hys.2 with ⟨e5, -⟩ | ⟨b, c5, cur, e5, -, hh, -⟩
    · rw [e5] at e; simp [Value.ownBlock] at e
    · rw [e5] at e
      simp only [Value.ownBlock, Option.some.injEq] at e
      subst e
      simp only [Value.slice.injEq] at e5
      obtain ⟨rfl, -, rfl⟩ := e5
      exact hn _ _ _ h1
  · rintro rfl
    obtain ⟨D, r, hX⟩ := hX
    rw [hX] at hC
    simp at hC
/-- what the result's block may do -/
theorem Kp.butX {R A X : Nat} {w w' : World} (hs : w'.heap.size = w.heap.size) (hA : X ≠ A) (hk : ∀ k, k ≠ X → w'.heap[k]? = w.heap[k]?) : ∀ j, j < w.heap.size → NotRow w A j → j ≠ X → w'.heap[j]? = w.heap[j]? ∧ NotRow w' A j :=
  fun j hj hn hx => ⟨hk j hx, fun o n cap e => hn o n cap (by rw [← hk A hA.symm]; exact e)⟩

theorem st3_blk {w : World} {X : Nat} {a b c : Value} {T : TypeId} (h : w.heap[X]? = some (.cells #[a, b, c] T)) {o m : Int} {kv : Value} : (st3 w X 0 o m kv).heap[X]? = some (.cells #[.int .i64 o, .int .i64 m, kv] T) := by
  simp [st3, World.setCell, Array.getElem?_modify, h]
/-- the end: the result lies in its block -/
theorem valD_end {R A lo : Nat} {c : Value} {fu : Int} {r : List Ce × Nat × Nat} {w w1 w2 : World} (hlo : lo ≤ w.heap.size) (hw : RedW R A lo c fu (r.2.2 : Int) r.1 w1) (hb : Below lo w w1) (hk : Kp R A w w1)
    (hR : w.heap.size ≠ R) (hA : w.heap.size ≠ A) (hX : ∃ C r, w1.heap[w.heap.size]? = some (.cells C 64 r)) (hn : NotRow w1 A w.heap.size) (h2 : Below w.heap.size w1 w2) (h3 : ∀ k, k ≠ w.heap.size → w2.heap[k]? = w1.heap[k]?) (hs : w2.heap.size = w1.heap.size) :
    RedW R A lo c fu (r.2.2 : Int) r.1 w2 ∧ Below lo w w2 ∧ Kp R A w w2 :=
  ⟨hw.butX hR hA hn hX h3, hb.trans (h2.mono hlo), ⟨by rw [hs]; exact hk.1, fun j hj hn2 ha hr => by
    obtain ⟨e1, n1⟩ := hk.2 j hj hn2 ha hr
    obtain ⟨e2, n2⟩ := Kp.butX (R := R) hs hA h3 j (Nat.lt_of_lt_of_le hj hk.1) n1 (by omega)
    exact ⟨e2.trans e1, n2⟩⟩⟩

set_option maxRecDepth 100000 in
set_option maxHeartbeats 3200000 in
theorem value_calls (aF aS aL : Addr) (ds : List Df) (g : List Ce) (R A a fuel : Nat) (c : Value) (w0 w : World) (hE : Errs aF aS aL w0) (h0 : Below w0.heap.size w0 w) (h : RedW R A w0.heap.size c (fuel : Int) 0 g w) (hd : DInP w0 ds c) (hg : graphB g ds.length = true) (hp : progB ds = true) (ha : a < g.length) (hf : fuel ≤ 300) :
    Calls Tryd.prog 40 #[.pointer (some ⟨R, 0, none⟩), .int .i64 (a : Int), .int .i64 2] w (ValD aF aS aL R A w0.heap.size a c (fuel : Int) (evalG ds a fuel g) w) := by
  have HLO : Hid (w0.heap.size ≤ w.heap.size) := h0.size
  have HBX : Hid (Below w.heap.size w (w.alloc (.cells #[.int .i64 0, .int .i64 0, .slice none 0 0] 64))) := box_below _ _
  have HRD := mkHid (reduce_calls call_said aF aS aL ds g R A a fuel c w0 (w.alloc (.cells #[.int .i64 0, .int .i64 0, .slice none 0 0] 64)) hE (h0.alloc h0.size _) (h.next HBX.out) hd hg hp ha hf)
  have HRA : Hid (w.heap.size ≠ R ∧ w.heap.size ≠ A) := ⟨by have := (Array.getElem?_eq_some_iff.1 h.red).1; omega, by have := h.ltA; omega⟩
  have HNX : Hid (NotRow (w.alloc (.cells #[.int .i64 0, .int .i64 0, .slice none 0 0] 64)) A w.heap.size) := by
    obtain ⟨b5, cap, hA, -, -, hbz, -⟩ := h.blk (by omega)
    exact notRow_of hA (by omega) (Deep.blk_alloc_lt _ _ _ h.ltA)
  have HAL : Hid (A < w.heap.size) := h.ltA
  have HVA := mkHid (evalG_valid (a := a) hp fuel g hg ha)
  have HDN := mkHid (evalG_done (ds := ds) (a := a) fuel g)
  have HE := mkHid hE
  have H0 := mkHid h0
  have HSX : Hid ((w.alloc (.cells #[.int .i64 0, .int .i64 0, .slice none 0 0] 64)).heap.size = w.heap.size + 1) := Deep.nblk_alloc _ _
  obtain ⟨r, hrr⟩ : ∃ r, r = evalG ds a fuel g := ⟨_, rfl⟩
  rw [← hrr] at HVA HDN HRD ⊢
  obtain ⟨G, cd, n⟩ := r
  clear hE h0 h hd hg hp hf hrr
  go_enter Tryd.func40, Tryd.ntmps40
  go_wp2_with fail
  refine HRD.out.mono ?_
  rintro e w1 ⟨rfl, hw1, hb1, hk1⟩
  obtain ⟨hx1, hx2⟩ := hk1.2 w.heap.size (by rw [HSX.out]; omega) HNX.out HRA.out.2 HRA.out.1
  have HX1 : Hid (w1.heap[w.heap.size]? = some (.cells #[.int .i64 0, .int .i64 0, .slice none 0 0] 64)) := hx1.trans (Deep.blk_alloc_new _ _)
  have HN1 := mkHid hx2
  have HW1 := mkHid hw1
  have HB1 : Hid (Below w0.heap.size w w1) := (HBX.out.mono HLO.out).trans hb1
  have HK1 : Hid (Kp R A w w1) := (Kp.below HBX.out HAL.out).trans hk1
  have r0 := cell_of_blk HX1.out 0 _ rfl
  have r1 := cell_of_blk HX1.out 1 _ rfl
  have r2 := cell_of_blk HX1.out 2 _ rfl
  have rf := fun i => frz_of_blk HX1.out i
  clear hw1 hb1 hk1 hx1 hx2
  by_cases hc : cd = 0
  case neg =>
    have HN : Hid (numR a (G, cd, n) = (0, cd, n)) := numR_err hc
    obtain ⟨x, hx⟩ := errV_iface aF aS aL hc
    have HXE := mkHid hx
    have e1 : ((G, cd, n) : List Ce × Nat × Nat).2.1 = cd := rfl
    rw [e1, hx]
    clear hc hx e1
    go_wp2_with fail
    obtain ⟨w2, hw2⟩ : ∃ w2, w2 = st3 w1 w.heap.size 0 0 0 (.slice none 0 0) := ⟨_, rfl⟩
    have hy : w2.heap[w.heap.size]? = some (.cells #[.int .i64 0, .int .i64 0, .slice none 0 0] 64) := by rw [hw2]; exact st3_blk HX1.out
    have hfin := valD_end (r := (G, cd, n)) HLO.out HW1.out HB1.out HK1.out HRA.out.1 HRA.out.2 ⟨_, _, HX1.out⟩ HN1.out (w2 := w2) (by rw [hw2]; exact st3_below (Below.refl _ _) (Nat.le_refl _)) (fun k hk => by rw [hw2]; exact st3_block hk) (by rw [hw2]; exact st3_size)
    have HFIN := mkHid hfin
    have y0 := cell_of_blk hy 0 _ rfl
    have y1 := cell_of_blk hy 1 _ rfl
    have y2 := cell_of_blk hy 2 _ rfl
    have yf := fun i => frz_of_blk hy i
    have hw2' : w2 = ((w1.setCell ⟨w.heap.size, 0, none⟩ (.int .i64 0)).setCell ⟨w.heap.size, 1, none⟩ (.int .i64 0)).setCell ⟨w.heap.size, 2, none⟩ (.slice none 0 0) := hw2
    rw [← hw2']
    refine bodyPost_ret (v := .tuple #[.agg #[.int .i64 0, .int .i64 0, .slice none 0 0], .iface 183 (.pointer (some x))]) (by simp [results, Tryd.results40, go_sem, y0, y1, y2, yf]) rfl ?_
    refine ⟨0, none, 0, 0, ?_, HFIN.out⟩
    rw [HN.out]
    show _ = Ending.returned (.tuple #[.agg #[.int .i64 0, .int .i64 0, .slice none 0 0], errV aF aS aL cd])
    rw [HXE.out]
  subst hc
  have HVB : Hid (valB (arsOf ds) G a = true) := HDN.out rfl
  obtain ⟨b, hb⟩ := val_stands HVB.out
  have HF := mkHid hb
  have hal : a < G.length := Nat.lt_of_lt_of_le ha HVA.out.2
  have hbl : b < G.length := (followN_lt HVA.out.1 _ _ _ hal hb).1
  have hbI : (b : Int) < (G.length : Int) := by omega
  have e1 : errV aF aS aL ((G, 0, n) : List Ce × Nat × Nat).2.1 = .nilIface := rfl
  rw [e1]
  obtain ⟨ad1, cap1, hA1, hC1⟩ := HW1.out.inn
  have HA1 : Hid (w1.heap[A]? = some (.cells #[.slice ad1 G.length cap1] 97)) := hA1
  have HC1 : Hid (CIn w1 G (.slice ad1 G.length cap1)) := hC1
  have q0 := cell_of_blk HW1.out.red 0 _ rfl
  have qa := cell_of_blk HA1.out 0 _ rfl
  clear hb e1 hA1 hC1
  go_wp2_with fail
  refine (standsFor_calls G a _ _ HC1.out ⟨_, HVA.out.1⟩ hal).mono ?_
  rintro e w3 ⟨rfl, hb3⟩
  rw [HF.out]
  have e1 : folO (some b) = (b : Int) := rfl
  have e2 : (some b).isSome = true := rfl
  rw [e1, e2]
  have HX3 : Hid (w3.heap[w.heap.size]? = some (.cells #[.int .i64 0, .int .i64 0, .slice none 0 0] 64)) := (hb3.block _ (Array.getElem?_eq_some_iff.1 HX1.out).1).trans HX1.out
  have hA3 := (hb3.block A HW1.out.ltA).trans HA1.out
  have HA3 : Hid (w3.heap[A]? = some (.cells #[.slice ad1 G.length cap1] 97)) := hA3
  have HN3 : Hid (NotRow w3 A w.heap.size) := fun o' n' cap' e => HN1.out o' n' cap' (by rw [← hb3.block A HW1.out.ltA]; exact e)
  have HW3 := mkHid (HW1.out.next hb3)
  have HB3 : Hid (Below w0.heap.size w w3) := HB1.out.trans (hb3.mono (Nat.le_trans HLO.out HB1.out.size))
  have HK3 : Hid (Kp R A w w3) := HK1.out.trans (Kp.below hb3 HW1.out.ltA)
  have HG3 : Hid (CIn w3 G (.slice ad1 G.length cap1)) := HC1.out.next hb3
  obtain ⟨bl, off, r3, rfl, g0, g1, g2, -, -, hkq⟩ := id HG3.out |>.at b hbl
  obtain ⟨adq, capq, rfl, -, -, -⟩ := id hkq
  have HFA : Hid (folAt G a = b) := folAt_some HF.out
  have HOB : Hid (opAt G b = G[b].op ∧ numAt G b = G[b].num) := ⟨opAt_at b hbl, numAt_at b hbl⟩
  have t0 := cell_of_blk HW3.out.red 0 _ rfl
  have ta := cell_of_blk HA3.out 0 _ rfl
  have s0 := cell_of_blk HX3.out 0 _ rfl
  have s1 := cell_of_blk HX3.out 1 _ rfl
  have s2 := cell_of_blk HX3.out 2 _ rfl
  have sf := fun i => frz_of_blk HX3.out i
  clear hb3 hkq e1 e2 q0 qa r0 r1 r2 rf hA3
  by_cases ho : G[b].op = 2
  · have tt : (G[b].op != 2) = false := by simp [ho]
    have HN : Hid (numR a (G, 0, n) = (G[b].num, 0, n)) := by
      rw [Hid, numR_num rfl (by show opAt G (folAt G a) = 2; rw [HFA.out, HOB.out.1]; exact ho)]
      show (numAt G (folAt G a), 0, n) = _
      rw [HFA.out, HOB.out.2]
    clear ho
    go_wp2_with fail
    obtain ⟨w2, hw2⟩ : ∃ w2, w2 = st3 w3 w.heap.size 0 G[b].op G[b].num (.slice adq G[b].kids.length capq) := ⟨_, rfl⟩
    have hy : w2.heap[w.heap.size]? = some (.cells #[.int .i64 G[b].op, .int .i64 G[b].num, .slice adq G[b].kids.length capq] 64) := by rw [hw2]; exact st3_blk HX3.out
    have hfin := valD_end (r := (G, 0, n)) HLO.out HW3.out HB3.out HK3.out HRA.out.1 HRA.out.2 ⟨_, _, HX3.out⟩ HN3.out (w2 := w2) (by rw [hw2]; exact st3_below (Below.refl _ _) (Nat.le_refl _)) (fun k hk => by rw [hw2]; exact st3_block hk) (by rw [hw2]; exact st3_size)
    have HFIN := mkHid hfin
    have y0 := cell_of_blk hy 0 _ rfl
    have y1 := cell_of_blk hy 1 _ rfl
    have y2 := cell_of_blk hy 2 _ rfl
    have yf := fun i => frz_of_blk hy i
    have hw2' : w2 = ((w3.setCell ⟨w.heap.size, 0, none⟩ (.int .i64 G[b].op)).setCell ⟨w.heap.size, 1, none⟩ (.int .i64 G[b].num)).setCell ⟨w.heap.size, 2, none⟩ (.slice adq G[b].kids.length capq) := hw2
    rw [← hw2']
    refine bodyPost_ret (v := .tuple #[.agg #[.int .i64 G[b].op, .int .i64 G[b].num, .slice adq G[b].kids.length capq], .nilIface]) (by simp [results, Tryd.results40, go_sem, y0, y1, y2, yf]) rfl ?_
    refine ⟨G[b].op, adq, G[b].kids.length, capq, ?_, HFIN.out⟩
    rw [HN.out]
    rfl
  · have tt : (G[b].op != 2) = true := by simpa using ho
    have HN : Hid (numR a (G, 0, n) = (0, 2, n)) := numR_not rfl (by show opAt G (folAt G a) ≠ 2; rw [HFA.out, HOB.out.1]; exact ho)
    have cs := (HE.out.next (H0.out.trans HB3.out)).cS
    have hgn : 2 ≠ w.heap.size := by have := cell_lt (HE.out.next H0.out).cS; exact Nat.ne_of_lt this
    have hgn2 := hgn.symm
    clear ho
    go_wp2_with fail
    go_region
    go_wp2_with fail
    obtain ⟨w2, hw2⟩ : ∃ w2, w2 = (st3 w3 w.heap.size 0 0 0 (.slice none 0 0)).drew := ⟨_, rfl⟩
    have hy : w2.heap[w.heap.size]? = some (.cells #[.int .i64 0, .int .i64 0, .slice none 0 0] 64) := by rw [hw2]; exact st3_blk HX3.out
    have hfin := valD_end (r := (G, 0, n)) HLO.out HW3.out HB3.out HK3.out HRA.out.1 HRA.out.2 ⟨_, _, HX3.out⟩ HN3.out (w2 := w2) (by rw [hw2]; exact (st3_below (Below.refl _ _) (Nat.le_refl _)).drew) (fun k hk => by rw [hw2]; exact st3_block hk) (by rw [hw2]; exact st3_size)
    have HFIN := mkHid hfin
    have y0 := cell_of_blk hy 0 _ rfl
    have y1 := cell_of_blk hy 1 _ rfl
    have y2 := cell_of_blk hy 2 _ rfl
    have yf := fun i => frz_of_blk hy i
    have hw2' : w2 = (((w3.setCell ⟨w.heap.size, 0, none⟩ (.int .i64 0)).setCell ⟨w.heap.size, 1, none⟩ (.int .i64 0)).setCell ⟨w.heap.size, 2, none⟩ (.slice none 0 0)).drew := hw2
    rw [← hw2']
    refine bodyPost_ret (v := .tuple #[.agg #[.int .i64 0, .int .i64 0, .slice none 0 0], .iface 183 (.pointer (some aS))]) (by simp [results, Tryd.results40, go_sem, y0, y1, y2, yf]) rfl ?_
    refine ⟨0, none, 0, 0, ?_, HFIN.out⟩
    rw [HN.out]
    rfl
end Go.Proofs.YtjpjikfmdaejeaaDoor
/-
  THE PROGRAM's NumberNeed.
-/
namespace Go.Proofs.YtjpjikfmdaejeaaDoor
set_option linter.unusedVariables false
set_option linter.unusedSimpArgs false
open Go.RowKit

theorem numR_code {ds : List Df} {g : List Ce} {a n : Nat} : (numR a (evalG ds a n g)).2.1 ≤ 3 := by
  have h := evalG_code (ds := ds) (a := a) n g
  unfold numR
  split
  · exact h
  · split <;> simp
theorem numR_steps {a : Nat} {r : List Ce × Nat × Nat} : (numR a r).2.2 = r.2.2 := by
  unfold numR
  split
  · rfl
  · split <;> rfl

set_option maxRecDepth 100000 in
set_option maxHeartbeats 3200000 in
theorem implNn_calls (aF aS aL aI : Addr) (ds : List Df) (p : Value) (t : Tr) (c : Value) (f : Int) (w : World) (hE : Errs4 aF aS aL aI w) (hd : DInP w ds p) (hk : In w t.kids c) (ht : I64 t.op ∧ I64 t.num) :
    Calls Tryd.prog 13 #[p, .agg #[.int .i64 t.op, .int .i64 t.num, c], .int .i64 f] w (Num3 (nnO ds t f) w) := by
  have HE := mkHid hE
  have HD := mkHid hd
  have HK : Hid (In w t.kids c) := hk
  have HT := mkHid ht
  obtain ⟨ad, cap, rfl, -, -, -⟩ := hk
  obtain ⟨adp, capp, rfl, -, -, -⟩ := id hd
  have HBX : Hid (Below w.heap.size w (w.alloc (.cells #[.int .i64 t.op, .int .i64 t.num, .slice ad t.kids.length cap] 34))) := box_below _ _
  clear hE hd ht
  go_enter Tryd.func13, Tryd.ntmps13
  go_wp2_with fail
  refine (startOf_calls aI ds _ t _ f _ (HE.out.next HBX.out).cI (HD.out.inP.next HBX.out) (HK.out.next HBX.out) HT.out).mono ?_
  rintro e w1 (⟨hr, R, w2, rfl, hb2, hb3, hw3⟩ | ⟨hr, rfl, hb1⟩)
  case inr =>
    have HB1 : Hid (Below w.heap.size w w1) := HBX.out.trans (hb1.mono HBX.out.size)
    have HV := mkHid (nnO_no (ds := ds) (t := t) (f := f) (fun h => by rw [rightF_iff.2 h] at hr; cases hr))
    have HCO := mkHid (codeOf_invalid aF aS aL aI w1 (HE.out.next HB1.out))
    clear hr hb1
    go_wp2_with fail
    refine HCO.out.mono ?_
    rintro e w3 ⟨rfl, rfl⟩
    go_wp2_with fail
    go_ret3
    rw [HV.out]
    exact ⟨rfl, HB1.out⟩
  have hr2 := rightF_iff.1 hr
  obtain ⟨fu, rfl⟩ : ∃ fu : Nat, f = (fu : Int) := ⟨f.toNat, by omega⟩
  have hfu : fu ≤ 300 := by omega
  have HV := mkHid (nnO_yes (f := fu) hr2.1 hfu)
  have HOK := mkHid (start_ok hr2.1)
  have HB2 : Hid (Below w.heap.size w w2) := HBX.out.trans (hb2.mono HBX.out.size)
  have HD2 : Hid (DInP w2 ds (.slice adp ds.length capp)) := HD.out.mono (fun k hk => hk.next HB2.out) (fun k hk => HB2.out.block k hk.1)
  have HVL := mkHid (value_calls aF aS aL ds (addT [] t []).1 R w2.heap.size (addT [] t []).2 fu (.slice adp ds.length capp) w2 w1 (HE.out.next HB2.out).e3 hb3 hw3 HD2.out HOK.out.2.1 HOK.out.1 HOK.out.2.2.1 hfu)
  have HNC := mkHid (numR_code (ds := ds) (g := (addT [] t []).1) (a := (addT [] t []).2) (n := fu))
  have HNS := mkHid (numR_steps (a := (addT [] t []).2) (r := evalG ds (addT [] t []).2 fu (addT [] t []).1))
  obtain ⟨g0, hg0⟩ : ∃ g0, g0 = (addT [] t []).1 := ⟨_, rfl⟩
  obtain ⟨a0, ha0⟩ : ∃ a0, a0 = (addT [] t []).2 := ⟨_, rfl⟩
  rw [← hg0, ← ha0] at HV HVL HNC HNS
  rw [← ha0]
  have HB1 : Hid (Below w.heap.size w w1) := HB2.out.trans (hb3.mono HB2.out.size)
  clear hr hr2 hb2 hb3 hw3 hg0 ha0
  go_wp2_with fail
  refine HVL.out.mono ?_
  rintro e w5 ⟨o, adk, nk, capk, rfl, hw5, hb5, -⟩
  have HB5 : Hid (Below w.heap.size w w5) := HB1.out.trans (hb5.mono HB2.out.size)
  obtain ⟨m, hm⟩ : ∃ m, m = numR a0 (evalG ds a0 fu g0) := ⟨_, rfl⟩
  rw [← hm] at HV HNC HNS ⊢
  have HR5 : Hid (w5.heap[R]? = some (.cells #[.pointer (some ⟨w2.heap.size, 0, none⟩), .slice adp ds.length capp, .int .i64 (fu : Int), .int .i64 ((evalG ds a0 fu g0).2.2 : Int)] 80)) := hw5.red
  rw [← HNS.out] at HR5
  have HE5 := mkHid (HE.out.next HB5.out).e3
  obtain ⟨m1, m2, m3⟩ := m
  have HNC2 : Hid (m2 ≤ 3) := HNC.out
  have r3 := old_cell (cell_of_blk HR5.out 3 _ rfl) (.cells #[.int .i64 o, .int .i64 m1, .slice adk nk capk] 64)
  have r3' : (w5.alloc (.cells #[.int .i64 o, .int .i64 m1, .slice adk nk capk] 64)).cell? ⟨R, 3, none⟩ = some (.int .i64 (m3 : Int)) := r3
  have HBW : Hid (Below w5.heap.size w5 (w5.alloc (.cells #[.int .i64 o, .int .i64 m1, .slice adk nk capk] 64)).drew) := (box_below _ _).drew
  have HCO := mkHid (codeOf_calls aF aS aL m2 HNC2.out (w5.alloc (.cells #[.int .i64 o, .int .i64 m1, .slice adk nk capk] 64)).drew (HE5.out.next HBW.out))
  have c1 : (w5.alloc (.cells #[.int .i64 o, .int .i64 m1, .slice adk nk capk] 64)).cell? ⟨w5.heap.size, 1, none⟩ = some (.int .i64 m1) := cell_of_blk (Deep.blk_alloc_new w5 (.cells #[.int .i64 o, .int .i64 m1, .slice adk nk capk] 64)) 1 _ rfl
  clear hm hw5 hb5 r3
  go_wp2_with fail
  obtain ⟨ev, hev⟩ : ∃ ev, ev = errV aF aS aL m2 := ⟨_, rfl⟩
  rw [← hev] at HCO ⊢
  clear hev
  go_region_held3 (fun w' => w'.cell? ⟨w5.heap.size, 1, none⟩ = some (.int .i64 m1) ∧ w'.cell? ⟨R, 3, none⟩ = some (.int .i64 (m3 : Int)))
    (first
      | go_keep
      | exact ⟨c1, r3'⟩)
    (first
      | (go_at_call 39; refine HCO.out.mono ?_; rintro e w6 ⟨rfl, rfl⟩))
  go_wp2_with fail
  go_ret3
  rw [HV.out]
  exact ⟨rfl, HB5.out.trans (HBW.out.mono HB5.out.size)⟩
end Go.Proofs.YtjpjikfmdaejeaaDoor
/-
  THE LAWS' COPY OF A PROGRAM, WITH ALL ITS BLOCKS: they are distinct.
-/
namespace Go.Proofs.YtjpjikfmdaejeaaDoor
set_option linter.unusedVariables false
set_option linter.unusedSimpArgs false
open Go.RowKit

/-- a function whose body's operands have these blocks -/
def DfFp (w : World) (d : Df) (fp : List Nat) (a b c e : Value) : Prop := a = .int .i64 d.1 ∧ I64 d.1 ∧ TrFp w 34 d.2 fp b c e
/-- a program in a row of its own, with all its blocks -/
def DefsFp (w : World) (ds : List Df) (fp : List Nat) (v : Value) : Prop :=
  ∃ (bl : Nat) (f : Nat → Value) (fps : List (List Nat)), v = .slice (some ⟨bl, 0, none⟩) ds.length ds.length ∧ ds.length ≤ 1048576 ∧ w.rowIs bl 67 (ds.length * 4) f ∧ fp = bl :: fps.flatten ∧ fps.length = ds.length ∧ ∀ i (hi : i < ds.length) (hi2 : i < fps.length), DfFp w ds[i] fps[i] (f (i * 4)) (f (i * 4 + 1)) (f (i * 4 + 2)) (f (i * 4 + 3))
theorem DefsFp.keep {w w' : World} {ds : List Df} {fp : List Nat} {v : Value} (h : DefsFp w ds fp v) (hw : ∀ k ∈ fp, w'.heap[k]? = w.heap[k]?) : DefsFp w' ds fp v := by
  obtain ⟨bl, f, fps, e, l1, hr, rfl, hl, hi⟩ := h
  refine ⟨bl, f, fps, e, l1, hr.of_block (hw bl (List.mem_cons_self ..)), rfl, hl, fun i h1 h2 => ?_⟩
  obtain ⟨a1, a2, a3⟩ := hi i h1 h2
  exact ⟨a1, a2, TrFp.keep _ _ _ _ _ (fun k hk => hw k (List.mem_cons_of_mem _ (List.mem_flatten.2 ⟨_, List.getElem_mem h2, hk⟩))) a3⟩
theorem DefsFp.lt {w : World} {ds : List Df} {fp : List Nat} {v : Value} (h : DefsFp w ds fp v) : ∀ k ∈ fp, k < w.heap.size := by
  obtain ⟨bl, f, fps, e, l1, hr, rfl, hl, hi⟩ := h
  intro k hk
  rcases List.mem_cons.1 hk with rfl | hk
  · exact hr.lt
  · obtain ⟨g, hg, hk⟩ := List.mem_flatten.1 hk
    obtain ⟨i, h2, rfl⟩ := List.getElem_of_mem hg
    exact TrFp.lt _ _ _ _ _ (hi i (by omega) h2).2.2 k hk
theorem DefsFp.on {w : World} {S : Nat → Prop} {ds : List Df} {fp : List Nat} {v : Value} (h : DefsFp w ds fp v) (hS : ∀ k ∈ fp, S k) : DefsOn w S ds v := by
  obtain ⟨bl, f, fps, rfl, l1, hr, rfl, hl, hi⟩ := h
  refine ⟨_, _, rfl, Nat.le_refl _, by unfold maxLen; omega, Or.inr ⟨bl, 0, rfl, hS bl (List.mem_cons_self ..), fun i h1 => ?_⟩⟩
  obtain ⟨a1, a2, a3⟩ := hi i h1 (by omega)
  refine ⟨f (i * 4), f (i * 4 + 1), f (i * 4 + 2), f (i * 4 + 3), ?_, ?_, ?_, ?_, a1, a2, TrFp.on _ _ _ _ _ (fun k hk => hS k (List.mem_cons_of_mem _ (List.mem_flatten.2 ⟨_, List.getElem_mem _, hk⟩))) a3⟩
  · simpa using hr.cell (i := i * 4) (by omega)
  · simpa [Nat.zero_add] using hr.cell (i := i * 4 + 1) (by omega)
  · simpa [Nat.zero_add] using hr.cell (i := i * 4 + 2) (by omega)
  · simpa [Nat.zero_add] using hr.cell (i := i * 4 + 3) (by omega)
theorem DefsFp.plain {w : World} {ds : List Df} {fp : List Nat} {v : Value} (h : DefsFp w ds fp v) : ∀ k ∈ fp, Pl w k := by
  obtain ⟨bl, f, fps, rfl, l1, hr, rfl, hl, hi⟩ := h
  intro k hk
  rcases List.mem_cons.1 hk with rfl | hk
  · obtain ⟨C, T', e⟩ := row_plain hr
    exact ⟨hr.lt, C, T', e⟩
  · obtain ⟨g, hg, hk⟩ := List.mem_flatten.1 hk
    obtain ⟨i, h2, rfl⟩ := List.getElem_of_mem hg
    exact TrFp.plain _ _ _ _ _ (hi i (by omega) h2).2.2 k hk

/-- trees of a call's own can be read -/
theorem fresh_inn {w : World} {lo : Nat} {ks : List Tr} {c : Value} (h : Fresh w lo ks c) : In w ks c := by
  obtain ⟨fp, h1, -, -⟩ := h
  exact h1.on h1.lt
theorem Fresh.down {w : World} {lo lo' : Nat} {ks : List Tr} {c : Value} (h : Fresh w lo ks c) (hl : lo' ≤ lo) : Fresh w lo' ks c := by
  obtain ⟨fp, h1, h2, h3⟩ := h
  exact ⟨fp, h1, h2, fun k hk => Nat.le_trans hl (h3 k hk)⟩
theorem Fresh.setC {w : World} {lo : Nat} {ks : List Tr} {c : Value} (h : Fresh w lo ks c) {a : Addr} (ha : a.block < lo) (u : Value) : Fresh (w.setCell a u) lo ks c := by
  obtain ⟨fp, h1, h2, h3⟩ := h
  exact ⟨fp, h1.keep fun k hk => Below.heap_setCell _ _ _ _ (by have := h3 k hk; omega), h2, h3⟩
/-! ### The copy -/
def NewDfF (a o n : Int) (ks : List Tr) (w : World) (e : Ending) (w' : World) : Prop := ∃ v, e = .returned (.agg #[.int .i64 a, .int .i64 o, .int .i64 n, v]) ∧ Fresh w' w.heap.size ks v ∧ Below w.heap.size w w'
def NewDefsF (ds : List Df) (w : World) (e : Ending) (w' : World) : Prop := ∃ v fp, e = .returned v ∧ DefsFp w' ds fp v ∧ fp.Nodup ∧ (∀ k ∈ fp, w.heap.size ≤ k) ∧ Below w.heap.size w w'

set_option maxHeartbeats 400000 in
theorem toDef_callsF (a o n : Int) (ks : List Tr) (c : Value) (w : World) (hk : In w ks c) (hsz : szL ks ≤ 1048576) : Calls Tryd.prog 36 #[.agg #[.int .i64 a, .int .i64 o, .int .i64 n, c]] w (NewDfF a o n ks w) := by
  have HK : Hid (In w ks c) := hk
  clear hk
  go_enter Tryd.func36, Tryd.ntmps36
  go_wp2_with fail
  refine (fto_calls ks _ _ c _ ?_ hsz).mono ?_
  · exact HK.out.next ((((Below.refl _ _).alloc (Nat.le_refl _) _).alloc (by simp) _).alloc (by simp; omega) _)
  rintro e w1 ⟨v, rfl, hv, hb⟩
  obtain ⟨hc, hf⟩ := bcell hb
  have hz : w.heap.size + 2 < w1.heap.size := by have := hb.size; simp at this; omega
  have hlo : w.heap.size + 3 ≤ w1.heap.size := by omega
  have HV : Hid (Fresh w1 (w.heap.size + 3) ks v) := by obtain ⟨fp, h1, h2, h3⟩ := hv; exact ⟨fp, h1, h2, fun k hk => by have := h3 k hk; simpa using this⟩
  have hv := HV.out
  have HB : Hid (Below w.heap.size w w1) := ((((Below.refl _ _).alloc (Nat.le_refl _) _).alloc (by simp) _).alloc (by simp; omega) _).trans (hb.mono (by simp; omega))
  obtain ⟨ad, cap, rfl, -, -, -⟩ := (fresh_inn hv)
  clear hb hv
  go_wp2_with fail
  refine bodyPost_ret (v := .agg #[.int .i64 a, .int .i64 o, .int .i64 n, .slice ad ks.length cap]) (by simp [results, Tryd.results36, go_sem, hc, hf, hz]) rfl ⟨_, rfl, ?_, ?_⟩
  · refine Fresh.down (lo := w.heap.size + 3) ?_ (by omega)
    repeat' (refine Fresh.setC ?_ (by simp <;> omega) _)
    exact HV.out
  · repeat' (refine Below.setCell ?_ (by simp <;> omega) _)
    exact HB.out

/-- what holds of the copy of a program behind k rounds -/
def ToDRelF (ds : List Df) (w : World) (k : Nat) (wr : World) : Prop :=
  ∃ (f : Nat → Value) (fps : List (List Nat)), wr.rowIs w.heap.size 67 (ds.length * 4) f ∧ fps.length = k ∧ fps.flatten.Nodup ∧ (∀ x ∈ fps.flatten, w.heap.size + 1 ≤ x ∧ x < wr.heap.size) ∧ (∀ j (_ : j < k) (hj : j < ds.length) (hj2 : j < fps.length), DfFp wr ds[j] fps[j] (f (j * 4)) (f (j * 4 + 1)) (f (j * 4 + 2)) (f (j * 4 + 3))) ∧ Below w.heap.size w wr

theorem toDRel_startF (ds : List Df) (w : World) (C : Array Value) (h : C.size = ds.length * 4) : ToDRelF ds w 0 (w.alloc (.cells C 67)) := by
  refine ⟨fun i => C.getD i undef, [], ⟨C, Deep.blk_alloc_new _ _, h, fun i hi => ?_⟩, rfl, by simp, by simp, fun j hj => absurd hj (by omega), (Below.refl _ _).alloc (Nat.le_refl _) _⟩
  simp [Array.getElem?_eq_getElem (h ▸ hi : i < C.size), Array.getD, (h ▸ hi : i < C.size)]

theorem toDRel_stepF (ds : List Df) (w wr w1 : World) (k : Nat) (hk : k < ds.length) (h : ToDRelF ds w k wr) (v : Value) (hb : Below wr.heap.size wr w1) (hv : Fresh w1 wr.heap.size (ds[k]).2.kids v) (ha : I64 (ds[k]).1) (ho : I64 (ds[k]).2.op) (hn : I64 (ds[k]).2.num) :
    ToDRelF ds w (k + 1) (stD w1 w.heap.size k ds[k] v) := by
  obtain ⟨f, fps, hr, hl, hnd, hlo, ht, hbw⟩ := h
  obtain ⟨fp, g1, g2, g3⟩ := hv
  have hlt := hr.lt
  have hsz := hb.size
  have hr1 : w1.rowIs w.heap.size 67 (ds.length * 4) f := hr.of_block (hb.block _ hlt)
  have hbl : ∀ x, x ≠ w.heap.size → (stD w1 w.heap.size k ds[k] v).heap[x]? = w1.heap[x]? := fun x hx => by
    unfold stD
    rw [Below.heap_setCell _ _ _ _ hx, Below.heap_setCell _ _ _ _ hx, Below.heap_setCell _ _ _ _ hx, Below.heap_setCell _ _ _ _ hx]
  have hss : (stD w1 w.heap.size k ds[k] v).heap.size = w1.heap.size := by unfold stD; rw [size_setCell, size_setCell, size_setCell, size_setCell]
  have hfl : (fps ++ [fp]).flatten = fps.flatten ++ fp := by simp
  refine ⟨_, fps ++ [fp], (((hr1.set (k * 4) _).set (k * 4 + 1) _).set (k * 4 + 2) _).set (k * 4 + 3) _, by simp [hl], ?_, ?_, fun j hj hjl hj2 => ?_, ?_⟩
  · rw [hfl, List.nodup_append]
    exact ⟨hnd, g2, fun a ha b hb e => by subst e; have := (hlo a ha).2; have := g3 a hb; omega⟩
  · intro x hx
    rw [hfl] at hx
    rw [hss]
    rcases List.mem_append.1 hx with hx | hx
    · have := hlo x hx; omega
    · have := g3 x hx; have := g1.lt x hx; omega
  · by_cases hjk : j = k
    · subst hjk
      have e : (fps ++ [fp])[j] = fp := by rw [List.getElem_append_right (by omega)]; simp [hl]
      rw [e]
      refine ⟨by simp, ha, ?_⟩
      simp only [if_neg (show ¬ (j * 4 + 1 = j * 4 + 3) by omega), if_neg (show ¬ (j * 4 + 1 = j * 4 + 2) by omega), if_neg (show ¬ (j * 4 + 2 = j * 4 + 3) by omega), if_true]
      exact trFp_iff.2 ⟨rfl, rfl, ho, hn, g1.keep fun x hx => hbl x (by have := g3 x hx; omega)⟩
    · have hjl2 : j < fps.length := by omega
      obtain ⟨h01, h02, h03⟩ := ht j (by omega) hjl hjl2
      have e : (fps ++ [fp])[j] = fps[j] := List.getElem_append_left hjl2
      rw [e]
      have keep := TrFp.keep _ _ _ _ _ (w' := stD w1 w.heap.size k ds[k] v) (fun x hx => by have := hlo x (List.mem_flatten.2 ⟨_, List.getElem_mem hjl2, hx⟩); exact (hbl x (by omega)).trans (hb.block x this.2)) h03
      have e1 : ∀ m, m < 4 → j * 4 + m ≠ k * 4 + 3 ∧ j * 4 + m ≠ k * 4 + 2 ∧ j * 4 + m ≠ k * 4 + 1 ∧ j * 4 + m ≠ k * 4 := fun m hm => by omega
      have a0 := e1 0 (by omega)
      have a1 := e1 1 (by omega)
      have a2 := e1 2 (by omega)
      have a3 := e1 3 (by omega)
      simp only [Nat.add_zero] at a0
      refine ⟨?_, h02, ?_⟩
      · simp only [if_neg a0.1, if_neg a0.2.1, if_neg a0.2.2.1, if_neg a0.2.2.2]; exact h01
      · simp only [if_neg a1.1, if_neg a1.2.1, if_neg a1.2.2.1, if_neg a1.2.2.2, if_neg a2.1, if_neg a2.2.1, if_neg a2.2.2.1, if_neg a2.2.2.2, if_neg a3.1, if_neg a3.2.1, if_neg a3.2.2.1, if_neg a3.2.2.2]
        exact keep
  · unfold stD
    exact ((((hbw.trans (hb.mono (Nat.le_of_lt hlt))).setCell (by simp) _).setCell (by simp) _).setCell (by simp) _).setCell (by simp) _

theorem toDRel_endF (ds : List Df) (w wr : World) (h : ToDRelF ds w ds.length wr) (hl : ds.length ≤ 1048576) : NewDefsF ds w (.returned (.slice (some ⟨w.heap.size, 0, none⟩) ds.length ds.length)) wr := by
  obtain ⟨f, fps, hr, h1, h2, h3, h4, h5⟩ := h
  refine ⟨_, w.heap.size :: fps.flatten, rfl, ⟨w.heap.size, f, fps, rfl, hl, hr, rfl, h1, fun i hi hi2 => h4 i hi hi hi2⟩, ?_, ?_, h5⟩
  · rw [List.nodup_cons]
    exact ⟨fun hm => by have := (h3 _ hm).1; omega, h2⟩
  · intro k hk
    rcases List.mem_cons.1 hk with rfl | hk
    · exact Nat.le_refl _
    · have := (h3 k hk).1; omega

set_option maxHeartbeats 400000 in
theorem toDefS_callsF (ds : List Df) (c : Value) (w : World) (hk : DIn w ds c) (hsz : szL (bodies ds) ≤ 1048576) : Calls Tryd.prog 11 #[c] w (NewDefsF ds w) := by
  have HK : Hid (DIn w ds c) := hk
  have HZ : Hid (szL (bodies ds) ≤ 1048576) := hsz
  have hlen : ds.length ≤ 1048576 := by rw [szL_sum, bodies_length] at hsz; omega
  clear hsz
  obtain ⟨ad, cap, rfl, -, -, -⟩ := hk
  obtain ⟨C, hC, hmk⟩ := make_defs ds.length hlen
  have HC : Hid (C.size = ds.length * 4) := hC
  clear hC
  go_enter Tryd.func11, Tryd.ntmps11
  go_wp2_with fail
  go_loopw [4] (fun i wr => ∃ k : Nat, k ≤ ds.length ∧ i = .int .i64 k ∧ ToDRelF ds w k wr) (fun i _ => ds.length - (intOf i).toNat)
  case atStart => exact ⟨0, Nat.zero_le _, rfl, toDRel_startF ds w C HC.out⟩
  case round =>
    obtain ⟨k, hk, rfl, hto⟩ := hrel
    have HT : Hid (ToDRelF ds w k wr) := hto
    obtain ⟨f, fps0, hr0, -, -, -, -, hb⟩ := hto
    have hlt0 := hr0.lt
    by_cases hlt : k < ds.length
    · obtain ⟨bl, off, r, rfl, c0, c1, c2, c3, ia, io, iN, hkk⟩ := (HK.out.next hb).at k hlt
      have HKK : Hid (In wr ds[k].2.kids r) := hkk
      have hkz : szL ds[k].2.kids ≤ 1048576 := by have := szL_body_le ds k hlt; have := HZ.out; omega
      have HR : Hid (wr.rowIs w.heap.size 67 (ds.length * 4) f) := hr0
      clear hkk hr0 hb
      go_wp2_with fail
      refine (toDef_callsF _ _ _ ds[k].2.kids r _ HKK.out hkz).mono ?_
      rintro e w1 ⟨v, rfl, hv, hb1⟩
      have hr1 : w1.rowIs w.heap.size 67 (ds.length * 4) f := HR.out.of_block (hb1.block _ hlt0)
      have HS : Hid (ToDRelF ds w (k + 1) (stD w1 w.heap.size k ds[k] v)) := toDRel_stepF ds w wr w1 k hlt HT.out v hb1 hv ia io iN
      obtain ⟨ad2, cap2, rfl, _, _, _⟩ := (fresh_inn hv)
      have g0 := hr1.cell (i := k * 4) (by omega)
      have g1 := hr1.cell (i := k * 4 + 1) (by omega)
      have g2 := hr1.cell (i := k * 4 + 2) (by omega)
      have g3 := hr1.cell (i := k * 4 + 3) (by omega)
      have f0 := hr1.frozen (k * 4)
      have f1 := hr1.frozen (k * 4 + 1)
      have f2 := hr1.frozen (k * 4 + 2)
      have f3 := hr1.frozen (k * 4 + 3)
      clear hr1 hb1 hv
      go_wp2_with fail
      go_roundw
      case rel => exact ⟨k + 1, by omega, by go_num, HS.out⟩
      case measure => simp [intOf]; omega
    · have hke : ds.length = k := by omega
      have HV : Hid (NewDefsF ds w (.returned (.slice (some ⟨w.heap.size, 0, none⟩) ds.length ds.length)) wr) := by subst hke; exact toDRel_endF ds w wr HT.out hlen
      clear hke hr0 hb
      go_wp2_with fail
      go_ret
      exact HV.out
end Go.Proofs.YtjpjikfmdaejeaaDoor
/-
  THE WALK OF FnExactNumberNeed.
-/
namespace Go.Proofs.YtjpjikfmdaejeaaDoor.lawExactNumberNeed
open Go.ChangeShapes Go.WideShapes Go.ChangeAt Go.RowKit
set_option linter.unusedVariables false
set_option linter.unusedSimpArgs false

theorem carry {w w' : World} (hb : Below w.heap.size w w') {a : Addr} {v : Value} (h : w.cell? a = some v) : w'.cell? a = some v := (hb.cell (cell_lt h)).trans h

set_option maxRecDepth 100000 in
set_option maxHeartbeats 1600000 in
theorem walk (ds : List Df) (p : Value) (t : Tr) (c : Value) (i0 : Int) (w : World) (hp : DIn w ds p) (hk : In w t.kids c) (ht : I64 t.op ∧ I64 t.num) (hi0 : I64 i0) (aF aS aL aI : Addr) (hE : Errs4 aF aS aL aI w) :
    Calls Tryd.prog 3 #[p, .agg #[.int .i64 t.op, .int .i64 t.num, c], .int .i64 i0] w fun e w' => e = .returned (.bool true) ∧ Below w.heap.size w w' := by
  have HK : Hid (In w t.kids c) := hk
  have HP : Hid (DIn w ds p) := hp
  have HT : Hid (I64 t.op ∧ I64 t.num) := ht
  obtain ⟨ad, cap, rfl, -, -, -⟩ := hk
  have hrg := szOut_range (bodies ds) 1048576 (by omega)
  have HE := mkHid hE
  obtain ⟨r1, hr1⟩ : ∃ r1 : Int, r1 = (nnO ds t i0).1 := ⟨_, rfl⟩
  obtain ⟨r2, hr2⟩ : ∃ r2 : Int, r2 = ((nnO ds t i0).2.1 : Int) := ⟨_, rfl⟩
  obtain ⟨r3, hr3⟩ : ∃ r3 : Int, r3 = ((nnO ds t i0).2.2 : Int) := ⟨_, rfl⟩
  have HSS : Hid (∀ (u z : Value) (W : World), DIn W ds u → In W t.kids z → Calls Tryd.prog 10 #[u, .agg #[.int .i64 t.op, .int .i64 t.num, z], .int .i64 i0] W fun en w' => en = .returned (.tuple #[.int .i64 r1, .int .i64 r2, .int .i64 r3]) ∧ Below W.heap.size W w') := fun u z W h1 h2 => by
    rw [hr1, hr2, hr3]; exact specNn_calls ds u t z i0 W h1 h2 ht
  have HSI : Hid (∀ (u z : Value) (W : World), Below w.heap.size w W → DInP W ds u → In W t.kids z → Calls Tryd.prog 13 #[u, .agg #[.int .i64 t.op, .int .i64 t.num, z], .int .i64 i0] W fun en w' => en = .returned (.tuple #[.int .i64 r1, .int .i64 r2, .int .i64 r3]) ∧ Below W.heap.size W w') := fun u z W hbW h1 h2 => by
    rw [hr1, hr2, hr3]; exact implNn_calls aF aS aL aI ds u t z i0 W (HE.out.next hbW) h1 h2 ht
  clear hp ht hE hr1 hr2 hr3 hi0
  go_enter Tryd.func3, Tryd.ntmps3
  go_wp2_with fail
  refine (szDefS_calls ds _ _ _ (HP.out.next (box_below _ _)) (by omega) (by omega)).mono ?_
  rintro e w1 ⟨rfl, hb1⟩
  obtain ⟨a0, a1, a2, hz1, HB1⟩ := box_after hb1
  have HB1 : Hid (Below w.heap.size w w1) := HB1
  clear hb1
  by_cases hneg : szOut (bodies ds) 1048576 < 0
  · go_wp2_with fail
    go_ret
    exact ⟨rfl, HB1.out⟩
  have HZ : Hid (szL (bodies ds) ≤ 1048576) := by unfold szOut at hneg; unfold Hid; split at hneg <;> omega
  generalize szOut (bodies ds) 1048576 = left at *
  go_wp2_with fail
  refine (sz_calls t.kids _ _ _ _ _ (HK.out.next HB1.out) (by omega) (by omega)).mono ?_
  rintro e w2 ⟨rfl, hb2⟩
  have HB2 : Hid (Below w.heap.size w w2) := HB1.out.trans (hb2.mono HB1.out.size)
  replace a0 := carry hb2 a0
  replace a1 := carry hb2 a1
  replace a2 := carry hb2 a2
  clear hb2
  by_cases hneg2 : szOut t.kids left < 0
  · clear a0 a1 a2
    go_wp2_with fail
    go_ret
    exact ⟨rfl, HB2.out⟩
  have HZ2 : Hid (szL t.kids ≤ 1048576) := by unfold szOut at hneg2; unfold Hid; split at hneg2 <;> omega
  clear hrg
  generalize szOut t.kids left = left2 at *
  go_wp2_with fail
  have HP2 : Hid (DIn w2 ds p) := HP.out.next HB2.out
  have HK2 : Hid (In w2 t.kids (.slice ad t.kids.length cap)) := HK.out.next HB2.out
  go_region_with (first
    | (go_at_call 11; go_must (refine (toDefS_calls ds _ _ ?_ HZ.out).mono ?_); go_must (exact HP2.out.drew); go_must (rintro e w3 ⟨v3, rfl, hv3, hb3⟩); go_must (have HV3 : Hid (DIn w3 ds v3) := hv3.btw_in); go_must (have HB3 : Hid (Below w2.heap.size w2 w3) := (Below.refl _ _).drew.trans hb3); go_must (have b0 := carry HB3.out a0); go_must (have b1 := carry HB3.out a1); go_must (have b2 := carry HB3.out a2); clear hb3 hv3)
    | (go_at_call 12; go_must (refine (fto_calls t.kids _ _ _ _ ?_ HZ2.out).mono ?_); go_must (exact HK2.out.next HB3.out); go_must (rintro e w4 ⟨v4, rfl, hv4, hb4⟩); go_must (have HV4 : Hid (In w4 t.kids v4) := hv4.inP.inP); go_must (have HV3' : Hid (DIn w4 ds v3) := HV3.out.next hb4); go_must (have HB4 : Hid (Below w2.heap.size w2 w4) := HB3.out.trans (hb4.mono HB3.out.size)); go_must (have c0 := carry hb4 b0); go_must (have c1 := carry hb4 b1); go_must (have c2 := carry hb4 b2); clear hb4 hv4)
    | (go_at_call 10; go_must (refine (HSS.out _ _ _ HV3'.out HV4.out).mono ?_); go_must (rintro e w5 ⟨rfl, hb5⟩); go_must (have HB5' : Hid (Below w2.heap.size w2 w5) := HB4.out.trans (hb5.mono HB4.out.size)); go_must (have d0 := carry hb5 c0); go_must (have d1 := carry hb5 c1); go_must (have d2 := carry hb5 c2); clear hb5))
  all_goals
    have HB5 : Hid (Below w.heap.size w w5) := HB2.out.trans (HB5'.out.mono HB2.out.size)
    clear a0 a1 a2 b0 b1 b2 c0 c1 c2
    go_wp2_with fail
    refine (toDefS_callsF ds _ _ (HP.out.next HB5.out) HZ.out).mono ?_
    rintro e w6 ⟨v6, f6, rfl, hv6, -, -, hb6⟩
    have HV6 : Hid (DInP w6 ds v6) := hv6.on hv6.plain
    have HB6 : Hid (Below w.heap.size w w6) := HB5.out.trans (hb6.mono HB5.out.size)
    replace d0 := carry hb6 d0
    replace d1 := carry hb6 d1
    replace d2 := carry hb6 d2
    clear hb6 hv6
    go_wp2_with fail
    refine (fto_calls t.kids _ _ _ _ (HK.out.next HB6.out) HZ2.out).mono ?_
    rintro e w7 ⟨v7, rfl, hv7, hb7⟩
    have HV7 : Hid (InP w7 t.kids v7) := hv7.inP
    have HV7' := HV7.out
    have HV6' : Hid (DInP w7 ds v6) := DefsOn.nextP HV6.out hb7
    have HB7 : Hid (Below w.heap.size w w7) := HB6.out.trans (hb7.mono HB6.out.size)
    replace d0 := carry hb7 d0
    replace d1 := carry hb7 d1
    replace d2 := carry hb7 d2
    obtain ⟨ad7, cap7, rfl, -, -, -⟩ := HV7'
    clear hb7 hv7
    go_wp2_with fail
    refine (HSI.out _ _ _ (HB7.out.trans ((box_below _ _).mono HB7.out.size)) (DefsOn.nextP HV6'.out (box_below _ _)) (HV7.out.inP.next (box_below _ _))).mono ?_
    rintro e w8 ⟨rfl, hb8⟩
    obtain ⟨x0, x1, x2, hz8, HB8'⟩ := box_after hb8
    have HV8 : Hid (In w8 t.kids (.slice ad7 t.kids.length cap7)) := HV7.out.inP.next HB8'
    have HV6'' : Hid (DIn w8 ds v6) := HV6'.out.inP.next HB8'
    have HB8 : Hid (Below w.heap.size w w8) := HB7.out.trans (HB8'.mono HB7.out.size)
    replace d0 := carry HB8' d0
    replace d1 := carry HB8' d1
    replace d2 := carry HB8' d2
    clear hb8 HB8'
    have tb1 : (r1 != r1) = false := by simp
    have tb2 : (r2 != r2) = false := by simp
    have tb3 : (r3 != r3) = false := by simp
    go_wp2_with fail
    refine (toDefS_calls ds _ _ (HP.out.next HB8.out) HZ.out).mono ?_
    rintro e w9 ⟨v9, rfl, hv9, hb9⟩
    have HV9 : Hid (DIn w9 ds v9) := hv9.btw_in
    have HV6a : Hid (DIn w9 ds v6) := HV6''.out.next hb9
    have HV8a : Hid (In w9 t.kids (.slice ad7 t.kids.length cap7)) := HV8.out.next hb9
    have HB9 : Hid (Below w.heap.size w w9) := HB8.out.trans (hb9.mono HB8.out.size)
    replace d0 := carry hb9 d0
    replace d1 := carry hb9 d1
    replace d2 := carry hb9 d2
    replace x0 := carry hb9 x0
    replace x1 := carry hb9 x1
    replace x2 := carry hb9 x2
    clear hb9 hv9
    go_wp2_with fail
    refine (eqDefS_calls ds v6 v9 _ HV6a.out HV9.out).mono ?_
    rintro e w10 ⟨rfl, hb10⟩
    have HV8b : Hid (In w10 t.kids (.slice ad7 t.kids.length cap7)) := HV8a.out.next hb10
    have HB10 : Hid (Below w.heap.size w w10) := HB9.out.trans (hb10.mono HB9.out.size)
    replace d0 := carry hb10 d0
    replace d1 := carry hb10 d1
    replace d2 := carry hb10 d2
    replace x0 := carry hb10 x0
    replace x1 := carry hb10 x1
    replace x2 := carry hb10 x2
    clear hb10
    go_wp2_with fail
    have HK10 : Hid (In w10 t.kids (.slice ad t.kids.length cap)) := HK.out.next HB10.out
    go_region_with (first
      | (go_at_call 12; go_must (refine (to_calls t.kids _ _ _ _ ?_ HZ2.out).mono ?_); go_must (exact HK10.out.drew); go_must (rintro e w11 ⟨v11, rfl, hv11, hb11⟩); go_must (have HV11 : Hid (In w11 t.kids v11) := hv11.btw_in); go_must (have HB11 : Hid (Below w10.heap.size w10 w11) := (Below.refl _ _).drew.trans hb11); go_must (have y0 := carry HB11.out x0); go_must (have y1 := carry HB11.out x1); go_must (have y2 := carry HB11.out x2); clear hv11 hb11)
      | (go_at_call 15; go_must (refine (eq_calls t.kids _ _ _ _ _ ?_ ?_).mono ?_); go_must (exact HV8b.out.next HB11.out); go_must (exact HV11.out); go_must (rintro e w12 ⟨rfl, hb12⟩)))
    all_goals
      have HB12 : Hid (Below w.heap.size w w12) := HB10.out.trans ((HB11.out.trans (hb12.mono HB11.out.size)).mono HB10.out.size)
      clear hb12
      go_wp2_with fail
      go_ret
      exact ⟨rfl, HB12.out⟩
end Go.Proofs.YtjpjikfmdaejeaaDoor.lawExactNumberNeed
