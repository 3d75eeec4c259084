/-
  THE PROGRAM's change AND step, OF WHAT call DOES (CallSaid: proved elsewhere).
-/
import Derived.Test.YtjpjikfmdaejeaaDoorMgExactNumberNeed28
import Derived.Test.YtjpjikfmdaejeaaDoorMgExactNumberNeed31
import Derived.Test.YtjpjikfmdaejeaaDoorMgExactNumberNeed32
import Derived.Test.YtjpjikfmdaejeaaDoorMgExactNumberNeed20
import Derived.Test.YtjpjikfmdaejeaaDoorMgExactNumberNeed16
import Derived.Test.YtjpjikfmdaejeaaDoorMgExactNumberNeed24
import Derived.Deep.LoopGhost
import Derived.Deep.QuietTactic
import Derived.Deep.RegionWith
import Derived.Deep.DeepMust
import Derived.BigQuiet
import Derived.WalkSmall
namespace Go.Proofs.YtjpjikfmdaejeaaDoor
set_option linter.unusedVariables false
set_option linter.unusedSimpArgs false
open Go.RowKit

/-- a step is made, or none: the error and the graph -/
def StepD (aF aS aL : Addr) (R A lo : Nat) (c : Value) (fu st : Int) (r : List Ce × Nat) (w : World) (e : Ending) (w' : World) : Prop := e = .returned (errV aF aS aL r.2) ∧ RedW R A lo c fu st r.1 w' ∧ Below lo w w' ∧ Kp R A w w'
/-- what (*reducer).call does -/
def CallSaid : Prop := ∀ (aF aS aL : Addr) (ds : List Df) (g : List Ce) (R A lo at' : Nat) (c : Value) (fu st : Int) (w : World), Errs aF aS aL w → RedW R A lo c fu st g w → lo ≤ w.heap.size → DefsOn w (fun k => k < lo ∧ Pl w k) ds c → graphB g ds.length = true → progB ds = true → at' < g.length → CallReady ds g at' →
  Calls Tryd.prog 114 #[.pointer (some ⟨R, 0, none⟩), .int .i64 (at' : Int)] w (StepD aF aS aL R A lo c fu st (callG ds g at') w)
theorem changeG_op {ds : List Df} {g : List Ce} {at' : Nat} (h : OpReady g at') : changeG ds g at' = (g.set at' (opCell g at'), 0) := by unfold changeG; rw [if_neg (ready_op (ds := ds) h)]
theorem changeG_call {ds : List Df} {g : List Ce} {at' : Nat} (h : CallReady ds g at') : changeG ds g at' = callG ds g at' := by unfold changeG; rw [if_pos h.1]

set_option maxRecDepth 100000 in
set_option maxHeartbeats 1600000 in
theorem change_calls (hcall : CallSaid) (aF aS aL : Addr) (ds : List Df) (g : List Ce) (R A lo at' : Nat) (c : Value) (fu st : Int) (w : World) (hE : Errs aF aS aL w) (h : RedW R A lo c fu st g w) (hlo : lo ≤ w.heap.size) (hd : DefsOn w (fun k => k < lo ∧ Pl w k) ds c) (hg : graphB g ds.length = true) (hp : progB ds = true) (hr : Ready ds g at') :
    Calls Tryd.prog 100 #[.pointer (some ⟨R, 0, none⟩), .int .i64 (at' : Int)] w (StepD aF aS aL R A lo c fu st (changeG ds g at') w) := by
  obtain ⟨ha, hcr | hop⟩ := hr
  case inr =>
    rw [changeG_op hop]
    exact (changeOp_calls R A lo at' c fu st g ds.length w h hlo hg ha hop).mono fun e w' h => ⟨h.1, h.2.1.1, h.2.2, h.2.1.2⟩
  rw [changeG_call hcr]
  have HW := mkHid h
  obtain ⟨b5, cap, hA, hO, hbl5, hbz5, hbA, hbR⟩ := h.blk (by omega)
  have hC := (hO.own fun k hk _ => hk).inn
  have h400 : g.length ≤ 400 := graphB_len hg
  obtain ⟨bl, off, r, hea, c0, c1, c2, -, -, hkk⟩ := hC.at at' ha
  cases hea
  simp only [Nat.zero_add] at c0 c1 c2
  obtain ⟨adk, capk, rfl, hkcl, hkcm, -⟩ := hkk
  have r0 := cell_of_blk h.red 0 _ rfl
  have a0 := cell_of_blk hA 0 _ rfl
  have HBX : Hid (Below w.heap.size w (w.alloc (.cells #[.int .i64 g[at'].op, .int .i64 g[at'].num, .slice adk g[at'].kids.length capk] 64))) := box_below _ _
  have HX : Hid ((w.alloc (.cells #[.int .i64 g[at'].op, .int .i64 g[at'].num, .slice adk g[at'].kids.length capk] 64)).heap[w.heap.size]? = some (.cells #[.int .i64 g[at'].op, .int .i64 g[at'].num, .slice adk g[at'].kids.length capk] 64)) := Deep.blk_alloc_new _ _
  have HSX : Hid ((w.alloc (.cells #[.int .i64 g[at'].op, .int .i64 g[at'].num, .slice adk g[at'].kids.length capk] 64)).heap.size = w.heap.size + 1) := Deep.nblk_alloc _ _
  have HCL := mkHid (hcall aF aS aL ds g R A lo at' c fu st (w.alloc (.cells #[.int .i64 g[at'].op, .int .i64 g[at'].num, .slice adk g[at'].kids.length capk] 64)) (hE.next HBX.out) (HW.out.next HBX.out) (by rw [HSX.out]; omega) (hd.mono (fun k hk => ⟨hk.1, hk.2.next HBX.out⟩) (fun k hk => HBX.out.block k hk.2.1)) hg hp ha hcr)
  have h34 := hcr.1
  rw [opAt_at at' ha] at h34
  have t6 : (g[at'].op == 6) = false := by simp; omega
  have t7 : (g[at'].op == 7) = false := by simp; omega
  have t8 : (g[at'].op == 8) = false := by simp; omega
  have t9 : (g[at'].op == 9) = false := by simp; omega
  have t10 : (g[at'].op == 10) = false := by simp; omega
  have hatI : (at' : Int) < (g.length : Int) := by omega
  unfold maxLen at hkcm
  have F2 := fld2
  have F1 := fld1
  have HLO := mkHid hlo
  clear h hg hp hE hd hA hC hO hbl5 hbz5 hbA hbR hcr h34 hcall
  go_enter Tryd.func100, Tryd.ntmps100
  go_wp2_with fail
  refine HCL.out.mono ?_
  rintro e w2 ⟨rfl, hw2, hb2, hk2⟩
  have HW2 := mkHid hw2
  have HB2 : Hid (Below lo w w2) := (HBX.out.mono HLO.out).trans hb2
  have HKP : Hid (Kp R A w w2) := (Kp.below HBX.out HW.out.ltA).trans hk2
  clear hw2 hb2 hk2
  go_wp2_with fail
  go_ret
  exact ⟨rfl, HW2.out, HB2.out, HKP.out⟩

set_option maxRecDepth 100000 in
set_option maxHeartbeats 1600000 in
theorem step_calls (hcall : CallSaid) (aF aS aL : Addr) (ds : List Df) (g : List Ce) (R A lo a : Nat) (c : Value) (fu st : Int) (w : World) (hE : Errs aF aS aL w) (h : RedW R A lo c fu st g w) (hlo : lo ≤ w.heap.size) (hd : DefsOn w (fun k => k < lo ∧ Pl w k) ds c) (hg : graphB g ds.length = true) (hp : progB ds = true) (ha : a < g.length) (hv : valB (arsOf ds) g a = false) :
    Calls Tryd.prog 84 #[.pointer (some ⟨R, 0, none⟩), .int .i64 (a : Int)] w (StepD aF aS aL R A lo c fu st (stepG ds g a) w) := by
  have HW := mkHid h
  obtain ⟨ad, cap, hA, hC⟩ := h.inn
  have r0 := cell_of_blk h.red 0 _ rfl
  have r1 := cell_of_blk h.red 1 _ rfl
  have a0 := cell_of_blk hA 0 _ rfl
  have hdi : DIn w ds c := hd.mono (fun k hk => hk.2.1) (fun _ _ => rfl)
  have hrf : ∀ W : World, Below w.heap.size w W → Calls Tryd.prog 99 #[c, .slice ad g.length cap, .int .i64 (a : Int)] W fun e w' => e = .returned (.tuple #[.int .i64 (rdI (redex (arsOf ds) g a)), errV aF aS aL (rdC (redex (arsOf ds) g a))]) ∧ Below W.heap.size W w' := fun W hb => redexFrom_calls aF aS aL ds g a c _ W (hE.next hb) (hdi.next hb) (hC.next hb) hg hp ha hv
  have HRR := mkHid h.red
  have HAA := mkHid hA
  have HE := mkHid hE
  have HD := mkHid hd
  have HG := mkHid hg
  have HP := mkHid hp
  have HLO := mkHid hlo
  cases hx : redex (arsOf ds) g a with
  | none =>
    have HS : Hid (stepG ds g a = (g, 2)) := by unfold Hid stepG; rw [hx]
    have HRF : Hid (∀ W : World, Below w.heap.size w W → Calls Tryd.prog 99 #[c, .slice ad g.length cap, .int .i64 (a : Int)] W fun e w' => e = .returned (.tuple #[.int .i64 0, .iface 183 (.pointer (some aS))]) ∧ Below W.heap.size W w') := fun W hb => by have := hrf W hb; rw [hx] at this; exact this
    clear h hE hd hdi hC hA hg hp hv hx hcall hrf
    go_enter Tryd.func84, Tryd.ntmps84
    go_wp2_with fail
    go_region_held3 (fun w' => w'.cell? ⟨R, 0, none⟩ = some (.pointer (some ⟨A, 0, none⟩)) ∧ w'.cell? ⟨R, 1, none⟩ = some c ∧ w'.cell? ⟨A, 0, none⟩ = some (.slice ad g.length cap))
      (first
        | go_keep
        | exact ⟨m0, m1, m2⟩
        | exact ⟨r0, r1, a0⟩)
      (first
        | (go_at_call 99; refine (HRF.out w.drew ((Below.refl _ _).drew)).mono ?_; rintro e w1 ⟨rfl, hb1⟩; have HB1 : Hid (Below w.heap.size w w1) := (Below.refl _ _).drew.trans hb1; have m0 := cell_of_blk ((HB1.out.block _ (Array.getElem?_eq_some_iff.1 HRR.out).1).trans HRR.out) 0 _ rfl; have m1 := cell_of_blk ((HB1.out.block _ (Array.getElem?_eq_some_iff.1 HRR.out).1).trans HRR.out) 1 _ rfl; have m2 := cell_of_blk ((HB1.out.block _ (Array.getElem?_eq_some_iff.1 HAA.out).1).trans HAA.out) 0 _ rfl; clear hb1))
    go_wp2_with fail
    go_ret
    exact ⟨by rw [HS.out]; rfl, by rw [HS.out]; exact HW.out.next HB1.out, HB1.out.mono HLO.out, Kp.below HB1.out HW.out.ltA⟩
  | some at' =>
    have hr := redex_ready hg hp ha hv hx
    have HS : Hid (stepG ds g a = changeG ds g at') := by unfold Hid stepG; rw [hx]
    have HRF : Hid (∀ W : World, Below w.heap.size w W → Calls Tryd.prog 99 #[c, .slice ad g.length cap, .int .i64 (a : Int)] W fun e w' => e = .returned (.tuple #[.int .i64 (at' : Int), .nilIface]) ∧ Below W.heap.size W w') := fun W hb => by have := hrf W hb; rw [hx] at this; exact this
    have HCH : Hid (∀ W : World, Below w.heap.size w W → Calls Tryd.prog 100 #[.pointer (some ⟨R, 0, none⟩), .int .i64 (at' : Int)] W (StepD aF aS aL R A lo c fu st (changeG ds g at') W)) := fun W hb =>
      change_calls hcall aF aS aL ds g R A lo at' c fu st W (hE.next hb) (HW.out.next hb) (Nat.le_trans hlo hb.size) (hd.mono (fun k hk => ⟨hk.1, hk.2.next hb⟩) (fun k hk => hb.block k hk.2.1)) hg hp hr
    clear h hE hd hdi hC hA hg hp hv hx hcall hr hrf
    go_enter Tryd.func84, Tryd.ntmps84
    go_wp2_with fail
    go_region_held3 (fun w' => w'.cell? ⟨R, 0, none⟩ = some (.pointer (some ⟨A, 0, none⟩)) ∧ w'.cell? ⟨R, 1, none⟩ = some c ∧ w'.cell? ⟨A, 0, none⟩ = some (.slice ad g.length cap))
      (first
        | go_keep
        | exact ⟨m0, m1, m2⟩
        | exact ⟨r0, r1, a0⟩)
      (first
        | (go_at_call 99; refine (HRF.out w.drew ((Below.refl _ _).drew)).mono ?_; rintro e w1 ⟨rfl, hb1⟩; have HB1 : Hid (Below w.heap.size w w1) := (Below.refl _ _).drew.trans hb1; have m0 := cell_of_blk ((HB1.out.block _ (Array.getElem?_eq_some_iff.1 HRR.out).1).trans HRR.out) 0 _ rfl; have m1 := cell_of_blk ((HB1.out.block _ (Array.getElem?_eq_some_iff.1 HRR.out).1).trans HRR.out) 1 _ rfl; have m2 := cell_of_blk ((HB1.out.block _ (Array.getElem?_eq_some_iff.1 HAA.out).1).trans HAA.out) 0 _ rfl; clear hb1))
    go_wp2_with fail
    refine (HCH.out w1 HB1.out).mono ?_
    rintro e w2 ⟨rfl, hw2, hb2, hk2⟩
    have HW2 := mkHid hw2
    have HB2 : Hid (Below lo w w2) := (HB1.out.mono HLO.out).trans hb2
    have HKP : Hid (Kp R A w w2) := (Kp.below HB1.out HW.out.ltA).trans hk2
    clear hw2 hb2 hk2
    go_wp2_with fail
    go_ret
    exact ⟨by rw [HS.out]; rfl, by rw [HS.out]; exact HW2.out, HB2.out, HKP.out⟩
end Go.Proofs.YtjpjikfmdaejeaaDoor
/-
  THE BEGINNING OF A COUNT (countNodes$1): the node with what it counts itself; nothing that was there is changed.
-/
namespace Go.Proofs.YtjpjikfmdaejeaaDoor.cntCall
set_option linter.unusedVariables false
set_option linter.unusedSimpArgs false
open Go.RowKit

/-- a function value that tells which nodes are wanted -/
def WantSaid (w0 : World) (vb : Nat) (p : Tr → Bool) : Prop :=
  ∀ (t : Tr) (c : Value) (W : World), Below w0.heap.size w0 W → In W t.kids c → Calls Tryd.prog 121 #[.agg #[.int .i64 t.op, .int .i64 t.num, c]] W fun e w' => e = .returned (.bool (p t)) ∧ Below W.heap.size W w'

set_option maxRecDepth 100000 in
set_option maxHeartbeats 800000 in
theorem begin_calls {w0 : World} {vb : Nat} {p : Tr → Bool} (hw : WantSaid w0 vb p) (x : Addr) (t : Tr) (wb : Nat) (W : World) (hx : LiesAt W (Lt W.heap.size) x t) (hwb : W.cell? ⟨wb, 0, none⟩ = some (.func (.func 121) #[] #[])) (hb : Below w0.heap.size w0 W) :
    Calls Tryd.prog 123 #[.pointer (some x), .pointer (some ⟨wb, 0, none⟩)] W fun e w' => e = .returned (.agg #[.pointer (some x), .int .i64 0, .int .i64 ((if p t then 1 else 0 : Nat) : Int)]) ∧ Below W.heap.size W w' := by
  have HW : Hid (WantSaid w0 vb p) := hw
  have HB : Hid (Below w0.heap.size w0 W) := hb
  obtain ⟨bl, off, a, b, c, rfl, hbl, h0, h1, h2, ht⟩ := hx
  obtain ⟨rfl, rfl, -, -, hk⟩ := trOn_iff.1 ht
  have HK : Hid (In W t.kids c) := hk
  obtain ⟨ad, cap, rfl, -, -, -⟩ := hk
  have hbl' : bl < W.heap.size := hbl
  have hwl : wb < W.heap.size := cell_lt hwb
  clear hw hb ht hbl
  have hq : Hid (∀ W', Below w0.heap.size w0 W' → In W' t.kids (.slice ad t.kids.length cap) → Calls Tryd.prog 121 #[.agg #[.int .i64 t.op, .int .i64 t.num, .slice ad t.kids.length cap]] W' fun e w' => e = .returned (.bool (p t)) ∧ Below W'.heap.size W' w') := fun W' h1 h2 => HW.out t _ W' h1 h2
  cases hp : p t with
  | true =>
    rw [hp] at hq
    clear hp
    go_enter Tryd.func123, Tryd.ntmps123
    go_wp2_with fail
    go_region_with ((go_at_call 121; go_must (refine (hq.out _ ?_ ?_).mono ?_); go_must (exact (HB.out.trans ((box_below W _).mono HB.out.size)).drew); go_must (exact (HK.out.next (box_below W _)).drew); go_must (rintro e w2 ⟨rfl, hb2⟩); go_must (have HB2 : Hid (Below (W.heap.size + 1) (W.alloc (.cells #[.pointer none, .int .i64 0, .int .i64 0] 178)) w2) := (by have h := (Below.refl (W.alloc (.cells #[.pointer none, .int .i64 0, .int .i64 0] 178)).heap.size (W.alloc (.cells #[.pointer none, .int .i64 0, .int .i64 0] 178))).drew.trans hb2; rw [Deep.nblk_alloc] at h; exact h)); clear hb2))
    all_goals
      have c0 := (HB2.out.cell (p := ⟨W.heap.size, 0, none⟩) (Nat.lt_succ_self _)).trans (box_cell W _ _ 0 _ rfl)
      have c1 := (HB2.out.cell (p := ⟨W.heap.size, 1, none⟩) (Nat.lt_succ_self _)).trans (box_cell W _ _ 1 _ rfl)
      have c2 := (HB2.out.cell (p := ⟨W.heap.size, 2, none⟩) (Nat.lt_succ_self _)).trans (box_cell W _ _ 2 _ rfl)
      have hf := fun i => frz_of_blk (w := w2) (b := W.heap.size) ((HB2.out.block _ (Nat.lt_succ_self _)).trans (Deep.blk_alloc_new W _)) i
      have HB3 : Hid (Below W.heap.size W w2) := (box_below W _).trans (HB2.out.mono (Nat.le_succ _))
      go_wp2_with fail
      exact bodyPost_ret (v := .agg #[.pointer (some ⟨bl, off, none⟩), .int .i64 0, .int .i64 1]) (by simp [results, Tryd.results123, go_sem, c0, c1, c2]) rfl ⟨by simp, ((HB3.out.setCell (by simp) _).setCell (by simp) _).setCell (by simp) _⟩
  | false =>
    rw [hp] at hq
    clear hp
    go_enter Tryd.func123, Tryd.ntmps123
    go_wp2_with fail
    go_region_with ((go_at_call 121; go_must (refine (hq.out _ ?_ ?_).mono ?_); go_must (exact (HB.out.trans ((box_below W _).mono HB.out.size)).drew); go_must (exact (HK.out.next (box_below W _)).drew); go_must (rintro e w2 ⟨rfl, hb2⟩); go_must (have HB2 : Hid (Below (W.heap.size + 1) (W.alloc (.cells #[.pointer none, .int .i64 0, .int .i64 0] 178)) w2) := (by have h := (Below.refl (W.alloc (.cells #[.pointer none, .int .i64 0, .int .i64 0] 178)).heap.size (W.alloc (.cells #[.pointer none, .int .i64 0, .int .i64 0] 178))).drew.trans hb2; rw [Deep.nblk_alloc] at h; exact h)); clear hb2))
    all_goals
      have c0 := (HB2.out.cell (p := ⟨W.heap.size, 0, none⟩) (Nat.lt_succ_self _)).trans (box_cell W _ _ 0 _ rfl)
      have c1 := (HB2.out.cell (p := ⟨W.heap.size, 1, none⟩) (Nat.lt_succ_self _)).trans (box_cell W _ _ 1 _ rfl)
      have c2 := (HB2.out.cell (p := ⟨W.heap.size, 2, none⟩) (Nat.lt_succ_self _)).trans (box_cell W _ _ 2 _ rfl)
      have hf := fun i => frz_of_blk (w := w2) (b := W.heap.size) ((HB2.out.block _ (Nat.lt_succ_self _)).trans (Deep.blk_alloc_new W _)) i
      have HB3 : Hid (Below W.heap.size W w2) := (box_below W _).trans (HB2.out.mono (Nat.le_succ _))
      go_wp2_with fail
      exact bodyPost_ret (v := .agg #[.pointer (some ⟨bl, off, none⟩), .int .i64 0, .int .i64 0]) (by simp [results, Tryd.results123, go_sem, c0, c1, c2]) rfl ⟨by simp, ((HB3.out.setCell (by simp) _).setCell (by simp) _).setCell (by simp) _⟩
end Go.Proofs.YtjpjikfmdaejeaaDoor.cntCall
