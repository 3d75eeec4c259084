/-
  THE PROGRAM's change AND step, OF WHAT call DOES (CallSaid: proved elsewhere).
-/
import Derived.Test.YtiipcgnkfhjpeaaGreatDoorMgExactEvalRun33
import Derived.Test.YtiipcgnkfhjpeaaGreatDoorMgExactEvalRun34
import Derived.Test.YtiipcgnkfhjpeaaGreatDoorMgExactEvalRun11
import Derived.Test.YtiipcgnkfhjpeaaGreatDoorMgExactEvalRun18
import Derived.Test.YtiipcgnkfhjpeaaGreatDoorMgExactEvalRun15
import Derived.Laws.OwnMore
import Derived.Maps.OwnSet
namespace Go.Proofs.YtiipcgnkfhjpeaaGreatDoor
set_option linter.unusedVariables false
set_option linter.unusedSimpArgs false
open Go.RowKit

/-- a step is made, or none: the error and the graph -/
def StepD (aF aS aL : Addr) (R A lo : Nat) (c : Value) (fu : Fu) (st : Int) (r : List Ce × Nat) (w : World) (e : Ending) (w' : World) : Prop := e = .returned (errV aF aS aL r.2) ∧ RedW R A lo c fu st r.1 w' ∧ Below lo w w' ∧ Kp R A w w'
/-- what (*reducer).call does -/
def CallSaid : Prop := ∀ (aF aS aL : Addr) (ds : List Df) (g : List Ce) (R A lo at' : Nat) (c : Value) (fu : Fu) (st : Int) (w : World), Errs aF aS aL w → RedW R A lo c fu st g w → lo ≤ w.heap.size → DefsOn w (fun k => k < lo ∧ Pl w k) ds c → graphB g ds.length = true → progB ds = true → at' < g.length → CallReady ds g at' →
  Calls Tryz.prog 156 #[.pointer (some ⟨R, 0, none⟩), .int .i64 (at' : Int)] w (StepD aF aS aL R A lo c fu st (callG ds g at') w)
theorem changeG_op {ds : List Df} {g : List Ce} {at' : Nat} (h : OpReady g at') : changeG ds g at' = (g.set at' (opCell g at'), 0) := by unfold changeG; rw [if_neg (ready_op (ds := ds) h)]
theorem changeG_call {ds : List Df} {g : List Ce} {at' : Nat} (h : CallReady ds g at') : changeG ds g at' = callG ds g at' := by unfold changeG; rw [if_pos h.1]

set_option maxRecDepth 100000 in
set_option maxHeartbeats 1600000 in
theorem change_calls (hcall : CallSaid) (aF aS aL : Addr) (ds : List Df) (g : List Ce) (R A lo at' : Nat) (c : Value) (fu : Fu) (st : Int) (w : World) (hE : Errs aF aS aL w) (h : RedW R A lo c fu st g w) (hlo : lo ≤ w.heap.size) (hd : DefsOn w (fun k => k < lo ∧ Pl w k) ds c) (hg : graphB g ds.length = true) (hp : progB ds = true) (hr : Ready ds g at') :
    Calls Tryz.prog 150 #[.pointer (some ⟨R, 0, none⟩), .int .i64 (at' : Int)] w (StepD aF aS aL R A lo c fu st (changeG ds g at') w) := by
  obtain ⟨ha, hcr | hop⟩ := hr
  case inr =>
    rw [changeG_op hop]
    exact (changeOp_calls R A lo at' c fu st g ds.length w h hlo hg ha hop).mono fun e w' h => ⟨h.1, h.2.1.1, h.2.2, h.2.1.2⟩
  rw [changeG_call hcr]
  have HW := mkHid h
  obtain ⟨b5, cap, hA, hO, hbl5, hbz5, hbA, hbR⟩ := h.blk (by omega)
  have hC := (hO.own fun k hk _ => hk).inn
  have h400 : g.length ≤ 400 := graphB_len hg
  obtain ⟨bl, off, r, hea, c0, c1, c2, -, -, hkk⟩ := hC.at at' ha
  cases hea
  simp only [Nat.zero_add] at c0 c1 c2
  obtain ⟨adk, capk, rfl, hkcl, hkcm, -⟩ := hkk
  have r0 := cell_of_blk h.red 0 _ rfl
  have a0 := cell_of_blk hA 0 _ rfl
  have HBX : Hid (Below w.heap.size w (w.alloc (.cells #[.int .i64 g[at'].op, .int .i64 g[at'].num, .slice adk g[at'].kids.length capk] 93))) := box_below _ _
  have HX : Hid ((w.alloc (.cells #[.int .i64 g[at'].op, .int .i64 g[at'].num, .slice adk g[at'].kids.length capk] 93)).heap[w.heap.size]? = some (.cells #[.int .i64 g[at'].op, .int .i64 g[at'].num, .slice adk g[at'].kids.length capk] 93)) := Deep.blk_alloc_new _ _
  have HSX : Hid ((w.alloc (.cells #[.int .i64 g[at'].op, .int .i64 g[at'].num, .slice adk g[at'].kids.length capk] 93)).heap.size = w.heap.size + 1) := Deep.nblk_alloc _ _
  have HCL := mkHid (hcall aF aS aL ds g R A lo at' c fu st (w.alloc (.cells #[.int .i64 g[at'].op, .int .i64 g[at'].num, .slice adk g[at'].kids.length capk] 93)) (hE.next HBX.out) (HW.out.next HBX.out) (by rw [HSX.out]; omega) (hd.mono (fun k hk => ⟨hk.1, hk.2.next HBX.out⟩) (fun k hk => HBX.out.block k hk.2.1)) hg hp ha hcr)
  have h34 := hcr.1
  rw [opAt_at at' ha] at h34
  have t6 : (g[at'].op == 6) = false := by simp; omega
  have t7 : (g[at'].op == 7) = false := by simp; omega
  have t8 : (g[at'].op == 8) = false := by simp; omega
  have t9 : (g[at'].op == 9) = false := by simp; omega
  have t10 : (g[at'].op == 10) = false := by simp; omega
  have hatI : (at' : Int) < (g.length : Int) := by omega
  unfold maxLen at hkcm
  have F2 := fld2
  have F1 := fld1
  have HLO := mkHid hlo
  clear h hg hp hE hd hA hC hO hbl5 hbz5 hbA hbR hcr h34 hcall
  go_enter Tryz.func150, Tryz.ntmps150
  go_wp2_with fail
  refine HCL.out.mono ?_
  rintro e w2 ⟨rfl, hw2, hb2, hk2⟩
  have HW2 := mkHid hw2
  have HB2 : Hid (Below lo w w2) := (HBX.out.mono HLO.out).trans hb2
  have HKP : Hid (Kp R A w w2) := (Kp.below HBX.out HW.out.ltA).trans hk2
  clear hw2 hb2 hk2
  go_wp2_with fail
  go_ret
  exact ⟨rfl, HW2.out, HB2.out, HKP.out⟩

set_option maxRecDepth 100000 in
set_option maxHeartbeats 1600000 in
theorem step_calls (hcall : CallSaid) (aF aS aL : Addr) (ds : List Df) (g : List Ce) (R A lo a : Nat) (c : Value) (fu : Fu) (st : Int) (w : World) (hE : Errs aF aS aL w) (h : RedW R A lo c fu st g w) (hlo : lo ≤ w.heap.size) (hd : DefsOn w (fun k => k < lo ∧ Pl w k) ds c) (hg : graphB g ds.length = true) (hp : progB ds = true) (ha : a < g.length) (hv : valB (arsOf ds) g a = false) :
    Calls Tryz.prog 147 #[.pointer (some ⟨R, 0, none⟩), .int .i64 (a : Int)] w (StepD aF aS aL R A lo c fu st (stepG ds g a) w) := by
  have HW := mkHid h
  obtain ⟨ad, cap, hA, hC⟩ := h.inn
  have r0 := cell_of_blk h.red 0 _ rfl
  have r1 := cell_of_blk h.red 1 _ rfl
  have a0 := cell_of_blk hA 0 _ rfl
  have hdi : DIn w ds c := hd.mono (fun k hk => hk.2.1) (fun _ _ => rfl)
  have hrf : ∀ W : World, Below w.heap.size w W → Calls Tryz.prog 149 #[c, .slice ad g.length cap, .int .i64 (a : Int)] W fun e w' => e = .returned (.tuple #[.int .i64 (rdI (redex (arsOf ds) g a)), errV aF aS aL (rdC (redex (arsOf ds) g a))]) ∧ Below W.heap.size W w' := fun W hb => redexFrom_calls aF aS aL ds g a c _ W (hE.next hb) (hdi.next hb) (hC.next hb) hg hp ha hv
  have HRR := mkHid h.red
  have HAA := mkHid hA
  have HE := mkHid hE
  have HD := mkHid hd
  have HG := mkHid hg
  have HP := mkHid hp
  have HLO := mkHid hlo
  cases hx : redex (arsOf ds) g a with
  | none =>
    have HS : Hid (stepG ds g a = (g, 2)) := by unfold Hid stepG; rw [hx]
    have HRF : Hid (∀ W : World, Below w.heap.size w W → Calls Tryz.prog 149 #[c, .slice ad g.length cap, .int .i64 (a : Int)] W fun e w' => e = .returned (.tuple #[.int .i64 0, .iface 192 (.pointer (some aS))]) ∧ Below W.heap.size W w') := fun W hb => by have := hrf W hb; rw [hx] at this; exact this
    clear h hE hd hdi hC hA hg hp hv hx hcall hrf
    go_enter Tryz.func147, Tryz.ntmps147
    go_wp2_with fail
    go_region_held3 (fun w' => w'.cell? ⟨R, 0, none⟩ = some (.pointer (some ⟨A, 0, none⟩)) ∧ w'.cell? ⟨R, 1, none⟩ = some c ∧ w'.cell? ⟨A, 0, none⟩ = some (.slice ad g.length cap))
      (first
        | go_keep
        | exact ⟨m0, m1, m2⟩
        | exact ⟨r0, r1, a0⟩)
      (first
        | (go_at_call 149; refine (HRF.out w.drew ((Below.refl _ _).drew)).mono ?_; rintro e w1 ⟨rfl, hb1⟩; have HB1 : Hid (Below w.heap.size w w1) := (Below.refl _ _).drew.trans hb1; have m0 := cell_of_blk ((HB1.out.block _ (Array.getElem?_eq_some_iff.1 HRR.out).1).trans HRR.out) 0 _ rfl; have m1 := cell_of_blk ((HB1.out.block _ (Array.getElem?_eq_some_iff.1 HRR.out).1).trans HRR.out) 1 _ rfl; have m2 := cell_of_blk ((HB1.out.block _ (Array.getElem?_eq_some_iff.1 HAA.out).1).trans HAA.out) 0 _ rfl; clear hb1))
    go_wp2_with fail
    go_ret
    exact ⟨by rw [HS.out]; rfl, by rw [HS.out]; exact HW.out.next HB1.out, HB1.out.mono HLO.out, Kp.below HB1.out HW.out.ltA⟩
  | some at' =>
    have hr := redex_ready hg hp ha hv hx
    have HS : Hid (stepG ds g a = changeG ds g at') := by unfold Hid stepG; rw [hx]
    have HRF : Hid (∀ W : World, Below w.heap.size w W → Calls Tryz.prog 149 #[c, .slice ad g.length cap, .int .i64 (a : Int)] W fun e w' => e = .returned (.tuple #[.int .i64 (at' : Int), .nilIface]) ∧ Below W.heap.size W w') := fun W hb => by have := hrf W hb; rw [hx] at this; exact this
    have HCH : Hid (∀ W : World, Below w.heap.size w W → Calls Tryz.prog 150 #[.pointer (some ⟨R, 0, none⟩), .int .i64 (at' : Int)] W (StepD aF aS aL R A lo c fu st (changeG ds g at') W)) := fun W hb =>
      change_calls hcall aF aS aL ds g R A lo at' c fu st W (hE.next hb) (HW.out.next hb) (Nat.le_trans hlo hb.size) (hd.mono (fun k hk => ⟨hk.1, hk.2.next hb⟩) (fun k hk => hb.block k hk.2.1)) hg hp hr
    clear h hE hd hdi hC hA hg hp hv hx hcall hr hrf
    go_enter Tryz.func147, Tryz.ntmps147
    go_wp2_with fail
    go_region_held3 (fun w' => w'.cell? ⟨R, 0, none⟩ = some (.pointer (some ⟨A, 0, none⟩)) ∧ w'.cell? ⟨R, 1, none⟩ = some c ∧ w'.cell? ⟨A, 0, none⟩ = some (.slice ad g.length cap))
      (first
        | go_keep
        | exact ⟨m0, m1, m2⟩
        | exact ⟨r0, r1, a0⟩)
      (first
        | (go_at_call 149; refine (HRF.out w.drew ((Below.refl _ _).drew)).mono ?_; rintro e w1 ⟨rfl, hb1⟩; have HB1 : Hid (Below w.heap.size w w1) := (Below.refl _ _).drew.trans hb1; have m0 := cell_of_blk ((HB1.out.block _ (Array.getElem?_eq_some_iff.1 HRR.out).1).trans HRR.out) 0 _ rfl; have m1 := cell_of_blk ((HB1.out.block _ (Array.getElem?_eq_some_iff.1 HRR.out).1).trans HRR.out) 1 _ rfl; have m2 := cell_of_blk ((HB1.out.block _ (Array.getElem?_eq_some_iff.1 HAA.out).1).trans HAA.out) 0 _ rfl; clear hb1))
    go_wp2_with fail
    refine (HCH.out w1 HB1.out).mono ?_
    rintro e w2 ⟨rfl, hw2, hb2, hk2⟩
    have HW2 := mkHid hw2
    have HB2 : Hid (Below lo w w2) := (HB1.out.mono HLO.out).trans hb2
    have HKP : Hid (Kp R A w w2) := (Kp.below HB1.out HW.out.ltA).trans hk2
    clear hw2 hb2 hk2
    go_wp2_with fail
    go_ret
    exact ⟨by rw [HS.out]; rfl, by rw [HS.out]; exact HW2.out, HB2.out, HKP.out⟩
end Go.Proofs.YtiipcgnkfhjpeaaGreatDoor
/-
  THE CELLS OF A COPIER: the first ones are scanned, the others still have the operands of the old space.
-/
namespace Go.Proofs.YtiipcgnkfhjpeaaGreatDoor
set_option linter.unusedVariables false
set_option linter.unusedSimpArgs false
open Go.RowKit

/-- all blocks but those of a set are as they were -/
structure ButP (U : Nat → Prop) (w w' : World) : Prop where
  os : w'.os = w.os
  tape : w'.tape = w.tape
  output : w'.output = w.output
  size : w.heap.size ≤ w'.heap.size
  block : ∀ k, k < w.heap.size → ¬ U k → w'.heap[k]? = w.heap[k]?
theorem ButP.refl (U : Nat → Prop) (w : World) : ButP U w w := ⟨rfl, rfl, rfl, Nat.le_refl _, fun _ _ _ => rfl⟩
theorem ButP.trans {U V : Nat → Prop} {a c d : World} (h : ButP U a c) (k : ButP V c d) (hV : ∀ x, V x → x < a.heap.size → U x) : ButP U a d :=
  ⟨k.os.trans h.os, k.tape.trans h.tape, k.output.trans h.output, Nat.le_trans h.size k.size, fun i hi hb => (k.block i (Nat.lt_of_lt_of_le hi h.size) (fun e => hb (hV i e hi))).trans (h.block i hi hb)⟩
theorem ButP.mono {U V : Nat → Prop} {w w' : World} (h : ButP U w w') (hs : ∀ k, U k → k < w.heap.size → V k) : ButP V w w' := ⟨h.os, h.tape, h.output, h.size, fun k hk hb => h.block k hk fun e => hb (hs k e hk)⟩
theorem ButP.of_below {U : Nat → Prop} {w w' : World} (h : Below w.heap.size w w') : ButP U w w' := ⟨h.os, h.tape, h.output, h.size, fun k hk _ => h.block k hk⟩
theorem ButP.below {U : Nat → Prop} {lo : Nat} {w w' : World} (h : ButP U w w') (hU : ∀ k, U k → lo ≤ k) (hl : lo ≤ w.heap.size) : Below lo w w' := ⟨h.os, h.tape, h.output, h.size, fun k hk => h.block k (Nat.lt_of_lt_of_le hk hl) fun e => by have := hU k e; omega⟩
theorem own_uniq {w : World} {lo lo' n s : Nat} {T : TypeId} {v : Value} {xs ys : List Value} (h : w.ownsRow lo T s v n xs) (h' : w.ownsRow lo' T s v n ys) : xs = ys := by
  have a1 := h.1
  have a2 := h'.1
  rcases h.2 with ⟨rfl, h0⟩ | ⟨b, cap, cur, rfl, hg, hh, hn', hc', hs', htk⟩
  · rw [h0] at a1 a2
    rw [List.eq_nil_of_length_eq_zero (by omega : xs.length = 0), List.eq_nil_of_length_eq_zero (by omega : ys.length = 0)]
  · rcases h'.2 with ⟨e, -⟩ | ⟨b2, cap2, cur2, e, -, hh2, -, -, -, htk2⟩
    · cases e
    · cases e
      rw [hh] at hh2
      cases hh2
      rw [← htk, ← htk2]
/-- a row of cells is no row of ints -/
theorem cellrow_ne {w : World} {lo n : Nat} {v : Value} {xs : List Value} (h : w.ownsRow lo 93 3 v n xs) {C : Array Value} {k : Nat} (hC : w.heap[k]? = some (.cells C 3 (0, 0))) : some k ≠ v.ownBlock := by
  intro e
  rcases h.2 with ⟨rfl, -⟩ | ⟨b2, cap, cur, rfl, -, hh, -⟩
  · simp [Value.ownBlock] at e
  · simp only [Value.ownBlock, Option.some.injEq] at e
    subst e
    rw [hh] at hC
    simp at hC

/-- the operands of copy j, in the row blk once it is scanned -/
def CpK (w : World) (lo : Nat) (S : Nat → Prop) (g : List Ce) (o : List Nat) (i j blk : Nat) (kv : Value) : Prop :=
  (j < i → KRowS w S ((kidsN g (o.getD j 0)).map fun k => (posN o k : Int)) blk kv) ∧ (¬ j < i → IntsOn w (Lt lo) (plI (kidsN g (o.getD j 0))) kv)
/-- the copies of the cells o, the first i of them scanned -/
def CpG (w : World) (lo : Nat) (S : Nat → Prop) (g : List Ce) (o : List Nat) (i : Nat) (v : Value) : Prop :=
  ∃ (xs : List Value) (kb : Nat → Nat), w.ownsRow lo 93 3 v o.length xs ∧
    (∀ j, j < o.length → I64 (opAt g (o.getD j 0)) ∧ I64 (numAt g (o.getD j 0)) ∧ ∃ kv, xs[j * 3]? = some (.int .i64 (opAt g (o.getD j 0))) ∧ xs[j * 3 + 1]? = some (.int .i64 (numAt g (o.getD j 0))) ∧ xs[j * 3 + 2]? = some kv ∧ CpK w lo S g o i j (kb j) kv) ∧
    ∀ a b, a < i → b < i → a < o.length → b < o.length → a ≠ b → kidsN g (o.getD a 0) ≠ [] → kidsN g (o.getD b 0) ≠ [] → kb a ≠ kb b
theorem CpG.nil (w : World) (lo : Nat) (S : Nat → Prop) (g : List Ce) : CpG w lo S g [] 0 (.slice none 0 0) :=
  ⟨[], fun _ => 0, World.ownsRow_nil w lo _ _, fun j hj => absurd hj (by simp), fun a b ha => absurd ha (by omega)⟩
theorem CpG.row {w : World} {lo : Nat} {S : Nat → Prop} {g : List Ce} {o : List Nat} {i : Nat} {v : Value} (h : CpG w lo S g o i v) : ∃ xs, w.ownsRow lo 93 3 v o.length xs := by
  obtain ⟨xs, kb, h1, -⟩ := h; exact ⟨xs, h1⟩
theorem CpG.form {w : World} {lo : Nat} {S : Nat → Prop} {g : List Ce} {o : List Nat} {i : Nat} {v : Value} (h : CpG w lo S g o i v) : ∃ ad cap, v = .slice ad o.length cap := by
  obtain ⟨xs, h1⟩ := h.row
  rcases h1.2 with ⟨rfl, h0⟩ | ⟨b, cap, cur, rfl, -⟩
  · exact ⟨none, 0, by rw [h0]⟩
  · exact ⟨_, _, rfl⟩
theorem CpK.keep {w w' : World} {lo : Nat} {S S' : Nat → Prop} {g : List Ce} {o o' : List Nat} {i j blk : Nat} {kv : Value} (h : CpK w lo S g o i j blk kv) (hS : ∀ k, S k → k < w.heap.size → S' k) (hb : ∀ k C, S k → k < w.heap.size → w.heap[k]? = some (.cells C 3 (0, 0)) → w'.heap[k]? = w.heap[k]?) (hl : ∀ k, k < lo → w'.heap[k]? = w.heap[k]?)
    (ho : o'.getD j 0 = o.getD j 0) (hp : j < i → ∀ k ∈ kidsN g (o.getD j 0), posN o' k = posN o k) : CpK w' lo S' g o' i j blk kv := by
  refine ⟨fun hj => ?_, fun hj => ?_⟩
  · rw [ho]
    have e : (kidsN g (o.getD j 0)).map (fun k => (posN o' k : Int)) = (kidsN g (o.getD j 0)).map (fun k => (posN o k : Int)) := List.map_congr_left fun k hk => by rw [hp hj k hk]
    rw [e]
    exact (h.1 hj).keep hS fun C h1 h2 h3 => hb _ C h1 h2 h3
  · rw [ho]
    exact (h.2 hj).mono (fun _ hk => hk) fun k hk => hl k hk
theorem CpG.next {w w' : World} {lo : Nat} {S S' : Nat → Prop} {g : List Ce} {o : List Nat} {i : Nat} {v : Value} (h : CpG w lo S g o i v) (hS : ∀ k, S k → k < w.heap.size → S' k) (hr : ∀ k, some k = v.ownBlock → k < w.heap.size → w'.heap[k]? = w.heap[k]?) (hb : ∀ k C, S k → k < w.heap.size → w.heap[k]? = some (.cells C 3 (0, 0)) → w'.heap[k]? = w.heap[k]?) (hl : ∀ k, k < lo → w'.heap[k]? = w.heap[k]?) : CpG w' lo S' g o i v := by
  obtain ⟨xs, kb, h1, h2, h3⟩ := h
  refine ⟨xs, kb, ⟨h1.1, ?_⟩, fun j hj => ?_, h3⟩
  · rcases h1.2 with h | ⟨b, cap, cur, rfl, hg, hh, r⟩
    · exact Or.inl h
    · exact Or.inr ⟨b, cap, cur, rfl, hg, (hr b rfl (Array.getElem?_eq_some_iff.1 hh).1).trans hh, r⟩
  · obtain ⟨i1, i2, kv, e0, e1, e2, e3⟩ := h2 j hj
    exact ⟨i1, i2, kv, e0, e1, e2, e3.keep hS hb hl rfl fun _ _ _ => rfl⟩
theorem getD_snoc {o : List Nat} {a j : Nat} (h : j < o.length) : (o ++ [a]).getD j 0 = o.getD j 0 := by
  rw [List.getD_eq_getElem?_getD, List.getD_eq_getElem?_getD, List.getElem?_append_left h]
theorem getD_last (o : List Nat) (a : Nat) : (o ++ [a]).getD o.length 0 = a := by simp
/-- one copy more -/
theorem CpG.grow {w w' : World} {lo : Nat} {S : Nat → Prop} {g : List Ce} {o : List Nat} {i a : Nat} {v v' kv : Value} {xs : List Value} (h : CpG w lo S g o i v) (hi : i ≤ o.length) (hcl : ∀ j, j < i → ∀ k ∈ kidsN g (o.getD j 0), k ∈ o)
    (h64 : I64 (opAt g a) ∧ I64 (numAt g a)) (hk : IntsOn w' (Lt lo) (plI (kidsN g a)) kv) (hx : w.ownsRow lo 93 3 v o.length xs) (hown : w'.ownsRow lo 93 3 v' (o.length + 1) (xs ++ [.int .i64 (opAt g a), .int .i64 (numAt g a), kv]))
    (hb : ∀ k C, S k → k < w.heap.size → w.heap[k]? = some (.cells C 3 (0, 0)) → w'.heap[k]? = w.heap[k]?) (hl : ∀ k, k < lo → w'.heap[k]? = w.heap[k]?) : CpG w' lo S g (o ++ [a]) i v' := by
  obtain ⟨xs2, kb, h1, h2, h3⟩ := h
  obtain rfl := own_uniq hx h1
  have hlen := hx.1
  refine ⟨xs ++ [.int .i64 (opAt g a), .int .i64 (numAt g a), kv], kb, by simpa using hown, fun j hj => ?_, fun x y hx1 hy1 _ _ hne ex ey => ?_⟩
  · by_cases hjl : j < o.length
    · obtain ⟨i1, i2, kv', e0, e1, e2, e3⟩ := h2 j hjl
      rw [getD_snoc hjl]
      refine ⟨i1, i2, kv', ?_, ?_, ?_, ?_⟩
      · rw [List.getElem?_append_left (by omega)]; exact e0
      · rw [List.getElem?_append_left (by omega)]; exact e1
      · rw [List.getElem?_append_left (by omega)]; exact e2
      · exact e3.keep (fun _ h _ => h) hb hl (getD_snoc hjl) fun hji k hk => posN_app _ _ _ (hcl j hji k hk)
    · have hj' : j = o.length := by simp at hj; omega
      subst hj'
      rw [getD_last]
      refine ⟨h64.1, h64.2, kv, ?_, ?_, ?_, fun hj => absurd hj (by omega), fun _ => by rw [getD_last]; exact hk⟩
      · rw [List.getElem?_append_right (by omega)]; simp [hlen]
      · rw [List.getElem?_append_right (by omega)]; simp [hlen]
      · rw [List.getElem?_append_right (by omega)]; simp [hlen]
  · rw [getD_snoc (by omega)] at ex ey
    exact h3 x y hx1 hy1 (by omega) (by omega) hne ex ey
/-- copy i is scanned -/
theorem CpG.scan {w : World} {lo : Nat} {S : Nat → Prop} {g : List Ce} {o : List Nat} {i b cap blk : Nat} {kv : Value} (h : CpG w lo S g o i (.slice (some ⟨b, 0, none⟩) o.length cap)) (hi : i < o.length)
    (hk : KRowS w (fun x => x = blk) ((kidsN g (o.getD i 0)).map fun k => (posN o k : Int)) blk kv) (hS : ¬ S blk) : CpG (w.setCell ⟨b, i * 3 + 2, none⟩ kv) lo (fun x => S x ∨ x = blk) g o (i + 1) (.slice (some ⟨b, 0, none⟩) o.length cap) := by
  obtain ⟨xs, kb, h1, h2, h3⟩ := h
  have hx1 := (h1.stored (i * 3 + 2) kv).1
  have hlen := h1.1
  have hbl : lo ≤ b := own_block h1 rfl
  have keep : ∀ (k : Nat) (C : Array Value), w.heap[k]? = some (.cells C 3 (0, 0)) → (w.setCell ⟨b, i * 3 + 2, none⟩ kv).heap[k]? = w.heap[k]? := fun k C hC => Below.heap_setCell _ _ _ _ fun e => cellrow_ne h1 hC (by simp only [Value.ownBlock, Option.some.injEq]; exact e)
  have keepl : ∀ k, k < lo → (w.setCell ⟨b, i * 3 + 2, none⟩ kv).heap[k]? = w.heap[k]? := fun k hk => Below.heap_setCell _ _ _ _ (by show k ≠ b; omega)
  refine ⟨xs.set (i * 3 + 2) kv, fun j => if j = i then blk else kb j, hx1, fun j hj => ?_, fun x y hx1 hy1 hxl hyl hne ex ey => ?_⟩
  · obtain ⟨i1, i2, kv', e0, e1, e2, e3⟩ := h2 j hj
    by_cases hji : j = i
    · subst hji
      refine ⟨i1, i2, kv, ?_, ?_, ?_, fun _ => ?_, fun hn => absurd hn (by omega)⟩
      · rw [List.getElem?_set_ne (by omega)]; exact e0
      · rw [List.getElem?_set_ne (by omega)]; exact e1
      · rw [List.getElem?_set_self (by omega)]
      · simp only [if_pos]
        exact hk.keep (fun k hk _ => Or.inr hk) fun C _ _ hC => keep _ C hC
    · refine ⟨i1, i2, kv', ?_, ?_, ?_, ?_⟩
      · rw [List.getElem?_set_ne (by omega)]; exact e0
      · rw [List.getElem?_set_ne (by omega)]; exact e1
      · rw [List.getElem?_set_ne (by omega)]; exact e2
      · simp only [if_neg hji]
        have h4 : CpK (w.setCell ⟨b, i * 3 + 2, none⟩ kv) lo (fun x => S x ∨ x = blk) g o i j (kb j) kv' := e3.keep (fun k hk _ => Or.inl hk) (fun k C _ _ hC => keep k C hC) keepl rfl fun _ _ _ => rfl
        exact ⟨fun hj => h4.1 (by omega), fun hj => h4.2 (by omega)⟩
  · have ne : ∀ q, q < i → q < o.length → kidsN g (o.getD q 0) ≠ [] → kb q ≠ blk := by
      intro q hq hql hne e
      obtain ⟨-, -, kv', -, -, -, e3⟩ := h2 q hql
      obtain ⟨_, _, _, _, _, h5⟩ := e3.1 hq
      rcases h5 with h5 | ⟨f5, -, h6, -⟩
      · exact hne (by simpa using h5)
      · exact hS (e ▸ h6)
    by_cases hxi : x = i
    · have hyi : ¬ y = i := by omega
      simp only [if_pos hxi, if_neg hyi]
      exact (ne y (by omega) hyl ey).symm
    · by_cases hyi : y = i
      · simp only [if_neg hxi, if_pos hyi]
        exact ne x (by omega) hxl ex
      · simp only [if_neg hxi, if_neg hyi]
        exact h3 x y (by omega) (by omega) hxl hyl hne ex ey
/-- all are scanned -/
theorem CpG.done {w : World} {lo : Nat} {S : Nat → Prop} {g : List Ce} {o : List Nat} {i : Nat} {v : Value} (h : CpG w lo S g o i v) (hi : o.length ≤ i) : OwnC w lo S (o.map (cpCell g o)) v := by
  obtain ⟨xs, kb, h1, h2, h3⟩ := h
  have hat : ∀ j (hj : j < (o.map (cpCell g o)).length), (o.map (cpCell g o))[j] = cpCell g o (o.getD j 0) := fun j hj => by
    rw [List.length_map] at hj
    rw [List.getElem_map, getD_at _ _ _ hj]
  refine ⟨fun j hj => ?_, xs, kb, by rw [List.length_map]; exact h1, fun j hj => ?_, fun a b ha hb hne ea eb => ?_⟩
  · rw [hat j hj]
    rw [List.length_map] at hj
    obtain ⟨i1, i2, -⟩ := h2 j hj
    exact ⟨i1, i2⟩
  · rw [hat j hj]
    rw [List.length_map] at hj
    obtain ⟨i1, i2, kv, e0, e1, e2, e3⟩ := h2 j hj
    exact ⟨kv, e0, e1, e2, e3.1 (by omega)⟩
  · rw [hat a ha] at ea
    rw [hat b hb] at eb
    rw [List.length_map] at ha hb
    exact h3 a b (by omega) (by omega) ha hb hne (by simpa [cpCell] using ea) (by simpa [cpCell] using eb)
end Go.Proofs.YtiipcgnkfhjpeaaGreatDoor
/-
  A MAP FROM PLACES TO PLACES: the places of a list.
-/
namespace Go.Proofs.YtiipcgnkfhjpeaaGreatDoor
set_option linter.unusedVariables false
set_option linter.unusedSimpArgs false
open Go.RowKit Go.Maps

theorem keyedI : Keyed Tryz.prog 3 := int_keyed Tryz.underlying3
theorem zeroI (w : World) : (zeroValue 3).run Tryz.prog w = .ok (.int .i64 0) w := by kernel_rfl
theorem litI_wf (x : Nat) (h : x ≤ 1048576) : (Lit.int .i64 (x : Int)).wf = true := by
  simp only [Lit.wf, IntKind.min, IntKind.max, IntKind.signed, IntKind.bits, Bool.and_eq_true, decide_eq_true_eq, if_true]
  omega
theorem litI_ne {a b : Nat} (h : a ≠ b) : Lit.int .i64 (a : Int) ≠ Lit.int .i64 (b : Int) := by
  intro e
  simp only [Lit.int.injEq] at e
  omega
/-- block M is a map that holds the place of each cell of a list, and nothing else -/
def MapN (w : World) (M : Nat) (o : List Nat) : Prop :=
  ∃ (n : Nat) (D : DataW Unit), w.ownsMap Tryz.prog 3 (plainElem Tryz.prog 3) M n D ∧ n ≤ o.length ∧ ∀ x : Nat, x ≤ 1048576 → has D (.int .i64 (x : Int)) = memB o x ∧ (x ∈ o → D.atKey (.int .i64 (x : Int)) (.lit (.int .i64 0)) = .lit (.int .i64 (posN o x : Int)))
theorem MapN.made (w : World) : MapN (w.alloc (.map #[] 0)) w.heap.size [] := ⟨0, _, World.ownsMap_made w _ _ _, Nat.le_refl _, fun x _ => ⟨by simp [has, memB], fun h => by simp at h⟩⟩
theorem MapN.lt {w : World} {M : Nat} {o : List Nat} (h : MapN w M o) : M < w.heap.size := by obtain ⟨n, D, h1, -⟩ := h; exact h1.lt
theorem MapN.of_block {w w' : World} {M : Nat} {o : List Nat} (h : MapN w M o) (hb : w'.heap[M]? = w.heap[M]?) : MapN w' M o := by
  obtain ⟨n, D, ⟨es, clock, h1, h2⟩, h3⟩ := h
  exact ⟨n, D, ⟨es, clock, hb.trans h1, h2⟩, h3⟩
/-- it is no row -/
theorem MapN.ne_row {w : World} {M : Nat} {o : List Nat} (h : MapN w M o) {b : Nat} {C : Array Value} {T : TypeId} (hb : w.heap[b]? = some (.cells C T)) : b ≠ M := by
  intro e
  subst e
  obtain ⟨n, D, ⟨es, clock, h1, h2⟩, h3⟩ := h
  rw [h1] at hb
  cases hb
theorem keyLitI (x : Nat) : WideAt.IsKeyLit (Lit.int .i64 (x : Int)) := by simp [WideAt.IsKeyLit]
theorem mapN_put {w : World} {M n : Nat} {o : List Nat} {D : DataW Unit} {x : Nat} (h : w.ownsMap Tryz.prog 3 (plainElem Tryz.prog 3) M (n + 1) (D.put (.int .i64 (x : Int)) (.lit (.int .i64 (o.length : Int))))) (hm : IsMap D) (hn : n ≤ o.length)
    (hs : ∀ x : Nat, x ≤ 1048576 → has D (.int .i64 (x : Int)) = memB o x ∧ (x ∈ o → D.atKey (.int .i64 (x : Int)) (.lit (.int .i64 0)) = .lit (.int .i64 (posN o x : Int)))) (hx : x ∉ o) : MapN w M (o ++ [x]) := by
  refine ⟨n + 1, _, h, by simp; omega, fun y hy => ?_⟩
  by_cases e : y = x
  · subst e
    refine ⟨?_, fun _ => ?_⟩
    · rw [has_put_same hm (keyLitI y)]; simp [memB]
    · rw [atKey_put_same hm (keyLitI y), posN_snoc o y hx]
  · have hne : Lit.int .i64 (y : Int) ≠ Lit.int .i64 (x : Int) := litI_ne e
    refine ⟨?_, fun hy2 => ?_⟩
    · rw [has_put_other hne, (hs y hy).1]; simp [memB, e]
    · have hyo : y ∈ o := by
        rcases List.mem_append.1 hy2 with h | h
        · exact h
        · exact absurd (by simpa using h) e
      rw [atKey_put_other hne, (hs y hy).2 hyo, posN_app _ _ _ hyo]
end Go.Proofs.YtiipcgnkfhjpeaaGreatDoor
