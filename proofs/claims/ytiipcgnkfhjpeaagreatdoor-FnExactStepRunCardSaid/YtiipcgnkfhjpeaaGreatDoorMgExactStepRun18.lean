/-
  PLAIN: what the functions on runs answer. No program is named here.
-/
import Derived.Test.YtiipcgnkfhjpeaaGreatDoorMgExactStepRun17
import Derived.Test.YtiipcgnkfhjpeaaGreatDoorMgExactStepRun4
import Derived.Lib.SmallJoins
import Derived.Test.YtiipcgnkfhjpeaaGreatDoorMgExactStepRun1
import Derived.Test.YtiipcgnkfhjpeaaGreatDoorProg
import Derived.LaidEql
import Derived.Stop.Asserts
import Derived.RowKitTokens
import Derived.Test.YtiipcgnkfhjpeaaGreatDoorRows
import Derived.ChangeSame
import Derived.ChangeVars
import Derived.JoinedOf
import Derived.RowKit
import Derived.LaidLaws
import Derived.LaidHandle
import Derived.Stop.LaidErr
import Derived.Test.YtiipcgnkfhjpeaaGreatDoorMgExactStepRun11
namespace Go.Proofs.YtiipcgnkfhjpeaaGreatDoor
set_option linter.unusedVariables false
set_option linter.unusedSimpArgs false

/-- the fields of a run whose root is any number -/
def rnA (gv : Value) (a : Int) (x : Rn) : Array Value := #[gv, .int .i64 a, .int .i64 x.steps, .int .i64 x.moved, .int .i64 x.peak, .int .i64 x.ticks, .int .i64 x.rounds]
/-- no run -/
def rnZ : Rn := ⟨[], 0, 0, 0, 0, 0, 0⟩
def btB (n m : Int) : Bool := decide (0 ≤ n ∧ n ≤ m)
/-- are its numbers small? -/
def Rn.Sm (x : Rn) : Prop := (0 ≤ x.steps ∧ x.steps ≤ 1000) ∧ (0 ≤ x.moved ∧ x.moved ≤ 1000000) ∧ (0 ≤ x.peak ∧ x.peak ≤ 400) ∧ (0 ≤ x.ticks ∧ x.ticks ≤ 1000) ∧ (0 ≤ x.rounds ∧ x.rounds ≤ 1000)
def rvB (ds : List Df) (x : Rn) (a : Int) : Bool := rightB ds x.g a && (btB x.steps 1000 && (btB x.ticks 1000 && (btB x.rounds 1000 && (btB x.moved 1000000 && btB x.peak 400))))
theorem rvB_iff {ds : List Df} {x : Rn} {a : Int} : rvB ds x a = true ↔ rightB ds x.g a = true ∧ x.Sm := by
  unfold rvB btB Rn.Sm
  simp only [Bool.and_eq_true, decide_eq_true_eq]
  exact ⟨fun ⟨h1, h2, h3, h4, h5, h6⟩ => ⟨h1, h2, h5, h6, h3, h4⟩, fun ⟨h1, h2, h5, h6, h3, h4⟩ => ⟨h1, h2, h3, h4, h5, h6⟩⟩
theorem rvB_no {ds : List Df} {x : Rn} {a : Int} (h : ¬ x.Sm) : rvB ds x a = false := by
  rw [Bool.eq_false_iff]; intro h2; exact h (rvB_iff.1 h2).2
theorem rvB_noR {ds : List Df} {x : Rn} {a : Int} (h : rightB ds x.g a = false) : rvB ds x a = false := by unfold rvB; rw [h]; rfl
theorem rvB_of {ds : List Df} {x : Rn} {a : Int} (h : x.Sm) : rvB ds x a = rightB ds x.g a := by
  cases hr : rightB ds x.g a with
  | false => exact rvB_noR hr
  | true => exact rvB_iff.2 ⟨hr, h⟩
/-- has a run room for a tick? -/
def ctB (ds : List Df) (x : Rn) (a : Int) : Bool := rvB ds x a && decide (x.steps ≤ 900 ∧ x.rounds ≤ 900 ∧ x.moved ≤ 900000)
theorem ctB_iff {ds : List Df} {x : Rn} {a : Int} : ctB ds x a = true ↔ rvB ds x a = true ∧ x.steps ≤ 900 ∧ x.rounds ≤ 900 ∧ x.moved ≤ 900000 := by unfold ctB; simp
theorem ctB_no {ds : List Df} {x : Rn} {a : Int} (h : ¬ (x.steps ≤ 900 ∧ x.rounds ≤ 900 ∧ x.moved ≤ 900000)) : ctB ds x a = false := by
  rw [Bool.eq_false_iff]; intro h2; exact h (ctB_iff.1 h2).2
theorem ctB_noR {ds : List Df} {x : Rn} {a : Int} (h : rvB ds x a = false) : ctB ds x a = false := by unfold ctB; rw [h]; rfl
def Rn.at (x : Rn) (a : Int) : Rn := { x with root := a.toNat }
theorem ctB_ok {ds : List Df} {x : Rn} {a : Int} (h : ctB ds x a = true) : progB ds = true ∧ (x.at a).Ok ds ∧ (x.at a).Bd 800000000 ∧ ((x.at a).root : Int) = a ∧ (x.at a).rounds ≤ 900 := by
  obtain ⟨h1, h2, h3, h4⟩ := ctB_iff.1 h
  obtain ⟨h5, h6⟩ := rvB_iff.1 h1
  obtain ⟨p1, p2, p3, p4⟩ := right_parts h5
  unfold Rn.Sm at h6
  have e : ((a.toNat : Nat) : Int) = a := by omega
  refine ⟨p1, ⟨p2, ?_⟩, ⟨⟨h6.1.1, ?_⟩, ⟨h6.2.1.1, ?_⟩, ⟨h6.2.2.1.1, ?_⟩, ⟨h6.2.2.2.1.1, ?_⟩, ⟨h6.2.2.2.2.1, ?_⟩⟩, e, h3⟩
  · show a.toNat < x.g.length; omega
  · show x.steps ≤ _; omega
  · show x.moved ≤ _; omega
  · show x.peak ≤ _; omega
  · show x.ticks ≤ _; omega
  · show x.rounds ≤ _; omega
/-- what StepRun answers -/
noncomputable def sRun (ds : List Df) (x : Rn) (a limit : Int) (tidy : Bool) : Rn × Nat :=
  if ctB ds x a = true ∧ btB limit 400 = true then (if (x.at a).val ds = true then (x.at a, 0) else (x.at a).tick ds limit tidy) else (rnZ, 4)
theorem graph_small {g : List Ce} {defs : Int} (hg : graphB g defs = true) : g.length + sumK g ≤ 2000 := by
  have h4 := graphB_len hg
  have h3 := kidsSum_le3 g fun c hc => by
    obtain ⟨i, hi, rfl⟩ := List.getElem_of_mem hc
    exact (kids_graph hg i hi).1
  omega
theorem rnZ_small : rnZ.g.length + sumK rnZ.g ≤ 2000 := by simp [rnZ, sumK]
theorem sRun_small (ds : List Df) (x : Rn) (a limit : Int) (tidy : Bool) : (sRun ds x a limit tidy).1.g.length + sumK (sRun ds x a limit tidy).1.g ≤ 2000 := by
  unfold sRun
  split
  · rename_i h
    obtain ⟨hp, ho, -⟩ := ctB_ok h.1
    split
    · exact graph_small ho.1
    · exact graph_small (ho.tick hp limit tidy).1
  · exact rnZ_small
end Go.Proofs.YtiipcgnkfhjpeaaGreatDoor
/-
  AN ARGUMENT OF TYPE laws.Run, OPENED.
-/
namespace Go.Proofs.YtiipcgnkfhjpeaaGreatDoor
set_option linter.unusedVariables false
set_option linter.unusedSimpArgs false
open Go.ChangeShapes Go.WideShapes Go.ChangeAt Go.RowKit

theorem array7 {α : Type} {cs : Array α} (h : cs.size = 7) : ∃ c0 c1 c2 c3 c4 c5 c6, cs = #[c0, c1, c2, c3, c4, c5, c6] := by
  obtain ⟨l⟩ := cs
  match l, h with
  | [c0, c1, c2, c3, c4, c5, c6], _ => exact ⟨c0, c1, c2, c3, c4, c5, c6, rfl⟩
section
variable {H : Type} {enc : TypeId × Value → H} {P : Program} {w : World} {base : Nat} {spare : Nat → Bool} {held : Bool}
/-- a struct of seven fields of one cell each: each field's cell, with its reading -/
theorem open_seven {r : Go.Reach} {b0 : Nat} {t : TypeId} {f0 f1 f2 f3 f4 f5 f6 : Field} {v : Value} {d : DataW H} {p : List MemPlace} (hs : P.underlying t = some (.struct #[f0, f1, f2, f3, f4, f5, f6])) (hone : Deep.oneCellFields P #[f0, f1, f2, f3, f4, f5, f6] = true) (hC : P.cellsOf t = 7)
    (hv : Value.okWide P w r b0 t v) (h : DataW.Trod enc P w base spare held t v d p) :
    ∃ (v0 v1 v2 v3 v4 v5 v6 : Value) (y0 y1 y2 y3 y4 y5 y6 : DataW H × List MemPlace) (n : Nat), v = .agg #[v0, v1, v2, v3, v4, v5, v6] ∧
      DataW.trod enc P w base spare held n f0.type [v0] = some y0 ∧ DataW.trod enc P w base spare held n f1.type [v1] = some y1 ∧ DataW.trod enc P w base spare held n f2.type [v2] = some y2 ∧ DataW.trod enc P w base spare held n f3.type [v3] = some y3 ∧ DataW.trod enc P w base spare held n f4.type [v4] = some y4 ∧ DataW.trod enc P w base spare held n f5.type [v5] = some y5 ∧ DataW.trod enc P w base spare held n f6.type [v6] = some y6 := by
  obtain ⟨cs, rfl, hsz⟩ := okWide_struct hs hv
  obtain ⟨c0, c1, c2, c3, c4, c5, c6, rfl⟩ := array7 (hsz.trans hC)
  obtain ⟨fuel, hf⟩ := h
  obtain ⟨xs, n, _, -, hl, hlen, hF⟩ := DataW.trod_struct hs hf
  match xs, hlen with
  | [y0, y1, y2, y3, y4, y5, y6], _ =>
    obtain ⟨o0, k0⟩ := Deep.hone_of hone 0 f0 rfl
    obtain ⟨o1, k1⟩ := Deep.hone_of hone 1 f1 rfl
    obtain ⟨o2, k2⟩ := Deep.hone_of hone 2 f2 rfl
    obtain ⟨o3, k3⟩ := Deep.hone_of hone 3 f3 rfl
    obtain ⟨o4, k4⟩ := Deep.hone_of hone 4 f4 rfl
    obtain ⟨o5, k5⟩ := Deep.hone_of hone 5 f5 rfl
    obtain ⟨o6, k6⟩ := Deep.hone_of hone 6 f6 rfl
    have h0 : DataW.trod enc P w base spare held n f0.type [c0] = some y0 := by simpa [Value.cells, o0, k0] using hF 0 f0 rfl
    have h1 : DataW.trod enc P w base spare held n f1.type [c1] = some y1 := by simpa [Value.cells, o1, k1] using hF 1 f1 rfl
    have h2 : DataW.trod enc P w base spare held n f2.type [c2] = some y2 := by simpa [Value.cells, o2, k2] using hF 2 f2 rfl
    have h3 : DataW.trod enc P w base spare held n f3.type [c3] = some y3 := by simpa [Value.cells, o3, k3] using hF 3 f3 rfl
    have h4 : DataW.trod enc P w base spare held n f4.type [c4] = some y4 := by simpa [Value.cells, o4, k4] using hF 4 f4 rfl
    have h5 : DataW.trod enc P w base spare held n f5.type [c5] = some y5 := by simpa [Value.cells, o5, k5] using hF 5 f5 rfl
    have h6 : DataW.trod enc P w base spare held n f6.type [c6] = some y6 := by simpa [Value.cells, o6, k6] using hF 6 f6 rfl
    exact ⟨c0, c1, c2, c3, c4, c5, c6, y0, y1, y2, y3, y4, y5, y6, n, rfl, h0, h1, h2, h3, h4, h5, h6⟩
end
section
variable {H : Type} {enc : TypeId × Value → H} {w : World} {base : Nat} {spare : Nat → Bool} {held : Bool}
/-- its numbers fit Go's int -/
def rn64 (a : Int) (x : Rn) : Prop := I64 a ∧ I64 x.steps ∧ I64 x.moved ∧ I64 x.peak ∧ I64 x.ticks ∧ I64 x.rounds
set_option maxRecDepth 100000 in
theorem open_lawRun {r : Go.Reach} {b0 : Nat} {v : Value} {d : DataW H} {p : List MemPlace} (hv : Value.okWide Tryz.prog w r b0 25 v) (h : DataW.Trod enc Tryz.prog w base spare held 25 v d p) :
    ∃ (x : Rn) (a : Int) (c : Value), v = .agg (rnA c a x) ∧ CIn w x.g c ∧ rn64 a x := by
  obtain ⟨v0, v1, v2, v3, v4, v5, v6, y0, y1, y2, y3, y4, y5, y6, n, rfl, g0, g1, g2, g3, g4, g5, g6⟩ := open_seven Tryz.underlying25 (by kernel_rfl) (by kernel_rfl) hv h
  obtain ⟨g, hg⟩ := trod_lawCells n v0 y0 g0
  obtain ⟨m1, e1, _, w1⟩ := DataW.trod_int Tryz.underlying3 g1
  obtain ⟨m2, e2, _, w2⟩ := DataW.trod_int Tryz.underlying3 g2
  obtain ⟨m3, e3, _, w3⟩ := DataW.trod_int Tryz.underlying3 g3
  obtain ⟨m4, e4, _, w4⟩ := DataW.trod_int Tryz.underlying3 g4
  obtain ⟨m5, e5, _, w5⟩ := DataW.trod_int Tryz.underlying3 g5
  obtain ⟨m6, e6, _, w6⟩ := DataW.trod_int Tryz.underlying3 g6
  simp only [List.cons.injEq, and_true] at e1 e2 e3 e4 e5 e6
  exact ⟨⟨g, 0, m2, m3, m4, m5, m6⟩, m1, v0, by rw [e1, e2, e3, e4, e5, e6]; rfl, hg, bounds_i64 w1, bounds_i64 w2, bounds_i64 w3, bounds_i64 w4, bounds_i64 w5, bounds_i64 w6⟩
end
end Go.Proofs.YtiipcgnkfhjpeaaGreatDoor
/-
  errors.Is OVER SENTINELS: Go's own text, walked once; and the program's codeOf.
-/
namespace Go.Proofs.YtiipcgnkfhjpeaaGreatDoor
set_option linter.unusedVariables false
set_option linter.unusedSimpArgs false
open Go.RowKit Go.Extern.Stop Go.Stop Go.Extern

theorem isTypeOf (v : Value) (w : World) : (Extern.ReflectliteType.typeOf #[.iface 192 v]).run Tryz.prog w = .ok (.iface 150 (.agg #[.pointer (some ⟨3, 192, none⟩)])) w := by kernel_rfl
theorem isComparable (w : World) : (callFunc 166 #[.agg #[.pointer (some ⟨3, 192, none⟩)]]).run Tryz.prog w = .ok (Next.value (.bool true)) w := by kernel_rfl
theorem isMethodComparable (v : Value) (w : World) : (Go.method 353 150 v "Comparable").run Tryz.prog w = .ok (166, v) w := by kernel_rfl
theorem isComp : (Tryz.prog.info? 192).map (·.comparable) = some true := by kernel_rfl
theorem isSize : (Tryz.prog.info? 240).map (·.size) = some 1 := by kernel_rfl
theorem noIsE (v : Value) (xT : TypeId) (w : World) : (Instr.typeAssert (.iface 192 v) xT 152 true).run Tryz.prog w = .ok (.tuple #[.nilIface, .bool false]) w := run_typeAssert_lacksB Tryz.underlying152 (by kernel_rfl) (by kernel_rfl) v xT w
theorem noUnwrapE (v : Value) (xT : TypeId) (w : World) : (Instr.typeAssert (.iface 192 v) xT 155 true).run Tryz.prog w = .ok (.tuple #[.nilIface, .bool false]) w := run_typeAssert_lacksB Tryz.underlying155 (by kernel_rfl) (by kernel_rfl) v xT w
theorem noUnwrapsE (v : Value) (xT : TypeId) (w : World) : (Instr.typeAssert (.iface 192 v) xT 156 true).run Tryz.prog w = .ok (.tuple #[.nilIface, .bool false]) w := run_typeAssert_lacksB Tryz.underlying156 (by kernel_rfl) (by kernel_rfl) v xT w

/-- errors.Is(x, x) -/
theorem is_same (a : Addr) (w : World) :
    Calls Tryz.prog 61 #[.iface 192 (.pointer (some a)), .iface 192 (.pointer (some a))] w fun e w' => e = .returned (.bool true) ∧ w' = w := by
  obtain ⟨i, hi, hcmp⟩ := Option.map_eq_some_iff.1 isComp
  obtain ⟨j, hj, hjs⟩ := Option.map_eq_some_iff.1 isSize
  have h8 := @run_callFunc_extern Tryz.prog 84 _ Extern.ReflectliteType.typeOf Tryz.func84 (by kernel_rfl) (by kernel_rfl) (by kernel_rfl) (by kernel_rfl)
  have tT := isTypeOf
  have cT := isComparable
  have mR := isMethodComparable
  have heq := run_eql_iface_ptr_same (P := Tryz.prog) w a Tryz.underlying71 Tryz.underlying192 hi hcmp hj
  go_enter Tryz.func61, Tryz.ntmps61
  go_wp2
  refine wp_loop_rounds 1 ?_
  rw [rounds_succ]
  go_wp2
  go_ret
  exact ⟨rfl, rfl⟩

/-- errors.Is(x, y), two different sentinels -/
theorem is_other (a b : Addr) (ca cb : Array Value) (ta tb : TypeId) (w : World) (hne : a ≠ b) (ha : w.heap[a.block]? = some (.cells ca ta (0, 0))) (hb : w.heap[b.block]? = some (.cells cb tb (0, 0))) :
    Calls Tryz.prog 61 #[.iface 192 (.pointer (some a)), .iface 192 (.pointer (some b))] w fun e w' => e = .returned (.bool false) ∧ w' = w := by
  obtain ⟨i, hi, hcmp⟩ := Option.map_eq_some_iff.1 isComp
  obtain ⟨j, hj, hjs⟩ := Option.map_eq_some_iff.1 isSize
  have h8 := @run_callFunc_extern Tryz.prog 84 _ Extern.ReflectliteType.typeOf Tryz.func84 (by kernel_rfl) (by kernel_rfl) (by kernel_rfl) (by kernel_rfl)
  have tT := isTypeOf
  have cT := isComparable
  have mR := isMethodComparable
  have nE := noIsE
  have uE := noUnwrapE
  have vE := noUnwrapsE
  have heq := run_eql_iface_ptr_other (P := Tryz.prog) w Tryz.underlying71 Tryz.underlying192 hi hcmp hj (by rw [hjs]; decide) hne ha hb
  go_enter Tryz.func61, Tryz.ntmps61
  go_wp2
  refine wp_loop_rounds 1 ?_
  rw [rounds_succ]
  go_wp2
  go_ret
  exact ⟨rfl, rfl⟩

/-! ### The sentinels -/
/-- three sentinels, each in memory of its own -/
structure Errs (aF aS aL : Addr) (w : World) : Prop where
  cF : w.cell? ⟨1, 0, none⟩ = some (.iface 192 (.pointer (some aF)))
  cS : w.cell? ⟨2, 0, none⟩ = some (.iface 192 (.pointer (some aS)))
  cL : w.cell? ⟨0, 0, none⟩ = some (.iface 192 (.pointer (some aL)))
  bF : ∃ c t, w.heap[aF.block]? = some (.cells c t (0, 0))
  bS : ∃ c t, w.heap[aS.block]? = some (.cells c t (0, 0))
  bL : ∃ c t, w.heap[aL.block]? = some (.cells c t (0, 0))
  nFS : aF ≠ aS
  nFL : aF ≠ aL
  nSL : aS ≠ aL
theorem blk_next {w w' : World} (hb : Below w.heap.size w w') {b : Nat} (h : ∃ c t, w.heap[b]? = some (.cells c t (0, 0))) : ∃ c t, w'.heap[b]? = some (.cells c t (0, 0)) := by
  obtain ⟨c, t, h⟩ := h
  exact ⟨c, t, (hb.block _ (Array.getElem?_eq_some_iff.1 h).1).trans h⟩
theorem Errs.next {aF aS aL : Addr} {w w' : World} (h : Errs aF aS aL w) (hb : Below w.heap.size w w') : Errs aF aS aL w' :=
  ⟨(hb.cell (cell_lt h.cF)).trans h.cF, (hb.cell (cell_lt h.cS)).trans h.cS, (hb.cell (cell_lt h.cL)).trans h.cL, blk_next hb h.bF, blk_next hb h.bS, blk_next hb h.bL, h.nFS, h.nFL, h.nSL⟩
/-- the value of an error with a code -/
def errV (aF aS aL : Addr) (k : Nat) : Value := if k = 0 then .nilIface else if k = 1 then .iface 192 (.pointer (some aF)) else if k = 2 then .iface 192 (.pointer (some aS)) else .iface 192 (.pointer (some aL))

set_option maxHeartbeats 800000 in
theorem codeOf_nil (w : World) : Calls Tryz.prog 37 #[.nilIface] w fun e w' => e = .returned (.int .i64 0) ∧ w' = w := by
  go_enter Tryz.func37, Tryz.ntmps37
  go_wp2_with fail
  go_ret
  exact ⟨rfl, rfl⟩
set_option maxHeartbeats 800000 in
theorem codeOf_fuel (aF aS aL : Addr) (w : World) (h : Errs aF aS aL w) : Calls Tryz.prog 37 #[.iface 192 (.pointer (some aF))] w fun e w' => e = .returned (.int .i64 1) ∧ w' = w := by
  have cF := h.cF
  clear h
  go_enter Tryz.func37, Tryz.ntmps37
  go_wp2_with fail
  refine (is_same aF _).mono ?_
  rintro e w' ⟨rfl, rfl⟩
  go_wp2_with fail
  go_ret
  exact ⟨rfl, rfl⟩
set_option maxHeartbeats 800000 in
theorem codeOf_stuck (aF aS aL : Addr) (w : World) (h : Errs aF aS aL w) : Calls Tryz.prog 37 #[.iface 192 (.pointer (some aS))] w fun e w' => e = .returned (.int .i64 2) ∧ w' = w := by
  have cF := h.cF
  have cS := h.cS
  obtain ⟨ca, ta, ha⟩ := h.bF
  obtain ⟨cb, tb, hb⟩ := h.bS
  have HA := mkHid ha
  have HB := mkHid hb
  have HN := mkHid (Ne.symm h.nFS)
  clear h ha hb
  go_enter Tryz.func37, Tryz.ntmps37
  go_wp2_with fail
  refine (is_other aS aF cb ca tb ta _ HN.out HB.out HA.out).mono ?_
  rintro e w' ⟨rfl, rfl⟩
  go_wp2_with fail
  refine (is_same aS _).mono ?_
  rintro e w' ⟨rfl, rfl⟩
  go_wp2_with fail
  go_ret
  exact ⟨rfl, rfl⟩
set_option maxHeartbeats 800000 in
theorem codeOf_large (aF aS aL : Addr) (w : World) (h : Errs aF aS aL w) : Calls Tryz.prog 37 #[.iface 192 (.pointer (some aL))] w fun e w' => e = .returned (.int .i64 3) ∧ w' = w := by
  have cF := h.cF
  have cS := h.cS
  have cL := h.cL
  obtain ⟨ca, ta, ha⟩ := h.bF
  obtain ⟨cb, tb, hb⟩ := h.bS
  obtain ⟨cc, tc, hc⟩ := h.bL
  have HA := mkHid ha
  have HB := mkHid hb
  have HC := mkHid hc
  have HN := mkHid (Ne.symm h.nFL)
  have HM := mkHid (Ne.symm h.nSL)
  clear h ha hb hc
  go_enter Tryz.func37, Tryz.ntmps37
  go_wp2_with fail
  refine (is_other aL aF cc ca tc ta _ HN.out HC.out HA.out).mono ?_
  rintro e w' ⟨rfl, rfl⟩
  go_wp2_with fail
  refine (is_other aL aS cc cb tc tb _ HM.out HC.out HB.out).mono ?_
  rintro e w' ⟨rfl, rfl⟩
  go_wp2_with fail
  refine (is_same aL _).mono ?_
  rintro e w' ⟨rfl, rfl⟩
  go_wp2_with fail
  go_ret
  exact ⟨rfl, rfl⟩
/-- codeOf, of all of them -/
theorem codeOf_calls (aF aS aL : Addr) (k : Nat) (hk : k ≤ 3) (w : World) (h : Errs aF aS aL w) : Calls Tryz.prog 37 #[errV aF aS aL k] w fun e w' => e = .returned (.int .i64 (k : Int)) ∧ w' = w := by
  match k, hk with
  | 0, _ => exact codeOf_nil w
  | 1, _ => exact codeOf_fuel aF aS aL w h
  | 2, _ => exact codeOf_stuck aF aS aL w h
  | 3, _ => exact codeOf_large aF aS aL w h
end Go.Proofs.YtiipcgnkfhjpeaaGreatDoor
/-
  THE THREE SENTINELS errFuel, errStuck, errLarge: from the row's condition on what they read as to what the walks ask; a world that meets the condition.
-/
namespace Go.Proofs.YtiipcgnkfhjpeaaGreatDoor
set_option linter.unusedVariables false
set_option linter.unusedSimpArgs false
open Go.ChangeShapes Go.WideShapes Go.RowKit

theorem gF : Tryz.prog.globalNamed "loop.example/graphreducer/impl.errFuel" = some 1 := by kernel_rfl
theorem gS : Tryz.prog.globalNamed "loop.example/graphreducer/impl.errStuck" = some 2 := by kernel_rfl
theorem gL : Tryz.prog.globalNamed "loop.example/graphreducer/impl.errLarge" = some 0 := by kernel_rfl
theorem tyF : (Tryz.prog.globals[1]?).map (·.type) = some 71 := by kernel_rfl
theorem tyS : (Tryz.prog.globals[2]?).map (·.type) = some 71 := by kernel_rfl
theorem tyL : (Tryz.prog.globals[0]?).map (·.type) = some 71 := by kernel_rfl
theorem esCells : Tryz.prog.cellsOf 240 = 1 := by kernel_rfl
theorem strCells : Tryz.prog.cellsOf 9 = 1 := by kernel_rfl
theorem starE : "*" ++ "errors.errorString" = "*errors.errorString" := by decide
theorem rowE (u : TypeId) (h : Tryz.prog.typeName? 3 u = some "*errors.errorString") : u = 192 :=
  typeName_ptr_named (nm := "errors.errorString") (by rw [starE]; kernel_rfl) (by kernel_rfl) (by decide) u (by rw [starE]; exact h)

/-- what the row lists -/
def laid3 : List (String × DataW Unit) := [("loop.example/graphreducer/impl.errFuel", Rows.laid_loop_example_graphreducer_impl_errFuel), ("loop.example/graphreducer/impl.errStuck", Rows.laid_loop_example_graphreducer_impl_errStuck), ("loop.example/graphreducer/impl.errLarge", Rows.laid_loop_example_graphreducer_impl_errLarge)]
theorem noHandles3 : (laid3.filter fun x => x.2.handleName?.isSome) = [] := by kernel_rfl
theorem laid3_met {W : World} (h : laidMetH Tryz.prog laid3 W) : laidMet Tryz.prog laid3 W := by
  unfold laidMetH at h
  rw [noHandles3] at h
  exact h

/-- the three variables -/
structure Vars3 (aF aS aL : Addr) (W : World) : Prop where
  vF : W.var? Tryz.prog "loop.example/graphreducer/impl.errFuel" = some #[.iface 192 (.pointer (some aF))]
  vS : W.var? Tryz.prog "loop.example/graphreducer/impl.errStuck" = some #[.iface 192 (.pointer (some aS))]
  vL : W.var? Tryz.prog "loop.example/graphreducer/impl.errLarge" = some #[.iface 192 (.pointer (some aL))]
theorem var?_below {P : Program} {W W' : World} {n : String} {cs : Array Value} (h : W.var? P n = some cs) (hb : Below W.heap.size W W') : W'.var? P n = some cs := by
  unfold World.var? at h ⊢
  cases hg : P.globalNamed n with
  | none => simp [hg] at h
  | some g =>
    simp only [hg, Option.bind_some] at h ⊢
    have hlt : g < W.heap.size := by
      rcases Nat.lt_or_ge g W.heap.size with h' | h'
      · exact h'
      · simp [Array.getElem?_eq_none h'] at h
    rw [hb.block g hlt]
    exact h
theorem Vars3.next {aF aS aL : Addr} {W W' : World} (h : Vars3 aF aS aL W) (hb : Below W.heap.size W W') : Vars3 aF aS aL W' := ⟨var?_below h.vF hb, var?_below h.vS hb, var?_below h.vL hb⟩

set_option maxRecDepth 100000 in
theorem sents3 {W : World} (h : laidMetH Tryz.prog laid3 W) : ∃ aF aS aL : Addr, Vars3 aF aS aL W ∧ Errs aF aS aL W := by
  obtain ⟨ps, ⟨g0, t0, cs0, f0, p0, q0, hg0, ht0, hv0, hd0, ⟨g1, t1, cs1, f1, p1, q1, hg1, ht1, hv1, hd1, ⟨g2, t2, cs2, f2, p2, q2, hg2, ht2, hv2, hd2, hq2, e2⟩, e1⟩, e0⟩, hnd, hrows⟩ := laid3_met h
  obtain rfl := Option.some.inj (gF.symm.trans hg0)
  obtain rfl := Option.some.inj (gS.symm.trans hg1)
  obtain rfl := Option.some.inj (gL.symm.trans hg2)
  obtain rfl := Option.some.inj (tyF.symm.trans ht0)
  obtain rfl := Option.some.inj (tyS.symm.trans ht1)
  obtain rfl := Option.some.inj (tyL.symm.trans ht2)
  have hq2' : q2 = [] := hq2
  subst hq2'
  subst e2
  subst e1
  subst e0
  obtain ⟨l0⟩ := cs0
  obtain ⟨l1⟩ := cs1
  obtain ⟨l2⟩ := cs2
  have ok0 : ∀ u v, l0 = [.iface u v] → Value.okWide Tryz.prog W .any 0 u v := fun u v e => by
    subst e
    exact (hrows 1 0 (by simp [MemPlace.row])).2 u v (by simpa using World.var?_cell hg0 hv0 0)
  have ok1 : ∀ u v, l1 = [.iface u v] → Value.okWide Tryz.prog W .any 0 u v := fun u v e => by
    subst e
    exact (hrows 2 0 (by simp [MemPlace.row])).2 u v (by simpa using World.var?_cell hg1 hv1 0)
  have ok2 : ∀ u v, l2 = [.iface u v] → Value.okWide Tryz.prog W .any 0 u v := fun u v e => by
    subst e
    exact (hrows 0 0 (by simp [MemPlace.row])).2 u v (by simpa using World.var?_cell hg2 hv2 0)
  obtain ⟨a0, s0, rfl, hc0, hs0, hz0, rfl⟩ := errorString_of_trod Tryz.underlying71 rowE Tryz.underlying192 Tryz.underlying240 rfl rfl Tryz.underlying9 esCells strCells hd0 ok0
  obtain ⟨a1, s1, rfl, hc1, hs1, hz1, rfl⟩ := errorString_of_trod Tryz.underlying71 rowE Tryz.underlying192 Tryz.underlying240 rfl rfl Tryz.underlying9 esCells strCells hd1 ok1
  obtain ⟨a2, s2, rfl, hc2, hs2, hz2, rfl⟩ := errorString_of_trod Tryz.underlying71 rowE Tryz.underlying192 Tryz.underlying240 rfl rfl Tryz.underlying9 esCells strCells hd2 ok2
  have hb0 := (hrows a0.block a0.off (by simp [MemPlace.row])).1
  have hb1 := (hrows a1.block a1.off (by simp [MemPlace.row])).1
  have hb2 := (hrows a2.block a2.off (by simp [MemPlace.row])).1
  refine ⟨a0, a1, a2, ⟨hv0, hv1, hv2⟩, ⟨by simpa using World.var?_cell hg0 hv0 0, by simpa using World.var?_cell hg1 hv1 0, by simpa using World.var?_cell hg2 hv2 0, hb0, hb1, hb2, ?_, ?_, ?_⟩⟩
  · rintro rfl; simp [MemPlace.row] at hnd
  · rintro rfl; simp [MemPlace.row] at hnd
  · rintro rfl; simp [MemPlace.row] at hnd

/-! ### A world that meets the condition -/
abbrev strF : ByteArray := { data := #[110, 111, 32, 102, 117, 101, 108, 32, 105, 115, 32, 108, 101, 102, 116] }
abbrev strS : ByteArray := { data := #[116, 104, 101, 114, 101, 32, 105, 115, 32, 110, 111, 32, 115, 116, 101, 112] }
abbrev strL : ByteArray := { data := #[116, 104, 101, 32, 114, 101, 115, 117, 108, 116, 32, 105, 115, 32, 116, 111, 111, 32, 108, 97, 114, 103, 101] }
noncomputable def low : Nat := (World.holding Tryz.prog default ⟨#[], #[], []⟩).heap.size
noncomputable def laidWorld3 (os : Os) : World :=
  let w0 := World.holding Tryz.prog os ⟨#[.cells #[.string strF] 240, .cells #[.string strS] 240, .cells #[.string strL] 240], #[], []⟩
  { w0 with heap := ((w0.heap.modify 1 fun
      | .cells _ t frozen => .cells #[.iface 192 (.pointer (some ⟨low, 0, none⟩))] t frozen
      | o => o).modify 2 fun
      | .cells _ t frozen => .cells #[.iface 192 (.pointer (some ⟨low + 1, 0, none⟩))] t frozen
      | o => o).modify 0 fun
      | .cells _ t frozen => .cells #[.iface 192 (.pointer (some ⟨low + 2, 0, none⟩))] t frozen
      | o => o }
set_option maxRecDepth 100000 in
theorem laidWorld3_met (os : Os) (args : Array Value) : laidMetH Tryz.prog laid3 ((laidWorld3 os).forCall (fun _ _ => 0) ⟨#[], args, []⟩).memory := by
  unfold laidMetH
  rw [noHandles3]
  exact laidMet_of_run (ps := [.cell 1 0, .cell low 0, .cell 2 0, .cell (low + 1) 0, .cell 0 0, .cell (low + 2) 0]) 8 (by kernel_rfl) (by kernel_rfl) (by kernel_rfl)

/-- one named variable read again as a token, ahead of others -/
theorem vars_cons {H : Type} (enc : TypeId × Value → H) {P : Program} {W : World} {n : String} {g : Nat} {ti : TypeId} {ms : Array (String × TypeId)} {x : Value} {ns : List String} {ts : List (DataW H)} {ps : List MemPlace} {sp : Nat → Bool}
    (hg : P.globalNamed n = some g) (ht : (P.globals[g]?).map (·.type) = some ti) (hi : P.underlying ti = some (.interface ms)) (h : W.var? P n = some #[x]) (ix : IsIface x) (hr : DataW.TrodVars enc P W sp ns ts ps) :
    DataW.TrodVars enc P W sp (n :: ns) (tok enc x :: ts) (.cell g 0 :: ps) :=
  ⟨g, ti, #[x], 1, [], ps, hg, ht, h, trod_held hi ix 0, hr, rfl⟩
theorem vars_nil {H : Type} (enc : TypeId × Value → H) {P : Program} {W : World} {sp : Nat → Bool} : DataW.TrodVars enc P W sp [] [] [] := rfl
end Go.Proofs.YtiipcgnkfhjpeaaGreatDoor
/-
  MARKS: a row of bools.
-/
namespace Go.Proofs.YtiipcgnkfhjpeaaGreatDoor
set_option linter.unusedVariables false
set_option linter.unusedSimpArgs false
open Go.RowKit

/-! ### Marks -/
theorem infoB : (Tryz.prog.info? 4).map (fun i => (i.zero, i.size, i.bytes)) = some (some (.bool false), 1, 1) := by kernel_rfl
theorem make_bools (n : Nat) (h : n ≤ 1048576) : ∀ w : World, (Instr.makeSlice 174 (.int .i64 (n : Int)) (.int .i64 (n : Int))).run Tryz.prog w = .ok (.slice (some ⟨w.heap.size, 0, none⟩) n n) (w.alloc (.cells (madeCells #[.bool false] n) 4)) := by
  obtain ⟨i, hi, hzz⟩ := Option.map_eq_some_iff.1 infoB
  simp only [Prod.mk.injEq] at hzz
  obtain ⟨hz, hs, hb⟩ := hzz
  intro w
  have hr := run_make (P := Tryz.prog) w 174 4 i _ Tryz.underlying174 hi hz .i64 .i64 n n (by omega) (Int.le_refl _) (by rw [hb]; omega) (by omega)
  simp only [Int.toNat_natCast, hs, Nat.mul_one] at hr
  exact hr
/-- a row of marks -/
abbrev Marks (w : World) (b n : Nat) (f : Nat → Bool) : Prop := w.rowIs b 4 n (fun i => .bool (f i))
theorem no_marks (w : World) (n : Nat) : Marks (w.alloc (.cells (madeCells #[.bool false] n) 4)) w.heap.size n (fun _ => false) := by
  have hl : (madeCells #[.bool false] n).toList = List.replicate n (.bool false) := toList_madeCells_one _ _
  have hsz : (madeCells #[.bool false] n).size = n := by rw [← Array.length_toList, hl, List.length_replicate]
  refine ⟨_, Deep.blk_alloc_new _ _, hsz, fun i hi => ?_⟩
  rw [← Array.getElem?_toList, hl, List.getElem?_replicate, if_pos hi]
theorem Marks.mark {w : World} {b n : Nat} {f : Nat → Bool} (h : Marks w b n f) (a : Nat) : Marks (w.setCell ⟨b, a, none⟩ (.bool true)) b n (setF f a) := by
  refine World.rowIs.congr (h.set a _) fun i hi => ?_
  unfold setF
  by_cases e : i = a
  · simp [e]
  · simp [e]
end Go.Proofs.YtiipcgnkfhjpeaaGreatDoor
