/-
  errors.Is OVER SENTINELS: Go's own text, walked once; and the program's codeOf.
-/
import Derived.Test.YtiipcgnkfhjpeaaGreatDoorMgExactEvalRun1
import Derived.Test.YtiipcgnkfhjpeaaGreatDoorProg
import Derived.LaidEql
import Derived.Stop.Asserts
import Derived.RowKitTokens
import Derived.Test.YtiipcgnkfhjpeaaGreatDoorRows
import Derived.ChangeSame
import Derived.ChangeVars
import Derived.JoinedOf
import Derived.RowKit
import Derived.LaidLaws
import Derived.LaidHandle
import Derived.Stop.LaidErr
import Derived.Deep.QuietTactic
import Derived.BigQuiet
import Derived.WalkSmall
import Derived.Deep.RegionHeld3
import Derived.Deep.RegionWith
import Derived.Deep.DeepMust
namespace Go.Proofs.YtiipcgnkfhjpeaaGreatDoor
set_option linter.unusedVariables false
set_option linter.unusedSimpArgs false
open Go.RowKit Go.Extern.Stop Go.Stop Go.Extern

theorem isTypeOf (v : Value) (w : World) : (Extern.ReflectliteType.typeOf #[.iface 192 v]).run Tryz.prog w = .ok (.iface 150 (.agg #[.pointer (some ⟨3, 192, none⟩)])) w := by kernel_rfl
theorem isComparable (w : World) : (callFunc 166 #[.agg #[.pointer (some ⟨3, 192, none⟩)]]).run Tryz.prog w = .ok (Next.value (.bool true)) w := by kernel_rfl
theorem isMethodComparable (v : Value) (w : World) : (Go.method 353 150 v "Comparable").run Tryz.prog w = .ok (166, v) w := by kernel_rfl
theorem isComp : (Tryz.prog.info? 192).map (·.comparable) = some true := by kernel_rfl
theorem isSize : (Tryz.prog.info? 240).map (·.size) = some 1 := by kernel_rfl
theorem noIsE (v : Value) (xT : TypeId) (w : World) : (Instr.typeAssert (.iface 192 v) xT 152 true).run Tryz.prog w = .ok (.tuple #[.nilIface, .bool false]) w := run_typeAssert_lacksB Tryz.underlying152 (by kernel_rfl) (by kernel_rfl) v xT w
theorem noUnwrapE (v : Value) (xT : TypeId) (w : World) : (Instr.typeAssert (.iface 192 v) xT 155 true).run Tryz.prog w = .ok (.tuple #[.nilIface, .bool false]) w := run_typeAssert_lacksB Tryz.underlying155 (by kernel_rfl) (by kernel_rfl) v xT w
theorem noUnwrapsE (v : Value) (xT : TypeId) (w : World) : (Instr.typeAssert (.iface 192 v) xT 156 true).run Tryz.prog w = .ok (.tuple #[.nilIface, .bool false]) w := run_typeAssert_lacksB Tryz.underlying156 (by kernel_rfl) (by kernel_rfl) v xT w

/-- errors.Is(x, x) -/
theorem is_same (a : Addr) (w : World) :
    Calls Tryz.prog 61 #[.iface 192 (.pointer (some a)), .iface 192 (.pointer (some a))] w fun e w' => e = .returned (.bool true) ∧ w' = w := by
  obtain ⟨i, hi, hcmp⟩ := Option.map_eq_some_iff.1 isComp
  obtain ⟨j, hj, hjs⟩ := Option.map_eq_some_iff.1 isSize
  have h8 := @run_callFunc_extern Tryz.prog 84 _ Extern.ReflectliteType.typeOf Tryz.func84 (by kernel_rfl) (by kernel_rfl) (by kernel_rfl) (by kernel_rfl)
  have tT := isTypeOf
  have cT := isComparable
  have mR := isMethodComparable
  have heq := run_eql_iface_ptr_same (P := Tryz.prog) w a Tryz.underlying71 Tryz.underlying192 hi hcmp hj
  go_enter Tryz.func61, Tryz.ntmps61
  go_wp2
  refine wp_loop_rounds 1 ?_
  rw [rounds_succ]
  go_wp2
  go_ret
  exact ⟨rfl, rfl⟩

/-- errors.Is(x, y), two different sentinels -/
theorem is_other (a b : Addr) (ca cb : Array Value) (ta tb : TypeId) (w : World) (hne : a ≠ b) (ha : w.heap[a.block]? = some (.cells ca ta (0, 0))) (hb : w.heap[b.block]? = some (.cells cb tb (0, 0))) :
    Calls Tryz.prog 61 #[.iface 192 (.pointer (some a)), .iface 192 (.pointer (some b))] w fun e w' => e = .returned (.bool false) ∧ w' = w := by
  obtain ⟨i, hi, hcmp⟩ := Option.map_eq_some_iff.1 isComp
  obtain ⟨j, hj, hjs⟩ := Option.map_eq_some_iff.1 isSize
  have h8 := @run_callFunc_extern Tryz.prog 84 _ Extern.ReflectliteType.typeOf Tryz.func84 (by kernel_rfl) (by kernel_rfl) (by kernel_rfl) (by kernel_rfl)
  have tT := isTypeOf
  have cT := isComparable
  have mR := isMethodComparable
  have nE := noIsE
  have uE := noUnwrapE
  have vE := noUnwrapsE
  have heq := run_eql_iface_ptr_other (P := Tryz.prog) w Tryz.underlying71 Tryz.underlying192 hi hcmp hj (by rw [hjs]; decide) hne ha hb
  go_enter Tryz.func61, Tryz.ntmps61
  go_wp2
  refine wp_loop_rounds 1 ?_
  rw [rounds_succ]
  go_wp2
  go_ret
  exact ⟨rfl, rfl⟩

/-! ### The sentinels -/
/-- three sentinels, each in memory of its own -/
structure Errs (aF aS aL : Addr) (w : World) : Prop where
  cF : w.cell? ⟨1, 0, none⟩ = some (.iface 192 (.pointer (some aF)))
  cS : w.cell? ⟨2, 0, none⟩ = some (.iface 192 (.pointer (some aS)))
  cL : w.cell? ⟨0, 0, none⟩ = some (.iface 192 (.pointer (some aL)))
  bF : ∃ c t, w.heap[aF.block]? = some (.cells c t (0, 0))
  bS : ∃ c t, w.heap[aS.block]? = some (.cells c t (0, 0))
  bL : ∃ c t, w.heap[aL.block]? = some (.cells c t (0, 0))
  nFS : aF ≠ aS
  nFL : aF ≠ aL
  nSL : aS ≠ aL
theorem blk_next {w w' : World} (hb : Below w.heap.size w w') {b : Nat} (h : ∃ c t, w.heap[b]? = some (.cells c t (0, 0))) : ∃ c t, w'.heap[b]? = some (.cells c t (0, 0)) := by
  obtain ⟨c, t, h⟩ := h
  exact ⟨c, t, (hb.block _ (Array.getElem?_eq_some_iff.1 h).1).trans h⟩
theorem Errs.next {aF aS aL : Addr} {w w' : World} (h : Errs aF aS aL w) (hb : Below w.heap.size w w') : Errs aF aS aL w' :=
  ⟨(hb.cell (cell_lt h.cF)).trans h.cF, (hb.cell (cell_lt h.cS)).trans h.cS, (hb.cell (cell_lt h.cL)).trans h.cL, blk_next hb h.bF, blk_next hb h.bS, blk_next hb h.bL, h.nFS, h.nFL, h.nSL⟩
/-- the value of an error with a code -/
def errV (aF aS aL : Addr) (k : Nat) : Value := if k = 0 then .nilIface else if k = 1 then .iface 192 (.pointer (some aF)) else if k = 2 then .iface 192 (.pointer (some aS)) else .iface 192 (.pointer (some aL))

set_option maxHeartbeats 800000 in
theorem codeOf_nil (w : World) : Calls Tryz.prog 37 #[.nilIface] w fun e w' => e = .returned (.int .i64 0) ∧ w' = w := by
  go_enter Tryz.func37, Tryz.ntmps37
  go_wp2_with fail
  go_ret
  exact ⟨rfl, rfl⟩
set_option maxHeartbeats 800000 in
theorem codeOf_fuel (aF aS aL : Addr) (w : World) (h : Errs aF aS aL w) : Calls Tryz.prog 37 #[.iface 192 (.pointer (some aF))] w fun e w' => e = .returned (.int .i64 1) ∧ w' = w := by
  have cF := h.cF
  clear h
  go_enter Tryz.func37, Tryz.ntmps37
  go_wp2_with fail
  refine (is_same aF _).mono ?_
  rintro e w' ⟨rfl, rfl⟩
  go_wp2_with fail
  go_ret
  exact ⟨rfl, rfl⟩
set_option maxHeartbeats 800000 in
theorem codeOf_stuck (aF aS aL : Addr) (w : World) (h : Errs aF aS aL w) : Calls Tryz.prog 37 #[.iface 192 (.pointer (some aS))] w fun e w' => e = .returned (.int .i64 2) ∧ w' = w := by
  have cF := h.cF
  have cS := h.cS
  obtain ⟨ca, ta, ha⟩ := h.bF
  obtain ⟨cb, tb, hb⟩ := h.bS
  have HA := mkHid ha
  have HB := mkHid hb
  have HN := mkHid (Ne.symm h.nFS)
  clear h ha hb
  go_enter Tryz.func37, Tryz.ntmps37
  go_wp2_with fail
  refine (is_other aS aF cb ca tb ta _ HN.out HB.out HA.out).mono ?_
  rintro e w' ⟨rfl, rfl⟩
  go_wp2_with fail
  refine (is_same aS _).mono ?_
  rintro e w' ⟨rfl, rfl⟩
  go_wp2_with fail
  go_ret
  exact ⟨rfl, rfl⟩
set_option maxHeartbeats 800000 in
theorem codeOf_large (aF aS aL : Addr) (w : World) (h : Errs aF aS aL w) : Calls Tryz.prog 37 #[.iface 192 (.pointer (some aL))] w fun e w' => e = .returned (.int .i64 3) ∧ w' = w := by
  have cF := h.cF
  have cS := h.cS
  have cL := h.cL
  obtain ⟨ca, ta, ha⟩ := h.bF
  obtain ⟨cb, tb, hb⟩ := h.bS
  obtain ⟨cc, tc, hc⟩ := h.bL
  have HA := mkHid ha
  have HB := mkHid hb
  have HC := mkHid hc
  have HN := mkHid (Ne.symm h.nFL)
  have HM := mkHid (Ne.symm h.nSL)
  clear h ha hb hc
  go_enter Tryz.func37, Tryz.ntmps37
  go_wp2_with fail
  refine (is_other aL aF cc ca tc ta _ HN.out HC.out HA.out).mono ?_
  rintro e w' ⟨rfl, rfl⟩
  go_wp2_with fail
  refine (is_other aL aS cc cb tc tb _ HM.out HC.out HB.out).mono ?_
  rintro e w' ⟨rfl, rfl⟩
  go_wp2_with fail
  refine (is_same aL _).mono ?_
  rintro e w' ⟨rfl, rfl⟩
  go_wp2_with fail
  go_ret
  exact ⟨rfl, rfl⟩
/-- codeOf, of all of them -/
theorem codeOf_calls (aF aS aL : Addr) (k : Nat) (hk : k ≤ 3) (w : World) (h : Errs aF aS aL w) : Calls Tryz.prog 37 #[errV aF aS aL k] w fun e w' => e = .returned (.int .i64 (k : Int)) ∧ w' = w := by
  match k, hk with
  | 0, _ => exact codeOf_nil w
  | 1, _ => exact codeOf_fuel aF aS aL w h
  | 2, _ => exact codeOf_stuck aF aS aL w h
  | 3, _ => exact codeOf_large aF aS aL w h
end Go.Proofs.YtiipcgnkfhjpeaaGreatDoor
/-
  THE THREE SENTINELS errFuel, errStuck, errLarge: from the row's condition on what they read as to what the walks ask; a world that meets the condition.
-/
namespace Go.Proofs.YtiipcgnkfhjpeaaGreatDoor
set_option linter.unusedVariables false
set_option linter.unusedSimpArgs false
open Go.ChangeShapes Go.WideShapes Go.RowKit

theorem gF : Tryz.prog.globalNamed "loop.example/graphreducer/impl.errFuel" = some 1 := by kernel_rfl
theorem gS : Tryz.prog.globalNamed "loop.example/graphreducer/impl.errStuck" = some 2 := by kernel_rfl
theorem gL : Tryz.prog.globalNamed "loop.example/graphreducer/impl.errLarge" = some 0 := by kernel_rfl
theorem tyF : (Tryz.prog.globals[1]?).map (·.type) = some 71 := by kernel_rfl
theorem tyS : (Tryz.prog.globals[2]?).map (·.type) = some 71 := by kernel_rfl
theorem tyL : (Tryz.prog.globals[0]?).map (·.type) = some 71 := by kernel_rfl
theorem esCells : Tryz.prog.cellsOf 240 = 1 := by kernel_rfl
theorem strCells : Tryz.prog.cellsOf 9 = 1 := by kernel_rfl
theorem starE : "*" ++ "errors.errorString" = "*errors.errorString" := by decide
theorem rowE (u : TypeId) (h : Tryz.prog.typeName? 3 u = some "*errors.errorString") : u = 192 :=
  typeName_ptr_named (nm := "errors.errorString") (by rw [starE]; kernel_rfl) (by kernel_rfl) (by decide) u (by rw [starE]; exact h)

/-- what the row lists -/
def laid3 : List (String × DataW Unit) := [("loop.example/graphreducer/impl.errFuel", Rows.laid_loop_example_graphreducer_impl_errFuel), ("loop.example/graphreducer/impl.errStuck", Rows.laid_loop_example_graphreducer_impl_errStuck), ("loop.example/graphreducer/impl.errLarge", Rows.laid_loop_example_graphreducer_impl_errLarge)]
theorem noHandles3 : (laid3.filter fun x => x.2.handleName?.isSome) = [] := by kernel_rfl
theorem laid3_met {W : World} (h : laidMetH Tryz.prog laid3 W) : laidMet Tryz.prog laid3 W := by
  unfold laidMetH at h
  rw [noHandles3] at h
  exact h

/-- the three variables -/
structure Vars3 (aF aS aL : Addr) (W : World) : Prop where
  vF : W.var? Tryz.prog "loop.example/graphreducer/impl.errFuel" = some #[.iface 192 (.pointer (some aF))]
  vS : W.var? Tryz.prog "loop.example/graphreducer/impl.errStuck" = some #[.iface 192 (.pointer (some aS))]
  vL : W.var? Tryz.prog "loop.example/graphreducer/impl.errLarge" = some #[.iface 192 (.pointer (some aL))]
theorem var?_below {P : Program} {W W' : World} {n : String} {cs : Array Value} (h : W.var? P n = some cs) (hb : Below W.heap.size W W') : W'.var? P n = some cs := by
  unfold World.var? at h ⊢
  cases hg : P.globalNamed n with
  | none => simp [hg] at h
  | some g =>
    simp only [hg, Option.bind_some] at h ⊢
    have hlt : g < W.heap.size := by
      rcases Nat.lt_or_ge g W.heap.size with h' | h'
      · exact h'
      · simp [Array.getElem?_eq_none h'] at h
    rw [hb.block g hlt]
    exact h
theorem Vars3.next {aF aS aL : Addr} {W W' : World} (h : Vars3 aF aS aL W) (hb : Below W.heap.size W W') : Vars3 aF aS aL W' := ⟨var?_below h.vF hb, var?_below h.vS hb, var?_below h.vL hb⟩

set_option maxRecDepth 100000 in
theorem sents3 {W : World} (h : laidMetH Tryz.prog laid3 W) : ∃ aF aS aL : Addr, Vars3 aF aS aL W ∧ Errs aF aS aL W := by
  obtain ⟨ps, ⟨g0, t0, cs0, f0, p0, q0, hg0, ht0, hv0, hd0, ⟨g1, t1, cs1, f1, p1, q1, hg1, ht1, hv1, hd1, ⟨g2, t2, cs2, f2, p2, q2, hg2, ht2, hv2, hd2, hq2, e2⟩, e1⟩, e0⟩, hnd, hrows⟩ := laid3_met h
  obtain rfl := Option.some.inj (gF.symm.trans hg0)
  obtain rfl := Option.some.inj (gS.symm.trans hg1)
  obtain rfl := Option.some.inj (gL.symm.trans hg2)
  obtain rfl := Option.some.inj (tyF.symm.trans ht0)
  obtain rfl := Option.some.inj (tyS.symm.trans ht1)
  obtain rfl := Option.some.inj (tyL.symm.trans ht2)
  have hq2' : q2 = [] := hq2
  subst hq2'
  subst e2
  subst e1
  subst e0
  obtain ⟨l0⟩ := cs0
  obtain ⟨l1⟩ := cs1
  obtain ⟨l2⟩ := cs2
  have ok0 : ∀ u v, l0 = [.iface u v] → Value.okWide Tryz.prog W .any 0 u v := fun u v e => by
    subst e
    exact (hrows 1 0 (by simp [MemPlace.row])).2 u v (by simpa using World.var?_cell hg0 hv0 0)
  have ok1 : ∀ u v, l1 = [.iface u v] → Value.okWide Tryz.prog W .any 0 u v := fun u v e => by
    subst e
    exact (hrows 2 0 (by simp [MemPlace.row])).2 u v (by simpa using World.var?_cell hg1 hv1 0)
  have ok2 : ∀ u v, l2 = [.iface u v] → Value.okWide Tryz.prog W .any 0 u v := fun u v e => by
    subst e
    exact (hrows 0 0 (by simp [MemPlace.row])).2 u v (by simpa using World.var?_cell hg2 hv2 0)
  obtain ⟨a0, s0, rfl, hc0, hs0, hz0, rfl⟩ := errorString_of_trod Tryz.underlying71 rowE Tryz.underlying192 Tryz.underlying240 rfl rfl Tryz.underlying9 esCells strCells hd0 ok0
  obtain ⟨a1, s1, rfl, hc1, hs1, hz1, rfl⟩ := errorString_of_trod Tryz.underlying71 rowE Tryz.underlying192 Tryz.underlying240 rfl rfl Tryz.underlying9 esCells strCells hd1 ok1
  obtain ⟨a2, s2, rfl, hc2, hs2, hz2, rfl⟩ := errorString_of_trod Tryz.underlying71 rowE Tryz.underlying192 Tryz.underlying240 rfl rfl Tryz.underlying9 esCells strCells hd2 ok2
  have hb0 := (hrows a0.block a0.off (by simp [MemPlace.row])).1
  have hb1 := (hrows a1.block a1.off (by simp [MemPlace.row])).1
  have hb2 := (hrows a2.block a2.off (by simp [MemPlace.row])).1
  refine ⟨a0, a1, a2, ⟨hv0, hv1, hv2⟩, ⟨by simpa using World.var?_cell hg0 hv0 0, by simpa using World.var?_cell hg1 hv1 0, by simpa using World.var?_cell hg2 hv2 0, hb0, hb1, hb2, ?_, ?_, ?_⟩⟩
  · rintro rfl; simp [MemPlace.row] at hnd
  · rintro rfl; simp [MemPlace.row] at hnd
  · rintro rfl; simp [MemPlace.row] at hnd

/-! ### A world that meets the condition -/
abbrev strF : ByteArray := { data := #[110, 111, 32, 102, 117, 101, 108, 32, 105, 115, 32, 108, 101, 102, 116] }
abbrev strS : ByteArray := { data := #[116, 104, 101, 114, 101, 32, 105, 115, 32, 110, 111, 32, 115, 116, 101, 112] }
abbrev strL : ByteArray := { data := #[116, 104, 101, 32, 114, 101, 115, 117, 108, 116, 32, 105, 115, 32, 116, 111, 111, 32, 108, 97, 114, 103, 101] }
noncomputable def low : Nat := (World.holding Tryz.prog default ⟨#[], #[], []⟩).heap.size
noncomputable def laidWorld3 (os : Os) : World :=
  let w0 := World.holding Tryz.prog os ⟨#[.cells #[.string strF] 240, .cells #[.string strS] 240, .cells #[.string strL] 240], #[], []⟩
  { w0 with heap := ((w0.heap.modify 1 fun
      | .cells _ t frozen => .cells #[.iface 192 (.pointer (some ⟨low, 0, none⟩))] t frozen
      | o => o).modify 2 fun
      | .cells _ t frozen => .cells #[.iface 192 (.pointer (some ⟨low + 1, 0, none⟩))] t frozen
      | o => o).modify 0 fun
      | .cells _ t frozen => .cells #[.iface 192 (.pointer (some ⟨low + 2, 0, none⟩))] t frozen
      | o => o }
set_option maxRecDepth 100000 in
theorem laidWorld3_met (os : Os) (args : Array Value) : laidMetH Tryz.prog laid3 ((laidWorld3 os).forCall (fun _ _ => 0) ⟨#[], args, []⟩).memory := by
  unfold laidMetH
  rw [noHandles3]
  exact laidMet_of_run (ps := [.cell 1 0, .cell low 0, .cell 2 0, .cell (low + 1) 0, .cell 0 0, .cell (low + 2) 0]) 8 (by kernel_rfl) (by kernel_rfl) (by kernel_rfl)

/-- one named variable read again as a token, ahead of others -/
theorem vars_cons {H : Type} (enc : TypeId × Value → H) {P : Program} {W : World} {n : String} {g : Nat} {ti : TypeId} {ms : Array (String × TypeId)} {x : Value} {ns : List String} {ts : List (DataW H)} {ps : List MemPlace} {sp : Nat → Bool}
    (hg : P.globalNamed n = some g) (ht : (P.globals[g]?).map (·.type) = some ti) (hi : P.underlying ti = some (.interface ms)) (h : W.var? P n = some #[x]) (ix : IsIface x) (hr : DataW.TrodVars enc P W sp ns ts ps) :
    DataW.TrodVars enc P W sp (n :: ns) (tok enc x :: ts) (.cell g 0 :: ps) :=
  ⟨g, ti, #[x], 1, [], ps, hg, ht, h, trod_held hi ix 0, hr, rfl⟩
theorem vars_nil {H : Type} (enc : TypeId × Value → H) {P : Program} {W : World} {sp : Nat → Bool} : DataW.TrodVars enc P W sp [] [] [] := rfl
end Go.Proofs.YtiipcgnkfhjpeaaGreatDoor
/-
  make, OF SO MANY INTS: a new row of zeros.
-/
namespace Go.Proofs.YtiipcgnkfhjpeaaGreatDoor
set_option linter.unusedVariables false
set_option linter.unusedSimpArgs false
open Go.RowKit

theorem infoI : (Tryz.prog.info? 3).map (fun i => (i.zero, i.size, i.bytes)) = some (some (.int .i64 0), 1, 8) := by kernel_rfl
/-- make, of so many ints: a new row of zeros -/
theorem make_ints (n : Nat) (h : n ≤ 1048576) : ∀ w : World, (Instr.makeSlice 88 (.int .i64 (n : Int)) (.int .i64 (n : Int))).run Tryz.prog w = .ok (.slice (some ⟨w.heap.size, 0, none⟩) n n) (w.alloc (.cells (madeCells #[.int .i64 0] n) 3)) := by
  obtain ⟨i, hi, hzz⟩ := Option.map_eq_some_iff.1 infoI
  simp only [Prod.mk.injEq] at hzz
  obtain ⟨hz, hs, hb⟩ := hzz
  intro w
  have hr := run_make (P := Tryz.prog) w 88 3 i _ Tryz.underlying88 hi hz .i64 .i64 n n (by omega) (Int.le_refl _) (by rw [hb]; omega) (by omega)
  simp only [Int.toNat_natCast, hs, Nat.mul_one] at hr
  exact hr
theorem zero_row (w : World) (n : Nat) : (w.alloc (.cells (madeCells #[.int .i64 0] n) 3)).rowIs w.heap.size 3 n (fun i => .int .i64 (((fun _ => 0 : Nat → Nat) i : Nat) : Int)) := by
  have hl : (madeCells #[.int .i64 0] n).toList = List.replicate n (.int .i64 0) := toList_madeCells_one _ _
  have hsz : (madeCells #[.int .i64 0] n).size = n := by rw [← Array.length_toList, hl, List.length_replicate]
  refine ⟨_, Deep.blk_alloc_new _ _, hsz, fun i hi => ?_⟩
  rw [← Array.getElem?_toList, hl, List.getElem?_replicate, if_pos hi]
  rfl
end Go.Proofs.YtiipcgnkfhjpeaaGreatDoor
/-
  SLICES OF INTS IN MEMORY; the laws' own comparison and copy of them (eqIntS, toIntS).
-/
namespace Go.Proofs.YtiipcgnkfhjpeaaGreatDoor
set_option linter.unusedVariables false
set_option linter.unusedSimpArgs false
open Go.RowKit

/-- a slice value that holds these numbers, its block out of S -/
def IntsOn (w : World) (S : Nat → Prop) (xs : List Int) (v : Value) : Prop :=
  ∃ ad cap, v = .slice ad xs.length cap ∧ xs.length ≤ cap ∧ cap ≤ maxLen ∧ (xs = [] ∨ ∃ bl off, ad = some ⟨bl, off, none⟩ ∧ S bl ∧ ∀ i (h : i < xs.length), w.cell? ⟨bl, off + i, none⟩ = some (.int .i64 xs[i]))
/-- .. in a row of its own, from block lo on -/
def IntRow (w : World) (lo : Nat) (xs : List Int) (v : Value) : Prop :=
  ∃ ad cap, v = .slice ad xs.length cap ∧ xs.length ≤ cap ∧ cap ≤ maxLen ∧ (xs = [] ∨ ∃ g f, ad = some ⟨g, 0, none⟩ ∧ lo ≤ g ∧ w.rowIs g 3 cap f ∧ ∀ i (h : i < xs.length), f i = .int .i64 xs[i])
theorem IntRow.on {w : World} {lo : Nat} {xs : List Int} {v : Value} (h : IntRow w lo xs v) : IntsOn w (fun k => lo ≤ k ∧ k < w.heap.size) xs v := by
  obtain ⟨ad, cap, e, l1, l2, h⟩ := h
  refine ⟨ad, cap, e, l1, l2, h.imp id ?_⟩
  rintro ⟨g, f, rfl, hg, hr, hf⟩
  refine ⟨g, 0, rfl, ⟨hg, hr.lt⟩, fun i hi => ?_⟩
  rw [Nat.zero_add, hr.cell (by omega), hf i hi]
theorem IntsOn.mono {w w' : World} {S S' : Nat → Prop} {xs : List Int} {v : Value} (h : IntsOn w S xs v) (hS : ∀ k, S k → S' k) (hw : ∀ k, S k → w'.heap[k]? = w.heap[k]?) : IntsOn w' S' xs v := by
  obtain ⟨ad, cap, e, l1, l2, h⟩ := h
  refine ⟨ad, cap, e, l1, l2, h.imp id ?_⟩
  rintro ⟨bl, off, rfl, hb, hc⟩
  exact ⟨bl, off, rfl, hS _ hb, fun i hi => (World.cell?_of_block (a := ⟨bl, off + i, none⟩) (hw _ hb)).trans (hc i hi)⟩
theorem IntRow.keep {w w' : World} {lo lo' : Nat} {xs : List Int} {v : Value} (h : IntRow w lo xs v) (hl : lo' ≤ lo) (hw : ∀ k, lo ≤ k → k < w.heap.size → w'.heap[k]? = w.heap[k]?) : IntRow w' lo' xs v := by
  obtain ⟨ad, cap, e, l1, l2, h⟩ := h
  refine ⟨ad, cap, e, l1, l2, h.imp id ?_⟩
  rintro ⟨g, f, rfl, hg, hr, hf⟩
  exact ⟨g, f, rfl, by omega, hr.of_block (hw g hg hr.lt), hf⟩
theorem IntRow.next {w w' : World} {lo : Nat} {xs : List Int} {v : Value} (h : IntRow w lo xs v) (hb : Below w.heap.size w w') : IntRow w' lo xs v := h.keep (Nat.le_refl _) fun k _ hk => hb.block k hk
/-- numbers that lie in a world, wherever -/
abbrev IIn (w : World) (xs : List Int) (v : Value) : Prop := IntsOn w (Lt w.heap.size) xs v
theorem IntRow.inn {w : World} {lo : Nat} {xs : List Int} {v : Value} (h : IntRow w lo xs v) : IIn w xs v := h.on.mono (fun k hk => hk.2) fun _ _ => rfl
theorem IntsOn.next {w w' : World} {xs : List Int} {v : Value} (h : IIn w xs v) (hb : Below w.heap.size w w') : IIn w' xs v :=
  h.mono (fun k (hk : k < _) => Nat.lt_of_lt_of_le hk hb.size) fun k hk => hb.block k hk

set_option maxHeartbeats 400000 in
theorem eqInts_calls (xs : List Int) (c d : Value) (w : World) (hc : IIn w xs c) (hd : IIn w xs d) :
    Calls Tryz.prog 86 #[c, d] w fun e w' => e = .returned (.bool true) ∧ Below w.heap.size w w' := by
  have HC : Hid (IIn w xs c) := hc
  have HD : Hid (IIn w xs d) := hd
  obtain ⟨ad, cap, rfl, hl, hm, -⟩ := hc
  obtain ⟨ad', cap', rfl, hl', hm', -⟩ := hd
  unfold maxLen at hm hm'
  have t1 : ((xs.length : Int) != xs.length) = false := by simp
  go_enter Tryz.func86, Tryz.ntmps86
  go_wp2_with fail
  go_loopw [5] (fun i wr => ∃ k : Nat, k ≤ xs.length ∧ i = .int .i64 k ∧ ∃ n, wr = w.drewN n) (fun i _ => xs.length - (intOf i).toNat)
  case atStart => exact ⟨0, Nat.zero_le _, rfl, 0, rfl⟩
  case round =>
    obtain ⟨k, hk, rfl, n, rfl⟩ := hrel
    by_cases hlt : k < xs.length
    · obtain ⟨_, _, he, -, -, hr1⟩ := HC.out
      cases he
      obtain ⟨_, _, he, -, -, hr2⟩ := HD.out
      cases he
      rcases hr1 with rfl | ⟨bl, off, rfl, -, hr1⟩
      · simp at hlt
      rcases hr2 with rfl | ⟨bl', off', rfl, -, hr2⟩
      · simp at hlt
      have c0 := hr1 k hlt
      have d0 := hr2 k hlt
      have t2 : (xs[k] != xs[k]) = false := by simp
      clear hr1 hr2
      go_wp2_with fail
      go_quiet (fail)
      go_wp2_with fail
      go_roundw
      case rel => exact ⟨k + 1, by omega, by go_num, _, rfl⟩
      case measure => simp [intOf]; omega
    · go_wp2_with fail
      go_ret
      exact ⟨rfl, below_drewN (Below.refl _ _) _⟩

theorem IntRow.none (w : World) (lo : Nat) : IntRow w lo [] (.slice none 0 0) := ⟨_, _, rfl, Nat.le_refl _, by simp [maxLen], Or.inl rfl⟩
end Go.Proofs.YtiipcgnkfhjpeaaGreatDoor
/-
  THE LAWS' OWN COPY OF A SLICE OF INTS (toIntS).
-/
namespace Go.Proofs.YtiipcgnkfhjpeaaGreatDoor
set_option linter.unusedVariables false
set_option linter.unusedSimpArgs false
open Go.RowKit

end Go.Proofs.YtiipcgnkfhjpeaaGreatDoor
/-
  GRAPHS IN MEMORY: a slice of cells (Op, N, Kids), three cells of memory each, the operands a slice of ints. The laws' own count, copy and comparison of graphs.
-/
namespace Go.Proofs.YtiipcgnkfhjpeaaGreatDoor
set_option linter.unusedVariables false
set_option linter.unusedSimpArgs false
open Go.RowKit

/-- a cell of a graph -/
structure Ce where
  op : Int
  num : Int
  kids : List Int
instance : Inhabited Ce := ⟨⟨0, 0, []⟩⟩

/-- a slice value that holds these cells, its blocks out of S -/
def CellsOn (w : World) (S : Nat → Prop) (g : List Ce) (v : Value) : Prop :=
  ∃ ad cap, v = .slice ad g.length cap ∧ g.length ≤ cap ∧ cap ≤ maxLen ∧ (g = [] ∨ ∃ bl off, ad = some ⟨bl, off, none⟩ ∧ S bl ∧ ∀ i (hi : i < g.length), ∃ c,
    w.cell? ⟨bl, off + i * 3, none⟩ = some (.int .i64 g[i].op) ∧ w.cell? ⟨bl, off + i * 3 + 1, none⟩ = some (.int .i64 g[i].num) ∧ w.cell? ⟨bl, off + i * 3 + 2, none⟩ = some c ∧ I64 g[i].op ∧ I64 g[i].num ∧ IntsOn w S g[i].kids c)
theorem CellsOn.mono {w w' : World} {S S' : Nat → Prop} {g : List Ce} {v : Value} (h : CellsOn w S g v) (hS : ∀ k, S k → S' k) (hw : ∀ k, S k → w'.heap[k]? = w.heap[k]?) : CellsOn w' S' g v := by
  obtain ⟨ad, cap, e, l1, l2, h5⟩ := h
  refine ⟨ad, cap, e, l1, l2, ?_⟩
  rcases h5 with h5 | ⟨bl, off, e, s, r⟩
  · exact Or.inl h5
  · refine Or.inr ⟨bl, off, e, hS _ s, fun i hi => ?_⟩
    obtain ⟨c, h1, h2, h3, i1, i2, g3⟩ := r i hi
    refine ⟨c, ?_, ?_, ?_, i1, i2, g3.mono hS hw⟩
    all_goals rw [World.cell?_of_block (w := w) (hw bl s)]; assumption
/-- cells that lie in a world, wherever -/
abbrev CIn (w : World) (g : List Ce) (v : Value) : Prop := CellsOn w (Lt w.heap.size) g v
theorem CellsOn.next {w w' : World} {g : List Ce} {v : Value} (h : CIn w g v) (hb : Below w.heap.size w w') : CIn w' g v :=
  h.mono (fun k (hk : k < w.heap.size) => Nat.lt_of_lt_of_le hk hb.size) (fun k hk => hb.block k hk)
theorem CellsOn.drew {w : World} {g : List Ce} {v : Value} (h : CIn w g v) : CIn w.drew g v := h.next ((Below.refl _ _).drew)
theorem IntsOn.drew {w : World} {xs : List Int} {v : Value} (h : IIn w xs v) : IIn w.drew xs v := h.next ((Below.refl _ _).drew)

/-- element i, opened -/
theorem CellsOn.at {w : World} {g : List Ce} {ad : Option Addr} {n cap : Nat} (h : CIn w g (.slice ad n cap)) (i : Nat) (hi : i < g.length) :
    ∃ bl off c, ad = some ⟨bl, off, none⟩ ∧ w.cell? ⟨bl, off + i * 3, none⟩ = some (.int .i64 g[i].op) ∧ w.cell? ⟨bl, off + i * 3 + 1, none⟩ = some (.int .i64 g[i].num) ∧ w.cell? ⟨bl, off + i * 3 + 2, none⟩ = some c ∧ I64 g[i].op ∧ I64 g[i].num ∧ IIn w g[i].kids c := by
  obtain ⟨ad', cap', he, -, -, hr⟩ := h
  cases he
  rcases hr with rfl | ⟨bl, off, rfl, -, r⟩
  · simp at hi
  obtain ⟨c, h1, h2, h3, i1, i2, h4⟩ := r i hi
  exact ⟨bl, off, c, rfl, h1, h2, h3, i1, i2, h4⟩
/-- number i of a list of ints, opened -/
theorem IntsOn.at {w : World} {xs : List Int} {ad : Option Addr} {n cap : Nat} (h : IIn w xs (.slice ad n cap)) (i : Nat) (hi : i < xs.length) :
    ∃ bl off, ad = some ⟨bl, off, none⟩ ∧ w.cell? ⟨bl, off + i, none⟩ = some (.int .i64 xs[i]) := by
  obtain ⟨ad', cap', he, -, -, hr⟩ := h
  cases he
  rcases hr with rfl | ⟨bl, off, rfl, -, r⟩
  · simp at hi
  exact ⟨bl, off, rfl, r i hi⟩

/-! ### The count -/
/-- the operands of the first cells -/
def sumK (l : List Ce) : Nat := (l.map (·.kids.length)).sum
theorem sumK_append (a b : List Ce) : sumK (a ++ b) = sumK a + sumK b := by simp [sumK]
theorem sumK_take_succ (l : List Ce) (i : Nat) (h : i < l.length) : sumK (l.take (i + 1)) = sumK (l.take i) + l[i].kids.length := by
  rw [List.take_succ_eq_append_getElem h, sumK_append]; simp [sumK]
theorem sumK_take_le (l : List Ce) (i : Nat) : sumK (l.take i) ≤ sumK l := by
  conv => rhs; rw [← List.take_append_drop i l, sumK_append]
  omega
/-! ### The copy -/
/-- a slice value that holds these cells in a row of its own, the operands in such rows too, from block lo on -/
def CellRow (w : World) (lo : Nat) (g : List Ce) (v : Value) : Prop :=
  ∃ ad cap, v = .slice ad g.length cap ∧ g.length ≤ cap ∧ cap ≤ maxLen ∧ (g = [] ∨ ∃ b f, ad = some ⟨b, 0, none⟩ ∧ lo ≤ b ∧ w.rowIs b 93 (cap * 3) f ∧ ∀ i (h : i < g.length), f (i * 3) = .int .i64 g[i].op ∧ f (i * 3 + 1) = .int .i64 g[i].num ∧ I64 g[i].op ∧ I64 g[i].num ∧ IntRow w lo g[i].kids (f (i * 3 + 2)))
theorem CellRow.inn {w : World} {lo : Nat} {g : List Ce} {v : Value} (h : CellRow w lo g v) : CIn w g v := by
  obtain ⟨ad, cap, e, l1, l2, h⟩ := h
  refine ⟨ad, cap, e, l1, l2, h.imp id ?_⟩
  rintro ⟨b, f, rfl, hg, hr, hf⟩
  refine ⟨b, 0, rfl, hr.lt, fun i hi => ?_⟩
  obtain ⟨f0, f1, i0, i1, f2⟩ := hf i hi
  refine ⟨_, ?_, ?_, ?_, i0, i1, f2.inn⟩
  · rw [Nat.zero_add, hr.cell (by omega), f0]
  · rw [Nat.zero_add, hr.cell (by omega), f1]
  · rw [Nat.zero_add, hr.cell (by omega)]
theorem CellRow.keep {w w' : World} {lo lo' : Nat} {g : List Ce} {v : Value} (h : CellRow w lo g v) (hl : lo' ≤ lo) (hw : ∀ k, lo ≤ k → k < w.heap.size → w'.heap[k]? = w.heap[k]?) : CellRow w' lo' g v := by
  obtain ⟨ad, cap, e, l1, l2, h⟩ := h
  refine ⟨ad, cap, e, l1, l2, h.imp id ?_⟩
  rintro ⟨b, f, rfl, hg, hr, hf⟩
  refine ⟨b, f, rfl, by omega, hr.of_block (hw b hg hr.lt), fun i hi => ?_⟩
  obtain ⟨f0, f1, i0, i1, f2⟩ := hf i hi
  exact ⟨f0, f1, i0, i1, f2.keep hl hw⟩
theorem CellRow.next {w w' : World} {lo : Nat} {g : List Ce} {v : Value} (h : CellRow w lo g v) (hb : Below w.heap.size w w') : CellRow w' lo g v := h.keep (Nat.le_refl _) fun k _ hk => hb.block k hk

theorem IntRow.setCell {w : World} {lo : Nat} {xs : List Int} {v : Value} (h : IntRow w lo xs v) {a : Addr} (ha : a.block < lo) (u : Value) : IntRow (w.setCell a u) lo xs v :=
  h.keep (Nat.le_refl _) fun k hk _ => Below.heap_setCell _ _ _ _ (fun e => by omega)
theorem IntRow.down {w : World} {lo lo' : Nat} {xs : List Int} {v : Value} (h : IntRow w lo xs v) (hl : lo' ≤ lo) : IntRow w lo' xs v := h.keep hl fun _ _ _ => rfl

theorem infoC : (Tryz.prog.info? 93).map (fun i => (i.zero, i.size, i.bytes)) = some (some (.agg #[.int .i64 0, .int .i64 0, .slice none 0 0]), 3, 40) := by kernel_rfl
/-! ### The comparison -/
set_option maxHeartbeats 400000 in
theorem eqCell_calls (op num : Int) (xs : List Int) (c d : Value) (w : World) (hc : IIn w xs c) (hd : IIn w xs d) : Calls Tryz.prog 62 #[.agg #[.int .i64 op, .int .i64 num, c], .agg #[.int .i64 op, .int .i64 num, d]] w fun e w' => e = .returned (.bool true) ∧ Below w.heap.size w w' := by
  have HC : Hid (IIn w xs c) := hc
  have HD : Hid (IIn w xs d) := hd
  clear hc hd
  have t1 : (op != op) = false := by simp
  have t2 : (num != num) = false := by simp
  go_enter Tryz.func62, Tryz.ntmps62
  go_wp2_with fail
  have hb0 : ∀ o1 o2, Below w.heap.size w ((w.alloc o1).alloc o2) := fun o1 o2 => ((Below.refl _ _).alloc (Nat.le_refl _) _).alloc (by simp) _
  refine (eqInts_calls xs c d _ (HC.out.next (hb0 _ _)) (HD.out.next (hb0 _ _))).mono ?_
  rintro e w1 ⟨rfl, hb⟩
  have HB : Hid (Below w.heap.size w w1) := (hb0 _ _).trans (hb.mono (by simp; omega))
  clear hb hb0
  go_wp2_with fail
  go_ret
  exact ⟨rfl, HB.out⟩

set_option maxHeartbeats 400000 in
theorem eqCells_calls (g : List Ce) (c d : Value) (w : World) (hc : CIn w g c) (hd : CIn w g d) : Calls Tryz.prog 38 #[c, d] w fun e w' => e = .returned (.bool true) ∧ Below w.heap.size w w' := by
  have HC : Hid (CIn w g c) := hc
  have HD : Hid (CIn w g d) := hd
  obtain ⟨ad, cap, rfl, hl, hm, -⟩ := hc
  obtain ⟨ad', cap', rfl, hl', hm', -⟩ := hd
  unfold maxLen at hm hm'
  have t1 : ((g.length : Int) != g.length) = false := by simp
  go_enter Tryz.func38, Tryz.ntmps38
  go_wp2_with fail
  go_loopw [5] (fun i wr => ∃ k : Nat, k ≤ g.length ∧ i = .int .i64 k ∧ Below w.heap.size w wr) (fun i _ => g.length - (intOf i).toNat)
  case atStart => exact ⟨0, Nat.zero_le _, rfl, Below.refl _ _⟩
  case round =>
    obtain ⟨k, hk, rfl, hb⟩ := hrel
    by_cases hlt : k < g.length
    · obtain ⟨bl, off, r, rfl, c0, c1, c2, -, -, hk1⟩ := (HC.out.next hb).at k hlt
      obtain ⟨bl', off', r', rfl, d0, d1, d2, -, -, hk2⟩ := (HD.out.next hb).at k hlt
      have HK1 : Hid (IIn wr g[k].kids r) := hk1
      have HK2 : Hid (IIn wr g[k].kids r') := hk2
      clear hk1 hk2
      go_wp2_with fail
      go_region_with ((go_at_call 62; refine (eqCell_calls _ _ g[k].kids r r' _ ?_ ?_).mono ?_; exact HK1.out.drew; exact HK2.out.drew; rintro e w1 ⟨rfl, hb1⟩))
      all_goals
        have hb2 : Below w.heap.size w w1 := hb.drew.trans (hb1.mono hb.drew.size)
        clear hb1
        go_wp2_with fail
        go_roundw
        case rel => exact ⟨k + 1, by omega, by go_num, hb2⟩
        case measure => simp [intOf]; omega
    · have hke : k = g.length := by omega
      have HB : Hid (Below w.heap.size w wr) := hb
      clear hb
      clear hke
      go_wp2_with fail
      go_ret
      exact ⟨rfl, HB.out⟩
end Go.Proofs.YtiipcgnkfhjpeaaGreatDoor
