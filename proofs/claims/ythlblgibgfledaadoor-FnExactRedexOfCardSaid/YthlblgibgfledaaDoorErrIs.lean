/-
  errors.Is OVER SENTINELS: Go's own text, walked once; and the program's codeOf.
-/
import Derived.Test.YthlblgibgfledaaDoorTree
import Derived.Test.YthlblgibgfledaaDoorProg
import Derived.LaidEql
import Derived.Stop.Asserts
import Derived.RowKitTokens
namespace Go.Proofs.YthlblgibgfledaaDoor
set_option linter.unusedVariables false
set_option linter.unusedSimpArgs false
open Go.RowKit Go.Extern.Stop Go.Stop Go.Extern

theorem isTypeOf (v : Value) (w : World) : (Extern.ReflectliteType.typeOf #[.iface 198 v]).run Tryd.prog w = .ok (.iface 154 (.agg #[.pointer (some ⟨4, 198, none⟩)])) w := by kernel_rfl
theorem isComparable (w : World) : (callFunc 162 #[.agg #[.pointer (some ⟨4, 198, none⟩)]]).run Tryd.prog w = .ok (Next.value (.bool true)) w := by kernel_rfl
theorem isMethodComparable (v : Value) (w : World) : (Go.method 338 154 v "Comparable").run Tryd.prog w = .ok (162, v) w := by kernel_rfl
theorem isComp : (Tryd.prog.info? 198).map (·.comparable) = some true := by kernel_rfl
theorem isSize : (Tryd.prog.info? 225).map (·.size) = some 1 := by kernel_rfl
theorem noIsE (v : Value) (xT : TypeId) (w : World) : (Instr.typeAssert (.iface 198 v) xT 156 true).run Tryd.prog w = .ok (.tuple #[.nilIface, .bool false]) w := run_typeAssert_lacksB Tryd.underlying156 (by kernel_rfl) (by kernel_rfl) v xT w
theorem noUnwrapE (v : Value) (xT : TypeId) (w : World) : (Instr.typeAssert (.iface 198 v) xT 159 true).run Tryd.prog w = .ok (.tuple #[.nilIface, .bool false]) w := run_typeAssert_lacksB Tryd.underlying159 (by kernel_rfl) (by kernel_rfl) v xT w
theorem noUnwrapsE (v : Value) (xT : TypeId) (w : World) : (Instr.typeAssert (.iface 198 v) xT 161 true).run Tryd.prog w = .ok (.tuple #[.nilIface, .bool false]) w := run_typeAssert_lacksB Tryd.underlying161 (by kernel_rfl) (by kernel_rfl) v xT w

/-- errors.Is(x, x) -/
theorem is_same (a : Addr) (w : World) :
    Calls Tryd.prog 67 #[.iface 198 (.pointer (some a)), .iface 198 (.pointer (some a))] w fun e w' => e = .returned (.bool true) ∧ w' = w := by
  obtain ⟨i, hi, hcmp⟩ := Option.map_eq_some_iff.1 isComp
  obtain ⟨j, hj, hjs⟩ := Option.map_eq_some_iff.1 isSize
  have h8 := @run_callFunc_extern Tryd.prog 97 _ Extern.ReflectliteType.typeOf Tryd.func97 (by kernel_rfl) (by kernel_rfl) (by kernel_rfl) (by kernel_rfl)
  have tT := isTypeOf
  have cT := isComparable
  have mR := isMethodComparable
  have heq := run_eql_iface_ptr_same (P := Tryd.prog) w a Tryd.underlying74 Tryd.underlying198 hi hcmp hj
  go_enter Tryd.func67, Tryd.ntmps67
  go_wp2
  refine wp_loop_rounds 1 ?_
  rw [rounds_succ]
  go_wp2
  go_ret
  exact ⟨rfl, rfl⟩

/-- errors.Is(x, y), two different sentinels -/
theorem is_other (a b : Addr) (ca cb : Array Value) (ta tb : TypeId) (w : World) (hne : a ≠ b) (ha : w.heap[a.block]? = some (.cells ca ta (0, 0))) (hb : w.heap[b.block]? = some (.cells cb tb (0, 0))) :
    Calls Tryd.prog 67 #[.iface 198 (.pointer (some a)), .iface 198 (.pointer (some b))] w fun e w' => e = .returned (.bool false) ∧ w' = w := by
  obtain ⟨i, hi, hcmp⟩ := Option.map_eq_some_iff.1 isComp
  obtain ⟨j, hj, hjs⟩ := Option.map_eq_some_iff.1 isSize
  have h8 := @run_callFunc_extern Tryd.prog 97 _ Extern.ReflectliteType.typeOf Tryd.func97 (by kernel_rfl) (by kernel_rfl) (by kernel_rfl) (by kernel_rfl)
  have tT := isTypeOf
  have cT := isComparable
  have mR := isMethodComparable
  have nE := noIsE
  have uE := noUnwrapE
  have vE := noUnwrapsE
  have heq := run_eql_iface_ptr_other (P := Tryd.prog) w Tryd.underlying74 Tryd.underlying198 hi hcmp hj (by rw [hjs]; decide) hne ha hb
  go_enter Tryd.func67, Tryd.ntmps67
  go_wp2
  refine wp_loop_rounds 1 ?_
  rw [rounds_succ]
  go_wp2
  go_ret
  exact ⟨rfl, rfl⟩

/-! ### The sentinels -/
/-- three sentinels, each in memory of its own -/
structure Errs (aF aS aL : Addr) (w : World) : Prop where
  cF : w.cell? ⟨2, 0, none⟩ = some (.iface 198 (.pointer (some aF)))
  cS : w.cell? ⟨1, 0, none⟩ = some (.iface 198 (.pointer (some aS)))
  cL : w.cell? ⟨3, 0, none⟩ = some (.iface 198 (.pointer (some aL)))
  bF : ∃ c t, w.heap[aF.block]? = some (.cells c t (0, 0))
  bS : ∃ c t, w.heap[aS.block]? = some (.cells c t (0, 0))
  bL : ∃ c t, w.heap[aL.block]? = some (.cells c t (0, 0))
  nFS : aF ≠ aS
  nFL : aF ≠ aL
  nSL : aS ≠ aL
theorem blk_next {w w' : World} (hb : Below w.heap.size w w') {b : Nat} (h : ∃ c t, w.heap[b]? = some (.cells c t (0, 0))) : ∃ c t, w'.heap[b]? = some (.cells c t (0, 0)) := by
  obtain ⟨c, t, h⟩ := h
  exact ⟨c, t, (hb.block _ (Array.getElem?_eq_some_iff.1 h).1).trans h⟩
theorem Errs.next {aF aS aL : Addr} {w w' : World} (h : Errs aF aS aL w) (hb : Below w.heap.size w w') : Errs aF aS aL w' :=
  ⟨(hb.cell (cell_lt h.cF)).trans h.cF, (hb.cell (cell_lt h.cS)).trans h.cS, (hb.cell (cell_lt h.cL)).trans h.cL, blk_next hb h.bF, blk_next hb h.bS, blk_next hb h.bL, h.nFS, h.nFL, h.nSL⟩
/-- the value of an error with a code -/
def errV (aF aS aL : Addr) (k : Nat) : Value := if k = 0 then .nilIface else if k = 1 then .iface 198 (.pointer (some aF)) else if k = 2 then .iface 198 (.pointer (some aS)) else .iface 198 (.pointer (some aL))

set_option maxHeartbeats 800000 in
theorem codeOf_nil (w : World) : Calls Tryd.prog 46 #[.nilIface] w fun e w' => e = .returned (.int .i64 0) ∧ w' = w := by
  go_enter Tryd.func46, Tryd.ntmps46
  go_wp2_with fail
  go_ret
  exact ⟨rfl, rfl⟩
set_option maxHeartbeats 800000 in
theorem codeOf_fuel (aF aS aL : Addr) (w : World) (h : Errs aF aS aL w) : Calls Tryd.prog 46 #[.iface 198 (.pointer (some aF))] w fun e w' => e = .returned (.int .i64 1) ∧ w' = w := by
  have cF := h.cF
  clear h
  go_enter Tryd.func46, Tryd.ntmps46
  go_wp2_with fail
  refine (is_same aF _).mono ?_
  rintro e w' ⟨rfl, rfl⟩
  go_wp2_with fail
  go_ret
  exact ⟨rfl, rfl⟩
set_option maxHeartbeats 800000 in
theorem codeOf_stuck (aF aS aL : Addr) (w : World) (h : Errs aF aS aL w) : Calls Tryd.prog 46 #[.iface 198 (.pointer (some aS))] w fun e w' => e = .returned (.int .i64 2) ∧ w' = w := by
  have cF := h.cF
  have cS := h.cS
  obtain ⟨ca, ta, ha⟩ := h.bF
  obtain ⟨cb, tb, hb⟩ := h.bS
  have HA := mkHid ha
  have HB := mkHid hb
  have HN := mkHid (Ne.symm h.nFS)
  clear h ha hb
  go_enter Tryd.func46, Tryd.ntmps46
  go_wp2_with fail
  refine (is_other aS aF cb ca tb ta _ HN.out HB.out HA.out).mono ?_
  rintro e w' ⟨rfl, rfl⟩
  go_wp2_with fail
  refine (is_same aS _).mono ?_
  rintro e w' ⟨rfl, rfl⟩
  go_wp2_with fail
  go_ret
  exact ⟨rfl, rfl⟩
set_option maxHeartbeats 800000 in
theorem codeOf_large (aF aS aL : Addr) (w : World) (h : Errs aF aS aL w) : Calls Tryd.prog 46 #[.iface 198 (.pointer (some aL))] w fun e w' => e = .returned (.int .i64 3) ∧ w' = w := by
  have cF := h.cF
  have cS := h.cS
  have cL := h.cL
  obtain ⟨ca, ta, ha⟩ := h.bF
  obtain ⟨cb, tb, hb⟩ := h.bS
  obtain ⟨cc, tc, hc⟩ := h.bL
  have HA := mkHid ha
  have HB := mkHid hb
  have HC := mkHid hc
  have HN := mkHid (Ne.symm h.nFL)
  have HM := mkHid (Ne.symm h.nSL)
  clear h ha hb hc
  go_enter Tryd.func46, Tryd.ntmps46
  go_wp2_with fail
  refine (is_other aL aF cc ca tc ta _ HN.out HC.out HA.out).mono ?_
  rintro e w' ⟨rfl, rfl⟩
  go_wp2_with fail
  refine (is_other aL aS cc cb tc tb _ HM.out HC.out HB.out).mono ?_
  rintro e w' ⟨rfl, rfl⟩
  go_wp2_with fail
  refine (is_same aL _).mono ?_
  rintro e w' ⟨rfl, rfl⟩
  go_wp2_with fail
  go_ret
  exact ⟨rfl, rfl⟩
/-- codeOf, of all of them -/
theorem codeOf_calls (aF aS aL : Addr) (k : Nat) (hk : k ≤ 3) (w : World) (h : Errs aF aS aL w) : Calls Tryd.prog 46 #[errV aF aS aL k] w fun e w' => e = .returned (.int .i64 (k : Int)) ∧ w' = w := by
  match k, hk with
  | 0, _ => exact codeOf_nil w
  | 1, _ => exact codeOf_fuel aF aS aL w h
  | 2, _ => exact codeOf_stuck aF aS aL w h
  | 3, _ => exact codeOf_large aF aS aL w h
end Go.Proofs.YthlblgibgfledaaDoor
