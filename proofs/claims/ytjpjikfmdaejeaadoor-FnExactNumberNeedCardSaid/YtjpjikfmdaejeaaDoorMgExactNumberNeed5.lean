/-
  WHAT THE READING OF AN ARGUMENT GIVES: an expression of the laws' own type is a tree in memory.
-/
import Derived.Test.YtjpjikfmdaejeaaDoorMgExactNumberNeed1
import Derived.Test.YtjpjikfmdaejeaaDoorProg
import Derived.Test.YtjpjikfmdaejeaaDoorMgExactNumberNeed4
import Derived.LaidEql
import Derived.Stop.Asserts
import Derived.RowKitTokens
namespace Go.Proofs.YtjpjikfmdaejeaaDoor
open Go.RowKit
set_option linter.unusedVariables false
set_option linter.unusedSimpArgs false
section
variable {H : Type} {enc : TypeId × Value → H} {w : World} {base : Nat} {spare : Nat → Bool} {held : Bool}

theorem trod_lawKids (fuel : Nat) (v : Value) (x : DataW H × List MemPlace) (h : DataW.trod enc Tryd.prog w base spare held fuel 23 [v] = some x) : ∃ ks, In w ks v :=
  open_kids Tryd.underlying23 Tryd.underlying25 (by kernel_rfl) (by kernel_rfl) rfl rfl rfl Tryd.underlying3 Tryd.underlying3 fuel v x h

set_option maxRecDepth 100000 in
theorem open_lawExpr {r : Reach} {b0 : Nat} {v : Value} {d : DataW H} {p : List MemPlace} (hv : Value.okWide Tryd.prog w r b0 25 v) (h : DataW.Trod enc Tryd.prog w base spare held 25 v d p) :
    ∃ (t : Tr) (c : Value), v = .agg #[.int .i64 t.op, .int .i64 t.num, c] ∧ In w t.kids c := by
  obtain ⟨x0, x1, x2, y0, y1, y2, n, rfl, -, -, g0, g1, g2⟩ := Joins.open_agg3 Tryd.underlying25 (by kernel_rfl) (by kernel_rfl) hv h
  obtain ⟨o, e0, _, _⟩ := DataW.trod_int Tryd.underlying3 g0
  obtain ⟨m, e1, _, _⟩ := DataW.trod_int Tryd.underlying3 g1
  obtain ⟨ks, hk⟩ := trod_lawKids n x2 y2 g2
  simp only [List.cons.injEq, and_true] at e0 e1
  exact ⟨.node o m ks, x2, by rw [e0, e1]; rfl, hk⟩
set_option maxRecDepth 100000 in
/-- .. its numbers fit Go's int -/
theorem open_lawExpr2 {r : Reach} {b0 : Nat} {v : Value} {d : DataW H} {p : List MemPlace} (hv : Value.okWide Tryd.prog w r b0 25 v) (h : DataW.Trod enc Tryd.prog w base spare held 25 v d p) :
    ∃ (t : Tr) (c : Value), v = .agg #[.int .i64 t.op, .int .i64 t.num, c] ∧ In w t.kids c ∧ I64 t.op ∧ I64 t.num := by
  obtain ⟨x0, x1, x2, y0, y1, y2, n, rfl, -, -, g0, g1, g2⟩ := Joins.open_agg3 Tryd.underlying25 (by kernel_rfl) (by kernel_rfl) hv h
  obtain ⟨o, e0, _, w0⟩ := DataW.trod_int Tryd.underlying3 g0
  obtain ⟨m, e1, _, w1⟩ := DataW.trod_int Tryd.underlying3 g1
  obtain ⟨ks, hk⟩ := trod_lawKids n x2 y2 g2
  simp only [List.cons.injEq, and_true] at e0 e1
  exact ⟨.node o m ks, x2, by rw [e0, e1]; rfl, hk, bounds_i64 w0, bounds_i64 w1⟩
end
end Go.Proofs.YtjpjikfmdaejeaaDoor
/-
  WHAT THE READING OF AN ARGUMENT GIVES: a program of the laws' own type is a list of functions in memory.
-/
namespace Go.Proofs.YtjpjikfmdaejeaaDoor
open Go.RowKit
set_option linter.unusedVariables false
set_option linter.unusedSimpArgs false
section
variable {H : Type} {enc : TypeId × Value → H} {w : World} {base : Nat} {spare : Nat → Bool} {held : Bool}

theorem list4 {α : Type} (l : List α) (h : l.length = 4) : ∃ a b c d, l = [a, b, c, d] := by
  match l, h with
  | [a, b, c, d], _ => exact ⟨a, b, c, d, rfl⟩
theorem list2 {α : Type} (l : List α) (h : l.length = 2) : ∃ a b, l = [a, b] := by
  match l, h with
  | [a, b], _ => exact ⟨a, b, rfl⟩

/-- an expression of the laws' own type, of its three cells -/
theorem trod_lawExpr (fuel : Nat) (p q r : Value) (x : DataW H × List MemPlace) (h : DataW.trod enc Tryd.prog w base spare held fuel 25 [p, q, r] = some x) : ∃ t : Tr, TrOn w (Lt w.heap.size) t p q r := by
  obtain ⟨xs, m, -, -, -, hxl, hf⟩ := DataW.trod_struct Tryd.underlying25 h
  obtain ⟨y0, y1, y2, rfl⟩ := list3 xs (by simpa using hxl)
  have hp := hf 0 _ rfl
  have hq := hf 1 _ rfl
  have hr := hf 2 _ rfl
  have c1 : Tryd.prog.cellsOf 3 = 1 := by kernel_rfl
  have c2 : Tryd.prog.cellsOf 23 = 1 := by kernel_rfl
  simp [c1, c2] at hp hq hr
  obtain ⟨o, e0, _, w0⟩ := DataW.trod_int Tryd.underlying3 hp
  obtain ⟨n, e1, _, w1⟩ := DataW.trod_int Tryd.underlying3 hq
  obtain ⟨ks, hk⟩ := trod_lawKids m r y2 hr
  simp only [List.cons.injEq, and_true] at e0 e1
  exact ⟨.node o n ks, trOn_iff.2 ⟨e0, e1, bounds_i64 w0, bounds_i64 w1, hk⟩⟩

theorem trod_lawDefs (fuel : Nat) (v : Value) (x : DataW H × List MemPlace) (h : DataW.trod enc Tryd.prog w base spare held fuel 22 [v] = some x) : ∃ ds, DIn w ds v := by
  have hC : Tryd.prog.cellsOf 54 = 4 := by kernel_rfl
  have hC3 : Tryd.prog.cellsOf 25 = 3 := by kernel_rfl
  have hC1 : Tryd.prog.cellsOf 3 = 1 := by kernel_rfl
  rcases DataW.trod_slice Tryd.underlying22 h with ⟨h0', _⟩ | ⟨a, len, cap, elems, rest, n, hfu, hv, _, hb, hl, hm, hlen, hel, _, _⟩
  · simp only [List.cons.injEq, and_true] at h0'
    exact ⟨[], none, 0, h0', by simp, by simp [maxLen], Or.inl rfl⟩
  · simp only [List.cons.injEq, and_true] at hv
    have key : ∀ i, i < len → ∃ d : Df, ∃ p q r s, w.cell? (a.add (i * 4)) = some p ∧ w.cell? ((a.add (i * 4)).add 1) = some q ∧ w.cell? ((a.add (i * 4)).add 2) = some r ∧ w.cell? ((a.add (i * 4)).add 3) = some s ∧ DfOn w (Lt w.heap.size) d p q r s := by
      intro i hi
      have hh := hel i hi
      rw [hC] at hh
      obtain ⟨cs, hcs, hd⟩ := Option.bind_eq_some_iff.1 (hh.trans (List.getElem?_eq_getElem (by omega)))
      obtain ⟨_, hl4, hcell⟩ := World.cells?_some hcs
      obtain ⟨p, q, r, s, rfl⟩ := list4 cs hl4
      obtain ⟨xs, m, hm1, _, _, hxl, hf⟩ := DataW.trod_struct Tryd.underlying54 hd
      obtain ⟨y0, y1, rfl⟩ := list2 xs (by simpa using hxl)
      have hp := hf 0 _ rfl
      have hq := hf 1 _ rfl
      simp [hC1, hC3] at hp hq
      obtain ⟨na, e0, _, w0⟩ := DataW.trod_int Tryd.underlying3 hp
      simp only [List.cons.injEq, and_true] at e0
      obtain ⟨t, ht⟩ := trod_lawExpr m q r s y1 hq
      have g0 := hcell 0 (by omega)
      have g1 := hcell 1 (by omega)
      have g2 := hcell 2 (by omega)
      have g3 := hcell 3 (by omega)
      exact ⟨(na, t), p, q, r, s, by simpa [Addr.add] using g0, by simpa using g1, by simpa using g2, by simpa using g3, e0, bounds_i64 w0, ht⟩
    subst hv
    obtain ⟨f, hfk⟩ := Deep.choose_lt key
    refine ⟨(List.range len).map f, some a, cap, by simp, by simpa using hl, hm, ?_⟩
    by_cases hz : len = 0
    · left; simp [hz]
    right
    obtain ⟨bl, off, spot⟩ := a
    obtain ⟨p, q, r, s, g0, _⟩ := hfk 0 (by omega)
    have hspot : spot = none := by simpa [Addr.add] using World.cell?_spot g0
    subst hspot
    refine ⟨bl, off, rfl, by have := cell_lt g0; simpa [Addr.add, Lt] using this, fun i hi => ?_⟩
    simp only [List.length_map, List.length_range] at hi
    obtain ⟨p, q, r, s, g0, g1, g2, g3, g4⟩ := hfk i hi
    rw [WideShapes.add_plain] at g0 g1 g2 g3
    rw [WideShapes.add_plain] at g1 g2 g3
    exact ⟨p, q, r, s, g0, g1, g2, g3, by simpa using g4⟩
end
end Go.Proofs.YtjpjikfmdaejeaaDoor
/-
  errors.Is OVER SENTINELS: Go's own text, walked once; and the program's codeOf.
-/
namespace Go.Proofs.YtjpjikfmdaejeaaDoor
set_option linter.unusedVariables false
set_option linter.unusedSimpArgs false
open Go.RowKit Go.Extern.Stop Go.Stop Go.Extern

theorem isTypeOf (v : Value) (w : World) : (Extern.ReflectliteType.typeOf #[.iface 183 v]).run Tryd.prog w = .ok (.iface 130 (.agg #[.pointer (some ⟨4, 183, none⟩)])) w := by kernel_rfl
theorem isComparable (w : World) : (callFunc 144 #[.agg #[.pointer (some ⟨4, 183, none⟩)]]).run Tryd.prog w = .ok (Next.value (.bool true)) w := by kernel_rfl
theorem isMethodComparable (v : Value) (w : World) : (Go.method 323 130 v "Comparable").run Tryd.prog w = .ok (144, v) w := by kernel_rfl
theorem isComp : (Tryd.prog.info? 183).map (·.comparable) = some true := by kernel_rfl
theorem isSize : (Tryd.prog.info? 210).map (·.size) = some 1 := by kernel_rfl
theorem noIsE (v : Value) (xT : TypeId) (w : World) : (Instr.typeAssert (.iface 183 v) xT 132 true).run Tryd.prog w = .ok (.tuple #[.nilIface, .bool false]) w := run_typeAssert_lacksB Tryd.underlying132 (by kernel_rfl) (by kernel_rfl) v xT w
theorem noUnwrapE (v : Value) (xT : TypeId) (w : World) : (Instr.typeAssert (.iface 183 v) xT 135 true).run Tryd.prog w = .ok (.tuple #[.nilIface, .bool false]) w := run_typeAssert_lacksB Tryd.underlying135 (by kernel_rfl) (by kernel_rfl) v xT w
theorem noUnwrapsE (v : Value) (xT : TypeId) (w : World) : (Instr.typeAssert (.iface 183 v) xT 137 true).run Tryd.prog w = .ok (.tuple #[.nilIface, .bool false]) w := run_typeAssert_lacksB Tryd.underlying137 (by kernel_rfl) (by kernel_rfl) v xT w

/-- errors.Is(x, x) -/
theorem is_same (a : Addr) (w : World) :
    Calls Tryd.prog 52 #[.iface 183 (.pointer (some a)), .iface 183 (.pointer (some a))] w fun e w' => e = .returned (.bool true) ∧ w' = w := by
  obtain ⟨i, hi, hcmp⟩ := Option.map_eq_some_iff.1 isComp
  obtain ⟨j, hj, hjs⟩ := Option.map_eq_some_iff.1 isSize
  have h8 := @run_callFunc_extern Tryd.prog 73 _ Extern.ReflectliteType.typeOf Tryd.func73 (by kernel_rfl) (by kernel_rfl) (by kernel_rfl) (by kernel_rfl)
  have tT := isTypeOf
  have cT := isComparable
  have mR := isMethodComparable
  have heq := run_eql_iface_ptr_same (P := Tryd.prog) w a Tryd.underlying72 Tryd.underlying183 hi hcmp hj
  go_enter Tryd.func52, Tryd.ntmps52
  go_wp2
  refine wp_loop_rounds 1 ?_
  rw [rounds_succ]
  go_wp2
  go_ret
  exact ⟨rfl, rfl⟩

/-- errors.Is(x, y), two different sentinels -/
theorem is_other (a b : Addr) (ca cb : Array Value) (ta tb : TypeId) (w : World) (hne : a ≠ b) (ha : w.heap[a.block]? = some (.cells ca ta (0, 0))) (hb : w.heap[b.block]? = some (.cells cb tb (0, 0))) :
    Calls Tryd.prog 52 #[.iface 183 (.pointer (some a)), .iface 183 (.pointer (some b))] w fun e w' => e = .returned (.bool false) ∧ w' = w := by
  obtain ⟨i, hi, hcmp⟩ := Option.map_eq_some_iff.1 isComp
  obtain ⟨j, hj, hjs⟩ := Option.map_eq_some_iff.1 isSize
  have h8 := @run_callFunc_extern Tryd.prog 73 _ Extern.ReflectliteType.typeOf Tryd.func73 (by kernel_rfl) (by kernel_rfl) (by kernel_rfl) (by kernel_rfl)
  have tT := isTypeOf
  have cT := isComparable
  have mR := isMethodComparable
  have nE := noIsE
  have uE := noUnwrapE
  have vE := noUnwrapsE
  have heq := run_eql_iface_ptr_other (P := Tryd.prog) w Tryd.underlying72 Tryd.underlying183 hi hcmp hj (by rw [hjs]; decide) hne ha hb
  go_enter Tryd.func52, Tryd.ntmps52
  go_wp2
  refine wp_loop_rounds 1 ?_
  rw [rounds_succ]
  go_wp2
  go_ret
  exact ⟨rfl, rfl⟩

/-! ### The sentinels -/
/-- three sentinels, each in memory of its own -/
structure Errs (aF aS aL : Addr) (w : World) : Prop where
  cF : w.cell? ⟨1, 0, none⟩ = some (.iface 183 (.pointer (some aF)))
  cS : w.cell? ⟨2, 0, none⟩ = some (.iface 183 (.pointer (some aS)))
  cL : w.cell? ⟨3, 0, none⟩ = some (.iface 183 (.pointer (some aL)))
  bF : ∃ c t, w.heap[aF.block]? = some (.cells c t (0, 0))
  bS : ∃ c t, w.heap[aS.block]? = some (.cells c t (0, 0))
  bL : ∃ c t, w.heap[aL.block]? = some (.cells c t (0, 0))
  nFS : aF ≠ aS
  nFL : aF ≠ aL
  nSL : aS ≠ aL
theorem blk_next {w w' : World} (hb : Below w.heap.size w w') {b : Nat} (h : ∃ c t, w.heap[b]? = some (.cells c t (0, 0))) : ∃ c t, w'.heap[b]? = some (.cells c t (0, 0)) := by
  obtain ⟨c, t, h⟩ := h
  exact ⟨c, t, (hb.block _ (Array.getElem?_eq_some_iff.1 h).1).trans h⟩
theorem Errs.next {aF aS aL : Addr} {w w' : World} (h : Errs aF aS aL w) (hb : Below w.heap.size w w') : Errs aF aS aL w' :=
  ⟨(hb.cell (cell_lt h.cF)).trans h.cF, (hb.cell (cell_lt h.cS)).trans h.cS, (hb.cell (cell_lt h.cL)).trans h.cL, blk_next hb h.bF, blk_next hb h.bS, blk_next hb h.bL, h.nFS, h.nFL, h.nSL⟩
/-- the value of an error with a code -/
def errV (aF aS aL : Addr) (k : Nat) : Value := if k = 0 then .nilIface else if k = 1 then .iface 183 (.pointer (some aF)) else if k = 2 then .iface 183 (.pointer (some aS)) else .iface 183 (.pointer (some aL))

set_option maxHeartbeats 800000 in
theorem codeOf_nil (w : World) : Calls Tryd.prog 39 #[.nilIface] w fun e w' => e = .returned (.int .i64 0) ∧ w' = w := by
  go_enter Tryd.func39, Tryd.ntmps39
  go_wp2_with fail
  go_ret
  exact ⟨rfl, rfl⟩
set_option maxHeartbeats 800000 in
theorem codeOf_fuel (aF aS aL : Addr) (w : World) (h : Errs aF aS aL w) : Calls Tryd.prog 39 #[.iface 183 (.pointer (some aF))] w fun e w' => e = .returned (.int .i64 1) ∧ w' = w := by
  have cF := h.cF
  clear h
  go_enter Tryd.func39, Tryd.ntmps39
  go_wp2_with fail
  refine (is_same aF _).mono ?_
  rintro e w' ⟨rfl, rfl⟩
  go_wp2_with fail
  go_ret
  exact ⟨rfl, rfl⟩
set_option maxHeartbeats 800000 in
theorem codeOf_stuck (aF aS aL : Addr) (w : World) (h : Errs aF aS aL w) : Calls Tryd.prog 39 #[.iface 183 (.pointer (some aS))] w fun e w' => e = .returned (.int .i64 2) ∧ w' = w := by
  have cF := h.cF
  have cS := h.cS
  obtain ⟨ca, ta, ha⟩ := h.bF
  obtain ⟨cb, tb, hb⟩ := h.bS
  have HA := mkHid ha
  have HB := mkHid hb
  have HN := mkHid (Ne.symm h.nFS)
  clear h ha hb
  go_enter Tryd.func39, Tryd.ntmps39
  go_wp2_with fail
  refine (is_other aS aF cb ca tb ta _ HN.out HB.out HA.out).mono ?_
  rintro e w' ⟨rfl, rfl⟩
  go_wp2_with fail
  refine (is_same aS _).mono ?_
  rintro e w' ⟨rfl, rfl⟩
  go_wp2_with fail
  go_ret
  exact ⟨rfl, rfl⟩
set_option maxHeartbeats 800000 in
theorem codeOf_large (aF aS aL : Addr) (w : World) (h : Errs aF aS aL w) : Calls Tryd.prog 39 #[.iface 183 (.pointer (some aL))] w fun e w' => e = .returned (.int .i64 3) ∧ w' = w := by
  have cF := h.cF
  have cS := h.cS
  have cL := h.cL
  obtain ⟨ca, ta, ha⟩ := h.bF
  obtain ⟨cb, tb, hb⟩ := h.bS
  obtain ⟨cc, tc, hc⟩ := h.bL
  have HA := mkHid ha
  have HB := mkHid hb
  have HC := mkHid hc
  have HN := mkHid (Ne.symm h.nFL)
  have HM := mkHid (Ne.symm h.nSL)
  clear h ha hb hc
  go_enter Tryd.func39, Tryd.ntmps39
  go_wp2_with fail
  refine (is_other aL aF cc ca tc ta _ HN.out HC.out HA.out).mono ?_
  rintro e w' ⟨rfl, rfl⟩
  go_wp2_with fail
  refine (is_other aL aS cc cb tc tb _ HM.out HC.out HB.out).mono ?_
  rintro e w' ⟨rfl, rfl⟩
  go_wp2_with fail
  refine (is_same aL _).mono ?_
  rintro e w' ⟨rfl, rfl⟩
  go_wp2_with fail
  go_ret
  exact ⟨rfl, rfl⟩
/-- codeOf, of all of them -/
theorem codeOf_calls (aF aS aL : Addr) (k : Nat) (hk : k ≤ 3) (w : World) (h : Errs aF aS aL w) : Calls Tryd.prog 39 #[errV aF aS aL k] w fun e w' => e = .returned (.int .i64 (k : Int)) ∧ w' = w := by
  match k, hk with
  | 0, _ => exact codeOf_nil w
  | 1, _ => exact codeOf_fuel aF aS aL w h
  | 2, _ => exact codeOf_stuck aF aS aL w h
  | 3, _ => exact codeOf_large aF aS aL w h
end Go.Proofs.YtjpjikfmdaejeaaDoor
