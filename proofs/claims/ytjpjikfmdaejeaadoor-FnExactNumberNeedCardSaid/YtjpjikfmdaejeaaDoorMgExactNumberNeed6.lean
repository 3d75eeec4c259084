/-
  THE THREE SENTINELS errFuel, errStuck, errLarge: from the row's condition on what they read as to what the walks ask; a world that meets the condition.
-/
import Derived.Test.YtjpjikfmdaejeaaDoorRows
import Derived.Test.YtjpjikfmdaejeaaDoorMgExactNumberNeed5
import Derived.ChangeSame
import Derived.ChangeVars
import Derived.JoinedOf
import Derived.RowKit
import Derived.LaidLaws
import Derived.LaidHandle
import Derived.Stop.LaidErr
import Derived.Test.YtjpjikfmdaejeaaDoorMgExactNumberNeed1
import Derived.Test.YtjpjikfmdaejeaaDoorProg
namespace Go.Proofs.YtjpjikfmdaejeaaDoor
set_option linter.unusedVariables false
set_option linter.unusedSimpArgs false
open Go.ChangeShapes Go.WideShapes Go.RowKit

theorem gF : Tryd.prog.globalNamed "loop.example/graphreducer/impl.errFuel" = some 1 := by kernel_rfl
theorem gS : Tryd.prog.globalNamed "loop.example/graphreducer/impl.errStuck" = some 2 := by kernel_rfl
theorem gL : Tryd.prog.globalNamed "loop.example/graphreducer/impl.errLarge" = some 3 := by kernel_rfl
theorem tyF : (Tryd.prog.globals[1]?).map (·.type) = some 72 := by kernel_rfl
theorem tyS : (Tryd.prog.globals[2]?).map (·.type) = some 72 := by kernel_rfl
theorem tyL : (Tryd.prog.globals[3]?).map (·.type) = some 72 := by kernel_rfl
theorem esCells : Tryd.prog.cellsOf 210 = 1 := by kernel_rfl
theorem strCells : Tryd.prog.cellsOf 9 = 1 := by kernel_rfl
theorem starE : "*" ++ "errors.errorString" = "*errors.errorString" := by decide
theorem rowE (u : TypeId) (h : Tryd.prog.typeName? 3 u = some "*errors.errorString") : u = 183 :=
  typeName_ptr_named (nm := "errors.errorString") (by rw [starE]; kernel_rfl) (by kernel_rfl) (by decide) u (by rw [starE]; exact h)

/-- what the row lists -/
def laid3 : List (String × DataW Unit) := [("loop.example/graphreducer/impl.errFuel", Rows.laid_loop_example_graphreducer_impl_errFuel), ("loop.example/graphreducer/impl.errStuck", Rows.laid_loop_example_graphreducer_impl_errStuck), ("loop.example/graphreducer/impl.errLarge", Rows.laid_loop_example_graphreducer_impl_errLarge)]
theorem noHandles3 : (laid3.filter fun x => x.2.handleName?.isSome) = [] := by kernel_rfl
theorem laid3_met {W : World} (h : laidMetH Tryd.prog laid3 W) : laidMet Tryd.prog laid3 W := by
  unfold laidMetH at h
  rw [noHandles3] at h
  exact h

/-- the three variables -/
structure Vars3 (aF aS aL : Addr) (W : World) : Prop where
  vF : W.var? Tryd.prog "loop.example/graphreducer/impl.errFuel" = some #[.iface 183 (.pointer (some aF))]
  vS : W.var? Tryd.prog "loop.example/graphreducer/impl.errStuck" = some #[.iface 183 (.pointer (some aS))]
  vL : W.var? Tryd.prog "loop.example/graphreducer/impl.errLarge" = some #[.iface 183 (.pointer (some aL))]
theorem var?_below {P : Program} {W W' : World} {n : String} {cs : Array Value} (h : W.var? P n = some cs) (hb : Below W.heap.size W W') : W'.var? P n = some cs := by
  unfold World.var? at h ⊢
  cases hg : P.globalNamed n with
  | none => simp [hg] at h
  | some g =>
    simp only [hg, Option.bind_some] at h ⊢
    have hlt : g < W.heap.size := by
      rcases Nat.lt_or_ge g W.heap.size with h' | h'
      · exact h'
      · simp [Array.getElem?_eq_none h'] at h
    rw [hb.block g hlt]
    exact h
theorem Vars3.next {aF aS aL : Addr} {W W' : World} (h : Vars3 aF aS aL W) (hb : Below W.heap.size W W') : Vars3 aF aS aL W' := ⟨var?_below h.vF hb, var?_below h.vS hb, var?_below h.vL hb⟩

set_option maxRecDepth 100000 in
theorem sents3 {W : World} (h : laidMetH Tryd.prog laid3 W) : ∃ aF aS aL : Addr, Vars3 aF aS aL W ∧ Errs aF aS aL W := by
  obtain ⟨ps, ⟨g0, t0, cs0, f0, p0, q0, hg0, ht0, hv0, hd0, ⟨g1, t1, cs1, f1, p1, q1, hg1, ht1, hv1, hd1, ⟨g2, t2, cs2, f2, p2, q2, hg2, ht2, hv2, hd2, hq2, e2⟩, e1⟩, e0⟩, hnd, hrows⟩ := laid3_met h
  obtain rfl := Option.some.inj (gF.symm.trans hg0)
  obtain rfl := Option.some.inj (gS.symm.trans hg1)
  obtain rfl := Option.some.inj (gL.symm.trans hg2)
  obtain rfl := Option.some.inj (tyF.symm.trans ht0)
  obtain rfl := Option.some.inj (tyS.symm.trans ht1)
  obtain rfl := Option.some.inj (tyL.symm.trans ht2)
  have hq2' : q2 = [] := hq2
  subst hq2'
  subst e2
  subst e1
  subst e0
  obtain ⟨l0⟩ := cs0
  obtain ⟨l1⟩ := cs1
  obtain ⟨l2⟩ := cs2
  have ok0 : ∀ u v, l0 = [.iface u v] → Value.okWide Tryd.prog W .any 0 u v := fun u v e => by
    subst e
    exact (hrows 1 0 (by simp [MemPlace.row])).2 u v (by simpa using World.var?_cell hg0 hv0 0)
  have ok1 : ∀ u v, l1 = [.iface u v] → Value.okWide Tryd.prog W .any 0 u v := fun u v e => by
    subst e
    exact (hrows 2 0 (by simp [MemPlace.row])).2 u v (by simpa using World.var?_cell hg1 hv1 0)
  have ok2 : ∀ u v, l2 = [.iface u v] → Value.okWide Tryd.prog W .any 0 u v := fun u v e => by
    subst e
    exact (hrows 3 0 (by simp [MemPlace.row])).2 u v (by simpa using World.var?_cell hg2 hv2 0)
  obtain ⟨a0, s0, rfl, hc0, hs0, hz0, rfl⟩ := errorString_of_trod Tryd.underlying72 rowE Tryd.underlying183 Tryd.underlying210 rfl rfl Tryd.underlying9 esCells strCells hd0 ok0
  obtain ⟨a1, s1, rfl, hc1, hs1, hz1, rfl⟩ := errorString_of_trod Tryd.underlying72 rowE Tryd.underlying183 Tryd.underlying210 rfl rfl Tryd.underlying9 esCells strCells hd1 ok1
  obtain ⟨a2, s2, rfl, hc2, hs2, hz2, rfl⟩ := errorString_of_trod Tryd.underlying72 rowE Tryd.underlying183 Tryd.underlying210 rfl rfl Tryd.underlying9 esCells strCells hd2 ok2
  have hb0 := (hrows a0.block a0.off (by simp [MemPlace.row])).1
  have hb1 := (hrows a1.block a1.off (by simp [MemPlace.row])).1
  have hb2 := (hrows a2.block a2.off (by simp [MemPlace.row])).1
  refine ⟨a0, a1, a2, ⟨hv0, hv1, hv2⟩, ⟨by simpa using World.var?_cell hg0 hv0 0, by simpa using World.var?_cell hg1 hv1 0, by simpa using World.var?_cell hg2 hv2 0, hb0, hb1, hb2, ?_, ?_, ?_⟩⟩
  · rintro rfl; simp [MemPlace.row] at hnd
  · rintro rfl; simp [MemPlace.row] at hnd
  · rintro rfl; simp [MemPlace.row] at hnd

/-! ### A world that meets the condition -/
abbrev strF : ByteArray := { data := #[110, 111, 32, 102, 117, 101, 108, 32, 105, 115, 32, 108, 101, 102, 116] }
abbrev strS : ByteArray := { data := #[116, 104, 101, 114, 101, 32, 105, 115, 32, 110, 111, 32, 115, 116, 101, 112] }
abbrev strL : ByteArray := { data := #[116, 104, 101, 32, 114, 101, 115, 117, 108, 116, 32, 105, 115, 32, 116, 111, 111, 32, 108, 97, 114, 103, 101] }
noncomputable def low : Nat := (World.holding Tryd.prog default ⟨#[], #[], []⟩).heap.size
noncomputable def laidWorld3 (os : Os) : World :=
  let w0 := World.holding Tryd.prog os ⟨#[.cells #[.string strF] 210, .cells #[.string strS] 210, .cells #[.string strL] 210], #[], []⟩
  { w0 with heap := ((w0.heap.modify 1 fun
      | .cells _ t frozen => .cells #[.iface 183 (.pointer (some ⟨low, 0, none⟩))] t frozen
      | o => o).modify 2 fun
      | .cells _ t frozen => .cells #[.iface 183 (.pointer (some ⟨low + 1, 0, none⟩))] t frozen
      | o => o).modify 3 fun
      | .cells _ t frozen => .cells #[.iface 183 (.pointer (some ⟨low + 2, 0, none⟩))] t frozen
      | o => o }
set_option maxRecDepth 100000 in
theorem laidWorld3_met (os : Os) (args : Array Value) : laidMetH Tryd.prog laid3 ((laidWorld3 os).forCall (fun _ _ => 0) ⟨#[], args, []⟩).memory := by
  unfold laidMetH
  rw [noHandles3]
  exact laidMet_of_run (ps := [.cell 1 0, .cell low 0, .cell 2 0, .cell (low + 1) 0, .cell 3 0, .cell (low + 2) 0]) 8 (by kernel_rfl) (by kernel_rfl) (by kernel_rfl)

/-- one named variable read again as a token, ahead of others -/
theorem vars_cons {H : Type} (enc : TypeId × Value → H) {P : Program} {W : World} {n : String} {g : Nat} {ti : TypeId} {ms : Array (String × TypeId)} {x : Value} {ns : List String} {ts : List (DataW H)} {ps : List MemPlace} {sp : Nat → Bool}
    (hg : P.globalNamed n = some g) (ht : (P.globals[g]?).map (·.type) = some ti) (hi : P.underlying ti = some (.interface ms)) (h : W.var? P n = some #[x]) (ix : IsIface x) (hr : DataW.TrodVars enc P W sp ns ts ps) :
    DataW.TrodVars enc P W sp (n :: ns) (tok enc x :: ts) (.cell g 0 :: ps) :=
  ⟨g, ti, #[x], 1, [], ps, hg, ht, h, trod_held hi ix 0, hr, rfl⟩
theorem vars_nil {H : Type} (enc : TypeId × Value → H) {P : Program} {W : World} {sp : Nat → Bool} : DataW.TrodVars enc P W sp [] [] [] := rfl
end Go.Proofs.YtjpjikfmdaejeaaDoor
/-
  FOUR SENTINELS: errInvalid beside the three; and the program's codeOf of it.
-/
namespace Go.Proofs.YtjpjikfmdaejeaaDoor
set_option linter.unusedVariables false
set_option linter.unusedSimpArgs false
open Go.RowKit Go.Extern.Stop Go.Stop Go.Extern

structure Errs4 (aF aS aL aI : Addr) (w : World) : Prop where
  e3 : Errs aF aS aL w
  cI : w.cell? ⟨0, 0, none⟩ = some (.iface 183 (.pointer (some aI)))
  bI : ∃ c t, w.heap[aI.block]? = some (.cells c t (0, 0))
  nFI : aF ≠ aI
  nSI : aS ≠ aI
  nLI : aL ≠ aI
theorem Errs4.next {aF aS aL aI : Addr} {w w' : World} (h : Errs4 aF aS aL aI w) (hb : Below w.heap.size w w') : Errs4 aF aS aL aI w' :=
  ⟨h.e3.next hb, (hb.cell (cell_lt h.cI)).trans h.cI, blk_next hb h.bI, h.nFI, h.nSI, h.nLI⟩
def errW (aF aS aL aI : Addr) (k : Nat) : Value := if k = 4 then .iface 183 (.pointer (some aI)) else errV aF aS aL k
set_option maxHeartbeats 800000 in
theorem codeOf_invalid (aF aS aL aI : Addr) (w : World) (h : Errs4 aF aS aL aI w) : Calls Tryd.prog 39 #[.iface 183 (.pointer (some aI))] w fun e w' => e = .returned (.int .i64 4) ∧ w' = w := by
  have cF := h.e3.cF
  have cS := h.e3.cS
  have cL := h.e3.cL
  obtain ⟨ca, ta, ha⟩ := h.e3.bF
  obtain ⟨cb, tb, hb⟩ := h.e3.bS
  obtain ⟨cc, tc, hc⟩ := h.e3.bL
  obtain ⟨cd, td, hd⟩ := h.bI
  have HA := mkHid ha
  have HB := mkHid hb
  have HC := mkHid hc
  have HD := mkHid hd
  have HN := mkHid (Ne.symm h.nFI)
  have HM := mkHid (Ne.symm h.nSI)
  have HL := mkHid (Ne.symm h.nLI)
  clear h ha hb hc hd
  go_enter Tryd.func39, Tryd.ntmps39
  go_wp2_with fail
  refine (is_other aI aF cd ca td ta _ HN.out HD.out HA.out).mono ?_
  rintro e w' ⟨rfl, rfl⟩
  go_wp2_with fail
  refine (is_other aI aS cd cb td tb _ HM.out HD.out HB.out).mono ?_
  rintro e w' ⟨rfl, rfl⟩
  go_wp2_with fail
  refine (is_other aI aL cd cc td tc _ HL.out HD.out HC.out).mono ?_
  rintro e w' ⟨rfl, rfl⟩
  go_wp2_with fail
  go_ret
  exact ⟨rfl, rfl⟩
end Go.Proofs.YtjpjikfmdaejeaaDoor
/-
  THE FOUR SENTINELS errFuel, errStuck, errLarge, errInvalid: from the row's condition on what they read as to what the walks ask; a world that meets the condition.
-/
namespace Go.Proofs.YtjpjikfmdaejeaaDoor
set_option linter.unusedVariables false
set_option linter.unusedSimpArgs false
open Go.ChangeShapes Go.WideShapes Go.RowKit

theorem gI : Tryd.prog.globalNamed "loop.example/graphreducer/impl.errInvalid" = some 0 := by kernel_rfl
theorem tyI : (Tryd.prog.globals[0]?).map (·.type) = some 72 := by kernel_rfl
/-- what the row lists -/
def laid4 : List (String × DataW Unit) := [("loop.example/graphreducer/impl.errFuel", Rows.laid_loop_example_graphreducer_impl_errFuel), ("loop.example/graphreducer/impl.errStuck", Rows.laid_loop_example_graphreducer_impl_errStuck), ("loop.example/graphreducer/impl.errLarge", Rows.laid_loop_example_graphreducer_impl_errLarge), ("loop.example/graphreducer/impl.errInvalid", Rows.laid_loop_example_graphreducer_impl_errInvalid)]
theorem noHandles4 : (laid4.filter fun x => x.2.handleName?.isSome) = [] := by kernel_rfl
theorem laid4_met {W : World} (h : laidMetH Tryd.prog laid4 W) : laidMet Tryd.prog laid4 W := by
  unfold laidMetH at h
  rw [noHandles4] at h
  exact h
/-- the four variables -/
structure Vars4 (aF aS aL aI : Addr) (W : World) : Prop where
  vF : W.var? Tryd.prog "loop.example/graphreducer/impl.errFuel" = some #[.iface 183 (.pointer (some aF))]
  vS : W.var? Tryd.prog "loop.example/graphreducer/impl.errStuck" = some #[.iface 183 (.pointer (some aS))]
  vL : W.var? Tryd.prog "loop.example/graphreducer/impl.errLarge" = some #[.iface 183 (.pointer (some aL))]
  vI : W.var? Tryd.prog "loop.example/graphreducer/impl.errInvalid" = some #[.iface 183 (.pointer (some aI))]
theorem Vars4.next {aF aS aL aI : Addr} {W W' : World} (h : Vars4 aF aS aL aI W) (hb : Below W.heap.size W W') : Vars4 aF aS aL aI W' := ⟨var?_below h.vF hb, var?_below h.vS hb, var?_below h.vL hb, var?_below h.vI hb⟩

set_option maxRecDepth 100000 in
theorem sents4 {W : World} (h : laidMetH Tryd.prog laid4 W) : ∃ aF aS aL aI : Addr, Vars4 aF aS aL aI W ∧ Errs4 aF aS aL aI W := by
  obtain ⟨ps, ⟨g0, t0, cs0, f0, p0, q0, hg0, ht0, hv0, hd0, ⟨g1, t1, cs1, f1, p1, q1, hg1, ht1, hv1, hd1, ⟨g2, t2, cs2, f2, p2, q2, hg2, ht2, hv2, hd2, ⟨g3, t3, cs3, f3, p3, q3, hg3, ht3, hv3, hd3, hq3, e3⟩, e2⟩, e1⟩, e0⟩, hnd, hrows⟩ := laid4_met h
  obtain rfl := Option.some.inj (gF.symm.trans hg0)
  obtain rfl := Option.some.inj (gS.symm.trans hg1)
  obtain rfl := Option.some.inj (gL.symm.trans hg2)
  obtain rfl := Option.some.inj (gI.symm.trans hg3)
  obtain rfl := Option.some.inj (tyF.symm.trans ht0)
  obtain rfl := Option.some.inj (tyS.symm.trans ht1)
  obtain rfl := Option.some.inj (tyL.symm.trans ht2)
  obtain rfl := Option.some.inj (tyI.symm.trans ht3)
  have hq3' : q3 = [] := hq3
  subst hq3'
  subst e3
  subst e2
  subst e1
  subst e0
  obtain ⟨l0⟩ := cs0
  obtain ⟨l1⟩ := cs1
  obtain ⟨l2⟩ := cs2
  obtain ⟨l3⟩ := cs3
  have ok0 : ∀ u v, l0 = [.iface u v] → Value.okWide Tryd.prog W .any 0 u v := fun u v e => by
    subst e
    exact (hrows 1 0 (by simp [MemPlace.row])).2 u v (by simpa using World.var?_cell hg0 hv0 0)
  have ok1 : ∀ u v, l1 = [.iface u v] → Value.okWide Tryd.prog W .any 0 u v := fun u v e => by
    subst e
    exact (hrows 2 0 (by simp [MemPlace.row])).2 u v (by simpa using World.var?_cell hg1 hv1 0)
  have ok2 : ∀ u v, l2 = [.iface u v] → Value.okWide Tryd.prog W .any 0 u v := fun u v e => by
    subst e
    exact (hrows 3 0 (by simp [MemPlace.row])).2 u v (by simpa using World.var?_cell hg2 hv2 0)
  have ok3 : ∀ u v, l3 = [.iface u v] → Value.okWide Tryd.prog W .any 0 u v := fun u v e => by
    subst e
    exact (hrows 0 0 (by simp [MemPlace.row])).2 u v (by simpa using World.var?_cell hg3 hv3 0)
  obtain ⟨a0, s0, rfl, hc0, hs0, hz0, rfl⟩ := errorString_of_trod Tryd.underlying72 rowE Tryd.underlying183 Tryd.underlying210 rfl rfl Tryd.underlying9 esCells strCells hd0 ok0
  obtain ⟨a1, s1, rfl, hc1, hs1, hz1, rfl⟩ := errorString_of_trod Tryd.underlying72 rowE Tryd.underlying183 Tryd.underlying210 rfl rfl Tryd.underlying9 esCells strCells hd1 ok1
  obtain ⟨a2, s2, rfl, hc2, hs2, hz2, rfl⟩ := errorString_of_trod Tryd.underlying72 rowE Tryd.underlying183 Tryd.underlying210 rfl rfl Tryd.underlying9 esCells strCells hd2 ok2
  obtain ⟨a3, s3, rfl, hc3, hs3, hz3, rfl⟩ := errorString_of_trod Tryd.underlying72 rowE Tryd.underlying183 Tryd.underlying210 rfl rfl Tryd.underlying9 esCells strCells hd3 ok3
  have hb0 := (hrows a0.block a0.off (by simp [MemPlace.row])).1
  have hb1 := (hrows a1.block a1.off (by simp [MemPlace.row])).1
  have hb2 := (hrows a2.block a2.off (by simp [MemPlace.row])).1
  have hb3 := (hrows a3.block a3.off (by simp [MemPlace.row])).1
  refine ⟨a0, a1, a2, a3, ⟨hv0, hv1, hv2, hv3⟩, ⟨⟨by simpa using World.var?_cell hg0 hv0 0, by simpa using World.var?_cell hg1 hv1 0, by simpa using World.var?_cell hg2 hv2 0, hb0, hb1, hb2, ?_, ?_, ?_⟩, by simpa using World.var?_cell hg3 hv3 0, hb3, ?_, ?_, ?_⟩⟩
  · rintro rfl; simp [MemPlace.row] at hnd
  · rintro rfl; simp [MemPlace.row] at hnd
  · rintro rfl; simp [MemPlace.row] at hnd
  · rintro rfl; simp [MemPlace.row] at hnd
  · rintro rfl; simp [MemPlace.row] at hnd
  · rintro rfl; simp [MemPlace.row] at hnd

/-! ### A world that meets the condition -/
abbrev strI : ByteArray := { data := #[116, 104, 101, 32, 97, 114, 103, 117, 109, 101, 110, 116, 115, 32, 97, 114, 101, 32, 110, 111, 116, 32, 118, 97, 108, 105, 100] }
noncomputable def laidWorld4 (os : Os) : World :=
  let w0 := World.holding Tryd.prog os ⟨#[.cells #[.string strF] 210, .cells #[.string strS] 210, .cells #[.string strL] 210, .cells #[.string strI] 210], #[], []⟩
  { w0 with heap := (((w0.heap.modify 1 fun
      | .cells _ t frozen => .cells #[.iface 183 (.pointer (some ⟨low, 0, none⟩))] t frozen
      | o => o).modify 2 fun
      | .cells _ t frozen => .cells #[.iface 183 (.pointer (some ⟨low + 1, 0, none⟩))] t frozen
      | o => o).modify 3 fun
      | .cells _ t frozen => .cells #[.iface 183 (.pointer (some ⟨low + 2, 0, none⟩))] t frozen
      | o => o).modify 0 fun
      | .cells _ t frozen => .cells #[.iface 183 (.pointer (some ⟨low + 3, 0, none⟩))] t frozen
      | o => o }
set_option maxRecDepth 100000 in
theorem laidWorld4_met (os : Os) (args : Array Value) : laidMetH Tryd.prog laid4 ((laidWorld4 os).forCall (fun _ _ => 0) ⟨#[], args, []⟩).memory := by
  unfold laidMetH
  rw [noHandles4]
  exact laidMet_of_run (ps := [.cell 1 0, .cell low 0, .cell 2 0, .cell (low + 1) 0, .cell 3 0, .cell (low + 2) 0, .cell 0 0, .cell (low + 3) 0]) 8 (by kernel_rfl) (by kernel_rfl) (by kernel_rfl)
end Go.Proofs.YtjpjikfmdaejeaaDoor
/-
  make, OF SO MANY INTS: a new row of zeros.
-/
namespace Go.Proofs.YtjpjikfmdaejeaaDoor
set_option linter.unusedVariables false
set_option linter.unusedSimpArgs false
open Go.RowKit

theorem infoI : (Tryd.prog.info? 3).map (fun i => (i.zero, i.size, i.bytes)) = some (some (.int .i64 0), 1, 8) := by kernel_rfl
/-- make, of so many ints: a new row of zeros -/
theorem make_ints (n : Nat) (h : n ≤ 1048576) : ∀ w : World, (Instr.makeSlice 62 (.int .i64 (n : Int)) (.int .i64 (n : Int))).run Tryd.prog w = .ok (.slice (some ⟨w.heap.size, 0, none⟩) n n) (w.alloc (.cells (madeCells #[.int .i64 0] n) 3)) := by
  obtain ⟨i, hi, hzz⟩ := Option.map_eq_some_iff.1 infoI
  simp only [Prod.mk.injEq] at hzz
  obtain ⟨hz, hs, hb⟩ := hzz
  intro w
  have hr := run_make (P := Tryd.prog) w 62 3 i _ Tryd.underlying62 hi hz .i64 .i64 n n (by omega) (Int.le_refl _) (by rw [hb]; omega) (by omega)
  simp only [Int.toNat_natCast, hs, Nat.mul_one] at hr
  exact hr
theorem zero_row (w : World) (n : Nat) : (w.alloc (.cells (madeCells #[.int .i64 0] n) 3)).rowIs w.heap.size 3 n (fun i => .int .i64 (((fun _ => 0 : Nat → Nat) i : Nat) : Int)) := by
  have hl : (madeCells #[.int .i64 0] n).toList = List.replicate n (.int .i64 0) := toList_madeCells_one _ _
  have hsz : (madeCells #[.int .i64 0] n).size = n := by rw [← Array.length_toList, hl, List.length_replicate]
  refine ⟨_, Deep.blk_alloc_new _ _, hsz, fun i hi => ?_⟩
  rw [← Array.getElem?_toList, hl, List.getElem?_replicate, if_pos hi]
  rfl
end Go.Proofs.YtjpjikfmdaejeaaDoor
