/-
  WHAT THE READING OF AN ARGUMENT GIVES: a program of the laws' own type is a list of functions in memory.
-/
import Derived.Test.YtocnkjicmchbdaaDefs
import Derived.Test.YtocnkjicmchbdaaOpen
namespace Go.Proofs.Ytocnkjicmchbdaa
open Go.RowKit
set_option linter.unusedVariables false
set_option linter.unusedSimpArgs false
section
variable {H : Type} {enc : TypeId × Value → H} {w : World} {base : Nat} {spare : Nat → Bool} {held : Bool}

theorem list4 {α : Type} (l : List α) (h : l.length = 4) : ∃ a b c d, l = [a, b, c, d] := by
  match l, h with
  | [a, b, c, d], _ => exact ⟨a, b, c, d, rfl⟩
theorem list2 {α : Type} (l : List α) (h : l.length = 2) : ∃ a b, l = [a, b] := by
  match l, h with
  | [a, b], _ => exact ⟨a, b, rfl⟩

/-- an expression of the laws' own type, of its three cells -/
theorem trod_lawExpr (fuel : Nat) (p q r : Value) (x : DataW H × List MemPlace) (h : DataW.trod enc Try.prog w base spare held fuel 24 [p, q, r] = some x) : ∃ t : Tr, TrOn w (Lt w.heap.size) t p q r := by
  obtain ⟨xs, m, -, -, -, hxl, hf⟩ := DataW.trod_struct Try.underlying24 h
  obtain ⟨y0, y1, y2, rfl⟩ := list3 xs (by simpa using hxl)
  have hp := hf 0 _ rfl
  have hq := hf 1 _ rfl
  have hr := hf 2 _ rfl
  have c1 : Try.prog.cellsOf 3 = 1 := by kernel_rfl
  have c2 : Try.prog.cellsOf 22 = 1 := by kernel_rfl
  simp [c1, c2] at hp hq hr
  obtain ⟨o, e0, _, w0⟩ := DataW.trod_int Try.underlying3 hp
  obtain ⟨n, e1, _, w1⟩ := DataW.trod_int Try.underlying3 hq
  obtain ⟨ks, hk⟩ := trod_lawKids m r y2 hr
  simp only [List.cons.injEq, and_true] at e0 e1
  exact ⟨.node o n ks, trOn_iff.2 ⟨e0, e1, bounds_i64 w0, bounds_i64 w1, hk⟩⟩

theorem trod_lawDefs (fuel : Nat) (v : Value) (x : DataW H × List MemPlace) (h : DataW.trod enc Try.prog w base spare held fuel 37 [v] = some x) : ∃ ds, DIn w ds v := by
  have hC : Try.prog.cellsOf 81 = 4 := by kernel_rfl
  have hC3 : Try.prog.cellsOf 24 = 3 := by kernel_rfl
  have hC1 : Try.prog.cellsOf 3 = 1 := by kernel_rfl
  rcases DataW.trod_slice Try.underlying37 h with ⟨h0', _⟩ | ⟨a, len, cap, elems, rest, n, hfu, hv, _, hb, hl, hm, hlen, hel, _, _⟩
  · simp only [List.cons.injEq, and_true] at h0'
    exact ⟨[], none, 0, h0', by simp, by simp [maxLen], Or.inl rfl⟩
  · simp only [List.cons.injEq, and_true] at hv
    have key : ∀ i, i < len → ∃ d : Df, ∃ p q r s, w.cell? (a.add (i * 4)) = some p ∧ w.cell? ((a.add (i * 4)).add 1) = some q ∧ w.cell? ((a.add (i * 4)).add 2) = some r ∧ w.cell? ((a.add (i * 4)).add 3) = some s ∧ DfOn w (Lt w.heap.size) d p q r s := by
      intro i hi
      have hh := hel i hi
      rw [hC] at hh
      obtain ⟨cs, hcs, hd⟩ := Option.bind_eq_some_iff.1 (hh.trans (List.getElem?_eq_getElem (by omega)))
      obtain ⟨_, hl4, hcell⟩ := World.cells?_some hcs
      obtain ⟨p, q, r, s, rfl⟩ := list4 cs hl4
      obtain ⟨xs, m, hm1, _, _, hxl, hf⟩ := DataW.trod_struct Try.underlying81 hd
      obtain ⟨y0, y1, rfl⟩ := list2 xs (by simpa using hxl)
      have hp := hf 0 _ rfl
      have hq := hf 1 _ rfl
      simp [hC1, hC3] at hp hq
      obtain ⟨na, e0, _, w0⟩ := DataW.trod_int Try.underlying3 hp
      simp only [List.cons.injEq, and_true] at e0
      obtain ⟨t, ht⟩ := trod_lawExpr m q r s y1 hq
      have g0 := hcell 0 (by omega)
      have g1 := hcell 1 (by omega)
      have g2 := hcell 2 (by omega)
      have g3 := hcell 3 (by omega)
      exact ⟨(na, t), p, q, r, s, by simpa [Addr.add] using g0, by simpa using g1, by simpa using g2, by simpa using g3, e0, bounds_i64 w0, ht⟩
    subst hv
    obtain ⟨f, hfk⟩ := Deep.choose_lt key
    refine ⟨(List.range len).map f, some a, cap, by simp, by simpa using hl, hm, ?_⟩
    by_cases hz : len = 0
    · left; simp [hz]
    right
    obtain ⟨bl, off, spot⟩ := a
    obtain ⟨p, q, r, s, g0, _⟩ := hfk 0 (by omega)
    have hspot : spot = none := by simpa [Addr.add] using World.cell?_spot g0
    subst hspot
    refine ⟨bl, off, rfl, by have := cell_lt g0; simpa [Addr.add, Lt] using this, fun i hi => ?_⟩
    simp only [List.length_map, List.length_range] at hi
    obtain ⟨p, q, r, s, g0, g1, g2, g3, g4⟩ := hfk i hi
    rw [WideShapes.add_plain] at g0 g1 g2 g3
    rw [WideShapes.add_plain] at g1 g2 g3
    exact ⟨p, q, r, s, g0, g1, g2, g3, by simpa using g4⟩
end
end Go.Proofs.Ytocnkjicmchbdaa
