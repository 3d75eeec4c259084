/-
  WHAT THE READING OF AN ARGUMENT GIVES: a graph of the laws' own type is a list of cells in memory.
-/
import Derived.Test.YtiipcgnkfhjpeaaCells
namespace Go.Proofs.Ytiipcgnkfhjpeaa
open Go.RowKit
set_option linter.unusedVariables false
set_option linter.unusedSimpArgs false
section
variable {H : Type} {enc : TypeId × Value → H} {w : World} {base : Nat} {spare : Nat → Bool} {held : Bool}

theorem trod_ints (fuel : Nat) (v : Value) (x : DataW H × List MemPlace) (h : DataW.trod enc Try.prog w base spare held fuel 24 [v] = some x) : ∃ xs, IIn w xs v := by
  have hC : Try.prog.cellsOf 3 = 1 := by kernel_rfl
  rcases DataW.trod_slice Try.underlying24 h with ⟨h0', _⟩ | ⟨a, len, cap, elems, rest, n, hfu, hv, _, hb, hl, hm, hlen, hel, _, _⟩
  · simp only [List.cons.injEq, and_true] at h0'
    exact ⟨[], none, 0, h0', by simp, by simp [maxLen], Or.inl rfl⟩
  · simp only [List.cons.injEq, and_true] at hv
    have key : ∀ i, i < len → ∃ z : Int, w.cell? (a.add (i * 1)) = some (.int .i64 z) := by
      intro i hi
      have hh := hel i hi
      rw [hC] at hh
      obtain ⟨cs, hcs, hd⟩ := Option.bind_eq_some_iff.1 (hh.trans (List.getElem?_eq_getElem (by omega)))
      obtain ⟨_, hl1, hcell⟩ := World.cells?_some hcs
      obtain ⟨p, rfl⟩ : ∃ p, cs = [p] := by
        match cs, hl1 with
        | [p], _ => exact ⟨p, rfl⟩
      obtain ⟨z, e0, _, w0⟩ := DataW.trod_int Try.underlying3 hd
      simp only [List.cons.injEq, and_true] at e0
      have g0 := hcell 0 (by omega)
      exact ⟨z, by rw [← e0]; simpa [Addr.add] using g0⟩
    subst hv
    obtain ⟨f, hfk⟩ := Deep.choose_lt key
    refine ⟨(List.range len).map f, some a, cap, by simp, by simpa using hl, hm, ?_⟩
    by_cases hz : len = 0
    · left; simp [hz]
    right
    obtain ⟨bl, off, spot⟩ := a
    have g0 := hfk 0 (by omega)
    have hspot : spot = none := by simpa [Addr.add] using World.cell?_spot g0
    subst hspot
    refine ⟨bl, off, rfl, by have := cell_lt g0; simpa [Addr.add, Lt] using this, fun i hi => ?_⟩
    simp only [List.length_map, List.length_range] at hi
    have g0 := hfk i hi
    rw [WideShapes.add_plain, Nat.mul_one] at g0
    simpa using g0

theorem trod_lawCells (fuel : Nat) (v : Value) (x : DataW H × List MemPlace) (h : DataW.trod enc Try.prog w base spare held fuel 22 [v] = some x) : ∃ g, CIn w g v := by
  have hC : Try.prog.cellsOf 52 = 3 := by kernel_rfl
  have hC1 : Try.prog.cellsOf 3 = 1 := by kernel_rfl
  have hC2 : Try.prog.cellsOf 24 = 1 := by kernel_rfl
  rcases DataW.trod_slice Try.underlying22 h with ⟨h0', _⟩ | ⟨a, len, cap, elems, rest, n, hfu, hv, _, hb, hl, hm, hlen, hel, _, _⟩
  · simp only [List.cons.injEq, and_true] at h0'
    exact ⟨[], none, 0, h0', by simp, by simp [maxLen], Or.inl rfl⟩
  · simp only [List.cons.injEq, and_true] at hv
    have key : ∀ i, i < len → ∃ d : Ce, ∃ r, w.cell? (a.add (i * 3)) = some (.int .i64 d.op) ∧ w.cell? ((a.add (i * 3)).add 1) = some (.int .i64 d.num) ∧ w.cell? ((a.add (i * 3)).add 2) = some r ∧ I64 d.op ∧ I64 d.num ∧ IntsOn w (Lt w.heap.size) d.kids r := by
      intro i hi
      have hh := hel i hi
      rw [hC] at hh
      obtain ⟨cs, hcs, hd⟩ := Option.bind_eq_some_iff.1 (hh.trans (List.getElem?_eq_getElem (by omega)))
      obtain ⟨_, hl3, hcell⟩ := World.cells?_some hcs
      obtain ⟨p, q, r, rfl⟩ := list3 cs hl3
      obtain ⟨xs, m, hm1, _, _, hxl, hf⟩ := DataW.trod_struct Try.underlying52 hd
      obtain ⟨y0, y1, y2, rfl⟩ := list3 xs (by simpa using hxl)
      have hp := hf 0 _ rfl
      have hq := hf 1 _ rfl
      have hr := hf 2 _ rfl
      simp [hC1, hC2] at hp hq hr
      obtain ⟨no, e0, _, w0⟩ := DataW.trod_int Try.underlying3 hp
      obtain ⟨nn, e1, _, w1⟩ := DataW.trod_int Try.underlying3 hq
      simp only [List.cons.injEq, and_true] at e0 e1
      obtain ⟨xs, hxs⟩ := trod_ints m r y2 hr
      have g0 := hcell 0 (by omega)
      have g1 := hcell 1 (by omega)
      have g2 := hcell 2 (by omega)
      subst e0 e1
      exact ⟨⟨no, nn, xs⟩, r, by simpa [Addr.add] using g0, by simpa using g1, by simpa using g2, bounds_i64 w0, bounds_i64 w1, hxs⟩
    subst hv
    obtain ⟨f, hfk⟩ := Deep.choose_lt key
    refine ⟨(List.range len).map f, some a, cap, by simp, by simpa using hl, hm, ?_⟩
    by_cases hz : len = 0
    · left; simp [hz]
    right
    obtain ⟨bl, off, spot⟩ := a
    obtain ⟨r, g0, _⟩ := hfk 0 (by omega)
    have hspot : spot = none := by simpa [Addr.add] using World.cell?_spot g0
    subst hspot
    refine ⟨bl, off, rfl, by have := cell_lt g0; simpa [Addr.add, Lt] using this, fun i hi => ?_⟩
    simp only [List.length_map, List.length_range] at hi
    obtain ⟨r, g0, g1, g2, g3, g4, g5⟩ := hfk i hi
    rw [WideShapes.add_plain] at g0 g1 g2
    rw [WideShapes.add_plain] at g1 g2
    exact ⟨r, by simpa using g0, by simpa using g1, g2, by simpa using g3, by simpa using g4, by simpa using g5⟩
end
end Go.Proofs.Ytiipcgnkfhjpeaa
