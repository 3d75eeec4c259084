/-
  WHAT THE READING OF AN ARGUMENT GIVES: code of the laws' own type is a list of instructions in memory, each number in its range.
-/
import Derived.Test.YthknbafcnobgdaaInsOn
import Derived.Test.YthknbafcnobgdaaOpen
namespace Go.Proofs.Ythknbafcnobgdaa
open Go.RowKit
set_option linter.unusedVariables false
set_option linter.unusedSimpArgs false
section
variable {H : Type} {enc : TypeId × Value → H} {w : World} {base : Nat} {spare : Nat → Bool} {held : Bool}

theorem trod_lawCode (fuel : Nat) (v : Value) (x : DataW H × List MemPlace) (h : DataW.trod enc Try.prog w base spare held fuel 22 [v] = some x) : ∃ cs, InsIn w cs v ∧ ∀ c ∈ cs, I64 c.op ∧ I64 c.num := by
  have hC : Try.prog.cellsOf 72 = 2 := by kernel_rfl
  have hC1 : Try.prog.cellsOf 3 = 1 := by kernel_rfl
  rcases DataW.trod_slice Try.underlying22 h with ⟨h0', _⟩ | ⟨a, len, cap, elems, rest, n, hfu, hv, _, hb, hl, hm, hlen, hel, _, _⟩
  · simp only [List.cons.injEq, and_true] at h0'
    exact ⟨[], ⟨none, 0, h0', by simp, by simp [maxLen], Or.inl rfl⟩, fun x hx => absurd hx (by simp)⟩
  · simp only [List.cons.injEq, and_true] at hv
    have key : ∀ i, i < len → ∃ d : Ins, (w.cell? (a.add (i * 2)) = some (.int .i64 d.op) ∧ w.cell? ((a.add (i * 2)).add 1) = some (.int .i64 d.num)) ∧ I64 d.op ∧ I64 d.num := by
      intro i hi
      have hh := hel i hi
      rw [hC] at hh
      obtain ⟨cs, hcs, hd⟩ := Option.bind_eq_some_iff.1 (hh.trans (List.getElem?_eq_getElem (by omega)))
      obtain ⟨_, hl2, hcell⟩ := World.cells?_some hcs
      obtain ⟨p, q, rfl⟩ : ∃ p q, cs = [p, q] := by
        match cs, hl2 with
        | [p, q], _ => exact ⟨p, q, rfl⟩
      obtain ⟨xs, m, hm1, _, _, hxl, hf⟩ := DataW.trod_struct Try.underlying72 hd
      obtain ⟨y0, y1, rfl⟩ : ∃ p q, xs = [p, q] := by
        match xs, (by simpa using hxl : xs.length = 2) with
        | [p, q], _ => exact ⟨p, q, rfl⟩
      have hp := hf 0 _ rfl
      have hq := hf 1 _ rfl
      simp [hC1] at hp hq
      obtain ⟨no, e0, _, w0⟩ := DataW.trod_int Try.underlying3 hp
      obtain ⟨nn, e1, _, w1⟩ := DataW.trod_int Try.underlying3 hq
      simp only [List.cons.injEq, and_true] at e0 e1
      have g0 := hcell 0 (by omega)
      have g1 := hcell 1 (by omega)
      subst e0 e1
      exact ⟨⟨no, nn⟩, ⟨by simpa [Addr.add] using g0, by simpa using g1⟩, bounds_i64 w0, bounds_i64 w1⟩
    subst hv
    obtain ⟨f, hfk⟩ := Deep.choose_lt key
    refine ⟨(List.range len).map f, ⟨some a, cap, by simp, by simpa using hl, hm, ?_⟩, fun x hx => ?_⟩
    rotate_left
    · obtain ⟨i, hi, rfl⟩ := List.mem_map.1 hx
      exact (hfk i (List.mem_range.1 hi)).2
    by_cases hz : len = 0
    · left; simp [hz]
    right
    obtain ⟨bl, off, spot⟩ := a
    have g0 := (hfk 0 (by omega)).1.1
    have hspot : spot = none := by simpa [Addr.add] using World.cell?_spot g0
    subst hspot
    refine ⟨bl, off, rfl, by have := cell_lt g0; simpa [Addr.add, Lt] using this, fun i hi => ?_⟩
    simp only [List.length_map, List.length_range] at hi
    obtain ⟨g0, g1⟩ := (hfk i hi).1
    rw [WideShapes.add_plain] at g0 g1
    rw [WideShapes.add_plain] at g1
    exact ⟨by simpa using g0, by simpa using g1⟩
end
end Go.Proofs.Ythknbafcnobgdaa
