/-
  THE MODEL's l3Copy: a copy of a graph, in new memory.
-/
import Derived.Test.YtidijbnoaeopdaaMgExactStartRun10
import Derived.Test.YtidijbnoaeopdaaMgExactStartRun15
import Derived.Test.YtidijbnoaeopdaaMgExactStartRun4
import Derived.Deep.DeepCutAuto
import Derived.Deep.RegionWith
import Derived.Deep.RegionHeld3
import Derived.Test.YtidijbnoaeopdaaMgExactStartRun13
import Derived.Laws.OwnMore
import Derived.Test.YtidijbnoaeopdaaMgExactStartRun5
import Derived.Deep.LoopGhost
namespace Go.Proofs.Ytidijbnoaeopdaa
set_option linter.unusedVariables false
set_option linter.unusedSimpArgs false
open Go.RowKit

end Go.Proofs.Ytidijbnoaeopdaa
/-
  THE MODEL's l5Copy: a copy of the cells in their order.
-/
namespace Go.Proofs.Ytidijbnoaeopdaa
set_option linter.unusedVariables false
set_option linter.unusedSimpArgs false
open Go.RowKit

theorem OwnC.lower {w : World} {lo lo' : Nat} {S S' : Nat → Prop} {g : List Ce} {v : Value} (h : OwnC w lo S g v) (hl : lo' ≤ lo) (hS : ∀ b, S b → S' b) : OwnC w lo' S' g v := by
  obtain ⟨h0, xs, kb, h1, h2, h3⟩ := h
  refine ⟨h0, xs, kb, ⟨h1.1, ?_⟩, fun j hj => ?_, h3⟩
  · rcases h1.2 with h | ⟨b, cap, cur, rfl, hg, r⟩
    · exact Or.inl h
    · exact Or.inr ⟨b, cap, cur, rfl, Nat.le_trans hl hg, r⟩
  · obtain ⟨kv, e0, e1, e2, e3⟩ := h2 j hj
    exact ⟨kv, e0, e1, e2, e3.keep (fun k hk _ => hS k hk) fun _ _ _ _ => rfl⟩
end Go.Proofs.Ytidijbnoaeopdaa
/-
  THE MODEL's l5Right: a graph and some of its cells.
-/
namespace Go.Proofs.Ytidijbnoaeopdaa
set_option linter.unusedVariables false
set_option linter.unusedSimpArgs false
open Go.RowKit

end Go.Proofs.Ytidijbnoaeopdaa
/-
  THE MODEL's CopyOrder AND CopyGraph.
-/
namespace Go.Proofs.Ytidijbnoaeopdaa
set_option linter.unusedVariables false
set_option linter.unusedSimpArgs false
open Go.RowKit

end Go.Proofs.Ytidijbnoaeopdaa
/-
  THE MODEL's l5Skip: past indirections.
-/
namespace Go.Proofs.Ytidijbnoaeopdaa
set_option linter.unusedVariables false
set_option linter.unusedSimpArgs false
open Go.RowKit

end Go.Proofs.Ytidijbnoaeopdaa
/-
  AN OPERAND OF A CELL OF A GRAPH THAT IS BEING BUILT, OVERWRITTEN.
-/
namespace Go.Proofs.Ytidijbnoaeopdaa
set_option linter.unusedVariables false
set_option linter.unusedSimpArgs false
open Go.RowKit

/-- a cell with one operand overwritten -/
def setKid (g : List Ce) (i q : Nat) (y : Int) : List Ce := g.modify i fun c => ⟨c.op, c.num, c.kids.set q y⟩
theorem setKid_len (g : List Ce) (i q : Nat) (y : Int) : (setKid g i q y).length = g.length := by simp [setKid]
theorem setKid_at (g : List Ce) (i q : Nat) (y : Int) (j : Nat) (hj : j < g.length) : (setKid g i q y)[j]'(by rw [setKid_len]; exact hj) = if i = j then ⟨g[j].op, g[j].num, g[j].kids.set q y⟩ else g[j] := by
  unfold setKid; rw [List.getElem_modify]
theorem setKid_op (g : List Ce) (i q : Nat) (y : Int) (j : Nat) (hj : j < g.length) : ((setKid g i q y)[j]'(by rw [setKid_len]; exact hj)).op = g[j].op ∧ ((setKid g i q y)[j]'(by rw [setKid_len]; exact hj)).num = g[j].num ∧ ((setKid g i q y)[j]'(by rw [setKid_len]; exact hj)).kids.length = g[j].kids.length := by
  rw [setKid_at g i q y j hj]; split <;> simp
theorem nil_len {α : Type} {l : List α} : l = [] ↔ l.length = 0 := List.length_eq_zero_iff.symm
/-- where an operand lies -/
theorem OwnC.kidAt {w : World} {lo : Nat} {S : Nat → Prop} {g : List Ce} {v : Value} (h : OwnC w lo S g v) (i : Nat) (hi : i < g.length) (q : Nat) (hq : q < g[i].kids.length) :
    ∃ b cap blk capk, v = .slice (some ⟨b, 0, none⟩) g.length cap ∧ lo ≤ b ∧ b < w.heap.size ∧ S blk ∧ blk < w.heap.size ∧ b ≠ blk ∧ g[i].kids.length ≤ capk ∧ capk ≤ maxLen ∧ w.cell? ⟨b, i * 3 + 2, none⟩ = some (.slice (some ⟨blk, 0, none⟩) g[i].kids.length capk) ∧
      w.cell? ⟨blk, q, none⟩ = some (.int .i64 g[i].kids[q]) ∧ w.frozen? ⟨blk, q, none⟩ = false ∧ ∀ y, OwnC (w.setCell ⟨blk, q, none⟩ (.int .i64 y)) lo S (setKid g i q y) v := by
  obtain ⟨hi0, xs, kb, h1, h2, h3⟩ := h
  obtain ⟨kv, e0, e1, e2, adk, capk, rfl, l1, l2, h5⟩ := h2 i hi
  rcases h5 with h5 | ⟨f, rfl, hS, hr, hf⟩
  · rw [h5] at hq; simp at hq
  obtain ⟨C, hC, -, -⟩ := id hr
  have hne : ∀ k, some k = v.ownBlock → k ≠ kb i := by
    rintro k e rfl
    rcases h1.2 with ⟨rfl, -⟩ | ⟨b, cap, cur, rfl, -, hh, -⟩
    · simp [Value.ownBlock] at e
    · simp only [Value.ownBlock, Option.some.injEq] at e
      rw [e, hh] at hC
      simp at hC
  obtain ⟨b, cap, rfl, hlo, hbl⟩ : ∃ b cap, v = .slice (some ⟨b, 0, none⟩) g.length cap ∧ lo ≤ b ∧ b < w.heap.size := by
    rcases h1.2 with ⟨rfl, h0⟩ | ⟨b, cap, cur, rfl, hg, hh, -⟩
    · omega
    · exact ⟨b, cap, rfl, hg, (Array.getElem?_eq_some_iff.1 hh).1⟩
  have hcell := h1.cellAt (i * 3 + 2) (by omega)
  have hfq := hr.cell (i := q) (by omega)
  rw [hf q hq] at hfq
  refine ⟨b, cap, kb i, capk, rfl, hlo, hbl, hS, hr.lt, hne b rfl, l1, l2, ?_, hfq, hr.frozen q, fun y => ?_⟩
  · rw [hcell]; exact e2
  have keepb : ∀ k, k ≠ kb i → (w.setCell ⟨kb i, q, none⟩ (.int .i64 y)).heap[k]? = w.heap[k]? := fun k hk => Below.heap_setCell _ _ _ _ hk
  refine ⟨fun j hj => ?_, xs, kb, ?_, fun j hj => ?_, ?_⟩
  · have hj2 : j < g.length := by rw [setKid_len] at hj; exact hj
    obtain ⟨a1, a2, -⟩ := setKid_op g i q y j hj2
    rw [a1, a2]; exact hi0 j hj2
  · rw [setKid_len]
    refine ⟨h1.1, ?_⟩
    rcases h1.2 with h | ⟨b2, cap2, cur, e, hg, hh, r⟩
    · exact Or.inl h
    · exact Or.inr ⟨b2, cap2, cur, e, hg, (keepb b2 (hne b2 (by rw [e]; rfl))).trans hh, r⟩
  · have hj2 : j < g.length := by rw [setKid_len] at hj; exact hj
    obtain ⟨a1, a2, a3⟩ := setKid_op g i q y j hj2
    obtain ⟨kv2, f0, f1, f2, f3⟩ := h2 j hj2
    refine ⟨kv2, by rw [a1]; exact f0, by rw [a2]; exact f1, f2, ?_⟩
    obtain ⟨ad2, cap2, rfl, m1, m2, f5⟩ := f3
    refine ⟨ad2, cap2, by rw [a3], by rw [a3]; exact m1, m2, ?_⟩
    rcases f5 with f5 | ⟨f', rfl, hS', hr', hf'⟩
    · exact Or.inl (nil_len.2 (by rw [a3, f5]; rfl))
    · by_cases hji : j = i
      · subst hji
        have hc2 : cap2 = capk := by
          rw [e2] at f2
          simp only [Option.some.injEq, Value.slice.injEq] at f2
          exact f2.2.2.symm
        subst hc2
        refine Or.inr ⟨fun x => if x = q then .int .i64 y else f x, rfl, hS, hr.set q _, fun x hx => ?_⟩
        rw [a3] at hx
        simp only [setKid_at g j q y j hj2, if_pos, List.getElem_set]
        by_cases e : x = q
        · rw [if_pos e, if_pos e.symm]
        · rw [if_neg e, if_neg (fun h => e h.symm)]; exact hf x hx
      · have hkk : g[j].kids = [] ∨ kb j ≠ kb i := by
          by_cases hn : g[j].kids = []
          · exact Or.inl hn
          · exact Or.inr (h3 j i hj2 hi hji hn (fun e => by rw [e] at hq; simp at hq))
        rcases hkk with hkk | hkk
        · exact Or.inl (nil_len.2 (by rw [a3, hkk]; rfl))
        · refine Or.inr ⟨f', rfl, hS', hr'.of_block (keepb _ hkk), fun x hx => ?_⟩
          simp only [setKid_at g i q y j hj2, if_neg (fun e : i = j => hji e.symm)] at hx ⊢
          exact hf' x hx
  · intro a b ha hb hab ea eb
    rw [setKid_len] at ha hb
    refine h3 a b ha hb hab (fun e => ea (nil_len.2 ?_)) (fun e => eb (nil_len.2 ?_))
    · rw [(setKid_op g i q y a ha).2.2, e]; rfl
    · rw [(setKid_op g i q y b hb).2.2, e]; rfl
end Go.Proofs.Ytidijbnoaeopdaa
/-
  PLAIN: operands replaced one by one by the cells for which they stand. No program is named here.
-/
namespace Go.Proofs.Ytidijbnoaeopdaa
set_option linter.unusedVariables false
set_option linter.unusedSimpArgs false

end Go.Proofs.Ytidijbnoaeopdaa
/-
  THE MODEL's l5Short: operands past indirections, in place on a copy.
-/
namespace Go.Proofs.Ytidijbnoaeopdaa
set_option linter.unusedVariables false
set_option linter.unusedSimpArgs false
open Go.RowKit

theorem CellsOn.at' {w : World} {g : List Ce} {v : Value} (h : CIn w g v) (i : Nat) (hi : i < g.length) :
    ∃ bl off c, v = .slice (some ⟨bl, off, none⟩) g.length (match v with | .slice _ _ c => c | _ => 0) ∧ w.cell? ⟨bl, off + i * 3, none⟩ = some (.int .i64 g[i].op) ∧ w.cell? ⟨bl, off + i * 3 + 1, none⟩ = some (.int .i64 g[i].num) ∧ w.cell? ⟨bl, off + i * 3 + 2, none⟩ = some c ∧ I64 g[i].op ∧ I64 g[i].num ∧ IIn w g[i].kids c := by
  obtain ⟨ad, cap, rfl, l1, l2, h5⟩ := id h
  obtain ⟨bl, off, c, rfl, r⟩ := CellsOn.at h i hi
  exact ⟨bl, off, c, rfl, r⟩

end Go.Proofs.Ytidijbnoaeopdaa
/-
  THE MODEL's l5Collect AND CollectGraph.
-/
namespace Go.Proofs.Ytidijbnoaeopdaa
set_option linter.unusedVariables false
set_option linter.unusedSimpArgs false
open Go.RowKit

end Go.Proofs.Ytidijbnoaeopdaa
/-
  A CELL OF A GRAPH THAT IS BEING BUILT, OVERWRITTEN.
-/
namespace Go.Proofs.Ytidijbnoaeopdaa
set_option linter.unusedVariables false
set_option linter.unusedSimpArgs false
open Go.RowKit

end Go.Proofs.Ytidijbnoaeopdaa
/-
  A CELL OF A GRAPH OF ONE's OWN BECOMES AN INDIRECTION, in memory.
-/
namespace Go.Proofs.Ytidijbnoaeopdaa
set_option linter.unusedVariables false
set_option linter.unusedSimpArgs false
open Go.RowKit

end Go.Proofs.Ytidijbnoaeopdaa
/-
  THE MODEL's l5Select AND SelectGraph.
-/
namespace Go.Proofs.Ytidijbnoaeopdaa
set_option linter.unusedVariables false
set_option linter.unusedSimpArgs false
open Go.RowKit

/-- what holds at a cell of a round -/
structure SlRel (g : List Ce) (lo : Nat) (v : Value) (w : World) (m0 k m : Nat) (c : Bool) (G : List Ce) (wr : World) : Prop where
  rel : SelR g G m
  own : OwnC wr lo (fun b => lo ≤ b) G v
  bel : Below lo w wr
  le : m0 ≤ m
  yes : c = true → m0 < m
  no : c = false → m = m0 ∧ ∀ j < k, ∀ q, ¬ Enabled G j q
theorem SlRel.skip {g G : List Ce} {lo m0 k m : Nat} {v : Value} {w wr wr' : World} {c : Bool} (h : SlRel g lo v w m0 k m c G wr) (hb : Below wr.heap.size wr wr') (hl : lo ≤ wr.heap.size) (hn : ∀ q, ¬ Enabled G k q) : SlRel g lo v w m0 (k + 1) m c G wr' :=
  ⟨h.rel, h.own.next (fun _ h _ => h) (fun k _ hz => hb.block k hz) (fun k _ hz => hb.block k hz), h.bel.trans (hb.mono hl), h.le, h.yes, fun e => ⟨(h.no e).1, fun j hj => by
    rcases Nat.lt_or_ge j k with h1 | h1
    · exact (h.no e).2 j h1
    · obtain rfl : j = k := by omega
      exact hn⟩⟩

end Go.Proofs.Ytidijbnoaeopdaa
/-
  THE MODEL's TidyGraph.
-/
namespace Go.Proofs.Ytidijbnoaeopdaa
set_option linter.unusedVariables false
set_option linter.unusedSimpArgs false
open Go.RowKit

end Go.Proofs.Ytidijbnoaeopdaa
/-
  THE MODEL's l4Spine: the function of nested applications of a graph, and the cells of these.
-/
namespace Go.Proofs.Ytidijbnoaeopdaa
set_option linter.unusedVariables false
set_option linter.unusedSimpArgs false
open Go.RowKit

end Go.Proofs.Ytidijbnoaeopdaa
/-
  ONE TREE MORE IN A LIST THAT A CALL BUILDS: behind the tree's box and its cells.
-/
namespace Go.Proofs.Ytidijbnoaeopdaa
set_option linter.unusedVariables false
set_option linter.unusedSimpArgs false
open Go.RowKit

end Go.Proofs.Ytidijbnoaeopdaa
