/-
  A WORLD IN WHICH NOTHING BUT SOME BLOCKS HAS BEEN WRITTEN.
-/
import Derived.Test.YtocnkjicmchbdaaTree
namespace Go.Proofs.Ytocnkjicmchbdaa
set_option linter.unusedVariables false
set_option linter.unusedSimpArgs false
open Go.RowKit

/-- all blocks but those of a list are as they were -/
structure ButL (fp : List Nat) (w w' : World) : Prop where
  os : w'.os = w.os
  tape : w'.tape = w.tape
  output : w'.output = w.output
  size : w.heap.size ≤ w'.heap.size
  block : ∀ k, k < w.heap.size → k ∉ fp → w'.heap[k]? = w.heap[k]?
theorem ButL.refl (fp : List Nat) (w : World) : ButL fp w w := ⟨rfl, rfl, rfl, Nat.le_refl _, fun _ _ _ => rfl⟩
theorem ButL.trans {fp : List Nat} {a c d : World} (h : ButL fp a c) (k : ButL fp c d) : ButL fp a d :=
  ⟨k.os.trans h.os, k.tape.trans h.tape, k.output.trans h.output, Nat.le_trans h.size k.size, fun i hi hb => (k.block i (Nat.lt_of_lt_of_le hi h.size) hb).trans (h.block i hi hb)⟩
theorem ButL.mono {fp fq : List Nat} {w w' : World} (h : ButL fp w w') (hs : ∀ k ∈ fp, k ∈ fq) : ButL fq w w' := ⟨h.os, h.tape, h.output, h.size, fun k hk hb => h.block k hk fun hm => hb (hs k hm)⟩
theorem ButL.of_below {fp : List Nat} {w w' : World} (h : Below w.heap.size w w') : ButL fp w w' := ⟨h.os, h.tape, h.output, h.size, fun k hk _ => h.block k hk⟩
theorem ButL.below {fp : List Nat} {B : Nat} {w w' : World} (h : ButL fp w w') (hf : ∀ k ∈ fp, B ≤ k) (hB : B ≤ w.heap.size) : Below B w w' :=
  ⟨h.os, h.tape, h.output, h.size, fun k hk => h.block k (by omega) (fun hm => by have := hf k hm; omega)⟩
theorem ButL.setCell {fp : List Nat} (w : World) (b o : Nat) (hb : b ∈ fp) (u : Value) : ButL fp w (w.setCell ⟨b, o, none⟩ u) :=
  ⟨rfl, rfl, rfl, by simp [World.setCell], fun k hk hn => Below.heap_setCell _ _ _ _ (fun e => hn (e ▸ hb))⟩
end Go.Proofs.Ytocnkjicmchbdaa
