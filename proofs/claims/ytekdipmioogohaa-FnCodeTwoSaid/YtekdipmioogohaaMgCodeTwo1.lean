/-
  TREES IN MEMORY. An expression of the program (Op, N, Kids) as a tree of numbers; what it means that a slice value of some world holds the trees of a list, its blocks out of a set S. It stays so while the blocks of S stay as they are. How such trees are had from the reading of an argument.
-/
import Derived.WalkKit
import Derived.ProofKit
import Derived.Deep.OwnRows
import Derived.Deep.Slices
import Derived.Deep.Strs
import Derived.Lib.SmallJoins
import Derived.OpenShut
import Derived.Lib.QuietBelow
import Derived.Test.YtekdipmioogohaaProg
import Derived.Deep.QuietTactic
import Derived.BigQuiet
import Derived.Deep.DeepMust
import Derived.WalkSpells
import Derived.Deep.RegionLaw
import Derived.Deep.RegionLawGrows
import Derived.Deep.RegionWith
namespace Go.Proofs.Ytekdipmioogohaa
set_option linter.unusedVariables false
set_option linter.unusedSimpArgs false
open Go.RowKit

theorem mkHid {p : Prop} (h : p) : Hid p := h

inductive Tr where
  | node (op n : Int) (kids : List Tr)

namespace Tr
def op : Tr → Int | .node o _ _ => o
def num : Tr → Int | .node _ n _ => n
def kids : Tr → List Tr | .node _ _ k => k
@[simp] theorem op_node (o n : Int) (k : List Tr) : (Tr.node o n k).op = o := rfl
@[simp] theorem num_node (o n : Int) (k : List Tr) : (Tr.node o n k).num = n := rfl
@[simp] theorem kids_node (o n : Int) (k : List Tr) : (Tr.node o n k).kids = k := rfl
theorem eta (t : Tr) : t = .node t.op t.num t.kids := by cases t; rfl
end Tr
instance : Inhabited Tr := ⟨.node 0 0 []⟩

/-- a number that fits Go's int -/
def I64 (n : Int) : Prop := -9223372036854775808 ≤ n ∧ n ≤ 9223372036854775807

mutual
/-- the three cells (Op, N, Kids) of a tree -/
def TrOn (w : World) (S : Nat → Prop) : Tr → Value → Value → Value → Prop
  | .node op n ks, a, b, c => a = .int .i64 op ∧ b = .int .i64 n ∧ I64 op ∧ I64 n ∧
      ∃ ad cap, c = .slice ad ks.length cap ∧ ks.length ≤ cap ∧ cap ≤ maxLen ∧ (ks = [] ∨ ∃ bl off, ad = some ⟨bl, off, none⟩ ∧ S bl ∧ RowOn w S bl off ks)
/-- the trees of a list, one behind the other from a cell on -/
def RowOn (w : World) (S : Nat → Prop) (bl off : Nat) : List Tr → Prop
  | [] => True
  | t :: ts => (∃ a b c, w.cell? ⟨bl, off, none⟩ = some a ∧ w.cell? ⟨bl, off + 1, none⟩ = some b ∧ w.cell? ⟨bl, off + 2, none⟩ = some c ∧ TrOn w S t a b c) ∧ RowOn w S bl (off + 3) ts
end

/-- a slice value that holds the trees of a list -/
def KidsOn (w : World) (S : Nat → Prop) (ks : List Tr) (c : Value) : Prop :=
  ∃ ad cap, c = .slice ad ks.length cap ∧ ks.length ≤ cap ∧ cap ≤ maxLen ∧ (ks = [] ∨ ∃ bl off, ad = some ⟨bl, off, none⟩ ∧ S bl ∧ RowOn w S bl off ks)

theorem trOn_iff {w : World} {S : Nat → Prop} {t : Tr} {a b c : Value} : TrOn w S t a b c ↔ a = .int .i64 t.op ∧ b = .int .i64 t.num ∧ I64 t.op ∧ I64 t.num ∧ KidsOn w S t.kids c := by
  cases t; simp [TrOn, KidsOn]

mutual
theorem TrOn.mono {w w' : World} {S S' : Nat → Prop} (hS : ∀ k, S k → S' k) (hw : ∀ k, S k → w'.heap[k]? = w.heap[k]?) : ∀ (t : Tr) (a b c : Value), TrOn w S t a b c → TrOn w' S' t a b c
  | .node op n ks, a, b, c, h => by
    simp only [TrOn] at h ⊢
    obtain ⟨h1, h2, h3, h4, ad, cap, e, l1, l2, h5⟩ := h
    refine ⟨h1, h2, h3, h4, ad, cap, e, l1, l2, ?_⟩
    rcases h5 with h5 | ⟨bl, off, e, s, r⟩
    · exact Or.inl h5
    · exact Or.inr ⟨bl, off, e, hS _ s, RowOn.mono hS hw bl off ks s r⟩
theorem RowOn.mono {w w' : World} {S S' : Nat → Prop} (hS : ∀ k, S k → S' k) (hw : ∀ k, S k → w'.heap[k]? = w.heap[k]?) (bl off : Nat) : ∀ (ks : List Tr), S bl → RowOn w S bl off ks → RowOn w' S' bl off ks
  | [], _, _ => by simp [RowOn]
  | t :: ts, s, h => by
    simp only [RowOn] at h ⊢
    obtain ⟨⟨a, b, c, ha, hb, hc, ht⟩, hr⟩ := h
    refine ⟨⟨a, b, c, ?_, ?_, ?_, TrOn.mono hS hw t a b c ht⟩, RowOn.mono hS hw bl (off + 3) ts s hr⟩
    · rw [World.cell?_of_block (w := w) (hw bl s)]; exact ha
    · rw [World.cell?_of_block (w := w) (hw bl s)]; exact hb
    · rw [World.cell?_of_block (w := w) (hw bl s)]; exact hc
end

theorem KidsOn.mono {w w' : World} {S S' : Nat → Prop} {ks : List Tr} {c : Value} (h : KidsOn w S ks c) (hS : ∀ k, S k → S' k) (hw : ∀ k, S k → w'.heap[k]? = w.heap[k]?) : KidsOn w' S' ks c := by
  obtain ⟨ad, cap, e, l1, l2, h5⟩ := h
  refine ⟨ad, cap, e, l1, l2, ?_⟩
  rcases h5 with h5 | ⟨bl, off, e, s, r⟩
  · exact Or.inl h5
  · exact Or.inr ⟨bl, off, e, hS _ s, RowOn.mono hS hw bl off ks s r⟩

/-- element i of a row -/
theorem RowOn.at {w : World} {S : Nat → Prop} {bl : Nat} : ∀ (ks : List Tr) (off i : Nat) (hi : i < ks.length), RowOn w S bl off ks →
    ∃ a b c, w.cell? ⟨bl, off + i * 3, none⟩ = some a ∧ w.cell? ⟨bl, off + i * 3 + 1, none⟩ = some b ∧ w.cell? ⟨bl, off + i * 3 + 2, none⟩ = some c ∧ TrOn w S ks[i] a b c
  | [], _, _, hi, _ => by simp at hi
  | t :: ts, off, 0, _, h => by
    simp only [RowOn] at h
    simpa using h.1
  | t :: ts, off, i + 1, hi, h => by
    simp only [RowOn] at h
    have := RowOn.at ts (off + 3) i (by simpa using hi) h.2
    have e : off + 3 + i * 3 = off + (i + 1) * 3 := by omega
    rw [e] at this
    simpa using this

/-- a row from its elements -/
theorem RowOn.of {w : World} {S : Nat → Prop} {bl : Nat} : ∀ (ks : List Tr) (off : Nat),
    (∀ i (hi : i < ks.length), ∃ a b c, w.cell? ⟨bl, off + i * 3, none⟩ = some a ∧ w.cell? ⟨bl, off + i * 3 + 1, none⟩ = some b ∧ w.cell? ⟨bl, off + i * 3 + 2, none⟩ = some c ∧ TrOn w S ks[i] a b c) → RowOn w S bl off ks
  | [], _, _ => by simp [RowOn]
  | t :: ts, off, h => by
    simp only [RowOn]
    refine ⟨by have h0 := h 0 (by simp); simp only [Nat.zero_mul, Nat.add_zero, List.getElem_cons_zero] at h0; exact h0, RowOn.of ts (off + 3) fun i hi => ?_⟩
    have := h (i + 1) (by simpa using hi)
    have e : off + (i + 1) * 3 = off + 3 + i * 3 := by omega
    rw [e] at this
    simpa using this

/-- all blocks below a number -/
def Lt (B : Nat) : Nat → Prop := fun k => k < B

theorem KidsOn.below {w w' : World} {B B' : Nat} {ks : List Tr} {c : Value} (h : KidsOn w (Lt B) ks c) (hb : Below B w w') (hB : B ≤ B') : KidsOn w' (Lt B') ks c :=
  h.mono (fun k (hk : k < B) => (show k < B' by omega)) (fun k hk => hb.block k hk)

/-- a store into another block -/
theorem KidsOn.setCell {w : World} {S : Nat → Prop} {ks : List Tr} {c : Value} (h : KidsOn w S ks c) {a : Addr} (ha : ¬ S a.block) (u : Value) : KidsOn (w.setCell a u) S ks c :=
  h.mono (fun _ hk => hk) (fun k hk => Below.heap_setCell _ _ _ _ (fun e => ha (e ▸ hk)))
theorem TrOn.setCell {w : World} {S : Nat → Prop} {t : Tr} {x y z : Value} (h : TrOn w S t x y z) {a : Addr} (ha : ¬ S a.block) (u : Value) : TrOn (w.setCell a u) S t x y z :=
  h.mono (fun _ hk => hk) (fun k hk => Below.heap_setCell _ _ _ _ (fun e => ha (e ▸ hk)))
theorem size_setCell (w : World) (a : Addr) (u : Value) : (w.setCell a u).heap.size = w.heap.size := by simp [World.setCell]
theorem cell_lt {w : World} {a : Addr} {v : Value} (h : w.cell? a = some v) : a.block < w.heap.size := by
  unfold World.cell? at h
  cases hb : w.heap[a.block]? with
  | none => rw [hb] at h; simp at h
  | some o => exact (Array.getElem?_eq_some_iff.1 hb).1
/-- a cell of a block that was laid last -/
theorem box_cell (w : World) (C : Array Value) (t : TypeId) (i : Nat) (v : Value) (h : C[i]? = some v) : (w.alloc (.cells C t)).cell? ⟨w.heap.size, i, none⟩ = some v := by
  unfold World.cell?
  rw [Deep.blk_alloc_new]
  exact h
theorem old_cell {w : World} {a : Addr} {v : Value} (h : w.cell? a = some v) (o : Obj) : (w.alloc o).cell? a = some v := by
  have hlt := cell_lt h
  rw [World.cell?_of_block (w := w) (Deep.blk_alloc_lt w o a.block hlt)]
  exact h
theorem box_below (w : World) (o : Obj) : Below w.heap.size w (w.alloc o) := (Below.refl _ _).alloc (Nat.le_refl _) _
/-- a callee that makes memory at most, met within a region that draws its order -/
theorem quietB {P : Program} {f : FuncId} {args : Array Value} {w : World} {v : Value} (h : ∀ W, Below w.heap.size w W → Calls P f args W fun e w' => e = .returned v ∧ Below W.heap.size W w') (d : Nat) (os : Array Obj) :
    Calls P f args (Sort.grow (redrawn w d) os) fun e w'' => e = .returned v ∧ ∃ p : Regrown, w'' = Sort.grow (redrawn w p.d) p.os := Calls.regrown_of (h _ (below_regrown w d os))
theorem bcell {W w1 : World} (hb : Below W.heap.size W w1) : (∀ b o, b < W.heap.size → w1.cell? ⟨b, o, none⟩ = W.cell? ⟨b, o, none⟩) ∧ (∀ b o, b < W.heap.size → w1.frozen? ⟨b, o, none⟩ = W.frozen? ⟨b, o, none⟩) :=
  ⟨fun b o h => hb.cell (p := ⟨b, o, none⟩) h, fun b o h => hb.frozen (p := ⟨b, o, none⟩) h⟩
theorem ret_int {k : IntKind} {a b : Int} (h : a = b) : Ending.returned (.int k a) = .returned (.int k b) := by rw [h]
theorem ret_bool {a b : Bool} (h : a = b) : Ending.returned (.bool a) = .returned (.bool b) := by rw [h]

/-- trees that lie in a world, wherever -/
abbrev In (w : World) (ks : List Tr) (c : Value) : Prop := KidsOn w (Lt w.heap.size) ks c
theorem KidsOn.next {w w' : World} {ks : List Tr} {c : Value} (h : In w ks c) (hb : Below w.heap.size w w') : In w' ks c := h.below hb hb.size

theorem KidsOn.drew {w : World} {ks : List Tr} {c : Value} (h : In w ks c) : In w.drew ks c := h.next ((Below.refl _ _).drew)

/-! ### Down: from the reading of an argument -/
section
variable {H : Type} {enc : TypeId × Value → H} {P : Program} {w : World} {base : Nat} {spare : Nat → Bool} {held : Bool}

theorem list3 {α : Type} (l : List α) (h : l.length = 3) : ∃ a b c, l = [a, b, c] := by
  match l, h with
  | [a, b, c], _ => exact ⟨a, b, c, rfl⟩


/-- what the reading of a slice of expressions gives: it holds some trees -/
theorem open_kids {T E f0t f1t : TypeId} {f0 f1 f2 : Field} (hT : P.underlying T = some (.slice E)) (hE : P.underlying E = some (.struct #[f0, f1, f2])) (hC : P.cellsOf E = 3)
    (hone : Deep.oneCellFields P #[f0, f1, f2] = true) (e0 : f0.type = f0t) (e1 : f1.type = f1t) (e2 : f2.type = T) (h0 : P.underlying f0t = some (.int .i64)) (h1 : P.underlying f1t = some (.int .i64)) :
    ∀ (fuel : Nat) (v : Value) (x : DataW H × List MemPlace), DataW.trod enc P w base spare held fuel T [v] = some x → ∃ ks, KidsOn w (Lt w.heap.size) ks v := by
  intro fuel
  induction fuel using Nat.strongRecOn with
  | ind fuel ih =>
    intro v x h
    rcases DataW.trod_slice hT h with ⟨h0', _⟩ | ⟨a, len, cap, elems, rest, n, hfu, hv, _, hb, hl, hm, hlen, hel, _, _⟩
    · simp only [List.cons.injEq, and_true] at h0'
      exact ⟨[], none, 0, h0', by simp, by simp [maxLen], Or.inl rfl⟩
    · simp only [List.cons.injEq, and_true] at hv
      -- each element is a tree
      have key : ∀ i, i < len → ∃ t, ∃ p q r, w.cell? (a.add (i * 3)) = some p ∧ w.cell? ((a.add (i * 3)).add 1) = some q ∧ w.cell? ((a.add (i * 3)).add 2) = some r ∧ TrOn w (Lt w.heap.size) t p q r := by
        intro i hi
        have hh := hel i hi
        rw [hC] at hh
        obtain ⟨cs, hcs, hd⟩ := Option.bind_eq_some_iff.1 (hh.trans (List.getElem?_eq_getElem (by omega)))
        obtain ⟨_, hl3, hcell⟩ := World.cells?_some hcs
        obtain ⟨p, q, r, rfl⟩ := list3 cs hl3
        obtain ⟨xs, m, hm1, _, _, hxl, hf⟩ := DataW.trod_struct hE hd
        obtain ⟨y0, y1, y2, rfl⟩ := list3 xs (by simpa using hxl)
        have hp := hf 0 f0 rfl
        have hq := hf 1 f1 rfl
        have hr := hf 2 f2 rfl
        simp only [List.getElem?_cons_zero, List.getElem?_cons_succ] at hp hq hr
        obtain ⟨o0, k0⟩ := Deep.hone_of hone 0 f0 rfl
        obtain ⟨o1, k1⟩ := Deep.hone_of hone 1 f1 rfl
        obtain ⟨o2, k2⟩ := Deep.hone_of hone 2 f2 rfl
        have hp' : DataW.trod enc P w base spare held m f0t [p] = some y0 := by rw [← e0]; simpa [o0, k0] using hp
        have hq' : DataW.trod enc P w base spare held m f1t [q] = some y1 := by rw [← e1]; simpa [o1, k1] using hq
        have hr' : DataW.trod enc P w base spare held m T [r] = some y2 := by rw [← e2]; simpa [o2, k2] using hr
        obtain ⟨np, hnp, _, wp⟩ := DataW.trod_int h0 hp'
        obtain ⟨nq, hnq, _, wq⟩ := DataW.trod_int h1 hq'
        simp only [List.cons.injEq, and_true] at hnp hnq
        obtain ⟨ks, hks⟩ := ih m (by omega) r _ hr'
        have g0 := hcell 0 (by omega)
        have g1 := hcell 1 (by omega)
        have g2 := hcell 2 (by omega)
        refine ⟨.node np nq ks, p, q, r, ?_, by simpa using g1, by simpa using g2, trOn_iff.2 ⟨hnp, hnq, bounds_i64 wp, bounds_i64 wq, hks⟩⟩
        simpa [Addr.add] using g0
      subst hv
      have kf := Deep.choose_lt key
      obtain ⟨f, hfk⟩ := kf
      refine ⟨(List.range len).map f, some a, cap, by simp, by simpa using hl, hm, ?_⟩
      by_cases hz : len = 0
      · left; simp [hz]
      right
      obtain ⟨bl, off, spot⟩ := a
      obtain ⟨p, q, r, g0, _⟩ := hfk 0 (by omega)
      have hspot : spot = none := by simpa [Addr.add] using World.cell?_spot g0
      subst hspot
      refine ⟨bl, off, rfl, by have := cell_lt g0; simpa [Addr.add, Lt] using this, RowOn.of _ _ fun i hi => ?_⟩
      simp only [List.length_map, List.length_range] at hi
      obtain ⟨p, q, r, g0, g1, g2, g3⟩ := hfk i hi
      rw [WideShapes.add_plain] at g0 g1 g2
      rw [WideShapes.add_plain] at g1 g2
      exact ⟨p, q, r, g0, g1, g2, by simpa using g3⟩
end

end Go.Proofs.Ytekdipmioogohaa
/-
  THE MODEL's READER OF DRAWS (l16Open, pick, num): it answers a number in its range, and changes the reader's own block alone.
-/
namespace Go.Proofs.Ytekdipmioogohaa
set_option linter.unusedVariables false
set_option linter.unusedSimpArgs false
open Go.RowKit

/-- a slice value that holds bytes, in blocks out of S -/
def BytesOn (w : World) (S : Nat → Prop) (len : Nat) (v : Value) : Prop :=
  ∃ ad cap, v = .slice ad len cap ∧ len ≤ cap ∧ cap ≤ maxLen ∧ (len = 0 ∨ ∃ bl off, ad = some ⟨bl, off, none⟩ ∧ S bl ∧ ∀ i, i < len → ∃ z : Int, w.cell? ⟨bl, off + i, none⟩ = some (.int .u8 z) ∧ 0 ≤ z ∧ z ≤ 255)
theorem BytesOn.mono {w w' : World} {S S' : Nat → Prop} {len : Nat} {v : Value} (h : BytesOn w S len v) (hS : ∀ k, S k → S' k) (hw : ∀ k, S k → w'.heap[k]? = w.heap[k]?) : BytesOn w' S' len v := by
  obtain ⟨ad, cap, e, l1, l2, h5⟩ := h
  refine ⟨ad, cap, e, l1, l2, ?_⟩
  rcases h5 with h5 | ⟨bl, off, e, s, r⟩
  · exact Or.inl h5
  · refine Or.inr ⟨bl, off, e, hS _ s, fun i hi => ?_⟩
    obtain ⟨z, h1, h2⟩ := r i hi
    exact ⟨z, (World.cell?_of_block (w := w) (hw bl s)).trans h1, h2⟩

/-- all blocks but one are as they were -/
structure But (b : Nat) (w w' : World) : Prop where
  os : w'.os = w.os
  tape : w'.tape = w.tape
  output : w'.output = w.output
  size : w.heap.size ≤ w'.heap.size
  block : ∀ k, k < w.heap.size → k ≠ b → w'.heap[k]? = w.heap[k]?
theorem But.refl (b : Nat) (w : World) : But b w w := ⟨rfl, rfl, rfl, Nat.le_refl _, fun _ _ _ => rfl⟩
theorem But.trans {b : Nat} {a c d : World} (h : But b a c) (k : But b c d) : But b a d :=
  ⟨k.os.trans h.os, k.tape.trans h.tape, k.output.trans h.output, Nat.le_trans h.size k.size, fun i hi hb => (k.block i (Nat.lt_of_lt_of_le hi h.size) hb).trans (h.block i hi hb)⟩
theorem But.of_below {b : Nat} {w w' : World} (h : Below w.heap.size w w') : But b w w' := ⟨h.os, h.tape, h.output, h.size, fun k hk _ => h.block k hk⟩
theorem But.below {b B : Nat} {w w' : World} (h : But b w w') (hb : B ≤ b) (hB : B ≤ w.heap.size) : Below B w w' := ⟨h.os, h.tape, h.output, h.size, fun k hk => h.block k (by omega) (by omega)⟩
theorem But.setCell (b : Nat) (w : World) (o : Nat) (s : Option Nat) (u : Value) : But b w (w.setCell ⟨b, o, s⟩ u) :=
  ⟨rfl, rfl, rfl, by simp [World.setCell], fun k hk hb => Below.heap_setCell _ _ _ _ hb⟩
theorem But.setNew {b : Nat} {w w' : World} (h : But b w w') {a : Addr} (ha : w.heap.size ≤ a.block) (u : Value) : But b w (w'.setCell a u) :=
  ⟨h.os, h.tape, h.output, by rw [size_setCell]; exact h.size, fun k hk hb => (Below.heap_setCell _ _ _ _ (by omega)).trans (h.block k hk hb)⟩
theorem But.drew {b : Nat} {a w : World} (h : But b a w) : But b a w.drew := ⟨h.os, h.tape, h.output, h.size, h.block⟩
theorem But.cell {b : Nat} {w w' : World} (h : But b w w') {p : Addr} (hp : p.block < w.heap.size) (hb : p.block ≠ b) : w'.cell? p = w.cell? p := World.cell?_of_block (w := w) (h.block p.block hp hb)

/-- the reader in block b: its bytes, and how many draws it has made -/
def RdOn (w : World) (b : Nat) (p : Nat) : Prop :=
  ∃ len v, BytesOn w (fun k => k < b) len v ∧ len ≤ 2000 ∧ w.heap[b]? = some (.cells #[v, .int .i64 (p : Int)] 63)
theorem RdOn.lt {w : World} {b p : Nat} (h : RdOn w b p) : b < w.heap.size := by
  obtain ⟨_, _, _, _, h⟩ := h
  exact (Array.getElem?_eq_some_iff.1 h).1
/-- the reader stays while its block does -/
theorem RdOn.next {w w' : World} {b p : Nat} (h : RdOn w b p) (hb : Below w.heap.size w w') : RdOn w' b p := by
  have hlt := h.lt
  obtain ⟨len, v, h1, h2, h3⟩ := h
  exact ⟨len, v, h1.mono (fun k hk => hk) (fun k hk => hb.block k (Nat.lt_trans hk hlt)), h2, (hb.block b hlt).trans h3⟩
theorem RdOn.keep {w w' : World} {b p : Nat} (h : RdOn w b p) (hw : ∀ k, k ≤ b → w'.heap[k]? = w.heap[k]?) : RdOn w' b p := by
  obtain ⟨len, v, h1, h2, h3⟩ := h
  exact ⟨len, v, h1.mono (fun k hk => hk) (fun k hk => hw k (Nat.le_of_lt hk)), h2, (hw b (Nat.le_refl _)).trans h3⟩
theorem RdOn.setCell {w : World} {b p : Nat} (h : RdOn w b p) {a : Addr} (ha : b < a.block) (u : Value) : RdOn (w.setCell a u) b p :=
  h.keep fun k hk => Below.heap_setCell _ _ _ _ (by omega)

theorem RdOn.step {w : World} {b p : Nat} (h : RdOn w b p) : RdOn (w.setCell ⟨b, 1, none⟩ (.int .i64 ((p + 1 : Nat) : Int))) b (p + 1) := by
  have hlt := h.lt
  obtain ⟨len, v, h1, h2, h3⟩ := h
  refine ⟨len, v, h1.mono (fun k hk => hk) (fun k hk => Below.heap_setCell _ _ _ _ (Nat.ne_of_lt hk)), h2, ?_⟩
  simp [World.setCell, Array.getElem?_modify, h3]

/-- pick has answered -/
def Picked (n : Int) (w : World) (b p : Nat) (e : Ending) (w' : World) : Prop :=
  ∃ v : Int, e = .returned (.int .i64 v) ∧ 0 ≤ v ∧ (0 < n → v < n) ∧ (n ≤ 0 → v = 0) ∧ RdOn w' b (p + 1) ∧ But b w w'

theorem picked_of {n v : Int} {w : World} {b p : Nat} (h : RdOn w b p) (h0 : 0 ≤ v) (h1 : 0 < n → v < n) (h2 : n ≤ 0 → v = 0) (d : Nat) (os : Array Obj) :
    Picked n w b p (.returned (.int .i64 v)) (w.setCell ⟨b, 1, none⟩ (.int .i64 ((p : Int) + 1))) := by
  have := h.step
  rw [show ((p + 1 : Nat) : Int) = (p : Int) + 1 by omega] at this
  exact ⟨v, rfl, h0, h1, h2, this, But.setCell _ _ _ _ _⟩

theorem Picked.next {n : Int} {w w' w'' : World} {b p : Nat} {e : Ending} (h : Picked n w b p e w') (hb : Below w'.heap.size w' w'') : Picked n w b p e w'' := by
  obtain ⟨v, h1, h2, h3, h4, h5, h6⟩ := h
  exact ⟨v, h1, h2, h3, h4, h5.next hb, h6.trans (But.of_below hb)⟩

set_option maxHeartbeats 800000 in
theorem pick_none (n : Int) (w : World) (b p : Nat) (h : RdOn w b p) (hp : p ≤ 1099511627776) (hn : n < 1) :
    Calls Try.prog 31 #[.pointer (some ⟨b, 0, none⟩), .int .i64 n] w (Picked n w b p) := by
  have HP : Hid (Picked n w b p (.returned (.int .i64 0)) (w.setCell ⟨b, 1, none⟩ (.int .i64 ((p : Int) + 1)))) := picked_of h (by omega) (by omega) (by omega) 0 #[]
  obtain ⟨len, v, hb, hl, hh⟩ := h
  have c0 : w.cell? ⟨b, 0, none⟩ = some v := by simp [World.cell?, hh]
  have c1 : w.cell? ⟨b, 1, none⟩ = some (.int .i64 p) := by simp [World.cell?, hh]
  have f1 : w.frozen? ⟨b, 1, none⟩ = false := by simp [World.frozen?, hh]
  clear hh hb
  have d1 : decide (n < 1) = true := by simpa using hn
  go_enter Try.func31, Try.ntmps31
  go_wp2_with fail
  go_ret
  exact HP.out

set_option maxHeartbeats 800000 in
theorem pick_empty (n : Int) (w : World) (b p : Nat) (h : RdOn w b p) (hp : p ≤ 1099511627776) (hn : ¬ n < 1) (ad : Option Addr) (cap : Nat) (hv : w.heap[b]? = some (.cells #[.slice ad 0 cap, .int .i64 (p : Int)] 63)) :
    Calls Try.prog 31 #[.pointer (some ⟨b, 0, none⟩), .int .i64 n] w (Picked n w b p) := by
  have HP : Hid (Picked n w b p (.returned (.int .i64 0)) (w.setCell ⟨b, 1, none⟩ (.int .i64 ((p : Int) + 1)))) := picked_of h (by omega) (by omega) (by omega) 0 #[]
  have c0 : w.cell? ⟨b, 0, none⟩ = some (.slice ad 0 cap) := by simp [World.cell?, hv]
  have c1 : w.cell? ⟨b, 1, none⟩ = some (.int .i64 p) := by simp [World.cell?, hv]
  have f1 : w.frozen? ⟨b, 1, none⟩ = false := by simp [World.frozen?, hv]
  clear hv h
  have d1 : decide (n < 1) = false := by simpa using hn
  go_enter Try.func31, Try.ntmps31
  go_wp2_with fail
  go_ret
  exact HP.out

set_option maxHeartbeats 800000 in
theorem pick_byte (n : Int) (w : World) (b p : Nat) (h : RdOn w b p) (hp : p ≤ 1099511627776) (hn : ¬ n < 1) (hn1 : n ≤ 1099511627776) (bl off len cap : Nat) (hv : w.heap[b]? = some (.cells #[.slice (some ⟨bl, off, none⟩) len cap, .int .i64 (p : Int)] 63))
    (hlen : p < len) (hl : len ≤ 2000) (hbl : bl ≠ b) (z : Int) (hz : w.cell? ⟨bl, off + p, none⟩ = some (.int .u8 z)) (hz0 : 0 ≤ z) (hz1 : z ≤ 255) :
    Calls Try.prog 31 #[.pointer (some ⟨b, 0, none⟩), .int .i64 n] w (Picked n w b p) := by
  have HP : Hid (Picked n w b p (.returned (.int .i64 (z % n))) (w.setCell ⟨b, 1, none⟩ (.int .i64 ((p : Int) + 1)))) := picked_of h (Int.emod_nonneg _ (by omega)) (fun _ => Int.emod_lt_of_pos _ (by omega)) (by omega) 0 #[]
  have c0 : w.cell? ⟨b, 0, none⟩ = some (.slice (some ⟨bl, off, none⟩) len cap) := by simp [World.cell?, hv]
  have c1 : w.cell? ⟨b, 1, none⟩ = some (.int .i64 p) := by simp [World.cell?, hv]
  have f1 : w.frozen? ⟨b, 1, none⟩ = false := by simp [World.frozen?, hv]
  clear hv h
  have d1 : decide (n < 1) = false := by simpa using hn
  have l0 : ((len : Int) == 0) = false := by simp; omega
  go_enter Try.func31, Try.ntmps31
  go_wp2_with fail
  go_ret
  exact HP.out

theorem i64_xor_range (a b : Int) (ha : 0 ≤ a ∧ a < 4611686018427387904) (hb : 0 ≤ b ∧ b < 4611686018427387904) : 0 ≤ bits .xor .i64 a b ∧ bits .xor .i64 a b < 4611686018427387904 := by
  obtain ⟨A, rfl⟩ := Int.eq_ofNat_of_zero_le ha.1
  obtain ⟨B, rfl⟩ := Int.eq_ofNat_of_zero_le hb.1
  have hx : A ^^^ B < 2 ^ 62 := Nat.xor_lt_two_pow (by omega) (by omega)
  have h1 : (BitVec.ofInt 64 (A : Int)).toNat = A := by
    rw [BitVec.ofInt_natCast, BitVec.toNat_ofNat]; exact Nat.mod_eq_of_lt (by omega)
  have h2 : (BitVec.ofInt 64 (B : Int)).toNat = B := by
    rw [BitVec.ofInt_natCast, BitVec.toNat_ofNat]; exact Nat.mod_eq_of_lt (by omega)
  show 0 ≤ IntKind.i64.wrap ((BitVec.ofInt 64 (A : Int) ^^^ BitVec.ofInt 64 (B : Int)).toNat : Int) ∧ IntKind.i64.wrap ((BitVec.ofInt 64 (A : Int) ^^^ BitVec.ofInt 64 (B : Int)).toNat : Int) < _
  rw [BitVec.toNat_xor, h1, h2, IntKind.wrap_i64]
  omega

theorem cell_set_other {w : World} {b bl o : Nat} (h : bl ≠ b) (i : Nat) (u : Value) : (w.setCell ⟨b, o, none⟩ u).cell? ⟨bl, i, none⟩ = w.cell? ⟨bl, i, none⟩ :=
  World.cell?_of_block (w := w) (Below.heap_setCell _ _ _ _ h)
theorem cell_set_same {w : World} {b p : Nat} {v : Value} (hv : w.heap[b]? = some (.cells #[v, .int .i64 (p : Int)] 63)) (u : Value) :
    (w.setCell ⟨b, 1, none⟩ u).cell? ⟨b, 0, none⟩ = some v ∧ (w.setCell ⟨b, 1, none⟩ u).cell? ⟨b, 1, none⟩ = some u := by
  constructor <;> simp [World.cell?, World.setCell, Array.getElem?_modify, hv]

set_option maxRecDepth 100000 in
set_option maxHeartbeats 1600000 in
theorem pick_mix (n : Int) (w : World) (b p : Nat) (h : RdOn w b p) (hp : p ≤ 1099511627776) (hn : ¬ n < 1) (hn1 : n ≤ 1099511627776) (bl off len cap : Nat) (hv : w.heap[b]? = some (.cells #[.slice (some ⟨bl, off, none⟩) len cap, .int .i64 (p : Int)] 63))
    (hlen : 0 < len) (hle : len ≤ p) (hl : len ≤ 2000) (hbl : bl ≠ b) (z1 z2 : Int) (hz1 : w.cell? ⟨bl, off + p % len, none⟩ = some (.int .u8 z1)) (hz2 : w.cell? ⟨bl, off + (p * 7 + 3) % len, none⟩ = some (.int .u8 z2)) (hr1 : 0 ≤ z1 ∧ z1 ≤ 255) (hr2 : 0 ≤ z2 ∧ z2 ≤ 255) :
    Calls Try.prog 31 #[.pointer (some ⟨b, 0, none⟩), .int .i64 n] w (Picked n w b p) := by
  have HR : Hid (RdOn w b p) := h
  obtain ⟨r1, r2⟩ := hr1
  obtain ⟨r3, r4⟩ := hr2
  have c0 : w.cell? ⟨b, 0, none⟩ = some (.slice (some ⟨bl, off, none⟩) len cap) := by simp [World.cell?, hv]
  have c1 : w.cell? ⟨b, 1, none⟩ = some (.int .i64 p) := by simp [World.cell?, hv]
  have f1 : w.frozen? ⟨b, 1, none⟩ = false := by simp [World.frozen?, hv]
  have e0 := (cell_set_same hv (.int .i64 ((p : Int) + 1))).1
  have e1 := (cell_set_same hv (.int .i64 ((p : Int) + 1))).2
  have e2 := (cell_set_other (o := 1) hbl (off + p % len) (.int .i64 ((p : Int) + 1))).trans hz1
  have e3 := (cell_set_other (o := 1) hbl (off + (p * 7 + 3) % len) (.int .i64 ((p : Int) + 1))).trans hz2
  clear hv h
  have d1 : decide (n < 1) = false := by simpa using hn
  have l0 : ((len : Int) == 0) = false := by simp; omega
  go_enter Try.func31, Try.ntmps31
  go_wp2_with fail
  have k0 := cell_regrown e0
  have k1 := cell_regrown e1
  have k2 := cell_regrown e2
  have k3 := cell_regrown e3
  clear e0 e1 e2 e3 c0 c1 f1
  have q3 : 0 ≤ (p : Int) / (len : Int) := Int.ediv_nonneg (by omega) (by omega)
  have q3' : (p : Int) / (len : Int) ≤ 1099511627776 := by
    have : ((p / len : Nat) : Int) ≤ 1099511627776 := by have := Nat.div_le_self p len; omega
    simpa using this
  have q1 : 0 ≤ (p : Int) % (len : Int) := Int.emod_nonneg _ (by omega)
  have q1' : (p : Int) % (len : Int) < len := Int.emod_lt_of_pos _ (by omega)
  have q2 : 0 ≤ ((p : Int) * 7 + 3) % (len : Int) := Int.emod_nonneg _ (by omega)
  have q2' : ((p : Int) * 7 + 3) % (len : Int) < len := Int.emod_lt_of_pos _ (by omega)
  refine wp_region_quiet_below (by kernel_rfl) (by kernel_rfl) ?_
  repeat (any_goals (first | go_big_quiet_step (fail) | quiet_step (fail)))
  refine wpQuiet_nil ?_
  intro _ hw'
  obtain ⟨⟨dq, osq⟩, hw''⟩ := hw'
  subst hw''
  clear k0 k1 k2 k3
  have hX : 0 ≤ z1 * 131 + z2 * 1117 + (p : Int) * 29 + (p : Int) / (len : Int) * 53 ∧ z1 * 131 + z2 * 1117 + (p : Int) * 29 + (p : Int) / (len : Int) * 53 < 1125899906842624 := by omega
  generalize z1 * 131 + z2 * 1117 + (p : Int) * 29 + (p : Int) / (len : Int) * 53 = X at *
  obtain ⟨x0, x1⟩ := hX
  have hx := i64_xor_range X (X / 64) ⟨x0, by omega⟩ ⟨by omega, by omega⟩
  obtain ⟨y0, y1⟩ := hx
  go_wp2_with fail
  go_ret
  exact Picked.next (picked_of HR.out (Int.emod_nonneg _ (by omega)) (fun _ => Int.emod_lt_of_pos _ (by omega)) (by omega) 0 #[]) (below_regrown _ _ _)

/-- PICK, FOR EVERY READER -/
theorem pick_calls (n : Int) (w : World) (b p : Nat) (h : RdOn w b p) (hp : p ≤ 1099511627776) (hn1 : n ≤ 1099511627776) :
    Calls Try.prog 31 #[.pointer (some ⟨b, 0, none⟩), .int .i64 n] w (Picked n w b p) := by
  by_cases hn : n < 1
  · exact pick_none n w b p h hp hn
  have h' := h
  obtain ⟨len, v, ⟨ad, cap, rfl, hl, hm, hr⟩, h2, hh⟩ := h'
  rcases hr with rfl | ⟨bl, off, rfl, hs, hr⟩
  · exact pick_empty n w b p h hp hn ad cap hh
  by_cases h0 : len = 0
  · subst h0
    exact pick_empty n w b p h hp hn _ cap hh
  by_cases hpl : p < len
  · obtain ⟨z, hz, z0, z1⟩ := hr p hpl
    exact pick_byte n w b p h hp hn hn1 bl off len cap hh hpl h2 (Nat.ne_of_lt hs) z hz z0 z1
  · obtain ⟨z1, hz1, r1⟩ := hr (p % len) (Nat.mod_lt _ (by omega))
    obtain ⟨z2, hz2, r2⟩ := hr ((p * 7 + 3) % len) (Nat.mod_lt _ (by omega))
    exact pick_mix n w b p h hp hn hn1 bl off len cap hh (by omega) (by omega) h2 (Nat.ne_of_lt hs) z1 z2 hz1 hz2 r1 r2
end Go.Proofs.Ytekdipmioogohaa
/-
  WHAT THE READING OF AN ARGUMENT GIVES: a slice of bytes.
-/
namespace Go.Proofs.Ytekdipmioogohaa
open Go.RowKit
set_option linter.unusedVariables false
set_option linter.unusedSimpArgs false
section
variable {H : Type} {enc : TypeId × Value → H} {w : World} {base : Nat} {spare : Nat → Bool} {held : Bool}

theorem trod_bytes (fuel : Nat) (v : Value) (x : DataW H × List MemPlace) (h : DataW.trod enc Try.prog w base spare held fuel 22 [v] = some x) : ∃ len, BytesOn w (Lt w.heap.size) len v := by
  have hC : Try.prog.cellsOf 5 = 1 := by kernel_rfl
  rcases DataW.trod_slice Try.underlying22 h with ⟨h0', _⟩ | ⟨a, len, cap, elems, rest, n, hfu, hv, _, hb, hl, hm, hlen, hel, _, _⟩
  · simp only [List.cons.injEq, and_true] at h0'
    exact ⟨0, none, 0, h0', by simp, by simp [maxLen], Or.inl rfl⟩
  · simp only [List.cons.injEq, and_true] at hv
    have key : ∀ i, i < len → ∃ z : Int, w.cell? (a.add (i * 1)) = some (.int .u8 z) ∧ 0 ≤ z ∧ z ≤ 255 := by
      intro i hi
      have hh := hel i hi
      rw [hC] at hh
      obtain ⟨cs, hcs, hd⟩ := Option.bind_eq_some_iff.1 (hh.trans (List.getElem?_eq_getElem (by omega)))
      obtain ⟨_, hl1, hcell⟩ := World.cells?_some hcs
      obtain ⟨p, rfl⟩ : ∃ p, cs = [p] := by
        match cs, hl1 with
        | [p], _ => exact ⟨p, rfl⟩
      obtain ⟨z, e0, _, w0⟩ := DataW.trod_int Try.underlying5 hd
      simp only [List.cons.injEq, and_true] at e0
      have g0 := hcell 0 (by omega)
      exact ⟨z, by rw [← e0]; simpa [Addr.add] using g0, bounds_u8 w0⟩
    subst hv
    refine ⟨len, some a, cap, rfl, hl, hm, ?_⟩
    by_cases hz : len = 0
    · left; exact hz
    right
    obtain ⟨bl, off, spot⟩ := a
    obtain ⟨z0, g0, -⟩ := key 0 (by omega)
    have hspot : spot = none := by simpa [Addr.add] using World.cell?_spot g0
    subst hspot
    refine ⟨bl, off, rfl, by have := cell_lt g0; simpa [Addr.add, Lt] using this, fun i hi => ?_⟩
    obtain ⟨z, g, hz'⟩ := key i hi
    rw [WideShapes.add_plain, Nat.mul_one] at g
    exact ⟨z, g, hz'⟩
end
end Go.Proofs.Ytekdipmioogohaa
/-
  PLAIN FACTS ON TREES: how many nodes a list of trees has; which trees are valid expressions. No program is named here.
-/
namespace Go.Proofs.Ytekdipmioogohaa
set_option linter.unusedVariables false
set_option linter.unusedSimpArgs false

mutual
/-- how many nodes stand below a tree's top -/
def szT : Tr → Nat
  | .node _ _ ks => szL ks
/-- how many nodes a list of trees has -/
def szL : List Tr → Nat
  | [] => 0
  | t :: ts => 1 + szT t + szL ts
end

theorem szT_eq (t : Tr) : szT t = szL t.kids := by cases t; simp [szT]

/-- the nodes below the tops of a list -/
def sumT (l : List Tr) : Nat := (l.map szT).sum
theorem sumT_nil : sumT [] = 0 := rfl
theorem sumT_cons (t : Tr) (l : List Tr) : sumT (t :: l) = szT t + sumT l := rfl
theorem sumT_append (a b : List Tr) : sumT (a ++ b) = sumT a + sumT b := by simp [sumT]
theorem szL_sum : ∀ (l : List Tr), szL l = l.length + sumT l
  | [] => by simp [szL, sumT]
  | t :: ts => by rw [szL, szL_sum ts, sumT_cons]; simp; omega
theorem sumT_take_succ (l : List Tr) (i : Nat) (h : i < l.length) : sumT (l.take (i + 1)) = sumT (l.take i) + szT l[i] := by
  rw [List.take_succ_eq_append_getElem h, sumT_append]; simp [sumT]
theorem sumT_take_le (l : List Tr) (i : Nat) : sumT (l.take i) ≤ sumT l := by
  conv => rhs; rw [← List.take_append_drop i l, sumT_append]
  omega
theorem szT_le_sumT (l : List Tr) (i : Nat) (h : i < l.length) : szT l[i] ≤ sumT l := by
  have := sumT_take_succ l i h
  have := sumT_take_le l (i + 1)
  omega
theorem szL_append (a b : List Tr) : szL (a ++ b) = szL a + szL b := by simp [szL_sum, sumT_append]; omega
theorem szL_take_succ (l : List Tr) (i : Nat) (h : i < l.length) : szL (l.take (i + 1)) = szL (l.take i) + 1 + szT l[i] := by
  rw [szL_sum, szL_sum, sumT_take_succ l i h, List.length_take, List.length_take]; omega
theorem szL_take_le (l : List Tr) (i : Nat) : szL (l.take i) ≤ szL l := by
  conv => rhs; rw [← List.take_append_drop i l, szL_append]
  omega
theorem szT_lt_szL (l : List Tr) (i : Nat) (h : i < l.length) : szT l[i] < szL l := by
  have := szL_take_succ l i h
  have := szL_take_le l (i + 1)
  omega
theorem szL_kids_lt (l : List Tr) (i : Nat) (h : i < l.length) : szL (l[i]).kids < szL l := by
  rw [← szT_eq]; exact szT_lt_szL l i h

/-- what the law's own count of an argument leaves of a budget -/
def szOut (ks : List Tr) (left : Int) : Int := if (szL ks : Int) ≤ left then left - szL ks else -1

/-- how many operands a kind has -/
def arity (op : Int) : Int :=
  if op = 1 ∨ op = 2 ∨ op = 3 then 0 else if op = 6 ∨ op = 7 then 1 else if op = 4 ∨ op = 5 ∨ op = 8 ∨ op = 9 then 2 else if op = 10 then 3 else -1

/-- is the number of a node right? -/
def ownB (op n vars defs : Int) : Bool :=
  if op = 1 then decide (0 ≤ n ∧ n < vars) else if op = 2 then decide (0 ≤ n ∧ n ≤ 999) else if op = 3 then decide (0 ≤ n ∧ n < defs) else decide (n = 0)

/-- well formed, down to a depth -/
def shB (vars defs : Int) : Nat → Tr → Bool
  | 0, _ => false
  | d + 1, t => decide ((t.kids.length : Int) = arity t.op) && ownB t.op t.num vars defs && t.kids.all (shB vars defs d)

/-- a valid expression -/
def validB (t : Tr) (vars defs : Int) : Bool :=
  decide (0 ≤ vars ∧ vars ≤ 4 ∧ 0 ≤ defs ∧ defs ≤ 6) && (shB vars defs 16 t && decide (1 + szT t ≤ 60))

/-- what is left of a budget of nodes -/
def nlOut (vars defs : Int) (d : Nat) (t : Tr) (nodes : Int) : Int :=
  if shB vars defs d t = true ∧ 1 + (szT t : Int) ≤ nodes then nodes - (1 + szT t) else -1

theorem all_take_succ (p : Tr → Bool) (l : List Tr) (i : Nat) (h : i < l.length) : (l.take (i + 1)).all p = ((l.take i).all p && p l[i]) := by
  rw [List.take_succ_eq_append_getElem h, List.all_append]; simp
theorem all_false_of (p : Tr → Bool) (l : List Tr) (i : Nat) (h : i < l.length) (hp : p l[i] = false) : l.all p = false := by
  rw [List.all_eq_false]; exact ⟨l[i], List.getElem_mem h, by simp [hp]⟩

theorem shB_mono {vars vars' defs defs' : Int} (hv : vars ≤ vars') (hd : defs ≤ defs') : ∀ (d : Nat) (t : Tr), shB vars defs d t = true → shB vars' defs' d t = true
  | 0, _, h => by simp [shB] at h
  | d + 1, t, h => by
    simp only [shB, Bool.and_eq_true, List.all_eq_true] at h ⊢
    obtain ⟨⟨h1, h2⟩, h3⟩ := h
    refine ⟨⟨h1, ?_⟩, fun x hx => shB_mono hv hd d x (h3 x hx)⟩
    unfold ownB at h2 ⊢
    by_cases h1 : t.op = 1
    · rw [if_pos h1] at h2 ⊢; simp at h2 ⊢; omega
    rw [if_neg h1] at h2 ⊢
    by_cases h2' : t.op = 2
    · rw [if_pos h2'] at h2 ⊢; exact h2
    rw [if_neg h2'] at h2 ⊢
    by_cases h3' : t.op = 3
    · rw [if_pos h3'] at h2 ⊢; simp at h2 ⊢; omega
    rw [if_neg h3'] at h2 ⊢; exact h2

end Go.Proofs.Ytekdipmioogohaa
/-
  THE LAWS' OWN COPY OF AN ARGUMENT (toExpr, toExprS): the same trees, in new memory; nothing that was there is changed.
-/
namespace Go.Proofs.Ytekdipmioogohaa
set_option linter.unusedVariables false
set_option linter.unusedSimpArgs false
open Go.RowKit

/-- blocks from lo on, below hi -/
def Btw (lo hi : Nat) : Nat → Prop := fun k => lo ≤ k ∧ k < hi
theorem KidsOn.btw_in {w : World} {lo : Nat} {ks : List Tr} {c : Value} (h : KidsOn w (Btw lo w.heap.size) ks c) : In w ks c :=
  h.mono (fun _ hk => hk.2) (fun _ _ => rfl)
theorem KidsOn.btw_next {w w' : World} {lo : Nat} {ks : List Tr} {c : Value} (h : KidsOn w (Btw lo w.heap.size) ks c) (hb : Below w.heap.size w w') : KidsOn w' (Btw lo w'.heap.size) ks c :=
  h.mono (fun _ hk => ⟨hk.1, Nat.lt_of_lt_of_le hk.2 hb.size⟩) (fun k hk => hb.block k hk.2)

/-- a call has handed back these trees in new memory -/
def NewKids (ks : List Tr) (w : World) (e : Ending) (w' : World) : Prop := ∃ v, e = .returned v ∧ KidsOn w' (Btw w.heap.size w'.heap.size) ks v ∧ Below w.heap.size w w'
/-- .. one tree -/
def NewTr (o n : Int) (ks : List Tr) (w : World) (e : Ending) (w' : World) : Prop := ∃ v, e = .returned (.agg #[.int .i64 o, .int .i64 n, v]) ∧ KidsOn w' (Btw w.heap.size w'.heap.size) ks v ∧ Below w.heap.size w w'

theorem infoE : (Try.prog.info? 32).map (fun i => (i.zero, i.size, i.bytes)) = some (some (.agg #[.int .i64 0, .int .i64 0, .slice none 0 0]), 3, 40) := by kernel_rfl

/-- make, of so many expressions: a new row of cells -/
theorem make_exprs (n : Nat) (h : n ≤ 1048576) : ∃ C : Array Value, C.size = n * 3 ∧ ∀ w : World, (Instr.makeSlice 30 (.int .i64 (n : Int)) (.int .i64 (n : Int))).run Try.prog w = .ok (.slice (some ⟨w.heap.size, 0, none⟩) n n) (w.alloc (.cells C 32)) := by
  obtain ⟨i, hi, hzz⟩ := Option.map_eq_some_iff.1 infoE
  simp only [Prod.mk.injEq] at hzz
  obtain ⟨hz, hs, hb⟩ := hzz
  refine ⟨madeCells (Value.agg #[.int .i64 0, .int .i64 0, .slice none 0 0]).cells (n * 3), size_madeCells _ _, fun w => ?_⟩
  have hr := run_make (P := Try.prog) w 30 32 i _ Try.underlying30 hi hz .i64 .i64 n n (by omega) (Int.le_refl _) (by rw [hb]; omega) (by omega)
  simp only [Int.toNat_natCast, hs] at hr
  exact hr

/-- what holds of the copy of a list behind k rounds -/
def ToRel (ks : List Tr) (w : World) (k : Nat) (wr : World) : Prop :=
  ∃ f : Nat → Value, wr.rowIs w.heap.size 32 (ks.length * 3) f ∧ (∀ j (_ : j < k) (hj : j < ks.length), TrOn wr (Btw (w.heap.size + 1) wr.heap.size) ks[j] (f (j * 3)) (f (j * 3 + 1)) (f (j * 3 + 2))) ∧ Below w.heap.size w wr

theorem toRel_start (ks : List Tr) (w : World) (C : Array Value) (h : C.size = ks.length * 3) : ToRel ks w 0 (w.alloc (.cells C 32)) := by
  refine ⟨fun i => C.getD i undef, ⟨C, Deep.blk_alloc_new _ _, h, fun i hi => ?_⟩, fun j hj => absurd hj (by omega), (Below.refl _ _).alloc (Nat.le_refl _) _⟩
  simp [Array.getElem?_eq_getElem (h ▸ hi : i < C.size), Array.getD, (h ▸ hi : i < C.size)]

theorem toRel_step (ks : List Tr) (w wr w1 : World) (k : Nat) (hk : k < ks.length) (h : ToRel ks w k wr) (v : Value) (hb : Below wr.heap.size wr w1) (hv : KidsOn w1 (Btw wr.heap.size w1.heap.size) (ks[k]).kids v) (ho : I64 (ks[k]).op) (hn : I64 (ks[k]).num) :
    ToRel ks w (k + 1) (((w1.setCell ⟨w.heap.size, k * 3, none⟩ (.int .i64 (ks[k]).op)).setCell ⟨w.heap.size, k * 3 + 1, none⟩ (.int .i64 (ks[k]).num)).setCell ⟨w.heap.size, k * 3 + 2, none⟩ v) := by
  obtain ⟨f, hr, ht, hbw⟩ := h
  have hlt := hr.lt
  have hr1 : w1.rowIs w.heap.size 32 (ks.length * 3) f := hr.of_block (hb.block _ hlt)
  have hsz := hb.size
  have keep : ∀ (t : Tr) (a b c : Value), TrOn w1 (Btw (w.heap.size + 1) w1.heap.size) t a b c → TrOn (((w1.setCell ⟨w.heap.size, k * 3, none⟩ (.int .i64 (ks[k]).op)).setCell ⟨w.heap.size, k * 3 + 1, none⟩ (.int .i64 (ks[k]).num)).setCell ⟨w.heap.size, k * 3 + 2, none⟩ v) (Btw (w.heap.size + 1) w1.heap.size) t a b c :=
    fun t a b c g => ((g.setCell (by simp [Btw] <;> omega) _).setCell (by simp [Btw] <;> omega) _).setCell (by simp [Btw] <;> omega) _
  have hs3 : k * 3 + 2 < ks.length * 3 := by omega
  refine ⟨_, ((hr1.set (k * 3) _).set (k * 3 + 1) _).set (k * 3 + 2) _, fun j hj hjl => ?_, ?_⟩
  · simp only [size_setCell]
    by_cases hjk : j = k
    · subst hjk
      have : TrOn w1 (Btw (w.heap.size + 1) w1.heap.size) ks[j] (.int .i64 (ks[j]).op) (.int .i64 (ks[j]).num) v := trOn_iff.2 ⟨rfl, rfl, ho, hn, hv.mono (fun k hk => ⟨by have := hk.1; omega, hk.2⟩) (fun _ _ => rfl)⟩
      simpa using keep _ _ _ _ this
    · have h0 := ht j (by omega) hjl
      have h1 : TrOn w1 (Btw (w.heap.size + 1) w1.heap.size) ks[j] (f (j * 3)) (f (j * 3 + 1)) (f (j * 3 + 2)) := h0.mono (fun k hk => ⟨hk.1, by have := hk.2; omega⟩) (fun k hk => hb.block k hk.2)
      have h2 := keep _ _ _ _ h1
      have e1 : ∀ m, m < 3 → j * 3 + m ≠ k * 3 + 2 ∧ j * 3 + m ≠ k * 3 + 1 ∧ j * 3 + m ≠ k * 3 := fun m hm => by omega
      have a0 := e1 0 (by omega)
      have a1 := e1 1 (by omega)
      have a2 := e1 2 (by omega)
      simp only [Nat.add_zero] at a0
      simpa [a0, a1, a2] using h2
  · exact (((hbw.trans (hb.mono (Nat.le_of_lt hlt))).setCell (by simp) _).setCell (by simp) _).setCell (by simp) _

theorem toRel_end (ks : List Tr) (w wr : World) (h : ToRel ks w ks.length wr) (hl : ks.length ≤ 1048576) : NewKids ks w (.returned (.slice (some ⟨w.heap.size, 0, none⟩) ks.length ks.length)) wr := by
  obtain ⟨f, hr, ht, hbw⟩ := h
  have hlt := hr.lt
  refine ⟨_, rfl, ⟨_, _, rfl, Nat.le_refl _, by unfold maxLen; omega, Or.inr ⟨_, _, rfl, ⟨Nat.le_refl _, hlt⟩, RowOn.of _ _ fun i hi => ?_⟩⟩, hbw⟩
  refine ⟨f (i * 3), f (i * 3 + 1), f (i * 3 + 2), ?_, ?_, ?_, (ht i hi hi).mono (fun k hk => ⟨by have := hk.1; omega, hk.2⟩) (fun _ _ => rfl)⟩
  · simpa using hr.cell (i := i * 3) (by omega)
  · simpa [Nat.zero_add] using hr.cell (i := i * 3 + 1) (by omega)
  · simpa [Nat.zero_add] using hr.cell (i := i * 3 + 2) (by omega)

end Go.Proofs.Ytekdipmioogohaa
/-
  ROWS THAT A CALL OWNS: append, with where the new row lies.
-/
namespace Go.Proofs.Ytekdipmioogohaa
set_option linter.unusedVariables false
set_option linter.unusedSimpArgs false
open Go.RowKit

theorem cell_of_blk {w : World} {b : Nat} {C : Array Value} {T : TypeId} (h : w.heap[b]? = some (.cells C T)) (i : Nat) (v : Value) (hv : C[i]? = some v) : w.cell? ⟨b, i, none⟩ = some v := by
  simp only [World.cell?, h]; exact hv
theorem frz_of_blk {w : World} {b : Nat} {C : Array Value} {T : TypeId} (h : w.heap[b]? = some (.cells C T)) (i : Nat) : w.frozen? ⟨b, i, none⟩ = false := by
  simp [World.frozen?, h]
theorem own_keep {w w' : World} {base n size : Nat} {e : TypeId} {v : Value} {xs : List Value} (h : w.ownsRow base e size v n xs) (hk : ∀ k, base ≤ k → k < w.heap.size → w'.heap[k]? = w.heap[k]?) : w'.ownsRow base e size v n xs := by
  refine ⟨h.1, ?_⟩
  rcases h.2 with h | ⟨g, cap, cur, rfl, hg, hh, r⟩
  · exact Or.inl h
  · exact Or.inr ⟨g, cap, cur, rfl, hg, (hk g hg (Array.getElem?_eq_some_iff.1 hh).1).trans hh, r⟩
theorem own_block {w : World} {base n size : Nat} {e : TypeId} {v : Value} {xs : List Value} (h : w.ownsRow base e size v n xs) {k : Nat} (hk : some k = v.ownBlock) : base ≤ k := by
  rcases h.2 with ⟨rfl, -⟩ | ⟨g, cap, cur, rfl, hg, -⟩
  · simp [Value.ownBlock] at hk
  · simp only [Value.ownBlock, Option.some.injEq] at hk
    omega
/-- a parameter's box behind a call -/
theorem box_after {w w1 : World} {a b c : Value} {T : TypeId} (hb : Below (w.alloc (.cells #[a, b, c] T)).heap.size (w.alloc (.cells #[a, b, c] T)) w1) :
    w1.cell? ⟨w.heap.size, 0, none⟩ = some a ∧ w1.cell? ⟨w.heap.size, 1, none⟩ = some b ∧ w1.cell? ⟨w.heap.size, 2, none⟩ = some c ∧ w.heap.size < w1.heap.size ∧ Below w.heap.size w w1 := by
  have hz : w.heap.size < (w.alloc (.cells #[a, b, c] T)).heap.size := by rw [Deep.nblk_alloc]; omega
  refine ⟨(hb.cell (p := ⟨w.heap.size, 0, none⟩) hz).trans (box_cell w #[a, b, c] T 0 _ rfl), (hb.cell (p := ⟨w.heap.size, 1, none⟩) hz).trans (box_cell w #[a, b, c] T 1 _ rfl), (hb.cell (p := ⟨w.heap.size, 2, none⟩) hz).trans (box_cell w #[a, b, c] T 2 _ rfl), Nat.lt_of_lt_of_le hz hb.size, (box_below _ _).trans (hb.mono (Nat.le_of_lt hz))⟩
/-- append to an owned row: it stays in its block, or lies in a new one -/
theorem run_append_where {P : Program} (w : World) (base : Nat) (t ty e : TypeId) (i : TypeInfo) (z : Value) (size bytes : Nat) (ht : P.underlying t = some (.slice e)) (hi : P.info? e = some i) (hz : i.zero = some z)
    (hsize : i.size = size) (hby : i.bytes = bytes) (hzs : z.cells.size = size) (hsz : 0 < size)
    (v : Value) (n : Nat) (xs : List Value) (hown : w.ownsRow base e size v n xs)
    (a : Addr) (m c : Nat) (news : List Value) (hl : news.length = m * size) (hnews : ∀ j u, news[j]? = some u → w.cell? (a.add j) = some u) (h1 : ∀ u ∈ news, u.oneCell' = true)
    (h63 : n + m ≤ maxLen) (hbytes : (n + m) * bytes ≤ 140737488355328) (hbase : base ≤ w.heap.size) (hm : 0 < m) :
    ∃ v' w', (Builtin.append_ #[t, t] ty #[v, .slice (some a) m c]).run P w = .ok v' w' ∧ w'.ownsRow base e size v' (n + m) (xs ++ news) ∧ w.grownBy w' v.ownBlock ∧
      (v'.ownBlock = v.ownBlock ∨ ∃ g, v'.ownBlock = some g ∧ w.heap.size ≤ g) := by
  obtain ⟨v', w', hrun, hown', hgr, -⟩ := run_append_own (P := P) w base t ty e i z size bytes ht hi hz hsize hby hzs hsz v n xs hown a m c news hl hnews h1 h63 hbytes hbase
  refine ⟨v', w', hrun, hown', hgr, ?_⟩
  have hform := hown
  rcases hform.2 with ⟨rfl, rfl⟩ | ⟨g, cap, cur, rfl, hb, hh, hn, hc, hs, htk⟩
  · right
    obtain rfl : xs = [] := List.eq_nil_of_length_eq_zero (by simpa using hform.1)
    obtain ⟨v2, w2, hrun2, hown2, -, -⟩ := run_append_own (P := P) w w.heap.size t ty e i z size bytes ht hi hz hsize hby hzs hsz (.slice none 0 0) 0 [] (World.ownsRow_nil w _ e size) a m c news hl hnews h1 h63 hbytes (Nat.le_refl _)
    rw [hrun] at hrun2
    cases hrun2
    rcases hown2.2 with ⟨rfl, h0⟩ | ⟨g, cap, cur, rfl, hb, _⟩
    · omega
    · exact ⟨g, rfl, hb⟩
  · by_cases hroom : n + m ≤ cap
    · left
      have hcell : ∀ j, j < news.length → w.cell? ⟨g, 0 + n * i.size + j, none⟩ = cur[n * size + j]? := fun j hj => by
        rw [Nat.zero_add, hsize]; simp [World.cell?, hh]
      have hin : ∀ j, j < news.length → n * size + j < cur.size := fun j hj => by
        have h2 : (n + m) * size ≤ cap * size := Nat.mul_le_mul_right _ hroom
        rw [Nat.add_mul] at h2
        omega
      have hrun2 := run_append_room_cells (P := P) w t ty e i ht hi g 0 n cap a m c news (by rw [hsize]; exact hl) hnews h1 hroom
        (fun j hj => by rw [hcell j hj, Array.getElem?_eq_getElem (hin j hj)]; rfl) (fun j hj => by simp [World.frozen?, hh])
      rw [hrun] at hrun2
      cases hrun2
      rfl
    · right
      obtain ⟨v2, w2, hrun2, hown2, -⟩ := run_append_arg_grows (P := P) w t ty e i z size bytes ht hi hz hsize hby hzs hsz ⟨g, 0, none⟩ n cap xs hform.1
        (fun j u hu => hform.cells rfl j u hu) a m c news hl hnews (by omega) h63 hbytes
      rw [hrun] at hrun2
      cases hrun2
      rcases hown2.2 with ⟨rfl, h0⟩ | ⟨g2, cap2, cur2, rfl, hb2, _⟩
      · omega
      · exact ⟨g2, rfl, hb2⟩

/-- .. as one step of a region that draws its order -/
theorem step_append_where {P : Program} {ops : Array Oper} {o : Oper} {a : Act} {w : World} {K : Act → World → Prop} {Q : Exit → Act → World → Prop} {E : Prop}
    (hg : o.guard = none) (s x : Operand) (t : TypeId) (hop : o.op = Op.call { callee := Callee.builtin Builtin.append, args := #[s, x], argTypes := #[t, t] })
    (base : Nat) (e : TypeId) (i : TypeInfo) (z : Value) (size bytes : Nat) (ht : P.underlying t = some (.slice e)) (hi : P.info? e = some i) (hz : i.zero = some z)
    (hsize : i.size = size) (hby : i.bytes = bytes) (hzs : z.cells.size = size) (hsz : 0 < size)
    (v : Value) (n : Nat) (xs : List Value) (hs : a.eval s = v) (hown : w.ownsRow base e size v n xs)
    (ad : Addr) (m c : Nat) (news : List Value) (hx : a.eval x = .slice (some ad) m c) (hl : news.length = m * size) (hnews : ∀ j u, news[j]? = some u → w.cell? (ad.add j) = some u) (h1 : ∀ u ∈ news, u.oneCell' = true)
    (h63 : n + m ≤ maxLen) (hbytes : (n + m) * bytes ≤ 140737488355328) (hbase : base ≤ w.heap.size) (hm : 0 < m)
    (hK : ∀ v' w', w'.ownsRow base e size v' (n + m) (xs ++ news) → w.grownBy w' v.ownBlock → (v'.ownBlock = v.ownBlock ∨ ∃ g, v'.ownBlock = some g ∧ w.heap.size ≤ g) → K (a.put o.dst v') w') :
    if Region.wanted o (yielded ops a.tmps) = true then Oper.wp P o a w K Q else E := by
  have hw : Region.wanted o (yielded ops a.tmps) = true := by simp [Region.wanted, hg]
  rw [if_pos hw]
  obtain ⟨v', w', hrun, r1, r2, r3⟩ := run_append_where (P := P) w base t o.type e i z size bytes ht hi hz hsize hby hzs hsz v n xs hown ad m c news hl hnews h1 h63 hbytes hbase hm
  unfold Oper.wp
  simp [execOp, hop, resolve, invoke, builtin, hs, hx, hrun, Result.andThen]
  exact hK v' w' r1 r2 r3

end Go.Proofs.Ytekdipmioogohaa
/-
  SMALL FACTS ON ROWS OF EXPRESSIONS' CELLS: the element type's row of the table; a new block's cells.
-/
namespace Go.Proofs.Ytekdipmioogohaa
set_option linter.unusedVariables false
set_option linter.unusedSimpArgs false
open Go.RowKit

theorem news3 (w : World) (a b c : Value) (j : Nat) (u : Value) (h : [a, b, c][j]? = some u) : (w.alloc (.cells #[a, b, c] 32)).cell? ((⟨w.heap.size, 0, none⟩ : Addr).add j) = some u := by
  rw [WideShapes.add_plain, Nat.zero_add]
  exact box_cell w #[a, b, c] _ j u (by simpa using h)
theorem infoE3 : ∃ i z, Try.prog.info? 32 = some i ∧ i.zero = some z ∧ i.size = 3 ∧ i.bytes = 40 ∧ z.cells.size = 3 := by
  obtain ⟨i, hi, hzz⟩ := Option.map_eq_some_iff.1 infoE
  simp only [Prod.mk.injEq] at hzz
  obtain ⟨hz, hs, hb⟩ := hzz
  exact ⟨i, _, hi, hz, hs, hb, rfl⟩
end Go.Proofs.Ytekdipmioogohaa
/-
  LISTS OF TREES THAT A CALL BUILDS BY append: the row that it owns, and the trees elsewhere; append as one step of a region that draws its order, with where the new row lies.
-/
namespace Go.Proofs.Ytekdipmioogohaa
set_option linter.unusedVariables false
set_option linter.unusedSimpArgs false
open Go.RowKit

/-- a list of trees that a call has built by append: the row is its own, the trees lie elsewhere, all from lo on -/
def OwnTr (w : World) (lo : Nat) (ts : List Tr) (v : Value) : Prop :=
  ∃ xs, w.ownsRow lo 32 3 v ts.length xs ∧ ∀ j (hj : j < ts.length), ∃ a b c, xs[j * 3]? = some a ∧ xs[j * 3 + 1]? = some b ∧ xs[j * 3 + 2]? = some c ∧ TrOn w (fun k => lo ≤ k ∧ k < w.heap.size ∧ some k ≠ v.ownBlock) ts[j] a b c

theorem OwnTr.nil (w : World) (lo : Nat) : OwnTr w lo [] (.slice none 0 0) := ⟨[], World.ownsRow_nil w lo _ _, fun j hj => absurd hj (by simp)⟩

/-- it stays where all blocks from lo on stay -/
theorem OwnTr.next {w w' : World} {lo : Nat} {ts : List Tr} {v : Value} (h : OwnTr w lo ts v) (hsz : w.heap.size ≤ w'.heap.size) (hb : ∀ k, lo ≤ k → k < w.heap.size → w'.heap[k]? = w.heap[k]?) : OwnTr w' lo ts v := by
  obtain ⟨xs, h1, h2⟩ := h
  refine ⟨xs, ⟨h1.1, ?_⟩, fun j hj => ?_⟩
  · rcases h1.2 with h | ⟨g, cap, cur, rfl, hg, hh, r⟩
    · exact Or.inl h
    · exact Or.inr ⟨g, cap, cur, rfl, hg, (hb g hg (Array.getElem?_eq_some_iff.1 hh).1).trans hh, r⟩
  · obtain ⟨a, b, c, e1, e2, e3, e4⟩ := h2 j hj
    exact ⟨a, b, c, e1, e2, e3, e4.mono (fun k hk => ⟨hk.1, Nat.lt_of_lt_of_le hk.2.1 hsz, hk.2.2⟩) (fun k hk => hb k hk.1 hk.2.1)⟩

/-- one tree more -/
theorem OwnTr.step {w w' : World} {lo : Nat} {ts : List Tr} {v v' : Value} {t : Tr} {a b c : Value} (h : OwnTr w lo ts v) (xs : List Value) (hx : w.ownsRow lo 32 3 v ts.length xs) (hlo : lo ≤ w.heap.size)
    (ht : ∀ j (hj : j < ts.length), ∃ a b c, xs[j * 3]? = some a ∧ xs[j * 3 + 1]? = some b ∧ xs[j * 3 + 2]? = some c ∧ TrOn w (fun k => lo ≤ k ∧ k < w.heap.size ∧ some k ≠ v.ownBlock) ts[j] a b c)
    (hn : TrOn w (fun k => lo ≤ k ∧ k < w.heap.size ∧ some k ≠ v.ownBlock) t a b c)
    (hown : w'.ownsRow lo 32 3 v' (ts.length + 1) (xs ++ [a, b, c])) (hg : w.grownBy w' v.ownBlock) (hw : v'.ownBlock = v.ownBlock ∨ ∃ g, v'.ownBlock = some g ∧ w.heap.size ≤ g) : OwnTr w' lo (ts ++ [t]) v' := by
  have hlen := hx.1
  have keep : ∀ (s : Tr) (x y z : Value), TrOn w (fun k => lo ≤ k ∧ k < w.heap.size ∧ some k ≠ v.ownBlock) s x y z → TrOn w' (fun k => lo ≤ k ∧ k < w'.heap.size ∧ some k ≠ v'.ownBlock) s x y z := by
    intro s x y z hs
    refine hs.mono (fun k hk => ⟨hk.1, Nat.lt_of_lt_of_le hk.2.1 hg.size, ?_⟩) (fun k hk => hg.block k hk.2.1 hk.2.2)
    rcases hw with hw | ⟨g, hw, hge⟩
    · rw [hw]; exact hk.2.2
    · rw [hw]; intro e; simp only [Option.some.injEq] at e; have := hk.2.1; omega
  refine ⟨xs ++ [a, b, c], by simpa using hown, fun j hj => ?_⟩
  by_cases hjl : j < ts.length
  · obtain ⟨x, y, z, e1, e2, e3, e4⟩ := ht j hjl
    have l1 : j * 3 + 2 < xs.length := by omega
    refine ⟨x, y, z, ?_, ?_, ?_, ?_⟩
    · rw [List.getElem?_append_left (by omega)]; exact e1
    · rw [List.getElem?_append_left (by omega)]; exact e2
    · rw [List.getElem?_append_left (by omega)]; exact e3
    · rw [List.getElem_append_left hjl]; exact keep _ _ _ _ e4
  · have hj' : j = ts.length := by simp at hj; omega
    subst hj'
    refine ⟨a, b, c, ?_, ?_, ?_, ?_⟩
    · rw [List.getElem?_append_right (by omega)]; simp [hlen]
    · rw [List.getElem?_append_right (by omega)]; simp [hlen]
    · rw [List.getElem?_append_right (by omega)]; simp [hlen]
    · simpa using keep _ _ _ _ hn

/-- the list, as trees in memory -/
theorem OwnTr.kids {w : World} {lo : Nat} {ts : List Tr} {v : Value} (h : OwnTr w lo ts v) : KidsOn w (Btw lo w.heap.size) ts v := by
  obtain ⟨xs, h1, h2⟩ := h
  rcases h1.2 with ⟨rfl, h0⟩ | ⟨g, cap, cur, rfl, hg, hh, hn, hc, hs, htk⟩
  · obtain rfl : ts = [] := List.eq_nil_of_length_eq_zero h0
    exact ⟨none, 0, rfl, Nat.le_refl _, by simp [maxLen], Or.inl rfl⟩
  · refine ⟨_, cap, rfl, hn, hc, Or.inr ⟨g, 0, rfl, ⟨hg, (Array.getElem?_eq_some_iff.1 hh).1⟩, RowOn.of _ _ fun i hi => ?_⟩⟩
    obtain ⟨a, b, c, e1, e2, e3, e4⟩ := h2 i hi
    refine ⟨a, b, c, ?_, ?_, ?_, e4.mono (fun k hk => ⟨hk.1, hk.2.1⟩) (fun _ _ => rfl)⟩
    · rw [Nat.zero_add, h1.cellAt (i * 3) (by omega)]; exact e1
    · rw [Nat.zero_add, h1.cellAt (i * 3 + 1) (by omega)]; exact e2
    · rw [Nat.zero_add, h1.cellAt (i * 3 + 2) (by omega)]; exact e3
end Go.Proofs.Ytekdipmioogohaa
/-
  THE MODEL's COPY OF AN EXPRESSION (l1Copy): the same tree in new memory; nothing that was there is changed.
-/
namespace Go.Proofs.Ytekdipmioogohaa
set_option linter.unusedVariables false
set_option linter.unusedSimpArgs false
open Go.RowKit

def CpSaid (t : Tr) : Prop := ∀ (c : Value) (w : World), In w t.kids c → szL t.kids ≤ 1048576 → I64 t.op → I64 t.num → Calls Try.prog 28 #[.agg #[.int .i64 t.op, .int .i64 t.num, c]] w (NewTr t.op t.num t.kids w)

/-- what holds behind k rounds of a loop that appends to the Kids of an expression of its own: the expression's block, the row, and all else as it was -/
def ApRel (o n : Int) (ts : List Tr) (B lo : Nat) (v : Value) (wr : World) : Prop := OwnTr wr lo ts v ∧ wr.heap[B]? = some (.cells #[.int .i64 o, .int .i64 n, v] 32)

/-- the step: the call has handed back a tree in new memory, a block for it was laid, append went through, and the value was stored -/
theorem apRel_step {o n : Int} {ts : List Tr} {B lo : Nat} {v v' : Value} {w w1 w2 w3 : World} {t : Tr} {c : Value} (h : ApRel o n ts B lo v w) (hB : B < lo) (hlo : lo ≤ w.heap.size) (hb : Below w.heap.size w w1) (hk : KidsOn w1 (Btw w.heap.size w1.heap.size) t.kids c) (ho : I64 t.op) (hn : I64 t.num)
    (he : w2 = w1.alloc (.cells #[.int .i64 t.op, .int .i64 t.num, c] 32)) (xs : List Value) (hx : w2.ownsRow lo 32 3 v ts.length xs)
    (hown : w3.ownsRow lo 32 3 v' (ts.length + 1) (xs ++ [.int .i64 t.op, .int .i64 t.num, c])) (hg : w2.grownBy w3 v.ownBlock) (hw : v'.ownBlock = v.ownBlock ∨ ∃ g, v'.ownBlock = some g ∧ w2.heap.size ≤ g)
    (hxs : ∀ j (hj : j < ts.length), ∃ a b c, xs[j * 3]? = some a ∧ xs[j * 3 + 1]? = some b ∧ xs[j * 3 + 2]? = some c ∧ TrOn w2 (fun k => lo ≤ k ∧ k < w2.heap.size ∧ some k ≠ v.ownBlock) ts[j] a b c) :
    ApRel o n (ts ++ [t]) B lo v' (w3.setCell ⟨B, 2, none⟩ v') := by
  subst he
  have hsz := hb.size
  have hOB : ∀ k, v.ownBlock = some k → lo ≤ k ∧ k < w.heap.size := by
    obtain ⟨xs', h1, _⟩ := h.1
    exact h1.lt
  have h2 : OwnTr (w1.alloc (.cells #[.int .i64 t.op, .int .i64 t.num, c] 32)) lo ts v := ⟨xs, hx, hxs⟩
  have hn3 := h2.step (t := t) (a := .int .i64 t.op) (b := .int .i64 t.num) (c := c) xs hx (by rw [Deep.nblk_alloc]; omega) hxs
    (trOn_iff.2 ⟨rfl, rfl, ho, hn, hk.mono (fun k hk => ⟨by have := hk.1; omega, by rw [Deep.nblk_alloc]; have := hk.2; omega, fun e => by have := (hOB k e.symm).2; have := hk.1; omega⟩) (fun k hk => Deep.blk_alloc_lt _ _ _ hk.2)⟩) hown hg hw
  have hBv : some B ≠ v.ownBlock := fun e => by have := (hOB B e.symm).1; omega
  have hB3 : w3.heap[B]? = some (.cells #[.int .i64 o, .int .i64 n, v] 32) := by
    rw [hg.block B (by rw [Deep.nblk_alloc]; omega) hBv, Deep.blk_alloc_lt _ _ _ (by omega), hb.block B (by omega)]
    exact h.2
  refine ⟨hn3.next (by rw [size_setCell]; exact Nat.le_refl _) (fun k h1 h2 => Below.heap_setCell _ _ _ _ (by show k ≠ B; omega)), ?_⟩
  simp [World.setCell, Array.getElem?_modify, hB3]

theorem ApRel.drew {o n : Int} {ts : List Tr} {B lo : Nat} {v : Value} {w : World} (h : ApRel o n ts B lo v w) : ApRel o n ts B lo v w.drew := ⟨h.1.next (Nat.le_refl _) (fun _ _ _ => rfl), h.2⟩
/-- ahead of append: the row, in the world with the new tree's block -/
theorem apRel_mid {o n : Int} {ts : List Tr} {B lo : Nat} {v : Value} {w w1 : World} (h : ApRel o n ts B lo v w) (hb : Below w.heap.size w w1) (obj : Obj) :
    ∃ xs, (w1.alloc obj).ownsRow lo 32 3 v ts.length xs ∧ ∀ j (hj : j < ts.length), ∃ a b c, xs[j * 3]? = some a ∧ xs[j * 3 + 1]? = some b ∧ xs[j * 3 + 2]? = some c ∧ TrOn (w1.alloc obj) (fun k => lo ≤ k ∧ k < (w1.alloc obj).heap.size ∧ some k ≠ v.ownBlock) ts[j] a b c :=
  h.1.next (w' := w1.alloc obj) (by rw [Deep.nblk_alloc]; have := hb.size; omega) (fun k _ hk => (Deep.blk_alloc_lt _ _ _ (Nat.lt_of_lt_of_le hk hb.size)).trans (hb.block k hk))
/-- behind append: the expression's own block -/
theorem apRel_blk {o n : Int} {ts : List Tr} {B lo : Nat} {v : Value} {w w1 w3 : World} {obj : Obj} (h : ApRel o n ts B lo v w) (hB : B < lo) (hlo : lo ≤ w.heap.size) (hb : Below w.heap.size w w1) (hg : (w1.alloc obj).grownBy w3 v.ownBlock) :
    w3.heap[B]? = some (.cells #[.int .i64 o, .int .i64 n, v] 32) := by
  have hsz := hb.size
  have hOB : ∀ k, v.ownBlock = some k → lo ≤ k ∧ k < w.heap.size := by
    obtain ⟨xs', h1, _⟩ := h.1
    exact h1.lt
  have hBv : some B ≠ v.ownBlock := fun e => by have := (hOB B e.symm).1; omega
  rw [hg.block B (by rw [Deep.nblk_alloc]; omega) hBv, Deep.blk_alloc_lt _ _ _ (by omega), hb.block B (by omega)]
  exact h.2
/-- .. and every other block that was there -/
theorem apRel_other {o n : Int} {ts : List Tr} {B lo : Nat} {v : Value} {w w1 w3 : World} {obj : Obj} (h : ApRel o n ts B lo v w) (hb : Below w.heap.size w w1) (hg : (w1.alloc obj).grownBy w3 v.ownBlock) (k : Nat) (hk : k < lo) (hkw : k < w.heap.size) : w3.heap[k]? = w.heap[k]? := by
  have hsz := hb.size
  have hOB : ∀ k, v.ownBlock = some k → lo ≤ k ∧ k < w.heap.size := by
    obtain ⟨xs', h1, _⟩ := h.1
    exact h1.lt
  rw [hg.block k (by rw [Deep.nblk_alloc]; omega) (fun e => by have := (hOB k e.symm).1; omega), Deep.blk_alloc_lt _ _ _ (by omega), hb.block k hkw]

/-- what holds behind k rounds of the copy -/
def CpRel (t : Tr) (box : Value) (w : World) (k : Nat) (wr : World) : Prop :=
  ∃ v, ApRel t.op t.num (t.kids.take k) (w.heap.size + 2) (w.heap.size + 3) v wr ∧ wr.heap[w.heap.size]? = some (.cells #[.int .i64 t.op, .int .i64 t.num, box] 32) ∧
    wr.heap[w.heap.size + 1]? = some (.cells #[.int .i64 0, .int .i64 0, .slice none 0 0] 32) ∧ Below w.heap.size w wr ∧ w.heap.size + 3 ≤ wr.heap.size

theorem cpRel_start (t : Tr) (box : Value) (w : World) : CpRel t box w 0 (((w.alloc (.cells #[.int .i64 t.op, .int .i64 t.num, box] 32)).alloc (.cells #[.int .i64 0, .int .i64 0, .slice none 0 0] 32)).alloc (.cells #[.int .i64 t.op, .int .i64 t.num, .slice none 0 0] 32)) := by
  have e1 : (w.alloc (.cells #[.int .i64 t.op, .int .i64 t.num, box] 32)).heap.size = w.heap.size + 1 := Deep.nblk_alloc _ _
  have e2 : ((w.alloc (.cells #[.int .i64 t.op, .int .i64 t.num, box] 32)).alloc (.cells #[.int .i64 0, .int .i64 0, .slice none 0 0] 32)).heap.size = w.heap.size + 2 := by rw [Deep.nblk_alloc, e1]
  refine ⟨.slice none 0 0, ⟨by simpa using OwnTr.nil _ _, ?_⟩, ?_, ?_, ?_, ?_⟩
  · rw [← e2]; exact Deep.blk_alloc_new _ _
  · rw [Deep.blk_alloc_lt _ _ _ (by rw [e2]; omega), Deep.blk_alloc_lt _ _ _ (by rw [e1]; omega)]; exact Deep.blk_alloc_new _ _
  · rw [Deep.blk_alloc_lt _ _ _ (by rw [e2]; omega)]; rw [← e1]; exact Deep.blk_alloc_new _ _
  · exact (((Below.refl _ _).alloc (Nat.le_refl _) _).alloc (by rw [e1]; omega) _).alloc (by rw [e2]; omega) _
  · rw [Deep.nblk_alloc, e2]; omega



set_option maxRecDepth 100000 in
set_option maxHeartbeats 1600000 in
theorem cp_step (t : Tr) (ih : ∀ i (hi : i < t.kids.length), CpSaid (t.kids[i])) : CpSaid t := by
  intro c w hk hsz ho hn
  have HI : Hid (∀ i (hi : i < t.kids.length), CpSaid (t.kids[i])) := ih
  have HK : Hid (In w t.kids c) := hk
  have HZ : Hid (szL t.kids ≤ 1048576) := hsz
  clear ih hsz
  obtain ⟨ad, cap, rfl, hl, hm, -⟩ := hk
  unfold maxLen at hm
  go_enter Try.func28, Try.ntmps28
  go_wp2_with fail
  obtain ⟨iE, zE, hiE, hzE, hsE, hbE, hcE⟩ := infoE3
  have HE : Hid (Try.prog.info? 32 = some iE ∧ iE.zero = some zE ∧ iE.size = 3 ∧ iE.bytes = 40 ∧ zE.cells.size = 3) := ⟨hiE, hzE, hsE, hbE, hcE⟩
  clear hiE hzE hsE hbE hcE
  go_loopw [4] (fun i wr => ∃ k : Nat, k ≤ t.kids.length ∧ i = .int .i64 k ∧ CpRel t (.slice ad t.kids.length cap) w k wr) (fun i _ => t.kids.length - (intOf i).toNat)
  case atStart => exact ⟨0, Nat.zero_le _, rfl, cpRel_start t _ w⟩
  case round =>
    obtain ⟨k, hk, rfl, hcp⟩ := hrel
    obtain ⟨v, hap, hb0, hb1, hbl, hsz⟩ := hcp
    have HAP : Hid (ApRel t.op t.num (t.kids.take k) (w.heap.size + 2) (w.heap.size + 3) v wr) := hap
    have c2 := cell_of_blk hb0 2 _ rfl
    have o0 := cell_of_blk hap.2 0 _ rfl
    have o1 := cell_of_blk hap.2 1 _ rfl
    have o2 := cell_of_blk hap.2 2 _ rfl
    have f2 := frz_of_blk hap.2 2
    have HB0 : Hid (wr.heap[w.heap.size]? = some (.cells #[.int .i64 t.op, .int .i64 t.num, .slice ad t.kids.length cap] 32)) := hb0
    have HB1 : Hid (wr.heap[w.heap.size + 1]? = some (.cells #[.int .i64 0, .int .i64 0, .slice none 0 0] 32)) := hb1
    have HBW : Hid (Below w.heap.size w wr) := hbl
    clear hap hb0 hb1 hbl
    by_cases hlt : k < t.kids.length
    · obtain ⟨ad', cap', he, -, -, hr⟩ := HK.out.next HBW.out
      cases he
      rcases hr with hnil | ⟨bl, off, rfl, -, hr⟩
      · rw [hnil] at hlt; simp at hlt
      obtain ⟨p, q, r, e0, e1, e2, ht⟩ := RowOn.at t.kids off k hlt hr
      obtain ⟨rfl, rfl, io, iN, hkk⟩ := trOn_iff.1 ht
      have HKK : Hid (In wr t.kids[k].kids r) := hkk
      have HZK : Hid (szL t.kids[k].kids ≤ 1048576) := by have := szL_kids_lt t.kids k hlt; have := HZ.out; unfold Hid; omega
      clear hkk ht hr
      go_wp2_with fail
      have hkl : (t.kids.take k).length = k := by simp; omega
      have HKL : Hid ((t.kids.take k).length = k) := hkl
      have hkb : k < 1048576 := by have := HZ.out; rw [szL_sum] at this; omega
      clear hkl
      go_region_law (first
        | (go_simp; go_at_call 28; go_must (refine (HI.out k hlt r _ ?_ HZK.out io iN).mono ?_); go_must (exact HKK.out.drew); go_must (rintro e w1 ⟨v2, rfl, hv2, hbb⟩); go_must (obtain ⟨ad2, cap2, rfl, _, _, _⟩ := id hv2); go_must (have HV2 : Hid (KidsOn w1 (Btw wr.heap.size w1.heap.size) t.kids[k].kids (.slice ad2 t.kids[k].kids.length cap2)) := hv2); go_must (have HBB : Hid (Below wr.heap.size wr w1) := (Below.refl _ _).drew.trans hbb); go_must (have z2 := (HBB.out.cell (p := ⟨w.heap.size + 2, 2, none⟩) (by show w.heap.size + 2 < wr.heap.size; omega)).trans o2); go_must (have hz1 : w.heap.size + 2 < w1.heap.size := by have := HBB.out.size; omega); clear hv2 hbb; go_wp2_with fail)
        | (go_must (obtain ⟨xs, hx, hxs⟩ := apRel_mid HAP.out HBB.out (.cells #[.int .i64 t.kids[k].op, .int .i64 t.kids[k].num, .slice ad2 t.kids[k].kids.length cap2] 32)); go_must (have HX : Hid _ := hx); go_must (rw [HKL.out] at hx); go_must (refine step_append_where rfl (.tmp 18) (.tmp 25) 30 rfl (w.heap.size + 3) 32 iE zE 3 40 Try.underlying30 HE.out.1 HE.out.2.1 HE.out.2.2.1 HE.out.2.2.2.1 HE.out.2.2.2.2 (by decide) v k xs (by simp [Act.eval, Act.put]) hx ⟨w1.heap.size, 0, none⟩ 1 1 [.int .i64 t.kids[k].op, .int .i64 t.kids[k].num, .slice ad2 t.kids[k].kids.length cap2] (by simp [Act.eval, Act.put]) rfl (news3 w1 _ _ _) (by simp [Value.oneCell']) (by unfold maxLen; omega) (by omega) (by rw [Deep.nblk_alloc]; have := HBB.out.size; omega) (by omega) ?_); go_must (intro v' w3 hown hg hw); go_must (obtain ⟨g', c', rfl⟩ := Joins.ownsRow_form hown (by omega)); go_must (have hB3 := apRel_blk HAP.out (by omega) hsz HBB.out hg); go_must (have s2 := cell_of_blk hB3 2 _ rfl); go_must (have sf := frz_of_blk hB3 2); clear hB3))
      all_goals
        have HV : Hid (CpRel t (.slice (some ⟨bl, off, none⟩) t.kids.length cap) w (k + 1) (w3.setCell ⟨w.heap.size + 2, 2, none⟩ (.slice (some ⟨g', 0, none⟩) (k + 1) c'))) := by
          have hst := apRel_step (t := t.kids[k]) HAP.out (by omega) hsz HBB.out HV2.out io iN rfl xs HX.out (by rw [HKL.out]; exact hown) hg hw hxs
          have hoth := fun j hj hjw => apRel_other HAP.out HBB.out hg j hj hjw
          have hz3 : wr.heap.size ≤ w3.heap.size := by have := HBB.out.size; have := hg.size; rw [Deep.nblk_alloc] at this; omega
          refine ⟨.slice (some ⟨g', 0, none⟩) (k + 1) c', ?_, ?_, ?_, ?_, ?_⟩
          · rw [show t.kids.take (k + 1) = t.kids.take k ++ [t.kids[k]] from List.take_succ_eq_append_getElem hlt]
            exact hst
          · rw [Below.heap_setCell _ _ _ _ (by show w.heap.size ≠ w.heap.size + 2; omega), hoth _ (by omega) (by omega)]; exact HB0.out
          · rw [Below.heap_setCell _ _ _ _ (by show w.heap.size + 1 ≠ w.heap.size + 2; omega), hoth _ (by omega) (by omega)]; exact HB1.out
          · refine Below.setCell ?_ (by show w.heap.size ≤ w.heap.size + 2; omega) _
            have hbw := HBW.out
            have hbb := HBB.out
            exact ⟨by rw [hg.os]; exact hbb.os.trans hbw.os, by rw [hg.tape]; exact hbb.tape.trans hbw.tape, by rw [hg.output]; exact hbb.output.trans hbw.output, Nat.le_trans hbw.size hz3, fun j hj => (hoth j (by omega) (by omega)).trans (hbw.block j hj)⟩
          · rw [size_setCell]; omega
        clear hg hw hown hxs hx s2 sf
        go_wp2_with fail
        go_roundw
        case rel => exact ⟨k + 1, by omega, by go_num, HV.out⟩
        case measure => simp [intOf]; omega
    · have hke : t.kids.length = k := by omega
      have HN : Hid (KidsOn wr (Btw (w.heap.size + 3) wr.heap.size) t.kids v) := by
        have h1 := HAP.out.1
        rw [← hke, List.take_length] at h1
        exact h1.kids
      have hform : (v = .slice none 0 0 ∧ True) ∨ ∃ g c, v = .slice (some ⟨g, 0, none⟩) t.kids.length c := by
        obtain ⟨xs, h1, _⟩ := HAP.out.1
        rw [← hke, List.take_length] at h1
        rcases Joins.ownsRow_forms h1 with ⟨h, _⟩ | h
        · exact Or.inl ⟨h, trivial⟩
        · exact Or.inr h
      have r0 := cell_of_blk HB1.out 0 _ rfl
      have r1 := cell_of_blk HB1.out 1 _ rfl
      have r2 := cell_of_blk HB1.out 2 _ rfl
      have q0 := frz_of_blk HB1.out 0
      have q1 := frz_of_blk HB1.out 1
      have q2 := frz_of_blk HB1.out 2
      clear hke
      rcases hform with ⟨rfl, -⟩ | ⟨g, c', rfl⟩
      all_goals
        go_wp2_with fail
        refine bodyPost_ret (v := .agg #[.int .i64 t.op, .int .i64 t.num, _]) (by simp [results, Try.results28, go_sem, r0, r1, r2]; rfl) rfl ⟨_, rfl, ?_, ?_⟩
        · simp only [size_setCell]
          exact (((HN.out.setCell (by simp [Btw] <;> omega) _).setCell (by simp [Btw] <;> omega) _).setCell (by simp [Btw] <;> omega) _).mono (fun k hk => ⟨by have := hk.1; omega, hk.2⟩) (fun _ _ => rfl)
        · exact ((HBW.out.setCell (by simp) _).setCell (by simp) _).setCell (by simp) _

/-- THE COPY, FOR EVERY TREE -/
theorem cp_any : ∀ (n : Nat) (t : Tr), szT t ≤ n → CpSaid t := by
  intro n
  induction n with
  | zero =>
    intro t h
    exact cp_step t fun i hi => absurd (szT_lt_szL t.kids i hi) (by rw [szT_eq] at h; omega)
  | succ n ih =>
    intro t h
    exact cp_step t fun i hi => ih _ (by have := szT_lt_szL t.kids i hi; rw [szT_eq] at h; omega)
theorem cp_calls (t : Tr) : CpSaid t := cp_any _ t (Nat.le_refl _)
end Go.Proofs.Ytekdipmioogohaa
/-
  THE MODEL's READER OF DRAWS: num, l16Open.
-/
namespace Go.Proofs.Ytekdipmioogohaa
set_option linter.unusedVariables false
set_option linter.unusedSimpArgs false
open Go.RowKit

/-- a slice value that holds these numbers, in a block other than b -/
def IntsBut (w : World) (b : Nat) (L : List Int) (v : Value) : Prop :=
  ∃ bl off cap, v = .slice (some ⟨bl, off, none⟩) L.length cap ∧ bl ≠ b ∧ bl < w.heap.size ∧ ∀ i (hi : i < L.length), w.cell? ⟨bl, off + i, none⟩ = some (.int .i64 L[i])

/-- num has answered -/
def Numbered (L : List Int) (w : World) (b p : Nat) (e : Ending) (w' : World) : Prop :=
  ∃ x : Int, e = .returned (.int .i64 x) ∧ x ∈ L ∧ RdOn w' b (p + 1) ∧ But b w w'

set_option maxHeartbeats 800000 in
theorem num_calls (L : List Int) (v : Value) (w : World) (b p : Nat) (h : RdOn w b p) (hp : p ≤ 1099511627776) (hv : IntsBut w b L v) (hL : 0 < L.length) (hL1 : L.length ≤ 1000) :
    Calls Try.prog 22 #[.pointer (some ⟨b, 0, none⟩), v] w (Numbered L w b p) := by
  obtain ⟨bl, off, cap, rfl, hb, hlt, hc⟩ := hv
  have HC : Hid (∀ i (hi : i < L.length), w.cell? ⟨bl, off + i, none⟩ = some (.int .i64 L[i])) := hc
  have HR : Hid (RdOn w b p) := h
  clear hc h
  go_enter Try.func22, Try.ntmps22
  go_wp2_with fail
  refine (pick_calls L.length _ b p HR.out hp (by omega)).mono ?_
  rintro e w1 ⟨x, rfl, h0, h1, -, hr1, hb1⟩
  have HR1 : Hid (RdOn w1 b (p + 1)) := hr1
  have HB1 : Hid (But b w w1) := hb1
  have hx : x < L.length := h1 (by omega)
  obtain ⟨k, rfl⟩ := Int.eq_ofNat_of_zero_le h0
  have hk : k < L.length := by omega
  have c1 : w1.cell? ⟨bl, off + k, none⟩ = some (.int .i64 L[k]) := (hb1.cell (p := ⟨bl, off + k, none⟩) hlt hb).trans (HC.out k hk)
  clear h1 hr1 hb1
  go_wp2_with fail
  go_ret
  exact ⟨L[k], rfl, List.getElem_mem hk, HR1.out, HB1.out⟩

/-- a new reader lies in block b -/
def Opened (w : World) (e : Ending) (w' : World) : Prop := e = .returned (.pointer (some ⟨w.heap.size, 0, none⟩)) ∧ RdOn w' w.heap.size 0 ∧ Below w.heap.size w w'

theorem opened_of (w : World) (len : Nat) (v : Value) (h : BytesOn w (Lt w.heap.size) len v) (hl : len ≤ 2000) : Opened w (.returned (.pointer (some ⟨w.heap.size, 0, none⟩))) (w.alloc (.cells #[v, .int .i64 0] 63)) := by
  refine ⟨rfl, ⟨len, v, h.mono (fun k hk => hk) (fun k hk => Deep.blk_alloc_lt _ _ _ hk), hl, ?_⟩, box_below _ _⟩
  exact Deep.blk_alloc_new _ _

set_option maxHeartbeats 800000 in
theorem open_calls (len : Nat) (v : Value) (w : World) (h : BytesOn w (Lt w.heap.size) len v) : Calls Try.prog 19 #[v] w (Opened w) := by
  by_cases hl : 2000 < len
  · have h' := h
    obtain ⟨ad, cap, rfl, h1, h2, h3⟩ := h
    unfold maxLen at h2
    rcases h3 with h3 | ⟨bl, off, rfl, hs, hr⟩
    · omega
    have HO : Hid (Opened w (.returned (.pointer (some ⟨w.heap.size, 0, none⟩))) (w.alloc (.cells #[.slice (some ⟨bl, off, none⟩) 2000 cap, .int .i64 0] 63))) :=
      opened_of w 2000 _ ⟨_, cap, rfl, by omega, by unfold maxLen; omega, Or.inr ⟨bl, off, rfl, hs, fun i hi => hr i (by omega)⟩⟩ (by omega)
    clear hr h'
    go_enter Try.func19, Try.ntmps19
    go_wp2_with fail
    go_ret
    exact HO.out
  · have HO : Hid (Opened w (.returned (.pointer (some ⟨w.heap.size, 0, none⟩))) (w.alloc (.cells #[v, .int .i64 0] 63))) := opened_of w len v h (by omega)
    obtain ⟨ad, cap, rfl, h1, h2, -⟩ := h
    go_enter Try.func19, Try.ntmps19
    go_wp2_with fail
    go_ret
    exact HO.out
end Go.Proofs.Ytekdipmioogohaa
/-
  LISTS OF TREES THAT A CALL BUILDS BY append, WHERE ONE BLOCK OF THE CALLER's (a reader's) IS WRITTEN BETWEEN.
-/
namespace Go.Proofs.Ytekdipmioogohaa
set_option linter.unusedVariables false
set_option linter.unusedSimpArgs false
open Go.RowKit

theorem KidsOn.but {w w' : World} {lo b : Nat} {ks : List Tr} {c : Value} (h : KidsOn w (Btw lo w.heap.size) ks c) (hb : But b w w') (hlo : b < lo) : KidsOn w' (Btw lo w'.heap.size) ks c :=
  h.mono (fun _ hk => ⟨hk.1, Nat.lt_of_lt_of_le hk.2 hb.size⟩) (fun k hk => hb.block k hk.2 (by have := hk.1; omega))

/-- ahead of append: the row, in the world with the new tree's block -/
theorem apBut_mid {o n : Int} {ts : List Tr} {B lo b : Nat} {v : Value} {w w1 : World} (h : ApRel o n ts B lo v w) (hb : But b w w1) (hblo : b < lo) (obj : Obj) :
    ∃ xs, (w1.alloc obj).ownsRow lo 32 3 v ts.length xs ∧ ∀ j (hj : j < ts.length), ∃ a b c, xs[j * 3]? = some a ∧ xs[j * 3 + 1]? = some b ∧ xs[j * 3 + 2]? = some c ∧ TrOn (w1.alloc obj) (fun k => lo ≤ k ∧ k < (w1.alloc obj).heap.size ∧ some k ≠ v.ownBlock) ts[j] a b c :=
  h.1.next (w' := w1.alloc obj) (by rw [Deep.nblk_alloc]; have := hb.size; omega) (fun k hl hk => (Deep.blk_alloc_lt _ _ _ (Nat.lt_of_lt_of_le hk hb.size)).trans (hb.block k hk (by omega)))
/-- behind append: every block that was there below the row, but the reader's, and that one as the call left it -/
theorem apBut_other {o n : Int} {ts : List Tr} {B lo b : Nat} {v : Value} {w w1 w3 : World} {obj : Obj} (h : ApRel o n ts B lo v w) (hsz : w.heap.size ≤ w1.heap.size) (hg : (w1.alloc obj).grownBy w3 v.ownBlock) (k : Nat) (hk : k < lo) (hkw : k < w1.heap.size) : w3.heap[k]? = w1.heap[k]? := by
  have hOB : ∀ k, v.ownBlock = some k → lo ≤ k ∧ k < w.heap.size := by
    obtain ⟨xs', h1, _⟩ := h.1
    exact h1.lt
  rw [hg.block k (by rw [Deep.nblk_alloc]; omega) (fun e => by have := (hOB k e.symm).1; omega), Deep.blk_alloc_lt _ _ _ hkw]
/-- the step -/
theorem apBut_step {o n : Int} {ts : List Tr} {B lo b : Nat} {v v' : Value} {w w1 w3 : World} {t : Tr} {c : Value} (h : ApRel o n ts B lo v w) (hB : B < lo) (hBb : B ≠ b) (hblo : b < lo) (hlo : lo ≤ w.heap.size) (hb : But b w w1) (hk : KidsOn w1 (Btw w.heap.size w1.heap.size) t.kids c) (ho : I64 t.op) (hn : I64 t.num)
    (xs : List Value) (hx : (w1.alloc (.cells #[.int .i64 t.op, .int .i64 t.num, c] 32)).ownsRow lo 32 3 v ts.length xs)
    (hown : w3.ownsRow lo 32 3 v' (ts.length + 1) (xs ++ [.int .i64 t.op, .int .i64 t.num, c])) (hg : (w1.alloc (.cells #[.int .i64 t.op, .int .i64 t.num, c] 32)).grownBy w3 v.ownBlock) (hw : v'.ownBlock = v.ownBlock ∨ ∃ g, v'.ownBlock = some g ∧ (w1.alloc (.cells #[.int .i64 t.op, .int .i64 t.num, c] 32)).heap.size ≤ g)
    (hxs : ∀ j (hj : j < ts.length), ∃ a b c', xs[j * 3]? = some a ∧ xs[j * 3 + 1]? = some b ∧ xs[j * 3 + 2]? = some c' ∧ TrOn (w1.alloc (.cells #[.int .i64 t.op, .int .i64 t.num, c] 32)) (fun k => lo ≤ k ∧ k < (w1.alloc (.cells #[.int .i64 t.op, .int .i64 t.num, c] 32)).heap.size ∧ some k ≠ v.ownBlock) ts[j] a b c') :
    ApRel o n (ts ++ [t]) B lo v' (w3.setCell ⟨B, 2, none⟩ v') := by
  have hsz := hb.size
  have hOB : ∀ k, v.ownBlock = some k → lo ≤ k ∧ k < w.heap.size := by
    obtain ⟨xs', h1, _⟩ := h.1
    exact h1.lt
  have h2 : OwnTr (w1.alloc (.cells #[.int .i64 t.op, .int .i64 t.num, c] 32)) lo ts v := ⟨xs, hx, hxs⟩
  have hn3 := h2.step (t := t) (a := .int .i64 t.op) (b := .int .i64 t.num) (c := c) xs hx (by rw [Deep.nblk_alloc]; omega) hxs
    (trOn_iff.2 ⟨rfl, rfl, ho, hn, hk.mono (fun k hk => ⟨by have := hk.1; omega, by rw [Deep.nblk_alloc]; have := hk.2; omega, fun e => by have := (hOB k e.symm).2; have := hk.1; omega⟩) (fun k hk => Deep.blk_alloc_lt _ _ _ hk.2)⟩) hown hg hw
  have hB3 : w3.heap[B]? = some (.cells #[.int .i64 o, .int .i64 n, v] 32) := by
    rw [apBut_other (B := B) (b := b) h hsz hg B hB (by omega), hb.block B (by omega) hBb]
    exact h.2
  refine ⟨hn3.next (by rw [size_setCell]; exact Nat.le_refl _) (fun k h1 h2 => Below.heap_setCell _ _ _ _ (by show k ≠ B; omega)), ?_⟩
  simp [World.setCell, Array.getElem?_modify, hB3]
end Go.Proofs.Ytekdipmioogohaa
/-
  THE MODEL's l1Kids AND l1Own.
-/
namespace Go.Proofs.Ytekdipmioogohaa
set_option linter.unusedVariables false
set_option linter.unusedSimpArgs false
open Go.RowKit

set_option maxHeartbeats 400000 in
theorem l1Kids_calls (op : Int) (w : World) : Calls Try.prog 33 #[.int .i64 op] w fun e w' => e = .returned (.int .i64 (arity op)) ∧ w = w' := by
  go_enter Try.func33, Try.ntmps33
  go_wp2_with fail
  all_goals go_ret
  all_goals refine ⟨ret_int ?_, rfl⟩
  all_goals show (_ : Int) = arity op
  all_goals unfold arity
  all_goals simp_all

set_option maxHeartbeats 400000 in
theorem l1Own_calls (op n vars defs : Int) (c : Value) (w : World) : Calls Try.prog 36 #[.agg #[.int .i64 op, .int .i64 n, c], .int .i64 vars, .int .i64 defs] w fun e w' => e = .returned (.bool (ownB op n vars defs)) ∧ Below w.heap.size w w' := by
  go_enter Try.func36, Try.ntmps36
  go_wp2_with fail
  all_goals go_ret
  all_goals refine ⟨ret_bool ?_, (Below.refl _ _).alloc (Nat.le_refl _) _⟩
  all_goals show (_ : Bool) = ownB op n vars defs
  all_goals unfold ownB
  all_goals simp_all
  all_goals (first | omega | rfl)

theorem own_true (op n vars defs : Int) (c : Value) (w : World) (h : ownB op n vars defs = true) : Calls Try.prog 36 #[.agg #[.int .i64 op, .int .i64 n, c], .int .i64 vars, .int .i64 defs] w fun e w' => e = .returned (.bool true) ∧ Below w.heap.size w w' := by
  have := l1Own_calls op n vars defs c w; rwa [h] at this
theorem own_false (op n vars defs : Int) (c : Value) (w : World) (h : ownB op n vars defs = false) : Calls Try.prog 36 #[.agg #[.int .i64 op, .int .i64 n, c], .int .i64 vars, .int .i64 defs] w fun e w' => e = .returned (.bool false) ∧ Below w.heap.size w w' := by
  have := l1Own_calls op n vars defs c w; rwa [h] at this

theorem l1Kids_below (op : Int) (w : World) : Calls Try.prog 33 #[.int .i64 op] w fun e w' => e = .returned (.int .i64 (arity op)) ∧ Below w.heap.size w w' :=
  (l1Kids_calls op w).mono fun _ _ ⟨h, e⟩ => ⟨h, e ▸ Below.refl _ _⟩
end Go.Proofs.Ytekdipmioogohaa
