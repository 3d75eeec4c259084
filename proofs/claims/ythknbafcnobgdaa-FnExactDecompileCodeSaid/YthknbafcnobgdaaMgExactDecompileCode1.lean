/-
  TREES IN MEMORY. An expression of the program (Op, N, Kids) as a tree of numbers; what it means that a slice value of some world holds the trees of a list, its blocks out of a set S. It stays so while the blocks of S stay as they are. How such trees are had from the reading of an argument.
-/
import Derived.WalkKit
import Derived.ProofKit
import Derived.Deep.OwnRows
import Derived.Deep.Slices
import Derived.Deep.Strs
import Derived.Lib.SmallJoins
import Derived.OpenShut
import Derived.Lib.QuietBelow
import Derived.Test.YthknbafcnobgdaaProg
import Derived.Deep.QuietTactic
import Derived.BigQuiet
import Derived.WalkSmall
import Derived.Deep.RegionHeld3
import Derived.Deep.RegionWith
import Derived.Deep.DeepMust
namespace Go.Proofs.Ythknbafcnobgdaa
set_option linter.unusedVariables false
set_option linter.unusedSimpArgs false
open Go.RowKit

theorem mkHid {p : Prop} (h : p) : Hid p := h

inductive Tr where
  | node (op n : Int) (kids : List Tr)

namespace Tr
def op : Tr → Int | .node o _ _ => o
def num : Tr → Int | .node _ n _ => n
def kids : Tr → List Tr | .node _ _ k => k
@[simp] theorem op_node (o n : Int) (k : List Tr) : (Tr.node o n k).op = o := rfl
@[simp] theorem num_node (o n : Int) (k : List Tr) : (Tr.node o n k).num = n := rfl
@[simp] theorem kids_node (o n : Int) (k : List Tr) : (Tr.node o n k).kids = k := rfl
theorem eta (t : Tr) : t = .node t.op t.num t.kids := by cases t; rfl
end Tr
instance : Inhabited Tr := ⟨.node 0 0 []⟩

/-- a number that fits Go's int -/
def I64 (n : Int) : Prop := -9223372036854775808 ≤ n ∧ n ≤ 9223372036854775807

mutual
/-- the three cells (Op, N, Kids) of a tree -/
def TrOn (w : World) (S : Nat → Prop) : Tr → Value → Value → Value → Prop
  | .node op n ks, a, b, c => a = .int .i64 op ∧ b = .int .i64 n ∧ I64 op ∧ I64 n ∧
      ∃ ad cap, c = .slice ad ks.length cap ∧ ks.length ≤ cap ∧ cap ≤ maxLen ∧ (ks = [] ∨ ∃ bl off, ad = some ⟨bl, off, none⟩ ∧ S bl ∧ RowOn w S bl off ks)
/-- the trees of a list, one behind the other from a cell on -/
def RowOn (w : World) (S : Nat → Prop) (bl off : Nat) : List Tr → Prop
  | [] => True
  | t :: ts => (∃ a b c, w.cell? ⟨bl, off, none⟩ = some a ∧ w.cell? ⟨bl, off + 1, none⟩ = some b ∧ w.cell? ⟨bl, off + 2, none⟩ = some c ∧ TrOn w S t a b c) ∧ RowOn w S bl (off + 3) ts
end

/-- a slice value that holds the trees of a list -/
def KidsOn (w : World) (S : Nat → Prop) (ks : List Tr) (c : Value) : Prop :=
  ∃ ad cap, c = .slice ad ks.length cap ∧ ks.length ≤ cap ∧ cap ≤ maxLen ∧ (ks = [] ∨ ∃ bl off, ad = some ⟨bl, off, none⟩ ∧ S bl ∧ RowOn w S bl off ks)

theorem trOn_iff {w : World} {S : Nat → Prop} {t : Tr} {a b c : Value} : TrOn w S t a b c ↔ a = .int .i64 t.op ∧ b = .int .i64 t.num ∧ I64 t.op ∧ I64 t.num ∧ KidsOn w S t.kids c := by
  cases t; simp [TrOn, KidsOn]

mutual
theorem TrOn.mono {w w' : World} {S S' : Nat → Prop} (hS : ∀ k, S k → S' k) (hw : ∀ k, S k → w'.heap[k]? = w.heap[k]?) : ∀ (t : Tr) (a b c : Value), TrOn w S t a b c → TrOn w' S' t a b c
  | .node op n ks, a, b, c, h => by
    simp only [TrOn] at h ⊢
    obtain ⟨h1, h2, h3, h4, ad, cap, e, l1, l2, h5⟩ := h
    refine ⟨h1, h2, h3, h4, ad, cap, e, l1, l2, ?_⟩
    rcases h5 with h5 | ⟨bl, off, e, s, r⟩
    · exact Or.inl h5
    · exact Or.inr ⟨bl, off, e, hS _ s, RowOn.mono hS hw bl off ks s r⟩
theorem RowOn.mono {w w' : World} {S S' : Nat → Prop} (hS : ∀ k, S k → S' k) (hw : ∀ k, S k → w'.heap[k]? = w.heap[k]?) (bl off : Nat) : ∀ (ks : List Tr), S bl → RowOn w S bl off ks → RowOn w' S' bl off ks
  | [], _, _ => by simp [RowOn]
  | t :: ts, s, h => by
    simp only [RowOn] at h ⊢
    obtain ⟨⟨a, b, c, ha, hb, hc, ht⟩, hr⟩ := h
    refine ⟨⟨a, b, c, ?_, ?_, ?_, TrOn.mono hS hw t a b c ht⟩, RowOn.mono hS hw bl (off + 3) ts s hr⟩
    · rw [World.cell?_of_block (w := w) (hw bl s)]; exact ha
    · rw [World.cell?_of_block (w := w) (hw bl s)]; exact hb
    · rw [World.cell?_of_block (w := w) (hw bl s)]; exact hc
end

theorem KidsOn.mono {w w' : World} {S S' : Nat → Prop} {ks : List Tr} {c : Value} (h : KidsOn w S ks c) (hS : ∀ k, S k → S' k) (hw : ∀ k, S k → w'.heap[k]? = w.heap[k]?) : KidsOn w' S' ks c := by
  obtain ⟨ad, cap, e, l1, l2, h5⟩ := h
  refine ⟨ad, cap, e, l1, l2, ?_⟩
  rcases h5 with h5 | ⟨bl, off, e, s, r⟩
  · exact Or.inl h5
  · exact Or.inr ⟨bl, off, e, hS _ s, RowOn.mono hS hw bl off ks s r⟩

/-- element i of a row -/
theorem RowOn.at {w : World} {S : Nat → Prop} {bl : Nat} : ∀ (ks : List Tr) (off i : Nat) (hi : i < ks.length), RowOn w S bl off ks →
    ∃ a b c, w.cell? ⟨bl, off + i * 3, none⟩ = some a ∧ w.cell? ⟨bl, off + i * 3 + 1, none⟩ = some b ∧ w.cell? ⟨bl, off + i * 3 + 2, none⟩ = some c ∧ TrOn w S ks[i] a b c
  | [], _, _, hi, _ => by simp at hi
  | t :: ts, off, 0, _, h => by
    simp only [RowOn] at h
    simpa using h.1
  | t :: ts, off, i + 1, hi, h => by
    simp only [RowOn] at h
    have := RowOn.at ts (off + 3) i (by simpa using hi) h.2
    have e : off + 3 + i * 3 = off + (i + 1) * 3 := by omega
    rw [e] at this
    simpa using this

/-- a row from its elements -/
theorem RowOn.of {w : World} {S : Nat → Prop} {bl : Nat} : ∀ (ks : List Tr) (off : Nat),
    (∀ i (hi : i < ks.length), ∃ a b c, w.cell? ⟨bl, off + i * 3, none⟩ = some a ∧ w.cell? ⟨bl, off + i * 3 + 1, none⟩ = some b ∧ w.cell? ⟨bl, off + i * 3 + 2, none⟩ = some c ∧ TrOn w S ks[i] a b c) → RowOn w S bl off ks
  | [], _, _ => by simp [RowOn]
  | t :: ts, off, h => by
    simp only [RowOn]
    refine ⟨by have h0 := h 0 (by simp); simp only [Nat.zero_mul, Nat.add_zero, List.getElem_cons_zero] at h0; exact h0, RowOn.of ts (off + 3) fun i hi => ?_⟩
    have := h (i + 1) (by simpa using hi)
    have e : off + (i + 1) * 3 = off + 3 + i * 3 := by omega
    rw [e] at this
    simpa using this

/-- all blocks below a number -/
def Lt (B : Nat) : Nat → Prop := fun k => k < B

theorem KidsOn.below {w w' : World} {B B' : Nat} {ks : List Tr} {c : Value} (h : KidsOn w (Lt B) ks c) (hb : Below B w w') (hB : B ≤ B') : KidsOn w' (Lt B') ks c :=
  h.mono (fun k (hk : k < B) => (show k < B' by omega)) (fun k hk => hb.block k hk)

/-- a store into another block -/
theorem KidsOn.setCell {w : World} {S : Nat → Prop} {ks : List Tr} {c : Value} (h : KidsOn w S ks c) {a : Addr} (ha : ¬ S a.block) (u : Value) : KidsOn (w.setCell a u) S ks c :=
  h.mono (fun _ hk => hk) (fun k hk => Below.heap_setCell _ _ _ _ (fun e => ha (e ▸ hk)))
theorem TrOn.setCell {w : World} {S : Nat → Prop} {t : Tr} {x y z : Value} (h : TrOn w S t x y z) {a : Addr} (ha : ¬ S a.block) (u : Value) : TrOn (w.setCell a u) S t x y z :=
  h.mono (fun _ hk => hk) (fun k hk => Below.heap_setCell _ _ _ _ (fun e => ha (e ▸ hk)))
theorem size_setCell (w : World) (a : Addr) (u : Value) : (w.setCell a u).heap.size = w.heap.size := by simp [World.setCell]
theorem cell_lt {w : World} {a : Addr} {v : Value} (h : w.cell? a = some v) : a.block < w.heap.size := by
  unfold World.cell? at h
  cases hb : w.heap[a.block]? with
  | none => rw [hb] at h; simp at h
  | some o => exact (Array.getElem?_eq_some_iff.1 hb).1
/-- a cell of a block that was laid last -/
theorem box_cell (w : World) (C : Array Value) (t : TypeId) (i : Nat) (v : Value) (h : C[i]? = some v) : (w.alloc (.cells C t)).cell? ⟨w.heap.size, i, none⟩ = some v := by
  unfold World.cell?
  rw [Deep.blk_alloc_new]
  exact h
theorem old_cell {w : World} {a : Addr} {v : Value} (h : w.cell? a = some v) (o : Obj) : (w.alloc o).cell? a = some v := by
  have hlt := cell_lt h
  rw [World.cell?_of_block (w := w) (Deep.blk_alloc_lt w o a.block hlt)]
  exact h
theorem box_below (w : World) (o : Obj) : Below w.heap.size w (w.alloc o) := (Below.refl _ _).alloc (Nat.le_refl _) _
/-- a callee that makes memory at most, met within a region that draws its order -/
theorem quietB {P : Program} {f : FuncId} {args : Array Value} {w : World} {v : Value} (h : ∀ W, Below w.heap.size w W → Calls P f args W fun e w' => e = .returned v ∧ Below W.heap.size W w') (d : Nat) (os : Array Obj) :
    Calls P f args (Sort.grow (redrawn w d) os) fun e w'' => e = .returned v ∧ ∃ p : Regrown, w'' = Sort.grow (redrawn w p.d) p.os := Calls.regrown_of (h _ (below_regrown w d os))
theorem bcell {W w1 : World} (hb : Below W.heap.size W w1) : (∀ b o, b < W.heap.size → w1.cell? ⟨b, o, none⟩ = W.cell? ⟨b, o, none⟩) ∧ (∀ b o, b < W.heap.size → w1.frozen? ⟨b, o, none⟩ = W.frozen? ⟨b, o, none⟩) :=
  ⟨fun b o h => hb.cell (p := ⟨b, o, none⟩) h, fun b o h => hb.frozen (p := ⟨b, o, none⟩) h⟩
theorem ret_int {k : IntKind} {a b : Int} (h : a = b) : Ending.returned (.int k a) = .returned (.int k b) := by rw [h]
theorem ret_bool {a b : Bool} (h : a = b) : Ending.returned (.bool a) = .returned (.bool b) := by rw [h]

/-- trees that lie in a world, wherever -/
abbrev In (w : World) (ks : List Tr) (c : Value) : Prop := KidsOn w (Lt w.heap.size) ks c
theorem KidsOn.next {w w' : World} {ks : List Tr} {c : Value} (h : In w ks c) (hb : Below w.heap.size w w') : In w' ks c := h.below hb hb.size

theorem KidsOn.drew {w : World} {ks : List Tr} {c : Value} (h : In w ks c) : In w.drew ks c := h.next ((Below.refl _ _).drew)

/-! ### Down: from the reading of an argument -/
section
variable {H : Type} {enc : TypeId × Value → H} {P : Program} {w : World} {base : Nat} {spare : Nat → Bool} {held : Bool}

theorem list3 {α : Type} (l : List α) (h : l.length = 3) : ∃ a b c, l = [a, b, c] := by
  match l, h with
  | [a, b, c], _ => exact ⟨a, b, c, rfl⟩


/-- what the reading of a slice of expressions gives: it holds some trees -/
theorem open_kids {T E f0t f1t : TypeId} {f0 f1 f2 : Field} (hT : P.underlying T = some (.slice E)) (hE : P.underlying E = some (.struct #[f0, f1, f2])) (hC : P.cellsOf E = 3)
    (hone : Deep.oneCellFields P #[f0, f1, f2] = true) (e0 : f0.type = f0t) (e1 : f1.type = f1t) (e2 : f2.type = T) (h0 : P.underlying f0t = some (.int .i64)) (h1 : P.underlying f1t = some (.int .i64)) :
    ∀ (fuel : Nat) (v : Value) (x : DataW H × List MemPlace), DataW.trod enc P w base spare held fuel T [v] = some x → ∃ ks, KidsOn w (Lt w.heap.size) ks v := by
  intro fuel
  induction fuel using Nat.strongRecOn with
  | ind fuel ih =>
    intro v x h
    rcases DataW.trod_slice hT h with ⟨h0', _⟩ | ⟨a, len, cap, elems, rest, n, hfu, hv, _, hb, hl, hm, hlen, hel, _, _⟩
    · simp only [List.cons.injEq, and_true] at h0'
      exact ⟨[], none, 0, h0', by simp, by simp [maxLen], Or.inl rfl⟩
    · simp only [List.cons.injEq, and_true] at hv
      -- each element is a tree
      have key : ∀ i, i < len → ∃ t, ∃ p q r, w.cell? (a.add (i * 3)) = some p ∧ w.cell? ((a.add (i * 3)).add 1) = some q ∧ w.cell? ((a.add (i * 3)).add 2) = some r ∧ TrOn w (Lt w.heap.size) t p q r := by
        intro i hi
        have hh := hel i hi
        rw [hC] at hh
        obtain ⟨cs, hcs, hd⟩ := Option.bind_eq_some_iff.1 (hh.trans (List.getElem?_eq_getElem (by omega)))
        obtain ⟨_, hl3, hcell⟩ := World.cells?_some hcs
        obtain ⟨p, q, r, rfl⟩ := list3 cs hl3
        obtain ⟨xs, m, hm1, _, _, hxl, hf⟩ := DataW.trod_struct hE hd
        obtain ⟨y0, y1, y2, rfl⟩ := list3 xs (by simpa using hxl)
        have hp := hf 0 f0 rfl
        have hq := hf 1 f1 rfl
        have hr := hf 2 f2 rfl
        simp only [List.getElem?_cons_zero, List.getElem?_cons_succ] at hp hq hr
        obtain ⟨o0, k0⟩ := Deep.hone_of hone 0 f0 rfl
        obtain ⟨o1, k1⟩ := Deep.hone_of hone 1 f1 rfl
        obtain ⟨o2, k2⟩ := Deep.hone_of hone 2 f2 rfl
        have hp' : DataW.trod enc P w base spare held m f0t [p] = some y0 := by rw [← e0]; simpa [o0, k0] using hp
        have hq' : DataW.trod enc P w base spare held m f1t [q] = some y1 := by rw [← e1]; simpa [o1, k1] using hq
        have hr' : DataW.trod enc P w base spare held m T [r] = some y2 := by rw [← e2]; simpa [o2, k2] using hr
        obtain ⟨np, hnp, _, wp⟩ := DataW.trod_int h0 hp'
        obtain ⟨nq, hnq, _, wq⟩ := DataW.trod_int h1 hq'
        simp only [List.cons.injEq, and_true] at hnp hnq
        obtain ⟨ks, hks⟩ := ih m (by omega) r _ hr'
        have g0 := hcell 0 (by omega)
        have g1 := hcell 1 (by omega)
        have g2 := hcell 2 (by omega)
        refine ⟨.node np nq ks, p, q, r, ?_, by simpa using g1, by simpa using g2, trOn_iff.2 ⟨hnp, hnq, bounds_i64 wp, bounds_i64 wq, hks⟩⟩
        simpa [Addr.add] using g0
      subst hv
      have kf := Deep.choose_lt key
      obtain ⟨f, hfk⟩ := kf
      refine ⟨(List.range len).map f, some a, cap, by simp, by simpa using hl, hm, ?_⟩
      by_cases hz : len = 0
      · left; simp [hz]
      right
      obtain ⟨bl, off, spot⟩ := a
      obtain ⟨p, q, r, g0, _⟩ := hfk 0 (by omega)
      have hspot : spot = none := by simpa [Addr.add] using World.cell?_spot g0
      subst hspot
      refine ⟨bl, off, rfl, by have := cell_lt g0; simpa [Addr.add, Lt] using this, RowOn.of _ _ fun i hi => ?_⟩
      simp only [List.length_map, List.length_range] at hi
      obtain ⟨p, q, r, g0, g1, g2, g3⟩ := hfk i hi
      rw [WideShapes.add_plain] at g0 g1 g2
      rw [WideShapes.add_plain] at g1 g2
      exact ⟨p, q, r, g0, g1, g2, by simpa using g3⟩
end

end Go.Proofs.Ythknbafcnobgdaa
/-
  PLAIN FACTS ON TREES: how many nodes a list of trees has; which trees are valid expressions. No program is named here.
-/
namespace Go.Proofs.Ythknbafcnobgdaa
set_option linter.unusedVariables false
set_option linter.unusedSimpArgs false

mutual
/-- how many nodes stand below a tree's top -/
def szT : Tr → Nat
  | .node _ _ ks => szL ks
/-- how many nodes a list of trees has -/
def szL : List Tr → Nat
  | [] => 0
  | t :: ts => 1 + szT t + szL ts
end

theorem szT_eq (t : Tr) : szT t = szL t.kids := by cases t; simp [szT]

/-- the nodes below the tops of a list -/
def sumT (l : List Tr) : Nat := (l.map szT).sum
theorem sumT_nil : sumT [] = 0 := rfl
theorem sumT_cons (t : Tr) (l : List Tr) : sumT (t :: l) = szT t + sumT l := rfl
theorem sumT_append (a b : List Tr) : sumT (a ++ b) = sumT a + sumT b := by simp [sumT]
theorem szL_sum : ∀ (l : List Tr), szL l = l.length + sumT l
  | [] => by simp [szL, sumT]
  | t :: ts => by rw [szL, szL_sum ts, sumT_cons]; simp; omega
theorem sumT_take_succ (l : List Tr) (i : Nat) (h : i < l.length) : sumT (l.take (i + 1)) = sumT (l.take i) + szT l[i] := by
  rw [List.take_succ_eq_append_getElem h, sumT_append]; simp [sumT]
theorem sumT_take_le (l : List Tr) (i : Nat) : sumT (l.take i) ≤ sumT l := by
  conv => rhs; rw [← List.take_append_drop i l, sumT_append]
  omega
theorem szT_le_sumT (l : List Tr) (i : Nat) (h : i < l.length) : szT l[i] ≤ sumT l := by
  have := sumT_take_succ l i h
  have := sumT_take_le l (i + 1)
  omega
theorem szL_append (a b : List Tr) : szL (a ++ b) = szL a + szL b := by simp [szL_sum, sumT_append]; omega
theorem szL_take_succ (l : List Tr) (i : Nat) (h : i < l.length) : szL (l.take (i + 1)) = szL (l.take i) + 1 + szT l[i] := by
  rw [szL_sum, szL_sum, sumT_take_succ l i h, List.length_take, List.length_take]; omega
theorem szL_take_le (l : List Tr) (i : Nat) : szL (l.take i) ≤ szL l := by
  conv => rhs; rw [← List.take_append_drop i l, szL_append]
  omega
theorem szT_lt_szL (l : List Tr) (i : Nat) (h : i < l.length) : szT l[i] < szL l := by
  have := szL_take_succ l i h
  have := szL_take_le l (i + 1)
  omega
theorem szL_kids_lt (l : List Tr) (i : Nat) (h : i < l.length) : szL (l[i]).kids < szL l := by
  rw [← szT_eq]; exact szT_lt_szL l i h

/-- what the law's own count of an argument leaves of a budget -/
def szOut (ks : List Tr) (left : Int) : Int := if (szL ks : Int) ≤ left then left - szL ks else -1

/-- how many operands a kind has -/
def arity (op : Int) : Int :=
  if op = 1 ∨ op = 2 ∨ op = 3 then 0 else if op = 6 ∨ op = 7 then 1 else if op = 4 ∨ op = 5 ∨ op = 8 ∨ op = 9 then 2 else if op = 10 then 3 else -1

/-- is the number of a node right? -/
def ownB (op n vars defs : Int) : Bool :=
  if op = 1 then decide (0 ≤ n ∧ n < vars) else if op = 2 then decide (0 ≤ n ∧ n ≤ 999) else if op = 3 then decide (0 ≤ n ∧ n < defs) else decide (n = 0)

/-- well formed, down to a depth -/
def shB (vars defs : Int) : Nat → Tr → Bool
  | 0, _ => false
  | d + 1, t => decide ((t.kids.length : Int) = arity t.op) && ownB t.op t.num vars defs && t.kids.all (shB vars defs d)

/-- a valid expression -/
def validB (t : Tr) (vars defs : Int) : Bool :=
  decide (0 ≤ vars ∧ vars ≤ 4 ∧ 0 ≤ defs ∧ defs ≤ 6) && (shB vars defs 16 t && decide (1 + szT t ≤ 60))

/-- what is left of a budget of nodes -/
def nlOut (vars defs : Int) (d : Nat) (t : Tr) (nodes : Int) : Int :=
  if shB vars defs d t = true ∧ 1 + (szT t : Int) ≤ nodes then nodes - (1 + szT t) else -1

theorem all_take_succ (p : Tr → Bool) (l : List Tr) (i : Nat) (h : i < l.length) : (l.take (i + 1)).all p = ((l.take i).all p && p l[i]) := by
  rw [List.take_succ_eq_append_getElem h, List.all_append]; simp
theorem all_false_of (p : Tr → Bool) (l : List Tr) (i : Nat) (h : i < l.length) (hp : p l[i] = false) : l.all p = false := by
  rw [List.all_eq_false]; exact ⟨l[i], List.getElem_mem h, by simp [hp]⟩

theorem shB_mono {vars vars' defs defs' : Int} (hv : vars ≤ vars') (hd : defs ≤ defs') : ∀ (d : Nat) (t : Tr), shB vars defs d t = true → shB vars' defs' d t = true
  | 0, _, h => by simp [shB] at h
  | d + 1, t, h => by
    simp only [shB, Bool.and_eq_true, List.all_eq_true] at h ⊢
    obtain ⟨⟨h1, h2⟩, h3⟩ := h
    refine ⟨⟨h1, ?_⟩, fun x hx => shB_mono hv hd d x (h3 x hx)⟩
    unfold ownB at h2 ⊢
    by_cases h1 : t.op = 1
    · rw [if_pos h1] at h2 ⊢; simp at h2 ⊢; omega
    rw [if_neg h1] at h2 ⊢
    by_cases h2' : t.op = 2
    · rw [if_pos h2'] at h2 ⊢; exact h2
    rw [if_neg h2'] at h2 ⊢
    by_cases h3' : t.op = 3
    · rw [if_pos h3'] at h2 ⊢; simp at h2 ⊢; omega
    rw [if_neg h3'] at h2 ⊢; exact h2

end Go.Proofs.Ythknbafcnobgdaa
/-
  CODE AS A LIST OF INSTRUCTIONS: the heights of its stack, the trees that it builds, what of it is valid. Plain lists, no memory.
-/
namespace Go.Proofs.Ythknbafcnobgdaa
set_option linter.unusedVariables false
set_option linter.unusedSimpArgs false
open Go.RowKit

/-- an instruction -/
structure Ins where
  op : Int
  num : Int
instance : Inhabited Ins := ⟨⟨0, 0⟩⟩

/-- the operands of an instruction, as a number -/
def arN (op : Int) : Nat := (arity op).toNat
/-- the height behind an instruction, if there are enough elements -/
def hstp (h : Nat) (c : Ins) : Option Nat := if 0 ≤ arity c.op ∧ arN c.op ≤ h then some (h - arN c.op + 1) else none
/-- the stack of trees behind an instruction -/
def stp (s : List Tr) (c : Ins) : Option (List Tr) :=
  if 0 ≤ arity c.op ∧ arN c.op ≤ s.length then some (s.take (s.length - arN c.op) ++ [.node c.op c.num (s.drop (s.length - arN c.op))]) else none
def runC : List Tr → List Ins → Option (List Tr)
  | s, [] => some s
  | s, c :: cs => (stp s c).bind fun s' => runC s' cs
/-- the height that a list of heights ends with -/
def topH (ds : List Nat) : Nat := ds.getLastD 0
def dstp (ds : List Nat) (c : Ins) : Option (List Nat) := (hstp (topH ds) c).map fun h => ds ++ [h]
def dsC : List Nat → List Ins → Option (List Nat)
  | ds, [] => some ds
  | ds, c :: cs => (dstp ds c).bind fun ds' => dsC ds' cs
/-- the greatest -/
def mxL (ds : List Nat) : Nat := ds.foldl max 0

theorem mxL_snoc (ds : List Nat) (h : Nat) : mxL (ds ++ [h]) = max (mxL ds) h := by simp [mxL, List.foldl_append]
theorem topH_snoc (ds : List Nat) (h : Nat) : topH (ds ++ [h]) = h := by simp [topH]
theorem arity_cases (op : Int) : arity op = -1 ∨ (0 ≤ arity op ∧ arity op = arN op ∧ arN op ≤ 3) := by
  unfold arN arity
  split
  · right; simp
  split
  · right; simp
  split
  · right; simp
  split
  · right; simp
  · left; rfl

theorem runC_append (s : List Tr) (a b : List Ins) : runC s (a ++ b) = (runC s a).bind fun t => runC t b := by
  induction a generalizing s with
  | nil => rfl
  | cons c a ih =>
    simp only [List.cons_append, runC]
    cases h : stp s c with
    | none => rfl
    | some s' => simp only [Option.bind_some]; exact ih s'
theorem dsC_append (s : List Nat) (a b : List Ins) : dsC s (a ++ b) = (dsC s a).bind fun t => dsC t b := by
  induction a generalizing s with
  | nil => rfl
  | cons c a ih =>
    simp only [List.cons_append, dsC]
    cases h : dstp s c with
    | none => rfl
    | some s' => simp only [Option.bind_some]; exact ih s'
theorem runC_succ (s : List Tr) (cs : List Ins) (k : Nat) (hk : k < cs.length) : runC s (cs.take (k + 1)) = (runC s (cs.take k)).bind fun t => stp t cs[k] := by
  rw [List.take_succ_eq_append_getElem hk, runC_append]
  congr 1
  funext t
  simp only [runC]
  cases stp t cs[k] <;> rfl
theorem dsC_succ (s : List Nat) (cs : List Ins) (k : Nat) (hk : k < cs.length) : dsC s (cs.take (k + 1)) = (dsC s (cs.take k)).bind fun t => dstp t cs[k] := by
  rw [List.take_succ_eq_append_getElem hk, dsC_append]
  congr 1
  funext t
  simp only [dsC]
  cases dstp t cs[k] <;> rfl
theorem runC_stop {s : List Tr} {cs : List Ins} {k : Nat} (h : runC s (cs.take k) = none) : runC s cs = none := by
  rw [← List.take_append_drop k cs, runC_append, h]; rfl
theorem dsC_stop {s : List Nat} {cs : List Ins} {k : Nat} (h : dsC s (cs.take k) = none) : dsC s cs = none := by
  rw [← List.take_append_drop k cs, dsC_append, h]; rfl
theorem stp_len (s : List Tr) (c : Ins) : (stp s c).map List.length = hstp s.length c := by
  unfold stp hstp
  split
  · rename_i h
    simp only [Option.map_some, List.length_append, List.length_take, List.length_cons, List.length_nil]
    congr 1
    omega
  · rfl
theorem dsC_len {s d : List Nat} {cs : List Ins} (h : dsC s cs = some d) : d.length = s.length + cs.length := by
  induction cs generalizing s with
  | nil => simp only [dsC, Option.some.injEq] at h; subst h; simp
  | cons c cs ih =>
    simp only [dsC] at h
    cases e : dstp s c with
    | none => rw [e] at h; cases h
    | some s' =>
      rw [e, Option.bind_some] at h
      have := ih h
      unfold dstp at e
      cases e2 : hstp (topH s) c with
      | none => rw [e2] at e; cases e
      | some x =>
        rw [e2] at e
        simp only [Option.map_some, Option.some.injEq] at e
        subst e
        simp at this ⊢
        omega
theorem runC_ds (s : List Tr) (ds : List Nat) (cs : List Ins) (h : topH ds = s.length) : (runC s cs).map List.length = (dsC ds cs).map topH := by
  induction cs generalizing s ds with
  | nil => simp [runC, dsC, h]
  | cons c cs ih =>
    simp only [runC, dsC]
    have e := stp_len s c
    unfold dstp
    rw [h]
    cases e2 : hstp s.length c with
    | none =>
      rw [e2] at e
      cases e3 : stp s c with
      | none => rfl
      | some s' => rw [e3] at e; cases e
    | some x =>
      rw [e2] at e
      cases e3 : stp s c with
      | none => rw [e3] at e; cases e
      | some s' =>
        rw [e3] at e
        simp only [Option.map_some, Option.some.injEq] at e
        simp only [Option.bind_some, Option.map_some]
        exact ih s' _ (by rw [topH_snoc, e])
theorem height_le {ds : List Nat} {cs : List Ins} {d : List Nat} (h : dsC ds cs = some d) : topH d ≤ topH ds + cs.length := by
  induction cs generalizing ds with
  | nil => simp only [dsC, Option.some.injEq] at h; subst h; simp
  | cons c cs ih =>
    simp only [dsC] at h
    cases e : dstp ds c with
    | none => rw [e] at h; cases h
    | some s' =>
      rw [e, Option.bind_some] at h
      have := ih h
      unfold dstp at e
      cases e2 : hstp (topH ds) c with
      | none => rw [e2] at e; cases e
      | some x =>
        rw [e2] at e
        simp only [Option.map_some, Option.some.injEq] at e
        subst e
        rw [topH_snoc] at this
        unfold hstp at e2
        split at e2
        · simp only [Option.some.injEq] at e2
          simp only [List.length_cons]
          omega
        · cases e2

/-- the greatest height, or 0 -/
def stackO (cs : List Ins) : Nat := match dsC [] cs with
  | some ds => mxL ds
  | none => 0

/-! ### What the trees of code bear -/
/-- something of each node -/
def AllN (R : Int → Int → Prop) : Tr → Prop
  | .node o n ks => R o n ∧ ∀ k ∈ ks, AllN R k
theorem allN_iff {R : Int → Int → Prop} {t : Tr} : AllN R t ↔ R t.op t.num ∧ ∀ k ∈ t.kids, AllN R k := by
  cases t; rw [AllN]; rfl
theorem stp_all {R : Int → Int → Prop} {s s' : List Tr} {c : Ins} (h : stp s c = some s') : (∀ t ∈ s', AllN R t) ↔ (∀ t ∈ s, AllN R t) ∧ R c.op c.num := by
  unfold stp at h
  split at h
  · simp only [Option.some.injEq] at h
    subst h
    simp only [List.mem_append, List.mem_singleton]
    constructor
    · intro hh
      have h1 := allN_iff.1 (hh _ (Or.inr rfl))
      refine ⟨fun t ht => ?_, h1.1⟩
      rw [← List.take_append_drop (s.length - arN c.op) s, List.mem_append] at ht
      rcases ht with ht | ht
      · exact hh _ (Or.inl ht)
      · exact h1.2 _ ht
    · rintro ⟨h1, h2⟩ t (ht | rfl)
      · exact h1 _ (List.mem_of_mem_take ht)
      · exact allN_iff.2 ⟨h2, fun k hk => h1 _ (List.mem_of_mem_drop hk)⟩
  · cases h
theorem runC_all {R : Int → Int → Prop} {s s' : List Tr} {cs : List Ins} (h : runC s cs = some s') : (∀ t ∈ s', AllN R t) ↔ (∀ t ∈ s, AllN R t) ∧ ∀ c ∈ cs, R c.op c.num := by
  induction cs generalizing s with
  | nil => simp only [runC, Option.some.injEq] at h; subst h; simp
  | cons c cs ih =>
    simp only [runC] at h
    cases e : stp s c with
    | none => rw [e] at h; cases h
    | some s1 =>
      rw [e, Option.bind_some] at h
      rw [ih h, stp_all e]
      simp only [List.mem_cons, forall_eq_or_imp]
      constructor
      · rintro ⟨⟨a, b⟩, c⟩; exact ⟨a, b, c⟩
      · rintro ⟨a, b, c⟩; exact ⟨⟨a, b⟩, c⟩
theorem stp_sz {s s' : List Tr} {c : Ins} (h : stp s c = some s') : szL s' = szL s + 1 := by
  unfold stp at h
  split at h
  · simp only [Option.some.injEq] at h
    subst h
    rw [szL_append]
    have := congrArg szL (List.take_append_drop (s.length - arN c.op) s)
    rw [szL_append] at this
    rw [← this]
    simp only [szL_sum (l := [_]), sumT_cons, sumT_nil, szT_eq, Tr.kids_node, List.length_cons, List.length_nil]
    omega
  · cases h
theorem runC_sz {s s' : List Tr} {cs : List Ins} (h : runC s cs = some s') : szL s' = szL s + cs.length := by
  induction cs generalizing s with
  | nil => simp only [runC, Option.some.injEq] at h; subst h; simp
  | cons c cs ih =>
    simp only [runC] at h
    cases e : stp s c with
    | none => rw [e] at h; cases h
    | some s1 =>
      rw [e, Option.bind_some] at h
      rw [ih h, stp_sz e]
      simp only [List.length_cons]
      omega

theorem shB_all {vars defs : Int} : ∀ (d : Nat) (t : Tr), shB vars defs d t = true → AllN (fun o n => 0 ≤ arity o ∧ ownB o n vars defs = true) t
  | 0, _, h => by simp [shB] at h
  | d + 1, t, h => by
    simp only [shB, Bool.and_eq_true, List.all_eq_true, decide_eq_true_eq] at h
    obtain ⟨⟨h1, h2⟩, h3⟩ := h
    exact allN_iff.2 ⟨⟨by omega, h2⟩, fun k hk => shB_all d k (h3 k hk)⟩

/-- the expression of code, if it leaves one tree -/
def oneC (cs : List Ins) : Option Tr := match runC [] cs with
  | some [t] => some t
  | _ => none
/-- code that is valid -/
def codeB (cs : List Ins) (vars defs : Int) : Bool := decide (cs.length ≤ 60) && match oneC cs with
  | some t => validB t vars defs
  | none => false
/-- .. and its expression, or the zero value -/
def decO (cs : List Ins) (vars defs : Int) : Tr × Bool := match oneC cs with
  | some t => if codeB cs vars defs = true then (t, true) else (.node 0 0 [], false)
  | none => (.node 0 0 [], false)

theorem oneC_some {cs : List Ins} {t : Tr} (h : oneC cs = some t) : runC [] cs = some [t] := by
  unfold oneC at h
  split at h
  · simp only [Option.some.injEq] at h; subst h; assumption
  · cases h
theorem oneC_of {cs : List Ins} {t : Tr} (h : runC [] cs = some [t]) : oneC cs = some t := by unfold oneC; rw [h]
theorem oneC_top {cs : List Ins} {ds : List Nat} (h : dsC [] cs = some ds) (h1 : topH ds = 1) : ∃ t, runC [] cs = some [t] := by
  have e := runC_ds [] [] cs rfl
  rw [h, Option.map_some, h1] at e
  cases e2 : runC [] cs with
  | none => rw [e2] at e; cases e
  | some s =>
    rw [e2] at e
    simp only [Option.map_some, Option.some.injEq] at e
    obtain ⟨t, rfl⟩ := List.length_eq_one_iff.1 e
    exact ⟨t, rfl⟩
theorem oneC_none {cs : List Ins} (h : ∀ ds, dsC [] cs = some ds → topH ds ≠ 1) : oneC cs = none := by
  unfold oneC
  split
  · rename_i t e
    have e2 := runC_ds [] [] cs rfl
    rw [e] at e2
    cases e3 : dsC [] cs with
    | none => rw [e3] at e2; cases e2
    | some ds =>
      rw [e3] at e2
      simp only [Option.map_some, Option.some.injEq, List.length_cons, List.length_nil] at e2
      exact absurd (by omega) (h ds e3)
  · rfl
theorem codeB_none {cs : List Ins} {vars defs : Int} (h : oneC cs = none) : codeB cs vars defs = false := by unfold codeB; rw [h]; simp
theorem codeB_long {cs : List Ins} {vars defs : Int} (h : 60 < cs.length) : codeB cs vars defs = false := by
  unfold codeB; rw [decide_eq_false (by omega)]; rfl
theorem codeB_one {cs : List Ins} {vars defs : Int} {t : Tr} (h : oneC cs = some t) (hl : cs.length ≤ 60) : codeB cs vars defs = validB t vars defs := by
  unfold codeB; rw [decide_eq_true hl, h]; rfl
/-- an instruction that is not right by itself -/
theorem codeB_own {cs : List Ins} {vars defs : Int} {k : Nat} (hk : k < cs.length) (h : ¬ (0 ≤ arity cs[k].op ∧ ownB cs[k].op cs[k].num vars defs = true)) : codeB cs vars defs = false := by
  by_cases hl : cs.length ≤ 60
  · cases e : oneC cs with
    | none => exact codeB_none e
    | some t =>
      rw [codeB_one e hl]
      cases e2 : validB t vars defs with
      | false => rfl
      | true =>
        exfalso
        simp only [validB, Bool.and_eq_true] at e2
        have h1 := (runC_all (oneC_some e) (R := fun o n => 0 ≤ arity o ∧ ownB o n vars defs = true)).1 (fun x hx => by
          rw [List.mem_singleton] at hx; subst hx; exact shB_all 16 _ e2.2.1)
        exact h (h1.2 _ (List.getElem_mem hk))
  · exact codeB_long (by omega)
theorem decO_valid {cs : List Ins} {vars defs : Int} : (decO cs vars defs).2 = codeB cs vars defs := by
  unfold decO
  cases e : oneC cs with
  | none => exact (codeB_none e).symm
  | some t => cases h : codeB cs vars defs <;> simp
theorem decO_true {cs : List Ins} {vars defs : Int} (h : codeB cs vars defs = true) : ∃ t, oneC cs = some t ∧ decO cs vars defs = (t, true) := by
  cases e : oneC cs with
  | none => rw [codeB_none e] at h; cases h
  | some t => exact ⟨t, rfl, by unfold decO; rw [e]; simp [h]⟩
theorem decO_false {cs : List Ins} {vars defs : Int} (h : codeB cs vars defs = false) : decO cs vars defs = (.node 0 0 [], false) := by
  unfold decO
  cases e : oneC cs with
  | none => rfl
  | some t => simp [h]
theorem decO_sz (cs : List Ins) (vars defs : Int) : szL (decO cs vars defs).1.kids ≤ 60 := by
  cases h : codeB cs vars defs with
  | false => rw [decO_false h]; simp [szL]
  | true =>
    obtain ⟨t, ht, hd⟩ := decO_true h
    rw [hd]
    have h1 := runC_sz (oneC_some ht)
    have hl : cs.length ≤ 60 := by
      rcases Nat.lt_or_ge 60 cs.length with h2 | h2
      · rw [codeB_long h2] at h; cases h
      · exact h2
    rw [szL_sum [t]] at h1
    simp only [sumT_cons, sumT_nil, List.length_cons, List.length_nil] at h1
    have h2 := szT_eq t
    have h3 : szL ([] : List Tr) = 0 := rfl
    show szL t.kids ≤ 60
    omega
end Go.Proofs.Ythknbafcnobgdaa
/-
  make, OF SO MANY INTS: a new row of zeros.
-/
namespace Go.Proofs.Ythknbafcnobgdaa
set_option linter.unusedVariables false
set_option linter.unusedSimpArgs false
open Go.RowKit

theorem infoI : (Try.prog.info? 3).map (fun i => (i.zero, i.size, i.bytes)) = some (some (.int .i64 0), 1, 8) := by kernel_rfl
/-- make, of so many ints: a new row of zeros -/
theorem make_ints (n : Nat) (h : n ≤ 1048576) : ∀ w : World, (Instr.makeSlice 47 (.int .i64 (n : Int)) (.int .i64 (n : Int))).run Try.prog w = .ok (.slice (some ⟨w.heap.size, 0, none⟩) n n) (w.alloc (.cells (madeCells #[.int .i64 0] n) 3)) := by
  obtain ⟨i, hi, hzz⟩ := Option.map_eq_some_iff.1 infoI
  simp only [Prod.mk.injEq] at hzz
  obtain ⟨hz, hs, hb⟩ := hzz
  intro w
  have hr := run_make (P := Try.prog) w 47 3 i _ Try.underlying47 hi hz .i64 .i64 n n (by omega) (Int.le_refl _) (by rw [hb]; omega) (by omega)
  simp only [Int.toNat_natCast, hs, Nat.mul_one] at hr
  exact hr
theorem zero_row (w : World) (n : Nat) : (w.alloc (.cells (madeCells #[.int .i64 0] n) 3)).rowIs w.heap.size 3 n (fun i => .int .i64 (((fun _ => 0 : Nat → Nat) i : Nat) : Int)) := by
  have hl : (madeCells #[.int .i64 0] n).toList = List.replicate n (.int .i64 0) := toList_madeCells_one _ _
  have hsz : (madeCells #[.int .i64 0] n).size = n := by rw [← Array.length_toList, hl, List.length_replicate]
  refine ⟨_, Deep.blk_alloc_new _ _, hsz, fun i hi => ?_⟩
  rw [← Array.getElem?_toList, hl, List.getElem?_replicate, if_pos hi]
  rfl
end Go.Proofs.Ythknbafcnobgdaa
/-
  SLICES OF INTS IN MEMORY; the laws' own comparison and copy of them (eqIntS, toIntS).
-/
namespace Go.Proofs.Ythknbafcnobgdaa
set_option linter.unusedVariables false
set_option linter.unusedSimpArgs false
open Go.RowKit

/-- a slice value that holds these numbers, its block out of S -/
def IntsOn (w : World) (S : Nat → Prop) (xs : List Int) (v : Value) : Prop :=
  ∃ ad cap, v = .slice ad xs.length cap ∧ xs.length ≤ cap ∧ cap ≤ maxLen ∧ (xs = [] ∨ ∃ bl off, ad = some ⟨bl, off, none⟩ ∧ S bl ∧ ∀ i (h : i < xs.length), w.cell? ⟨bl, off + i, none⟩ = some (.int .i64 xs[i]))
/-- .. in a row of its own, from block lo on -/
def IntRow (w : World) (lo : Nat) (xs : List Int) (v : Value) : Prop :=
  ∃ ad cap, v = .slice ad xs.length cap ∧ xs.length ≤ cap ∧ cap ≤ maxLen ∧ (xs = [] ∨ ∃ g f, ad = some ⟨g, 0, none⟩ ∧ lo ≤ g ∧ w.rowIs g 3 cap f ∧ ∀ i (h : i < xs.length), f i = .int .i64 xs[i])
theorem IntRow.on {w : World} {lo : Nat} {xs : List Int} {v : Value} (h : IntRow w lo xs v) : IntsOn w (fun k => lo ≤ k ∧ k < w.heap.size) xs v := by
  obtain ⟨ad, cap, e, l1, l2, h⟩ := h
  refine ⟨ad, cap, e, l1, l2, h.imp id ?_⟩
  rintro ⟨g, f, rfl, hg, hr, hf⟩
  refine ⟨g, 0, rfl, ⟨hg, hr.lt⟩, fun i hi => ?_⟩
  rw [Nat.zero_add, hr.cell (by omega), hf i hi]
theorem IntsOn.mono {w w' : World} {S S' : Nat → Prop} {xs : List Int} {v : Value} (h : IntsOn w S xs v) (hS : ∀ k, S k → S' k) (hw : ∀ k, S k → w'.heap[k]? = w.heap[k]?) : IntsOn w' S' xs v := by
  obtain ⟨ad, cap, e, l1, l2, h⟩ := h
  refine ⟨ad, cap, e, l1, l2, h.imp id ?_⟩
  rintro ⟨bl, off, rfl, hb, hc⟩
  exact ⟨bl, off, rfl, hS _ hb, fun i hi => (World.cell?_of_block (a := ⟨bl, off + i, none⟩) (hw _ hb)).trans (hc i hi)⟩
theorem IntRow.keep {w w' : World} {lo lo' : Nat} {xs : List Int} {v : Value} (h : IntRow w lo xs v) (hl : lo' ≤ lo) (hw : ∀ k, lo ≤ k → k < w.heap.size → w'.heap[k]? = w.heap[k]?) : IntRow w' lo' xs v := by
  obtain ⟨ad, cap, e, l1, l2, h⟩ := h
  refine ⟨ad, cap, e, l1, l2, h.imp id ?_⟩
  rintro ⟨g, f, rfl, hg, hr, hf⟩
  exact ⟨g, f, rfl, by omega, hr.of_block (hw g hg hr.lt), hf⟩
theorem IntRow.next {w w' : World} {lo : Nat} {xs : List Int} {v : Value} (h : IntRow w lo xs v) (hb : Below w.heap.size w w') : IntRow w' lo xs v := h.keep (Nat.le_refl _) fun k _ hk => hb.block k hk
/-- numbers that lie in a world, wherever -/
abbrev IIn (w : World) (xs : List Int) (v : Value) : Prop := IntsOn w (Lt w.heap.size) xs v
theorem IntRow.inn {w : World} {lo : Nat} {xs : List Int} {v : Value} (h : IntRow w lo xs v) : IIn w xs v := h.on.mono (fun k hk => hk.2) fun _ _ => rfl
theorem IntsOn.next {w w' : World} {xs : List Int} {v : Value} (h : IIn w xs v) (hb : Below w.heap.size w w') : IIn w' xs v :=
  h.mono (fun k (hk : k < _) => Nat.lt_of_lt_of_le hk hb.size) fun k hk => hb.block k hk

set_option maxHeartbeats 400000 in
theorem eqInts_calls (xs : List Int) (c d : Value) (w : World) (hc : IIn w xs c) (hd : IIn w xs d) :
    Calls Try.prog 31 #[c, d] w fun e w' => e = .returned (.bool true) ∧ Below w.heap.size w w' := by
  have HC : Hid (IIn w xs c) := hc
  have HD : Hid (IIn w xs d) := hd
  obtain ⟨ad, cap, rfl, hl, hm, -⟩ := hc
  obtain ⟨ad', cap', rfl, hl', hm', -⟩ := hd
  unfold maxLen at hm hm'
  have t1 : ((xs.length : Int) != xs.length) = false := by simp
  go_enter Try.func31, Try.ntmps31
  go_wp2_with fail
  go_loopw [5] (fun i wr => ∃ k : Nat, k ≤ xs.length ∧ i = .int .i64 k ∧ ∃ n, wr = w.drewN n) (fun i _ => xs.length - (intOf i).toNat)
  case atStart => exact ⟨0, Nat.zero_le _, rfl, 0, rfl⟩
  case round =>
    obtain ⟨k, hk, rfl, n, rfl⟩ := hrel
    by_cases hlt : k < xs.length
    · obtain ⟨_, _, he, -, -, hr1⟩ := HC.out
      cases he
      obtain ⟨_, _, he, -, -, hr2⟩ := HD.out
      cases he
      rcases hr1 with rfl | ⟨bl, off, rfl, -, hr1⟩
      · simp at hlt
      rcases hr2 with rfl | ⟨bl', off', rfl, -, hr2⟩
      · simp at hlt
      have c0 := hr1 k hlt
      have d0 := hr2 k hlt
      have t2 : (xs[k] != xs[k]) = false := by simp
      clear hr1 hr2
      go_wp2_with fail
      go_quiet (fail)
      go_wp2_with fail
      go_roundw
      case rel => exact ⟨k + 1, by omega, by go_num, _, rfl⟩
      case measure => simp [intOf]; omega
    · go_wp2_with fail
      go_ret
      exact ⟨rfl, below_drewN (Below.refl _ _) _⟩

theorem IntRow.none (w : World) (lo : Nat) : IntRow w lo [] (.slice none 0 0) := ⟨_, _, rfl, Nat.le_refl _, by simp [maxLen], Or.inl rfl⟩
/-- the answer: the numbers in a row of their own -/
def NewInts (xs : List Int) (w : World) (e : Ending) (w' : World) : Prop := ∃ v, e = .returned v ∧ IntRow w' w.heap.size xs v ∧ Below w.heap.size w w'
end Go.Proofs.Ythknbafcnobgdaa
/-
  THE LAWS' OWN COPY OF A SLICE OF INTS (toIntS).
-/
namespace Go.Proofs.Ythknbafcnobgdaa
set_option linter.unusedVariables false
set_option linter.unusedSimpArgs false
open Go.RowKit

/-! ### The copy -/
/-- what holds of the copy behind k rounds -/
def ToIRel (xs : List Int) (w : World) (k : Nat) (wr : World) : Prop :=
  ∃ f : Nat → Value, wr.rowIs w.heap.size 3 xs.length f ∧ (∀ j (_ : j < k) (hj : j < xs.length), f j = .int .i64 xs[j]) ∧ Below w.heap.size w wr
theorem toIRel_start (xs : List Int) (w : World) : ToIRel xs w 0 (w.alloc (.cells (madeCells #[.int .i64 0] xs.length) 3)) :=
  ⟨_, zero_row w xs.length, fun j hj => absurd hj (by omega), (Below.refl _ _).alloc (Nat.le_refl _) _⟩
theorem toIRel_step {xs : List Int} {w wr : World} {k : Nat} (h : ToIRel xs w k wr) (hk : k < xs.length) : ToIRel xs w (k + 1) (wr.setCell ⟨w.heap.size, k, none⟩ (.int .i64 xs[k])) := by
  obtain ⟨f, hr, ht, hb⟩ := h
  refine ⟨_, hr.set k _, fun j hj hl => ?_, hb.setCell (Nat.le_refl _) _⟩
  by_cases hjk : j = k
  · subst hjk; simp
  · simp [hjk, ht j (by omega) hl]

theorem toIRel_end {xs : List Int} {w wr : World} (h : ToIRel xs w xs.length wr) (hl : xs.length ≤ 1048576) : NewInts xs w (.returned (.slice (some ⟨w.heap.size, 0, none⟩) xs.length xs.length)) wr := by
  obtain ⟨f, hr, ht, hb⟩ := h
  exact ⟨_, rfl, ⟨_, _, rfl, Nat.le_refl _, by unfold maxLen; omega, Or.inr ⟨_, f, rfl, Nat.le_refl _, hr, fun i hi => ht i hi hi⟩⟩, hb⟩

set_option maxHeartbeats 400000 in
theorem toInts_calls (xs : List Int) (c : Value) (w : World) (hc : IIn w xs c) (hlen : xs.length ≤ 1048576) :
    Calls Try.prog 28 #[c] w (NewInts xs w) := by
  have HC : Hid (IIn w xs c) := hc
  obtain ⟨ad, cap, rfl, hl, hm, -⟩ := hc
  unfold maxLen at hm
  have hmk := make_ints xs.length hlen
  go_enter Try.func28, Try.ntmps28
  go_wp2_with fail
  go_loopw [4] (fun i wr => ∃ k : Nat, k ≤ xs.length ∧ i = .int .i64 k ∧ ToIRel xs w k wr) (fun i _ => xs.length - (intOf i).toNat)
  case atStart => exact ⟨0, Nat.zero_le _, rfl, toIRel_start xs w⟩
  case round =>
    obtain ⟨k, hk, rfl, hto⟩ := hrel
    have HT : Hid (ToIRel xs w k wr) := hto
    obtain ⟨f, hr0, _, hb⟩ := hto
    by_cases hlt : k < xs.length
    · obtain ⟨_, _, he, -, -, hr1⟩ := HC.out.next hb
      cases he
      rcases hr1 with rfl | ⟨bl, off, rfl, -, hr1⟩
      · simp at hlt
      have c0 := hr1 k hlt
      have g0 := hr0.cell (i := k) (by omega)
      have f0 := hr0.frozen k
      clear hr1 hb hr0
      go_wp2_with fail
      go_roundw
      case rel => exact ⟨k + 1, by omega, by go_num, toIRel_step HT.out hlt⟩
      case measure => simp [intOf]; omega
    · have hke : xs.length = k := by omega
      have HV : Hid (NewInts xs w (.returned (.slice (some ⟨w.heap.size, 0, none⟩) xs.length xs.length)) wr) := by subst hke; exact toIRel_end HT.out hlen
      clear hke hr0 hb
      go_wp2_with fail
      go_ret
      exact HV.out
end Go.Proofs.Ythknbafcnobgdaa
/-
  GRAPHS IN MEMORY: a slice of cells (Op, N, Kids), three cells of memory each, the operands a slice of ints. The laws' own count, copy and comparison of graphs.
-/
namespace Go.Proofs.Ythknbafcnobgdaa
set_option linter.unusedVariables false
set_option linter.unusedSimpArgs false
open Go.RowKit

/-- a cell of a graph -/
structure Ce where
  op : Int
  num : Int
  kids : List Int
instance : Inhabited Ce := ⟨⟨0, 0, []⟩⟩

/-- a slice value that holds these cells, its blocks out of S -/
def CellsOn (w : World) (S : Nat → Prop) (g : List Ce) (v : Value) : Prop :=
  ∃ ad cap, v = .slice ad g.length cap ∧ g.length ≤ cap ∧ cap ≤ maxLen ∧ (g = [] ∨ ∃ bl off, ad = some ⟨bl, off, none⟩ ∧ S bl ∧ ∀ i (hi : i < g.length), ∃ c,
    w.cell? ⟨bl, off + i * 3, none⟩ = some (.int .i64 g[i].op) ∧ w.cell? ⟨bl, off + i * 3 + 1, none⟩ = some (.int .i64 g[i].num) ∧ w.cell? ⟨bl, off + i * 3 + 2, none⟩ = some c ∧ I64 g[i].op ∧ I64 g[i].num ∧ IntsOn w S g[i].kids c)
theorem CellsOn.mono {w w' : World} {S S' : Nat → Prop} {g : List Ce} {v : Value} (h : CellsOn w S g v) (hS : ∀ k, S k → S' k) (hw : ∀ k, S k → w'.heap[k]? = w.heap[k]?) : CellsOn w' S' g v := by
  obtain ⟨ad, cap, e, l1, l2, h5⟩ := h
  refine ⟨ad, cap, e, l1, l2, ?_⟩
  rcases h5 with h5 | ⟨bl, off, e, s, r⟩
  · exact Or.inl h5
  · refine Or.inr ⟨bl, off, e, hS _ s, fun i hi => ?_⟩
    obtain ⟨c, h1, h2, h3, i1, i2, g3⟩ := r i hi
    refine ⟨c, ?_, ?_, ?_, i1, i2, g3.mono hS hw⟩
    all_goals rw [World.cell?_of_block (w := w) (hw bl s)]; assumption
/-- cells that lie in a world, wherever -/
abbrev CIn (w : World) (g : List Ce) (v : Value) : Prop := CellsOn w (Lt w.heap.size) g v
theorem CellsOn.next {w w' : World} {g : List Ce} {v : Value} (h : CIn w g v) (hb : Below w.heap.size w w') : CIn w' g v :=
  h.mono (fun k (hk : k < w.heap.size) => Nat.lt_of_lt_of_le hk hb.size) (fun k hk => hb.block k hk)
theorem CellsOn.drew {w : World} {g : List Ce} {v : Value} (h : CIn w g v) : CIn w.drew g v := h.next ((Below.refl _ _).drew)
theorem IntsOn.drew {w : World} {xs : List Int} {v : Value} (h : IIn w xs v) : IIn w.drew xs v := h.next ((Below.refl _ _).drew)

/-- element i, opened -/
theorem CellsOn.at {w : World} {g : List Ce} {ad : Option Addr} {n cap : Nat} (h : CIn w g (.slice ad n cap)) (i : Nat) (hi : i < g.length) :
    ∃ bl off c, ad = some ⟨bl, off, none⟩ ∧ w.cell? ⟨bl, off + i * 3, none⟩ = some (.int .i64 g[i].op) ∧ w.cell? ⟨bl, off + i * 3 + 1, none⟩ = some (.int .i64 g[i].num) ∧ w.cell? ⟨bl, off + i * 3 + 2, none⟩ = some c ∧ I64 g[i].op ∧ I64 g[i].num ∧ IIn w g[i].kids c := by
  obtain ⟨ad', cap', he, -, -, hr⟩ := h
  cases he
  rcases hr with rfl | ⟨bl, off, rfl, -, r⟩
  · simp at hi
  obtain ⟨c, h1, h2, h3, i1, i2, h4⟩ := r i hi
  exact ⟨bl, off, c, rfl, h1, h2, h3, i1, i2, h4⟩
/-- number i of a list of ints, opened -/
theorem IntsOn.at {w : World} {xs : List Int} {ad : Option Addr} {n cap : Nat} (h : IIn w xs (.slice ad n cap)) (i : Nat) (hi : i < xs.length) :
    ∃ bl off, ad = some ⟨bl, off, none⟩ ∧ w.cell? ⟨bl, off + i, none⟩ = some (.int .i64 xs[i]) := by
  obtain ⟨ad', cap', he, -, -, hr⟩ := h
  cases he
  rcases hr with rfl | ⟨bl, off, rfl, -, r⟩
  · simp at hi
  exact ⟨bl, off, rfl, r i hi⟩

/-! ### The count -/
/-- the operands of the first cells -/
def sumK (l : List Ce) : Nat := (l.map (·.kids.length)).sum
theorem sumK_append (a b : List Ce) : sumK (a ++ b) = sumK a + sumK b := by simp [sumK]
theorem sumK_take_succ (l : List Ce) (i : Nat) (h : i < l.length) : sumK (l.take (i + 1)) = sumK (l.take i) + l[i].kids.length := by
  rw [List.take_succ_eq_append_getElem h, sumK_append]; simp [sumK]
theorem sumK_take_le (l : List Ce) (i : Nat) : sumK (l.take i) ≤ sumK l := by
  conv => rhs; rw [← List.take_append_drop i l, sumK_append]
  omega
theorem kids_le_sumK (l : List Ce) (i : Nat) (h : i < l.length) : l[i].kids.length ≤ sumK l := by
  have := sumK_take_succ l i h
  have := sumK_take_le l (i + 1)
  omega
/-- what the law's own count of a graph leaves of a budget -/
def szC (g : List Ce) (left : Int) : Int := if (g.length : Int) + sumK g ≤ left then left - (g.length + sumK g) else -1
theorem szC_range (g : List Ce) (left : Int) (h : 0 ≤ left) : -1 ≤ szC g left ∧ szC g left ≤ left := by unfold szC; split <;> omega
def szCAt (g : List Ce) (left : Int) (k : Nat) : Int := left - g.length - sumK (g.take k)

set_option maxHeartbeats 400000 in
theorem szInts_calls (n cap : Nat) (ad : Option Addr) (left : Int) (w : World) (hn : n ≤ 9223372036854775807) (h0 : 0 ≤ left) (h1 : left ≤ 4611686018427387904) :
    Calls Try.prog 82 #[.slice ad n cap, .int .i64 left] w fun e w' => e = .returned (.int .i64 (if (n : Int) ≤ left then left - n else -1)) ∧ Below w.heap.size w w' := by
  by_cases h : (n : Int) ≤ left
  · have h' : ¬ (left - (n : Int) < 0) := by omega
    rw [if_pos h]
    go_enter Try.func82, Try.ntmps82
    go_wp2_with fail
    go_ret
    exact ⟨rfl, Below.refl _ _⟩
  · rw [if_neg h]
    go_enter Try.func82, Try.ntmps82
    go_wp2_with fail
    go_ret
    exact ⟨rfl, Below.refl _ _⟩

set_option maxHeartbeats 400000 in
theorem szCell_calls (op num : Int) (n cap : Nat) (ad : Option Addr) (left : Int) (w : World) (hn : n ≤ 9223372036854775807) (h0 : 0 ≤ left) (h1 : left ≤ 4611686018427387904) :
    Calls Try.prog 58 #[.agg #[.int .i64 op, .int .i64 num, .slice ad n cap], .int .i64 left] w fun e w' => e = .returned (.int .i64 (if (n : Int) ≤ left then left - n else -1)) ∧ Below w.heap.size w w' := by
  have HBX : Hid (Below w.heap.size w (w.alloc (.cells #[.int .i64 op, .int .i64 num, .slice ad n cap] 86))) := box_below _ _
  by_cases h : (n : Int) ≤ left
  · have h' : ¬ (left - (n : Int) < 0) := by omega
    have hq := szInts_calls n cap ad left (w.alloc (.cells #[.int .i64 op, .int .i64 num, .slice ad n cap] 86)) hn h0 h1
    rw [if_pos h] at hq ⊢
    go_enter Try.func58, Try.ntmps58
    go_wp2_with fail
    refine hq.mono ?_
    rintro e w1 ⟨rfl, hb⟩
    have HB : Hid (Below w.heap.size w w1) := HBX.out.trans (hb.mono HBX.out.size)
    clear hb
    go_wp2_with fail
    go_ret
    exact ⟨rfl, HB.out⟩
  · have hq := szInts_calls n cap ad left (w.alloc (.cells #[.int .i64 op, .int .i64 num, .slice ad n cap] 86)) hn h0 h1
    rw [if_neg h] at hq ⊢
    go_enter Try.func58, Try.ntmps58
    go_wp2_with fail
    refine hq.mono ?_
    rintro e w1 ⟨rfl, hb⟩
    have HB : Hid (Below w.heap.size w w1) := HBX.out.trans (hb.mono HBX.out.size)
    clear hb
    go_wp2_with fail
    go_ret
    exact ⟨rfl, HB.out⟩

theorem szC_kid (g : List Ce) (left : Int) (k : Nat) (hk : k < g.length) (h : (g[k].kids.length : Int) ≤ szCAt g left k) : szCAt g left k - g[k].kids.length = szCAt g left (k + 1) := by
  have e := sumK_take_succ g k hk
  unfold szCAt; rw [e]; omega
theorem szC_neg (g : List Ce) (left : Int) (k : Nat) (hk : k < g.length) (h : ¬ (g[k].kids.length : Int) ≤ szCAt g left k) : szC g left = -1 := by
  have e := sumK_take_succ g k hk
  have e2 := sumK_take_le g (k + 1)
  unfold szC; rw [if_neg]; unfold szCAt at h; omega
theorem szC_end (g : List Ce) (left : Int) (h : 0 ≤ szCAt g left g.length) : szC g left = szCAt g left g.length := by
  unfold szCAt at h ⊢; rw [List.take_length] at h ⊢; unfold szC; rw [if_pos (by omega)]; omega

set_option maxHeartbeats 400000 in
theorem szCells_calls (g : List Ce) (c : Value) (left : Int) (w : World) (hk : CIn w g c) (h0 : 0 ≤ left) (h1 : left ≤ 4611686018427387904) :
    Calls Try.prog 25 #[c, .int .i64 left] w fun e w' => e = .returned (.int .i64 (szC g left)) ∧ Below w.heap.size w w' := by
  have HK : Hid (CIn w g c) := hk
  obtain ⟨ad, cap, rfl, hl, hm, -⟩ := hk
  unfold maxLen at hm
  by_cases hlen : left < g.length
  · have HV : Hid (szC g left = -1) := by unfold Hid szC; rw [if_neg]; omega
    go_enter Try.func25, Try.ntmps25
    go_wp2_with fail
    go_ret
    exact ⟨ret_int HV.out.symm, Below.refl _ _⟩
  · have hneg : ¬ (left - g.length < 0) := by omega
    go_enter Try.func25, Try.ntmps25
    go_wp2_with fail
    go_loopw [1, 5] (fun l i wr => ∃ k : Nat, k ≤ g.length ∧ i = .int .i64 k ∧ l = .int .i64 (szCAt g left k) ∧ 0 ≤ szCAt g left k ∧ Below w.heap.size w wr) (fun _ i _ => g.length - (intOf i).toNat)
    case atStart => exact ⟨0, Nat.zero_le _, rfl, by simp [szCAt, sumK], by simp [szCAt, sumK]; omega, Below.refl _ _⟩
    case round =>
      obtain ⟨k, hk, rfl, rfl, hpos, hb⟩ := hrel
      have hle : szCAt g left k ≤ left := by unfold szCAt; omega
      by_cases hlt : k < g.length
      · obtain ⟨bl, off, r, rfl, c0, c1, c2, -, -, hkk⟩ := (HK.out.next hb).at k hlt
        obtain ⟨ad2, cap2, rfl, hl2, hm2, -⟩ := hkk
        have hm3 : g[k].kids.length ≤ 9223372036854775807 := by unfold maxLen at hm2; omega
        clear hl2 hm2
        go_wp2_with fail
        refine (szCell_calls _ _ _ _ _ _ _ hm3 hpos (by omega)).mono ?_
        rintro e w1 ⟨rfl, hb1⟩
        have hb2 : Below w.heap.size w w1 := hb.trans (hb1.mono hb.size)
        clear hb1
        by_cases hneg1 : (g[k].kids.length : Int) ≤ szCAt g left k
        · have HV : Hid (szCAt g left k - g[k].kids.length = szCAt g left (k + 1)) := szC_kid g left k hlt hneg1
          rw [if_pos hneg1]
          have hnn : 0 ≤ szCAt g left (k + 1) := by rw [← HV.out]; omega
          have hq : ¬ (szCAt g left k - g[k].kids.length < 0) := by omega
          go_wp2_with fail
          go_roundw
          case rel => exact ⟨k + 1, by omega, by go_num, by rw [HV.out], hnn, hb2⟩
          case measure => simp [intOf]; omega
        · have HV : Hid (szC g left = -1) := szC_neg g left k hlt hneg1
          rw [if_neg hneg1]
          go_wp2_with fail
          go_ret
          exact ⟨ret_int HV.out.symm, hb2⟩
      · have hke : g.length = k := by omega
        have HV : Hid (szC g left = szCAt g left k) := by subst hke; exact szC_end g left hpos
        clear hke
        go_wp2_with fail
        go_ret
        exact ⟨ret_int HV.out.symm, hb⟩

/-! ### The copy -/
/-- a slice value that holds these cells in a row of its own, the operands in such rows too, from block lo on -/
def CellRow (w : World) (lo : Nat) (g : List Ce) (v : Value) : Prop :=
  ∃ ad cap, v = .slice ad g.length cap ∧ g.length ≤ cap ∧ cap ≤ maxLen ∧ (g = [] ∨ ∃ b f, ad = some ⟨b, 0, none⟩ ∧ lo ≤ b ∧ w.rowIs b 90 (cap * 3) f ∧ ∀ i (h : i < g.length), f (i * 3) = .int .i64 g[i].op ∧ f (i * 3 + 1) = .int .i64 g[i].num ∧ I64 g[i].op ∧ I64 g[i].num ∧ IntRow w lo g[i].kids (f (i * 3 + 2)))
theorem CellRow.inn {w : World} {lo : Nat} {g : List Ce} {v : Value} (h : CellRow w lo g v) : CIn w g v := by
  obtain ⟨ad, cap, e, l1, l2, h⟩ := h
  refine ⟨ad, cap, e, l1, l2, h.imp id ?_⟩
  rintro ⟨b, f, rfl, hg, hr, hf⟩
  refine ⟨b, 0, rfl, hr.lt, fun i hi => ?_⟩
  obtain ⟨f0, f1, i0, i1, f2⟩ := hf i hi
  refine ⟨_, ?_, ?_, ?_, i0, i1, f2.inn⟩
  · rw [Nat.zero_add, hr.cell (by omega), f0]
  · rw [Nat.zero_add, hr.cell (by omega), f1]
  · rw [Nat.zero_add, hr.cell (by omega)]
theorem CellRow.keep {w w' : World} {lo lo' : Nat} {g : List Ce} {v : Value} (h : CellRow w lo g v) (hl : lo' ≤ lo) (hw : ∀ k, lo ≤ k → k < w.heap.size → w'.heap[k]? = w.heap[k]?) : CellRow w' lo' g v := by
  obtain ⟨ad, cap, e, l1, l2, h⟩ := h
  refine ⟨ad, cap, e, l1, l2, h.imp id ?_⟩
  rintro ⟨b, f, rfl, hg, hr, hf⟩
  refine ⟨b, f, rfl, by omega, hr.of_block (hw b hg hr.lt), fun i hi => ?_⟩
  obtain ⟨f0, f1, i0, i1, f2⟩ := hf i hi
  exact ⟨f0, f1, i0, i1, f2.keep hl hw⟩
theorem CellRow.next {w w' : World} {lo : Nat} {g : List Ce} {v : Value} (h : CellRow w lo g v) (hb : Below w.heap.size w w') : CellRow w' lo g v := h.keep (Nat.le_refl _) fun k _ hk => hb.block k hk

def NewCell (op num : Int) (xs : List Int) (w : World) (e : Ending) (w' : World) : Prop := ∃ v, e = .returned (.agg #[.int .i64 op, .int .i64 num, v]) ∧ IntRow w' w.heap.size xs v ∧ Below w.heap.size w w'
def NewCells (g : List Ce) (w : World) (e : Ending) (w' : World) : Prop := ∃ v, e = .returned v ∧ CellRow w' w.heap.size g v ∧ Below w.heap.size w w'
theorem IntRow.setCell {w : World} {lo : Nat} {xs : List Int} {v : Value} (h : IntRow w lo xs v) {a : Addr} (ha : a.block < lo) (u : Value) : IntRow (w.setCell a u) lo xs v :=
  h.keep (Nat.le_refl _) fun k hk _ => Below.heap_setCell _ _ _ _ (fun e => by omega)
theorem IntRow.down {w : World} {lo lo' : Nat} {xs : List Int} {v : Value} (h : IntRow w lo xs v) (hl : lo' ≤ lo) : IntRow w lo' xs v := h.keep hl fun _ _ _ => rfl

set_option maxHeartbeats 400000 in
theorem toCell_calls (op num : Int) (xs : List Int) (c : Value) (w : World) (hk : IIn w xs c) (hsz : xs.length ≤ 1048576) : Calls Try.prog 62 #[.agg #[.int .i64 op, .int .i64 num, c]] w (NewCell op num xs w) := by
  have HK : Hid (IIn w xs c) := hk
  clear hk
  go_enter Try.func62, Try.ntmps62
  go_wp2_with fail
  refine (toInts_calls xs c _ ?_ hsz).mono ?_
  · exact HK.out.next ((((Below.refl _ _).alloc (Nat.le_refl _) _).alloc (by simp) _).alloc (by simp; omega) _)
  rintro e w1 ⟨v, rfl, hv, hb⟩
  obtain ⟨hc, hf⟩ := bcell hb
  have hz : w.heap.size + 2 < w1.heap.size := by have := hb.size; simp at this; omega
  have HV : Hid (IntRow w1 (w.heap.size + 3) xs v) := hv.down (by simp)
  have HB : Hid (Below w.heap.size w w1) := ((((Below.refl _ _).alloc (Nat.le_refl _) _).alloc (by simp) _).alloc (by simp; omega) _).trans (hb.mono (by simp; omega))
  obtain ⟨ad, cap, rfl, -, -, -⟩ := hv
  clear hb
  go_wp2_with fail
  refine bodyPost_ret (v := .agg #[.int .i64 op, .int .i64 num, .slice ad xs.length cap]) (by simp [results, Try.results62, go_sem, hc, hf, hz]) rfl ⟨_, rfl, ?_, ?_⟩
  · refine IntRow.down (lo := w.heap.size + 3) ?_ (by omega)
    repeat' (refine IntRow.setCell ?_ (by simp <;> omega) _)
    exact HV.out
  · repeat' (refine Below.setCell ?_ (by simp <;> omega) _)
    exact HB.out

theorem infoC : (Try.prog.info? 90).map (fun i => (i.zero, i.size, i.bytes)) = some (some (.agg #[.int .i64 0, .int .i64 0, .slice none 0 0]), 3, 40) := by kernel_rfl
theorem make_cells (n : Nat) (h : n ≤ 1048576) : ∃ C : Array Value, C.size = n * 3 ∧ ∀ w : World, (Instr.makeSlice 49 (.int .i64 (n : Int)) (.int .i64 (n : Int))).run Try.prog w = .ok (.slice (some ⟨w.heap.size, 0, none⟩) n n) (w.alloc (.cells C 90)) := by
  obtain ⟨i, hi, hzz⟩ := Option.map_eq_some_iff.1 infoC
  simp only [Prod.mk.injEq] at hzz
  obtain ⟨hz, hs, hb⟩ := hzz
  refine ⟨madeCells (Value.agg #[.int .i64 0, .int .i64 0, .slice none 0 0]).cells (n * 3), size_madeCells _ _, fun w => ?_⟩
  have hr := run_make (P := Try.prog) w 49 90 i _ Try.underlying49 hi hz .i64 .i64 n n (by omega) (Int.le_refl _) (by rw [hb]; omega) (by omega)
  simp only [Int.toNat_natCast, hs] at hr
  exact hr

/-- what holds of the copy of a graph behind k rounds -/
def ToCRel (g : List Ce) (w : World) (k : Nat) (wr : World) : Prop :=
  ∃ f : Nat → Value, wr.rowIs w.heap.size 90 (g.length * 3) f ∧ (∀ j (_ : j < k) (hj : j < g.length), f (j * 3) = .int .i64 g[j].op ∧ f (j * 3 + 1) = .int .i64 g[j].num ∧ I64 g[j].op ∧ I64 g[j].num ∧ IntRow wr (w.heap.size + 1) g[j].kids (f (j * 3 + 2))) ∧ Below w.heap.size w wr
theorem toCRel_start (g : List Ce) (w : World) (C : Array Value) (h : C.size = g.length * 3) : ToCRel g w 0 (w.alloc (.cells C 90)) := by
  refine ⟨fun i => C.getD i undef, ⟨C, Deep.blk_alloc_new _ _, h, fun i hi => ?_⟩, fun j hj => absurd hj (by omega), (Below.refl _ _).alloc (Nat.le_refl _) _⟩
  simp [Array.getElem?_eq_getElem (h ▸ hi : i < C.size), Array.getD, (h ▸ hi : i < C.size)]
/-- the world behind the three stores -/
def stC (w1 : World) (b k : Nat) (c : Ce) (v : Value) : World :=
  ((w1.setCell ⟨b, k * 3, none⟩ (.int .i64 c.op)).setCell ⟨b, k * 3 + 1, none⟩ (.int .i64 c.num)).setCell ⟨b, k * 3 + 2, none⟩ v
theorem toCRel_step (g : List Ce) (w wr w1 : World) (k : Nat) (hk : k < g.length) (h : ToCRel g w k wr) (v : Value) (hb : Below wr.heap.size wr w1) (hv : IntRow w1 wr.heap.size (g[k]).kids v) (ho : I64 (g[k]).op) (hn : I64 (g[k]).num) :
    ToCRel g w (k + 1) (stC w1 w.heap.size k g[k] v) := by
  unfold stC
  obtain ⟨f, hr, ht, hbw⟩ := h
  have hlt := hr.lt
  have hr1 : w1.rowIs w.heap.size 90 (g.length * 3) f := hr.of_block (hb.block _ hlt)
  have hsz := hb.size
  have keep : ∀ (xs : List Int) (u : Value), IntRow w1 (w.heap.size + 1) xs u → IntRow (((w1.setCell ⟨w.heap.size, k * 3, none⟩ (.int .i64 g[k].op)).setCell ⟨w.heap.size, k * 3 + 1, none⟩ (.int .i64 g[k].num)).setCell ⟨w.heap.size, k * 3 + 2, none⟩ v) (w.heap.size + 1) xs u :=
    fun xs u q => ((q.setCell (by simp) _).setCell (by simp) _).setCell (by simp) _
  refine ⟨_, ((hr1.set (k * 3) _).set (k * 3 + 1) _).set (k * 3 + 2) _, fun j hj hjl => ?_, ?_⟩
  · by_cases hjk : j = k
    · subst hjk
      have : IntRow w1 (w.heap.size + 1) g[j].kids v := hv.down (by omega)
      refine ⟨by simp, by simp, ho, hn, ?_⟩
      simpa using keep _ _ this
    · obtain ⟨h00, h01, i0, i1, h02⟩ := ht j (by omega) hjl
      have h1 : IntRow w1 (w.heap.size + 1) g[j].kids (f (j * 3 + 2)) := h02.next hb
      have h2 := keep _ _ h1
      have e1 : ∀ m, m < 3 → j * 3 + m ≠ k * 3 + 2 ∧ j * 3 + m ≠ k * 3 + 1 ∧ j * 3 + m ≠ k * 3 := fun m hm => by omega
      have a0 := e1 0 (by omega)
      have a1 := e1 1 (by omega)
      have a2 := e1 2 (by omega)
      simp only [Nat.add_zero] at a0
      refine ⟨?_, ?_, i0, i1, ?_⟩
      · simp only [if_neg a0.1, if_neg a0.2.1, if_neg a0.2.2]; exact h00
      · simp only [if_neg a1.1, if_neg a1.2.1, if_neg a1.2.2]; exact h01
      · simp only [if_neg a2.1, if_neg a2.2.1, if_neg a2.2.2]; exact h2
  · exact (((hbw.trans (hb.mono (Nat.le_of_lt hlt))).setCell (by simp) _).setCell (by simp) _).setCell (by simp) _
theorem toCRel_end (g : List Ce) (w wr : World) (h : ToCRel g w g.length wr) (hl : g.length ≤ 1048576) : NewCells g w (.returned (.slice (some ⟨w.heap.size, 0, none⟩) g.length g.length)) wr := by
  obtain ⟨f, hr, ht, hbw⟩ := h
  refine ⟨_, rfl, ⟨_, _, rfl, Nat.le_refl _, by unfold maxLen; omega, Or.inr ⟨_, f, rfl, Nat.le_refl _, hr, fun i hi => ?_⟩⟩, hbw⟩
  obtain ⟨g1, g2, i0, i1, g3⟩ := ht i hi hi
  exact ⟨g1, g2, i0, i1, g3.down (by omega)⟩

set_option maxHeartbeats 400000 in
theorem toCells_calls (g : List Ce) (c : Value) (w : World) (hk : CIn w g c) (hsz : g.length + sumK g ≤ 1048576) : Calls Try.prog 27 #[c] w (NewCells g w) := by
  have HK : Hid (CIn w g c) := hk
  have hlen : g.length ≤ 1048576 := by omega
  obtain ⟨ad, cap, rfl, -, -, -⟩ := hk
  obtain ⟨C, hC, hmk⟩ := make_cells g.length hlen
  have HC : Hid (C.size = g.length * 3) := hC
  clear hC
  go_enter Try.func27, Try.ntmps27
  go_wp2_with fail
  go_loopw [4] (fun i wr => ∃ k : Nat, k ≤ g.length ∧ i = .int .i64 k ∧ ToCRel g w k wr) (fun i _ => g.length - (intOf i).toNat)
  case atStart => exact ⟨0, Nat.zero_le _, rfl, toCRel_start g w C HC.out⟩
  case round =>
    obtain ⟨k, hk, rfl, hto⟩ := hrel
    have HT : Hid (ToCRel g w k wr) := hto
    obtain ⟨f, hr0, _, hb⟩ := hto
    have hlt0 := hr0.lt
    by_cases hlt : k < g.length
    · obtain ⟨bl, off, r, rfl, c0, c1, c2, io, iN, hkk⟩ := (HK.out.next hb).at k hlt
      have HKK : Hid (IIn wr g[k].kids r) := hkk
      have hkz : g[k].kids.length ≤ 1048576 := by have := kids_le_sumK g k hlt; omega
      have HR : Hid (wr.rowIs w.heap.size 90 (g.length * 3) f) := hr0
      clear hkk hr0 hb
      go_wp2_with fail
      refine (toCell_calls _ _ g[k].kids r _ HKK.out hkz).mono ?_
      rintro e w1 ⟨v, rfl, hv, hb1⟩
      have hr1 : w1.rowIs w.heap.size 90 (g.length * 3) f := HR.out.of_block (hb1.block _ hlt0)
      have HS : Hid (ToCRel g w (k + 1) (stC w1 w.heap.size k g[k] v)) := toCRel_step g w wr w1 k hlt HT.out v hb1 hv io iN
      obtain ⟨ad2, cap2, rfl, _, _, _⟩ := hv
      have g0 := hr1.cell (i := k * 3) (by omega)
      have g1 := hr1.cell (i := k * 3 + 1) (by omega)
      have g2 := hr1.cell (i := k * 3 + 2) (by omega)
      have f0 := hr1.frozen (k * 3)
      have f1 := hr1.frozen (k * 3 + 1)
      have f2 := hr1.frozen (k * 3 + 2)
      clear hr1 hb1
      go_wp2_with fail
      go_roundw
      case rel => exact ⟨k + 1, by omega, by go_num, HS.out⟩
      case measure => simp [intOf]; omega
    · have hke : g.length = k := by omega
      have HV : Hid (NewCells g w (.returned (.slice (some ⟨w.heap.size, 0, none⟩) g.length g.length)) wr) := by subst hke; exact toCRel_end g w wr HT.out hlen
      clear hke hr0 hb
      go_wp2_with fail
      go_ret
      exact HV.out

/-! ### The comparison -/
set_option maxHeartbeats 400000 in
theorem eqCell_calls (op num : Int) (xs : List Int) (c d : Value) (w : World) (hc : IIn w xs c) (hd : IIn w xs d) : Calls Try.prog 69 #[.agg #[.int .i64 op, .int .i64 num, c], .agg #[.int .i64 op, .int .i64 num, d]] w fun e w' => e = .returned (.bool true) ∧ Below w.heap.size w w' := by
  have HC : Hid (IIn w xs c) := hc
  have HD : Hid (IIn w xs d) := hd
  clear hc hd
  have t1 : (op != op) = false := by simp
  have t2 : (num != num) = false := by simp
  go_enter Try.func69, Try.ntmps69
  go_wp2_with fail
  have hb0 : ∀ o1 o2, Below w.heap.size w ((w.alloc o1).alloc o2) := fun o1 o2 => ((Below.refl _ _).alloc (Nat.le_refl _) _).alloc (by simp) _
  refine (eqInts_calls xs c d _ (HC.out.next (hb0 _ _)) (HD.out.next (hb0 _ _))).mono ?_
  rintro e w1 ⟨rfl, hb⟩
  have HB : Hid (Below w.heap.size w w1) := (hb0 _ _).trans (hb.mono (by simp; omega))
  clear hb hb0
  go_wp2_with fail
  go_ret
  exact ⟨rfl, HB.out⟩

set_option maxHeartbeats 400000 in
theorem eqCells_calls (g : List Ce) (c d : Value) (w : World) (hc : CIn w g c) (hd : CIn w g d) : Calls Try.prog 30 #[c, d] w fun e w' => e = .returned (.bool true) ∧ Below w.heap.size w w' := by
  have HC : Hid (CIn w g c) := hc
  have HD : Hid (CIn w g d) := hd
  obtain ⟨ad, cap, rfl, hl, hm, -⟩ := hc
  obtain ⟨ad', cap', rfl, hl', hm', -⟩ := hd
  unfold maxLen at hm hm'
  have t1 : ((g.length : Int) != g.length) = false := by simp
  go_enter Try.func30, Try.ntmps30
  go_wp2_with fail
  go_loopw [5] (fun i wr => ∃ k : Nat, k ≤ g.length ∧ i = .int .i64 k ∧ Below w.heap.size w wr) (fun i _ => g.length - (intOf i).toNat)
  case atStart => exact ⟨0, Nat.zero_le _, rfl, Below.refl _ _⟩
  case round =>
    obtain ⟨k, hk, rfl, hb⟩ := hrel
    by_cases hlt : k < g.length
    · obtain ⟨bl, off, r, rfl, c0, c1, c2, -, -, hk1⟩ := (HC.out.next hb).at k hlt
      obtain ⟨bl', off', r', rfl, d0, d1, d2, -, -, hk2⟩ := (HD.out.next hb).at k hlt
      have HK1 : Hid (IIn wr g[k].kids r) := hk1
      have HK2 : Hid (IIn wr g[k].kids r') := hk2
      clear hk1 hk2
      go_wp2_with fail
      go_region_with ((go_at_call 69; refine (eqCell_calls _ _ g[k].kids r r' _ ?_ ?_).mono ?_; exact HK1.out.drew; exact HK2.out.drew; rintro e w1 ⟨rfl, hb1⟩))
      all_goals
        have hb2 : Below w.heap.size w w1 := hb.drew.trans (hb1.mono hb.drew.size)
        clear hb1
        go_wp2_with fail
        go_roundw
        case rel => exact ⟨k + 1, by omega, by go_num, hb2⟩
        case measure => simp [intOf]; omega
    · have hke : k = g.length := by omega
      have HB : Hid (Below w.heap.size w wr) := hb
      clear hb
      clear hke
      go_wp2_with fail
      go_ret
      exact ⟨rfl, HB.out⟩
end Go.Proofs.Ythknbafcnobgdaa
/-
  CODE IN MEMORY: a slice of instructions (Op, N), two cells of memory each. The laws' own count, copy, comparison, marking and reading of it.
-/
namespace Go.Proofs.Ythknbafcnobgdaa
set_option linter.unusedVariables false
set_option linter.unusedSimpArgs false
open Go.RowKit

/-- a slice value that holds these instructions, its block out of S -/
def InsOn (w : World) (S : Nat → Prop) (cs : List Ins) (v : Value) : Prop :=
  ∃ ad cap, v = .slice ad cs.length cap ∧ cs.length ≤ cap ∧ cap ≤ maxLen ∧ (cs = [] ∨ ∃ bl off, ad = some ⟨bl, off, none⟩ ∧ S bl ∧ ∀ i (hi : i < cs.length),
    w.cell? ⟨bl, off + i * 2, none⟩ = some (.int .i64 cs[i].op) ∧ w.cell? ⟨bl, off + i * 2 + 1, none⟩ = some (.int .i64 cs[i].num))
theorem InsOn.mono {w w' : World} {S S' : Nat → Prop} {cs : List Ins} {v : Value} (h : InsOn w S cs v) (hS : ∀ k, S k → S' k) (hw : ∀ k, S k → w'.heap[k]? = w.heap[k]?) : InsOn w' S' cs v := by
  obtain ⟨ad, cap, e, l1, l2, h5⟩ := h
  refine ⟨ad, cap, e, l1, l2, ?_⟩
  rcases h5 with h5 | ⟨bl, off, e, s, r⟩
  · exact Or.inl h5
  · refine Or.inr ⟨bl, off, e, hS _ s, fun i hi => ?_⟩
    obtain ⟨h1, h2⟩ := r i hi
    constructor
    all_goals rw [World.cell?_of_block (w := w) (hw bl s)]; assumption
/-- code that lies in a world, wherever -/
abbrev InsIn (w : World) (cs : List Ins) (v : Value) : Prop := InsOn w (Lt w.heap.size) cs v
theorem InsOn.next {w w' : World} {cs : List Ins} {v : Value} (h : InsIn w cs v) (hb : Below w.heap.size w w') : InsIn w' cs v :=
  h.mono (fun k (hk : k < w.heap.size) => Nat.lt_of_lt_of_le hk hb.size) (fun k hk => hb.block k hk)
theorem InsOn.at {w : World} {cs : List Ins} {ad : Option Addr} {n cap : Nat} (h : InsIn w cs (.slice ad n cap)) (i : Nat) (hi : i < cs.length) :
    ∃ bl off, ad = some ⟨bl, off, none⟩ ∧ bl < w.heap.size ∧ w.cell? ⟨bl, off + i * 2, none⟩ = some (.int .i64 cs[i].op) ∧ w.cell? ⟨bl, off + i * 2 + 1, none⟩ = some (.int .i64 cs[i].num) := by
  obtain ⟨ad', cap', he, -, -, hr⟩ := h
  cases he
  rcases hr with rfl | ⟨bl, off, rfl, hb, r⟩
  · simp at hi
  exact ⟨bl, off, rfl, hb, (r i hi).1, (r i hi).2⟩

/-- code in a row of its own, from block lo on -/
def InsRow (w : World) (lo : Nat) (cs : List Ins) (v : Value) : Prop :=
  ∃ ad cap, v = .slice ad cs.length cap ∧ cs.length ≤ cap ∧ cap ≤ maxLen ∧ (cs = [] ∨ ∃ b f, ad = some ⟨b, 0, none⟩ ∧ lo ≤ b ∧ w.rowIs b 66 (cap * 2) f ∧ ∀ i (h : i < cs.length), f (i * 2) = .int .i64 cs[i].op ∧ f (i * 2 + 1) = .int .i64 cs[i].num)
theorem InsRow.on {w : World} {lo : Nat} {cs : List Ins} {v : Value} (h : InsRow w lo cs v) : InsOn w (fun k => lo ≤ k ∧ k < w.heap.size) cs v := by
  obtain ⟨ad, cap, e, l1, l2, h⟩ := h
  refine ⟨ad, cap, e, l1, l2, h.imp id ?_⟩
  rintro ⟨b, f, rfl, hg, hr, hf⟩
  refine ⟨b, 0, rfl, ⟨hg, hr.lt⟩, fun i hi => ?_⟩
  obtain ⟨f0, f1⟩ := hf i hi
  constructor
  · rw [Nat.zero_add, hr.cell (by omega), f0]
  · rw [Nat.zero_add, hr.cell (by omega), f1]
theorem InsRow.inn {w : World} {lo : Nat} {cs : List Ins} {v : Value} (h : InsRow w lo cs v) : InsIn w cs v := h.on.mono (fun k hk => hk.2) fun _ _ => rfl
theorem InsRow.keep {w w' : World} {lo lo' : Nat} {cs : List Ins} {v : Value} (h : InsRow w lo cs v) (hl : lo' ≤ lo) (hw : ∀ k, lo ≤ k → k < w.heap.size → w'.heap[k]? = w.heap[k]?) : InsRow w' lo' cs v := by
  obtain ⟨ad, cap, e, l1, l2, h⟩ := h
  refine ⟨ad, cap, e, l1, l2, h.imp id ?_⟩
  rintro ⟨b, f, rfl, hg, hr, hf⟩
  exact ⟨b, f, rfl, by omega, hr.of_block (hw b hg hr.lt), hf⟩
theorem InsRow.next {w w' : World} {lo : Nat} {cs : List Ins} {v : Value} (h : InsRow w lo cs v) (hb : Below w.heap.size w w') : InsRow w' lo cs v := h.keep (Nat.le_refl _) fun k _ hk => hb.block k hk
theorem InsRow.none (w : World) (lo : Nat) : InsRow w lo [] (.slice none 0 0) := ⟨_, _, rfl, Nat.le_refl _, by simp [maxLen], Or.inl rfl⟩
def NewIns (cs : List Ins) (w : World) (e : Ending) (w' : World) : Prop := ∃ v, e = .returned v ∧ InsRow w' w.heap.size cs v ∧ Below w.heap.size w w'

/-! ### The count -/
/-- what the law's own count of code leaves of a budget -/
def szI (cs : List Ins) (left : Int) : Int := if (cs.length : Int) ≤ left then left - cs.length else -1
theorem szI_range (cs : List Ins) (left : Int) (h : 0 ≤ left) : -1 ≤ szI cs left ∧ szI cs left ≤ left := by unfold szI; split <;> omega
set_option maxHeartbeats 400000 in
theorem szCode_calls (cs : List Ins) (c : Value) (left : Int) (w : World) (hk : InsIn w cs c) (h0 : 0 ≤ left) (h1 : left ≤ 4611686018427387904) :
    Calls Try.prog 9 #[c, .int .i64 left] w fun e w' => e = .returned (.int .i64 (szI cs left)) ∧ Below w.heap.size w w' := by
  obtain ⟨ad, cap, rfl, hl, hm, -⟩ := hk
  unfold maxLen at hm
  by_cases h : (cs.length : Int) ≤ left
  · have h' : ¬ (left - (cs.length : Int) < 0) := by omega
    have HV : Hid (szI cs left = left - cs.length) := by unfold Hid szI; rw [if_pos h]
    go_enter Try.func9, Try.ntmps9
    go_wp2_with fail
    go_ret
    exact ⟨ret_int HV.out.symm, Below.refl _ _⟩
  · have HV : Hid (szI cs left = -1) := by unfold Hid szI; rw [if_neg h]
    go_enter Try.func9, Try.ntmps9
    go_wp2_with fail
    go_ret
    exact ⟨ret_int HV.out.symm, Below.refl _ _⟩

/-! ### The comparison -/
set_option maxHeartbeats 400000 in
theorem eqCode1_calls (o n : Int) (w : World) :
    Calls Try.prog 48 #[.agg #[.int .i64 o, .int .i64 n], .agg #[.int .i64 o, .int .i64 n]] w fun e w' => e = .returned (.bool true) ∧ Below w.heap.size w w' := by
  have t1 : (o != o) = false := by simp
  have t2 : (n != n) = false := by simp
  have hb0 : ∀ o1 o2, Below w.heap.size w ((w.alloc o1).alloc o2) := fun o1 o2 => ((Below.refl _ _).alloc (Nat.le_refl _) _).alloc (by simp) _
  go_enter Try.func48, Try.ntmps48
  go_wp2_with fail
  go_ret
  exact ⟨rfl, hb0 _ _⟩
set_option maxHeartbeats 400000 in
theorem eqCode_calls (cs : List Ins) (c d : Value) (w : World) (hc : InsIn w cs c) (hd : InsIn w cs d) :
    Calls Try.prog 13 #[c, d] w fun e w' => e = .returned (.bool true) ∧ Below w.heap.size w w' := by
  have HC : Hid (InsIn w cs c) := hc
  have HD : Hid (InsIn w cs d) := hd
  obtain ⟨ad, cap, rfl, hl, hm, -⟩ := hc
  obtain ⟨ad', cap', rfl, hl', hm', -⟩ := hd
  unfold maxLen at hm hm'
  have t1 : ((cs.length : Int) != cs.length) = false := by simp
  go_enter Try.func13, Try.ntmps13
  go_wp2_with fail
  go_loopw [5] (fun i wr => ∃ k : Nat, k ≤ cs.length ∧ i = .int .i64 k ∧ Below w.heap.size w wr) (fun i _ => cs.length - (intOf i).toNat)
  case atStart => exact ⟨0, Nat.zero_le _, rfl, Below.refl _ _⟩
  case round =>
    obtain ⟨k, hk, rfl, hb⟩ := hrel
    by_cases hlt : k < cs.length
    · obtain ⟨bl, off, rfl, -, c0, c1⟩ := (HC.out.next hb).at k hlt
      obtain ⟨bl', off', rfl, -, d0, d1⟩ := (HD.out.next hb).at k hlt
      go_wp2_with fail
      go_region_with ((go_at_call 48; refine (eqCode1_calls cs[k].op cs[k].num _).mono ?_; rintro e w1 ⟨rfl, hb1⟩))
      all_goals
        have hb2 : Below w.heap.size w w1 := hb.drew.trans (hb1.mono hb.drew.size)
        clear hb1
        go_wp2_with fail
        go_roundw
        case rel => exact ⟨k + 1, by omega, by go_num, hb2⟩
        case measure => simp [intOf]; omega
    · have hke : k = cs.length := by omega
      have HB : Hid (Below w.heap.size w wr) := hb
      clear hb
      clear hke
      go_wp2_with fail
      go_ret
      exact ⟨rfl, HB.out⟩

/-! ### The copy -/
theorem infoI2 : (Try.prog.info? 66).map (fun i => (i.zero, i.size, i.bytes)) = some (some (.agg #[.int .i64 0, .int .i64 0]), 2, 16) := by kernel_rfl
theorem make_code (n : Nat) (h : n ≤ 1048576) : ∃ C : Array Value, C.size = n * 2 ∧ ∀ w : World, (Instr.makeSlice 25 (.int .i64 (n : Int)) (.int .i64 (n : Int))).run Try.prog w = .ok (.slice (some ⟨w.heap.size, 0, none⟩) n n) (w.alloc (.cells C 66)) := by
  obtain ⟨i, hi, hzz⟩ := Option.map_eq_some_iff.1 infoI2
  simp only [Prod.mk.injEq] at hzz
  obtain ⟨hz, hs, hb⟩ := hzz
  refine ⟨madeCells (Value.agg #[.int .i64 0, .int .i64 0]).cells (n * 2), size_madeCells _ _, fun w => ?_⟩
  have hr := run_make (P := Try.prog) w 25 66 i _ Try.underlying25 hi hz .i64 .i64 n n (by omega) (Int.le_refl _) (by rw [hb]; omega) (by omega)
  simp only [Int.toNat_natCast, hs] at hr
  exact hr

/-- what holds of the copy of code behind k rounds -/
def ToKRel (cs : List Ins) (w : World) (k : Nat) (wr : World) : Prop :=
  ∃ f : Nat → Value, wr.rowIs w.heap.size 66 (cs.length * 2) f ∧ (∀ j (_ : j < k) (hj : j < cs.length), f (j * 2) = .int .i64 cs[j].op ∧ f (j * 2 + 1) = .int .i64 cs[j].num) ∧ Below w.heap.size w wr
theorem toKRel_start (cs : List Ins) (w : World) (C : Array Value) (h : C.size = cs.length * 2) : ToKRel cs w 0 (w.alloc (.cells C 66)) := by
  refine ⟨fun i => C.getD i undef, ⟨C, Deep.blk_alloc_new _ _, h, fun i hi => ?_⟩, fun j hj => absurd hj (by omega), (Below.refl _ _).alloc (Nat.le_refl _) _⟩
  simp [Array.getElem?_eq_getElem (h ▸ hi : i < C.size), Array.getD, (h ▸ hi : i < C.size)]
/-- the world behind the two stores -/
def stK (w1 : World) (b k : Nat) (x y : Int) : World := (w1.setCell ⟨b, k * 2, none⟩ (.int .i64 x)).setCell ⟨b, k * 2 + 1, none⟩ (.int .i64 y)
theorem rows2_step {w1 : World} {b n : Nat} {f : Nat → Value} {T : TypeId} (hr : w1.rowIs b T n f) (k : Nat) (x y : Int) :
    ∃ f', (stK w1 b k x y).rowIs b T n f' ∧ f' (k * 2) = .int .i64 x ∧ f' (k * 2 + 1) = .int .i64 y ∧ ∀ j, j ≠ k → f' (j * 2) = f (j * 2) ∧ f' (j * 2 + 1) = f (j * 2 + 1) := by
  unfold stK
  refine ⟨_, (hr.set (k * 2) _).set (k * 2 + 1) _, by simp, by simp, fun j hj => ?_⟩
  have a0 : j * 2 ≠ k * 2 + 1 ∧ j * 2 ≠ k * 2 := by omega
  have a1 : j * 2 + 1 ≠ k * 2 + 1 ∧ j * 2 + 1 ≠ k * 2 := by omega
  constructor
  · simp only [if_neg a0.1, if_neg a0.2]
  · simp only [if_neg a1.1, if_neg a1.2]
theorem toKRel_step (cs : List Ins) (w wr w1 : World) (k : Nat) (hk : k < cs.length) (h : ToKRel cs w k wr) (hb : Below wr.heap.size wr w1) : ToKRel cs w (k + 1) (stK w1 w.heap.size k cs[k].op cs[k].num) := by
  obtain ⟨f, hr, ht, hbw⟩ := h
  have hlt := hr.lt
  obtain ⟨f', h1, h2, h3, h4⟩ := rows2_step (hr.of_block (hb.block _ hlt)) k cs[k].op cs[k].num
  refine ⟨f', h1, fun j hj hjl => ?_, ?_⟩
  · by_cases hjk : j = k
    · subst hjk; exact ⟨h2, h3⟩
    · rw [(h4 j hjk).1, (h4 j hjk).2]; exact ht j (by omega) hjl
  · unfold stK
    exact ((hbw.trans (hb.mono (Nat.le_of_lt hlt))).setCell (by simp) _).setCell (by simp) _
theorem toKRel_end (cs : List Ins) (w wr : World) (h : ToKRel cs w cs.length wr) (hl : cs.length ≤ 1048576) : NewIns cs w (.returned (.slice (some ⟨w.heap.size, 0, none⟩) cs.length cs.length)) wr := by
  obtain ⟨f, hr, ht, hbw⟩ := h
  exact ⟨_, rfl, ⟨_, _, rfl, Nat.le_refl _, by unfold maxLen; omega, Or.inr ⟨_, f, rfl, Nat.le_refl _, hr, fun i hi => ht i hi hi⟩⟩, hbw⟩

set_option maxHeartbeats 400000 in
theorem toCode1_calls (o n : Int) (w : World) :
    Calls Try.prog 46 #[.agg #[.int .i64 o, .int .i64 n]] w fun e w' => e = .returned (.agg #[.int .i64 o, .int .i64 n]) ∧ Below w.heap.size w w' := by
  go_enter Try.func46, Try.ntmps46
  go_wp2_with fail
  refine bodyPost_ret (v := .agg #[.int .i64 o, .int .i64 n]) (by simp [results, Try.results46, go_sem]) rfl ⟨rfl, ?_⟩
  repeat' (refine Below.setCell ?_ (by simp) _)
  exact (((Below.refl _ _).alloc (Nat.le_refl _) _).alloc (by simp) _).alloc (by simp; omega) _
set_option maxHeartbeats 400000 in
theorem toCode_calls (cs : List Ins) (c : Value) (w : World) (hk : InsIn w cs c) (hsz : cs.length ≤ 1048576) : Calls Try.prog 11 #[c] w (NewIns cs w) := by
  have HK : Hid (InsIn w cs c) := hk
  obtain ⟨ad, cap, rfl, -, -, -⟩ := hk
  obtain ⟨C, hC, hmk⟩ := make_code cs.length hsz
  have HC : Hid (C.size = cs.length * 2) := hC
  clear hC
  go_enter Try.func11, Try.ntmps11
  go_wp2_with fail
  go_loopw [4] (fun i wr => ∃ k : Nat, k ≤ cs.length ∧ i = .int .i64 k ∧ ToKRel cs w k wr) (fun i _ => cs.length - (intOf i).toNat)
  case atStart => exact ⟨0, Nat.zero_le _, rfl, toKRel_start cs w C HC.out⟩
  case round =>
    obtain ⟨k, hk, rfl, hto⟩ := hrel
    have HT : Hid (ToKRel cs w k wr) := hto
    obtain ⟨f, hr0, _, hb⟩ := hto
    have hlt0 := hr0.lt
    by_cases hlt : k < cs.length
    · obtain ⟨bl, off, rfl, -, c0, c1⟩ := (HK.out.next hb).at k hlt
      have HR : Hid (wr.rowIs w.heap.size 66 (cs.length * 2) f) := hr0
      clear hr0 hb
      go_wp2_with fail
      refine (toCode1_calls _ _ _).mono ?_
      rintro e w1 ⟨rfl, hb1⟩
      have hr1 : w1.rowIs w.heap.size 66 (cs.length * 2) f := HR.out.of_block (hb1.block _ hlt0)
      have HS : Hid (ToKRel cs w (k + 1) (stK w1 w.heap.size k cs[k].op cs[k].num)) := toKRel_step cs w wr w1 k hlt HT.out hb1
      have g0 := hr1.cell (i := k * 2) (by omega)
      have g1 := hr1.cell (i := k * 2 + 1) (by omega)
      have f0 := hr1.frozen (k * 2)
      have f1 := hr1.frozen (k * 2 + 1)
      clear hr1 hb1
      go_wp2_with fail
      go_roundw
      case rel => exact ⟨k + 1, by omega, by go_num, HS.out⟩
      case measure => simp [intOf]; omega
    · have hke : cs.length = k := by omega
      have HV : Hid (NewIns cs w (.returned (.slice (some ⟨w.heap.size, 0, none⟩) cs.length cs.length)) wr) := by subst hke; exact toKRel_end cs w wr HT.out hsz
      clear hke hr0 hb
      go_wp2_with fail
      go_ret
      exact HV.out
end Go.Proofs.Ythknbafcnobgdaa
/-
  WHAT THE READING OF AN ARGUMENT GIVES: an expression of the laws' own type is a tree in memory.
-/
namespace Go.Proofs.Ythknbafcnobgdaa
open Go.RowKit
set_option linter.unusedVariables false
set_option linter.unusedSimpArgs false
section
variable {H : Type} {enc : TypeId × Value → H} {w : World} {base : Nat} {spare : Nat → Bool} {held : Bool}

theorem trod_lawKids (fuel : Nat) (v : Value) (x : DataW H × List MemPlace) (h : DataW.trod enc Try.prog w base spare held fuel 29 [v] = some x) : ∃ ks, In w ks v :=
  open_kids Try.underlying29 Try.underlying31 (by kernel_rfl) (by kernel_rfl) rfl rfl rfl Try.underlying3 Try.underlying3 fuel v x h

set_option maxRecDepth 100000 in
theorem open_lawExpr {r : Reach} {b0 : Nat} {v : Value} {d : DataW H} {p : List MemPlace} (hv : Value.okWide Try.prog w r b0 31 v) (h : DataW.Trod enc Try.prog w base spare held 31 v d p) :
    ∃ (t : Tr) (c : Value), v = .agg #[.int .i64 t.op, .int .i64 t.num, c] ∧ In w t.kids c := by
  obtain ⟨x0, x1, x2, y0, y1, y2, n, rfl, -, -, g0, g1, g2⟩ := Joins.open_agg3 Try.underlying31 (by kernel_rfl) (by kernel_rfl) hv h
  obtain ⟨o, e0, _, _⟩ := DataW.trod_int Try.underlying3 g0
  obtain ⟨m, e1, _, _⟩ := DataW.trod_int Try.underlying3 g1
  obtain ⟨ks, hk⟩ := trod_lawKids n x2 y2 g2
  simp only [List.cons.injEq, and_true] at e0 e1
  exact ⟨.node o m ks, x2, by rw [e0, e1]; rfl, hk⟩
set_option maxRecDepth 100000 in
/-- .. its numbers fit Go's int -/
theorem open_lawExpr2 {r : Reach} {b0 : Nat} {v : Value} {d : DataW H} {p : List MemPlace} (hv : Value.okWide Try.prog w r b0 31 v) (h : DataW.Trod enc Try.prog w base spare held 31 v d p) :
    ∃ (t : Tr) (c : Value), v = .agg #[.int .i64 t.op, .int .i64 t.num, c] ∧ In w t.kids c ∧ I64 t.op ∧ I64 t.num := by
  obtain ⟨x0, x1, x2, y0, y1, y2, n, rfl, -, -, g0, g1, g2⟩ := Joins.open_agg3 Try.underlying31 (by kernel_rfl) (by kernel_rfl) hv h
  obtain ⟨o, e0, _, w0⟩ := DataW.trod_int Try.underlying3 g0
  obtain ⟨m, e1, _, w1⟩ := DataW.trod_int Try.underlying3 g1
  obtain ⟨ks, hk⟩ := trod_lawKids n x2 y2 g2
  simp only [List.cons.injEq, and_true] at e0 e1
  exact ⟨.node o m ks, x2, by rw [e0, e1]; rfl, hk, bounds_i64 w0, bounds_i64 w1⟩
end
end Go.Proofs.Ythknbafcnobgdaa
/-
  WHAT THE READING OF AN ARGUMENT GIVES: code of the laws' own type is a list of instructions in memory, each number in its range.
-/
namespace Go.Proofs.Ythknbafcnobgdaa
open Go.RowKit
set_option linter.unusedVariables false
set_option linter.unusedSimpArgs false
section
variable {H : Type} {enc : TypeId × Value → H} {w : World} {base : Nat} {spare : Nat → Bool} {held : Bool}

theorem trod_lawCode (fuel : Nat) (v : Value) (x : DataW H × List MemPlace) (h : DataW.trod enc Try.prog w base spare held fuel 22 [v] = some x) : ∃ cs, InsIn w cs v ∧ ∀ c ∈ cs, I64 c.op ∧ I64 c.num := by
  have hC : Try.prog.cellsOf 72 = 2 := by kernel_rfl
  have hC1 : Try.prog.cellsOf 3 = 1 := by kernel_rfl
  rcases DataW.trod_slice Try.underlying22 h with ⟨h0', _⟩ | ⟨a, len, cap, elems, rest, n, hfu, hv, _, hb, hl, hm, hlen, hel, _, _⟩
  · simp only [List.cons.injEq, and_true] at h0'
    exact ⟨[], ⟨none, 0, h0', by simp, by simp [maxLen], Or.inl rfl⟩, fun x hx => absurd hx (by simp)⟩
  · simp only [List.cons.injEq, and_true] at hv
    have key : ∀ i, i < len → ∃ d : Ins, (w.cell? (a.add (i * 2)) = some (.int .i64 d.op) ∧ w.cell? ((a.add (i * 2)).add 1) = some (.int .i64 d.num)) ∧ I64 d.op ∧ I64 d.num := by
      intro i hi
      have hh := hel i hi
      rw [hC] at hh
      obtain ⟨cs, hcs, hd⟩ := Option.bind_eq_some_iff.1 (hh.trans (List.getElem?_eq_getElem (by omega)))
      obtain ⟨_, hl2, hcell⟩ := World.cells?_some hcs
      obtain ⟨p, q, rfl⟩ : ∃ p q, cs = [p, q] := by
        match cs, hl2 with
        | [p, q], _ => exact ⟨p, q, rfl⟩
      obtain ⟨xs, m, hm1, _, _, hxl, hf⟩ := DataW.trod_struct Try.underlying72 hd
      obtain ⟨y0, y1, rfl⟩ : ∃ p q, xs = [p, q] := by
        match xs, (by simpa using hxl : xs.length = 2) with
        | [p, q], _ => exact ⟨p, q, rfl⟩
      have hp := hf 0 _ rfl
      have hq := hf 1 _ rfl
      simp [hC1] at hp hq
      obtain ⟨no, e0, _, w0⟩ := DataW.trod_int Try.underlying3 hp
      obtain ⟨nn, e1, _, w1⟩ := DataW.trod_int Try.underlying3 hq
      simp only [List.cons.injEq, and_true] at e0 e1
      have g0 := hcell 0 (by omega)
      have g1 := hcell 1 (by omega)
      subst e0 e1
      exact ⟨⟨no, nn⟩, ⟨by simpa [Addr.add] using g0, by simpa using g1⟩, bounds_i64 w0, bounds_i64 w1⟩
    subst hv
    obtain ⟨f, hfk⟩ := Deep.choose_lt key
    refine ⟨(List.range len).map f, ⟨some a, cap, by simp, by simpa using hl, hm, ?_⟩, fun x hx => ?_⟩
    rotate_left
    · obtain ⟨i, hi, rfl⟩ := List.mem_map.1 hx
      exact (hfk i (List.mem_range.1 hi)).2
    by_cases hz : len = 0
    · left; simp [hz]
    right
    obtain ⟨bl, off, spot⟩ := a
    have g0 := (hfk 0 (by omega)).1.1
    have hspot : spot = none := by simpa [Addr.add] using World.cell?_spot g0
    subst hspot
    refine ⟨bl, off, rfl, by have := cell_lt g0; simpa [Addr.add, Lt] using this, fun i hi => ?_⟩
    simp only [List.length_map, List.length_range] at hi
    obtain ⟨g0, g1⟩ := (hfk i hi).1
    rw [WideShapes.add_plain] at g0 g1
    rw [WideShapes.add_plain] at g1
    exact ⟨by simpa using g0, by simpa using g1⟩
end
end Go.Proofs.Ythknbafcnobgdaa
