/-
  TREES IN MEMORY. An expression of the program (Op, N, Kids) as a tree of numbers; what it means that a slice value of some world holds the trees of a list, its blocks out of a set S. It stays so while the blocks of S stay as they are. How such trees are had from the reading of an argument.
-/
import Derived.WalkKit
import Derived.ProofKit
import Derived.Deep.OwnRows
import Derived.Deep.Slices
import Derived.Deep.Strs
import Derived.Lib.SmallJoins
import Derived.OpenShut
import Derived.Lib.QuietBelow
import Derived.Test.YtocnkjicmchbdaaProg
import Derived.Deep.RegionHeld3
import Derived.Deep.RegionWith
import Derived.Deep.DeepMust
import Derived.Maps.Own
import Derived.Maps.OwnOps
import Derived.LaidEqlPtr
namespace Go.Proofs.Ytocnkjicmchbdaa
set_option linter.unusedVariables false
set_option linter.unusedSimpArgs false
open Go.RowKit

theorem mkHid {p : Prop} (h : p) : Hid p := h

inductive Tr where
  | node (op n : Int) (kids : List Tr)

namespace Tr
def op : Tr → Int | .node o _ _ => o
def num : Tr → Int | .node _ n _ => n
def kids : Tr → List Tr | .node _ _ k => k
@[simp] theorem op_node (o n : Int) (k : List Tr) : (Tr.node o n k).op = o := rfl
@[simp] theorem num_node (o n : Int) (k : List Tr) : (Tr.node o n k).num = n := rfl
@[simp] theorem kids_node (o n : Int) (k : List Tr) : (Tr.node o n k).kids = k := rfl
theorem eta (t : Tr) : t = .node t.op t.num t.kids := by cases t; rfl
end Tr
instance : Inhabited Tr := ⟨.node 0 0 []⟩

/-- a number that fits Go's int -/
def I64 (n : Int) : Prop := -9223372036854775808 ≤ n ∧ n ≤ 9223372036854775807

mutual
/-- the three cells (Op, N, Kids) of a tree -/
def TrOn (w : World) (S : Nat → Prop) : Tr → Value → Value → Value → Prop
  | .node op n ks, a, b, c => a = .int .i64 op ∧ b = .int .i64 n ∧ I64 op ∧ I64 n ∧
      ∃ ad cap, c = .slice ad ks.length cap ∧ ks.length ≤ cap ∧ cap ≤ maxLen ∧ (ks = [] ∨ ∃ bl off, ad = some ⟨bl, off, none⟩ ∧ S bl ∧ RowOn w S bl off ks)
/-- the trees of a list, one behind the other from a cell on -/
def RowOn (w : World) (S : Nat → Prop) (bl off : Nat) : List Tr → Prop
  | [] => True
  | t :: ts => (∃ a b c, w.cell? ⟨bl, off, none⟩ = some a ∧ w.cell? ⟨bl, off + 1, none⟩ = some b ∧ w.cell? ⟨bl, off + 2, none⟩ = some c ∧ TrOn w S t a b c) ∧ RowOn w S bl (off + 3) ts
end

/-- a slice value that holds the trees of a list -/
def KidsOn (w : World) (S : Nat → Prop) (ks : List Tr) (c : Value) : Prop :=
  ∃ ad cap, c = .slice ad ks.length cap ∧ ks.length ≤ cap ∧ cap ≤ maxLen ∧ (ks = [] ∨ ∃ bl off, ad = some ⟨bl, off, none⟩ ∧ S bl ∧ RowOn w S bl off ks)

theorem trOn_iff {w : World} {S : Nat → Prop} {t : Tr} {a b c : Value} : TrOn w S t a b c ↔ a = .int .i64 t.op ∧ b = .int .i64 t.num ∧ I64 t.op ∧ I64 t.num ∧ KidsOn w S t.kids c := by
  cases t; simp [TrOn, KidsOn]

mutual
theorem TrOn.mono {w w' : World} {S S' : Nat → Prop} (hS : ∀ k, S k → S' k) (hw : ∀ k, S k → w'.heap[k]? = w.heap[k]?) : ∀ (t : Tr) (a b c : Value), TrOn w S t a b c → TrOn w' S' t a b c
  | .node op n ks, a, b, c, h => by
    simp only [TrOn] at h ⊢
    obtain ⟨h1, h2, h3, h4, ad, cap, e, l1, l2, h5⟩ := h
    refine ⟨h1, h2, h3, h4, ad, cap, e, l1, l2, ?_⟩
    rcases h5 with h5 | ⟨bl, off, e, s, r⟩
    · exact Or.inl h5
    · exact Or.inr ⟨bl, off, e, hS _ s, RowOn.mono hS hw bl off ks s r⟩
theorem RowOn.mono {w w' : World} {S S' : Nat → Prop} (hS : ∀ k, S k → S' k) (hw : ∀ k, S k → w'.heap[k]? = w.heap[k]?) (bl off : Nat) : ∀ (ks : List Tr), S bl → RowOn w S bl off ks → RowOn w' S' bl off ks
  | [], _, _ => by simp [RowOn]
  | t :: ts, s, h => by
    simp only [RowOn] at h ⊢
    obtain ⟨⟨a, b, c, ha, hb, hc, ht⟩, hr⟩ := h
    refine ⟨⟨a, b, c, ?_, ?_, ?_, TrOn.mono hS hw t a b c ht⟩, RowOn.mono hS hw bl (off + 3) ts s hr⟩
    · rw [World.cell?_of_block (w := w) (hw bl s)]; exact ha
    · rw [World.cell?_of_block (w := w) (hw bl s)]; exact hb
    · rw [World.cell?_of_block (w := w) (hw bl s)]; exact hc
end

theorem KidsOn.mono {w w' : World} {S S' : Nat → Prop} {ks : List Tr} {c : Value} (h : KidsOn w S ks c) (hS : ∀ k, S k → S' k) (hw : ∀ k, S k → w'.heap[k]? = w.heap[k]?) : KidsOn w' S' ks c := by
  obtain ⟨ad, cap, e, l1, l2, h5⟩ := h
  refine ⟨ad, cap, e, l1, l2, ?_⟩
  rcases h5 with h5 | ⟨bl, off, e, s, r⟩
  · exact Or.inl h5
  · exact Or.inr ⟨bl, off, e, hS _ s, RowOn.mono hS hw bl off ks s r⟩

/-- element i of a row -/
theorem RowOn.at {w : World} {S : Nat → Prop} {bl : Nat} : ∀ (ks : List Tr) (off i : Nat) (hi : i < ks.length), RowOn w S bl off ks →
    ∃ a b c, w.cell? ⟨bl, off + i * 3, none⟩ = some a ∧ w.cell? ⟨bl, off + i * 3 + 1, none⟩ = some b ∧ w.cell? ⟨bl, off + i * 3 + 2, none⟩ = some c ∧ TrOn w S ks[i] a b c
  | [], _, _, hi, _ => by simp at hi
  | t :: ts, off, 0, _, h => by
    simp only [RowOn] at h
    simpa using h.1
  | t :: ts, off, i + 1, hi, h => by
    simp only [RowOn] at h
    have := RowOn.at ts (off + 3) i (by simpa using hi) h.2
    have e : off + 3 + i * 3 = off + (i + 1) * 3 := by omega
    rw [e] at this
    simpa using this

/-- a row from its elements -/
theorem RowOn.of {w : World} {S : Nat → Prop} {bl : Nat} : ∀ (ks : List Tr) (off : Nat),
    (∀ i (hi : i < ks.length), ∃ a b c, w.cell? ⟨bl, off + i * 3, none⟩ = some a ∧ w.cell? ⟨bl, off + i * 3 + 1, none⟩ = some b ∧ w.cell? ⟨bl, off + i * 3 + 2, none⟩ = some c ∧ TrOn w S ks[i] a b c) → RowOn w S bl off ks
  | [], _, _ => by simp [RowOn]
  | t :: ts, off, h => by
    simp only [RowOn]
    refine ⟨by have h0 := h 0 (by simp); simp only [Nat.zero_mul, Nat.add_zero, List.getElem_cons_zero] at h0; exact h0, RowOn.of ts (off + 3) fun i hi => ?_⟩
    have := h (i + 1) (by simpa using hi)
    have e : off + (i + 1) * 3 = off + 3 + i * 3 := by omega
    rw [e] at this
    simpa using this

/-- all blocks below a number -/
def Lt (B : Nat) : Nat → Prop := fun k => k < B

theorem KidsOn.below {w w' : World} {B B' : Nat} {ks : List Tr} {c : Value} (h : KidsOn w (Lt B) ks c) (hb : Below B w w') (hB : B ≤ B') : KidsOn w' (Lt B') ks c :=
  h.mono (fun k (hk : k < B) => (show k < B' by omega)) (fun k hk => hb.block k hk)

/-- a store into another block -/
theorem KidsOn.setCell {w : World} {S : Nat → Prop} {ks : List Tr} {c : Value} (h : KidsOn w S ks c) {a : Addr} (ha : ¬ S a.block) (u : Value) : KidsOn (w.setCell a u) S ks c :=
  h.mono (fun _ hk => hk) (fun k hk => Below.heap_setCell _ _ _ _ (fun e => ha (e ▸ hk)))
theorem TrOn.setCell {w : World} {S : Nat → Prop} {t : Tr} {x y z : Value} (h : TrOn w S t x y z) {a : Addr} (ha : ¬ S a.block) (u : Value) : TrOn (w.setCell a u) S t x y z :=
  h.mono (fun _ hk => hk) (fun k hk => Below.heap_setCell _ _ _ _ (fun e => ha (e ▸ hk)))
theorem size_setCell (w : World) (a : Addr) (u : Value) : (w.setCell a u).heap.size = w.heap.size := by simp [World.setCell]
theorem cell_lt {w : World} {a : Addr} {v : Value} (h : w.cell? a = some v) : a.block < w.heap.size := by
  unfold World.cell? at h
  cases hb : w.heap[a.block]? with
  | none => rw [hb] at h; simp at h
  | some o => exact (Array.getElem?_eq_some_iff.1 hb).1
/-- a cell of a block that was laid last -/
theorem box_cell (w : World) (C : Array Value) (t : TypeId) (i : Nat) (v : Value) (h : C[i]? = some v) : (w.alloc (.cells C t)).cell? ⟨w.heap.size, i, none⟩ = some v := by
  unfold World.cell?
  rw [Deep.blk_alloc_new]
  exact h
theorem old_cell {w : World} {a : Addr} {v : Value} (h : w.cell? a = some v) (o : Obj) : (w.alloc o).cell? a = some v := by
  have hlt := cell_lt h
  rw [World.cell?_of_block (w := w) (Deep.blk_alloc_lt w o a.block hlt)]
  exact h
theorem box_below (w : World) (o : Obj) : Below w.heap.size w (w.alloc o) := (Below.refl _ _).alloc (Nat.le_refl _) _
/-- a callee that makes memory at most, met within a region that draws its order -/
theorem quietB {P : Program} {f : FuncId} {args : Array Value} {w : World} {v : Value} (h : ∀ W, Below w.heap.size w W → Calls P f args W fun e w' => e = .returned v ∧ Below W.heap.size W w') (d : Nat) (os : Array Obj) :
    Calls P f args (Sort.grow (redrawn w d) os) fun e w'' => e = .returned v ∧ ∃ p : Regrown, w'' = Sort.grow (redrawn w p.d) p.os := Calls.regrown_of (h _ (below_regrown w d os))
theorem bcell {W w1 : World} (hb : Below W.heap.size W w1) : (∀ b o, b < W.heap.size → w1.cell? ⟨b, o, none⟩ = W.cell? ⟨b, o, none⟩) ∧ (∀ b o, b < W.heap.size → w1.frozen? ⟨b, o, none⟩ = W.frozen? ⟨b, o, none⟩) :=
  ⟨fun b o h => hb.cell (p := ⟨b, o, none⟩) h, fun b o h => hb.frozen (p := ⟨b, o, none⟩) h⟩
theorem ret_int {k : IntKind} {a b : Int} (h : a = b) : Ending.returned (.int k a) = .returned (.int k b) := by rw [h]
theorem ret_bool {a b : Bool} (h : a = b) : Ending.returned (.bool a) = .returned (.bool b) := by rw [h]

/-- trees that lie in a world, wherever -/
abbrev In (w : World) (ks : List Tr) (c : Value) : Prop := KidsOn w (Lt w.heap.size) ks c
theorem KidsOn.next {w w' : World} {ks : List Tr} {c : Value} (h : In w ks c) (hb : Below w.heap.size w w') : In w' ks c := h.below hb hb.size

theorem KidsOn.drew {w : World} {ks : List Tr} {c : Value} (h : In w ks c) : In w.drew ks c := h.next ((Below.refl _ _).drew)

/-! ### Down: from the reading of an argument -/
section
variable {H : Type} {enc : TypeId × Value → H} {P : Program} {w : World} {base : Nat} {spare : Nat → Bool} {held : Bool}

theorem list3 {α : Type} (l : List α) (h : l.length = 3) : ∃ a b c, l = [a, b, c] := by
  match l, h with
  | [a, b, c], _ => exact ⟨a, b, c, rfl⟩


/-- what the reading of a slice of expressions gives: it holds some trees -/
theorem open_kids {T E f0t f1t : TypeId} {f0 f1 f2 : Field} (hT : P.underlying T = some (.slice E)) (hE : P.underlying E = some (.struct #[f0, f1, f2])) (hC : P.cellsOf E = 3)
    (hone : Deep.oneCellFields P #[f0, f1, f2] = true) (e0 : f0.type = f0t) (e1 : f1.type = f1t) (e2 : f2.type = T) (h0 : P.underlying f0t = some (.int .i64)) (h1 : P.underlying f1t = some (.int .i64)) :
    ∀ (fuel : Nat) (v : Value) (x : DataW H × List MemPlace), DataW.trod enc P w base spare held fuel T [v] = some x → ∃ ks, KidsOn w (Lt w.heap.size) ks v := by
  intro fuel
  induction fuel using Nat.strongRecOn with
  | ind fuel ih =>
    intro v x h
    rcases DataW.trod_slice hT h with ⟨h0', _⟩ | ⟨a, len, cap, elems, rest, n, hfu, hv, _, hb, hl, hm, hlen, hel, _, _⟩
    · simp only [List.cons.injEq, and_true] at h0'
      exact ⟨[], none, 0, h0', by simp, by simp [maxLen], Or.inl rfl⟩
    · simp only [List.cons.injEq, and_true] at hv
      -- each element is a tree
      have key : ∀ i, i < len → ∃ t, ∃ p q r, w.cell? (a.add (i * 3)) = some p ∧ w.cell? ((a.add (i * 3)).add 1) = some q ∧ w.cell? ((a.add (i * 3)).add 2) = some r ∧ TrOn w (Lt w.heap.size) t p q r := by
        intro i hi
        have hh := hel i hi
        rw [hC] at hh
        obtain ⟨cs, hcs, hd⟩ := Option.bind_eq_some_iff.1 (hh.trans (List.getElem?_eq_getElem (by omega)))
        obtain ⟨_, hl3, hcell⟩ := World.cells?_some hcs
        obtain ⟨p, q, r, rfl⟩ := list3 cs hl3
        obtain ⟨xs, m, hm1, _, _, hxl, hf⟩ := DataW.trod_struct hE hd
        obtain ⟨y0, y1, y2, rfl⟩ := list3 xs (by simpa using hxl)
        have hp := hf 0 f0 rfl
        have hq := hf 1 f1 rfl
        have hr := hf 2 f2 rfl
        simp only [List.getElem?_cons_zero, List.getElem?_cons_succ] at hp hq hr
        obtain ⟨o0, k0⟩ := Deep.hone_of hone 0 f0 rfl
        obtain ⟨o1, k1⟩ := Deep.hone_of hone 1 f1 rfl
        obtain ⟨o2, k2⟩ := Deep.hone_of hone 2 f2 rfl
        have hp' : DataW.trod enc P w base spare held m f0t [p] = some y0 := by rw [← e0]; simpa [o0, k0] using hp
        have hq' : DataW.trod enc P w base spare held m f1t [q] = some y1 := by rw [← e1]; simpa [o1, k1] using hq
        have hr' : DataW.trod enc P w base spare held m T [r] = some y2 := by rw [← e2]; simpa [o2, k2] using hr
        obtain ⟨np, hnp, _, wp⟩ := DataW.trod_int h0 hp'
        obtain ⟨nq, hnq, _, wq⟩ := DataW.trod_int h1 hq'
        simp only [List.cons.injEq, and_true] at hnp hnq
        obtain ⟨ks, hks⟩ := ih m (by omega) r _ hr'
        have g0 := hcell 0 (by omega)
        have g1 := hcell 1 (by omega)
        have g2 := hcell 2 (by omega)
        refine ⟨.node np nq ks, p, q, r, ?_, by simpa using g1, by simpa using g2, trOn_iff.2 ⟨hnp, hnq, bounds_i64 wp, bounds_i64 wq, hks⟩⟩
        simpa [Addr.add] using g0
      subst hv
      have kf := Deep.choose_lt key
      obtain ⟨f, hfk⟩ := kf
      refine ⟨(List.range len).map f, some a, cap, by simp, by simpa using hl, hm, ?_⟩
      by_cases hz : len = 0
      · left; simp [hz]
      right
      obtain ⟨bl, off, spot⟩ := a
      obtain ⟨p, q, r, g0, _⟩ := hfk 0 (by omega)
      have hspot : spot = none := by simpa [Addr.add] using World.cell?_spot g0
      subst hspot
      refine ⟨bl, off, rfl, by have := cell_lt g0; simpa [Addr.add, Lt] using this, RowOn.of _ _ fun i hi => ?_⟩
      simp only [List.length_map, List.length_range] at hi
      obtain ⟨p, q, r, g0, g1, g2, g3⟩ := hfk i hi
      rw [WideShapes.add_plain] at g0 g1 g2
      rw [WideShapes.add_plain] at g1 g2
      exact ⟨p, q, r, g0, g1, g2, by simpa using g3⟩
end

end Go.Proofs.Ytocnkjicmchbdaa
/-
  PLAIN FACTS ON TREES: how many nodes a list of trees has; which trees are valid expressions. No program is named here.
-/
namespace Go.Proofs.Ytocnkjicmchbdaa
set_option linter.unusedVariables false
set_option linter.unusedSimpArgs false

mutual
/-- how many nodes stand below a tree's top -/
def szT : Tr → Nat
  | .node _ _ ks => szL ks
/-- how many nodes a list of trees has -/
def szL : List Tr → Nat
  | [] => 0
  | t :: ts => 1 + szT t + szL ts
end

theorem szT_eq (t : Tr) : szT t = szL t.kids := by cases t; simp [szT]

/-- the nodes below the tops of a list -/
def sumT (l : List Tr) : Nat := (l.map szT).sum
theorem sumT_nil : sumT [] = 0 := rfl
theorem sumT_cons (t : Tr) (l : List Tr) : sumT (t :: l) = szT t + sumT l := rfl
theorem sumT_append (a b : List Tr) : sumT (a ++ b) = sumT a + sumT b := by simp [sumT]
theorem szL_sum : ∀ (l : List Tr), szL l = l.length + sumT l
  | [] => by simp [szL, sumT]
  | t :: ts => by rw [szL, szL_sum ts, sumT_cons]; simp; omega
theorem sumT_take_succ (l : List Tr) (i : Nat) (h : i < l.length) : sumT (l.take (i + 1)) = sumT (l.take i) + szT l[i] := by
  rw [List.take_succ_eq_append_getElem h, sumT_append]; simp [sumT]
theorem sumT_take_le (l : List Tr) (i : Nat) : sumT (l.take i) ≤ sumT l := by
  conv => rhs; rw [← List.take_append_drop i l, sumT_append]
  omega
theorem szT_le_sumT (l : List Tr) (i : Nat) (h : i < l.length) : szT l[i] ≤ sumT l := by
  have := sumT_take_succ l i h
  have := sumT_take_le l (i + 1)
  omega
theorem szL_append (a b : List Tr) : szL (a ++ b) = szL a + szL b := by simp [szL_sum, sumT_append]; omega
theorem szL_take_succ (l : List Tr) (i : Nat) (h : i < l.length) : szL (l.take (i + 1)) = szL (l.take i) + 1 + szT l[i] := by
  rw [szL_sum, szL_sum, sumT_take_succ l i h, List.length_take, List.length_take]; omega
theorem szL_take_le (l : List Tr) (i : Nat) : szL (l.take i) ≤ szL l := by
  conv => rhs; rw [← List.take_append_drop i l, szL_append]
  omega
theorem szT_lt_szL (l : List Tr) (i : Nat) (h : i < l.length) : szT l[i] < szL l := by
  have := szL_take_succ l i h
  have := szL_take_le l (i + 1)
  omega
theorem szL_kids_lt (l : List Tr) (i : Nat) (h : i < l.length) : szL (l[i]).kids < szL l := by
  rw [← szT_eq]; exact szT_lt_szL l i h

/-- what the law's own count of an argument leaves of a budget -/
def szOut (ks : List Tr) (left : Int) : Int := if (szL ks : Int) ≤ left then left - szL ks else -1

/-- how many operands a kind has -/
def arity (op : Int) : Int :=
  if op = 1 ∨ op = 2 ∨ op = 3 then 0 else if op = 6 ∨ op = 7 then 1 else if op = 4 ∨ op = 5 ∨ op = 8 ∨ op = 9 then 2 else if op = 10 then 3 else -1

/-- is the number of a node right? -/
def ownB (op n vars defs : Int) : Bool :=
  if op = 1 then decide (0 ≤ n ∧ n < vars) else if op = 2 then decide (0 ≤ n ∧ n ≤ 999) else if op = 3 then decide (0 ≤ n ∧ n < defs) else decide (n = 0)

/-- well formed, down to a depth -/
def shB (vars defs : Int) : Nat → Tr → Bool
  | 0, _ => false
  | d + 1, t => decide ((t.kids.length : Int) = arity t.op) && ownB t.op t.num vars defs && t.kids.all (shB vars defs d)

/-- a valid expression -/
def validB (t : Tr) (vars defs : Int) : Bool :=
  decide (0 ≤ vars ∧ vars ≤ 4 ∧ 0 ≤ defs ∧ defs ≤ 6) && (shB vars defs 16 t && decide (1 + szT t ≤ 60))

/-- what is left of a budget of nodes -/
def nlOut (vars defs : Int) (d : Nat) (t : Tr) (nodes : Int) : Int :=
  if shB vars defs d t = true ∧ 1 + (szT t : Int) ≤ nodes then nodes - (1 + szT t) else -1

theorem all_take_succ (p : Tr → Bool) (l : List Tr) (i : Nat) (h : i < l.length) : (l.take (i + 1)).all p = ((l.take i).all p && p l[i]) := by
  rw [List.take_succ_eq_append_getElem h, List.all_append]; simp
theorem all_false_of (p : Tr → Bool) (l : List Tr) (i : Nat) (h : i < l.length) (hp : p l[i] = false) : l.all p = false := by
  rw [List.all_eq_false]; exact ⟨l[i], List.getElem_mem h, by simp [hp]⟩

theorem shB_mono {vars vars' defs defs' : Int} (hv : vars ≤ vars') (hd : defs ≤ defs') : ∀ (d : Nat) (t : Tr), shB vars defs d t = true → shB vars' defs' d t = true
  | 0, _, h => by simp [shB] at h
  | d + 1, t, h => by
    simp only [shB, Bool.and_eq_true, List.all_eq_true] at h ⊢
    obtain ⟨⟨h1, h2⟩, h3⟩ := h
    refine ⟨⟨h1, ?_⟩, fun x hx => shB_mono hv hd d x (h3 x hx)⟩
    unfold ownB at h2 ⊢
    by_cases h1 : t.op = 1
    · rw [if_pos h1] at h2 ⊢; simp at h2 ⊢; omega
    rw [if_neg h1] at h2 ⊢
    by_cases h2' : t.op = 2
    · rw [if_pos h2'] at h2 ⊢; exact h2
    rw [if_neg h2'] at h2 ⊢
    by_cases h3' : t.op = 3
    · rw [if_pos h3'] at h2 ⊢; simp at h2 ⊢; omega
    rw [if_neg h3'] at h2 ⊢; exact h2

end Go.Proofs.Ytocnkjicmchbdaa
/-
  THE LAWS' OWN COUNT OF AN ARGUMENT (szExpr, szExprS): what is left of the budget; nothing that was there is changed.
-/
namespace Go.Proofs.Ytocnkjicmchbdaa
set_option linter.unusedVariables false
set_option linter.unusedSimpArgs false
open Go.RowKit

/-- the contract of szExprS at one list -/
def SzSSaid (ks : List Tr) : Prop := ∀ (c : Value) (left : Int) (w : World), KidsOn w (Lt w.heap.size) ks c → 0 ≤ left → left ≤ 4611686018427387904 →
  Calls Try.prog 50 #[c, .int .i64 left] w fun e w' => e = .returned (.int .i64 (szOut ks left)) ∧ Below w.heap.size w w'

/-- the contract of szExpr at one tree -/
def SzSaid (ks : List Tr) : Prop := ∀ (o n : Int) (c : Value) (left : Int) (w : World), KidsOn w (Lt w.heap.size) ks c → 0 ≤ left → left ≤ 4611686018427387904 →
  Calls Try.prog 9 #[.agg #[.int .i64 o, .int .i64 n, c], .int .i64 left] w fun e w' => e = .returned (.int .i64 (szOut ks left)) ∧ Below w.heap.size w w'

theorem szOut_range (ks : List Tr) (left : Int) (h : 0 ≤ left) : -1 ≤ szOut ks left ∧ szOut ks left ≤ left := by
  unfold szOut; split <;> omega

set_option maxHeartbeats 400000 in
theorem sz_of (ks : List Tr) (h : SzSSaid ks) : SzSaid ks := by
  intro o n c left w hk h0 h1
  have HK : Hid (KidsOn w (Lt w.heap.size) ks c) := hk
  have HS : Hid (SzSSaid ks) := h
  clear h hk
  have hr := szOut_range ks left h0
  go_enter Try.func9, Try.ntmps9
  go_wp2_with fail
  refine (HS.out c left _ ?_ h0 h1).mono ?_
  · exact HK.out.next ((Below.refl _ _).alloc (Nat.le_refl _) _)
  rintro e w1 ⟨rfl, hb⟩
  have hb' : Below w.heap.size w w1 := ((Below.refl _ _).alloc (Nat.le_refl _) _).trans (hb.mono (by simp))
  clear hb
  by_cases hneg : szOut ks left < 0
  · have hv : szOut ks left = -1 := by omega
    have HV : Hid (szOut ks left = -1) := hv
    clear hv
    go_wp2
    go_ret
    exact ⟨ret_int HV.out.symm, hb'⟩
  · go_wp2
    go_ret
    exact ⟨rfl, hb'⟩

/-- the budget behind the first i elements -/
def szAt (ks : List Tr) (left : Int) (i : Nat) : Int := left - ks.length - sumT (ks.take i)

theorem szOut_kid (ks : List Tr) (left : Int) (i : Nat) (hi : i < ks.length) (h : 0 ≤ szOut (ks[i]).kids (szAt ks left i)) : szOut (ks[i]).kids (szAt ks left i) = szAt ks left (i + 1) := by
  unfold szOut at h ⊢
  split at h
  · rename_i h1
    rw [if_pos h1]
    unfold szAt
    rw [sumT_take_succ ks i hi, szT_eq]
    omega
  · omega

theorem szOut_neg (ks : List Tr) (left : Int) (i : Nat) (hi : i < ks.length) (h : szOut (ks[i]).kids (szAt ks left i) < 0) (h0 : 0 ≤ szAt ks left i) : szOut ks left = -1 := by
  unfold szOut at h
  split at h
  · omega
  · rename_i h1
    unfold szOut
    rw [if_neg]
    have := sumT_take_succ ks i hi
    have := sumT_take_le ks (i + 1)
    rw [szL_sum]
    rw [szT_eq] at *
    unfold szAt at h1
    omega

theorem szOut_end (ks : List Tr) (left : Int) (h0 : 0 ≤ szAt ks left ks.length) : szOut ks left = szAt ks left ks.length := by
  unfold szAt at h0 ⊢
  unfold szOut
  rw [List.take_length] at *
  rw [szL_sum, if_pos (by omega)]
  omega

set_option maxHeartbeats 400000 in
theorem szS_step (ks : List Tr) (ih : ∀ i (hi : i < ks.length), SzSaid (ks[i]).kids) : SzSSaid ks := by
  intro c left w hk h0 h1
  have HI : Hid (∀ i (hi : i < ks.length), SzSaid (ks[i]).kids) := ih
  have HK : Hid (In w ks c) := hk
  clear ih
  obtain ⟨ad, cap, rfl, hl, hm, hrow⟩ := hk
  unfold maxLen at hm
  by_cases hlen : left < ks.length
  · have hv : szOut ks left = -1 := by unfold szOut; rw [if_neg]; rw [szL_sum]; omega
    have HV : Hid (szOut ks left = -1) := hv
    clear hv hrow
    go_enter Try.func50, Try.ntmps50
    go_wp2_with fail
    go_ret
    exact ⟨ret_int HV.out.symm, Below.refl _ _⟩
  · have hneg : ¬ (left - ks.length < 0) := by omega
    clear hrow
    go_enter Try.func50, Try.ntmps50
    go_wp2_with fail
    go_loopw [1, 5] (fun l i wr => ∃ k : Nat, k ≤ ks.length ∧ i = .int .i64 k ∧ l = .int .i64 (szAt ks left k) ∧ 0 ≤ szAt ks left k ∧ Below w.heap.size w wr) (fun _ i _ => ks.length - (intOf i).toNat)
    case atStart => exact ⟨0, Nat.zero_le _, rfl, by simp [szAt, sumT], by simp [szAt, sumT]; omega, Below.refl _ _⟩
    case round =>
      obtain ⟨k, hk, rfl, rfl, hpos, hb⟩ := hrel
      have hle : szAt ks left k ≤ left := by unfold szAt; omega
      by_cases hlt : k < ks.length
      · have hrow' := HK.out.next hb
        obtain ⟨ad', cap', he, _, _, hr⟩ := hrow'
        cases he
        rcases hr with rfl | ⟨bl, off, rfl, _, hr⟩
        · simp at hlt
        obtain ⟨p, q, r, c0, c1, c2, ht⟩ := RowOn.at ks off k hlt hr
        obtain ⟨rfl, rfl, _, _, hkk⟩ := trOn_iff.1 ht
        have HKK : Hid (In wr ks[k].kids r) := hkk
        clear hkk ht hr
        go_wp2_with fail
        refine (HI.out k hlt _ _ r _ _ HKK.out hpos (by omega)).mono ?_
        rintro e w1 ⟨rfl, hb1⟩
        have hb2 : Below w.heap.size w w1 := hb.trans (hb1.mono hb.size)
        clear hb1
        have hrg := szOut_range ks[k].kids (szAt ks left k) hpos
        by_cases hneg1 : szOut ks[k].kids (szAt ks left k) < 0
        · have HV : Hid (szOut ks left = -1) := szOut_neg ks left k hlt hneg1 hpos
          go_wp2_with fail
          go_ret
          exact ⟨ret_int HV.out.symm, hb2⟩
        · have HV : Hid (szOut ks[k].kids (szAt ks left k) = szAt ks left (k + 1)) := szOut_kid ks left k hlt (by omega)
          have hnn : 0 ≤ szAt ks left (k + 1) := by rw [← HV.out]; omega
          go_wp2_with fail
          go_roundw
          case rel => exact ⟨k + 1, by omega, by go_num, by rw [HV.out], hnn, hb2⟩
          case measure => simp [intOf]; omega
      · have hke : ks.length = k := by omega
        have HV : Hid (szOut ks left = szAt ks left k) := by subst hke; exact szOut_end ks left hpos
        clear hke
        go_wp2_with fail
        go_ret
        exact ⟨ret_int HV.out.symm, hb⟩

/-- THE COUNT, FOR EVERY LIST OF TREES. -/
theorem szS_any : ∀ (n : Nat) (ks : List Tr), szL ks ≤ n → SzSSaid ks := by
  intro n
  induction n with
  | zero =>
    intro ks h
    exact szS_step ks fun i hi => absurd (szT_lt_szL ks i hi) (by omega)
  | succ n ih =>
    intro ks h
    exact szS_step ks fun i hi => sz_of _ (ih _ (by have := szL_kids_lt ks i hi; omega))

theorem szS_calls (ks : List Tr) : SzSSaid ks := szS_any _ ks (Nat.le_refl _)
theorem sz_calls (ks : List Tr) : SzSaid ks := sz_of ks (szS_calls ks)
end Go.Proofs.Ytocnkjicmchbdaa
/-
  THE LAWS' OWN COPY OF AN ARGUMENT (toExpr, toExprS): the same trees, in new memory; nothing that was there is changed.
-/
namespace Go.Proofs.Ytocnkjicmchbdaa
set_option linter.unusedVariables false
set_option linter.unusedSimpArgs false
open Go.RowKit

/-- blocks from lo on, below hi -/
def Btw (lo hi : Nat) : Nat → Prop := fun k => lo ≤ k ∧ k < hi
theorem KidsOn.btw_in {w : World} {lo : Nat} {ks : List Tr} {c : Value} (h : KidsOn w (Btw lo w.heap.size) ks c) : In w ks c :=
  h.mono (fun _ hk => hk.2) (fun _ _ => rfl)
theorem KidsOn.btw_next {w w' : World} {lo : Nat} {ks : List Tr} {c : Value} (h : KidsOn w (Btw lo w.heap.size) ks c) (hb : Below w.heap.size w w') : KidsOn w' (Btw lo w'.heap.size) ks c :=
  h.mono (fun _ hk => ⟨hk.1, Nat.lt_of_lt_of_le hk.2 hb.size⟩) (fun k hk => hb.block k hk.2)

/-- a call has handed back these trees in new memory -/
def NewKids (ks : List Tr) (w : World) (e : Ending) (w' : World) : Prop := ∃ v, e = .returned v ∧ KidsOn w' (Btw w.heap.size w'.heap.size) ks v ∧ Below w.heap.size w w'
/-- .. one tree -/
def NewTr (o n : Int) (ks : List Tr) (w : World) (e : Ending) (w' : World) : Prop := ∃ v, e = .returned (.agg #[.int .i64 o, .int .i64 n, v]) ∧ KidsOn w' (Btw w.heap.size w'.heap.size) ks v ∧ Below w.heap.size w w'

def ToSSaid (ks : List Tr) : Prop := ∀ (c : Value) (w : World), In w ks c → szL ks ≤ 1048576 → Calls Try.prog 54 #[c] w (NewKids ks w)
def ToSaid (ks : List Tr) : Prop := ∀ (o n : Int) (c : Value) (w : World), In w ks c → szL ks ≤ 1048576 → Calls Try.prog 12 #[.agg #[.int .i64 o, .int .i64 n, c]] w (NewTr o n ks w)

set_option maxHeartbeats 400000 in
theorem to_of (ks : List Tr) (h : ToSSaid ks) : ToSaid ks := by
  intro o n c w hk hsz
  have HK : Hid (In w ks c) := hk
  have HS : Hid (ToSSaid ks) := h
  clear h hk
  go_enter Try.func12, Try.ntmps12
  go_wp2_with fail
  refine (HS.out c _ ?_ hsz).mono ?_
  · exact HK.out.next ((((Below.refl _ _).alloc (Nat.le_refl _) _).alloc (by simp) _).alloc (by simp; omega) _)
  rintro e w1 ⟨v, rfl, hv, hb⟩
  obtain ⟨hc, hf⟩ := bcell hb
  have hz : w.heap.size + 2 < w1.heap.size := by have := hb.size; simp at this; omega
  have hlo : w.heap.size + 3 ≤ w1.heap.size := by omega
  have HV : Hid (KidsOn w1 (Btw (w.heap.size + 3) w1.heap.size) ks v) := hv.mono (fun k hk => ⟨by have := hk.1; simpa using this, hk.2⟩) (fun _ _ => rfl)
  have HB : Hid (Below w.heap.size w w1) := ((((Below.refl _ _).alloc (Nat.le_refl _) _).alloc (by simp) _).alloc (by simp; omega) _).trans (hb.mono (by simp; omega))
  obtain ⟨ad, cap, rfl, _, _, _⟩ := hv
  go_wp2_with fail
  refine bodyPost_ret (v := .agg #[.int .i64 o, .int .i64 n, .slice ad ks.length cap]) (by simp [results, Try.results12, go_sem, hc, hf, hz]) rfl ⟨_, rfl, ?_, ?_⟩
  · simp only [size_setCell]
    exact ((((HV.out.setCell (by simp [Btw] <;> omega) _).setCell (by simp [Btw] <;> omega) _).setCell (by simp [Btw] <;> omega) _).setCell (by simp [Btw] <;> omega) _).mono (fun k hk => ⟨by have := hk.1; omega, hk.2⟩) (fun _ _ => rfl)
  · exact (((HB.out.setCell (by simp; omega) _).setCell (by simp) _).setCell (by simp) _).setCell (by simp) _

theorem infoE : (Try.prog.info? 31).map (fun i => (i.zero, i.size, i.bytes)) = some (some (.agg #[.int .i64 0, .int .i64 0, .slice none 0 0]), 3, 40) := by kernel_rfl

/-- make, of so many expressions: a new row of cells -/
theorem make_exprs (n : Nat) (h : n ≤ 1048576) : ∃ C : Array Value, C.size = n * 3 ∧ ∀ w : World, (Instr.makeSlice 29 (.int .i64 (n : Int)) (.int .i64 (n : Int))).run Try.prog w = .ok (.slice (some ⟨w.heap.size, 0, none⟩) n n) (w.alloc (.cells C 31)) := by
  obtain ⟨i, hi, hzz⟩ := Option.map_eq_some_iff.1 infoE
  simp only [Prod.mk.injEq] at hzz
  obtain ⟨hz, hs, hb⟩ := hzz
  refine ⟨madeCells (Value.agg #[.int .i64 0, .int .i64 0, .slice none 0 0]).cells (n * 3), size_madeCells _ _, fun w => ?_⟩
  have hr := run_make (P := Try.prog) w 29 31 i _ Try.underlying29 hi hz .i64 .i64 n n (by omega) (Int.le_refl _) (by rw [hb]; omega) (by omega)
  simp only [Int.toNat_natCast, hs] at hr
  exact hr

/-- what holds of the copy of a list behind k rounds -/
def ToRel (ks : List Tr) (w : World) (k : Nat) (wr : World) : Prop :=
  ∃ f : Nat → Value, wr.rowIs w.heap.size 31 (ks.length * 3) f ∧ (∀ j (_ : j < k) (hj : j < ks.length), TrOn wr (Btw (w.heap.size + 1) wr.heap.size) ks[j] (f (j * 3)) (f (j * 3 + 1)) (f (j * 3 + 2))) ∧ Below w.heap.size w wr

theorem toRel_start (ks : List Tr) (w : World) (C : Array Value) (h : C.size = ks.length * 3) : ToRel ks w 0 (w.alloc (.cells C 31)) := by
  refine ⟨fun i => C.getD i undef, ⟨C, Deep.blk_alloc_new _ _, h, fun i hi => ?_⟩, fun j hj => absurd hj (by omega), (Below.refl _ _).alloc (Nat.le_refl _) _⟩
  simp [Array.getElem?_eq_getElem (h ▸ hi : i < C.size), Array.getD, (h ▸ hi : i < C.size)]

theorem toRel_step (ks : List Tr) (w wr w1 : World) (k : Nat) (hk : k < ks.length) (h : ToRel ks w k wr) (v : Value) (hb : Below wr.heap.size wr w1) (hv : KidsOn w1 (Btw wr.heap.size w1.heap.size) (ks[k]).kids v) (ho : I64 (ks[k]).op) (hn : I64 (ks[k]).num) :
    ToRel ks w (k + 1) (((w1.setCell ⟨w.heap.size, k * 3, none⟩ (.int .i64 (ks[k]).op)).setCell ⟨w.heap.size, k * 3 + 1, none⟩ (.int .i64 (ks[k]).num)).setCell ⟨w.heap.size, k * 3 + 2, none⟩ v) := by
  obtain ⟨f, hr, ht, hbw⟩ := h
  have hlt := hr.lt
  have hr1 : w1.rowIs w.heap.size 31 (ks.length * 3) f := hr.of_block (hb.block _ hlt)
  have hsz := hb.size
  have keep : ∀ (t : Tr) (a b c : Value), TrOn w1 (Btw (w.heap.size + 1) w1.heap.size) t a b c → TrOn (((w1.setCell ⟨w.heap.size, k * 3, none⟩ (.int .i64 (ks[k]).op)).setCell ⟨w.heap.size, k * 3 + 1, none⟩ (.int .i64 (ks[k]).num)).setCell ⟨w.heap.size, k * 3 + 2, none⟩ v) (Btw (w.heap.size + 1) w1.heap.size) t a b c :=
    fun t a b c g => ((g.setCell (by simp [Btw] <;> omega) _).setCell (by simp [Btw] <;> omega) _).setCell (by simp [Btw] <;> omega) _
  have hs3 : k * 3 + 2 < ks.length * 3 := by omega
  refine ⟨_, ((hr1.set (k * 3) _).set (k * 3 + 1) _).set (k * 3 + 2) _, fun j hj hjl => ?_, ?_⟩
  · simp only [size_setCell]
    by_cases hjk : j = k
    · subst hjk
      have : TrOn w1 (Btw (w.heap.size + 1) w1.heap.size) ks[j] (.int .i64 (ks[j]).op) (.int .i64 (ks[j]).num) v := trOn_iff.2 ⟨rfl, rfl, ho, hn, hv.mono (fun k hk => ⟨by have := hk.1; omega, hk.2⟩) (fun _ _ => rfl)⟩
      simpa using keep _ _ _ _ this
    · have h0 := ht j (by omega) hjl
      have h1 : TrOn w1 (Btw (w.heap.size + 1) w1.heap.size) ks[j] (f (j * 3)) (f (j * 3 + 1)) (f (j * 3 + 2)) := h0.mono (fun k hk => ⟨hk.1, by have := hk.2; omega⟩) (fun k hk => hb.block k hk.2)
      have h2 := keep _ _ _ _ h1
      have e1 : ∀ m, m < 3 → j * 3 + m ≠ k * 3 + 2 ∧ j * 3 + m ≠ k * 3 + 1 ∧ j * 3 + m ≠ k * 3 := fun m hm => by omega
      have a0 := e1 0 (by omega)
      have a1 := e1 1 (by omega)
      have a2 := e1 2 (by omega)
      simp only [Nat.add_zero] at a0
      simpa [a0, a1, a2] using h2
  · exact (((hbw.trans (hb.mono (Nat.le_of_lt hlt))).setCell (by simp) _).setCell (by simp) _).setCell (by simp) _

theorem toRel_end (ks : List Tr) (w wr : World) (h : ToRel ks w ks.length wr) (hl : ks.length ≤ 1048576) : NewKids ks w (.returned (.slice (some ⟨w.heap.size, 0, none⟩) ks.length ks.length)) wr := by
  obtain ⟨f, hr, ht, hbw⟩ := h
  have hlt := hr.lt
  refine ⟨_, rfl, ⟨_, _, rfl, Nat.le_refl _, by unfold maxLen; omega, Or.inr ⟨_, _, rfl, ⟨Nat.le_refl _, hlt⟩, RowOn.of _ _ fun i hi => ?_⟩⟩, hbw⟩
  refine ⟨f (i * 3), f (i * 3 + 1), f (i * 3 + 2), ?_, ?_, ?_, (ht i hi hi).mono (fun k hk => ⟨by have := hk.1; omega, hk.2⟩) (fun _ _ => rfl)⟩
  · simpa using hr.cell (i := i * 3) (by omega)
  · simpa [Nat.zero_add] using hr.cell (i := i * 3 + 1) (by omega)
  · simpa [Nat.zero_add] using hr.cell (i := i * 3 + 2) (by omega)

set_option maxHeartbeats 400000 in
theorem toS_step (ks : List Tr) (ih : ∀ i (hi : i < ks.length), ToSaid (ks[i]).kids) : ToSSaid ks := by
  intro c w hk hsz
  have HI : Hid (∀ i (hi : i < ks.length), ToSaid (ks[i]).kids) := ih
  have HK : Hid (In w ks c) := hk
  have HZ : Hid (szL ks ≤ 1048576) := hsz
  have hlen : ks.length ≤ 1048576 := by rw [szL_sum] at hsz; omega
  clear ih hsz
  obtain ⟨ad, cap, rfl, hl, hm, hrow⟩ := hk
  clear hrow hm hl
  obtain ⟨C, hC, hmk⟩ := make_exprs ks.length hlen
  have HC : Hid (C.size = ks.length * 3) := hC
  clear hC
  go_enter Try.func54, Try.ntmps54
  go_wp2_with fail
  go_loopw [4] (fun i wr => ∃ k : Nat, k ≤ ks.length ∧ i = .int .i64 k ∧ ToRel ks w k wr) (fun i _ => ks.length - (intOf i).toNat)
  case atStart => exact ⟨0, Nat.zero_le _, rfl, toRel_start ks w C HC.out⟩
  case round =>
    obtain ⟨k, hk, rfl, hto⟩ := hrel
    have HT : Hid (ToRel ks w k wr) := hto
    obtain ⟨f, hr0, _, hb⟩ := hto
    have hlt0 := hr0.lt
    by_cases hlt : k < ks.length
    · have hrow' := HK.out.next hb
      obtain ⟨ad', cap', he, _, _, hr⟩ := hrow'
      cases he
      rcases hr with rfl | ⟨bl, off, rfl, _, hr⟩
      · simp at hlt
      obtain ⟨p, q, r, c0, c1, c2, ht⟩ := RowOn.at ks off k hlt hr
      obtain ⟨rfl, rfl, io, iN, hkk⟩ := trOn_iff.1 ht
      have HKK : Hid (In wr ks[k].kids r) := hkk
      have hkz : szL ks[k].kids ≤ 1048576 := by have := szL_kids_lt ks k hlt; have := HZ.out; omega
      have HR : Hid (wr.rowIs w.heap.size 31 (ks.length * 3) f) := hr0
      clear hkk ht hr hr0 hb
      go_wp2_with fail
      refine (HI.out k hlt _ _ r _ HKK.out hkz).mono ?_
      rintro e w1 ⟨v, rfl, hv, hb1⟩
      have hr1 : w1.rowIs w.heap.size 31 (ks.length * 3) f := HR.out.of_block (hb1.block _ hlt0)
      have HS : Hid (ToRel ks w (k + 1) (((w1.setCell ⟨w.heap.size, k * 3, none⟩ (.int .i64 (ks[k]).op)).setCell ⟨w.heap.size, k * 3 + 1, none⟩ (.int .i64 (ks[k]).num)).setCell ⟨w.heap.size, k * 3 + 2, none⟩ v)) := toRel_step ks w wr w1 k hlt HT.out v hb1 hv io iN
      obtain ⟨ad2, cap2, rfl, _, _, _⟩ := hv
      have g0 := hr1.cell (i := k * 3) (by omega)
      have g1 := hr1.cell (i := k * 3 + 1) (by omega)
      have g2 := hr1.cell (i := k * 3 + 2) (by omega)
      have f0 := hr1.frozen (k * 3)
      have f1 := hr1.frozen (k * 3 + 1)
      have f2 := hr1.frozen (k * 3 + 2)
      clear hr1 hb1
      go_wp2_with fail
      go_roundw
      case rel => exact ⟨k + 1, by omega, by go_num, HS.out⟩
      case measure => simp [intOf]; omega
    · have hke : ks.length = k := by omega
      have HV : Hid (NewKids ks w (.returned (.slice (some ⟨w.heap.size, 0, none⟩) ks.length ks.length)) wr) := by subst hke; exact toRel_end ks w wr HT.out hlen
      clear hke hr0 hb
      go_wp2_with fail
      go_ret
      exact HV.out

/-- THE COPY, FOR EVERY LIST OF TREES. -/
theorem toS_any : ∀ (n : Nat) (ks : List Tr), szL ks ≤ n → ToSSaid ks := by
  intro n
  induction n with
  | zero =>
    intro ks h
    exact toS_step ks fun i hi => absurd (szT_lt_szL ks i hi) (by omega)
  | succ n ih =>
    intro ks h
    exact toS_step ks fun i hi => to_of _ (ih _ (by have := szL_kids_lt ks i hi; omega))

theorem toS_calls (ks : List Tr) : ToSSaid ks := toS_any _ ks (Nat.le_refl _)
theorem to_calls (ks : List Tr) : ToSaid ks := to_of ks (toS_calls ks)
end Go.Proofs.Ytocnkjicmchbdaa
/-
  THE LAWS' OWN COMPARISON (eqExpr, eqExprS): of equal trees it answers true; nothing that was there is changed.
-/
namespace Go.Proofs.Ytocnkjicmchbdaa
set_option linter.unusedVariables false
set_option linter.unusedSimpArgs false
open Go.RowKit

def EqSSaid (ks : List Tr) : Prop := ∀ (c d : Value) (w : World), In w ks c → In w ks d → Calls Try.prog 45 #[c, d] w fun e w' => e = .returned (.bool true) ∧ Below w.heap.size w w'
def EqSaid (ks : List Tr) : Prop := ∀ (o n : Int) (c d : Value) (w : World), In w ks c → In w ks d →
  Calls Try.prog 15 #[.agg #[.int .i64 o, .int .i64 n, c], .agg #[.int .i64 o, .int .i64 n, d]] w fun e w' => e = .returned (.bool true) ∧ Below w.heap.size w w'

set_option maxHeartbeats 400000 in
theorem eq_of (ks : List Tr) (h : EqSSaid ks) : EqSaid ks := by
  intro o n c d w hc hd
  have HC : Hid (In w ks c) := hc
  have HD : Hid (In w ks d) := hd
  have HS : Hid (EqSSaid ks) := h
  clear h hc hd
  have t1 : (o != o) = false := by simp
  have t2 : (n != n) = false := by simp
  go_enter Try.func15, Try.ntmps15
  go_wp2_with fail
  have hb0 : ∀ o1 o2, Below w.heap.size w ((w.alloc o1).alloc o2) := fun o1 o2 => ((Below.refl _ _).alloc (Nat.le_refl _) _).alloc (by simp) _
  refine (HS.out c d _ (HC.out.next (hb0 _ _)) (HD.out.next (hb0 _ _))).mono ?_
  rintro e w1 ⟨rfl, hb⟩
  have HB : Hid (Below w.heap.size w w1) := (hb0 _ _).trans (hb.mono (by simp; omega))
  clear hb hb0
  go_wp2_with fail
  go_ret
  exact ⟨rfl, HB.out⟩

set_option maxHeartbeats 400000 in
theorem eqS_step (ks : List Tr) (ih : ∀ i (hi : i < ks.length), EqSaid (ks[i]).kids) : EqSSaid ks := by
  intro c d w hc hd
  have HI : Hid (∀ i (hi : i < ks.length), EqSaid (ks[i]).kids) := ih
  have HC : Hid (In w ks c) := hc
  have HD : Hid (In w ks d) := hd
  clear ih
  obtain ⟨ad, cap, rfl, hl, hm, -⟩ := hc
  obtain ⟨ad', cap', rfl, hl', hm', -⟩ := hd
  unfold maxLen at hm hm'
  have t1 : ((ks.length : Int) != ks.length) = false := by simp
  go_enter Try.func45, Try.ntmps45
  go_wp2_with fail
  go_loopw [5] (fun i wr => ∃ k : Nat, k ≤ ks.length ∧ i = .int .i64 k ∧ Below w.heap.size w wr) (fun i _ => ks.length - (intOf i).toNat)
  case atStart => exact ⟨0, Nat.zero_le _, rfl, Below.refl _ _⟩
  case round =>
    obtain ⟨k, hk, rfl, hb⟩ := hrel
    by_cases hlt : k < ks.length
    · have hr1 := HC.out.next hb
      have hr2 := HD.out.next hb
      obtain ⟨_, _, he, -, -, hr1⟩ := hr1
      cases he
      obtain ⟨_, _, he, -, -, hr2⟩ := hr2
      cases he
      rcases hr1 with rfl | ⟨bl, off, rfl, -, hr1⟩
      · simp at hlt
      rcases hr2 with rfl | ⟨bl', off', rfl, -, hr2⟩
      · simp at hlt
      obtain ⟨p, q, r, c0, c1, c2, ht⟩ := RowOn.at ks off k hlt hr1
      obtain ⟨rfl, rfl, -, -, hk1⟩ := trOn_iff.1 ht
      obtain ⟨p', q', r', d0, d1, d2, ht'⟩ := RowOn.at ks off' k hlt hr2
      obtain ⟨rfl, rfl, -, -, hk2⟩ := trOn_iff.1 ht'
      have HK1 : Hid (In wr ks[k].kids r) := hk1
      have HK2 : Hid (In wr ks[k].kids r') := hk2
      clear hk1 hk2 ht ht' hr1 hr2
      go_wp2_with fail
      go_region_with ((go_at_call 15; refine (HI.out k hlt _ _ r r' _ ?_ ?_).mono ?_; exact HK1.out.drew; exact HK2.out.drew; rintro e w1 ⟨rfl, hb1⟩))
      all_goals
        have hb2 : Below w.heap.size w w1 := hb.drew.trans (hb1.mono hb.drew.size)
        clear hb1
        go_wp2_with fail
        go_roundw
        case rel => exact ⟨k + 1, by omega, by go_num, hb2⟩
        case measure => simp [intOf]; omega
    · have hke : k = ks.length := by omega
      have HB : Hid (Below w.heap.size w wr) := hb
      clear hb
      clear hke
      go_wp2_with fail
      go_ret
      exact ⟨rfl, HB.out⟩

/-- THE COMPARISON, FOR EVERY LIST OF TREES. -/
theorem eqS_any : ∀ (n : Nat) (ks : List Tr), szL ks ≤ n → EqSSaid ks := by
  intro n
  induction n with
  | zero =>
    intro ks h
    exact eqS_step ks fun i hi => absurd (szT_lt_szL ks i hi) (by omega)
  | succ n ih =>
    intro ks h
    exact eqS_step ks fun i hi => eq_of _ (ih _ (by have := szL_kids_lt ks i hi; omega))

theorem eqS_calls (ks : List Tr) : EqSSaid ks := eqS_any _ ks (Nat.le_refl _)
theorem eq_calls (ks : List Tr) : EqSaid ks := eq_of ks (eqS_calls ks)
end Go.Proofs.Ytocnkjicmchbdaa
/-
  PROGRAMS IN MEMORY: a slice of functions (Arity, Body), four cells each. The laws' own count, copy and comparison of programs.
-/
namespace Go.Proofs.Ytocnkjicmchbdaa
set_option linter.unusedVariables false
set_option linter.unusedSimpArgs false
open Go.RowKit

/-- a function: its arity and its body -/
abbrev Df := Int × Tr

/-- the four cells of a function -/
def DfOn (w : World) (S : Nat → Prop) (d : Df) (a b c e : Value) : Prop := a = .int .i64 d.1 ∧ I64 d.1 ∧ TrOn w S d.2 b c e

/-- a slice value that holds these functions -/
def DefsOn (w : World) (S : Nat → Prop) (ds : List Df) (v : Value) : Prop :=
  ∃ ad cap, v = .slice ad ds.length cap ∧ ds.length ≤ cap ∧ cap ≤ maxLen ∧ (ds = [] ∨ ∃ bl off, ad = some ⟨bl, off, none⟩ ∧ S bl ∧ ∀ i (hi : i < ds.length), ∃ a b c e,
    w.cell? ⟨bl, off + i * 4, none⟩ = some a ∧ w.cell? ⟨bl, off + i * 4 + 1, none⟩ = some b ∧ w.cell? ⟨bl, off + i * 4 + 2, none⟩ = some c ∧ w.cell? ⟨bl, off + i * 4 + 3, none⟩ = some e ∧ DfOn w S ds[i] a b c e)

theorem DefsOn.mono {w w' : World} {S S' : Nat → Prop} {ds : List Df} {v : Value} (h : DefsOn w S ds v) (hS : ∀ k, S k → S' k) (hw : ∀ k, S k → w'.heap[k]? = w.heap[k]?) : DefsOn w' S' ds v := by
  obtain ⟨ad, cap, e, l1, l2, h5⟩ := h
  refine ⟨ad, cap, e, l1, l2, ?_⟩
  rcases h5 with h5 | ⟨bl, off, e, s, r⟩
  · exact Or.inl h5
  · refine Or.inr ⟨bl, off, e, hS _ s, fun i hi => ?_⟩
    obtain ⟨a, b, c, x, h1, h2, h3, h4, g1, g2, g3⟩ := r i hi
    refine ⟨a, b, c, x, ?_, ?_, ?_, ?_, g1, g2, g3.mono hS hw⟩
    all_goals rw [World.cell?_of_block (w := w) (hw bl s)]; assumption
abbrev DIn (w : World) (ds : List Df) (v : Value) : Prop := DefsOn w (Lt w.heap.size) ds v
theorem DefsOn.next {w w' : World} {ds : List Df} {v : Value} (h : DIn w ds v) (hb : Below w.heap.size w w') : DIn w' ds v :=
  h.mono (fun k (hk : k < w.heap.size) => Nat.lt_of_lt_of_le hk hb.size) (fun k hk => hb.block k hk)
theorem DefsOn.drew {w : World} {ds : List Df} {v : Value} (h : DIn w ds v) : DIn w.drew ds v := h.next ((Below.refl _ _).drew)
theorem DefsOn.btw_in {w : World} {lo : Nat} {ds : List Df} {v : Value} (h : DefsOn w (Btw lo w.heap.size) ds v) : DIn w ds v :=
  h.mono (fun _ hk => hk.2) (fun _ _ => rfl)

/-- element i, opened -/
theorem DefsOn.at {w : World} {ds : List Df} {ad : Option Addr} {n cap : Nat} (h : DIn w ds (.slice ad n cap)) (i : Nat) (hi : i < ds.length) :
    ∃ bl off c, ad = some ⟨bl, off, none⟩ ∧ w.cell? ⟨bl, off + i * 4, none⟩ = some (.int .i64 ds[i].1) ∧ w.cell? ⟨bl, off + i * 4 + 1, none⟩ = some (.int .i64 ds[i].2.op) ∧ w.cell? ⟨bl, off + i * 4 + 2, none⟩ = some (.int .i64 ds[i].2.num) ∧ w.cell? ⟨bl, off + i * 4 + 3, none⟩ = some c ∧ I64 ds[i].1 ∧ I64 ds[i].2.op ∧ I64 ds[i].2.num ∧ In w ds[i].2.kids c := by
  obtain ⟨ad', cap', he, -, -, hr⟩ := h
  cases he
  rcases hr with rfl | ⟨bl, off, rfl, -, r⟩
  · simp at hi
  obtain ⟨a, b, c, e, h1, h2, h3, h4, rfl, g2, g3⟩ := r i hi
  obtain ⟨rfl, rfl, g5, g6, g7⟩ := trOn_iff.1 g3
  exact ⟨bl, off, e, rfl, h1, h2, h3, h4, g2, g5, g6, g7⟩

/-- the bodies -/
def bodies (ds : List Df) : List Tr := ds.map (·.2)
theorem bodies_length (ds : List Df) : (bodies ds).length = ds.length := by simp [bodies]
theorem bodies_at (ds : List Df) (i : Nat) (hi : i < ds.length) : (bodies ds)[i]'(by rw [bodies_length]; exact hi) = ds[i].2 := by simp [bodies]

/-! ### The count -/
set_option maxHeartbeats 400000 in
theorem szDef_calls (a o n : Int) (ks : List Tr) (c : Value) (left : Int) (w : World) (hk : In w ks c) (h0 : 0 ≤ left) (h1 : left ≤ 4611686018427387904) :
    Calls Try.prog 59 #[.agg #[.int .i64 a, .int .i64 o, .int .i64 n, c], .int .i64 left] w fun e w' => e = .returned (.int .i64 (szOut ks left)) ∧ Below w.heap.size w w' := by
  have HK : Hid (In w ks c) := hk
  clear hk
  have HBX : Hid (Below w.heap.size w (w.alloc (.cells #[.int .i64 a, .int .i64 o, .int .i64 n, c] 81))) := box_below _ _
  have hr := szOut_range ks left h0
  go_enter Try.func59, Try.ntmps59
  go_wp2_with fail
  refine (sz_calls ks _ _ c left _ (HK.out.next HBX.out) h0 h1).mono ?_
  rintro e w1 ⟨rfl, hb⟩
  have HB : Hid (Below w.heap.size w w1) := HBX.out.trans (hb.mono HBX.out.size)
  clear hb
  by_cases hneg : szOut ks left < 0
  · have HV : Hid (szOut ks left = -1) := by unfold Hid; omega
    go_wp2_with fail
    go_ret
    exact ⟨ret_int HV.out.symm, HB.out⟩
  · go_wp2_with fail
    go_ret
    exact ⟨rfl, HB.out⟩

set_option maxHeartbeats 400000 in
theorem szDefS_calls (ds : List Df) (c : Value) (left : Int) (w : World) (hk : DIn w ds c) (h0 : 0 ≤ left) (h1 : left ≤ 4611686018427387904) :
    Calls Try.prog 17 #[c, .int .i64 left] w fun e w' => e = .returned (.int .i64 (szOut (bodies ds) left)) ∧ Below w.heap.size w w' := by
  have HK : Hid (DIn w ds c) := hk
  obtain ⟨ad, cap, rfl, hl, hm, -⟩ := hk
  unfold maxLen at hm
  have hbl := bodies_length ds
  by_cases hlen : left < ds.length
  · have HV : Hid (szOut (bodies ds) left = -1) := by unfold Hid szOut; rw [if_neg]; rw [szL_sum]; omega
    clear hbl
    go_enter Try.func17, Try.ntmps17
    go_wp2_with fail
    go_ret
    exact ⟨ret_int HV.out.symm, Below.refl _ _⟩
  · have hneg : ¬ (left - ds.length < 0) := by omega
    have HL : Hid ((bodies ds).length = ds.length) := hbl
    clear hbl
    go_enter Try.func17, Try.ntmps17
    go_wp2_with fail
    go_loopw [1, 5] (fun l i wr => ∃ k : Nat, k ≤ ds.length ∧ i = .int .i64 k ∧ l = .int .i64 (szAt (bodies ds) left k) ∧ 0 ≤ szAt (bodies ds) left k ∧ Below w.heap.size w wr) (fun _ i _ => ds.length - (intOf i).toNat)
    case atStart => exact ⟨0, Nat.zero_le _, rfl, by simp [szAt, sumT, HL.out], by simp [szAt, sumT, HL.out]; omega, Below.refl _ _⟩
    case round =>
      obtain ⟨k, hk, rfl, rfl, hpos, hb⟩ := hrel
      have hle : szAt (bodies ds) left k ≤ left := by unfold szAt; omega
      by_cases hlt : k < ds.length
      · obtain ⟨bl, off, r, rfl, c0, c1, c2, c3, -, -, -, hkk⟩ := (HK.out.next hb).at k hlt
        have HKK : Hid (In wr ds[k].2.kids r) := hkk
        clear hkk
        have hkb : k < (bodies ds).length := by rw [HL.out]; exact hlt
        have eb : Hid ((bodies ds)[k] = ds[k].2) := bodies_at ds k hlt
        go_wp2_with fail
        refine (szDef_calls _ _ _ ds[k].2.kids r _ _ HKK.out hpos (by omega)).mono ?_
        rintro e w1 ⟨rfl, hb1⟩
        have hb2 : Below w.heap.size w w1 := hb.trans (hb1.mono hb.size)
        clear hb1
        have hrg := szOut_range ds[k].2.kids (szAt (bodies ds) left k) hpos
        by_cases hneg1 : szOut ds[k].2.kids (szAt (bodies ds) left k) < 0
        · have HV : Hid (szOut (bodies ds) left = -1) := szOut_neg (bodies ds) left k hkb (by rw [eb.out]; exact hneg1) hpos
          go_wp2_with fail
          go_ret
          exact ⟨ret_int HV.out.symm, hb2⟩
        · have HV : Hid (szOut ds[k].2.kids (szAt (bodies ds) left k) = szAt (bodies ds) left (k + 1)) := by
            have := szOut_kid (bodies ds) left k hkb (by rw [eb.out]; omega)
            rw [eb.out] at this; exact this
          have hnn : 0 ≤ szAt (bodies ds) left (k + 1) := by rw [← HV.out]; omega
          go_wp2_with fail
          go_roundw
          case rel => exact ⟨k + 1, by omega, by go_num, by rw [HV.out], hnn, hb2⟩
          case measure => simp [intOf]; omega
      · have hke : ds.length = k := by omega
        have HV : Hid (szOut (bodies ds) left = szAt (bodies ds) left k) := by subst hke; rw [← HL.out] at hpos ⊢; exact szOut_end (bodies ds) left hpos
        clear hke
        go_wp2_with fail
        go_ret
        exact ⟨ret_int HV.out.symm, hb⟩

/-! ### The copy -/
def NewDf (a o n : Int) (ks : List Tr) (w : World) (e : Ending) (w' : World) : Prop := ∃ v, e = .returned (.agg #[.int .i64 a, .int .i64 o, .int .i64 n, v]) ∧ KidsOn w' (Btw w.heap.size w'.heap.size) ks v ∧ Below w.heap.size w w'
def NewDefs (ds : List Df) (w : World) (e : Ending) (w' : World) : Prop := ∃ v, e = .returned v ∧ DefsOn w' (Btw w.heap.size w'.heap.size) ds v ∧ Below w.heap.size w w'

set_option maxHeartbeats 400000 in
theorem toDef_calls (a o n : Int) (ks : List Tr) (c : Value) (w : World) (hk : In w ks c) (hsz : szL ks ≤ 1048576) : Calls Try.prog 62 #[.agg #[.int .i64 a, .int .i64 o, .int .i64 n, c]] w (NewDf a o n ks w) := by
  have HK : Hid (In w ks c) := hk
  clear hk
  go_enter Try.func62, Try.ntmps62
  go_wp2_with fail
  refine (to_calls ks _ _ c _ ?_ hsz).mono ?_
  · exact HK.out.next ((((Below.refl _ _).alloc (Nat.le_refl _) _).alloc (by simp) _).alloc (by simp; omega) _)
  rintro e w1 ⟨v, rfl, hv, hb⟩
  obtain ⟨hc, hf⟩ := bcell hb
  have hz : w.heap.size + 2 < w1.heap.size := by have := hb.size; simp at this; omega
  have hlo : w.heap.size + 3 ≤ w1.heap.size := by omega
  have HV : Hid (KidsOn w1 (Btw (w.heap.size + 3) w1.heap.size) ks v) := hv.mono (fun k hk => ⟨by have := hk.1; simpa using this, hk.2⟩) (fun _ _ => rfl)
  have HB : Hid (Below w.heap.size w w1) := ((((Below.refl _ _).alloc (Nat.le_refl _) _).alloc (by simp) _).alloc (by simp; omega) _).trans (hb.mono (by simp; omega))
  obtain ⟨ad, cap, rfl, -, -, -⟩ := hv
  clear hb
  go_wp2_with fail
  refine bodyPost_ret (v := .agg #[.int .i64 a, .int .i64 o, .int .i64 n, .slice ad ks.length cap]) (by simp [results, Try.results62, go_sem, hc, hf, hz]) rfl ⟨_, rfl, ?_, ?_⟩
  · simp only [size_setCell]
    refine KidsOn.mono (S := Btw (w.heap.size + 3) w1.heap.size) ?_ (fun k hk => ⟨by have := hk.1; omega, hk.2⟩) (fun _ _ => rfl)
    repeat' (refine KidsOn.setCell ?_ (by simp [Btw] <;> omega) _)
    exact HV.out
  · repeat' (refine Below.setCell ?_ (by simp <;> omega) _)
    exact HB.out

theorem infoD : (Try.prog.info? 84).map (fun i => (i.zero, i.size, i.bytes)) = some (some (.agg #[.int .i64 0, .int .i64 0, .int .i64 0, .slice none 0 0]), 4, 48) := by kernel_rfl
theorem make_defs (n : Nat) (h : n ≤ 1048576) : ∃ C : Array Value, C.size = n * 4 ∧ ∀ w : World, (Instr.makeSlice 40 (.int .i64 (n : Int)) (.int .i64 (n : Int))).run Try.prog w = .ok (.slice (some ⟨w.heap.size, 0, none⟩) n n) (w.alloc (.cells C 84)) := by
  obtain ⟨i, hi, hzz⟩ := Option.map_eq_some_iff.1 infoD
  simp only [Prod.mk.injEq] at hzz
  obtain ⟨hz, hs, hb⟩ := hzz
  refine ⟨madeCells (Value.agg #[.int .i64 0, .int .i64 0, .int .i64 0, .slice none 0 0]).cells (n * 4), size_madeCells _ _, fun w => ?_⟩
  have hr := run_make (P := Try.prog) w 40 84 i _ Try.underlying40 hi hz .i64 .i64 n n (by omega) (Int.le_refl _) (by rw [hb]; omega) (by omega)
  simp only [Int.toNat_natCast, hs] at hr
  exact hr

/-- what holds of the copy of a program behind k rounds -/
def ToDRel (ds : List Df) (w : World) (k : Nat) (wr : World) : Prop :=
  ∃ f : Nat → Value, wr.rowIs w.heap.size 84 (ds.length * 4) f ∧ (∀ j (_ : j < k) (hj : j < ds.length), DfOn wr (Btw (w.heap.size + 1) wr.heap.size) ds[j] (f (j * 4)) (f (j * 4 + 1)) (f (j * 4 + 2)) (f (j * 4 + 3))) ∧ Below w.heap.size w wr

theorem toDRel_start (ds : List Df) (w : World) (C : Array Value) (h : C.size = ds.length * 4) : ToDRel ds w 0 (w.alloc (.cells C 84)) := by
  refine ⟨fun i => C.getD i undef, ⟨C, Deep.blk_alloc_new _ _, h, fun i hi => ?_⟩, fun j hj => absurd hj (by omega), (Below.refl _ _).alloc (Nat.le_refl _) _⟩
  simp [Array.getElem?_eq_getElem (h ▸ hi : i < C.size), Array.getD, (h ▸ hi : i < C.size)]

/-- the world behind the four stores -/
def stD (w1 : World) (b k : Nat) (d : Df) (v : Value) : World :=
  (((w1.setCell ⟨b, k * 4, none⟩ (.int .i64 d.1)).setCell ⟨b, k * 4 + 1, none⟩ (.int .i64 d.2.op)).setCell ⟨b, k * 4 + 2, none⟩ (.int .i64 d.2.num)).setCell ⟨b, k * 4 + 3, none⟩ v

theorem toDRel_step (ds : List Df) (w wr w1 : World) (k : Nat) (hk : k < ds.length) (h : ToDRel ds w k wr) (v : Value) (hb : Below wr.heap.size wr w1) (hv : KidsOn w1 (Btw wr.heap.size w1.heap.size) (ds[k]).2.kids v) (ha : I64 (ds[k]).1) (ho : I64 (ds[k]).2.op) (hn : I64 (ds[k]).2.num) :
    ToDRel ds w (k + 1) (stD w1 w.heap.size k ds[k] v) := by
  unfold stD
  obtain ⟨f, hr, ht, hbw⟩ := h
  have hlt := hr.lt
  have hr1 : w1.rowIs w.heap.size 84 (ds.length * 4) f := hr.of_block (hb.block _ hlt)
  have hsz := hb.size
  have keep : ∀ (t : Tr) (a b c : Value), TrOn w1 (Btw (w.heap.size + 1) w1.heap.size) t a b c → TrOn ((((w1.setCell ⟨w.heap.size, k * 4, none⟩ (.int .i64 ds[k].1)).setCell ⟨w.heap.size, k * 4 + 1, none⟩ (.int .i64 ds[k].2.op)).setCell ⟨w.heap.size, k * 4 + 2, none⟩ (.int .i64 ds[k].2.num)).setCell ⟨w.heap.size, k * 4 + 3, none⟩ v) (Btw (w.heap.size + 1) w1.heap.size) t a b c :=
    fun t a b c g => (((g.setCell (by simp [Btw] <;> omega) _).setCell (by simp [Btw] <;> omega) _).setCell (by simp [Btw] <;> omega) _).setCell (by simp [Btw] <;> omega) _
  refine ⟨_, (((hr1.set (k * 4) _).set (k * 4 + 1) _).set (k * 4 + 2) _).set (k * 4 + 3) _, fun j hj hjl => ?_, ?_⟩
  · simp only [size_setCell]
    by_cases hjk : j = k
    · subst hjk
      have : TrOn w1 (Btw (w.heap.size + 1) w1.heap.size) ds[j].2 (.int .i64 (ds[j]).2.op) (.int .i64 (ds[j]).2.num) v := trOn_iff.2 ⟨rfl, rfl, ho, hn, hv.mono (fun k hk => ⟨by have := hk.1; omega, hk.2⟩) (fun _ _ => rfl)⟩
      refine ⟨by simp, ha, ?_⟩
      simpa using keep _ _ _ _ this
    · obtain ⟨h01, h02, h03⟩ := ht j (by omega) hjl
      have h1 : TrOn w1 (Btw (w.heap.size + 1) w1.heap.size) ds[j].2 (f (j * 4 + 1)) (f (j * 4 + 2)) (f (j * 4 + 3)) := h03.mono (fun k hk => ⟨hk.1, by have := hk.2; omega⟩) (fun k hk => hb.block k hk.2)
      have h2 := keep _ _ _ _ h1
      have e1 : ∀ m, m < 4 → j * 4 + m ≠ k * 4 + 3 ∧ j * 4 + m ≠ k * 4 + 2 ∧ j * 4 + m ≠ k * 4 + 1 ∧ j * 4 + m ≠ k * 4 := fun m hm => by omega
      have a0 := e1 0 (by omega)
      have a1 := e1 1 (by omega)
      have a2 := e1 2 (by omega)
      have a3 := e1 3 (by omega)
      simp only [Nat.add_zero] at a0
      refine ⟨?_, h02, ?_⟩
      · simp only [if_neg a0.1, if_neg a0.2.1, if_neg a0.2.2.1, if_neg a0.2.2.2]; exact h01
      · simp only [if_neg a1.1, if_neg a1.2.1, if_neg a1.2.2.1, if_neg a1.2.2.2, if_neg a2.1, if_neg a2.2.1, if_neg a2.2.2.1, if_neg a2.2.2.2, if_neg a3.1, if_neg a3.2.1, if_neg a3.2.2.1, if_neg a3.2.2.2]; exact h2
  · exact ((((hbw.trans (hb.mono (Nat.le_of_lt hlt))).setCell (by simp) _).setCell (by simp) _).setCell (by simp) _).setCell (by simp) _

theorem toDRel_end (ds : List Df) (w wr : World) (h : ToDRel ds w ds.length wr) (hl : ds.length ≤ 1048576) : NewDefs ds w (.returned (.slice (some ⟨w.heap.size, 0, none⟩) ds.length ds.length)) wr := by
  obtain ⟨f, hr, ht, hbw⟩ := h
  have hlt := hr.lt
  refine ⟨_, rfl, ⟨_, _, rfl, Nat.le_refl _, by unfold maxLen; omega, Or.inr ⟨_, _, rfl, ⟨Nat.le_refl _, hlt⟩, fun i hi => ?_⟩⟩, hbw⟩
  obtain ⟨g1, g2, g3⟩ := ht i hi hi
  refine ⟨f (i * 4), f (i * 4 + 1), f (i * 4 + 2), f (i * 4 + 3), ?_, ?_, ?_, ?_, g1, g2, g3.mono (fun k hk => ⟨by have := hk.1; omega, hk.2⟩) (fun _ _ => rfl)⟩
  · simpa using hr.cell (i := i * 4) (by omega)
  · simpa [Nat.zero_add] using hr.cell (i := i * 4 + 1) (by omega)
  · simpa [Nat.zero_add] using hr.cell (i := i * 4 + 2) (by omega)
  · simpa [Nat.zero_add] using hr.cell (i := i * 4 + 3) (by omega)

theorem szL_body_le (ds : List Df) (k : Nat) (hk : k < ds.length) : szL ds[k].2.kids ≤ szL (bodies ds) := by
  have h := szL_kids_lt (bodies ds) k (by rw [bodies_length]; exact hk)
  rw [bodies_at ds k hk] at h
  omega

set_option maxHeartbeats 400000 in
theorem toDefS_calls (ds : List Df) (c : Value) (w : World) (hk : DIn w ds c) (hsz : szL (bodies ds) ≤ 1048576) : Calls Try.prog 19 #[c] w (NewDefs ds w) := by
  have HK : Hid (DIn w ds c) := hk
  have HZ : Hid (szL (bodies ds) ≤ 1048576) := hsz
  have hlen : ds.length ≤ 1048576 := by rw [szL_sum, bodies_length] at hsz; omega
  clear hsz
  obtain ⟨ad, cap, rfl, -, -, -⟩ := hk
  obtain ⟨C, hC, hmk⟩ := make_defs ds.length hlen
  have HC : Hid (C.size = ds.length * 4) := hC
  clear hC
  go_enter Try.func19, Try.ntmps19
  go_wp2_with fail
  go_loopw [4] (fun i wr => ∃ k : Nat, k ≤ ds.length ∧ i = .int .i64 k ∧ ToDRel ds w k wr) (fun i _ => ds.length - (intOf i).toNat)
  case atStart => exact ⟨0, Nat.zero_le _, rfl, toDRel_start ds w C HC.out⟩
  case round =>
    obtain ⟨k, hk, rfl, hto⟩ := hrel
    have HT : Hid (ToDRel ds w k wr) := hto
    obtain ⟨f, hr0, _, hb⟩ := hto
    have hlt0 := hr0.lt
    by_cases hlt : k < ds.length
    · obtain ⟨bl, off, r, rfl, c0, c1, c2, c3, ia, io, iN, hkk⟩ := (HK.out.next hb).at k hlt
      have HKK : Hid (In wr ds[k].2.kids r) := hkk
      have hkz : szL ds[k].2.kids ≤ 1048576 := by have := szL_body_le ds k hlt; have := HZ.out; omega
      have HR : Hid (wr.rowIs w.heap.size 84 (ds.length * 4) f) := hr0
      clear hkk hr0 hb
      go_wp2_with fail
      refine (toDef_calls _ _ _ ds[k].2.kids r _ HKK.out hkz).mono ?_
      rintro e w1 ⟨v, rfl, hv, hb1⟩
      have hr1 : w1.rowIs w.heap.size 84 (ds.length * 4) f := HR.out.of_block (hb1.block _ hlt0)
      have HS : Hid (ToDRel ds w (k + 1) (stD w1 w.heap.size k ds[k] v)) := toDRel_step ds w wr w1 k hlt HT.out v hb1 hv ia io iN
      obtain ⟨ad2, cap2, rfl, _, _, _⟩ := hv
      have g0 := hr1.cell (i := k * 4) (by omega)
      have g1 := hr1.cell (i := k * 4 + 1) (by omega)
      have g2 := hr1.cell (i := k * 4 + 2) (by omega)
      have g3 := hr1.cell (i := k * 4 + 3) (by omega)
      have f0 := hr1.frozen (k * 4)
      have f1 := hr1.frozen (k * 4 + 1)
      have f2 := hr1.frozen (k * 4 + 2)
      have f3 := hr1.frozen (k * 4 + 3)
      clear hr1 hb1
      go_wp2_with fail
      go_roundw
      case rel => exact ⟨k + 1, by omega, by go_num, HS.out⟩
      case measure => simp [intOf]; omega
    · have hke : ds.length = k := by omega
      have HV : Hid (NewDefs ds w (.returned (.slice (some ⟨w.heap.size, 0, none⟩) ds.length ds.length)) wr) := by subst hke; exact toDRel_end ds w wr HT.out hlen
      clear hke hr0 hb
      go_wp2_with fail
      go_ret
      exact HV.out

/-! ### The comparison -/
set_option maxHeartbeats 400000 in
theorem eqDef_calls (a o n : Int) (ks : List Tr) (c d : Value) (w : World) (hc : In w ks c) (hd : In w ks d) : Calls Try.prog 68 #[.agg #[.int .i64 a, .int .i64 o, .int .i64 n, c], .agg #[.int .i64 a, .int .i64 o, .int .i64 n, d]] w fun e w' => e = .returned (.bool true) ∧ Below w.heap.size w w' := by
  have HC : Hid (In w ks c) := hc
  have HD : Hid (In w ks d) := hd
  clear hc hd
  have t1 : (a != a) = false := by simp
  go_enter Try.func68, Try.ntmps68
  go_wp2_with fail
  have hb0 : ∀ o1 o2, Below w.heap.size w ((w.alloc o1).alloc o2) := fun o1 o2 => ((Below.refl _ _).alloc (Nat.le_refl _) _).alloc (by simp) _
  refine (eq_calls ks _ _ c d _ (HC.out.next (hb0 _ _)) (HD.out.next (hb0 _ _))).mono ?_
  rintro e w1 ⟨rfl, hb⟩
  have HB : Hid (Below w.heap.size w w1) := (hb0 _ _).trans (hb.mono (by simp; omega))
  clear hb hb0
  go_wp2_with fail
  go_ret
  exact ⟨rfl, HB.out⟩

set_option maxHeartbeats 400000 in
theorem eqDefS_calls (ds : List Df) (c d : Value) (w : World) (hc : DIn w ds c) (hd : DIn w ds d) : Calls Try.prog 21 #[c, d] w fun e w' => e = .returned (.bool true) ∧ Below w.heap.size w w' := by
  have HC : Hid (DIn w ds c) := hc
  have HD : Hid (DIn w ds d) := hd
  obtain ⟨ad, cap, rfl, hl, hm, -⟩ := hc
  obtain ⟨ad', cap', rfl, hl', hm', -⟩ := hd
  unfold maxLen at hm hm'
  have t1 : ((ds.length : Int) != ds.length) = false := by simp
  go_enter Try.func21, Try.ntmps21
  go_wp2_with fail
  go_loopw [5] (fun i wr => ∃ k : Nat, k ≤ ds.length ∧ i = .int .i64 k ∧ Below w.heap.size w wr) (fun i _ => ds.length - (intOf i).toNat)
  case atStart => exact ⟨0, Nat.zero_le _, rfl, Below.refl _ _⟩
  case round =>
    obtain ⟨k, hk, rfl, hb⟩ := hrel
    by_cases hlt : k < ds.length
    · obtain ⟨bl, off, r, rfl, c0, c1, c2, c3, -, -, -, hk1⟩ := (HC.out.next hb).at k hlt
      obtain ⟨bl', off', r', rfl, d0, d1, d2, d3, -, -, -, hk2⟩ := (HD.out.next hb).at k hlt
      have HK1 : Hid (In wr ds[k].2.kids r) := hk1
      have HK2 : Hid (In wr ds[k].2.kids r') := hk2
      clear hk1 hk2
      go_wp2_with fail
      go_region_with ((go_at_call 68; refine (eqDef_calls _ _ _ ds[k].2.kids r r' _ ?_ ?_).mono ?_; exact HK1.out.drew; exact HK2.out.drew; rintro e w1 ⟨rfl, hb1⟩))
      all_goals
        have hb2 : Below w.heap.size w w1 := hb.drew.trans (hb1.mono hb.drew.size)
        clear hb1
        go_wp2_with fail
        go_roundw
        case rel => exact ⟨k + 1, by omega, by go_num, hb2⟩
        case measure => simp [intOf]; omega
    · have hke : k = ds.length := by omega
      have HB : Hid (Below w.heap.size w wr) := hb
      clear hb
      clear hke
      go_wp2_with fail
      go_ret
      exact ⟨rfl, HB.out⟩
end Go.Proofs.Ytocnkjicmchbdaa
/-
  WHAT THE READING OF AN ARGUMENT GIVES: an expression of the laws' own type is a tree in memory.
-/
namespace Go.Proofs.Ytocnkjicmchbdaa
open Go.RowKit
set_option linter.unusedVariables false
set_option linter.unusedSimpArgs false
section
variable {H : Type} {enc : TypeId × Value → H} {w : World} {base : Nat} {spare : Nat → Bool} {held : Bool}

theorem trod_lawKids (fuel : Nat) (v : Value) (x : DataW H × List MemPlace) (h : DataW.trod enc Try.prog w base spare held fuel 22 [v] = some x) : ∃ ks, In w ks v :=
  open_kids Try.underlying22 Try.underlying24 (by kernel_rfl) (by kernel_rfl) rfl rfl rfl Try.underlying3 Try.underlying3 fuel v x h

set_option maxRecDepth 100000 in
theorem open_lawExpr {r : Reach} {b0 : Nat} {v : Value} {d : DataW H} {p : List MemPlace} (hv : Value.okWide Try.prog w r b0 24 v) (h : DataW.Trod enc Try.prog w base spare held 24 v d p) :
    ∃ (t : Tr) (c : Value), v = .agg #[.int .i64 t.op, .int .i64 t.num, c] ∧ In w t.kids c := by
  obtain ⟨x0, x1, x2, y0, y1, y2, n, rfl, -, -, g0, g1, g2⟩ := Joins.open_agg3 Try.underlying24 (by kernel_rfl) (by kernel_rfl) hv h
  obtain ⟨o, e0, _, _⟩ := DataW.trod_int Try.underlying3 g0
  obtain ⟨m, e1, _, _⟩ := DataW.trod_int Try.underlying3 g1
  obtain ⟨ks, hk⟩ := trod_lawKids n x2 y2 g2
  simp only [List.cons.injEq, and_true] at e0 e1
  exact ⟨.node o m ks, x2, by rw [e0, e1]; rfl, hk⟩
set_option maxRecDepth 100000 in
/-- .. its numbers fit Go's int -/
theorem open_lawExpr2 {r : Reach} {b0 : Nat} {v : Value} {d : DataW H} {p : List MemPlace} (hv : Value.okWide Try.prog w r b0 24 v) (h : DataW.Trod enc Try.prog w base spare held 24 v d p) :
    ∃ (t : Tr) (c : Value), v = .agg #[.int .i64 t.op, .int .i64 t.num, c] ∧ In w t.kids c ∧ I64 t.op ∧ I64 t.num := by
  obtain ⟨x0, x1, x2, y0, y1, y2, n, rfl, -, -, g0, g1, g2⟩ := Joins.open_agg3 Try.underlying24 (by kernel_rfl) (by kernel_rfl) hv h
  obtain ⟨o, e0, _, w0⟩ := DataW.trod_int Try.underlying3 g0
  obtain ⟨m, e1, _, w1⟩ := DataW.trod_int Try.underlying3 g1
  obtain ⟨ks, hk⟩ := trod_lawKids n x2 y2 g2
  simp only [List.cons.injEq, and_true] at e0 e1
  exact ⟨.node o m ks, x2, by rw [e0, e1]; rfl, hk, bounds_i64 w0, bounds_i64 w1⟩
end
end Go.Proofs.Ytocnkjicmchbdaa
/-
  WHAT THE READING OF AN ARGUMENT GIVES: a program of the laws' own type is a list of functions in memory.
-/
namespace Go.Proofs.Ytocnkjicmchbdaa
open Go.RowKit
set_option linter.unusedVariables false
set_option linter.unusedSimpArgs false
section
variable {H : Type} {enc : TypeId × Value → H} {w : World} {base : Nat} {spare : Nat → Bool} {held : Bool}

theorem list4 {α : Type} (l : List α) (h : l.length = 4) : ∃ a b c d, l = [a, b, c, d] := by
  match l, h with
  | [a, b, c, d], _ => exact ⟨a, b, c, d, rfl⟩
theorem list2 {α : Type} (l : List α) (h : l.length = 2) : ∃ a b, l = [a, b] := by
  match l, h with
  | [a, b], _ => exact ⟨a, b, rfl⟩

/-- an expression of the laws' own type, of its three cells -/
theorem trod_lawExpr (fuel : Nat) (p q r : Value) (x : DataW H × List MemPlace) (h : DataW.trod enc Try.prog w base spare held fuel 24 [p, q, r] = some x) : ∃ t : Tr, TrOn w (Lt w.heap.size) t p q r := by
  obtain ⟨xs, m, -, -, -, hxl, hf⟩ := DataW.trod_struct Try.underlying24 h
  obtain ⟨y0, y1, y2, rfl⟩ := list3 xs (by simpa using hxl)
  have hp := hf 0 _ rfl
  have hq := hf 1 _ rfl
  have hr := hf 2 _ rfl
  have c1 : Try.prog.cellsOf 3 = 1 := by kernel_rfl
  have c2 : Try.prog.cellsOf 22 = 1 := by kernel_rfl
  simp [c1, c2] at hp hq hr
  obtain ⟨o, e0, _, w0⟩ := DataW.trod_int Try.underlying3 hp
  obtain ⟨n, e1, _, w1⟩ := DataW.trod_int Try.underlying3 hq
  obtain ⟨ks, hk⟩ := trod_lawKids m r y2 hr
  simp only [List.cons.injEq, and_true] at e0 e1
  exact ⟨.node o n ks, trOn_iff.2 ⟨e0, e1, bounds_i64 w0, bounds_i64 w1, hk⟩⟩

theorem trod_lawDefs (fuel : Nat) (v : Value) (x : DataW H × List MemPlace) (h : DataW.trod enc Try.prog w base spare held fuel 37 [v] = some x) : ∃ ds, DIn w ds v := by
  have hC : Try.prog.cellsOf 81 = 4 := by kernel_rfl
  have hC3 : Try.prog.cellsOf 24 = 3 := by kernel_rfl
  have hC1 : Try.prog.cellsOf 3 = 1 := by kernel_rfl
  rcases DataW.trod_slice Try.underlying37 h with ⟨h0', _⟩ | ⟨a, len, cap, elems, rest, n, hfu, hv, _, hb, hl, hm, hlen, hel, _, _⟩
  · simp only [List.cons.injEq, and_true] at h0'
    exact ⟨[], none, 0, h0', by simp, by simp [maxLen], Or.inl rfl⟩
  · simp only [List.cons.injEq, and_true] at hv
    have key : ∀ i, i < len → ∃ d : Df, ∃ p q r s, w.cell? (a.add (i * 4)) = some p ∧ w.cell? ((a.add (i * 4)).add 1) = some q ∧ w.cell? ((a.add (i * 4)).add 2) = some r ∧ w.cell? ((a.add (i * 4)).add 3) = some s ∧ DfOn w (Lt w.heap.size) d p q r s := by
      intro i hi
      have hh := hel i hi
      rw [hC] at hh
      obtain ⟨cs, hcs, hd⟩ := Option.bind_eq_some_iff.1 (hh.trans (List.getElem?_eq_getElem (by omega)))
      obtain ⟨_, hl4, hcell⟩ := World.cells?_some hcs
      obtain ⟨p, q, r, s, rfl⟩ := list4 cs hl4
      obtain ⟨xs, m, hm1, _, _, hxl, hf⟩ := DataW.trod_struct Try.underlying81 hd
      obtain ⟨y0, y1, rfl⟩ := list2 xs (by simpa using hxl)
      have hp := hf 0 _ rfl
      have hq := hf 1 _ rfl
      simp [hC1, hC3] at hp hq
      obtain ⟨na, e0, _, w0⟩ := DataW.trod_int Try.underlying3 hp
      simp only [List.cons.injEq, and_true] at e0
      obtain ⟨t, ht⟩ := trod_lawExpr m q r s y1 hq
      have g0 := hcell 0 (by omega)
      have g1 := hcell 1 (by omega)
      have g2 := hcell 2 (by omega)
      have g3 := hcell 3 (by omega)
      exact ⟨(na, t), p, q, r, s, by simpa [Addr.add] using g0, by simpa using g1, by simpa using g2, by simpa using g3, e0, bounds_i64 w0, ht⟩
    subst hv
    obtain ⟨f, hfk⟩ := Deep.choose_lt key
    refine ⟨(List.range len).map f, some a, cap, by simp, by simpa using hl, hm, ?_⟩
    by_cases hz : len = 0
    · left; simp [hz]
    right
    obtain ⟨bl, off, spot⟩ := a
    obtain ⟨p, q, r, s, g0, _⟩ := hfk 0 (by omega)
    have hspot : spot = none := by simpa [Addr.add] using World.cell?_spot g0
    subst hspot
    refine ⟨bl, off, rfl, by have := cell_lt g0; simpa [Addr.add, Lt] using this, fun i hi => ?_⟩
    simp only [List.length_map, List.length_range] at hi
    obtain ⟨p, q, r, s, g0, g1, g2, g3, g4⟩ := hfk i hi
    rw [WideShapes.add_plain] at g0 g1 g2 g3
    rw [WideShapes.add_plain] at g1 g2 g3
    exact ⟨p, q, r, s, g0, g1, g2, g3, by simpa using g4⟩
end
end Go.Proofs.Ytocnkjicmchbdaa
/-
  MAPS KEYED BY ADDRESSES (pointers, or structs of them): what a look-up finds and what a store leaves, the map seen as a function from keys to values.
-/
namespace Go.Proofs.Ytocnkjicmchbdaa
set_option linter.unusedVariables false
set_option linter.unusedSimpArgs false
open Go.RowKit Go.MapKept

section
variable {κ : Type} [DecidableEq κ]

/-- where a key stands in a list, and its value -/
def pfind (c : κ) : List (κ × Value) → Nat → Option (Nat × Value)
  | [], _ => none
  | x :: xs, i => if c = x.1 then some (i, x.2) else pfind c xs (i + 1)

theorem pfind_some {c : κ} : ∀ {L : List (κ × Value)} {i j : Nat} {v : Value}, pfind c L i = some (j, v) → ∃ n, j = i + n ∧ L[n]? = some (c, v)
  | [], i, j, v, h => by simp [pfind] at h
  | x :: xs, i, j, v, h => by
    unfold pfind at h
    split at h
    · rename_i hc
      simp only [Option.some.injEq, Prod.mk.injEq] at h
      exact ⟨0, by omega, by rw [← h.2, hc]; simp⟩
    · obtain ⟨n, hn, hg⟩ := pfind_some h
      exact ⟨n + 1, by omega, by simpa using hg⟩

theorem pfind_push_same {c : κ} {v : Value} : ∀ {L : List (κ × Value)} {i : Nat}, pfind c L i = none → pfind c (L ++ [(c, v)]) i = some (i + L.length, v)
  | [], i, _ => by simp [pfind]
  | x :: xs, i, h => by
    unfold pfind at h
    split at h
    · simp at h
    · rename_i hc
      rw [List.cons_append, pfind, if_neg hc, pfind_push_same h]
      simp; omega

theorem pfind_push_other {c d : κ} {v : Value} (hd : d ≠ c) : ∀ {L : List (κ × Value)} {i : Nat}, pfind d (L ++ [(c, v)]) i = pfind d L i
  | [], i => by simp [pfind, hd]
  | x :: xs, i => by rw [List.cons_append, pfind, pfind, pfind_push_other hd]

theorem pfind_set_same {c : κ} {u v : Value} : ∀ {L : List (κ × Value)} {i n : Nat}, pfind c L i = some (i + n, u) → pfind c (L.set n (c, v)) i = some (i + n, v)
  | [], i, n, h => by simp [pfind] at h
  | x :: xs, i, n, h => by
    unfold pfind at h
    split at h
    · rename_i hc
      simp only [Option.some.injEq, Prod.mk.injEq] at h
      have : n = 0 := by omega
      subst this
      simp [pfind]
    · rename_i hc
      obtain ⟨m, hm, _⟩ := pfind_some h
      have : n = m + 1 := by omega
      subst this
      rw [List.set_cons_succ, pfind, if_neg hc]
      have e : i + (m + 1) = i + 1 + m := by omega
      rw [e] at h ⊢
      exact pfind_set_same h

theorem pfind_set_other {c d : κ} {u v : Value} (hd : d ≠ c) : ∀ {L : List (κ × Value)} {i n : Nat}, L[n]? = some (c, u) → pfind d (L.set n (c, v)) i = pfind d L i
  | [], i, n, h => by simp at h
  | x :: xs, i, 0, h => by
    simp only [List.getElem?_cons_zero, Option.some.injEq] at h
    subst h
    simp [pfind, hd]
  | x :: xs, i, n + 1, h => by
    rw [List.set_cons_succ, pfind, pfind, pfind_set_other hd (by simpa using h)]

/-- what is asked of the keys of a type: how they lie in values, and when they are compared -/
structure PKey (P : Program) (kt : TypeId) (emb : κ → Value) (ok : World → κ → Prop) : Prop where
  check : ∀ (w : World) (e : Bool) (x : κ), (Instr.checkKey e 10000 kt (emb x)).run P w = .ok () w
  under : ∃ d, P.underlying kt = some d ∧ ∀ x y, Instr.sameNow d (emb x) (emb y) = none
  eq : ∀ (w : World) (x y : κ), ok w x → ok w y → (Op.equal kt (emb x) (emb y)).run P w = .ok (decide (x = y)) w
  stays : ∀ x, Instr.sameBits 10000 (emb x) (emb x) = true

/-- block b is a map, its keys of K, seen as the function M -/
def PMap (emb : κ → Value) (w : World) (b : Nat) (K : κ → Prop) (M : κ → Option Value) : Prop :=
  ∃ es clock L, w.heap[b]? = some (.map es clock) ∧ es.toList.map (fun e => (e.key, e.val)) = L.map (fun x : κ × Value => (emb x.1, x.2)) ∧ (∀ x ∈ L, K x.1) ∧ ∀ c, M c = (pfind c L 0).map (·.2)

/-- a function changed at one place -/
def pput (M : κ → Option Value) (a : κ) (v : Value) : κ → Option Value := fun c => if c = a then some v else M c
@[simp] theorem pput_same (M : κ → Option Value) (a : κ) (v : Value) : pput M a v a = some v := by simp [pput]
theorem pput_other (M : κ → Option Value) {a c : κ} (v : Value) (h : c ≠ a) : pput M a v c = M c := by simp [pput, h]

variable {P : Program} {kt et mt : TypeId} {emb : κ → Value} {ok : World → κ → Prop} {w : World} {b : Nat} {K : κ → Prop} {M : κ → Option Value}

theorem PMap.made (w : World) (K : κ → Prop) : PMap emb (w.alloc (.map #[] 0)) w.heap.size K (fun _ => none) :=
  ⟨#[], 0, [], (heap_alloc w _).1, rfl, by simp, fun c => rfl⟩
theorem PMap.keep {w' : World} (h : PMap emb w b K M) (hb : w'.heap[b]? = w.heap[b]?) : PMap emb w' b K M := by
  obtain ⟨es, clock, L, h1, h2⟩ := h
  exact ⟨es, clock, L, hb.trans h1, h2⟩
theorem PMap.lt (h : PMap emb w b K M) : b < w.heap.size := by
  obtain ⟨es, clock, L, h1, h2⟩ := h
  exact (Array.getElem?_eq_some_iff.1 h1).1
theorem PMap.keys {K' : κ → Prop} (h : PMap emb w b K M) (hK : ∀ x, K x → K' x) : PMap emb w b K' M := by
  obtain ⟨es, clock, L, h1, h2, h3, h4⟩ := h
  exact ⟨es, clock, L, h1, h2, fun x hx => hK _ (h3 x hx), h4⟩
theorem PMap.key_of (h : PMap emb w b K M) {c : κ} {v : Value} (hc : M c = some v) : K c := by
  obtain ⟨es, clock, L, h1, h2, h3, h4⟩ := h
  rw [h4] at hc
  cases hf : pfind c L 0 with
  | none => rw [hf] at hc; simp at hc
  | some z =>
    obtain ⟨n, _, hg⟩ := pfind_some (j := z.1) (v := z.2) hf
    exact h3 _ (List.mem_of_getElem? hg)

theorem run_findAsking (Q : PKey P kt emb ok) (a : κ) (ha : ok w a) : ∀ (l : List MapEntry) (L : List (κ × Value)) (i : Nat), l.map (fun e => (e.key, e.val)) = L.map (fun x : κ × Value => (emb x.1, x.2)) → (∀ x ∈ L, ok w x.1) →
    (Instr.findAsking kt (emb a) l i).run P w = .ok (pfind a L i) w
  | [], L, i, h, _ => by
    cases L with
    | nil => simp [Instr.findAsking, pfind]
    | cons x xs => simp at h
  | e :: es, L, i, h, hL => by
    cases L with
    | nil => simp at h
    | cons x xs =>
      simp only [List.map_cons, List.cons.injEq, Prod.mk.injEq] at h
      obtain ⟨⟨h1, h2⟩, h3⟩ := h
      have ih := run_findAsking Q a ha es xs (i + 1) h3 (fun y hy => hL y (by simp [hy]))
      have he := Q.eq w a x.1 ha (hL x (by simp))
      rw [← h1] at he
      unfold Instr.findAsking pfind
      simp only [Sem.run_bind, he, Result.andThen]
      by_cases hc : a = x.1
      · simp [hc, h2]
      · simp [hc, ih]

theorem run_findKey_p (Q : PKey P kt emb ok) (a : κ) (ha : ok w a) (l : List MapEntry) (L : List (κ × Value)) (h : l.map (fun e => (e.key, e.val)) = L.map (fun x : κ × Value => (emb x.1, x.2))) (hL : ∀ x ∈ L, ok w x.1) :
    (Instr.findKey kt (emb a) l).run P w = .ok (pfind a L 0) w := by
  obtain ⟨d, hd, hn⟩ := Q.under
  have hf := run_findAsking Q a ha l L 0 h hL
  cases l with
  | nil =>
    cases L with
    | nil => simp [Instr.findKey, run_underlying hd, Result.andThen, Instr.findNow, pfind]
    | cons x xs => simp at h
  | cons e es =>
    cases L with
    | nil => simp at h
    | cons x xs =>
      have h1 : e.key = emb x.1 := by simp only [List.map_cons, List.cons.injEq, Prod.mk.injEq] at h; exact h.1.1
      have hnow : Instr.findNow d (emb a) (e :: es) 0 = none := by simp [Instr.findNow, h1, hn]
      simp [Instr.findKey, run_underlying hd, Result.andThen, hnow, hf]

/-- 'm[k]' -/
theorem PMap.look (h : PMap emb w b K M) (Q : PKey P kt emb ok) (hm : P.underlying mt = some (.map kt et)) (hK : ∀ x, K x → ok w x) {z : Value} (hz : (zeroValue et).run P w = .ok z w) (a : κ) (ha : ok w a) :
    (Instr.lookup mt (.map (some b)) (emb a) false).run P w = .ok ((M a).getD z) w ∧
    (Instr.lookup mt (.map (some b)) (emb a) true).run P w = .ok (.tuple #[(M a).getD z, .bool (M a).isSome]) w := by
  obtain ⟨es, clock, L, h1, h2, h3, h4⟩ := h
  have hf := run_findKey_p Q a ha es.toList L h2 (fun x hx => hK _ (h3 x hx))
  rw [h4 a]
  cases hp : pfind a L 0 with
  | none =>
    rw [hp] at hf
    constructor <;> simp [Instr.lookup, run_underlying hm, MapKept.run_getObj_map h1, Q.check, hf, hz, Result.andThen]
  | some y =>
    obtain ⟨n, v⟩ := y
    rw [hp] at hf
    constructor <;> simp [Instr.lookup, run_underlying hm, MapKept.run_getObj_map h1, Q.check, hf, Result.andThen]

/-- 'm[k] = v' -/
theorem PMap.store (h : PMap emb w b K M) (Q : PKey P kt emb ok) (hm : P.underlying mt = some (.map kt et)) (hK : ∀ x, K x → ok w x) (a : κ) (ha : ok w a) (hKa : K a) (v : Value) :
    ∃ o, (Instr.mapUpdate mt (.map (some b)) (emb a) v).run P w = .ok () { w with heap := w.heap.setIfInBounds b o } ∧ PMap emb { w with heap := w.heap.setIfInBounds b o } b K (pput M a v) := by
  obtain ⟨es, clock, L, h1, h2, h3, h4⟩ := h
  have hf := run_findKey_p Q a ha es.toList L h2 (fun x hx => hK _ (h3 x hx))
  cases hp : pfind a L 0 with
  | none =>
    rw [hp] at hf
    refine ⟨_, by simp [Instr.mapUpdate, run_underlying hm, MapKept.run_getObj_map h1, Q.check, hf, MapKept.run_setObj_map _ h1, Result.andThen]; rfl, _, _, L ++ [(a, v)], (heap_set h1).1, by simp [h2], ?_, ?_⟩
    · intro x hx
      simp only [List.mem_append, List.mem_singleton] at hx
      rcases hx with hx | rfl
      · exact h3 x hx
      · exact hKa
    · intro c
      by_cases hc : c = a
      · subst hc; simp [pfind_push_same hp]
      · rw [pput_other M v hc, pfind_push_other hc, h4]
  | some y =>
    obtain ⟨n, u⟩ := y
    rw [hp] at hf
    obtain ⟨m, hm', hg⟩ := pfind_some hp
    have hnm : n = m := by omega
    subst hnm
    have hlen : es.toList.length = L.length := by have := congrArg List.length h2; simpa using this
    have hlt : n < L.length := (List.getElem?_eq_some_iff.1 hg).1
    have hj : ∃ e, es[n]? = some e ∧ e.key = emb a ∧ e.val = u := by
      have : (es.toList.map (fun e => (e.key, e.val)))[n]? = (L.map (fun x : κ × Value => (emb x.1, x.2)))[n]? := by rw [h2]
      rw [List.getElem?_map, List.getElem?_map, hg] at this
      cases he : es[n]? with
      | none => rw [Array.getElem?_toList, he] at this; simp at this
      | some e =>
        rw [Array.getElem?_toList, he] at this
        simp only [Option.map_some, Option.some.injEq, Prod.mk.injEq] at this
        exact ⟨e, rfl, this.1, this.2⟩
    obtain ⟨e, he, hek, hev⟩ := hj
    have hks : (Instr.keyThatStays (emb a) (emb a)).run P w = .ok (emb a) w := by simp [Instr.keyThatStays, Q.stays]
    refine ⟨_, by simp [Instr.mapUpdate, run_underlying hm, MapKept.run_getObj_map h1, Q.check, hf, he, hek, hks, MapKept.run_setObj_map _ h1, Result.andThen]; rfl, _, _, L.set n (a, v), (heap_set h1).1, ?_, ?_, ?_⟩
    · apply List.ext_getElem?
      intro j
      have hj : (es.toList.map (fun e => (e.key, e.val)))[j]? = (L.map (fun x : κ × Value => (emb x.1, x.2)))[j]? := by rw [h2]
      simp only [List.getElem?_map, Array.getElem?_toList] at hj
      simp only [List.getElem?_map, Array.getElem?_toList, Array.getElem?_modify, List.getElem?_set]
      by_cases hij : n = j
      · subst hij
        simp [he, hlt]
      · simp [hij, hj]
    · intro x hx
      rcases List.mem_or_eq_of_mem_set hx with hx | rfl
      · exact h3 x hx
      · exact hKa
    · intro c
      by_cases hc : c = a
      · subst hc
        rw [pput_same, pfind_set_same (by simpa using hp)]
        rfl
      · rw [pput_other M v hc, pfind_set_other hc hg, h4]
end

/-! ### Keys that are pointers -/
/-- an address into cells that are not frozen -/
def PlainAt (w : World) (a : Addr) : Prop := ∃ C T, w.heap[a.block]? = some (.cells C T (0, 0))
/-- pointers as keys -/
def embP (a : Addr) : Value := .pointer (some a)

theorem eq_ptr {P : Program} {kt te : TypeId} {j : TypeInfo} (hp : P.underlying kt = some (.pointer te)) (hte : P.info? te = some j) (hsz : j.size ≠ 0) (w : World) (x y : Addr) (hx : PlainAt w x) (hy : PlainAt w y) (d : Nat) :
    (Op.equalIn (d + 1) kt (.pointer (some x)) (.pointer (some y))).run P w = .ok (decide (x = y)) w := by
  obtain ⟨C, T, hx⟩ := hx
  obtain ⟨D, U, hy⟩ := hy
  by_cases h : x = y
  · subst h
    simp [Op.equalIn, run_underlying hp, sizeOf, typeInfo, hte, hsz, run_sameAddr_same]
  · simp [Op.equalIn, run_underlying hp, sizeOf, typeInfo, hte, hsz, run_sameAddr_other w h hx hy, h]

theorem ptr_key {P : Program} {kt te : TypeId} {j : TypeInfo} (hp : P.underlying kt = some (.pointer te)) (hte : P.info? te = some j) (hsz : j.size ≠ 0) : PKey P kt embP PlainAt where
  check w e x := by
    unfold Instr.checkKey embP
    simp [run_underlying hp, Result.andThen]
  under := ⟨_, hp, fun x y => by simp [embP, Instr.sameNow]⟩
  eq w x y hx hy := by
    unfold Op.equal Op.maxDepth embP
    exact eq_ptr hp hte hsz w x y hx hy 9999
  stays x := by simp [embP, Instr.sameBits]

/-! ### The operations, for the walk -/
section
variable {κ : Type} [DecidableEq κ] {P : Program} {emb : κ → Value} {ok : World → κ → Prop}
theorem wpList_look_p (w : World) {ops : Array Oper} {rest : List Oper} {o : Oper} {a : Act} {Q : Exit → Act → World → Prop}
    (hg : o.guard = none) (m x : Operand) (t : TypeId) (hop : o.op = Op.lookup t m x false)
    (kt et : TypeId) (hq : PKey P kt emb ok) (ht : P.underlying t = some (.map kt et)) (z : Value) (hz : (zeroValue et).run P w = .ok z w) (b : Nat) (K : κ → Prop) (M : κ → Option Value)
    (hm : a.eval m = .map (some b)) (hown : PMap emb w b K M) (hK : ∀ x, K x → ok w x) (key : κ) (hx : a.eval x = emb key) (hkey : ok w key)
    (hk : wpList P ops Q rest (a.put o.dst ((M key).getD z)) w) : wpList P ops Q (o :: rest) a w := by
  refine wpList_plain hg fun K' hK' => ?_
  have hrun := (hown.look hq ht hK hz key hkey).1
  unfold Oper.wp
  simp [execOp, hop, hm, hx, hrun, Result.andThen]
  exact hK' _ _ hk

theorem wpList_look_ok_p (w : World) {ops : Array Oper} {rest : List Oper} {o : Oper} {a : Act} {Q : Exit → Act → World → Prop}
    (hg : o.guard = none) (m x : Operand) (t : TypeId) (hop : o.op = Op.lookup t m x true)
    (kt et : TypeId) (hq : PKey P kt emb ok) (ht : P.underlying t = some (.map kt et)) (z : Value) (hz : (zeroValue et).run P w = .ok z w) (b : Nat) (K : κ → Prop) (M : κ → Option Value)
    (hm : a.eval m = .map (some b)) (hown : PMap emb w b K M) (hK : ∀ x, K x → ok w x) (key : κ) (hx : a.eval x = emb key) (hkey : ok w key)
    (hk : wpList P ops Q rest (a.put o.dst (.tuple #[(M key).getD z, .bool (M key).isSome])) w) : wpList P ops Q (o :: rest) a w := by
  refine wpList_plain hg fun K' hK' => ?_
  have hrun := (hown.look hq ht hK hz key hkey).2
  unfold Oper.wp
  simp [execOp, hop, hm, hx, hrun, Result.andThen]
  exact hK' _ _ hk

theorem wpList_store_p (w : World) {ops : Array Oper} {rest : List Oper} {o : Oper} {a : Act} {Q : Exit → Act → World → Prop}
    (hg : o.guard = none) (m x v : Operand) (t : TypeId) (hop : o.op = Op.mapUpdate t m x v)
    (kt et : TypeId) (hq : PKey P kt emb ok) (ht : P.underlying t = some (.map kt et)) (b : Nat) (K : κ → Prop) (M : κ → Option Value)
    (hm : a.eval m = .map (some b)) (hown : PMap emb w b K M) (hK : ∀ x, K x → ok w x) (key : κ) (hx : a.eval x = emb key) (hkey : ok w key) (hKk : K key) (val : Value) (hv : a.eval v = val)
    (hk : ∀ o', PMap emb { w with heap := w.heap.setIfInBounds b o' } b K (pput M key val) → wpList P ops Q rest (a.put o.dst undef) { w with heap := w.heap.setIfInBounds b o' }) : wpList P ops Q (o :: rest) a w := by
  refine wpList_plain hg fun K' hK' => ?_
  obtain ⟨o', hrun, hp⟩ := hown.store hq ht hK key hkey hKk val
  unfold Oper.wp
  simp [execOp, hop, hm, hx, hv, hrun, Result.andThen]
  exact hK' _ _ (hk o' hp)
end

/-- .. the world behind it under a name -/
theorem wpList_store_v {κ : Type} [DecidableEq κ] {P : Program} {emb : κ → Value} {ok : World → κ → Prop} (w : World) {ops : Array Oper} {rest : List Oper} {o : Oper} {a : Act} {Q : Exit → Act → World → Prop}
    (hg : o.guard = none) (m x v : Operand) (t : TypeId) (hop : o.op = Op.mapUpdate t m x v)
    (kt et : TypeId) (hq : PKey P kt emb ok) (ht : P.underlying t = some (.map kt et)) (b : Nat) (K : κ → Prop) (M : κ → Option Value)
    (hm : a.eval m = .map (some b)) (hown : PMap emb w b K M) (hK : ∀ x, K x → ok w x) (key : κ) (hx : a.eval x = emb key) (hkey : ok w key) (hKk : K key) (val : Value) (hv : a.eval v = val)
    (hk : ∀ w1, PMap emb w1 b K (pput M key val) → w.grownBy w1 (some b) → w1.heap.size = w.heap.size → wpList P ops Q rest (a.put o.dst undef) w1) : wpList P ops Q (o :: rest) a w :=
  wpList_store_p w hg m x v t hop kt et hq ht b K M hm hown hK key hx hkey hKk val hv fun o' hp => hk _ hp ⟨rfl, rfl, rfl, by simp, fun k _ hk => by simp only [ne_eq, Option.some.injEq] at hk; simp [Ne.symm hk]⟩ (by simp)

/-- a store into a map, seen from the other blocks -/
theorem set_other_block (w : World) (b : Nat) (o : Obj) {k : Nat} (h : k ≠ b) : ({ w with heap := w.heap.setIfInBounds b o } : World).heap[k]? = w.heap[k]? := by
  simp [Ne.symm h]
theorem set_size (w : World) (b : Nat) (o : Obj) : ({ w with heap := w.heap.setIfInBounds b o } : World).heap.size = w.heap.size := by simp
theorem set_below {B : Nat} (w : World) (b : Nat) (o : Obj) (hb : B ≤ b) : Below B w { w with heap := w.heap.setIfInBounds b o } :=
  ⟨rfl, rfl, rfl, by simp, fun k hk => set_other_block w b o (by omega)⟩
end Go.Proofs.Ytocnkjicmchbdaa
