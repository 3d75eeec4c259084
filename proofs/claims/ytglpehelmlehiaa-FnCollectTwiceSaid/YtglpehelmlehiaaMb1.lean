/-
  TREES IN MEMORY. An expression of the program (Op, N, Kids) as a tree of numbers; what it means that a slice value of some world holds the trees of a list, its blocks out of a set S. It stays so while the blocks of S stay as they are. How such trees are had from the reading of an argument.
-/
import Derived.WalkKit
import Derived.ProofKit
import Derived.Deep.OwnRows
import Derived.Deep.Slices
import Derived.Deep.Strs
import Derived.Lib.SmallJoins
import Derived.OpenShut
import Derived.Lib.QuietBelow
import Derived.Maps.Own
import Derived.Maps.OwnOps
import Derived.LaidEqlPtr
import Derived.Test.YtglpehelmlehiaaProg
import Derived.Deep.RegionLaw
import Derived.Deep.RegionLawGrows
import Derived.Deep.DeepMust
namespace Go.Proofs.Ytglpehelmlehiaa
set_option linter.unusedVariables false
set_option linter.unusedSimpArgs false
open Go.RowKit

theorem mkHid {p : Prop} (h : p) : Hid p := h

inductive Tr where
  | node (op n : Int) (kids : List Tr)

namespace Tr
def op : Tr → Int | .node o _ _ => o
def num : Tr → Int | .node _ n _ => n
def kids : Tr → List Tr | .node _ _ k => k
@[simp] theorem op_node (o n : Int) (k : List Tr) : (Tr.node o n k).op = o := rfl
@[simp] theorem num_node (o n : Int) (k : List Tr) : (Tr.node o n k).num = n := rfl
@[simp] theorem kids_node (o n : Int) (k : List Tr) : (Tr.node o n k).kids = k := rfl
theorem eta (t : Tr) : t = .node t.op t.num t.kids := by cases t; rfl
end Tr
instance : Inhabited Tr := ⟨.node 0 0 []⟩

/-- a number that fits Go's int -/
def I64 (n : Int) : Prop := -9223372036854775808 ≤ n ∧ n ≤ 9223372036854775807

mutual
/-- the three cells (Op, N, Kids) of a tree -/
def TrOn (w : World) (S : Nat → Prop) : Tr → Value → Value → Value → Prop
  | .node op n ks, a, b, c => a = .int .i64 op ∧ b = .int .i64 n ∧ I64 op ∧ I64 n ∧
      ∃ ad cap, c = .slice ad ks.length cap ∧ ks.length ≤ cap ∧ cap ≤ maxLen ∧ (ks = [] ∨ ∃ bl off, ad = some ⟨bl, off, none⟩ ∧ S bl ∧ RowOn w S bl off ks)
/-- the trees of a list, one behind the other from a cell on -/
def RowOn (w : World) (S : Nat → Prop) (bl off : Nat) : List Tr → Prop
  | [] => True
  | t :: ts => (∃ a b c, w.cell? ⟨bl, off, none⟩ = some a ∧ w.cell? ⟨bl, off + 1, none⟩ = some b ∧ w.cell? ⟨bl, off + 2, none⟩ = some c ∧ TrOn w S t a b c) ∧ RowOn w S bl (off + 3) ts
end

/-- a slice value that holds the trees of a list -/
def KidsOn (w : World) (S : Nat → Prop) (ks : List Tr) (c : Value) : Prop :=
  ∃ ad cap, c = .slice ad ks.length cap ∧ ks.length ≤ cap ∧ cap ≤ maxLen ∧ (ks = [] ∨ ∃ bl off, ad = some ⟨bl, off, none⟩ ∧ S bl ∧ RowOn w S bl off ks)

theorem trOn_iff {w : World} {S : Nat → Prop} {t : Tr} {a b c : Value} : TrOn w S t a b c ↔ a = .int .i64 t.op ∧ b = .int .i64 t.num ∧ I64 t.op ∧ I64 t.num ∧ KidsOn w S t.kids c := by
  cases t; simp [TrOn, KidsOn]

mutual
theorem TrOn.mono {w w' : World} {S S' : Nat → Prop} (hS : ∀ k, S k → S' k) (hw : ∀ k, S k → w'.heap[k]? = w.heap[k]?) : ∀ (t : Tr) (a b c : Value), TrOn w S t a b c → TrOn w' S' t a b c
  | .node op n ks, a, b, c, h => by
    simp only [TrOn] at h ⊢
    obtain ⟨h1, h2, h3, h4, ad, cap, e, l1, l2, h5⟩ := h
    refine ⟨h1, h2, h3, h4, ad, cap, e, l1, l2, ?_⟩
    rcases h5 with h5 | ⟨bl, off, e, s, r⟩
    · exact Or.inl h5
    · exact Or.inr ⟨bl, off, e, hS _ s, RowOn.mono hS hw bl off ks s r⟩
theorem RowOn.mono {w w' : World} {S S' : Nat → Prop} (hS : ∀ k, S k → S' k) (hw : ∀ k, S k → w'.heap[k]? = w.heap[k]?) (bl off : Nat) : ∀ (ks : List Tr), S bl → RowOn w S bl off ks → RowOn w' S' bl off ks
  | [], _, _ => by simp [RowOn]
  | t :: ts, s, h => by
    simp only [RowOn] at h ⊢
    obtain ⟨⟨a, b, c, ha, hb, hc, ht⟩, hr⟩ := h
    refine ⟨⟨a, b, c, ?_, ?_, ?_, TrOn.mono hS hw t a b c ht⟩, RowOn.mono hS hw bl (off + 3) ts s hr⟩
    · rw [World.cell?_of_block (w := w) (hw bl s)]; exact ha
    · rw [World.cell?_of_block (w := w) (hw bl s)]; exact hb
    · rw [World.cell?_of_block (w := w) (hw bl s)]; exact hc
end

theorem KidsOn.mono {w w' : World} {S S' : Nat → Prop} {ks : List Tr} {c : Value} (h : KidsOn w S ks c) (hS : ∀ k, S k → S' k) (hw : ∀ k, S k → w'.heap[k]? = w.heap[k]?) : KidsOn w' S' ks c := by
  obtain ⟨ad, cap, e, l1, l2, h5⟩ := h
  refine ⟨ad, cap, e, l1, l2, ?_⟩
  rcases h5 with h5 | ⟨bl, off, e, s, r⟩
  · exact Or.inl h5
  · exact Or.inr ⟨bl, off, e, hS _ s, RowOn.mono hS hw bl off ks s r⟩

/-- element i of a row -/
theorem RowOn.at {w : World} {S : Nat → Prop} {bl : Nat} : ∀ (ks : List Tr) (off i : Nat) (hi : i < ks.length), RowOn w S bl off ks →
    ∃ a b c, w.cell? ⟨bl, off + i * 3, none⟩ = some a ∧ w.cell? ⟨bl, off + i * 3 + 1, none⟩ = some b ∧ w.cell? ⟨bl, off + i * 3 + 2, none⟩ = some c ∧ TrOn w S ks[i] a b c
  | [], _, _, hi, _ => by simp at hi
  | t :: ts, off, 0, _, h => by
    simp only [RowOn] at h
    simpa using h.1
  | t :: ts, off, i + 1, hi, h => by
    simp only [RowOn] at h
    have := RowOn.at ts (off + 3) i (by simpa using hi) h.2
    have e : off + 3 + i * 3 = off + (i + 1) * 3 := by omega
    rw [e] at this
    simpa using this

/-- a row from its elements -/
theorem RowOn.of {w : World} {S : Nat → Prop} {bl : Nat} : ∀ (ks : List Tr) (off : Nat),
    (∀ i (hi : i < ks.length), ∃ a b c, w.cell? ⟨bl, off + i * 3, none⟩ = some a ∧ w.cell? ⟨bl, off + i * 3 + 1, none⟩ = some b ∧ w.cell? ⟨bl, off + i * 3 + 2, none⟩ = some c ∧ TrOn w S ks[i] a b c) → RowOn w S bl off ks
  | [], _, _ => by simp [RowOn]
  | t :: ts, off, h => by
    simp only [RowOn]
    refine ⟨by have h0 := h 0 (by simp); simp only [Nat.zero_mul, Nat.add_zero, List.getElem_cons_zero] at h0; exact h0, RowOn.of ts (off + 3) fun i hi => ?_⟩
    have := h (i + 1) (by simpa using hi)
    have e : off + (i + 1) * 3 = off + 3 + i * 3 := by omega
    rw [e] at this
    simpa using this

/-- all blocks below a number -/
def Lt (B : Nat) : Nat → Prop := fun k => k < B

theorem KidsOn.below {w w' : World} {B B' : Nat} {ks : List Tr} {c : Value} (h : KidsOn w (Lt B) ks c) (hb : Below B w w') (hB : B ≤ B') : KidsOn w' (Lt B') ks c :=
  h.mono (fun k (hk : k < B) => (show k < B' by omega)) (fun k hk => hb.block k hk)

/-- a store into another block -/
theorem KidsOn.setCell {w : World} {S : Nat → Prop} {ks : List Tr} {c : Value} (h : KidsOn w S ks c) {a : Addr} (ha : ¬ S a.block) (u : Value) : KidsOn (w.setCell a u) S ks c :=
  h.mono (fun _ hk => hk) (fun k hk => Below.heap_setCell _ _ _ _ (fun e => ha (e ▸ hk)))
theorem TrOn.setCell {w : World} {S : Nat → Prop} {t : Tr} {x y z : Value} (h : TrOn w S t x y z) {a : Addr} (ha : ¬ S a.block) (u : Value) : TrOn (w.setCell a u) S t x y z :=
  h.mono (fun _ hk => hk) (fun k hk => Below.heap_setCell _ _ _ _ (fun e => ha (e ▸ hk)))
theorem size_setCell (w : World) (a : Addr) (u : Value) : (w.setCell a u).heap.size = w.heap.size := by simp [World.setCell]
theorem cell_lt {w : World} {a : Addr} {v : Value} (h : w.cell? a = some v) : a.block < w.heap.size := by
  unfold World.cell? at h
  cases hb : w.heap[a.block]? with
  | none => rw [hb] at h; simp at h
  | some o => exact (Array.getElem?_eq_some_iff.1 hb).1
/-- a cell of a block that was laid last -/
theorem box_cell (w : World) (C : Array Value) (t : TypeId) (i : Nat) (v : Value) (h : C[i]? = some v) : (w.alloc (.cells C t)).cell? ⟨w.heap.size, i, none⟩ = some v := by
  unfold World.cell?
  rw [Deep.blk_alloc_new]
  exact h
theorem old_cell {w : World} {a : Addr} {v : Value} (h : w.cell? a = some v) (o : Obj) : (w.alloc o).cell? a = some v := by
  have hlt := cell_lt h
  rw [World.cell?_of_block (w := w) (Deep.blk_alloc_lt w o a.block hlt)]
  exact h
theorem box_below (w : World) (o : Obj) : Below w.heap.size w (w.alloc o) := (Below.refl _ _).alloc (Nat.le_refl _) _
/-- a callee that makes memory at most, met within a region that draws its order -/
theorem quietB {P : Program} {f : FuncId} {args : Array Value} {w : World} {v : Value} (h : ∀ W, Below w.heap.size w W → Calls P f args W fun e w' => e = .returned v ∧ Below W.heap.size W w') (d : Nat) (os : Array Obj) :
    Calls P f args (Sort.grow (redrawn w d) os) fun e w'' => e = .returned v ∧ ∃ p : Regrown, w'' = Sort.grow (redrawn w p.d) p.os := Calls.regrown_of (h _ (below_regrown w d os))
theorem bcell {W w1 : World} (hb : Below W.heap.size W w1) : (∀ b o, b < W.heap.size → w1.cell? ⟨b, o, none⟩ = W.cell? ⟨b, o, none⟩) ∧ (∀ b o, b < W.heap.size → w1.frozen? ⟨b, o, none⟩ = W.frozen? ⟨b, o, none⟩) :=
  ⟨fun b o h => hb.cell (p := ⟨b, o, none⟩) h, fun b o h => hb.frozen (p := ⟨b, o, none⟩) h⟩
theorem ret_int {k : IntKind} {a b : Int} (h : a = b) : Ending.returned (.int k a) = .returned (.int k b) := by rw [h]
theorem ret_bool {a b : Bool} (h : a = b) : Ending.returned (.bool a) = .returned (.bool b) := by rw [h]

/-- trees that lie in a world, wherever -/
abbrev In (w : World) (ks : List Tr) (c : Value) : Prop := KidsOn w (Lt w.heap.size) ks c
theorem KidsOn.next {w w' : World} {ks : List Tr} {c : Value} (h : In w ks c) (hb : Below w.heap.size w w') : In w' ks c := h.below hb hb.size

theorem KidsOn.drew {w : World} {ks : List Tr} {c : Value} (h : In w ks c) : In w.drew ks c := h.next ((Below.refl _ _).drew)

/-! ### Down: from the reading of an argument -/
section
variable {H : Type} {enc : TypeId × Value → H} {P : Program} {w : World} {base : Nat} {spare : Nat → Bool} {held : Bool}

theorem list3 {α : Type} (l : List α) (h : l.length = 3) : ∃ a b c, l = [a, b, c] := by
  match l, h with
  | [a, b, c], _ => exact ⟨a, b, c, rfl⟩


/-- what the reading of a slice of expressions gives: it holds some trees -/
theorem open_kids {T E f0t f1t : TypeId} {f0 f1 f2 : Field} (hT : P.underlying T = some (.slice E)) (hE : P.underlying E = some (.struct #[f0, f1, f2])) (hC : P.cellsOf E = 3)
    (hone : Deep.oneCellFields P #[f0, f1, f2] = true) (e0 : f0.type = f0t) (e1 : f1.type = f1t) (e2 : f2.type = T) (h0 : P.underlying f0t = some (.int .i64)) (h1 : P.underlying f1t = some (.int .i64)) :
    ∀ (fuel : Nat) (v : Value) (x : DataW H × List MemPlace), DataW.trod enc P w base spare held fuel T [v] = some x → ∃ ks, KidsOn w (Lt w.heap.size) ks v := by
  intro fuel
  induction fuel using Nat.strongRecOn with
  | ind fuel ih =>
    intro v x h
    rcases DataW.trod_slice hT h with ⟨h0', _⟩ | ⟨a, len, cap, elems, rest, n, hfu, hv, _, hb, hl, hm, hlen, hel, _, _⟩
    · simp only [List.cons.injEq, and_true] at h0'
      exact ⟨[], none, 0, h0', by simp, by simp [maxLen], Or.inl rfl⟩
    · simp only [List.cons.injEq, and_true] at hv
      -- each element is a tree
      have key : ∀ i, i < len → ∃ t, ∃ p q r, w.cell? (a.add (i * 3)) = some p ∧ w.cell? ((a.add (i * 3)).add 1) = some q ∧ w.cell? ((a.add (i * 3)).add 2) = some r ∧ TrOn w (Lt w.heap.size) t p q r := by
        intro i hi
        have hh := hel i hi
        rw [hC] at hh
        obtain ⟨cs, hcs, hd⟩ := Option.bind_eq_some_iff.1 (hh.trans (List.getElem?_eq_getElem (by omega)))
        obtain ⟨_, hl3, hcell⟩ := World.cells?_some hcs
        obtain ⟨p, q, r, rfl⟩ := list3 cs hl3
        obtain ⟨xs, m, hm1, _, _, hxl, hf⟩ := DataW.trod_struct hE hd
        obtain ⟨y0, y1, y2, rfl⟩ := list3 xs (by simpa using hxl)
        have hp := hf 0 f0 rfl
        have hq := hf 1 f1 rfl
        have hr := hf 2 f2 rfl
        simp only [List.getElem?_cons_zero, List.getElem?_cons_succ] at hp hq hr
        obtain ⟨o0, k0⟩ := Deep.hone_of hone 0 f0 rfl
        obtain ⟨o1, k1⟩ := Deep.hone_of hone 1 f1 rfl
        obtain ⟨o2, k2⟩ := Deep.hone_of hone 2 f2 rfl
        have hp' : DataW.trod enc P w base spare held m f0t [p] = some y0 := by rw [← e0]; simpa [o0, k0] using hp
        have hq' : DataW.trod enc P w base spare held m f1t [q] = some y1 := by rw [← e1]; simpa [o1, k1] using hq
        have hr' : DataW.trod enc P w base spare held m T [r] = some y2 := by rw [← e2]; simpa [o2, k2] using hr
        obtain ⟨np, hnp, _, wp⟩ := DataW.trod_int h0 hp'
        obtain ⟨nq, hnq, _, wq⟩ := DataW.trod_int h1 hq'
        simp only [List.cons.injEq, and_true] at hnp hnq
        obtain ⟨ks, hks⟩ := ih m (by omega) r _ hr'
        have g0 := hcell 0 (by omega)
        have g1 := hcell 1 (by omega)
        have g2 := hcell 2 (by omega)
        refine ⟨.node np nq ks, p, q, r, ?_, by simpa using g1, by simpa using g2, trOn_iff.2 ⟨hnp, hnq, bounds_i64 wp, bounds_i64 wq, hks⟩⟩
        simpa [Addr.add] using g0
      subst hv
      have kf := Deep.choose_lt key
      obtain ⟨f, hfk⟩ := kf
      refine ⟨(List.range len).map f, some a, cap, by simp, by simpa using hl, hm, ?_⟩
      by_cases hz : len = 0
      · left; simp [hz]
      right
      obtain ⟨bl, off, spot⟩ := a
      obtain ⟨p, q, r, g0, _⟩ := hfk 0 (by omega)
      have hspot : spot = none := by simpa [Addr.add] using World.cell?_spot g0
      subst hspot
      refine ⟨bl, off, rfl, by have := cell_lt g0; simpa [Addr.add, Lt] using this, RowOn.of _ _ fun i hi => ?_⟩
      simp only [List.length_map, List.length_range] at hi
      obtain ⟨p, q, r, g0, g1, g2, g3⟩ := hfk i hi
      rw [WideShapes.add_plain] at g0 g1 g2
      rw [WideShapes.add_plain] at g1 g2
      exact ⟨p, q, r, g0, g1, g2, by simpa using g3⟩
end

end Go.Proofs.Ytglpehelmlehiaa
/-
  PLAIN FACTS ON TREES: how many nodes a list of trees has; which trees are valid expressions. No program is named here.
-/
namespace Go.Proofs.Ytglpehelmlehiaa
set_option linter.unusedVariables false
set_option linter.unusedSimpArgs false

mutual
/-- how many nodes stand below a tree's top -/
def szT : Tr → Nat
  | .node _ _ ks => szL ks
/-- how many nodes a list of trees has -/
def szL : List Tr → Nat
  | [] => 0
  | t :: ts => 1 + szT t + szL ts
end

theorem szT_eq (t : Tr) : szT t = szL t.kids := by cases t; simp [szT]

/-- the nodes below the tops of a list -/
def sumT (l : List Tr) : Nat := (l.map szT).sum
theorem sumT_nil : sumT [] = 0 := rfl
theorem sumT_cons (t : Tr) (l : List Tr) : sumT (t :: l) = szT t + sumT l := rfl
theorem sumT_append (a b : List Tr) : sumT (a ++ b) = sumT a + sumT b := by simp [sumT]
theorem szL_sum : ∀ (l : List Tr), szL l = l.length + sumT l
  | [] => by simp [szL, sumT]
  | t :: ts => by rw [szL, szL_sum ts, sumT_cons]; simp; omega
theorem sumT_take_succ (l : List Tr) (i : Nat) (h : i < l.length) : sumT (l.take (i + 1)) = sumT (l.take i) + szT l[i] := by
  rw [List.take_succ_eq_append_getElem h, sumT_append]; simp [sumT]
theorem sumT_take_le (l : List Tr) (i : Nat) : sumT (l.take i) ≤ sumT l := by
  conv => rhs; rw [← List.take_append_drop i l, sumT_append]
  omega
theorem szT_le_sumT (l : List Tr) (i : Nat) (h : i < l.length) : szT l[i] ≤ sumT l := by
  have := sumT_take_succ l i h
  have := sumT_take_le l (i + 1)
  omega
theorem szL_append (a b : List Tr) : szL (a ++ b) = szL a + szL b := by simp [szL_sum, sumT_append]; omega
theorem szL_take_succ (l : List Tr) (i : Nat) (h : i < l.length) : szL (l.take (i + 1)) = szL (l.take i) + 1 + szT l[i] := by
  rw [szL_sum, szL_sum, sumT_take_succ l i h, List.length_take, List.length_take]; omega
theorem szL_take_le (l : List Tr) (i : Nat) : szL (l.take i) ≤ szL l := by
  conv => rhs; rw [← List.take_append_drop i l, szL_append]
  omega
theorem szT_lt_szL (l : List Tr) (i : Nat) (h : i < l.length) : szT l[i] < szL l := by
  have := szL_take_succ l i h
  have := szL_take_le l (i + 1)
  omega
theorem szL_kids_lt (l : List Tr) (i : Nat) (h : i < l.length) : szL (l[i]).kids < szL l := by
  rw [← szT_eq]; exact szT_lt_szL l i h

/-- what the law's own count of an argument leaves of a budget -/
def szOut (ks : List Tr) (left : Int) : Int := if (szL ks : Int) ≤ left then left - szL ks else -1

/-- how many operands a kind has -/
def arity (op : Int) : Int :=
  if op = 1 ∨ op = 2 ∨ op = 3 then 0 else if op = 6 ∨ op = 7 then 1 else if op = 4 ∨ op = 5 ∨ op = 8 ∨ op = 9 then 2 else if op = 10 then 3 else -1

/-- is the number of a node right? -/
def ownB (op n vars defs : Int) : Bool :=
  if op = 1 then decide (0 ≤ n ∧ n < vars) else if op = 2 then decide (0 ≤ n ∧ n ≤ 999) else if op = 3 then decide (0 ≤ n ∧ n < defs) else decide (n = 0)

/-- well formed, down to a depth -/
def shB (vars defs : Int) : Nat → Tr → Bool
  | 0, _ => false
  | d + 1, t => decide ((t.kids.length : Int) = arity t.op) && ownB t.op t.num vars defs && t.kids.all (shB vars defs d)

/-- a valid expression -/
def validB (t : Tr) (vars defs : Int) : Bool :=
  decide (0 ≤ vars ∧ vars ≤ 4 ∧ 0 ≤ defs ∧ defs ≤ 6) && (shB vars defs 16 t && decide (1 + szT t ≤ 60))

/-- what is left of a budget of nodes -/
def nlOut (vars defs : Int) (d : Nat) (t : Tr) (nodes : Int) : Int :=
  if shB vars defs d t = true ∧ 1 + (szT t : Int) ≤ nodes then nodes - (1 + szT t) else -1

theorem all_take_succ (p : Tr → Bool) (l : List Tr) (i : Nat) (h : i < l.length) : (l.take (i + 1)).all p = ((l.take i).all p && p l[i]) := by
  rw [List.take_succ_eq_append_getElem h, List.all_append]; simp
theorem all_false_of (p : Tr → Bool) (l : List Tr) (i : Nat) (h : i < l.length) (hp : p l[i] = false) : l.all p = false := by
  rw [List.all_eq_false]; exact ⟨l[i], List.getElem_mem h, by simp [hp]⟩

theorem shB_mono {vars vars' defs defs' : Int} (hv : vars ≤ vars') (hd : defs ≤ defs') : ∀ (d : Nat) (t : Tr), shB vars defs d t = true → shB vars' defs' d t = true
  | 0, _, h => by simp [shB] at h
  | d + 1, t, h => by
    simp only [shB, Bool.and_eq_true, List.all_eq_true] at h ⊢
    obtain ⟨⟨h1, h2⟩, h3⟩ := h
    refine ⟨⟨h1, ?_⟩, fun x hx => shB_mono hv hd d x (h3 x hx)⟩
    unfold ownB at h2 ⊢
    by_cases h1 : t.op = 1
    · rw [if_pos h1] at h2 ⊢; simp at h2 ⊢; omega
    rw [if_neg h1] at h2 ⊢
    by_cases h2' : t.op = 2
    · rw [if_pos h2'] at h2 ⊢; exact h2
    rw [if_neg h2'] at h2 ⊢
    by_cases h3' : t.op = 3
    · rw [if_pos h3'] at h2 ⊢; simp at h2 ⊢; omega
    rw [if_neg h3'] at h2 ⊢; exact h2

end Go.Proofs.Ytglpehelmlehiaa
/-
  MAPS KEYED BY ADDRESSES (pointers, or structs of them): what a look-up finds and what a store leaves, the map seen as a function from keys to values.
-/
namespace Go.Proofs.Ytglpehelmlehiaa
set_option linter.unusedVariables false
set_option linter.unusedSimpArgs false
open Go.RowKit Go.MapKept

section
variable {κ : Type} [DecidableEq κ]

/-- where a key stands in a list, and its value -/
def pfind (c : κ) : List (κ × Value) → Nat → Option (Nat × Value)
  | [], _ => none
  | x :: xs, i => if c = x.1 then some (i, x.2) else pfind c xs (i + 1)

theorem pfind_some {c : κ} : ∀ {L : List (κ × Value)} {i j : Nat} {v : Value}, pfind c L i = some (j, v) → ∃ n, j = i + n ∧ L[n]? = some (c, v)
  | [], i, j, v, h => by simp [pfind] at h
  | x :: xs, i, j, v, h => by
    unfold pfind at h
    split at h
    · rename_i hc
      simp only [Option.some.injEq, Prod.mk.injEq] at h
      exact ⟨0, by omega, by rw [← h.2, hc]; simp⟩
    · obtain ⟨n, hn, hg⟩ := pfind_some h
      exact ⟨n + 1, by omega, by simpa using hg⟩

theorem pfind_push_same {c : κ} {v : Value} : ∀ {L : List (κ × Value)} {i : Nat}, pfind c L i = none → pfind c (L ++ [(c, v)]) i = some (i + L.length, v)
  | [], i, _ => by simp [pfind]
  | x :: xs, i, h => by
    unfold pfind at h
    split at h
    · simp at h
    · rename_i hc
      rw [List.cons_append, pfind, if_neg hc, pfind_push_same h]
      simp; omega

theorem pfind_push_other {c d : κ} {v : Value} (hd : d ≠ c) : ∀ {L : List (κ × Value)} {i : Nat}, pfind d (L ++ [(c, v)]) i = pfind d L i
  | [], i => by simp [pfind, hd]
  | x :: xs, i => by rw [List.cons_append, pfind, pfind, pfind_push_other hd]

theorem pfind_set_same {c : κ} {u v : Value} : ∀ {L : List (κ × Value)} {i n : Nat}, pfind c L i = some (i + n, u) → pfind c (L.set n (c, v)) i = some (i + n, v)
  | [], i, n, h => by simp [pfind] at h
  | x :: xs, i, n, h => by
    unfold pfind at h
    split at h
    · rename_i hc
      simp only [Option.some.injEq, Prod.mk.injEq] at h
      have : n = 0 := by omega
      subst this
      simp [pfind]
    · rename_i hc
      obtain ⟨m, hm, _⟩ := pfind_some h
      have : n = m + 1 := by omega
      subst this
      rw [List.set_cons_succ, pfind, if_neg hc]
      have e : i + (m + 1) = i + 1 + m := by omega
      rw [e] at h ⊢
      exact pfind_set_same h

theorem pfind_set_other {c d : κ} {u v : Value} (hd : d ≠ c) : ∀ {L : List (κ × Value)} {i n : Nat}, L[n]? = some (c, u) → pfind d (L.set n (c, v)) i = pfind d L i
  | [], i, n, h => by simp at h
  | x :: xs, i, 0, h => by
    simp only [List.getElem?_cons_zero, Option.some.injEq] at h
    subst h
    simp [pfind, hd]
  | x :: xs, i, n + 1, h => by
    rw [List.set_cons_succ, pfind, pfind, pfind_set_other hd (by simpa using h)]

/-- what is asked of the keys of a type: how they lie in values, and when they are compared -/
structure PKey (P : Program) (kt : TypeId) (emb : κ → Value) (ok : World → κ → Prop) : Prop where
  check : ∀ (w : World) (e : Bool) (x : κ), (Instr.checkKey e 10000 kt (emb x)).run P w = .ok () w
  under : ∃ d, P.underlying kt = some d ∧ ∀ x y, Instr.sameNow d (emb x) (emb y) = none
  eq : ∀ (w : World) (x y : κ), ok w x → ok w y → (Op.equal kt (emb x) (emb y)).run P w = .ok (decide (x = y)) w
  stays : ∀ x, Instr.sameBits 10000 (emb x) (emb x) = true

/-- block b is a map, its keys of K, seen as the function M -/
def PMap (emb : κ → Value) (w : World) (b : Nat) (K : κ → Prop) (M : κ → Option Value) : Prop :=
  ∃ es clock L, w.heap[b]? = some (.map es clock) ∧ es.toList.map (fun e => (e.key, e.val)) = L.map (fun x : κ × Value => (emb x.1, x.2)) ∧ (∀ x ∈ L, K x.1) ∧ ∀ c, M c = (pfind c L 0).map (·.2)

/-- a function changed at one place -/
def pput (M : κ → Option Value) (a : κ) (v : Value) : κ → Option Value := fun c => if c = a then some v else M c
@[simp] theorem pput_same (M : κ → Option Value) (a : κ) (v : Value) : pput M a v a = some v := by simp [pput]
theorem pput_other (M : κ → Option Value) {a c : κ} (v : Value) (h : c ≠ a) : pput M a v c = M c := by simp [pput, h]

variable {P : Program} {kt et mt : TypeId} {emb : κ → Value} {ok : World → κ → Prop} {w : World} {b : Nat} {K : κ → Prop} {M : κ → Option Value}

theorem PMap.made (w : World) (K : κ → Prop) : PMap emb (w.alloc (.map #[] 0)) w.heap.size K (fun _ => none) :=
  ⟨#[], 0, [], (heap_alloc w _).1, rfl, by simp, fun c => rfl⟩
theorem PMap.keep {w' : World} (h : PMap emb w b K M) (hb : w'.heap[b]? = w.heap[b]?) : PMap emb w' b K M := by
  obtain ⟨es, clock, L, h1, h2⟩ := h
  exact ⟨es, clock, L, hb.trans h1, h2⟩
theorem PMap.lt (h : PMap emb w b K M) : b < w.heap.size := by
  obtain ⟨es, clock, L, h1, h2⟩ := h
  exact (Array.getElem?_eq_some_iff.1 h1).1
theorem PMap.keys {K' : κ → Prop} (h : PMap emb w b K M) (hK : ∀ x, K x → K' x) : PMap emb w b K' M := by
  obtain ⟨es, clock, L, h1, h2, h3, h4⟩ := h
  exact ⟨es, clock, L, h1, h2, fun x hx => hK _ (h3 x hx), h4⟩
theorem PMap.key_of (h : PMap emb w b K M) {c : κ} {v : Value} (hc : M c = some v) : K c := by
  obtain ⟨es, clock, L, h1, h2, h3, h4⟩ := h
  rw [h4] at hc
  cases hf : pfind c L 0 with
  | none => rw [hf] at hc; simp at hc
  | some z =>
    obtain ⟨n, _, hg⟩ := pfind_some (j := z.1) (v := z.2) hf
    exact h3 _ (List.mem_of_getElem? hg)

theorem run_findAsking (Q : PKey P kt emb ok) (a : κ) (ha : ok w a) : ∀ (l : List MapEntry) (L : List (κ × Value)) (i : Nat), l.map (fun e => (e.key, e.val)) = L.map (fun x : κ × Value => (emb x.1, x.2)) → (∀ x ∈ L, ok w x.1) →
    (Instr.findAsking kt (emb a) l i).run P w = .ok (pfind a L i) w
  | [], L, i, h, _ => by
    cases L with
    | nil => simp [Instr.findAsking, pfind]
    | cons x xs => simp at h
  | e :: es, L, i, h, hL => by
    cases L with
    | nil => simp at h
    | cons x xs =>
      simp only [List.map_cons, List.cons.injEq, Prod.mk.injEq] at h
      obtain ⟨⟨h1, h2⟩, h3⟩ := h
      have ih := run_findAsking Q a ha es xs (i + 1) h3 (fun y hy => hL y (by simp [hy]))
      have he := Q.eq w a x.1 ha (hL x (by simp))
      rw [← h1] at he
      unfold Instr.findAsking pfind
      simp only [Sem.run_bind, he, Result.andThen]
      by_cases hc : a = x.1
      · simp [hc, h2]
      · simp [hc, ih]

theorem run_findKey_p (Q : PKey P kt emb ok) (a : κ) (ha : ok w a) (l : List MapEntry) (L : List (κ × Value)) (h : l.map (fun e => (e.key, e.val)) = L.map (fun x : κ × Value => (emb x.1, x.2))) (hL : ∀ x ∈ L, ok w x.1) :
    (Instr.findKey kt (emb a) l).run P w = .ok (pfind a L 0) w := by
  obtain ⟨d, hd, hn⟩ := Q.under
  have hf := run_findAsking Q a ha l L 0 h hL
  cases l with
  | nil =>
    cases L with
    | nil => simp [Instr.findKey, run_underlying hd, Result.andThen, Instr.findNow, pfind]
    | cons x xs => simp at h
  | cons e es =>
    cases L with
    | nil => simp at h
    | cons x xs =>
      have h1 : e.key = emb x.1 := by simp only [List.map_cons, List.cons.injEq, Prod.mk.injEq] at h; exact h.1.1
      have hnow : Instr.findNow d (emb a) (e :: es) 0 = none := by simp [Instr.findNow, h1, hn]
      simp [Instr.findKey, run_underlying hd, Result.andThen, hnow, hf]

/-- 'm[k]' -/
theorem PMap.look (h : PMap emb w b K M) (Q : PKey P kt emb ok) (hm : P.underlying mt = some (.map kt et)) (hK : ∀ x, K x → ok w x) {z : Value} (hz : (zeroValue et).run P w = .ok z w) (a : κ) (ha : ok w a) :
    (Instr.lookup mt (.map (some b)) (emb a) false).run P w = .ok ((M a).getD z) w ∧
    (Instr.lookup mt (.map (some b)) (emb a) true).run P w = .ok (.tuple #[(M a).getD z, .bool (M a).isSome]) w := by
  obtain ⟨es, clock, L, h1, h2, h3, h4⟩ := h
  have hf := run_findKey_p Q a ha es.toList L h2 (fun x hx => hK _ (h3 x hx))
  rw [h4 a]
  cases hp : pfind a L 0 with
  | none =>
    rw [hp] at hf
    constructor <;> simp [Instr.lookup, run_underlying hm, MapKept.run_getObj_map h1, Q.check, hf, hz, Result.andThen]
  | some y =>
    obtain ⟨n, v⟩ := y
    rw [hp] at hf
    constructor <;> simp [Instr.lookup, run_underlying hm, MapKept.run_getObj_map h1, Q.check, hf, Result.andThen]

/-- 'm[k] = v' -/
theorem PMap.store (h : PMap emb w b K M) (Q : PKey P kt emb ok) (hm : P.underlying mt = some (.map kt et)) (hK : ∀ x, K x → ok w x) (a : κ) (ha : ok w a) (hKa : K a) (v : Value) :
    ∃ o, (Instr.mapUpdate mt (.map (some b)) (emb a) v).run P w = .ok () { w with heap := w.heap.setIfInBounds b o } ∧ PMap emb { w with heap := w.heap.setIfInBounds b o } b K (pput M a v) := by
  obtain ⟨es, clock, L, h1, h2, h3, h4⟩ := h
  have hf := run_findKey_p Q a ha es.toList L h2 (fun x hx => hK _ (h3 x hx))
  cases hp : pfind a L 0 with
  | none =>
    rw [hp] at hf
    refine ⟨_, by simp [Instr.mapUpdate, run_underlying hm, MapKept.run_getObj_map h1, Q.check, hf, MapKept.run_setObj_map _ h1, Result.andThen]; rfl, _, _, L ++ [(a, v)], (heap_set h1).1, by simp [h2], ?_, ?_⟩
    · intro x hx
      simp only [List.mem_append, List.mem_singleton] at hx
      rcases hx with hx | rfl
      · exact h3 x hx
      · exact hKa
    · intro c
      by_cases hc : c = a
      · subst hc; simp [pfind_push_same hp]
      · rw [pput_other M v hc, pfind_push_other hc, h4]
  | some y =>
    obtain ⟨n, u⟩ := y
    rw [hp] at hf
    obtain ⟨m, hm', hg⟩ := pfind_some hp
    have hnm : n = m := by omega
    subst hnm
    have hlen : es.toList.length = L.length := by have := congrArg List.length h2; simpa using this
    have hlt : n < L.length := (List.getElem?_eq_some_iff.1 hg).1
    have hj : ∃ e, es[n]? = some e ∧ e.key = emb a ∧ e.val = u := by
      have : (es.toList.map (fun e => (e.key, e.val)))[n]? = (L.map (fun x : κ × Value => (emb x.1, x.2)))[n]? := by rw [h2]
      rw [List.getElem?_map, List.getElem?_map, hg] at this
      cases he : es[n]? with
      | none => rw [Array.getElem?_toList, he] at this; simp at this
      | some e =>
        rw [Array.getElem?_toList, he] at this
        simp only [Option.map_some, Option.some.injEq, Prod.mk.injEq] at this
        exact ⟨e, rfl, this.1, this.2⟩
    obtain ⟨e, he, hek, hev⟩ := hj
    have hks : (Instr.keyThatStays (emb a) (emb a)).run P w = .ok (emb a) w := by simp [Instr.keyThatStays, Q.stays]
    refine ⟨_, by simp [Instr.mapUpdate, run_underlying hm, MapKept.run_getObj_map h1, Q.check, hf, he, hek, hks, MapKept.run_setObj_map _ h1, Result.andThen]; rfl, _, _, L.set n (a, v), (heap_set h1).1, ?_, ?_, ?_⟩
    · apply List.ext_getElem?
      intro j
      have hj : (es.toList.map (fun e => (e.key, e.val)))[j]? = (L.map (fun x : κ × Value => (emb x.1, x.2)))[j]? := by rw [h2]
      simp only [List.getElem?_map, Array.getElem?_toList] at hj
      simp only [List.getElem?_map, Array.getElem?_toList, Array.getElem?_modify, List.getElem?_set]
      by_cases hij : n = j
      · subst hij
        simp [he, hlt]
      · simp [hij, hj]
    · intro x hx
      rcases List.mem_or_eq_of_mem_set hx with hx | rfl
      · exact h3 x hx
      · exact hKa
    · intro c
      by_cases hc : c = a
      · subst hc
        rw [pput_same, pfind_set_same (by simpa using hp)]
        rfl
      · rw [pput_other M v hc, pfind_set_other hc hg, h4]
end

/-! ### Keys that are pointers -/
/-- an address into cells that are not frozen -/
def PlainAt (w : World) (a : Addr) : Prop := ∃ C T, w.heap[a.block]? = some (.cells C T (0, 0))
/-- pointers as keys -/
def embP (a : Addr) : Value := .pointer (some a)

theorem eq_ptr {P : Program} {kt te : TypeId} {j : TypeInfo} (hp : P.underlying kt = some (.pointer te)) (hte : P.info? te = some j) (hsz : j.size ≠ 0) (w : World) (x y : Addr) (hx : PlainAt w x) (hy : PlainAt w y) (d : Nat) :
    (Op.equalIn (d + 1) kt (.pointer (some x)) (.pointer (some y))).run P w = .ok (decide (x = y)) w := by
  obtain ⟨C, T, hx⟩ := hx
  obtain ⟨D, U, hy⟩ := hy
  by_cases h : x = y
  · subst h
    simp [Op.equalIn, run_underlying hp, sizeOf, typeInfo, hte, hsz, run_sameAddr_same]
  · simp [Op.equalIn, run_underlying hp, sizeOf, typeInfo, hte, hsz, run_sameAddr_other w h hx hy, h]

theorem ptr_key {P : Program} {kt te : TypeId} {j : TypeInfo} (hp : P.underlying kt = some (.pointer te)) (hte : P.info? te = some j) (hsz : j.size ≠ 0) : PKey P kt embP PlainAt where
  check w e x := by
    unfold Instr.checkKey embP
    simp [run_underlying hp, Result.andThen]
  under := ⟨_, hp, fun x y => by simp [embP, Instr.sameNow]⟩
  eq w x y hx hy := by
    unfold Op.equal Op.maxDepth embP
    exact eq_ptr hp hte hsz w x y hx hy 9999
  stays x := by simp [embP, Instr.sameBits]

/-! ### The operations, for the walk -/
section
variable {κ : Type} [DecidableEq κ] {P : Program} {emb : κ → Value} {ok : World → κ → Prop}
theorem wpList_look_p (w : World) {ops : Array Oper} {rest : List Oper} {o : Oper} {a : Act} {Q : Exit → Act → World → Prop}
    (hg : o.guard = none) (m x : Operand) (t : TypeId) (hop : o.op = Op.lookup t m x false)
    (kt et : TypeId) (hq : PKey P kt emb ok) (ht : P.underlying t = some (.map kt et)) (z : Value) (hz : (zeroValue et).run P w = .ok z w) (b : Nat) (K : κ → Prop) (M : κ → Option Value)
    (hm : a.eval m = .map (some b)) (hown : PMap emb w b K M) (hK : ∀ x, K x → ok w x) (key : κ) (hx : a.eval x = emb key) (hkey : ok w key)
    (hk : wpList P ops Q rest (a.put o.dst ((M key).getD z)) w) : wpList P ops Q (o :: rest) a w := by
  refine wpList_plain hg fun K' hK' => ?_
  have hrun := (hown.look hq ht hK hz key hkey).1
  unfold Oper.wp
  simp [execOp, hop, hm, hx, hrun, Result.andThen]
  exact hK' _ _ hk

theorem wpList_look_ok_p (w : World) {ops : Array Oper} {rest : List Oper} {o : Oper} {a : Act} {Q : Exit → Act → World → Prop}
    (hg : o.guard = none) (m x : Operand) (t : TypeId) (hop : o.op = Op.lookup t m x true)
    (kt et : TypeId) (hq : PKey P kt emb ok) (ht : P.underlying t = some (.map kt et)) (z : Value) (hz : (zeroValue et).run P w = .ok z w) (b : Nat) (K : κ → Prop) (M : κ → Option Value)
    (hm : a.eval m = .map (some b)) (hown : PMap emb w b K M) (hK : ∀ x, K x → ok w x) (key : κ) (hx : a.eval x = emb key) (hkey : ok w key)
    (hk : wpList P ops Q rest (a.put o.dst (.tuple #[(M key).getD z, .bool (M key).isSome])) w) : wpList P ops Q (o :: rest) a w := by
  refine wpList_plain hg fun K' hK' => ?_
  have hrun := (hown.look hq ht hK hz key hkey).2
  unfold Oper.wp
  simp [execOp, hop, hm, hx, hrun, Result.andThen]
  exact hK' _ _ hk

theorem wpList_store_p (w : World) {ops : Array Oper} {rest : List Oper} {o : Oper} {a : Act} {Q : Exit → Act → World → Prop}
    (hg : o.guard = none) (m x v : Operand) (t : TypeId) (hop : o.op = Op.mapUpdate t m x v)
    (kt et : TypeId) (hq : PKey P kt emb ok) (ht : P.underlying t = some (.map kt et)) (b : Nat) (K : κ → Prop) (M : κ → Option Value)
    (hm : a.eval m = .map (some b)) (hown : PMap emb w b K M) (hK : ∀ x, K x → ok w x) (key : κ) (hx : a.eval x = emb key) (hkey : ok w key) (hKk : K key) (val : Value) (hv : a.eval v = val)
    (hk : ∀ o', PMap emb { w with heap := w.heap.setIfInBounds b o' } b K (pput M key val) → wpList P ops Q rest (a.put o.dst undef) { w with heap := w.heap.setIfInBounds b o' }) : wpList P ops Q (o :: rest) a w := by
  refine wpList_plain hg fun K' hK' => ?_
  obtain ⟨o', hrun, hp⟩ := hown.store hq ht hK key hkey hKk val
  unfold Oper.wp
  simp [execOp, hop, hm, hx, hv, hrun, Result.andThen]
  exact hK' _ _ (hk o' hp)
end

/-- .. the world behind it under a name -/
theorem wpList_store_v {κ : Type} [DecidableEq κ] {P : Program} {emb : κ → Value} {ok : World → κ → Prop} (w : World) {ops : Array Oper} {rest : List Oper} {o : Oper} {a : Act} {Q : Exit → Act → World → Prop}
    (hg : o.guard = none) (m x v : Operand) (t : TypeId) (hop : o.op = Op.mapUpdate t m x v)
    (kt et : TypeId) (hq : PKey P kt emb ok) (ht : P.underlying t = some (.map kt et)) (b : Nat) (K : κ → Prop) (M : κ → Option Value)
    (hm : a.eval m = .map (some b)) (hown : PMap emb w b K M) (hK : ∀ x, K x → ok w x) (key : κ) (hx : a.eval x = emb key) (hkey : ok w key) (hKk : K key) (val : Value) (hv : a.eval v = val)
    (hk : ∀ w1, PMap emb w1 b K (pput M key val) → w.grownBy w1 (some b) → w1.heap.size = w.heap.size → wpList P ops Q rest (a.put o.dst undef) w1) : wpList P ops Q (o :: rest) a w :=
  wpList_store_p w hg m x v t hop kt et hq ht b K M hm hown hK key hx hkey hKk val hv fun o' hp => hk _ hp ⟨rfl, rfl, rfl, by simp, fun k _ hk => by simp only [ne_eq, Option.some.injEq] at hk; simp [Ne.symm hk]⟩ (by simp)

/-- a store into a map, seen from the other blocks -/
theorem set_other_block (w : World) (b : Nat) (o : Obj) {k : Nat} (h : k ≠ b) : ({ w with heap := w.heap.setIfInBounds b o } : World).heap[k]? = w.heap[k]? := by
  simp [Ne.symm h]
theorem set_size (w : World) (b : Nat) (o : Obj) : ({ w with heap := w.heap.setIfInBounds b o } : World).heap.size = w.heap.size := by simp
theorem set_below {B : Nat} (w : World) (b : Nat) (o : Obj) (hb : B ≤ b) : Below B w { w with heap := w.heap.setIfInBounds b o } :=
  ⟨rfl, rfl, rfl, by simp, fun k hk => set_other_block w b o (by omega)⟩
end Go.Proofs.Ytglpehelmlehiaa
/-
  AN ADDRESS HOLDS ONE TREE; blocks of plain cells; trees that lie in such blocks; the way down nested applications.
-/
namespace Go.Proofs.Ytglpehelmlehiaa
set_option linter.unusedVariables false
set_option linter.unusedSimpArgs false
open Go.RowKit

mutual
theorem TrOn.uniq {w : World} {S S' : Nat → Prop} : ∀ (t t' : Tr) (a b c : Value), TrOn w S t a b c → TrOn w S' t' a b c → t = t'
  | .node o n ks, .node o' n' ks', a, b, c, h, h' => by
    simp only [TrOn] at h h'
    obtain ⟨rfl, rfl, -, -, ad, cap, rfl, -, -, h⟩ := h
    obtain ⟨e1, e2, -, -, ad', cap', e3, -, -, h'⟩ := h'
    simp only [Value.int.injEq, true_and] at e1 e2
    simp only [Value.slice.injEq] at e3
    obtain ⟨rfl, hl, rfl⟩ := e3
    subst e1
    subst e2
    congr 1
    rcases h with rfl | ⟨bl, off, rfl, -, hr⟩
    · exact (List.eq_nil_of_length_eq_zero (by simpa using hl.symm)).symm
    · rcases h' with rfl | ⟨bl', off', e, -, hr'⟩
      · exact List.eq_nil_of_length_eq_zero (by simpa using hl)
      · simp only [Option.some.injEq, Addr.mk.injEq] at e
        obtain ⟨rfl, rfl, -⟩ := e
        exact RowOn.uniq bl off ks ks' hl hr hr'
theorem RowOn.uniq {w : World} {S S' : Nat → Prop} (bl off : Nat) : ∀ (ks ks' : List Tr), ks.length = ks'.length → RowOn w S bl off ks → RowOn w S' bl off ks' → ks = ks'
  | [], [], _, _, _ => rfl
  | [], _ :: _, hl, _, _ => by simp at hl
  | _ :: _, [], hl, _, _ => by simp at hl
  | t :: ts, t' :: ts', hl, h, h' => by
    simp only [RowOn] at h h'
    obtain ⟨⟨a, b, c, ha, hb, hc, ht⟩, hr⟩ := h
    obtain ⟨⟨a', b', c', ha', hb', hc', ht'⟩, hr'⟩ := h'
    rw [ha] at ha'
    rw [hb] at hb'
    rw [hc] at hc'
    cases ha'
    cases hb'
    cases hc'
    rw [TrOn.uniq t t' a b c ht ht', RowOn.uniq bl (off + 3) ts ts' (by simpa using hl) hr hr']
end

/-- plain blocks of cells -/
def Pl (w : World) : Nat → Prop := fun k => k < w.heap.size ∧ ∃ C T, w.heap[k]? = some (.cells C T (0, 0))
/-- trees that lie in plain blocks -/
abbrev InP (w : World) (ks : List Tr) (c : Value) : Prop := KidsOn w (Pl w) ks c
theorem Pl.next {w w' : World} (hb : Below w.heap.size w w') {k : Nat} (h : Pl w k) : Pl w' k :=
  ⟨Nat.lt_of_lt_of_le h.1 hb.size, by obtain ⟨C, T, e⟩ := h.2; exact ⟨C, T, (hb.block k h.1).trans e⟩⟩
theorem KidsOn.inP {w : World} {ks : List Tr} {c : Value} (h : InP w ks c) : In w ks c := KidsOn.mono h (fun k hk => hk.1) (fun _ _ => rfl)
theorem KidsOn.nextP {w w' : World} {ks : List Tr} {c : Value} (h : InP w ks c) (hb : Below w.heap.size w w') : InP w' ks c := KidsOn.mono h (fun k hk => hk.next hb) (fun k hk => hb.block k hk.1)
theorem TrOn.nextP {w w' : World} {t : Tr} {a b c : Value} (h : TrOn w (Pl w) t a b c) (hb : Below w.heap.size w w') : TrOn w' (Pl w') t a b c := TrOn.mono (fun k hk => hk.next hb) (fun k hk => hb.block k hk.1) _ _ _ _ h

/-- a tree that lies at an address -/
def LiesAt (w : World) (S : Nat → Prop) (a : Addr) (t : Tr) : Prop :=
  ∃ bl off x y z, a = ⟨bl, off, none⟩ ∧ S bl ∧ w.cell? ⟨bl, off, none⟩ = some x ∧ w.cell? ⟨bl, off + 1, none⟩ = some y ∧ w.cell? ⟨bl, off + 2, none⟩ = some z ∧ TrOn w S t x y z
theorem LiesAt.uniq {w : World} {S S' : Nat → Prop} {a : Addr} {t t' : Tr} (h : LiesAt w S a t) (h' : LiesAt w S' a t') : t = t' := by
  obtain ⟨bl, off, x, y, z, rfl, -, hx, hy, hz, ht⟩ := h
  obtain ⟨bl', off', x', y', z', e, -, hx', hy', hz', ht'⟩ := h'
  simp only [Addr.mk.injEq] at e
  obtain ⟨rfl, rfl, -⟩ := e
  rw [hx] at hx'
  rw [hy] at hy'
  rw [hz] at hz'
  cases hx'
  cases hy'
  cases hz'
  exact TrOn.uniq t t' x y z ht ht'
theorem LiesAt.plain {w w' : World} {a : Addr} {t : Tr} (h : LiesAt w (Pl w) a t) (hb : Below w.heap.size w w') : PlainAt w' a := by
  obtain ⟨bl, off, x, y, z, rfl, hp, -⟩ := h
  exact (hp.next hb).2
/-- element i of a row, as a node -/
theorem RowOn.liesAt {w : World} {S : Nat → Prop} {bl off i : Nat} {ks : List Tr} (hi : i < ks.length) (hS : S bl) (h : RowOn w S bl off ks) : LiesAt w S ⟨bl, off + i * 3, none⟩ ks[i] := by
  obtain ⟨a, b, c, ha, hb, hc, ht⟩ := RowOn.at ks off i hi h
  exact ⟨bl, off + i * 3, a, b, c, rfl, hS, ha, hb, hc, ht⟩

/-- the function of nested applications, and its arguments -/
def unwT : Tr → List Tr → Tr × List Tr
  | .node o n [f, x], acc => if o = 4 then unwT f (x :: acc) else (.node o n [f, x], acc)
  | t, acc => (t, acc)
termination_by t => SizeOf.sizeOf t
decreasing_by simp_wf; omega

theorem unwT_app {t f x : Tr} (ho : t.op = 4) (hk : t.kids = [f, x]) (acc : List Tr) : unwT t acc = unwT f (x :: acc) := by
  cases t with
  | node o n ks =>
    simp only [Tr.op_node, Tr.kids_node] at ho hk
    subst ho
    subst hk
    rw [unwT, if_pos rfl]
theorem unwT_stop {t : Tr} (h : ¬ (t.op = 4 ∧ t.kids.length = 2)) (acc : List Tr) : unwT t acc = (t, acc) := by
  cases t with
  | node o n ks =>
    simp only [Tr.op_node, Tr.kids_node] at h
    match ks, h with
    | [], _ => rw [unwT]; intro o' n' f' x' h'; cases h'
    | [a], _ => rw [unwT]; intro o' n' f' x' h'; cases h'
    | [a, b], h =>
      rw [unwT, if_neg]
      intro e
      exact h ⟨e, by simp⟩
    | a :: b :: c :: l, _ => rw [unwT]; intro o' n' f' x' h'; cases h'

/-- an argument with its three cells -/
abbrev Cd := Tr × Value × Value × Value
/-- the way down nested applications, from a tree and its operands' slice: where it stands, and the arguments met, in order -/
inductive Unw (w : World) (a : Tr) (c : Value) : Tr → Value → List Cd → Prop
  | here : Unw w a c a c []
  | down {t f x : Tr} {ct cf u v r : Value} {l : List Cd} {bl off cap : Nat} : Unw w a c t ct l → t.op = 4 → t.kids = [f, x] → ct = .slice (some ⟨bl, off, none⟩) 2 cap →
      w.cell? ⟨bl, off + 2, none⟩ = some cf → w.cell? ⟨bl, off + 3, none⟩ = some u → w.cell? ⟨bl, off + 4, none⟩ = some v → w.cell? ⟨bl, off + 5, none⟩ = some r → Unw w a c f cf (l ++ [(x, u, v, r)])

theorem Unw.unw {w : World} {a t : Tr} {c ct : Value} {l : List Cd} (h : Unw w a c t ct l) : unwT a [] = unwT t (l.map (·.1)).reverse := by
  induction h with
  | here => rfl
  | down h ho hk _ _ _ _ _ ih => rw [ih, unwT_app ho hk]; simp

/-- two operands, in their cells -/
theorem KidsOn.two {w : World} {S : Nat → Prop} {f x : Tr} {c : Value} (h : KidsOn w S [f, x] c) : ∃ bl off cap a b cf u v r, c = .slice (some ⟨bl, off, none⟩) 2 cap ∧ 2 ≤ cap ∧ cap ≤ maxLen ∧ S bl ∧ RowOn w S bl off [f, x] ∧
    w.cell? ⟨bl, off, none⟩ = some a ∧ w.cell? ⟨bl, off + 1, none⟩ = some b ∧ w.cell? ⟨bl, off + 2, none⟩ = some cf ∧ TrOn w S f a b cf ∧
    w.cell? ⟨bl, off + 3, none⟩ = some u ∧ w.cell? ⟨bl, off + 4, none⟩ = some v ∧ w.cell? ⟨bl, off + 5, none⟩ = some r ∧ TrOn w S x u v r := by
  obtain ⟨ad, cap, rfl, l1, l2, h⟩ := h
  rcases h with h | ⟨bl, off, rfl, hs, hr⟩
  · simp at h
  obtain ⟨a, b, cf, h0, h1, h2, h3⟩ := RowOn.at _ off 0 (by simp) hr
  obtain ⟨u, v, r, g0, g1, g2, g3⟩ := RowOn.at _ off 1 (by simp) hr
  simp only [Nat.zero_mul, Nat.add_zero, Nat.one_mul, List.getElem_cons_zero, List.getElem_cons_succ, Nat.add_assoc] at h0 h1 h2 h3 g0 g1 g2 g3
  exact ⟨bl, off, cap, a, b, cf, u, v, r, rfl, l1, l2, hs, hr, h0, h1, h2, h3, g0, g1, g2, g3⟩

theorem Unw.on {w : World} {S : Nat → Prop} {a t : Tr} {c ct : Value} {l : List Cd} (h : Unw w a c t ct l) (hc : KidsOn w S a.kids c) (ha : I64 a.op ∧ I64 a.num) :
    KidsOn w S t.kids ct ∧ I64 t.op ∧ I64 t.num ∧ (∀ d ∈ l, TrOn w S d.1 d.2.1 d.2.2.1 d.2.2.2) ∧ szT t + l.length ≤ szT a := by
  induction h with
  | here => exact ⟨hc, ha.1, ha.2, by simp, by simp⟩
  | @down t f x ct cf u v r l bl off cap h ho hk hct hcf hu hv hr ih =>
    obtain ⟨i1, i2, i3, i4, i5⟩ := ih
    rw [hk] at i1
    obtain ⟨bl', off', cap', p, q, cf', u', v', r', e, -, -, -, -, h0, h1, h2, h3, g0, g1, g2, g3⟩ := i1.two
    rw [hct] at e
    simp only [Value.slice.injEq, Option.some.injEq, Addr.mk.injEq] at e
    obtain ⟨⟨rfl, rfl, -⟩, -, rfl⟩ := e
    rw [hcf] at h2
    rw [hu] at g0
    rw [hv] at g1
    rw [hr] at g2
    cases h2
    cases g0
    cases g1
    cases g2
    have h4 := trOn_iff.1 h3
    refine ⟨h4.2.2.2.2, h4.2.2.1, h4.2.2.2.1, fun d hd => ?_, ?_⟩
    · simp only [List.mem_append, List.mem_singleton] at hd
      rcases hd with hd | rfl
      · exact i4 d hd
      · exact g3
    · have e1 : szT t = szL [f, x] := by rw [szT_eq, hk]
      simp only [szL, List.length_append, List.length_cons, List.length_nil] at e1 ⊢
      omega
end Go.Proofs.Ytglpehelmlehiaa
/-
  WHICH VARIABLES AN EXPRESSION NEEDS, as plain functions on trees: evaluation over two points.
-/
namespace Go.Proofs.Ytglpehelmlehiaa
set_option linter.unusedVariables false
set_option linter.unusedSimpArgs false
open Go.RowKit

/-- does a call of function n need it, whose arguments do as bs says? -/
def callB (need : List (List Bool)) (n : Int) (bs : List Bool) : Bool :=
  decide (0 ≤ n) && match need[n.toNat]? with
    | none => false
    | some row => decide (row.length ≤ bs.length) && (row.zip bs).any fun p => p.1 && p.2
/-- .. and a tree, to which so many arguments are applied -/
def needG (need : List (List Bool)) (v : Int) : Tr → List Bool → Bool
  | .node o n [], acc => if o = 1 then decide (n = v) else if o = 3 then callB need n acc else false
  | .node o n [a], acc => if o = 6 ∨ o = 7 then needG need v a [] else false
  | .node o n [a, b], acc => if o = 4 then needG need v a (needG need v b [] :: acc) else if o = 8 ∨ o = 9 then needG need v a [] || needG need v b [] else false
  | .node o n [a, b, c], acc => if o = 10 then needG need v a [] || (needG need v b [] && needG need v c []) else false
  | _, _ => false
termination_by t => SizeOf.sizeOf t
decreasing_by all_goals (simp_wf; omega)
/-- does a tree need a variable? -/
def needB (need : List (List Bool)) (v : Int) (t : Tr) : Bool := needG need v t []

section
variable {need : List (List Bool)} {v : Int}
theorem needG_leaf {t : Tr} (hk : t.kids = []) (acc : List Bool) : needG need v t acc = if t.op = 1 then decide (t.num = v) else if t.op = 3 then callB need t.num acc else false := by
  cases t with
  | node o n ks => simp only [Tr.kids_node] at hk; subst hk; rw [needG]; rfl
theorem needG_one {t a : Tr} (hk : t.kids = [a]) (acc : List Bool) : needG need v t acc = if t.op = 6 ∨ t.op = 7 then needB need v a else false := by
  cases t with
  | node o n ks => simp only [Tr.kids_node] at hk; subst hk; rw [needG]; rfl
theorem needG_two {t a b : Tr} (hk : t.kids = [a, b]) (acc : List Bool) : needG need v t acc = if t.op = 4 then needG need v a (needB need v b :: acc) else if t.op = 8 ∨ t.op = 9 then needB need v a || needB need v b else false := by
  cases t with
  | node o n ks => simp only [Tr.kids_node] at hk; subst hk; rw [needG]; rfl
theorem needG_three {t a b c : Tr} (hk : t.kids = [a, b, c]) (acc : List Bool) : needG need v t acc = if t.op = 10 then needB need v a || (needB need v b && needB need v c) else false := by
  cases t with
  | node o n ks => simp only [Tr.kids_node] at hk; subst hk; rw [needG]; rfl
theorem needG_more {t a b c d : Tr} {l : List Tr} (hk : t.kids = a :: b :: c :: d :: l) (acc : List Bool) : needG need v t acc = false := by
  cases t with
  | node o n ks =>
    simp only [Tr.kids_node] at hk; subst hk
    rw [needG]
    all_goals (intros; rename_i h; cases h)

theorem needG_unw : ∀ (n : Nat) (t : Tr) (acc : List Tr), szT t ≤ n → needG need v t (acc.map (needB need v)) = needG need v (unwT t acc).1 ((unwT t acc).2.map (needB need v)) := by
  intro n
  induction n with
  | zero =>
    intro t acc hz
    rw [unwT_stop]
    rintro ⟨-, hl⟩
    rw [szT_eq, szL_sum] at hz
    omega
  | succ n ih =>
    intro t acc hz
    by_cases h : t.op = 4 ∧ t.kids.length = 2
    · obtain ⟨f, x, hk⟩ : ∃ f x, t.kids = [f, x] := by
        match hks : t.kids, h.2 with
        | [f, x], _ => exact ⟨f, x, rfl⟩
      rw [unwT_app h.1 hk, needG_two hk, if_pos h.1]
      refine ih f (x :: acc) ?_
      rw [szT_eq, hk] at hz
      simp only [szL] at hz
      omega
    · rw [unwT_stop h]
theorem needB_unw (t : Tr) : needB need v t = needG need v (unwT t []).1 ((unwT t []).2.map (needB need v)) := needG_unw _ t [] (Nat.le_refl _)
/-- arguments matter to functions only -/
theorem needG_acc {t : Tr} (h3 : t.op ≠ 3) (h4 : ¬ (t.op = 4 ∧ t.kids.length = 2)) (acc : List Bool) : needG need v t acc = needB need v t := by
  unfold needB
  match hk : t.kids with
  | [] => rw [needG_leaf hk, needG_leaf hk, if_neg h3, if_neg h3]
  | [a] => rw [needG_one hk, needG_one hk]
  | [a, b] =>
    have h4' : t.op ≠ 4 := fun e => h4 ⟨e, by rw [hk]; rfl⟩
    rw [needG_two hk, needG_two hk, if_neg h4', if_neg h4']
  | [a, b, c] => rw [needG_three hk, needG_three hk]
  | a :: b :: c :: d :: l => rw [needG_more hk, needG_more hk]
end

/-! ### The call -/
/-- what the first arguments say -/
def anyTo (row bs : List Bool) (k : Nat) : Bool := ((row.take k).zip (bs.take k)).any fun p => p.1 && p.2
theorem anyTo_zero (row bs : List Bool) : anyTo row bs 0 = false := rfl
theorem anyTo_succ (row bs : List Bool) (k : Nat) (h : k < row.length) (h' : k < bs.length) : anyTo row bs (k + 1) = (anyTo row bs k || (row[k] && bs[k])) := by
  unfold anyTo
  rw [List.take_succ_eq_append_getElem h, List.take_succ_eq_append_getElem h', List.zip_append (by simp; omega), List.any_append]
  simp
theorem anyTo_all (row bs : List Bool) (h : row.length ≤ bs.length) : anyTo row bs row.length = (row.zip bs).any fun p => p.1 && p.2 := by
  unfold anyTo
  rw [List.take_length]
  congr 1
  conv => rhs; rw [← List.take_append_drop row.length bs]
  conv => rhs; lhs; rw [← List.append_nil row]
  rw [List.zip_append (by simp; omega)]
  simp
theorem anyTo_true (row bs : List Bool) (k : Nat) (h : k < row.length) (h' : k < bs.length) (hl : row.length ≤ bs.length) (ha : row[k] = true) (hb : bs[k] = true) : ((row.zip bs).any fun p => p.1 && p.2) = true := by
  rw [List.any_eq_true]
  refine ⟨(row[k], bs[k]), ?_, by simp [ha, hb]⟩
  have : k < (row.zip bs).length := by simp; omega
  have e : (row.zip bs)[k] = (row[k], bs[k]) := by simp
  rw [← e]
  exact List.getElem_mem this
theorem callB_none {need : List (List Bool)} {k : Nat} {bs : List Bool} (h : need.length ≤ k) : callB need (k : Int) bs = false := by
  unfold callB
  rw [Int.toNat_natCast, List.getElem?_eq_none h]
  simp
theorem callB_few {need : List (List Bool)} {k : Nat} {bs : List Bool} (h : k < need.length) (hl : bs.length < need[k].length) : callB need (k : Int) bs = false := by
  unfold callB
  rw [Int.toNat_natCast, List.getElem?_eq_getElem h]
  simp only [decide_eq_false (show ¬ need[k].length ≤ bs.length by omega), Bool.false_and, Bool.and_false]
theorem callB_some {need : List (List Bool)} {k : Nat} {bs : List Bool} (h : k < need.length) (hl : need[k].length ≤ bs.length) : callB need (k : Int) bs = ((need[k].zip bs).any fun p => p.1 && p.2) := by
  unfold callB
  rw [Int.toNat_natCast, List.getElem?_eq_getElem h]
  simp only [decide_eq_true hl, Bool.true_and, decide_eq_true (show (0 : Int) ≤ (k : Int) by omega)]
end Go.Proofs.Ytglpehelmlehiaa
/-
  EXPRESSIONS OF A VALID SHAPE, with any of the variables and functions that there can be: their parts, and the way down nested applications.
-/
namespace Go.Proofs.Ytglpehelmlehiaa
set_option linter.unusedVariables false
set_option linter.unusedSimpArgs false
open Go.RowKit

/-- of a valid shape -/
def ShE (t : Tr) : Prop := ∃ d, shB 4 6 d t = true
theorem ShE.of_sh {t : Tr} {vars defs : Int} {d : Nat} (h : shB vars defs d t = true) (hv : vars ≤ 4) (hd : defs ≤ 6) : ShE t := ⟨d, shB_mono hv hd d t h⟩
theorem ShE.of_valid {t : Tr} {vars defs : Int} (h : validB t vars defs = true) : ShE t := by
  unfold validB at h
  simp only [Bool.and_eq_true, decide_eq_true_eq] at h
  exact ShE.of_sh h.2.1 h.1.2.1 h.1.2.2.2
theorem ShE.kid {t : Tr} (h : ShE t) {k : Tr} (hk : k ∈ t.kids) : ShE k := by
  obtain ⟨d, h⟩ := h
  cases d with
  | zero => simp [shB] at h
  | succ d =>
    unfold shB at h
    simp only [Bool.and_eq_true, List.all_eq_true] at h
    exact ⟨d, h.2 k hk⟩
theorem ShE.ar {t : Tr} (h : ShE t) : (t.kids.length : Int) = arity t.op := by
  obtain ⟨d, h⟩ := h
  cases d with
  | zero => simp [shB] at h
  | succ d =>
    unfold shB at h
    simp only [Bool.and_eq_true, decide_eq_true_eq] at h
    exact h.1.1
theorem ShE.num {t : Tr} (h : ShE t) (ho : t.op = 3) : 0 ≤ t.num ∧ t.num < 6 := by
  obtain ⟨d, h⟩ := h
  cases d with
  | zero => simp [shB] at h
  | succ d =>
    unfold shB at h
    simp only [Bool.and_eq_true] at h
    have h2 := h.1.2
    unfold ownB at h2
    rw [if_neg (by omega), if_neg (by omega), if_pos ho] at h2
    simpa using h2
/-- which kinds there are, and how many operands -/
theorem ShE.cases {t : Tr} (h : ShE t) : ((t.op = 1 ∨ t.op = 2 ∨ t.op = 3) ∧ t.kids = []) ∨ ((t.op = 6 ∨ t.op = 7) ∧ ∃ a, t.kids = [a]) ∨ ((t.op = 4 ∨ t.op = 5 ∨ t.op = 8 ∨ t.op = 9) ∧ ∃ a b, t.kids = [a, b]) ∨ (t.op = 10 ∧ ∃ a b c, t.kids = [a, b, c]) := by
  have ha := h.ar
  unfold arity at ha
  split at ha
  · rename_i ho
    exact Or.inl ⟨ho, List.eq_nil_of_length_eq_zero (by omega)⟩
  split at ha
  · rename_i ho
    refine Or.inr (Or.inl ⟨ho, ?_⟩)
    match hk : t.kids, ha with
    | [a], _ => exact ⟨a, rfl⟩
  split at ha
  · rename_i ho
    refine Or.inr (Or.inr (Or.inl ⟨ho, ?_⟩))
    match hk : t.kids, ha with
    | [a, b], _ => exact ⟨a, b, rfl⟩
  split at ha
  · rename_i ho
    refine Or.inr (Or.inr (Or.inr ⟨ho, ?_⟩))
    match hk : t.kids, ha with
    | [a, b, c], _ => exact ⟨a, b, c, rfl⟩
  · omega
theorem Unw.shE {w : World} {a t : Tr} {c ct : Value} {l : List Cd} (h : Unw w a c t ct l) (ha : ShE a) : ShE t ∧ ∀ d ∈ l, ShE d.1 := by
  induction h with
  | here => exact ⟨ha, by simp⟩
  | down h ho hk _ _ _ _ _ ih =>
    refine ⟨ih.1.kid (by rw [hk]; simp), fun d hd => ?_⟩
    simp only [List.mem_append, List.mem_singleton] at hd
    rcases hd with hd | rfl
    · exact ih.2 d hd
    · exact ih.1.kid (by rw [hk]; simp)
/-- below nested applications everything is smaller -/
theorem Unw.small {w : World} {a t : Tr} {c ct : Value} {l : List Cd} (h : Unw w a c t ct l) : (t = a ∧ l = []) ∨ (szT t < szT a ∧ ∀ d ∈ l, szT d.1 < szT a) := by
  induction h with
  | here => exact Or.inl ⟨rfl, rfl⟩
  | @down t f x ct cf u v r l bl off cap h ho hk _ _ _ _ _ ih =>
    have e1 : szT t = szL [f, x] := by rw [szT_eq, hk]
    simp only [szL] at e1
    refine Or.inr ⟨?_, fun d hd => ?_⟩
    · rcases ih with ⟨rfl, -⟩ | ⟨h1, -⟩ <;> omega
    · simp only [List.mem_append, List.mem_singleton] at hd
      rcases hd with hd | rfl
      · rcases ih with ⟨-, rfl⟩ | ⟨-, h2⟩
        · simp at hd
        · exact h2 d hd
      · show szT x < szT a
        rcases ih with ⟨rfl, -⟩ | ⟨h1, -⟩ <;> omega
end Go.Proofs.Ytglpehelmlehiaa
/-
  THE LAWS' OWN COPY OF AN ARGUMENT (toExpr, toExprS): the same trees, in new memory; nothing that was there is changed.
-/
namespace Go.Proofs.Ytglpehelmlehiaa
set_option linter.unusedVariables false
set_option linter.unusedSimpArgs false
open Go.RowKit

/-- blocks from lo on, below hi -/
def Btw (lo hi : Nat) : Nat → Prop := fun k => lo ≤ k ∧ k < hi
theorem KidsOn.btw_in {w : World} {lo : Nat} {ks : List Tr} {c : Value} (h : KidsOn w (Btw lo w.heap.size) ks c) : In w ks c :=
  h.mono (fun _ hk => hk.2) (fun _ _ => rfl)
theorem KidsOn.btw_next {w w' : World} {lo : Nat} {ks : List Tr} {c : Value} (h : KidsOn w (Btw lo w.heap.size) ks c) (hb : Below w.heap.size w w') : KidsOn w' (Btw lo w'.heap.size) ks c :=
  h.mono (fun _ hk => ⟨hk.1, Nat.lt_of_lt_of_le hk.2 hb.size⟩) (fun k hk => hb.block k hk.2)

/-- a call has handed back these trees in new memory -/
def NewKids (ks : List Tr) (w : World) (e : Ending) (w' : World) : Prop := ∃ v, e = .returned v ∧ KidsOn w' (Btw w.heap.size w'.heap.size) ks v ∧ Below w.heap.size w w'
/-- .. one tree -/
def NewTr (o n : Int) (ks : List Tr) (w : World) (e : Ending) (w' : World) : Prop := ∃ v, e = .returned (.agg #[.int .i64 o, .int .i64 n, v]) ∧ KidsOn w' (Btw w.heap.size w'.heap.size) ks v ∧ Below w.heap.size w w'

theorem infoE : (Try.prog.info? 32).map (fun i => (i.zero, i.size, i.bytes)) = some (some (.agg #[.int .i64 0, .int .i64 0, .slice none 0 0]), 3, 40) := by kernel_rfl

/-- make, of so many expressions: a new row of cells -/
theorem make_exprs (n : Nat) (h : n ≤ 1048576) : ∃ C : Array Value, C.size = n * 3 ∧ ∀ w : World, (Instr.makeSlice 30 (.int .i64 (n : Int)) (.int .i64 (n : Int))).run Try.prog w = .ok (.slice (some ⟨w.heap.size, 0, none⟩) n n) (w.alloc (.cells C 32)) := by
  obtain ⟨i, hi, hzz⟩ := Option.map_eq_some_iff.1 infoE
  simp only [Prod.mk.injEq] at hzz
  obtain ⟨hz, hs, hb⟩ := hzz
  refine ⟨madeCells (Value.agg #[.int .i64 0, .int .i64 0, .slice none 0 0]).cells (n * 3), size_madeCells _ _, fun w => ?_⟩
  have hr := run_make (P := Try.prog) w 30 32 i _ Try.underlying30 hi hz .i64 .i64 n n (by omega) (Int.le_refl _) (by rw [hb]; omega) (by omega)
  simp only [Int.toNat_natCast, hs] at hr
  exact hr

/-- what holds of the copy of a list behind k rounds -/
def ToRel (ks : List Tr) (w : World) (k : Nat) (wr : World) : Prop :=
  ∃ f : Nat → Value, wr.rowIs w.heap.size 32 (ks.length * 3) f ∧ (∀ j (_ : j < k) (hj : j < ks.length), TrOn wr (Btw (w.heap.size + 1) wr.heap.size) ks[j] (f (j * 3)) (f (j * 3 + 1)) (f (j * 3 + 2))) ∧ Below w.heap.size w wr

theorem toRel_start (ks : List Tr) (w : World) (C : Array Value) (h : C.size = ks.length * 3) : ToRel ks w 0 (w.alloc (.cells C 32)) := by
  refine ⟨fun i => C.getD i undef, ⟨C, Deep.blk_alloc_new _ _, h, fun i hi => ?_⟩, fun j hj => absurd hj (by omega), (Below.refl _ _).alloc (Nat.le_refl _) _⟩
  simp [Array.getElem?_eq_getElem (h ▸ hi : i < C.size), Array.getD, (h ▸ hi : i < C.size)]

theorem toRel_step (ks : List Tr) (w wr w1 : World) (k : Nat) (hk : k < ks.length) (h : ToRel ks w k wr) (v : Value) (hb : Below wr.heap.size wr w1) (hv : KidsOn w1 (Btw wr.heap.size w1.heap.size) (ks[k]).kids v) (ho : I64 (ks[k]).op) (hn : I64 (ks[k]).num) :
    ToRel ks w (k + 1) (((w1.setCell ⟨w.heap.size, k * 3, none⟩ (.int .i64 (ks[k]).op)).setCell ⟨w.heap.size, k * 3 + 1, none⟩ (.int .i64 (ks[k]).num)).setCell ⟨w.heap.size, k * 3 + 2, none⟩ v) := by
  obtain ⟨f, hr, ht, hbw⟩ := h
  have hlt := hr.lt
  have hr1 : w1.rowIs w.heap.size 32 (ks.length * 3) f := hr.of_block (hb.block _ hlt)
  have hsz := hb.size
  have keep : ∀ (t : Tr) (a b c : Value), TrOn w1 (Btw (w.heap.size + 1) w1.heap.size) t a b c → TrOn (((w1.setCell ⟨w.heap.size, k * 3, none⟩ (.int .i64 (ks[k]).op)).setCell ⟨w.heap.size, k * 3 + 1, none⟩ (.int .i64 (ks[k]).num)).setCell ⟨w.heap.size, k * 3 + 2, none⟩ v) (Btw (w.heap.size + 1) w1.heap.size) t a b c :=
    fun t a b c g => ((g.setCell (by simp [Btw] <;> omega) _).setCell (by simp [Btw] <;> omega) _).setCell (by simp [Btw] <;> omega) _
  have hs3 : k * 3 + 2 < ks.length * 3 := by omega
  refine ⟨_, ((hr1.set (k * 3) _).set (k * 3 + 1) _).set (k * 3 + 2) _, fun j hj hjl => ?_, ?_⟩
  · simp only [size_setCell]
    by_cases hjk : j = k
    · subst hjk
      have : TrOn w1 (Btw (w.heap.size + 1) w1.heap.size) ks[j] (.int .i64 (ks[j]).op) (.int .i64 (ks[j]).num) v := trOn_iff.2 ⟨rfl, rfl, ho, hn, hv.mono (fun k hk => ⟨by have := hk.1; omega, hk.2⟩) (fun _ _ => rfl)⟩
      simpa using keep _ _ _ _ this
    · have h0 := ht j (by omega) hjl
      have h1 : TrOn w1 (Btw (w.heap.size + 1) w1.heap.size) ks[j] (f (j * 3)) (f (j * 3 + 1)) (f (j * 3 + 2)) := h0.mono (fun k hk => ⟨hk.1, by have := hk.2; omega⟩) (fun k hk => hb.block k hk.2)
      have h2 := keep _ _ _ _ h1
      have e1 : ∀ m, m < 3 → j * 3 + m ≠ k * 3 + 2 ∧ j * 3 + m ≠ k * 3 + 1 ∧ j * 3 + m ≠ k * 3 := fun m hm => by omega
      have a0 := e1 0 (by omega)
      have a1 := e1 1 (by omega)
      have a2 := e1 2 (by omega)
      simp only [Nat.add_zero] at a0
      simpa [a0, a1, a2] using h2
  · exact (((hbw.trans (hb.mono (Nat.le_of_lt hlt))).setCell (by simp) _).setCell (by simp) _).setCell (by simp) _

theorem toRel_end (ks : List Tr) (w wr : World) (h : ToRel ks w ks.length wr) (hl : ks.length ≤ 1048576) : NewKids ks w (.returned (.slice (some ⟨w.heap.size, 0, none⟩) ks.length ks.length)) wr := by
  obtain ⟨f, hr, ht, hbw⟩ := h
  have hlt := hr.lt
  refine ⟨_, rfl, ⟨_, _, rfl, Nat.le_refl _, by unfold maxLen; omega, Or.inr ⟨_, _, rfl, ⟨Nat.le_refl _, hlt⟩, RowOn.of _ _ fun i hi => ?_⟩⟩, hbw⟩
  refine ⟨f (i * 3), f (i * 3 + 1), f (i * 3 + 2), ?_, ?_, ?_, (ht i hi hi).mono (fun k hk => ⟨by have := hk.1; omega, hk.2⟩) (fun _ _ => rfl)⟩
  · simpa using hr.cell (i := i * 3) (by omega)
  · simpa [Nat.zero_add] using hr.cell (i := i * 3 + 1) (by omega)
  · simpa [Nat.zero_add] using hr.cell (i := i * 3 + 2) (by omega)

end Go.Proofs.Ytglpehelmlehiaa
/-
  THE MODEL's PARSER, as plain functions on bytes.
-/
namespace Go.Proofs.Ytglpehelmlehiaa
set_option linter.unusedVariables false
set_option linter.unusedSimpArgs false
open Go.RowKit

/-- byte i of a text -/
def bN (s : ByteArray) (i : Nat) : Nat := if h : i < s.size then (s[i]'h).toNat else 0
theorem bN_at {s : ByteArray} {i : Nat} (h : i < s.size) : (s[i]'h).toNat = bN s i := by unfold bN; rw [dif_pos h]
theorem bN_lt (s : ByteArray) (i : Nat) : bN s i < 256 := by
  unfold bN
  split
  · exact UInt8.toNat_lt _
  · omega
/-- does a byte stand at a place? -/
def isAtB (s : ByteArray) (at' : Int) (c : Nat) : Bool := decide (0 ≤ at') && (decide (at' < s.size) && decide (bN s at'.toNat = c))
/-- a number's digits, at most so many: the number, and the place behind them -/
def numE (s : ByteArray) : Nat → Nat → Nat → Nat × Nat
  | 0, e, n => (n, e)
  | k + 1, e, n => if e < s.size ∧ 48 ≤ bN s e ∧ bN s e ≤ 57 then numE s k (e + 1) (n * 10 + (bN s e - 48)) else (n, e)
abbrev nilT : Tr := .node 0 0 []
/-- operands, each in front of a byte -/
def restT (p : Int → Tr × Int) (s : ByteArray) : List Nat → Int → List Tr → List Tr × Int
  | [], at', out => (out, at')
  | c :: cs, at', out => if isAtB s (p at').2 c = true then restT p s cs ((p at').2 + 1) (out ++ [(p at').1]) else ([], -1)
/-- which operation a byte says -/
def opAtT (s : ByteArray) (at' : Int) : Int := if isAtB s at' 32 = true then 4 else if isAtB s at' 43 = true then 8 else if isAtB s at' 45 = true then 9 else 0
/-- two operands in brackets -/
def binT (p : Int → Tr × Int) (s : ByteArray) (at' : Int) : Tr × Int :=
  if opAtT s (p at').2 = 0 then (nilT, -1)
  else if isAtB s (p ((p at').2 + 1)).2 41 = true then (.node (opAtT s (p at').2) 0 [(p at').1, (p ((p at').2 + 1)).1], (p ((p at').2 + 1)).2 + 1)
  else (nilT, -1)
/-- an expression at a place: the tree, and the place behind it, or -1 -/
def parseT (s : ByteArray) : Nat → Int → Tr × Int
  | 0, _ => (nilT, -1)
  | d + 1, at' =>
    if at' < 0 ∨ (s.size : Int) ≤ at' then (nilT, -1)
    else if 97 ≤ bN s at'.toNat ∧ bN s at'.toNat ≤ 122 then (.node 1 ((bN s at'.toNat : Int) - 97) [], at' + 1)
    else if 65 ≤ bN s at'.toNat ∧ bN s at'.toNat ≤ 90 then (.node 3 ((bN s at'.toNat : Int) - 65) [], at' + 1)
    else if 48 ≤ bN s at'.toNat ∧ bN s at'.toNat ≤ 57 then (.node 2 (numE s 4 at'.toNat 0).1 [], (numE s 4 at'.toNat 0).2)
    else if bN s at'.toNat = 126 then (.node 6 0 [(parseT s d (at' + 1)).1], (parseT s d (at' + 1)).2)
    else if bN s at'.toNat = 94 then (.node 7 0 [(parseT s d (at' + 1)).1], (parseT s d (at' + 1)).2)
    else if bN s at'.toNat = 60 then (.node 5 0 (restT (parseT s d) s [44, 62] (at' + 1) []).1, (restT (parseT s d) s [44, 62] (at' + 1) []).2)
    else if bN s at'.toNat = 91 then (.node 10 0 (restT (parseT s d) s [63, 58, 93] (at' + 1) []).1, (restT (parseT s d) s [63, 58, 93] (at' + 1) []).2)
    else if bN s at'.toNat = 40 then binT (parseT s d) s (at' + 1)
    else (nilT, -1)

/-- the place is none or in the text, the node's numbers are small -/
def PRng (s : ByteArray) (r : Tr × Int) : Prop := (-1 ≤ r.2 ∧ r.2 ≤ s.size) ∧ (0 ≤ r.1.op ∧ r.1.op ≤ 10) ∧ (0 ≤ r.1.num ∧ r.1.num ≤ 9999999)
theorem isAtB_rng {s : ByteArray} {a : Int} {c : Nat} (h : isAtB s a c = true) : 0 ≤ a ∧ a < s.size := by
  unfold isAtB at h
  simp only [Bool.and_eq_true, decide_eq_true_eq] at h
  exact ⟨h.1, h.2.1⟩
theorem numE_rng (s : ByteArray) : ∀ (k e n : Nat), e ≤ s.size → (numE s k e n).2 ≤ s.size ∧ e ≤ (numE s k e n).2 ∧ (numE s k e n).1 ≤ n * 10 ^ k + 10 ^ k
  | 0, e, n, h => by simp [numE, h]
  | k + 1, e, n, h => by
    unfold numE
    have hb := bN_lt s e
    split
    · rename_i hc
      have := numE_rng s k (e + 1) (n * 10 + (bN s e - 48)) (by omega)
      refine ⟨this.1, by omega, Nat.le_trans this.2.2 ?_⟩
      have h9 : bN s e - 48 ≤ 9 := by omega
      have e1 : (n * 10 + (bN s e - 48)) * 10 ^ k ≤ (n * 10 + 9) * 10 ^ k := Nat.mul_le_mul_right _ (by omega)
      rw [Nat.pow_succ]
      have e2 : (n * 10 + 9) * 10 ^ k = n * (10 ^ k * 10) + 9 * 10 ^ k := by rw [Nat.add_mul, Nat.mul_assoc, Nat.mul_comm 10]
      omega
    · refine ⟨h, Nat.le_refl _, ?_⟩
      have : n ≤ n * 10 ^ (k + 1) := Nat.le_mul_of_pos_right _ (Nat.pow_pos (by omega))
      exact Nat.le_trans this (Nat.le_add_right _ _)
theorem restT_rng (p : Int → Tr × Int) (s : ByteArray) (hp : ∀ a, PRng s (p a)) : ∀ (cs : List Nat) (a : Int) (out : List Tr), -1 ≤ a → a ≤ s.size → -1 ≤ (restT p s cs a out).2 ∧ (restT p s cs a out).2 ≤ s.size
  | [], a, out, h1, h2 => by simp [restT, h1, h2]
  | c :: cs, a, out, h1, h2 => by
    unfold restT
    split
    · rename_i hc
      have := isAtB_rng hc
      exact restT_rng p s hp cs _ _ (by omega) (by omega)
    · simp
theorem opAtT_rng (s : ByteArray) (a : Int) : 0 ≤ opAtT s a ∧ opAtT s a ≤ 9 := by
  unfold opAtT
  split
  · omega
  split
  · omega
  split <;> omega
theorem binT_rng (p : Int → Tr × Int) (s : ByteArray) (hp : ∀ a, PRng s (p a)) (a : Int) : PRng s (binT p s a) := by
  have h9 := opAtT_rng s (p a).2
  unfold binT
  split
  · simp [PRng] <;> omega
  split
  · rename_i hc
    have := isAtB_rng hc
    refine ⟨⟨?_, ?_⟩, ⟨?_, ?_⟩, ?_⟩ <;> simp <;> omega
  · simp [PRng] <;> omega
theorem parseT_rng (s : ByteArray) : ∀ (d : Nat) (a : Int), PRng s (parseT s d a)
  | 0, a => by simp [PRng, parseT]
  | d + 1, a => by
    have ih := parseT_rng s d
    have hb := bN_lt s a.toNat
    unfold parseT
    split
    · simp [PRng] <;> omega
    rename_i h0
    split
    · simp [PRng] <;> omega
    split
    · simp [PRng] <;> omega
    split
    · have h4 := numE_rng s 4 a.toNat 0 (by omega)
      simp [PRng] <;> omega
    split
    · have := ih (a + 1); simp [PRng] at this ⊢; omega
    split
    · have := ih (a + 1); simp [PRng] at this ⊢; omega
    split
    · have := restT_rng (parseT s d) s ih [44, 62] (a + 1) [] (by omega) (by omega); simp [PRng] <;> omega
    split
    · have := restT_rng (parseT s d) s ih [63, 58, 93] (a + 1) [] (by omega) (by omega); simp [PRng] <;> omega
    split
    · exact binT_rng _ s ih _
    · simp [PRng] <;> omega
end Go.Proofs.Ytglpehelmlehiaa
/-
  ROWS THAT A CALL OWNS: append, with where the new row lies.
-/
namespace Go.Proofs.Ytglpehelmlehiaa
set_option linter.unusedVariables false
set_option linter.unusedSimpArgs false
open Go.RowKit

theorem cell_of_blk {w : World} {b : Nat} {C : Array Value} {T : TypeId} (h : w.heap[b]? = some (.cells C T)) (i : Nat) (v : Value) (hv : C[i]? = some v) : w.cell? ⟨b, i, none⟩ = some v := by
  simp only [World.cell?, h]; exact hv
theorem frz_of_blk {w : World} {b : Nat} {C : Array Value} {T : TypeId} (h : w.heap[b]? = some (.cells C T)) (i : Nat) : w.frozen? ⟨b, i, none⟩ = false := by
  simp [World.frozen?, h]
theorem own_keep {w w' : World} {base n size : Nat} {e : TypeId} {v : Value} {xs : List Value} (h : w.ownsRow base e size v n xs) (hk : ∀ k, base ≤ k → k < w.heap.size → w'.heap[k]? = w.heap[k]?) : w'.ownsRow base e size v n xs := by
  refine ⟨h.1, ?_⟩
  rcases h.2 with h | ⟨g, cap, cur, rfl, hg, hh, r⟩
  · exact Or.inl h
  · exact Or.inr ⟨g, cap, cur, rfl, hg, (hk g hg (Array.getElem?_eq_some_iff.1 hh).1).trans hh, r⟩
theorem own_block {w : World} {base n size : Nat} {e : TypeId} {v : Value} {xs : List Value} (h : w.ownsRow base e size v n xs) {k : Nat} (hk : some k = v.ownBlock) : base ≤ k := by
  rcases h.2 with ⟨rfl, -⟩ | ⟨g, cap, cur, rfl, hg, -⟩
  · simp [Value.ownBlock] at hk
  · simp only [Value.ownBlock, Option.some.injEq] at hk
    omega
/-- a parameter's box behind a call -/
theorem box_after {w w1 : World} {a b c : Value} {T : TypeId} (hb : Below (w.alloc (.cells #[a, b, c] T)).heap.size (w.alloc (.cells #[a, b, c] T)) w1) :
    w1.cell? ⟨w.heap.size, 0, none⟩ = some a ∧ w1.cell? ⟨w.heap.size, 1, none⟩ = some b ∧ w1.cell? ⟨w.heap.size, 2, none⟩ = some c ∧ w.heap.size < w1.heap.size ∧ Below w.heap.size w w1 := by
  have hz : w.heap.size < (w.alloc (.cells #[a, b, c] T)).heap.size := by rw [Deep.nblk_alloc]; omega
  refine ⟨(hb.cell (p := ⟨w.heap.size, 0, none⟩) hz).trans (box_cell w #[a, b, c] T 0 _ rfl), (hb.cell (p := ⟨w.heap.size, 1, none⟩) hz).trans (box_cell w #[a, b, c] T 1 _ rfl), (hb.cell (p := ⟨w.heap.size, 2, none⟩) hz).trans (box_cell w #[a, b, c] T 2 _ rfl), Nat.lt_of_lt_of_le hz hb.size, (box_below _ _).trans (hb.mono (Nat.le_of_lt hz))⟩
/-- append to an owned row: it stays in its block, or lies in a new one -/
theorem run_append_where {P : Program} (w : World) (base : Nat) (t ty e : TypeId) (i : TypeInfo) (z : Value) (size bytes : Nat) (ht : P.underlying t = some (.slice e)) (hi : P.info? e = some i) (hz : i.zero = some z)
    (hsize : i.size = size) (hby : i.bytes = bytes) (hzs : z.cells.size = size) (hsz : 0 < size)
    (v : Value) (n : Nat) (xs : List Value) (hown : w.ownsRow base e size v n xs)
    (a : Addr) (m c : Nat) (news : List Value) (hl : news.length = m * size) (hnews : ∀ j u, news[j]? = some u → w.cell? (a.add j) = some u) (h1 : ∀ u ∈ news, u.oneCell' = true)
    (h63 : n + m ≤ maxLen) (hbytes : (n + m) * bytes ≤ 140737488355328) (hbase : base ≤ w.heap.size) (hm : 0 < m) :
    ∃ v' w', (Builtin.append_ #[t, t] ty #[v, .slice (some a) m c]).run P w = .ok v' w' ∧ w'.ownsRow base e size v' (n + m) (xs ++ news) ∧ w.grownBy w' v.ownBlock ∧
      (v'.ownBlock = v.ownBlock ∨ ∃ g, v'.ownBlock = some g ∧ w.heap.size ≤ g) := by
  obtain ⟨v', w', hrun, hown', hgr, -⟩ := run_append_own (P := P) w base t ty e i z size bytes ht hi hz hsize hby hzs hsz v n xs hown a m c news hl hnews h1 h63 hbytes hbase
  refine ⟨v', w', hrun, hown', hgr, ?_⟩
  have hform := hown
  rcases hform.2 with ⟨rfl, rfl⟩ | ⟨g, cap, cur, rfl, hb, hh, hn, hc, hs, htk⟩
  · right
    obtain rfl : xs = [] := List.eq_nil_of_length_eq_zero (by simpa using hform.1)
    obtain ⟨v2, w2, hrun2, hown2, -, -⟩ := run_append_own (P := P) w w.heap.size t ty e i z size bytes ht hi hz hsize hby hzs hsz (.slice none 0 0) 0 [] (World.ownsRow_nil w _ e size) a m c news hl hnews h1 h63 hbytes (Nat.le_refl _)
    rw [hrun] at hrun2
    cases hrun2
    rcases hown2.2 with ⟨rfl, h0⟩ | ⟨g, cap, cur, rfl, hb, _⟩
    · omega
    · exact ⟨g, rfl, hb⟩
  · by_cases hroom : n + m ≤ cap
    · left
      have hcell : ∀ j, j < news.length → w.cell? ⟨g, 0 + n * i.size + j, none⟩ = cur[n * size + j]? := fun j hj => by
        rw [Nat.zero_add, hsize]; simp [World.cell?, hh]
      have hin : ∀ j, j < news.length → n * size + j < cur.size := fun j hj => by
        have h2 : (n + m) * size ≤ cap * size := Nat.mul_le_mul_right _ hroom
        rw [Nat.add_mul] at h2
        omega
      have hrun2 := run_append_room_cells (P := P) w t ty e i ht hi g 0 n cap a m c news (by rw [hsize]; exact hl) hnews h1 hroom
        (fun j hj => by rw [hcell j hj, Array.getElem?_eq_getElem (hin j hj)]; rfl) (fun j hj => by simp [World.frozen?, hh])
      rw [hrun] at hrun2
      cases hrun2
      rfl
    · right
      obtain ⟨v2, w2, hrun2, hown2, -⟩ := run_append_arg_grows (P := P) w t ty e i z size bytes ht hi hz hsize hby hzs hsz ⟨g, 0, none⟩ n cap xs hform.1
        (fun j u hu => hform.cells rfl j u hu) a m c news hl hnews (by omega) h63 hbytes
      rw [hrun] at hrun2
      cases hrun2
      rcases hown2.2 with ⟨rfl, h0⟩ | ⟨g2, cap2, cur2, rfl, hb2, _⟩
      · omega
      · exact ⟨g2, rfl, hb2⟩

/-- .. as one step of a region that draws its order -/
theorem step_append_where {P : Program} {ops : Array Oper} {o : Oper} {a : Act} {w : World} {K : Act → World → Prop} {Q : Exit → Act → World → Prop} {E : Prop}
    (hg : o.guard = none) (s x : Operand) (t : TypeId) (hop : o.op = Op.call { callee := Callee.builtin Builtin.append, args := #[s, x], argTypes := #[t, t] })
    (base : Nat) (e : TypeId) (i : TypeInfo) (z : Value) (size bytes : Nat) (ht : P.underlying t = some (.slice e)) (hi : P.info? e = some i) (hz : i.zero = some z)
    (hsize : i.size = size) (hby : i.bytes = bytes) (hzs : z.cells.size = size) (hsz : 0 < size)
    (v : Value) (n : Nat) (xs : List Value) (hs : a.eval s = v) (hown : w.ownsRow base e size v n xs)
    (ad : Addr) (m c : Nat) (news : List Value) (hx : a.eval x = .slice (some ad) m c) (hl : news.length = m * size) (hnews : ∀ j u, news[j]? = some u → w.cell? (ad.add j) = some u) (h1 : ∀ u ∈ news, u.oneCell' = true)
    (h63 : n + m ≤ maxLen) (hbytes : (n + m) * bytes ≤ 140737488355328) (hbase : base ≤ w.heap.size) (hm : 0 < m)
    (hK : ∀ v' w', w'.ownsRow base e size v' (n + m) (xs ++ news) → w.grownBy w' v.ownBlock → (v'.ownBlock = v.ownBlock ∨ ∃ g, v'.ownBlock = some g ∧ w.heap.size ≤ g) → K (a.put o.dst v') w') :
    if Region.wanted o (yielded ops a.tmps) = true then Oper.wp P o a w K Q else E := by
  have hw : Region.wanted o (yielded ops a.tmps) = true := by simp [Region.wanted, hg]
  rw [if_pos hw]
  obtain ⟨v', w', hrun, r1, r2, r3⟩ := run_append_where (P := P) w base t o.type e i z size bytes ht hi hz hsize hby hzs hsz v n xs hown ad m c news hl hnews h1 h63 hbytes hbase hm
  unfold Oper.wp
  simp [execOp, hop, resolve, invoke, builtin, hs, hx, hrun, Result.andThen]
  exact hK v' w' r1 r2 r3

end Go.Proofs.Ytglpehelmlehiaa
