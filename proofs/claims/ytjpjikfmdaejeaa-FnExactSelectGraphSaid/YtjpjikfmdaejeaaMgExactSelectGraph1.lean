/-
  TREES IN MEMORY. An expression of the program (Op, N, Kids) as a tree of numbers; what it means that a slice value of some world holds the trees of a list, its blocks out of a set S. It stays so while the blocks of S stay as they are. How such trees are had from the reading of an argument.
-/
import Derived.WalkKit
import Derived.ProofKit
import Derived.Deep.OwnRows
import Derived.Deep.Slices
import Derived.Deep.Strs
import Derived.Lib.SmallJoins
import Derived.OpenShut
import Derived.Lib.QuietBelow
import Derived.Test.YtjpjikfmdaejeaaProg
import Derived.Deep.QuietTactic
import Derived.BigQuiet
import Derived.WalkSmall
import Derived.Deep.RegionHeld3
import Derived.Deep.RegionWith
import Derived.Deep.DeepMust
import Derived.Laws.AppendOwn
import Derived.Laws.AppendOwnNone
namespace Go.Proofs.Ytjpjikfmdaejeaa
set_option linter.unusedVariables false
set_option linter.unusedSimpArgs false
open Go.RowKit

theorem mkHid {p : Prop} (h : p) : Hid p := h

inductive Tr where
  | node (op n : Int) (kids : List Tr)

namespace Tr
def op : Tr → Int | .node o _ _ => o
def num : Tr → Int | .node _ n _ => n
def kids : Tr → List Tr | .node _ _ k => k
@[simp] theorem op_node (o n : Int) (k : List Tr) : (Tr.node o n k).op = o := rfl
@[simp] theorem num_node (o n : Int) (k : List Tr) : (Tr.node o n k).num = n := rfl
@[simp] theorem kids_node (o n : Int) (k : List Tr) : (Tr.node o n k).kids = k := rfl
theorem eta (t : Tr) : t = .node t.op t.num t.kids := by cases t; rfl
end Tr
instance : Inhabited Tr := ⟨.node 0 0 []⟩

/-- a number that fits Go's int -/
def I64 (n : Int) : Prop := -9223372036854775808 ≤ n ∧ n ≤ 9223372036854775807

mutual
/-- the three cells (Op, N, Kids) of a tree -/
def TrOn (w : World) (S : Nat → Prop) : Tr → Value → Value → Value → Prop
  | .node op n ks, a, b, c => a = .int .i64 op ∧ b = .int .i64 n ∧ I64 op ∧ I64 n ∧
      ∃ ad cap, c = .slice ad ks.length cap ∧ ks.length ≤ cap ∧ cap ≤ maxLen ∧ (ks = [] ∨ ∃ bl off, ad = some ⟨bl, off, none⟩ ∧ S bl ∧ RowOn w S bl off ks)
/-- the trees of a list, one behind the other from a cell on -/
def RowOn (w : World) (S : Nat → Prop) (bl off : Nat) : List Tr → Prop
  | [] => True
  | t :: ts => (∃ a b c, w.cell? ⟨bl, off, none⟩ = some a ∧ w.cell? ⟨bl, off + 1, none⟩ = some b ∧ w.cell? ⟨bl, off + 2, none⟩ = some c ∧ TrOn w S t a b c) ∧ RowOn w S bl (off + 3) ts
end

/-- a slice value that holds the trees of a list -/
def KidsOn (w : World) (S : Nat → Prop) (ks : List Tr) (c : Value) : Prop :=
  ∃ ad cap, c = .slice ad ks.length cap ∧ ks.length ≤ cap ∧ cap ≤ maxLen ∧ (ks = [] ∨ ∃ bl off, ad = some ⟨bl, off, none⟩ ∧ S bl ∧ RowOn w S bl off ks)

theorem trOn_iff {w : World} {S : Nat → Prop} {t : Tr} {a b c : Value} : TrOn w S t a b c ↔ a = .int .i64 t.op ∧ b = .int .i64 t.num ∧ I64 t.op ∧ I64 t.num ∧ KidsOn w S t.kids c := by
  cases t; simp [TrOn, KidsOn]

mutual
theorem TrOn.mono {w w' : World} {S S' : Nat → Prop} (hS : ∀ k, S k → S' k) (hw : ∀ k, S k → w'.heap[k]? = w.heap[k]?) : ∀ (t : Tr) (a b c : Value), TrOn w S t a b c → TrOn w' S' t a b c
  | .node op n ks, a, b, c, h => by
    simp only [TrOn] at h ⊢
    obtain ⟨h1, h2, h3, h4, ad, cap, e, l1, l2, h5⟩ := h
    refine ⟨h1, h2, h3, h4, ad, cap, e, l1, l2, ?_⟩
    rcases h5 with h5 | ⟨bl, off, e, s, r⟩
    · exact Or.inl h5
    · exact Or.inr ⟨bl, off, e, hS _ s, RowOn.mono hS hw bl off ks s r⟩
theorem RowOn.mono {w w' : World} {S S' : Nat → Prop} (hS : ∀ k, S k → S' k) (hw : ∀ k, S k → w'.heap[k]? = w.heap[k]?) (bl off : Nat) : ∀ (ks : List Tr), S bl → RowOn w S bl off ks → RowOn w' S' bl off ks
  | [], _, _ => by simp [RowOn]
  | t :: ts, s, h => by
    simp only [RowOn] at h ⊢
    obtain ⟨⟨a, b, c, ha, hb, hc, ht⟩, hr⟩ := h
    refine ⟨⟨a, b, c, ?_, ?_, ?_, TrOn.mono hS hw t a b c ht⟩, RowOn.mono hS hw bl (off + 3) ts s hr⟩
    · rw [World.cell?_of_block (w := w) (hw bl s)]; exact ha
    · rw [World.cell?_of_block (w := w) (hw bl s)]; exact hb
    · rw [World.cell?_of_block (w := w) (hw bl s)]; exact hc
end

theorem KidsOn.mono {w w' : World} {S S' : Nat → Prop} {ks : List Tr} {c : Value} (h : KidsOn w S ks c) (hS : ∀ k, S k → S' k) (hw : ∀ k, S k → w'.heap[k]? = w.heap[k]?) : KidsOn w' S' ks c := by
  obtain ⟨ad, cap, e, l1, l2, h5⟩ := h
  refine ⟨ad, cap, e, l1, l2, ?_⟩
  rcases h5 with h5 | ⟨bl, off, e, s, r⟩
  · exact Or.inl h5
  · exact Or.inr ⟨bl, off, e, hS _ s, RowOn.mono hS hw bl off ks s r⟩

/-- element i of a row -/
theorem RowOn.at {w : World} {S : Nat → Prop} {bl : Nat} : ∀ (ks : List Tr) (off i : Nat) (hi : i < ks.length), RowOn w S bl off ks →
    ∃ a b c, w.cell? ⟨bl, off + i * 3, none⟩ = some a ∧ w.cell? ⟨bl, off + i * 3 + 1, none⟩ = some b ∧ w.cell? ⟨bl, off + i * 3 + 2, none⟩ = some c ∧ TrOn w S ks[i] a b c
  | [], _, _, hi, _ => by simp at hi
  | t :: ts, off, 0, _, h => by
    simp only [RowOn] at h
    simpa using h.1
  | t :: ts, off, i + 1, hi, h => by
    simp only [RowOn] at h
    have := RowOn.at ts (off + 3) i (by simpa using hi) h.2
    have e : off + 3 + i * 3 = off + (i + 1) * 3 := by omega
    rw [e] at this
    simpa using this

/-- a row from its elements -/
theorem RowOn.of {w : World} {S : Nat → Prop} {bl : Nat} : ∀ (ks : List Tr) (off : Nat),
    (∀ i (hi : i < ks.length), ∃ a b c, w.cell? ⟨bl, off + i * 3, none⟩ = some a ∧ w.cell? ⟨bl, off + i * 3 + 1, none⟩ = some b ∧ w.cell? ⟨bl, off + i * 3 + 2, none⟩ = some c ∧ TrOn w S ks[i] a b c) → RowOn w S bl off ks
  | [], _, _ => by simp [RowOn]
  | t :: ts, off, h => by
    simp only [RowOn]
    refine ⟨by have h0 := h 0 (by simp); simp only [Nat.zero_mul, Nat.add_zero, List.getElem_cons_zero] at h0; exact h0, RowOn.of ts (off + 3) fun i hi => ?_⟩
    have := h (i + 1) (by simpa using hi)
    have e : off + (i + 1) * 3 = off + 3 + i * 3 := by omega
    rw [e] at this
    simpa using this

/-- all blocks below a number -/
def Lt (B : Nat) : Nat → Prop := fun k => k < B

theorem KidsOn.below {w w' : World} {B B' : Nat} {ks : List Tr} {c : Value} (h : KidsOn w (Lt B) ks c) (hb : Below B w w') (hB : B ≤ B') : KidsOn w' (Lt B') ks c :=
  h.mono (fun k (hk : k < B) => (show k < B' by omega)) (fun k hk => hb.block k hk)

/-- a store into another block -/
theorem KidsOn.setCell {w : World} {S : Nat → Prop} {ks : List Tr} {c : Value} (h : KidsOn w S ks c) {a : Addr} (ha : ¬ S a.block) (u : Value) : KidsOn (w.setCell a u) S ks c :=
  h.mono (fun _ hk => hk) (fun k hk => Below.heap_setCell _ _ _ _ (fun e => ha (e ▸ hk)))
theorem TrOn.setCell {w : World} {S : Nat → Prop} {t : Tr} {x y z : Value} (h : TrOn w S t x y z) {a : Addr} (ha : ¬ S a.block) (u : Value) : TrOn (w.setCell a u) S t x y z :=
  h.mono (fun _ hk => hk) (fun k hk => Below.heap_setCell _ _ _ _ (fun e => ha (e ▸ hk)))
theorem size_setCell (w : World) (a : Addr) (u : Value) : (w.setCell a u).heap.size = w.heap.size := by simp [World.setCell]
theorem cell_lt {w : World} {a : Addr} {v : Value} (h : w.cell? a = some v) : a.block < w.heap.size := by
  unfold World.cell? at h
  cases hb : w.heap[a.block]? with
  | none => rw [hb] at h; simp at h
  | some o => exact (Array.getElem?_eq_some_iff.1 hb).1
/-- a cell of a block that was laid last -/
theorem box_cell (w : World) (C : Array Value) (t : TypeId) (i : Nat) (v : Value) (h : C[i]? = some v) : (w.alloc (.cells C t)).cell? ⟨w.heap.size, i, none⟩ = some v := by
  unfold World.cell?
  rw [Deep.blk_alloc_new]
  exact h
theorem old_cell {w : World} {a : Addr} {v : Value} (h : w.cell? a = some v) (o : Obj) : (w.alloc o).cell? a = some v := by
  have hlt := cell_lt h
  rw [World.cell?_of_block (w := w) (Deep.blk_alloc_lt w o a.block hlt)]
  exact h
theorem box_below (w : World) (o : Obj) : Below w.heap.size w (w.alloc o) := (Below.refl _ _).alloc (Nat.le_refl _) _
/-- a callee that makes memory at most, met within a region that draws its order -/
theorem quietB {P : Program} {f : FuncId} {args : Array Value} {w : World} {v : Value} (h : ∀ W, Below w.heap.size w W → Calls P f args W fun e w' => e = .returned v ∧ Below W.heap.size W w') (d : Nat) (os : Array Obj) :
    Calls P f args (Sort.grow (redrawn w d) os) fun e w'' => e = .returned v ∧ ∃ p : Regrown, w'' = Sort.grow (redrawn w p.d) p.os := Calls.regrown_of (h _ (below_regrown w d os))
theorem bcell {W w1 : World} (hb : Below W.heap.size W w1) : (∀ b o, b < W.heap.size → w1.cell? ⟨b, o, none⟩ = W.cell? ⟨b, o, none⟩) ∧ (∀ b o, b < W.heap.size → w1.frozen? ⟨b, o, none⟩ = W.frozen? ⟨b, o, none⟩) :=
  ⟨fun b o h => hb.cell (p := ⟨b, o, none⟩) h, fun b o h => hb.frozen (p := ⟨b, o, none⟩) h⟩
theorem ret_int {k : IntKind} {a b : Int} (h : a = b) : Ending.returned (.int k a) = .returned (.int k b) := by rw [h]
theorem ret_bool {a b : Bool} (h : a = b) : Ending.returned (.bool a) = .returned (.bool b) := by rw [h]

/-- trees that lie in a world, wherever -/
abbrev In (w : World) (ks : List Tr) (c : Value) : Prop := KidsOn w (Lt w.heap.size) ks c
theorem KidsOn.next {w w' : World} {ks : List Tr} {c : Value} (h : In w ks c) (hb : Below w.heap.size w w') : In w' ks c := h.below hb hb.size

theorem KidsOn.drew {w : World} {ks : List Tr} {c : Value} (h : In w ks c) : In w.drew ks c := h.next ((Below.refl _ _).drew)

/-! ### Down: from the reading of an argument -/
section
variable {H : Type} {enc : TypeId × Value → H} {P : Program} {w : World} {base : Nat} {spare : Nat → Bool} {held : Bool}

theorem list3 {α : Type} (l : List α) (h : l.length = 3) : ∃ a b c, l = [a, b, c] := by
  match l, h with
  | [a, b, c], _ => exact ⟨a, b, c, rfl⟩


/-- what the reading of a slice of expressions gives: it holds some trees -/
theorem open_kids {T E f0t f1t : TypeId} {f0 f1 f2 : Field} (hT : P.underlying T = some (.slice E)) (hE : P.underlying E = some (.struct #[f0, f1, f2])) (hC : P.cellsOf E = 3)
    (hone : Deep.oneCellFields P #[f0, f1, f2] = true) (e0 : f0.type = f0t) (e1 : f1.type = f1t) (e2 : f2.type = T) (h0 : P.underlying f0t = some (.int .i64)) (h1 : P.underlying f1t = some (.int .i64)) :
    ∀ (fuel : Nat) (v : Value) (x : DataW H × List MemPlace), DataW.trod enc P w base spare held fuel T [v] = some x → ∃ ks, KidsOn w (Lt w.heap.size) ks v := by
  intro fuel
  induction fuel using Nat.strongRecOn with
  | ind fuel ih =>
    intro v x h
    rcases DataW.trod_slice hT h with ⟨h0', _⟩ | ⟨a, len, cap, elems, rest, n, hfu, hv, _, hb, hl, hm, hlen, hel, _, _⟩
    · simp only [List.cons.injEq, and_true] at h0'
      exact ⟨[], none, 0, h0', by simp, by simp [maxLen], Or.inl rfl⟩
    · simp only [List.cons.injEq, and_true] at hv
      -- each element is a tree
      have key : ∀ i, i < len → ∃ t, ∃ p q r, w.cell? (a.add (i * 3)) = some p ∧ w.cell? ((a.add (i * 3)).add 1) = some q ∧ w.cell? ((a.add (i * 3)).add 2) = some r ∧ TrOn w (Lt w.heap.size) t p q r := by
        intro i hi
        have hh := hel i hi
        rw [hC] at hh
        obtain ⟨cs, hcs, hd⟩ := Option.bind_eq_some_iff.1 (hh.trans (List.getElem?_eq_getElem (by omega)))
        obtain ⟨_, hl3, hcell⟩ := World.cells?_some hcs
        obtain ⟨p, q, r, rfl⟩ := list3 cs hl3
        obtain ⟨xs, m, hm1, _, _, hxl, hf⟩ := DataW.trod_struct hE hd
        obtain ⟨y0, y1, y2, rfl⟩ := list3 xs (by simpa using hxl)
        have hp := hf 0 f0 rfl
        have hq := hf 1 f1 rfl
        have hr := hf 2 f2 rfl
        simp only [List.getElem?_cons_zero, List.getElem?_cons_succ] at hp hq hr
        obtain ⟨o0, k0⟩ := Deep.hone_of hone 0 f0 rfl
        obtain ⟨o1, k1⟩ := Deep.hone_of hone 1 f1 rfl
        obtain ⟨o2, k2⟩ := Deep.hone_of hone 2 f2 rfl
        have hp' : DataW.trod enc P w base spare held m f0t [p] = some y0 := by rw [← e0]; simpa [o0, k0] using hp
        have hq' : DataW.trod enc P w base spare held m f1t [q] = some y1 := by rw [← e1]; simpa [o1, k1] using hq
        have hr' : DataW.trod enc P w base spare held m T [r] = some y2 := by rw [← e2]; simpa [o2, k2] using hr
        obtain ⟨np, hnp, _, wp⟩ := DataW.trod_int h0 hp'
        obtain ⟨nq, hnq, _, wq⟩ := DataW.trod_int h1 hq'
        simp only [List.cons.injEq, and_true] at hnp hnq
        obtain ⟨ks, hks⟩ := ih m (by omega) r _ hr'
        have g0 := hcell 0 (by omega)
        have g1 := hcell 1 (by omega)
        have g2 := hcell 2 (by omega)
        refine ⟨.node np nq ks, p, q, r, ?_, by simpa using g1, by simpa using g2, trOn_iff.2 ⟨hnp, hnq, bounds_i64 wp, bounds_i64 wq, hks⟩⟩
        simpa [Addr.add] using g0
      subst hv
      have kf := Deep.choose_lt key
      obtain ⟨f, hfk⟩ := kf
      refine ⟨(List.range len).map f, some a, cap, by simp, by simpa using hl, hm, ?_⟩
      by_cases hz : len = 0
      · left; simp [hz]
      right
      obtain ⟨bl, off, spot⟩ := a
      obtain ⟨p, q, r, g0, _⟩ := hfk 0 (by omega)
      have hspot : spot = none := by simpa [Addr.add] using World.cell?_spot g0
      subst hspot
      refine ⟨bl, off, rfl, by have := cell_lt g0; simpa [Addr.add, Lt] using this, RowOn.of _ _ fun i hi => ?_⟩
      simp only [List.length_map, List.length_range] at hi
      obtain ⟨p, q, r, g0, g1, g2, g3⟩ := hfk i hi
      rw [WideShapes.add_plain] at g0 g1 g2
      rw [WideShapes.add_plain] at g1 g2
      exact ⟨p, q, r, g0, g1, g2, by simpa using g3⟩
end

end Go.Proofs.Ytjpjikfmdaejeaa
/-
  make, OF SO MANY INTS: a new row of zeros.
-/
namespace Go.Proofs.Ytjpjikfmdaejeaa
set_option linter.unusedVariables false
set_option linter.unusedSimpArgs false
open Go.RowKit

theorem infoI : (Try.prog.info? 3).map (fun i => (i.zero, i.size, i.bytes)) = some (some (.int .i64 0), 1, 8) := by kernel_rfl
/-- make, of so many ints: a new row of zeros -/
theorem make_ints (n : Nat) (h : n ≤ 1048576) : ∀ w : World, (Instr.makeSlice 23 (.int .i64 (n : Int)) (.int .i64 (n : Int))).run Try.prog w = .ok (.slice (some ⟨w.heap.size, 0, none⟩) n n) (w.alloc (.cells (madeCells #[.int .i64 0] n) 3)) := by
  obtain ⟨i, hi, hzz⟩ := Option.map_eq_some_iff.1 infoI
  simp only [Prod.mk.injEq] at hzz
  obtain ⟨hz, hs, hb⟩ := hzz
  intro w
  have hr := run_make (P := Try.prog) w 23 3 i _ Try.underlying23 hi hz .i64 .i64 n n (by omega) (Int.le_refl _) (by rw [hb]; omega) (by omega)
  simp only [Int.toNat_natCast, hs, Nat.mul_one] at hr
  exact hr
theorem zero_row (w : World) (n : Nat) : (w.alloc (.cells (madeCells #[.int .i64 0] n) 3)).rowIs w.heap.size 3 n (fun i => .int .i64 (((fun _ => 0 : Nat → Nat) i : Nat) : Int)) := by
  have hl : (madeCells #[.int .i64 0] n).toList = List.replicate n (.int .i64 0) := toList_madeCells_one _ _
  have hsz : (madeCells #[.int .i64 0] n).size = n := by rw [← Array.length_toList, hl, List.length_replicate]
  refine ⟨_, Deep.blk_alloc_new _ _, hsz, fun i hi => ?_⟩
  rw [← Array.getElem?_toList, hl, List.getElem?_replicate, if_pos hi]
  rfl
end Go.Proofs.Ytjpjikfmdaejeaa
/-
  SLICES OF INTS IN MEMORY; the laws' own comparison and copy of them (eqIntS, toIntS).
-/
namespace Go.Proofs.Ytjpjikfmdaejeaa
set_option linter.unusedVariables false
set_option linter.unusedSimpArgs false
open Go.RowKit

/-- a slice value that holds these numbers, its block out of S -/
def IntsOn (w : World) (S : Nat → Prop) (xs : List Int) (v : Value) : Prop :=
  ∃ ad cap, v = .slice ad xs.length cap ∧ xs.length ≤ cap ∧ cap ≤ maxLen ∧ (xs = [] ∨ ∃ bl off, ad = some ⟨bl, off, none⟩ ∧ S bl ∧ ∀ i (h : i < xs.length), w.cell? ⟨bl, off + i, none⟩ = some (.int .i64 xs[i]))
/-- .. in a row of its own, from block lo on -/
def IntRow (w : World) (lo : Nat) (xs : List Int) (v : Value) : Prop :=
  ∃ ad cap, v = .slice ad xs.length cap ∧ xs.length ≤ cap ∧ cap ≤ maxLen ∧ (xs = [] ∨ ∃ g f, ad = some ⟨g, 0, none⟩ ∧ lo ≤ g ∧ w.rowIs g 3 cap f ∧ ∀ i (h : i < xs.length), f i = .int .i64 xs[i])
theorem IntRow.on {w : World} {lo : Nat} {xs : List Int} {v : Value} (h : IntRow w lo xs v) : IntsOn w (fun k => lo ≤ k ∧ k < w.heap.size) xs v := by
  obtain ⟨ad, cap, e, l1, l2, h⟩ := h
  refine ⟨ad, cap, e, l1, l2, h.imp id ?_⟩
  rintro ⟨g, f, rfl, hg, hr, hf⟩
  refine ⟨g, 0, rfl, ⟨hg, hr.lt⟩, fun i hi => ?_⟩
  rw [Nat.zero_add, hr.cell (by omega), hf i hi]
theorem IntsOn.mono {w w' : World} {S S' : Nat → Prop} {xs : List Int} {v : Value} (h : IntsOn w S xs v) (hS : ∀ k, S k → S' k) (hw : ∀ k, S k → w'.heap[k]? = w.heap[k]?) : IntsOn w' S' xs v := by
  obtain ⟨ad, cap, e, l1, l2, h⟩ := h
  refine ⟨ad, cap, e, l1, l2, h.imp id ?_⟩
  rintro ⟨bl, off, rfl, hb, hc⟩
  exact ⟨bl, off, rfl, hS _ hb, fun i hi => (World.cell?_of_block (a := ⟨bl, off + i, none⟩) (hw _ hb)).trans (hc i hi)⟩
theorem IntRow.keep {w w' : World} {lo lo' : Nat} {xs : List Int} {v : Value} (h : IntRow w lo xs v) (hl : lo' ≤ lo) (hw : ∀ k, lo ≤ k → k < w.heap.size → w'.heap[k]? = w.heap[k]?) : IntRow w' lo' xs v := by
  obtain ⟨ad, cap, e, l1, l2, h⟩ := h
  refine ⟨ad, cap, e, l1, l2, h.imp id ?_⟩
  rintro ⟨g, f, rfl, hg, hr, hf⟩
  exact ⟨g, f, rfl, by omega, hr.of_block (hw g hg hr.lt), hf⟩
theorem IntRow.next {w w' : World} {lo : Nat} {xs : List Int} {v : Value} (h : IntRow w lo xs v) (hb : Below w.heap.size w w') : IntRow w' lo xs v := h.keep (Nat.le_refl _) fun k _ hk => hb.block k hk
/-- numbers that lie in a world, wherever -/
abbrev IIn (w : World) (xs : List Int) (v : Value) : Prop := IntsOn w (Lt w.heap.size) xs v
theorem IntRow.inn {w : World} {lo : Nat} {xs : List Int} {v : Value} (h : IntRow w lo xs v) : IIn w xs v := h.on.mono (fun k hk => hk.2) fun _ _ => rfl
theorem IntsOn.next {w w' : World} {xs : List Int} {v : Value} (h : IIn w xs v) (hb : Below w.heap.size w w') : IIn w' xs v :=
  h.mono (fun k (hk : k < _) => Nat.lt_of_lt_of_le hk hb.size) fun k hk => hb.block k hk

set_option maxHeartbeats 400000 in
theorem eqInts_calls (xs : List Int) (c d : Value) (w : World) (hc : IIn w xs c) (hd : IIn w xs d) :
    Calls Try.prog 14 #[c, d] w fun e w' => e = .returned (.bool true) ∧ Below w.heap.size w w' := by
  have HC : Hid (IIn w xs c) := hc
  have HD : Hid (IIn w xs d) := hd
  obtain ⟨ad, cap, rfl, hl, hm, -⟩ := hc
  obtain ⟨ad', cap', rfl, hl', hm', -⟩ := hd
  unfold maxLen at hm hm'
  have t1 : ((xs.length : Int) != xs.length) = false := by simp
  go_enter Try.func14, Try.ntmps14
  go_wp2_with fail
  go_loopw [5] (fun i wr => ∃ k : Nat, k ≤ xs.length ∧ i = .int .i64 k ∧ ∃ n, wr = w.drewN n) (fun i _ => xs.length - (intOf i).toNat)
  case atStart => exact ⟨0, Nat.zero_le _, rfl, 0, rfl⟩
  case round =>
    obtain ⟨k, hk, rfl, n, rfl⟩ := hrel
    by_cases hlt : k < xs.length
    · obtain ⟨_, _, he, -, -, hr1⟩ := HC.out
      cases he
      obtain ⟨_, _, he, -, -, hr2⟩ := HD.out
      cases he
      rcases hr1 with rfl | ⟨bl, off, rfl, -, hr1⟩
      · simp at hlt
      rcases hr2 with rfl | ⟨bl', off', rfl, -, hr2⟩
      · simp at hlt
      have c0 := hr1 k hlt
      have d0 := hr2 k hlt
      have t2 : (xs[k] != xs[k]) = false := by simp
      clear hr1 hr2
      go_wp2_with fail
      go_quiet (fail)
      go_wp2_with fail
      go_roundw
      case rel => exact ⟨k + 1, by omega, by go_num, _, rfl⟩
      case measure => simp [intOf]; omega
    · go_wp2_with fail
      go_ret
      exact ⟨rfl, below_drewN (Below.refl _ _) _⟩

theorem IntRow.none (w : World) (lo : Nat) : IntRow w lo [] (.slice none 0 0) := ⟨_, _, rfl, Nat.le_refl _, by simp [maxLen], Or.inl rfl⟩
/-- the answer: the numbers in a row of their own -/
def NewInts (xs : List Int) (w : World) (e : Ending) (w' : World) : Prop := ∃ v, e = .returned v ∧ IntRow w' w.heap.size xs v ∧ Below w.heap.size w w'
end Go.Proofs.Ytjpjikfmdaejeaa
/-
  THE LAWS' OWN COPY OF A SLICE OF INTS (toIntS).
-/
namespace Go.Proofs.Ytjpjikfmdaejeaa
set_option linter.unusedVariables false
set_option linter.unusedSimpArgs false
open Go.RowKit

/-! ### The copy -/
/-- what holds of the copy behind k rounds -/
def ToIRel (xs : List Int) (w : World) (k : Nat) (wr : World) : Prop :=
  ∃ f : Nat → Value, wr.rowIs w.heap.size 3 xs.length f ∧ (∀ j (_ : j < k) (hj : j < xs.length), f j = .int .i64 xs[j]) ∧ Below w.heap.size w wr
theorem toIRel_start (xs : List Int) (w : World) : ToIRel xs w 0 (w.alloc (.cells (madeCells #[.int .i64 0] xs.length) 3)) :=
  ⟨_, zero_row w xs.length, fun j hj => absurd hj (by omega), (Below.refl _ _).alloc (Nat.le_refl _) _⟩
theorem toIRel_step {xs : List Int} {w wr : World} {k : Nat} (h : ToIRel xs w k wr) (hk : k < xs.length) : ToIRel xs w (k + 1) (wr.setCell ⟨w.heap.size, k, none⟩ (.int .i64 xs[k])) := by
  obtain ⟨f, hr, ht, hb⟩ := h
  refine ⟨_, hr.set k _, fun j hj hl => ?_, hb.setCell (Nat.le_refl _) _⟩
  by_cases hjk : j = k
  · subst hjk; simp
  · simp [hjk, ht j (by omega) hl]

theorem toIRel_end {xs : List Int} {w wr : World} (h : ToIRel xs w xs.length wr) (hl : xs.length ≤ 1048576) : NewInts xs w (.returned (.slice (some ⟨w.heap.size, 0, none⟩) xs.length xs.length)) wr := by
  obtain ⟨f, hr, ht, hb⟩ := h
  exact ⟨_, rfl, ⟨_, _, rfl, Nat.le_refl _, by unfold maxLen; omega, Or.inr ⟨_, f, rfl, Nat.le_refl _, hr, fun i hi => ht i hi hi⟩⟩, hb⟩

set_option maxHeartbeats 400000 in
theorem toInts_calls (xs : List Int) (c : Value) (w : World) (hc : IIn w xs c) (hlen : xs.length ≤ 1048576) :
    Calls Try.prog 11 #[c] w (NewInts xs w) := by
  have HC : Hid (IIn w xs c) := hc
  obtain ⟨ad, cap, rfl, hl, hm, -⟩ := hc
  unfold maxLen at hm
  have hmk := make_ints xs.length hlen
  go_enter Try.func11, Try.ntmps11
  go_wp2_with fail
  go_loopw [4] (fun i wr => ∃ k : Nat, k ≤ xs.length ∧ i = .int .i64 k ∧ ToIRel xs w k wr) (fun i _ => xs.length - (intOf i).toNat)
  case atStart => exact ⟨0, Nat.zero_le _, rfl, toIRel_start xs w⟩
  case round =>
    obtain ⟨k, hk, rfl, hto⟩ := hrel
    have HT : Hid (ToIRel xs w k wr) := hto
    obtain ⟨f, hr0, _, hb⟩ := hto
    by_cases hlt : k < xs.length
    · obtain ⟨_, _, he, -, -, hr1⟩ := HC.out.next hb
      cases he
      rcases hr1 with rfl | ⟨bl, off, rfl, -, hr1⟩
      · simp at hlt
      have c0 := hr1 k hlt
      have g0 := hr0.cell (i := k) (by omega)
      have f0 := hr0.frozen k
      clear hr1 hb hr0
      go_wp2_with fail
      go_roundw
      case rel => exact ⟨k + 1, by omega, by go_num, toIRel_step HT.out hlt⟩
      case measure => simp [intOf]; omega
    · have hke : xs.length = k := by omega
      have HV : Hid (NewInts xs w (.returned (.slice (some ⟨w.heap.size, 0, none⟩) xs.length xs.length)) wr) := by subst hke; exact toIRel_end HT.out hlen
      clear hke hr0 hb
      go_wp2_with fail
      go_ret
      exact HV.out
end Go.Proofs.Ytjpjikfmdaejeaa
/-
  PLAIN FACTS ON TREES: how many nodes a list of trees has; which trees are valid expressions. No program is named here.
-/
namespace Go.Proofs.Ytjpjikfmdaejeaa
set_option linter.unusedVariables false
set_option linter.unusedSimpArgs false

mutual
/-- how many nodes stand below a tree's top -/
def szT : Tr → Nat
  | .node _ _ ks => szL ks
/-- how many nodes a list of trees has -/
def szL : List Tr → Nat
  | [] => 0
  | t :: ts => 1 + szT t + szL ts
end

theorem szT_eq (t : Tr) : szT t = szL t.kids := by cases t; simp [szT]

/-- the nodes below the tops of a list -/
def sumT (l : List Tr) : Nat := (l.map szT).sum
theorem sumT_nil : sumT [] = 0 := rfl
theorem sumT_cons (t : Tr) (l : List Tr) : sumT (t :: l) = szT t + sumT l := rfl
theorem sumT_append (a b : List Tr) : sumT (a ++ b) = sumT a + sumT b := by simp [sumT]
theorem szL_sum : ∀ (l : List Tr), szL l = l.length + sumT l
  | [] => by simp [szL, sumT]
  | t :: ts => by rw [szL, szL_sum ts, sumT_cons]; simp; omega
theorem sumT_take_succ (l : List Tr) (i : Nat) (h : i < l.length) : sumT (l.take (i + 1)) = sumT (l.take i) + szT l[i] := by
  rw [List.take_succ_eq_append_getElem h, sumT_append]; simp [sumT]
theorem sumT_take_le (l : List Tr) (i : Nat) : sumT (l.take i) ≤ sumT l := by
  conv => rhs; rw [← List.take_append_drop i l, sumT_append]
  omega
theorem szT_le_sumT (l : List Tr) (i : Nat) (h : i < l.length) : szT l[i] ≤ sumT l := by
  have := sumT_take_succ l i h
  have := sumT_take_le l (i + 1)
  omega
theorem szL_append (a b : List Tr) : szL (a ++ b) = szL a + szL b := by simp [szL_sum, sumT_append]; omega
theorem szL_take_succ (l : List Tr) (i : Nat) (h : i < l.length) : szL (l.take (i + 1)) = szL (l.take i) + 1 + szT l[i] := by
  rw [szL_sum, szL_sum, sumT_take_succ l i h, List.length_take, List.length_take]; omega
theorem szL_take_le (l : List Tr) (i : Nat) : szL (l.take i) ≤ szL l := by
  conv => rhs; rw [← List.take_append_drop i l, szL_append]
  omega
theorem szT_lt_szL (l : List Tr) (i : Nat) (h : i < l.length) : szT l[i] < szL l := by
  have := szL_take_succ l i h
  have := szL_take_le l (i + 1)
  omega
theorem szL_kids_lt (l : List Tr) (i : Nat) (h : i < l.length) : szL (l[i]).kids < szL l := by
  rw [← szT_eq]; exact szT_lt_szL l i h

/-- what the law's own count of an argument leaves of a budget -/
def szOut (ks : List Tr) (left : Int) : Int := if (szL ks : Int) ≤ left then left - szL ks else -1

/-- how many operands a kind has -/
def arity (op : Int) : Int :=
  if op = 1 ∨ op = 2 ∨ op = 3 then 0 else if op = 6 ∨ op = 7 then 1 else if op = 4 ∨ op = 5 ∨ op = 8 ∨ op = 9 then 2 else if op = 10 then 3 else -1

/-- is the number of a node right? -/
def ownB (op n vars defs : Int) : Bool :=
  if op = 1 then decide (0 ≤ n ∧ n < vars) else if op = 2 then decide (0 ≤ n ∧ n ≤ 999) else if op = 3 then decide (0 ≤ n ∧ n < defs) else decide (n = 0)

/-- well formed, down to a depth -/
def shB (vars defs : Int) : Nat → Tr → Bool
  | 0, _ => false
  | d + 1, t => decide ((t.kids.length : Int) = arity t.op) && ownB t.op t.num vars defs && t.kids.all (shB vars defs d)

/-- a valid expression -/
def validB (t : Tr) (vars defs : Int) : Bool :=
  decide (0 ≤ vars ∧ vars ≤ 4 ∧ 0 ≤ defs ∧ defs ≤ 6) && (shB vars defs 16 t && decide (1 + szT t ≤ 60))

/-- what is left of a budget of nodes -/
def nlOut (vars defs : Int) (d : Nat) (t : Tr) (nodes : Int) : Int :=
  if shB vars defs d t = true ∧ 1 + (szT t : Int) ≤ nodes then nodes - (1 + szT t) else -1

theorem all_take_succ (p : Tr → Bool) (l : List Tr) (i : Nat) (h : i < l.length) : (l.take (i + 1)).all p = ((l.take i).all p && p l[i]) := by
  rw [List.take_succ_eq_append_getElem h, List.all_append]; simp
theorem all_false_of (p : Tr → Bool) (l : List Tr) (i : Nat) (h : i < l.length) (hp : p l[i] = false) : l.all p = false := by
  rw [List.all_eq_false]; exact ⟨l[i], List.getElem_mem h, by simp [hp]⟩

theorem shB_mono {vars vars' defs defs' : Int} (hv : vars ≤ vars') (hd : defs ≤ defs') : ∀ (d : Nat) (t : Tr), shB vars defs d t = true → shB vars' defs' d t = true
  | 0, _, h => by simp [shB] at h
  | d + 1, t, h => by
    simp only [shB, Bool.and_eq_true, List.all_eq_true] at h ⊢
    obtain ⟨⟨h1, h2⟩, h3⟩ := h
    refine ⟨⟨h1, ?_⟩, fun x hx => shB_mono hv hd d x (h3 x hx)⟩
    unfold ownB at h2 ⊢
    by_cases h1 : t.op = 1
    · rw [if_pos h1] at h2 ⊢; simp at h2 ⊢; omega
    rw [if_neg h1] at h2 ⊢
    by_cases h2' : t.op = 2
    · rw [if_pos h2'] at h2 ⊢; exact h2
    rw [if_neg h2'] at h2 ⊢
    by_cases h3' : t.op = 3
    · rw [if_pos h3'] at h2 ⊢; simp at h2 ⊢; omega
    rw [if_neg h3'] at h2 ⊢; exact h2

end Go.Proofs.Ytjpjikfmdaejeaa
/-
  GRAPHS IN MEMORY: a slice of cells (Op, N, Kids), three cells of memory each, the operands a slice of ints. The laws' own count, copy and comparison of graphs.
-/
namespace Go.Proofs.Ytjpjikfmdaejeaa
set_option linter.unusedVariables false
set_option linter.unusedSimpArgs false
open Go.RowKit

/-- a cell of a graph -/
structure Ce where
  op : Int
  num : Int
  kids : List Int
instance : Inhabited Ce := ⟨⟨0, 0, []⟩⟩

/-- a slice value that holds these cells, its blocks out of S -/
def CellsOn (w : World) (S : Nat → Prop) (g : List Ce) (v : Value) : Prop :=
  ∃ ad cap, v = .slice ad g.length cap ∧ g.length ≤ cap ∧ cap ≤ maxLen ∧ (g = [] ∨ ∃ bl off, ad = some ⟨bl, off, none⟩ ∧ S bl ∧ ∀ i (hi : i < g.length), ∃ c,
    w.cell? ⟨bl, off + i * 3, none⟩ = some (.int .i64 g[i].op) ∧ w.cell? ⟨bl, off + i * 3 + 1, none⟩ = some (.int .i64 g[i].num) ∧ w.cell? ⟨bl, off + i * 3 + 2, none⟩ = some c ∧ I64 g[i].op ∧ I64 g[i].num ∧ IntsOn w S g[i].kids c)
theorem CellsOn.mono {w w' : World} {S S' : Nat → Prop} {g : List Ce} {v : Value} (h : CellsOn w S g v) (hS : ∀ k, S k → S' k) (hw : ∀ k, S k → w'.heap[k]? = w.heap[k]?) : CellsOn w' S' g v := by
  obtain ⟨ad, cap, e, l1, l2, h5⟩ := h
  refine ⟨ad, cap, e, l1, l2, ?_⟩
  rcases h5 with h5 | ⟨bl, off, e, s, r⟩
  · exact Or.inl h5
  · refine Or.inr ⟨bl, off, e, hS _ s, fun i hi => ?_⟩
    obtain ⟨c, h1, h2, h3, i1, i2, g3⟩ := r i hi
    refine ⟨c, ?_, ?_, ?_, i1, i2, g3.mono hS hw⟩
    all_goals rw [World.cell?_of_block (w := w) (hw bl s)]; assumption
/-- cells that lie in a world, wherever -/
abbrev CIn (w : World) (g : List Ce) (v : Value) : Prop := CellsOn w (Lt w.heap.size) g v
theorem CellsOn.next {w w' : World} {g : List Ce} {v : Value} (h : CIn w g v) (hb : Below w.heap.size w w') : CIn w' g v :=
  h.mono (fun k (hk : k < w.heap.size) => Nat.lt_of_lt_of_le hk hb.size) (fun k hk => hb.block k hk)
theorem CellsOn.drew {w : World} {g : List Ce} {v : Value} (h : CIn w g v) : CIn w.drew g v := h.next ((Below.refl _ _).drew)
theorem IntsOn.drew {w : World} {xs : List Int} {v : Value} (h : IIn w xs v) : IIn w.drew xs v := h.next ((Below.refl _ _).drew)

/-- element i, opened -/
theorem CellsOn.at {w : World} {g : List Ce} {ad : Option Addr} {n cap : Nat} (h : CIn w g (.slice ad n cap)) (i : Nat) (hi : i < g.length) :
    ∃ bl off c, ad = some ⟨bl, off, none⟩ ∧ w.cell? ⟨bl, off + i * 3, none⟩ = some (.int .i64 g[i].op) ∧ w.cell? ⟨bl, off + i * 3 + 1, none⟩ = some (.int .i64 g[i].num) ∧ w.cell? ⟨bl, off + i * 3 + 2, none⟩ = some c ∧ I64 g[i].op ∧ I64 g[i].num ∧ IIn w g[i].kids c := by
  obtain ⟨ad', cap', he, -, -, hr⟩ := h
  cases he
  rcases hr with rfl | ⟨bl, off, rfl, -, r⟩
  · simp at hi
  obtain ⟨c, h1, h2, h3, i1, i2, h4⟩ := r i hi
  exact ⟨bl, off, c, rfl, h1, h2, h3, i1, i2, h4⟩
/-- number i of a list of ints, opened -/
theorem IntsOn.at {w : World} {xs : List Int} {ad : Option Addr} {n cap : Nat} (h : IIn w xs (.slice ad n cap)) (i : Nat) (hi : i < xs.length) :
    ∃ bl off, ad = some ⟨bl, off, none⟩ ∧ w.cell? ⟨bl, off + i, none⟩ = some (.int .i64 xs[i]) := by
  obtain ⟨ad', cap', he, -, -, hr⟩ := h
  cases he
  rcases hr with rfl | ⟨bl, off, rfl, -, r⟩
  · simp at hi
  exact ⟨bl, off, rfl, r i hi⟩

/-! ### The count -/
/-- the operands of the first cells -/
def sumK (l : List Ce) : Nat := (l.map (·.kids.length)).sum
theorem sumK_append (a b : List Ce) : sumK (a ++ b) = sumK a + sumK b := by simp [sumK]
theorem sumK_take_succ (l : List Ce) (i : Nat) (h : i < l.length) : sumK (l.take (i + 1)) = sumK (l.take i) + l[i].kids.length := by
  rw [List.take_succ_eq_append_getElem h, sumK_append]; simp [sumK]
theorem sumK_take_le (l : List Ce) (i : Nat) : sumK (l.take i) ≤ sumK l := by
  conv => rhs; rw [← List.take_append_drop i l, sumK_append]
  omega
theorem kids_le_sumK (l : List Ce) (i : Nat) (h : i < l.length) : l[i].kids.length ≤ sumK l := by
  have := sumK_take_succ l i h
  have := sumK_take_le l (i + 1)
  omega
/-- what the law's own count of a graph leaves of a budget -/
def szC (g : List Ce) (left : Int) : Int := if (g.length : Int) + sumK g ≤ left then left - (g.length + sumK g) else -1
theorem szC_range (g : List Ce) (left : Int) (h : 0 ≤ left) : -1 ≤ szC g left ∧ szC g left ≤ left := by unfold szC; split <;> omega
def szCAt (g : List Ce) (left : Int) (k : Nat) : Int := left - g.length - sumK (g.take k)

set_option maxHeartbeats 400000 in
theorem szInts_calls (n cap : Nat) (ad : Option Addr) (left : Int) (w : World) (hn : n ≤ 9223372036854775807) (h0 : 0 ≤ left) (h1 : left ≤ 4611686018427387904) :
    Calls Try.prog 42 #[.slice ad n cap, .int .i64 left] w fun e w' => e = .returned (.int .i64 (if (n : Int) ≤ left then left - n else -1)) ∧ Below w.heap.size w w' := by
  by_cases h : (n : Int) ≤ left
  · have h' : ¬ (left - (n : Int) < 0) := by omega
    rw [if_pos h]
    go_enter Try.func42, Try.ntmps42
    go_wp2_with fail
    go_ret
    exact ⟨rfl, Below.refl _ _⟩
  · rw [if_neg h]
    go_enter Try.func42, Try.ntmps42
    go_wp2_with fail
    go_ret
    exact ⟨rfl, Below.refl _ _⟩

set_option maxHeartbeats 400000 in
theorem szCell_calls (op num : Int) (n cap : Nat) (ad : Option Addr) (left : Int) (w : World) (hn : n ≤ 9223372036854775807) (h0 : 0 ≤ left) (h1 : left ≤ 4611686018427387904) :
    Calls Try.prog 27 #[.agg #[.int .i64 op, .int .i64 num, .slice ad n cap], .int .i64 left] w fun e w' => e = .returned (.int .i64 (if (n : Int) ≤ left then left - n else -1)) ∧ Below w.heap.size w w' := by
  have HBX : Hid (Below w.heap.size w (w.alloc (.cells #[.int .i64 op, .int .i64 num, .slice ad n cap] 41))) := box_below _ _
  by_cases h : (n : Int) ≤ left
  · have h' : ¬ (left - (n : Int) < 0) := by omega
    have hq := szInts_calls n cap ad left (w.alloc (.cells #[.int .i64 op, .int .i64 num, .slice ad n cap] 41)) hn h0 h1
    rw [if_pos h] at hq ⊢
    go_enter Try.func27, Try.ntmps27
    go_wp2_with fail
    refine hq.mono ?_
    rintro e w1 ⟨rfl, hb⟩
    have HB : Hid (Below w.heap.size w w1) := HBX.out.trans (hb.mono HBX.out.size)
    clear hb
    go_wp2_with fail
    go_ret
    exact ⟨rfl, HB.out⟩
  · have hq := szInts_calls n cap ad left (w.alloc (.cells #[.int .i64 op, .int .i64 num, .slice ad n cap] 41)) hn h0 h1
    rw [if_neg h] at hq ⊢
    go_enter Try.func27, Try.ntmps27
    go_wp2_with fail
    refine hq.mono ?_
    rintro e w1 ⟨rfl, hb⟩
    have HB : Hid (Below w.heap.size w w1) := HBX.out.trans (hb.mono HBX.out.size)
    clear hb
    go_wp2_with fail
    go_ret
    exact ⟨rfl, HB.out⟩

theorem szC_kid (g : List Ce) (left : Int) (k : Nat) (hk : k < g.length) (h : (g[k].kids.length : Int) ≤ szCAt g left k) : szCAt g left k - g[k].kids.length = szCAt g left (k + 1) := by
  have e := sumK_take_succ g k hk
  unfold szCAt; rw [e]; omega
theorem szC_neg (g : List Ce) (left : Int) (k : Nat) (hk : k < g.length) (h : ¬ (g[k].kids.length : Int) ≤ szCAt g left k) : szC g left = -1 := by
  have e := sumK_take_succ g k hk
  have e2 := sumK_take_le g (k + 1)
  unfold szC; rw [if_neg]; unfold szCAt at h; omega
theorem szC_end (g : List Ce) (left : Int) (h : 0 ≤ szCAt g left g.length) : szC g left = szCAt g left g.length := by
  unfold szCAt at h ⊢; rw [List.take_length] at h ⊢; unfold szC; rw [if_pos (by omega)]; omega

set_option maxHeartbeats 400000 in
theorem szCells_calls (g : List Ce) (c : Value) (left : Int) (w : World) (hk : CIn w g c) (h0 : 0 ≤ left) (h1 : left ≤ 4611686018427387904) :
    Calls Try.prog 8 #[c, .int .i64 left] w fun e w' => e = .returned (.int .i64 (szC g left)) ∧ Below w.heap.size w w' := by
  have HK : Hid (CIn w g c) := hk
  obtain ⟨ad, cap, rfl, hl, hm, -⟩ := hk
  unfold maxLen at hm
  by_cases hlen : left < g.length
  · have HV : Hid (szC g left = -1) := by unfold Hid szC; rw [if_neg]; omega
    go_enter Try.func8, Try.ntmps8
    go_wp2_with fail
    go_ret
    exact ⟨ret_int HV.out.symm, Below.refl _ _⟩
  · have hneg : ¬ (left - g.length < 0) := by omega
    go_enter Try.func8, Try.ntmps8
    go_wp2_with fail
    go_loopw [1, 5] (fun l i wr => ∃ k : Nat, k ≤ g.length ∧ i = .int .i64 k ∧ l = .int .i64 (szCAt g left k) ∧ 0 ≤ szCAt g left k ∧ Below w.heap.size w wr) (fun _ i _ => g.length - (intOf i).toNat)
    case atStart => exact ⟨0, Nat.zero_le _, rfl, by simp [szCAt, sumK], by simp [szCAt, sumK]; omega, Below.refl _ _⟩
    case round =>
      obtain ⟨k, hk, rfl, rfl, hpos, hb⟩ := hrel
      have hle : szCAt g left k ≤ left := by unfold szCAt; omega
      by_cases hlt : k < g.length
      · obtain ⟨bl, off, r, rfl, c0, c1, c2, -, -, hkk⟩ := (HK.out.next hb).at k hlt
        obtain ⟨ad2, cap2, rfl, hl2, hm2, -⟩ := hkk
        have hm3 : g[k].kids.length ≤ 9223372036854775807 := by unfold maxLen at hm2; omega
        clear hl2 hm2
        go_wp2_with fail
        refine (szCell_calls _ _ _ _ _ _ _ hm3 hpos (by omega)).mono ?_
        rintro e w1 ⟨rfl, hb1⟩
        have hb2 : Below w.heap.size w w1 := hb.trans (hb1.mono hb.size)
        clear hb1
        by_cases hneg1 : (g[k].kids.length : Int) ≤ szCAt g left k
        · have HV : Hid (szCAt g left k - g[k].kids.length = szCAt g left (k + 1)) := szC_kid g left k hlt hneg1
          rw [if_pos hneg1]
          have hnn : 0 ≤ szCAt g left (k + 1) := by rw [← HV.out]; omega
          have hq : ¬ (szCAt g left k - g[k].kids.length < 0) := by omega
          go_wp2_with fail
          go_roundw
          case rel => exact ⟨k + 1, by omega, by go_num, by rw [HV.out], hnn, hb2⟩
          case measure => simp [intOf]; omega
        · have HV : Hid (szC g left = -1) := szC_neg g left k hlt hneg1
          rw [if_neg hneg1]
          go_wp2_with fail
          go_ret
          exact ⟨ret_int HV.out.symm, hb2⟩
      · have hke : g.length = k := by omega
        have HV : Hid (szC g left = szCAt g left k) := by subst hke; exact szC_end g left hpos
        clear hke
        go_wp2_with fail
        go_ret
        exact ⟨ret_int HV.out.symm, hb⟩

/-! ### The copy -/
/-- a slice value that holds these cells in a row of its own, the operands in such rows too, from block lo on -/
def CellRow (w : World) (lo : Nat) (g : List Ce) (v : Value) : Prop :=
  ∃ ad cap, v = .slice ad g.length cap ∧ g.length ≤ cap ∧ cap ≤ maxLen ∧ (g = [] ∨ ∃ b f, ad = some ⟨b, 0, none⟩ ∧ lo ≤ b ∧ w.rowIs b 45 (cap * 3) f ∧ ∀ i (h : i < g.length), f (i * 3) = .int .i64 g[i].op ∧ f (i * 3 + 1) = .int .i64 g[i].num ∧ I64 g[i].op ∧ I64 g[i].num ∧ IntRow w lo g[i].kids (f (i * 3 + 2)))
theorem CellRow.inn {w : World} {lo : Nat} {g : List Ce} {v : Value} (h : CellRow w lo g v) : CIn w g v := by
  obtain ⟨ad, cap, e, l1, l2, h⟩ := h
  refine ⟨ad, cap, e, l1, l2, h.imp id ?_⟩
  rintro ⟨b, f, rfl, hg, hr, hf⟩
  refine ⟨b, 0, rfl, hr.lt, fun i hi => ?_⟩
  obtain ⟨f0, f1, i0, i1, f2⟩ := hf i hi
  refine ⟨_, ?_, ?_, ?_, i0, i1, f2.inn⟩
  · rw [Nat.zero_add, hr.cell (by omega), f0]
  · rw [Nat.zero_add, hr.cell (by omega), f1]
  · rw [Nat.zero_add, hr.cell (by omega)]
theorem CellRow.keep {w w' : World} {lo lo' : Nat} {g : List Ce} {v : Value} (h : CellRow w lo g v) (hl : lo' ≤ lo) (hw : ∀ k, lo ≤ k → k < w.heap.size → w'.heap[k]? = w.heap[k]?) : CellRow w' lo' g v := by
  obtain ⟨ad, cap, e, l1, l2, h⟩ := h
  refine ⟨ad, cap, e, l1, l2, h.imp id ?_⟩
  rintro ⟨b, f, rfl, hg, hr, hf⟩
  refine ⟨b, f, rfl, by omega, hr.of_block (hw b hg hr.lt), fun i hi => ?_⟩
  obtain ⟨f0, f1, i0, i1, f2⟩ := hf i hi
  exact ⟨f0, f1, i0, i1, f2.keep hl hw⟩
theorem CellRow.next {w w' : World} {lo : Nat} {g : List Ce} {v : Value} (h : CellRow w lo g v) (hb : Below w.heap.size w w') : CellRow w' lo g v := h.keep (Nat.le_refl _) fun k _ hk => hb.block k hk

def NewCell (op num : Int) (xs : List Int) (w : World) (e : Ending) (w' : World) : Prop := ∃ v, e = .returned (.agg #[.int .i64 op, .int .i64 num, v]) ∧ IntRow w' w.heap.size xs v ∧ Below w.heap.size w w'
def NewCells (g : List Ce) (w : World) (e : Ending) (w' : World) : Prop := ∃ v, e = .returned v ∧ CellRow w' w.heap.size g v ∧ Below w.heap.size w w'
theorem IntRow.setCell {w : World} {lo : Nat} {xs : List Int} {v : Value} (h : IntRow w lo xs v) {a : Addr} (ha : a.block < lo) (u : Value) : IntRow (w.setCell a u) lo xs v :=
  h.keep (Nat.le_refl _) fun k hk _ => Below.heap_setCell _ _ _ _ (fun e => by omega)
theorem IntRow.down {w : World} {lo lo' : Nat} {xs : List Int} {v : Value} (h : IntRow w lo xs v) (hl : lo' ≤ lo) : IntRow w lo' xs v := h.keep hl fun _ _ _ => rfl

set_option maxHeartbeats 400000 in
theorem toCell_calls (op num : Int) (xs : List Int) (c : Value) (w : World) (hk : IIn w xs c) (hsz : xs.length ≤ 1048576) : Calls Try.prog 30 #[.agg #[.int .i64 op, .int .i64 num, c]] w (NewCell op num xs w) := by
  have HK : Hid (IIn w xs c) := hk
  clear hk
  go_enter Try.func30, Try.ntmps30
  go_wp2_with fail
  refine (toInts_calls xs c _ ?_ hsz).mono ?_
  · exact HK.out.next ((((Below.refl _ _).alloc (Nat.le_refl _) _).alloc (by simp) _).alloc (by simp; omega) _)
  rintro e w1 ⟨v, rfl, hv, hb⟩
  obtain ⟨hc, hf⟩ := bcell hb
  have hz : w.heap.size + 2 < w1.heap.size := by have := hb.size; simp at this; omega
  have HV : Hid (IntRow w1 (w.heap.size + 3) xs v) := hv.down (by simp)
  have HB : Hid (Below w.heap.size w w1) := ((((Below.refl _ _).alloc (Nat.le_refl _) _).alloc (by simp) _).alloc (by simp; omega) _).trans (hb.mono (by simp; omega))
  obtain ⟨ad, cap, rfl, -, -, -⟩ := hv
  clear hb
  go_wp2_with fail
  refine bodyPost_ret (v := .agg #[.int .i64 op, .int .i64 num, .slice ad xs.length cap]) (by simp [results, Try.results30, go_sem, hc, hf, hz]) rfl ⟨_, rfl, ?_, ?_⟩
  · refine IntRow.down (lo := w.heap.size + 3) ?_ (by omega)
    repeat' (refine IntRow.setCell ?_ (by simp <;> omega) _)
    exact HV.out
  · repeat' (refine Below.setCell ?_ (by simp <;> omega) _)
    exact HB.out

theorem infoC : (Try.prog.info? 45).map (fun i => (i.zero, i.size, i.bytes)) = some (some (.agg #[.int .i64 0, .int .i64 0, .slice none 0 0]), 3, 40) := by kernel_rfl
theorem make_cells (n : Nat) (h : n ≤ 1048576) : ∃ C : Array Value, C.size = n * 3 ∧ ∀ w : World, (Instr.makeSlice 25 (.int .i64 (n : Int)) (.int .i64 (n : Int))).run Try.prog w = .ok (.slice (some ⟨w.heap.size, 0, none⟩) n n) (w.alloc (.cells C 45)) := by
  obtain ⟨i, hi, hzz⟩ := Option.map_eq_some_iff.1 infoC
  simp only [Prod.mk.injEq] at hzz
  obtain ⟨hz, hs, hb⟩ := hzz
  refine ⟨madeCells (Value.agg #[.int .i64 0, .int .i64 0, .slice none 0 0]).cells (n * 3), size_madeCells _ _, fun w => ?_⟩
  have hr := run_make (P := Try.prog) w 25 45 i _ Try.underlying25 hi hz .i64 .i64 n n (by omega) (Int.le_refl _) (by rw [hb]; omega) (by omega)
  simp only [Int.toNat_natCast, hs] at hr
  exact hr

/-- what holds of the copy of a graph behind k rounds -/
def ToCRel (g : List Ce) (w : World) (k : Nat) (wr : World) : Prop :=
  ∃ f : Nat → Value, wr.rowIs w.heap.size 45 (g.length * 3) f ∧ (∀ j (_ : j < k) (hj : j < g.length), f (j * 3) = .int .i64 g[j].op ∧ f (j * 3 + 1) = .int .i64 g[j].num ∧ I64 g[j].op ∧ I64 g[j].num ∧ IntRow wr (w.heap.size + 1) g[j].kids (f (j * 3 + 2))) ∧ Below w.heap.size w wr
theorem toCRel_start (g : List Ce) (w : World) (C : Array Value) (h : C.size = g.length * 3) : ToCRel g w 0 (w.alloc (.cells C 45)) := by
  refine ⟨fun i => C.getD i undef, ⟨C, Deep.blk_alloc_new _ _, h, fun i hi => ?_⟩, fun j hj => absurd hj (by omega), (Below.refl _ _).alloc (Nat.le_refl _) _⟩
  simp [Array.getElem?_eq_getElem (h ▸ hi : i < C.size), Array.getD, (h ▸ hi : i < C.size)]
/-- the world behind the three stores -/
def stC (w1 : World) (b k : Nat) (c : Ce) (v : Value) : World :=
  ((w1.setCell ⟨b, k * 3, none⟩ (.int .i64 c.op)).setCell ⟨b, k * 3 + 1, none⟩ (.int .i64 c.num)).setCell ⟨b, k * 3 + 2, none⟩ v
theorem toCRel_step (g : List Ce) (w wr w1 : World) (k : Nat) (hk : k < g.length) (h : ToCRel g w k wr) (v : Value) (hb : Below wr.heap.size wr w1) (hv : IntRow w1 wr.heap.size (g[k]).kids v) (ho : I64 (g[k]).op) (hn : I64 (g[k]).num) :
    ToCRel g w (k + 1) (stC w1 w.heap.size k g[k] v) := by
  unfold stC
  obtain ⟨f, hr, ht, hbw⟩ := h
  have hlt := hr.lt
  have hr1 : w1.rowIs w.heap.size 45 (g.length * 3) f := hr.of_block (hb.block _ hlt)
  have hsz := hb.size
  have keep : ∀ (xs : List Int) (u : Value), IntRow w1 (w.heap.size + 1) xs u → IntRow (((w1.setCell ⟨w.heap.size, k * 3, none⟩ (.int .i64 g[k].op)).setCell ⟨w.heap.size, k * 3 + 1, none⟩ (.int .i64 g[k].num)).setCell ⟨w.heap.size, k * 3 + 2, none⟩ v) (w.heap.size + 1) xs u :=
    fun xs u q => ((q.setCell (by simp) _).setCell (by simp) _).setCell (by simp) _
  refine ⟨_, ((hr1.set (k * 3) _).set (k * 3 + 1) _).set (k * 3 + 2) _, fun j hj hjl => ?_, ?_⟩
  · by_cases hjk : j = k
    · subst hjk
      have : IntRow w1 (w.heap.size + 1) g[j].kids v := hv.down (by omega)
      refine ⟨by simp, by simp, ho, hn, ?_⟩
      simpa using keep _ _ this
    · obtain ⟨h00, h01, i0, i1, h02⟩ := ht j (by omega) hjl
      have h1 : IntRow w1 (w.heap.size + 1) g[j].kids (f (j * 3 + 2)) := h02.next hb
      have h2 := keep _ _ h1
      have e1 : ∀ m, m < 3 → j * 3 + m ≠ k * 3 + 2 ∧ j * 3 + m ≠ k * 3 + 1 ∧ j * 3 + m ≠ k * 3 := fun m hm => by omega
      have a0 := e1 0 (by omega)
      have a1 := e1 1 (by omega)
      have a2 := e1 2 (by omega)
      simp only [Nat.add_zero] at a0
      refine ⟨?_, ?_, i0, i1, ?_⟩
      · simp only [if_neg a0.1, if_neg a0.2.1, if_neg a0.2.2]; exact h00
      · simp only [if_neg a1.1, if_neg a1.2.1, if_neg a1.2.2]; exact h01
      · simp only [if_neg a2.1, if_neg a2.2.1, if_neg a2.2.2]; exact h2
  · exact (((hbw.trans (hb.mono (Nat.le_of_lt hlt))).setCell (by simp) _).setCell (by simp) _).setCell (by simp) _
theorem toCRel_end (g : List Ce) (w wr : World) (h : ToCRel g w g.length wr) (hl : g.length ≤ 1048576) : NewCells g w (.returned (.slice (some ⟨w.heap.size, 0, none⟩) g.length g.length)) wr := by
  obtain ⟨f, hr, ht, hbw⟩ := h
  refine ⟨_, rfl, ⟨_, _, rfl, Nat.le_refl _, by unfold maxLen; omega, Or.inr ⟨_, f, rfl, Nat.le_refl _, hr, fun i hi => ?_⟩⟩, hbw⟩
  obtain ⟨g1, g2, i0, i1, g3⟩ := ht i hi hi
  exact ⟨g1, g2, i0, i1, g3.down (by omega)⟩

set_option maxHeartbeats 400000 in
theorem toCells_calls (g : List Ce) (c : Value) (w : World) (hk : CIn w g c) (hsz : g.length + sumK g ≤ 1048576) : Calls Try.prog 10 #[c] w (NewCells g w) := by
  have HK : Hid (CIn w g c) := hk
  have hlen : g.length ≤ 1048576 := by omega
  obtain ⟨ad, cap, rfl, -, -, -⟩ := hk
  obtain ⟨C, hC, hmk⟩ := make_cells g.length hlen
  have HC : Hid (C.size = g.length * 3) := hC
  clear hC
  go_enter Try.func10, Try.ntmps10
  go_wp2_with fail
  go_loopw [4] (fun i wr => ∃ k : Nat, k ≤ g.length ∧ i = .int .i64 k ∧ ToCRel g w k wr) (fun i _ => g.length - (intOf i).toNat)
  case atStart => exact ⟨0, Nat.zero_le _, rfl, toCRel_start g w C HC.out⟩
  case round =>
    obtain ⟨k, hk, rfl, hto⟩ := hrel
    have HT : Hid (ToCRel g w k wr) := hto
    obtain ⟨f, hr0, _, hb⟩ := hto
    have hlt0 := hr0.lt
    by_cases hlt : k < g.length
    · obtain ⟨bl, off, r, rfl, c0, c1, c2, io, iN, hkk⟩ := (HK.out.next hb).at k hlt
      have HKK : Hid (IIn wr g[k].kids r) := hkk
      have hkz : g[k].kids.length ≤ 1048576 := by have := kids_le_sumK g k hlt; omega
      have HR : Hid (wr.rowIs w.heap.size 45 (g.length * 3) f) := hr0
      clear hkk hr0 hb
      go_wp2_with fail
      refine (toCell_calls _ _ g[k].kids r _ HKK.out hkz).mono ?_
      rintro e w1 ⟨v, rfl, hv, hb1⟩
      have hr1 : w1.rowIs w.heap.size 45 (g.length * 3) f := HR.out.of_block (hb1.block _ hlt0)
      have HS : Hid (ToCRel g w (k + 1) (stC w1 w.heap.size k g[k] v)) := toCRel_step g w wr w1 k hlt HT.out v hb1 hv io iN
      obtain ⟨ad2, cap2, rfl, _, _, _⟩ := hv
      have g0 := hr1.cell (i := k * 3) (by omega)
      have g1 := hr1.cell (i := k * 3 + 1) (by omega)
      have g2 := hr1.cell (i := k * 3 + 2) (by omega)
      have f0 := hr1.frozen (k * 3)
      have f1 := hr1.frozen (k * 3 + 1)
      have f2 := hr1.frozen (k * 3 + 2)
      clear hr1 hb1
      go_wp2_with fail
      go_roundw
      case rel => exact ⟨k + 1, by omega, by go_num, HS.out⟩
      case measure => simp [intOf]; omega
    · have hke : g.length = k := by omega
      have HV : Hid (NewCells g w (.returned (.slice (some ⟨w.heap.size, 0, none⟩) g.length g.length)) wr) := by subst hke; exact toCRel_end g w wr HT.out hlen
      clear hke hr0 hb
      go_wp2_with fail
      go_ret
      exact HV.out

/-! ### The comparison -/
set_option maxHeartbeats 400000 in
theorem eqCell_calls (op num : Int) (xs : List Int) (c d : Value) (w : World) (hc : IIn w xs c) (hd : IIn w xs d) : Calls Try.prog 33 #[.agg #[.int .i64 op, .int .i64 num, c], .agg #[.int .i64 op, .int .i64 num, d]] w fun e w' => e = .returned (.bool true) ∧ Below w.heap.size w w' := by
  have HC : Hid (IIn w xs c) := hc
  have HD : Hid (IIn w xs d) := hd
  clear hc hd
  have t1 : (op != op) = false := by simp
  have t2 : (num != num) = false := by simp
  go_enter Try.func33, Try.ntmps33
  go_wp2_with fail
  have hb0 : ∀ o1 o2, Below w.heap.size w ((w.alloc o1).alloc o2) := fun o1 o2 => ((Below.refl _ _).alloc (Nat.le_refl _) _).alloc (by simp) _
  refine (eqInts_calls xs c d _ (HC.out.next (hb0 _ _)) (HD.out.next (hb0 _ _))).mono ?_
  rintro e w1 ⟨rfl, hb⟩
  have HB : Hid (Below w.heap.size w w1) := (hb0 _ _).trans (hb.mono (by simp; omega))
  clear hb hb0
  go_wp2_with fail
  go_ret
  exact ⟨rfl, HB.out⟩

set_option maxHeartbeats 400000 in
theorem eqCells_calls (g : List Ce) (c d : Value) (w : World) (hc : CIn w g c) (hd : CIn w g d) : Calls Try.prog 13 #[c, d] w fun e w' => e = .returned (.bool true) ∧ Below w.heap.size w w' := by
  have HC : Hid (CIn w g c) := hc
  have HD : Hid (CIn w g d) := hd
  obtain ⟨ad, cap, rfl, hl, hm, -⟩ := hc
  obtain ⟨ad', cap', rfl, hl', hm', -⟩ := hd
  unfold maxLen at hm hm'
  have t1 : ((g.length : Int) != g.length) = false := by simp
  go_enter Try.func13, Try.ntmps13
  go_wp2_with fail
  go_loopw [5] (fun i wr => ∃ k : Nat, k ≤ g.length ∧ i = .int .i64 k ∧ Below w.heap.size w wr) (fun i _ => g.length - (intOf i).toNat)
  case atStart => exact ⟨0, Nat.zero_le _, rfl, Below.refl _ _⟩
  case round =>
    obtain ⟨k, hk, rfl, hb⟩ := hrel
    by_cases hlt : k < g.length
    · obtain ⟨bl, off, r, rfl, c0, c1, c2, -, -, hk1⟩ := (HC.out.next hb).at k hlt
      obtain ⟨bl', off', r', rfl, d0, d1, d2, -, -, hk2⟩ := (HD.out.next hb).at k hlt
      have HK1 : Hid (IIn wr g[k].kids r) := hk1
      have HK2 : Hid (IIn wr g[k].kids r') := hk2
      clear hk1 hk2
      go_wp2_with fail
      go_region_with ((go_at_call 33; refine (eqCell_calls _ _ g[k].kids r r' _ ?_ ?_).mono ?_; exact HK1.out.drew; exact HK2.out.drew; rintro e w1 ⟨rfl, hb1⟩))
      all_goals
        have hb2 : Below w.heap.size w w1 := hb.drew.trans (hb1.mono hb.drew.size)
        clear hb1
        go_wp2_with fail
        go_roundw
        case rel => exact ⟨k + 1, by omega, by go_num, hb2⟩
        case measure => simp [intOf]; omega
    · have hke : k = g.length := by omega
      have HB : Hid (Below w.heap.size w wr) := hb
      clear hb
      clear hke
      go_wp2_with fail
      go_ret
      exact ⟨rfl, HB.out⟩
end Go.Proofs.Ytjpjikfmdaejeaa
/-
  WHAT THE READING OF AN ARGUMENT GIVES: a graph of the laws' own type is a list of cells in memory.
-/
namespace Go.Proofs.Ytjpjikfmdaejeaa
open Go.RowKit
set_option linter.unusedVariables false
set_option linter.unusedSimpArgs false
section
variable {H : Type} {enc : TypeId × Value → H} {w : World} {base : Nat} {spare : Nat → Bool} {held : Bool}

theorem trod_ints (fuel : Nat) (v : Value) (x : DataW H × List MemPlace) (h : DataW.trod enc Try.prog w base spare held fuel 23 [v] = some x) : ∃ xs, IIn w xs v := by
  have hC : Try.prog.cellsOf 3 = 1 := by kernel_rfl
  rcases DataW.trod_slice Try.underlying23 h with ⟨h0', _⟩ | ⟨a, len, cap, elems, rest, n, hfu, hv, _, hb, hl, hm, hlen, hel, _, _⟩
  · simp only [List.cons.injEq, and_true] at h0'
    exact ⟨[], none, 0, h0', by simp, by simp [maxLen], Or.inl rfl⟩
  · simp only [List.cons.injEq, and_true] at hv
    have key : ∀ i, i < len → ∃ z : Int, w.cell? (a.add (i * 1)) = some (.int .i64 z) := by
      intro i hi
      have hh := hel i hi
      rw [hC] at hh
      obtain ⟨cs, hcs, hd⟩ := Option.bind_eq_some_iff.1 (hh.trans (List.getElem?_eq_getElem (by omega)))
      obtain ⟨_, hl1, hcell⟩ := World.cells?_some hcs
      obtain ⟨p, rfl⟩ : ∃ p, cs = [p] := by
        match cs, hl1 with
        | [p], _ => exact ⟨p, rfl⟩
      obtain ⟨z, e0, _, w0⟩ := DataW.trod_int Try.underlying3 hd
      simp only [List.cons.injEq, and_true] at e0
      have g0 := hcell 0 (by omega)
      exact ⟨z, by rw [← e0]; simpa [Addr.add] using g0⟩
    subst hv
    obtain ⟨f, hfk⟩ := Deep.choose_lt key
    refine ⟨(List.range len).map f, some a, cap, by simp, by simpa using hl, hm, ?_⟩
    by_cases hz : len = 0
    · left; simp [hz]
    right
    obtain ⟨bl, off, spot⟩ := a
    have g0 := hfk 0 (by omega)
    have hspot : spot = none := by simpa [Addr.add] using World.cell?_spot g0
    subst hspot
    refine ⟨bl, off, rfl, by have := cell_lt g0; simpa [Addr.add, Lt] using this, fun i hi => ?_⟩
    simp only [List.length_map, List.length_range] at hi
    have g0 := hfk i hi
    rw [WideShapes.add_plain, Nat.mul_one] at g0
    simpa using g0

theorem trod_lawCells (fuel : Nat) (v : Value) (x : DataW H × List MemPlace) (h : DataW.trod enc Try.prog w base spare held fuel 22 [v] = some x) : ∃ g, CIn w g v := by
  have hC : Try.prog.cellsOf 41 = 3 := by kernel_rfl
  have hC1 : Try.prog.cellsOf 3 = 1 := by kernel_rfl
  have hC2 : Try.prog.cellsOf 23 = 1 := by kernel_rfl
  rcases DataW.trod_slice Try.underlying22 h with ⟨h0', _⟩ | ⟨a, len, cap, elems, rest, n, hfu, hv, _, hb, hl, hm, hlen, hel, _, _⟩
  · simp only [List.cons.injEq, and_true] at h0'
    exact ⟨[], none, 0, h0', by simp, by simp [maxLen], Or.inl rfl⟩
  · simp only [List.cons.injEq, and_true] at hv
    have key : ∀ i, i < len → ∃ d : Ce, ∃ r, w.cell? (a.add (i * 3)) = some (.int .i64 d.op) ∧ w.cell? ((a.add (i * 3)).add 1) = some (.int .i64 d.num) ∧ w.cell? ((a.add (i * 3)).add 2) = some r ∧ I64 d.op ∧ I64 d.num ∧ IntsOn w (Lt w.heap.size) d.kids r := by
      intro i hi
      have hh := hel i hi
      rw [hC] at hh
      obtain ⟨cs, hcs, hd⟩ := Option.bind_eq_some_iff.1 (hh.trans (List.getElem?_eq_getElem (by omega)))
      obtain ⟨_, hl3, hcell⟩ := World.cells?_some hcs
      obtain ⟨p, q, r, rfl⟩ := list3 cs hl3
      obtain ⟨xs, m, hm1, _, _, hxl, hf⟩ := DataW.trod_struct Try.underlying41 hd
      obtain ⟨y0, y1, y2, rfl⟩ := list3 xs (by simpa using hxl)
      have hp := hf 0 _ rfl
      have hq := hf 1 _ rfl
      have hr := hf 2 _ rfl
      simp [hC1, hC2] at hp hq hr
      obtain ⟨no, e0, _, w0⟩ := DataW.trod_int Try.underlying3 hp
      obtain ⟨nn, e1, _, w1⟩ := DataW.trod_int Try.underlying3 hq
      simp only [List.cons.injEq, and_true] at e0 e1
      obtain ⟨xs, hxs⟩ := trod_ints m r y2 hr
      have g0 := hcell 0 (by omega)
      have g1 := hcell 1 (by omega)
      have g2 := hcell 2 (by omega)
      subst e0 e1
      exact ⟨⟨no, nn, xs⟩, r, by simpa [Addr.add] using g0, by simpa using g1, by simpa using g2, bounds_i64 w0, bounds_i64 w1, hxs⟩
    subst hv
    obtain ⟨f, hfk⟩ := Deep.choose_lt key
    refine ⟨(List.range len).map f, some a, cap, by simp, by simpa using hl, hm, ?_⟩
    by_cases hz : len = 0
    · left; simp [hz]
    right
    obtain ⟨bl, off, spot⟩ := a
    obtain ⟨r, g0, _⟩ := hfk 0 (by omega)
    have hspot : spot = none := by simpa [Addr.add] using World.cell?_spot g0
    subst hspot
    refine ⟨bl, off, rfl, by have := cell_lt g0; simpa [Addr.add, Lt] using this, fun i hi => ?_⟩
    simp only [List.length_map, List.length_range] at hi
    obtain ⟨r, g0, g1, g2, g3, g4, g5⟩ := hfk i hi
    rw [WideShapes.add_plain] at g0 g1 g2
    rw [WideShapes.add_plain] at g1 g2
    exact ⟨r, by simpa using g0, by simpa using g1, g2, by simpa using g3, by simpa using g4, by simpa using g5⟩
end
end Go.Proofs.Ytjpjikfmdaejeaa
/-
  PLAIN FACTS ON GRAPHS: which lists of cells are graphs; where indirections lead. No program is named here.
-/
namespace Go.Proofs.Ytjpjikfmdaejeaa
set_option linter.unusedVariables false
set_option linter.unusedSimpArgs false

/-- how many operands a kind of cell has -/
def cArity (op : Int) : Int := if op = 11 then 1 else arity op
/-- are these cells of a graph? -/
def isAt (cells : Int) (k : Int) : Bool := decide (0 ≤ k ∧ k < cells)
/-- has a cell the fields of its kind, whatever its operands? -/
def fitsB (defs : Int) (c : Ce) : Bool := decide ((c.kids.length : Int) = cArity c.op) && ownB c.op c.num 0 defs
/-- is it a cell of a graph with some cells? -/
def cellB (cells defs : Int) (c : Ce) : Bool := fitsB defs c && c.kids.all (isAt cells)
def graphB (g : List Ce) (defs : Int) : Bool := decide ((g.length : Int) ≤ 400 ∧ 0 ≤ defs ∧ defs ≤ 6) && g.all (cellB g.length defs)

theorem ownB_var (n defs : Int) : ownB 1 n 0 defs = false := by unfold ownB; rw [if_pos rfl, decide_eq_false]; omega
theorem allI_take_succ {α : Type} (p : α → Bool) (l : List α) (i : Nat) (h : i < l.length) : (l.take (i + 1)).all p = ((l.take i).all p && p l[i]) := by
  rw [List.take_succ_eq_append_getElem h, List.all_append]; simp
theorem allI_false_of {α : Type} (p : α → Bool) (l : List α) (i : Nat) (h : i < l.length) (hp : p l[i] = false) : l.all p = false := by
  rw [List.all_eq_false]; exact ⟨l[i], List.getElem_mem h, by simp [hp]⟩

/-! ### Indirections -/
/-- the first operand -/
def kid0 (c : Ce) : Int := c.kids.getD 0 0
/-- the cell for which a cell stands -/
def nxt (g : List Ce) (a : Nat) : Nat := (kid0 (g.getD a ⟨0, 0, []⟩)).toNat
def opAt (g : List Ce) (a : Nat) : Int := (g.getD a ⟨0, 0, []⟩).op
/-- the first cell that is no indirection, after at most n looks -/
def followN (g : List Ce) : Nat → Nat → Option Nat
  | 0, _ => none
  | n + 1, a => if opAt g a = 11 then followN g n (nxt g a) else some a
/-- where n steps lead -/
def chase (g : List Ce) (a : Nat) : Nat → Nat
  | 0 => a
  | n + 1 => nxt g (chase g a n)
theorem chase_succ (g : List Ce) (a n : Nat) : chase g a (n + 1) = chase g (nxt g a) n := by
  induction n with
  | zero => rfl
  | succ n ih => rw [chase, ih]; rfl
theorem chase_add (g : List Ce) (a : Nat) (i k : Nat) : chase g a (i + k) = chase g (chase g a i) k := by
  induction k with
  | zero => rfl
  | succ k ih => rw [← Nat.add_assoc, chase, ih]; rfl
theorem followN_none {g : List Ce} : ∀ (n a : Nat), followN g n a = none → ∀ i, i < n → opAt g (chase g a i) = 11
  | 0, _, _, i, hi => absurd hi (by omega)
  | n + 1, a, h, i, hi => by
    unfold followN at h
    split at h
    · rename_i h1
      cases i with
      | zero => exact h1
      | succ i => rw [chase_succ]; exact followN_none n _ h i (by omega)
    · simp at h
/-- one more look -/
theorem followN_succ (g : List Ce) : ∀ (n a : Nat), followN g (n + 1) a = (followN g n a).or (if opAt g (chase g a n) = 11 then none else some (chase g a n))
  | 0, a => by rw [followN, followN, Option.none_or]; rfl
  | n + 1, a => by
    rw [followN]
    conv => rhs; rw [followN]
    split
    · rw [followN_succ g n (nxt g a), chase_succ]
    · simp

theorem pigeon : ∀ (n m : Nat) (f : Nat → Nat), (∀ i, i < m → f i < n) → (∀ i j, i < m → j < m → f i = f j → i = j) → m ≤ n
  | 0, m, f, hf, _ => by
    cases m with
    | zero => omega
    | succ m => exact absurd (hf 0 (by omega)) (by omega)
  | n + 1, 0, _, _, _ => by omega
  | n + 1, m + 1, f, hf, hi => by
    have := pigeon n m (fun i => if f i = n then f m else f i) (fun i h => by
      have h1 := hf i (by omega)
      have h2 := hf m (by omega)
      show (if f i = n then f m else f i) < n
      split
      · rename_i e
        have : f m ≠ n := fun e2 => by have := hi i m (by omega) (by omega) (by rw [e, e2]); omega
        omega
      · omega) (fun i j h1 h2 e => by
      have e : (if f i = n then f m else f i) = (if f j = n then f m else f j) := e
      split at e <;> split at e
      · rename_i a b; exact hi i j (by omega) (by omega) (by rw [a, b])
      · have := hi m j (by omega) (by omega) e; omega
      · have := hi i m (by omega) (by omega) e; omega
      · exact hi i j (by omega) (by omega) e)
    omega

theorem graphB_cell {g : List Ce} {defs : Int} (h : graphB g defs = true) (a : Nat) (ha : a < g.length) : cellB g.length defs g[a] = true := by
  unfold graphB at h
  simp only [Bool.and_eq_true, List.all_eq_true] at h
  exact h.2 _ (List.getElem_mem ha)
theorem graphB_len {g : List Ce} {defs : Int} (h : graphB g defs = true) : g.length ≤ 400 := by
  unfold graphB at h
  simp only [Bool.and_eq_true, decide_eq_true_eq] at h
  omega
theorem getD_at {α : Type} (g : List α) (d : α) (a : Nat) (ha : a < g.length) : g.getD a d = g[a] := by simp [ha]
/-- an indirection of a graph has one operand, a cell -/
theorem ind_kid {g : List Ce} {defs : Int} (h : graphB g defs = true) (a : Nat) (ha : a < g.length) (ho : g[a].op = 11) : ∃ k : Nat, g[a].kids = [(k : Int)] ∧ k < g.length ∧ nxt g a = k := by
  have hc := graphB_cell h a ha
  unfold cellB fitsB cArity at hc
  simp only [Bool.and_eq_true, decide_eq_true_eq, List.all_eq_true, isAt] at hc
  obtain ⟨⟨h1, -⟩, h3⟩ := hc
  rw [if_pos ho] at h1
  obtain ⟨x, hx⟩ : ∃ x, g[a].kids = [x] := by
    have h2 : g[a].kids.length = 1 := by omega
    revert h2
    generalize g[a].kids = l
    intro h2
    match l, h2 with
    | [x], _ => exact ⟨x, rfl⟩
  have h4 := h3 x (by rw [hx]; simp)
  refine ⟨x.toNat, by rw [hx]; simp; omega, by omega, ?_⟩
  unfold nxt kid0
  rw [getD_at _ _ _ ha, hx]
  rfl
theorem nxt_lt {g : List Ce} {defs : Int} (h : graphB g defs = true) (a : Nat) (ha : a < g.length) (ho : opAt g a = 11) : nxt g a < g.length := by
  unfold opAt at ho
  rw [getD_at _ _ _ ha] at ho
  obtain ⟨k, -, h2, h3⟩ := ind_kid h a ha ho
  omega
/-- as many looks as there are cells are enough -/
theorem follow_enough {g : List Ce} {defs : Int} (h : graphB g defs = true) (a : Nat) (ha : a < g.length) : followN g (g.length + 1) a = followN g g.length a := by
  rw [followN_succ]
  cases hf : followN g g.length a with
  | some b => rfl
  | none =>
    have hall := followN_none _ _ hf
    simp only [Option.none_or]
    split
    · rfl
    · rename_i hne
      exfalso
      have hlt : ∀ i, i ≤ g.length → chase g a i < g.length := by
        intro i
        induction i with
        | zero => intro _; exact ha
        | succ i ih => intro hi; rw [chase]; exact nxt_lt h _ (ih (by omega)) (hall i (by omega))
      have := pigeon g.length (g.length + 1) (chase g a) (fun i hi => hlt i (by omega)) (by
        have key : ∀ i j, i < j → j ≤ g.length → chase g a i ≠ chase g a j := by
          intro i j hij hj e
          have e1 : chase g a (i + (g.length - j)) = chase g a (j + (g.length - j)) := by rw [chase_add, chase_add, e]
          have e2 := hall (i + (g.length - j)) (by omega)
          rw [e1, show j + (g.length - j) = g.length by omega] at e2
          exact hne e2
        intro i j hi hj e
        rcases Nat.lt_trichotomy i j with h1 | h1 | h1
        · exact absurd e (key i j h1 (by omega))
        · exact h1
        · exact absurd e.symm (key j i h1 (by omega)))
      omega
/-- where a cell leads, or none -/
def followB (g : List Ce) (a : Int) : Option Nat := if graphB g 6 = true ∧ 0 ≤ a ∧ a < g.length then followN g g.length a.toNat else none
def folV (g : List Ce) (a : Int) : Int := match followB g a with | some b => (b : Int) | none => 0
def folB (g : List Ce) (a : Int) : Bool := (followB g a).isSome
theorem fol_no {g : List Ce} {a : Int} (h : ¬ (graphB g 6 = true ∧ 0 ≤ a ∧ a < g.length)) : folV g a = 0 ∧ folB g a = false := by
  unfold folV folB followB; rw [if_neg h]; exact ⟨rfl, rfl⟩
theorem fol_none {g : List Ce} {a : Int} (h : graphB g 6 = true ∧ 0 ≤ a ∧ a < g.length) (hf : followN g g.length a.toNat = none) : folV g a = 0 ∧ folB g a = false := by
  unfold folV folB followB; rw [if_pos h, hf]; exact ⟨rfl, rfl⟩
theorem fol_some {g : List Ce} {a : Int} (h : graphB g 6 = true ∧ 0 ≤ a ∧ a < g.length) {b : Nat} (hf : followN g g.length a.toNat = some b) : folV g a = b ∧ folB g a = true := by
  unfold folV folB followB; rw [if_pos h, hf]; exact ⟨rfl, rfl⟩
theorem followN_lt {g : List Ce} {defs : Int} (h : graphB g defs = true) : ∀ (n a b : Nat), a < g.length → followN g n a = some b → b < g.length ∧ opAt g b ≠ 11
  | 0, _, _, _, e => by simp [followN] at e
  | n + 1, a, b, ha, e => by
    unfold followN at e
    split at e
    · rename_i ho
      exact followN_lt h n _ b (nxt_lt h a ha ho) e
    · rename_i ho
      cases e
      exact ⟨ha, ho⟩
end Go.Proofs.Ytjpjikfmdaejeaa
/-
  PLAIN FACTS ON WHAT CAN BE REACHED IN A GRAPH: the two searches (marked when taken from the work, marked when added to it), each with what holds behind every step. No program is named here.
-/
namespace Go.Proofs.Ytjpjikfmdaejeaa
set_option linter.unusedVariables false
set_option linter.unusedSimpArgs false

/-- the operands of a cell, as places -/
def kidsN (g : List Ce) (a : Nat) : List Nat := (g.getD a ⟨0, 0, []⟩).kids.map Int.toNat
inductive Reach (g : List Ce) (r : Nat) : Nat → Prop
  | root : Reach g r r
  | kid (a k : Nat) : Reach g r a → k ∈ kidsN g a → Reach g r k

theorem arity_le (op : Int) : cArity op ≤ 3 := by unfold cArity arity; repeat' split; all_goals omega
theorem kids_graph {g : List Ce} {defs : Int} (h : graphB g defs = true) (a : Nat) (ha : a < g.length) : g[a].kids.length ≤ 3 ∧ ∀ k ∈ g[a].kids, 0 ≤ k ∧ k < g.length := by
  have hc := graphB_cell h a ha
  unfold cellB fitsB at hc
  simp only [Bool.and_eq_true, decide_eq_true_eq, List.all_eq_true, isAt] at hc
  obtain ⟨⟨h1, -⟩, h3⟩ := hc
  have := arity_le g[a].op
  exact ⟨by omega, h3⟩
theorem kidsN_at {g : List Ce} (a : Nat) (ha : a < g.length) : kidsN g a = g[a].kids.map Int.toNat := by unfold kidsN; rw [getD_at _ _ _ ha]
theorem kidsN_len {g : List Ce} {defs : Int} (h : graphB g defs = true) (a : Nat) (ha : a < g.length) : (kidsN g a).length ≤ 3 := by rw [kidsN_at a ha]; simpa using (kids_graph h a ha).1
theorem kidsN_lt {g : List Ce} {defs : Int} (h : graphB g defs = true) (a : Nat) (ha : a < g.length) (k : Nat) (hk : k ∈ kidsN g a) : k < g.length := by
  rw [kidsN_at a ha] at hk
  simp only [List.mem_map] at hk
  obtain ⟨x, hx, rfl⟩ := hk
  have := (kids_graph h a ha).2 x hx
  omega
/-- operand j, as a number -/
theorem kidsN_get {g : List Ce} {defs : Int} (h : graphB g defs = true) (a : Nat) (ha : a < g.length) (j : Nat) (hj : j < g[a].kids.length) : ∃ k : Nat, g[a].kids[j] = (k : Int) ∧ k < g.length ∧ (kidsN g a)[j]? = some k := by
  have h1 := (kids_graph h a ha).2 _ (List.getElem_mem hj)
  refine ⟨(g[a].kids[j]).toNat, by omega, by omega, ?_⟩
  rw [kidsN_at a ha]
  simp [hj]

def setF (f : Nat → Bool) (a : Nat) : Nat → Bool := fun b => if b = a then true else f b
theorem setF_same (f : Nat → Bool) (a : Nat) : setF f a a = true := by simp [setF]
theorem setF_of {f : Nat → Bool} {a b : Nat} (h : f b = true) : setF f a b = true := by unfold setF; split <;> simp_all
theorem setF_inv {f : Nat → Bool} {a b : Nat} (h : setF f a b = true) : b = a ∨ f b = true := by
  unfold setF at h; split at h
  · left; assumption
  · right; exact h
/-- how many places are not marked yet -/
def unset (f : Nat → Bool) : Nat → Nat
  | 0 => 0
  | n + 1 => unset f n + if f n then 0 else 1
theorem unset_le (f : Nat → Bool) : ∀ n, unset f n ≤ n
  | 0 => Nat.le_refl _
  | n + 1 => by have := unset_le f n; unfold unset; split <;> omega
theorem unset_out (f : Nat → Bool) (a : Nat) : ∀ n, n ≤ a → unset (setF f a) n = unset f n
  | 0, _ => rfl
  | n + 1, h => by
    have e : setF f a n = f n := by unfold setF; rw [if_neg (by omega)]
    unfold unset; rw [unset_out f a n (by omega), e]
theorem unset_set (f : Nat → Bool) (a : Nat) (hf : f a = false) : ∀ n, a < n → unset (setF f a) n + 1 = unset f n
  | 0, h => by omega
  | n + 1, h => by
    by_cases e : a = n
    · subst e
      unfold unset
      rw [unset_out f a a (Nat.le_refl _), setF_same, hf]
      simp
    · have e2 : setF f a n = f n := by unfold setF; rw [if_neg (by omega)]
      have := unset_set f a hf n (by omega)
      unfold unset; rw [e2]; omega

/-! ### The model's search: marked when it is taken -/
structure SInv (g : List Ce) (r : Nat) (f : Nat → Bool) (work : List Nat) : Prop where
  rt : f r = true ∨ r ∈ work
  fl : ∀ a, f a = true → Reach g r a ∧ a < g.length
  wk : ∀ a ∈ work, Reach g r a ∧ a < g.length
  cl : ∀ a, f a = true → ∀ k ∈ kidsN g a, f k = true ∨ k ∈ work
theorem SInv.start (g : List Ce) (r : Nat) (hr : r < g.length) : SInv g r (fun _ => false) [r] where
  rt := Or.inr (by simp)
  fl := by intro a h; cases h
  wk := by intro a h; simp only [List.mem_singleton] at h; subst h; exact ⟨.root, hr⟩
  cl := by intro a h; cases h
theorem SInv.old {g : List Ce} {r a : Nat} {f : Nat → Bool} {rest : List Nat} (h : SInv g r f (rest ++ [a])) (ha : f a = true) : SInv g r f rest where
  rt := by
    rcases h.rt with h1 | h1
    · exact Or.inl h1
    · rcases List.mem_append.1 h1 with h2 | h2
      · exact Or.inr h2
      · simp only [List.mem_singleton] at h2; subst h2; exact Or.inl ha
  fl := h.fl
  wk := fun b hb => h.wk b (List.mem_append_left _ hb)
  cl := fun b hb k hk => by
    rcases h.cl b hb k hk with h1 | h1
    · exact Or.inl h1
    · rcases List.mem_append.1 h1 with h2 | h2
      · exact Or.inr h2
      · simp only [List.mem_singleton] at h2; subst h2; exact Or.inl ha
theorem SInv.new {g : List Ce} {r a : Nat} {defs : Int} {f : Nat → Bool} {rest : List Nat} (hg : graphB g defs = true) (h : SInv g r f (rest ++ [a])) : SInv g r (setF f a) (rest ++ kidsN g a) := by
  have ha := h.wk a (List.mem_append_right _ (by simp))
  refine ⟨?_, fun b hb => ?_, fun b hb => ?_, fun b hb k hk => ?_⟩
  · rcases h.rt with h1 | h1
    · exact Or.inl (setF_of h1)
    · rcases List.mem_append.1 h1 with h2 | h2
      · exact Or.inr (List.mem_append_left _ h2)
      · simp only [List.mem_singleton] at h2; subst h2; exact Or.inl (setF_same _ _)
  · rcases setF_inv hb with rfl | h1
    · exact ha
    · exact h.fl b h1
  · rcases List.mem_append.1 hb with h1 | h1
    · exact h.wk b (List.mem_append_left _ h1)
    · exact ⟨.kid a b ha.1 h1, kidsN_lt hg a ha.2 b h1⟩
  · rcases setF_inv hb with rfl | h1
    · exact Or.inr (List.mem_append_right _ hk)
    · rcases h.cl b h1 k hk with h2 | h2
      · exact Or.inl (setF_of h2)
      · rcases List.mem_append.1 h2 with h3 | h3
        · exact Or.inr (List.mem_append_left _ h3)
        · simp only [List.mem_singleton] at h3; subst h3; exact Or.inl (setF_same _ _)
theorem SInv.done {g : List Ce} {r : Nat} {f : Nat → Bool} (h : SInv g r f []) (a : Nat) : f a = true ↔ Reach g r a := by
  refine ⟨fun h1 => (h.fl a h1).1, fun h1 => ?_⟩
  induction h1 with
  | root => rcases h.rt with h1 | h1; exact h1; simp at h1
  | kid a k _ hk ih => rcases h.cl a ih k hk with h1 | h1; exact h1; simp at h1

/-! ### The program's search: marked when it is added -/
structure IInv (g : List Ce) (r : Nat) (f : Nat → Bool) (work : List Nat) : Prop where
  rt : f r = true
  fl : ∀ a, f a = true → Reach g r a ∧ a < g.length
  wk : ∀ a ∈ work, f a = true
  cl : ∀ a, f a = true → a ∈ work ∨ ∀ k ∈ kidsN g a, f k = true
/-- .. in the middle of the operands of a cell -/
structure MInv (g : List Ce) (r : Nat) (f : Nat → Bool) (work : List Nat) (at' j : Nat) : Prop where
  rt : f r = true
  fl : ∀ a, f a = true → Reach g r a ∧ a < g.length
  wk : ∀ a ∈ work, f a = true
  me : f at' = true
  cl : ∀ a, f a = true → a ∈ work ∨ a = at' ∨ ∀ k ∈ kidsN g a, f k = true
  js : ∀ i, i < j → ∀ k, (kidsN g at')[i]? = some k → f k = true
theorem IInv.start (g : List Ce) (r : Nat) (hr : r < g.length) : IInv g r (setF (fun _ => false) r) [r] where
  rt := setF_same _ _
  fl := by intro a h; rcases setF_inv h with rfl | h; exact ⟨.root, hr⟩; cases h
  wk := by intro a h; simp only [List.mem_singleton] at h; subst h; exact setF_same _ _
  cl := by intro a h; rcases setF_inv h with rfl | h; exact Or.inl (by simp); cases h
theorem IInv.pop {g : List Ce} {r a : Nat} {f : Nat → Bool} {rest : List Nat} (h : IInv g r f (rest ++ [a])) : MInv g r f rest a 0 where
  rt := h.rt
  fl := h.fl
  wk := fun b hb => h.wk b (List.mem_append_left _ hb)
  me := h.wk a (List.mem_append_right _ (by simp))
  cl := fun b hb => by
    rcases h.cl b hb with h1 | h1
    · rcases List.mem_append.1 h1 with h2 | h2
      · exact Or.inl h2
      · simp only [List.mem_singleton] at h2; exact Or.inr (Or.inl h2)
    · exact Or.inr (Or.inr h1)
  js := fun i hi => absurd hi (by omega)
theorem MInv.old {g : List Ce} {r a j k : Nat} {f : Nat → Bool} {work : List Nat} (h : MInv g r f work a j) (hk : (kidsN g a)[j]? = some k) (hf : f k = true) : MInv g r f work a (j + 1) where
  rt := h.rt
  fl := h.fl
  wk := h.wk
  me := h.me
  cl := h.cl
  js := fun i hi x hx => by
    by_cases e : i = j
    · subst e; rw [hk] at hx; cases hx; exact hf
    · exact h.js i (by omega) x hx
theorem MInv.new {g : List Ce} {r a j k : Nat} {f : Nat → Bool} {work : List Nat} (h : MInv g r f work a j) (hk : (kidsN g a)[j]? = some k) (hl : k < g.length) : MInv g r (setF f k) (work ++ [k]) a (j + 1) where
  rt := setF_of h.rt
  fl := fun b hb => by
    rcases setF_inv hb with rfl | h1
    · exact ⟨.kid a b (h.fl a h.me).1 (List.mem_of_getElem? hk), hl⟩
    · exact h.fl b h1
  wk := fun b hb => by
    rcases List.mem_append.1 hb with h1 | h1
    · exact setF_of (h.wk b h1)
    · simp only [List.mem_singleton] at h1; subst h1; exact setF_same _ _
  me := setF_of h.me
  cl := fun b hb => by
    rcases setF_inv hb with rfl | h1
    · exact Or.inl (by simp)
    · rcases h.cl b h1 with h2 | h2 | h2
      · exact Or.inl (List.mem_append_left _ h2)
      · exact Or.inr (Or.inl h2)
      · exact Or.inr (Or.inr fun x hx => setF_of (h2 x hx))
  js := fun i hi x hx => by
    by_cases e : i = j
    · subst e; rw [hk] at hx; cases hx; exact setF_same _ _
    · exact setF_of (h.js i (by omega) x hx)
theorem MInv.done {g : List Ce} {r a j : Nat} {f : Nat → Bool} {work : List Nat} (h : MInv g r f work a j) (hj : (kidsN g a).length ≤ j) : IInv g r f work where
  rt := h.rt
  fl := h.fl
  wk := h.wk
  cl := fun b hb => by
    rcases h.cl b hb with h1 | h1 | h1
    · exact Or.inl h1
    · subst h1
      refine Or.inr fun k hk => ?_
      obtain ⟨i, hi, e⟩ := List.mem_iff_getElem.1 hk
      exact h.js i (by omega) k (by rw [List.getElem?_eq_getElem hi, e])
    · exact Or.inr h1
theorem IInv.done {g : List Ce} {r : Nat} {f : Nat → Bool} (h : IInv g r f []) (a : Nat) : f a = true ↔ Reach g r a := by
  refine ⟨fun h1 => (h.fl a h1).1, fun h1 => ?_⟩
  induction h1 with
  | root => exact h.rt
  | kid a k _ hk ih => rcases h.cl a ih with h1 | h1; simp at h1; exact h1 k hk

/-- marks that tell what can be reached -/
theorem reach_marks (g : List Ce) (r : Nat) : ∃ f : Nat → Bool, ∀ a, f a = true ↔ Reach g r a := by
  refine ⟨fun a => @decide (Reach g r a) (Classical.propDecidable _), fun a => ?_⟩
  simp
theorem marks_eq {g : List Ce} {r : Nat} {f f' : Nat → Bool} (h : ∀ a, f a = true ↔ Reach g r a) (h' : ∀ a, f' a = true ↔ Reach g r a) : f = f' := by
  funext a
  have e := (h a).trans (h' a).symm
  cases h1 : f a <;> cases h2 : f' a <;> simp_all

/-- the places that are marked, in their order -/
def numsN (f : Nat → Bool) : Nat → List Nat
  | 0 => []
  | n + 1 => if f n then numsN f n ++ [n] else numsN f n
theorem numsN_len (f : Nat → Bool) : ∀ n, (numsN f n).length ≤ n
  | 0 => by simp [numsN]
  | n + 1 => by have := numsN_len f n; unfold numsN; split <;> simp <;> omega
theorem numsN_yes {f : Nat → Bool} {n : Nat} (h : f n = true) : numsN f (n + 1) = numsN f n ++ [n] := by rw [numsN, if_pos h]
theorem numsN_no {f : Nat → Bool} {n : Nat} (h : f n = false) : numsN f (n + 1) = numsN f n := by rw [numsN, if_neg (by rw [h]; simp)]
def numsTo (f : Nat → Bool) (n : Nat) : List Int := (numsN f n).map fun (a : Nat) => (a : Int)
theorem numsTo_len (f : Nat → Bool) (n : Nat) : (numsTo f n).length ≤ n := by unfold numsTo; rw [List.length_map]; exact numsN_len f n
/-- what CellsFrom answers -/
def fromB (g : List Ce) (root : Int) (f : Nat → Bool) : List Int := if graphB g 6 = true ∧ isAt g.length root = true then numsTo f g.length else []
theorem fromB_len (g : List Ce) (root : Int) (f : Nat → Bool) : (fromB g root f).length ≤ g.length := by
  unfold fromB; split
  · exact numsTo_len f _
  · simp
theorem fromB_no {g : List Ce} {root : Int} {fl : Nat → Bool} (h : ¬ (graphB g 6 = true ∧ isAt g.length root = true)) : fromB g root fl = [] := by unfold fromB; rw [if_neg h]
theorem fromB_yes {g : List Ce} {root : Int} {fl : Nat → Bool} (h : graphB g 6 = true ∧ isAt g.length root = true) : fromB g root fl = numsTo fl g.length := by unfold fromB; rw [if_pos h]
theorem take_snoc {l : List Nat} {j k : Nat} (h : l[j]? = some k) : l.take (j + 1) = l.take j ++ [k] := by
  have hj := (List.getElem?_eq_some_iff.1 h).1
  have e := (List.getElem?_eq_some_iff.1 h).2
  rw [List.take_succ_eq_append_getElem hj, e]
end Go.Proofs.Ytjpjikfmdaejeaa
/-
  A STACK OF PLACES (a slice of ints that a call owns) AND MARKS (a row of bools).
-/
namespace Go.Proofs.Ytjpjikfmdaejeaa
set_option linter.unusedVariables false
set_option linter.unusedSimpArgs false
open Go.RowKit

theorem infoI1 : ∃ i z, Try.prog.info? 3 = some i ∧ i.zero = some z ∧ i.size = 1 ∧ i.bytes = 8 ∧ z.cells.size = 1 := by
  obtain ⟨i, hi, hzz⟩ := Option.map_eq_some_iff.1 infoI
  simp only [Prod.mk.injEq] at hzz
  obtain ⟨hz, hs, hb⟩ := hzz
  exact ⟨i, _, hi, hz, hs, hb, rfl⟩
/-- places, as numbers -/
def plI (ws : List Nat) : List Int := ws.map fun (a : Nat) => (a : Int)
theorem plI_length (ws : List Nat) : (plI ws).length = ws.length := by simp [plI]
/-- places, as values -/
def plV (ws : List Nat) : List Value := ws.map fun (a : Nat) => Value.int .i64 (a : Int)
theorem plV_length (ws : List Nat) : (plV ws).length = ws.length := by simp [plV]
theorem plV_one (ws : List Nat) : ∀ u ∈ plV ws, u.oneCell' = true := by
  intro u hu
  simp only [plV, List.mem_map] at hu
  obtain ⟨a, -, rfl⟩ := hu
  rfl
def Stk (w : World) (lo : Nat) (ws : List Nat) (v : Value) : Prop := w.ownsRow lo 3 1 v ws.length (plV ws)
theorem Stk.keep {w w' : World} {lo : Nat} {ws : List Nat} {v : Value} (h : Stk w lo ws v) (hk : ∀ k, lo ≤ k → k < w.heap.size → w'.heap[k]? = w.heap[k]?) : Stk w' lo ws v := by
  refine ⟨h.1, ?_⟩
  rcases h.2 with h | ⟨g, cap, cur, rfl, hg, hh, r⟩
  · exact Or.inl h
  · exact Or.inr ⟨g, cap, cur, rfl, hg, (hk g hg (Array.getElem?_eq_some_iff.1 hh).1).trans hh, r⟩
theorem Stk.top {w : World} {lo : Nat} {ws : List Nat} {a : Nat} {v : Value} (h : Stk w lo (ws ++ [a]) v) :
    ∃ g cap, v = .slice (some ⟨g, 0, none⟩) (ws.length + 1) cap ∧ lo ≤ g ∧ g < w.heap.size ∧ ws.length + 1 ≤ cap ∧ cap ≤ maxLen ∧ w.cell? ⟨g, ws.length, none⟩ = some (.int .i64 (a : Int)) ∧ Stk w lo ws (.slice (some ⟨g, 0, none⟩) ws.length cap) := by
  obtain ⟨h1, h2⟩ := h
  rcases h2 with ⟨-, h0⟩ | ⟨g, cap, cur, hv, hg, hh, hn, hc, hs, htk⟩
  · simp at h0
  · simp only [List.length_append, List.length_cons, List.length_nil, Nat.zero_add] at hv hn htk
    simp only [Nat.mul_one] at hs htk
    have hlt : ws.length < cur.size := by omega
    have e1 : (cur.toList.take (ws.length + 1))[ws.length]? = (plV (ws ++ [a]))[ws.length]? := by rw [htk]
    have e2 : cur.toList.take ws.length = plV ws := by
      have := congrArg (List.take ws.length) htk
      rw [List.take_take, Nat.min_eq_left (by omega)] at this
      rw [this]
      simp [plV]
    refine ⟨g, cap, hv, hg, (Array.getElem?_eq_some_iff.1 hh).1, hn, hc, ?_, by rw [plV_length]; omega, Or.inr ⟨g, cap, cur, rfl, hg, hh, by omega, hc, by omega, by rw [Nat.mul_one]; exact e2⟩⟩
    simp only [World.cell?, hh]
    rw [List.getElem?_take_of_lt (by omega)] at e1
    have e3 : (plV (ws ++ [a]))[ws.length]? = some (.int .i64 (a : Int)) := by simp [plV]
    rw [e3] at e1
    simpa using e1
theorem own_lo {w : World} {base n size : Nat} {e : TypeId} {v : Value} {xs : List Value} (h : w.ownsRow base e size v n xs) {k : Nat} (hk : some k = v.ownBlock) : base ≤ k := by
  rcases h.2 with ⟨rfl, -⟩ | ⟨g, cap, cur, rfl, hg, -⟩
  · simp [Value.ownBlock] at hk
  · simp only [Value.ownBlock, Option.some.injEq] at hk
    omega
theorem Stk.nil {w : World} {lo : Nat} {v : Value} {n : Nat} (h : Stk w lo [] v) : ∃ ad cap, v = .slice ad 0 cap := by
  rcases h.2 with ⟨rfl, -⟩ | ⟨g, cap, cur, rfl, -⟩
  · exact ⟨_, _, rfl⟩
  · exact ⟨_, _, rfl⟩
theorem Stk.len {w : World} {lo : Nat} {ws : List Nat} {v : Value} (h : Stk w lo ws v) : ∃ ad cap, v = .slice ad ws.length cap := by
  rcases h.2 with ⟨rfl, h0⟩ | ⟨g, cap, cur, rfl, -⟩
  · exact ⟨none, 0, by rw [h0]⟩
  · exact ⟨_, _, rfl⟩
/-- a new row of one place -/
theorem Stk.one (w : World) (lo : Nat) (a : Nat) (h : lo ≤ w.heap.size) : Stk (w.alloc (.cells #[.int .i64 (a : Int)] 3)) lo [a] (.slice (some ⟨w.heap.size, 0, none⟩) 1 1) :=
  ⟨rfl, Or.inr ⟨w.heap.size, 1, _, rfl, h, Deep.blk_alloc_new _ _, Nat.le_refl _, by simp [maxLen], rfl, rfl⟩⟩

theorem Stk.row {w : World} {lo : Nat} {ws : List Nat} {v : Value} (h : Stk w lo ws v) : IntRow w lo (ws.map fun (a : Nat) => (a : Int)) v := by
  rcases h.2 with ⟨rfl, h0⟩ | ⟨g, cap, cur, rfl, hg, hh, hn, hc, hs, htk⟩
  · obtain rfl : ws = [] := List.eq_nil_of_length_eq_zero h0
    exact IntRow.none _ _
  · rw [Nat.mul_one] at hs htk
    refine ⟨_, cap, by rw [List.length_map], by rw [List.length_map]; exact hn, hc, Or.inr ⟨g, fun i => cur.getD i undef, rfl, hg, ⟨cur, hh, hs, fun i hi => ?_⟩, fun i hi => ?_⟩⟩
    · have hi' : i < cur.size := by omega
      simp [Array.getD, hi']
    · rw [List.length_map] at hi
      have hi' : i < cur.size := by omega
      have e1 : (cur.toList.take ws.length)[i]? = (plV ws)[i]? := by rw [htk]
      rw [List.getElem?_take_of_lt hi] at e1
      have e2 : (plV ws)[i]? = some (.int .i64 (ws[i] : Int)) := by simp [plV, hi]
      rw [e2] at e1
      simp [Array.getD, hi'] at e1 ⊢
      exact e1
/-- one place in a new block, as a slice that is appended -/
theorem one_in (w : World) (a : Nat) : IIn (w.alloc (.cells #[.int .i64 (a : Int)] 3)) [(a : Int)] (.slice (some ⟨w.heap.size, 0, none⟩) 1 1) := by
  refine ⟨_, 1, rfl, Nat.le_refl _, by simp [maxLen], Or.inr ⟨_, 0, rfl, by show w.heap.size < _; rw [Deep.nblk_alloc]; omega, fun i hi => ?_⟩⟩
  obtain rfl : i = 0 := by simp at hi; omega
  exact box_cell w #[.int .i64 (a : Int)] 3 0 _ rfl
theorem Stk.alloc {w : World} {lo : Nat} {ws : List Nat} {v : Value} (h : Stk w lo ws v) (o : Obj) : Stk (w.alloc o) lo ws v := h.keep fun k _ hk => Deep.blk_alloc_lt _ _ _ hk

/-- the operands of a cell, as values -/
theorem ints_news {w : World} {xs : List Int} {ws : List Nat} {ad : Addr} {n cap : Nat} (h : IIn w xs (.slice (some ad) n cap)) (hx : xs = ws.map fun (a : Nat) => (a : Int)) : ∀ j u, (plV ws)[j]? = some u → w.cell? (ad.add j) = some u := by
  intro j u hu
  subst hx
  obtain ⟨ad', cap', he, -, -, hr⟩ := h
  simp only [Value.slice.injEq, Option.some.injEq] at he
  obtain ⟨rfl, -, -⟩ := he
  have hj : j < ws.length := by
    rcases Nat.lt_or_ge j ws.length with h | h
    · exact h
    · rw [List.getElem?_eq_none (by rw [plV_length]; exact h)] at hu; cases hu
  rcases hr with hnil | ⟨bl, off, e, -, hr⟩
  · simp at hnil; subst hnil; simp at hj
  · simp only [Option.some.injEq] at e
    subst e
    rw [WideShapes.add_plain]
    have := hr j (by simpa using hj)
    rw [this]
    simp [plV, hj] at hu
    simpa using hu
theorem kids_back {g : List Ce} {defs : Int} (h : graphB g defs = true) (a : Nat) (ha : a < g.length) : g[a].kids = (kidsN g a).map fun (a : Nat) => (a : Int) := by
  rw [kidsN_at a ha, List.map_map]
  refine List.ext_getElem (by simp) fun i h1 h2 => ?_
  have := (kids_graph h a ha).2 _ (List.getElem_mem h1)
  simp
  omega
theorem split_last {α : Type} (l : List α) (h : 0 < l.length) : ∃ r a, l = r ++ [a] := by
  have hne : l ≠ [] := by intro e; subst e; simp at h
  exact ⟨l.dropLast, l.getLast hne, (List.dropLast_concat_getLast hne).symm⟩

/-- append of places to a stack, out of any slice of ints -/
theorem run_push (w : World) (lo : Nat) (ws news : List Nat) (v x : Value) (ty : TypeId) (hst : Stk w lo ws v) {xs : List Int} (hx : IIn w xs x) (hxs : xs = news.map fun (a : Nat) => (a : Int)) (hlo : lo ≤ w.heap.size) (hb : ws.length + news.length ≤ 1048576) :
    ∃ v' w', (Builtin.append_ #[23, 23] ty #[v, x]).run Try.prog w = .ok v' w' ∧ Stk w' lo (ws ++ news) v' ∧ w.grownBy w' v.ownBlock := by
  obtain ⟨i, z, hi, hz, hs, hby, hzs⟩ := infoI1
  have hlen : xs.length = news.length := by rw [hxs]; simp
  have hx2 := hx
  obtain ⟨ad, cap, rfl, -, -, hr⟩ := hx2
  rcases ad with _ | ad
  · have hnil : news = [] := by
      rcases hr with h | ⟨_, _, h, -⟩
      · rw [h] at hlen; exact List.eq_nil_of_length_eq_zero hlen.symm
      · simp at h
    subst hnil
    rw [hlen]
    refine ⟨v, w, ?_, by simpa using hst, ⟨rfl, rfl, rfl, Nat.le_refl _, fun _ _ _ => rfl⟩⟩
    rcases hst.2 with ⟨rfl, h0⟩ | ⟨g, cap, cur, rfl, _, _, hnc, _⟩
    · simp [Builtin.append_, run_underlying Try.underlying23, sizeOf, typeInfo, hi, Builtin.lenOf, Builtin.firstCells]
    · simp [Builtin.append_, run_underlying Try.underlying23, sizeOf, typeInfo, hi, Builtin.lenOf, Builtin.firstCells, hnc, storeCells]
  · obtain ⟨v', w', hrun, hown, hg, -⟩ := run_append_own (P := Try.prog) w lo 23 ty 3 i z 1 8 Try.underlying23 hi hz hs hby hzs (by decide) v ws.length (plV ws) hst ad news.length cap (plV news) (by rw [plV_length, Nat.mul_one]) (ints_news hx hxs) (plV_one _) (by unfold maxLen; omega) (by omega) hlo
    rw [← hlen] at hrun
    refine ⟨v', w', hrun, ?_, hg⟩
    unfold Stk
    have e : plV (ws ++ news) = plV ws ++ plV news := by simp [plV]
    rw [e, List.length_append]
    exact hown
theorem wpList_push {ops : Array Oper} {rest : List Oper} {o : Oper} {a : Act} {Q : Exit → Act → World → Prop} (hgd : o.guard = none) (s x : Operand)
    (ho : o.op = .call { callee := .builtin .append, args := #[s, x], argTypes := #[23, 23] })
    (w : World) (lo : Nat) (ws news : List Nat) (v xv : Value) (hs : a.eval s = v) (hst : Stk w lo ws v) (hxe : a.eval x = xv) {xs : List Int} (hx : IIn w xs xv) (hxs : xs = news.map fun (a : Nat) => (a : Int)) (hlo : lo ≤ w.heap.size) (hb : ws.length + news.length ≤ 1048576)
    (h : ∀ v' w', Stk w' lo (ws ++ news) v' → w.grownBy w' v.ownBlock → wpList Try.prog ops Q rest (a.put o.dst v') w') : wpList Try.prog ops Q (o :: rest) a w := by
  refine wpList_plain hgd fun K hK => ?_
  obtain ⟨v', w', hrun, h2, h3⟩ := run_push w lo ws news v xv o.type hst hx hxs hlo hb
  unfold Oper.wp
  simp [execOp, ho, resolve, invoke, builtin, hs, hxe, hrun, Result.andThen]
  exact hK _ _ (h v' w' h2 h3)

/-- no numbers, in whatever block -/
theorem no_ints (w : World) (lo : Nat) (ad : Option Addr) (cap : Nat) (h : cap ≤ maxLen) : IntRow w lo [] (.slice ad 0 cap) := ⟨ad, cap, rfl, Nat.zero_le _, h, Or.inl rfl⟩
end Go.Proofs.Ytjpjikfmdaejeaa
/-
  MARKS: a row of bools.
-/
namespace Go.Proofs.Ytjpjikfmdaejeaa
set_option linter.unusedVariables false
set_option linter.unusedSimpArgs false
open Go.RowKit

/-! ### Marks -/
theorem infoB : (Try.prog.info? 4).map (fun i => (i.zero, i.size, i.bytes)) = some (some (.bool false), 1, 1) := by kernel_rfl
theorem make_bools (n : Nat) (h : n ≤ 1048576) : ∀ w : World, (Instr.makeSlice 63 (.int .i64 (n : Int)) (.int .i64 (n : Int))).run Try.prog w = .ok (.slice (some ⟨w.heap.size, 0, none⟩) n n) (w.alloc (.cells (madeCells #[.bool false] n) 4)) := by
  obtain ⟨i, hi, hzz⟩ := Option.map_eq_some_iff.1 infoB
  simp only [Prod.mk.injEq] at hzz
  obtain ⟨hz, hs, hb⟩ := hzz
  intro w
  have hr := run_make (P := Try.prog) w 63 4 i _ Try.underlying63 hi hz .i64 .i64 n n (by omega) (Int.le_refl _) (by rw [hb]; omega) (by omega)
  simp only [Int.toNat_natCast, hs, Nat.mul_one] at hr
  exact hr
/-- a row of marks -/
abbrev Marks (w : World) (b n : Nat) (f : Nat → Bool) : Prop := w.rowIs b 4 n (fun i => .bool (f i))
theorem no_marks (w : World) (n : Nat) : Marks (w.alloc (.cells (madeCells #[.bool false] n) 4)) w.heap.size n (fun _ => false) := by
  have hl : (madeCells #[.bool false] n).toList = List.replicate n (.bool false) := toList_madeCells_one _ _
  have hsz : (madeCells #[.bool false] n).size = n := by rw [← Array.length_toList, hl, List.length_replicate]
  refine ⟨_, Deep.blk_alloc_new _ _, hsz, fun i hi => ?_⟩
  rw [← Array.getElem?_toList, hl, List.getElem?_replicate, if_pos hi]
theorem Marks.mark {w : World} {b n : Nat} {f : Nat → Bool} (h : Marks w b n f) (a : Nat) : Marks (w.setCell ⟨b, a, none⟩ (.bool true)) b n (setF f a) := by
  refine World.rowIs.congr (h.set a _) fun i hi => ?_
  unfold setF
  by_cases e : i = a
  · simp [e]
  · simp [e]
end Go.Proofs.Ytjpjikfmdaejeaa
/-
  THE MODEL's l1Kids AND l1Own.
-/
namespace Go.Proofs.Ytjpjikfmdaejeaa
set_option linter.unusedVariables false
set_option linter.unusedSimpArgs false
open Go.RowKit

set_option maxHeartbeats 400000 in
theorem l1Kids_calls (op : Int) (w : World) : Calls Try.prog 61 #[.int .i64 op] w fun e w' => e = .returned (.int .i64 (arity op)) ∧ w = w' := by
  go_enter Try.func61, Try.ntmps61
  go_wp2_with fail
  all_goals go_ret
  all_goals refine ⟨ret_int ?_, rfl⟩
  all_goals show (_ : Int) = arity op
  all_goals unfold arity
  all_goals simp_all

set_option maxHeartbeats 400000 in
theorem l1Own_calls (op n vars defs : Int) (c : Value) (w : World) : Calls Try.prog 62 #[.agg #[.int .i64 op, .int .i64 n, c], .int .i64 vars, .int .i64 defs] w fun e w' => e = .returned (.bool (ownB op n vars defs)) ∧ Below w.heap.size w w' := by
  go_enter Try.func62, Try.ntmps62
  go_wp2_with fail
  all_goals go_ret
  all_goals refine ⟨ret_bool ?_, (Below.refl _ _).alloc (Nat.le_refl _) _⟩
  all_goals show (_ : Bool) = ownB op n vars defs
  all_goals unfold ownB
  all_goals simp_all
  all_goals (first | omega | rfl)

theorem own_true (op n vars defs : Int) (c : Value) (w : World) (h : ownB op n vars defs = true) : Calls Try.prog 62 #[.agg #[.int .i64 op, .int .i64 n, c], .int .i64 vars, .int .i64 defs] w fun e w' => e = .returned (.bool true) ∧ Below w.heap.size w w' := by
  have := l1Own_calls op n vars defs c w; rwa [h] at this
theorem own_false (op n vars defs : Int) (c : Value) (w : World) (h : ownB op n vars defs = false) : Calls Try.prog 62 #[.agg #[.int .i64 op, .int .i64 n, c], .int .i64 vars, .int .i64 defs] w fun e w' => e = .returned (.bool false) ∧ Below w.heap.size w w' := by
  have := l1Own_calls op n vars defs c w; rwa [h] at this

theorem l1Kids_below (op : Int) (w : World) : Calls Try.prog 61 #[.int .i64 op] w fun e w' => e = .returned (.int .i64 (arity op)) ∧ Below w.heap.size w w' :=
  (l1Kids_calls op w).mono fun _ _ ⟨h, e⟩ => ⟨h, e ▸ Below.refl _ _⟩
end Go.Proofs.Ytjpjikfmdaejeaa
