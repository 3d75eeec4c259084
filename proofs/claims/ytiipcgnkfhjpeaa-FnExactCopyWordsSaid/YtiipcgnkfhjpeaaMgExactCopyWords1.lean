/-
  TREES IN MEMORY. An expression of the program (Op, N, Kids) as a tree of numbers; what it means that a slice value of some world holds the trees of a list, its blocks out of a set S. It stays so while the blocks of S stay as they are. How such trees are had from the reading of an argument.
-/
import Derived.WalkKit
import Derived.ProofKit
import Derived.Deep.OwnRows
import Derived.Deep.Slices
import Derived.Deep.Strs
import Derived.Lib.SmallJoins
import Derived.OpenShut
import Derived.Lib.QuietBelow
import Derived.Test.YtiipcgnkfhjpeaaProg
import Derived.Deep.QuietTactic
import Derived.BigQuiet
import Derived.WalkSmall
import Derived.Deep.RegionHeld3
import Derived.Deep.RegionWith
import Derived.Deep.DeepMust
namespace Go.Proofs.Ytiipcgnkfhjpeaa
set_option linter.unusedVariables false
set_option linter.unusedSimpArgs false
open Go.RowKit

theorem mkHid {p : Prop} (h : p) : Hid p := h

inductive Tr where
  | node (op n : Int) (kids : List Tr)

namespace Tr
def op : Tr → Int | .node o _ _ => o
def num : Tr → Int | .node _ n _ => n
def kids : Tr → List Tr | .node _ _ k => k
@[simp] theorem op_node (o n : Int) (k : List Tr) : (Tr.node o n k).op = o := rfl
@[simp] theorem num_node (o n : Int) (k : List Tr) : (Tr.node o n k).num = n := rfl
@[simp] theorem kids_node (o n : Int) (k : List Tr) : (Tr.node o n k).kids = k := rfl
end Tr
instance : Inhabited Tr := ⟨.node 0 0 []⟩

/-- a number that fits Go's int -/
def I64 (n : Int) : Prop := -9223372036854775808 ≤ n ∧ n ≤ 9223372036854775807

mutual
/-- the three cells (Op, N, Kids) of a tree -/
def TrOn (w : World) (S : Nat → Prop) : Tr → Value → Value → Value → Prop
  | .node op n ks, a, b, c => a = .int .i64 op ∧ b = .int .i64 n ∧ I64 op ∧ I64 n ∧
      ∃ ad cap, c = .slice ad ks.length cap ∧ ks.length ≤ cap ∧ cap ≤ maxLen ∧ (ks = [] ∨ ∃ bl off, ad = some ⟨bl, off, none⟩ ∧ S bl ∧ RowOn w S bl off ks)
/-- the trees of a list, one behind the other from a cell on -/
def RowOn (w : World) (S : Nat → Prop) (bl off : Nat) : List Tr → Prop
  | [] => True
  | t :: ts => (∃ a b c, w.cell? ⟨bl, off, none⟩ = some a ∧ w.cell? ⟨bl, off + 1, none⟩ = some b ∧ w.cell? ⟨bl, off + 2, none⟩ = some c ∧ TrOn w S t a b c) ∧ RowOn w S bl (off + 3) ts
end

/-- a slice value that holds the trees of a list -/
def KidsOn (w : World) (S : Nat → Prop) (ks : List Tr) (c : Value) : Prop :=
  ∃ ad cap, c = .slice ad ks.length cap ∧ ks.length ≤ cap ∧ cap ≤ maxLen ∧ (ks = [] ∨ ∃ bl off, ad = some ⟨bl, off, none⟩ ∧ S bl ∧ RowOn w S bl off ks)

theorem trOn_iff {w : World} {S : Nat → Prop} {t : Tr} {a b c : Value} : TrOn w S t a b c ↔ a = .int .i64 t.op ∧ b = .int .i64 t.num ∧ I64 t.op ∧ I64 t.num ∧ KidsOn w S t.kids c := by
  cases t; simp [TrOn, KidsOn]

mutual
theorem TrOn.mono {w w' : World} {S S' : Nat → Prop} (hS : ∀ k, S k → S' k) (hw : ∀ k, S k → w'.heap[k]? = w.heap[k]?) : ∀ (t : Tr) (a b c : Value), TrOn w S t a b c → TrOn w' S' t a b c
  | .node op n ks, a, b, c, h => by
    simp only [TrOn] at h ⊢
    obtain ⟨h1, h2, h3, h4, ad, cap, e, l1, l2, h5⟩ := h
    refine ⟨h1, h2, h3, h4, ad, cap, e, l1, l2, ?_⟩
    rcases h5 with h5 | ⟨bl, off, e, s, r⟩
    · exact Or.inl h5
    · exact Or.inr ⟨bl, off, e, hS _ s, RowOn.mono hS hw bl off ks s r⟩
theorem RowOn.mono {w w' : World} {S S' : Nat → Prop} (hS : ∀ k, S k → S' k) (hw : ∀ k, S k → w'.heap[k]? = w.heap[k]?) (bl off : Nat) : ∀ (ks : List Tr), S bl → RowOn w S bl off ks → RowOn w' S' bl off ks
  | [], _, _ => by simp [RowOn]
  | t :: ts, s, h => by
    simp only [RowOn] at h ⊢
    obtain ⟨⟨a, b, c, ha, hb, hc, ht⟩, hr⟩ := h
    refine ⟨⟨a, b, c, ?_, ?_, ?_, TrOn.mono hS hw t a b c ht⟩, RowOn.mono hS hw bl (off + 3) ts s hr⟩
    · rw [World.cell?_of_block (w := w) (hw bl s)]; exact ha
    · rw [World.cell?_of_block (w := w) (hw bl s)]; exact hb
    · rw [World.cell?_of_block (w := w) (hw bl s)]; exact hc
end

theorem KidsOn.mono {w w' : World} {S S' : Nat → Prop} {ks : List Tr} {c : Value} (h : KidsOn w S ks c) (hS : ∀ k, S k → S' k) (hw : ∀ k, S k → w'.heap[k]? = w.heap[k]?) : KidsOn w' S' ks c := by
  obtain ⟨ad, cap, e, l1, l2, h5⟩ := h
  refine ⟨ad, cap, e, l1, l2, ?_⟩
  rcases h5 with h5 | ⟨bl, off, e, s, r⟩
  · exact Or.inl h5
  · exact Or.inr ⟨bl, off, e, hS _ s, RowOn.mono hS hw bl off ks s r⟩

/-- element i of a row -/
theorem RowOn.at {w : World} {S : Nat → Prop} {bl : Nat} : ∀ (ks : List Tr) (off i : Nat) (hi : i < ks.length), RowOn w S bl off ks →
    ∃ a b c, w.cell? ⟨bl, off + i * 3, none⟩ = some a ∧ w.cell? ⟨bl, off + i * 3 + 1, none⟩ = some b ∧ w.cell? ⟨bl, off + i * 3 + 2, none⟩ = some c ∧ TrOn w S ks[i] a b c
  | [], _, _, hi, _ => by simp at hi
  | t :: ts, off, 0, _, h => by
    simp only [RowOn] at h
    simpa using h.1
  | t :: ts, off, i + 1, hi, h => by
    simp only [RowOn] at h
    have := RowOn.at ts (off + 3) i (by simpa using hi) h.2
    have e : off + 3 + i * 3 = off + (i + 1) * 3 := by omega
    rw [e] at this
    simpa using this

/-- a row from its elements -/
theorem RowOn.of {w : World} {S : Nat → Prop} {bl : Nat} : ∀ (ks : List Tr) (off : Nat),
    (∀ i (hi : i < ks.length), ∃ a b c, w.cell? ⟨bl, off + i * 3, none⟩ = some a ∧ w.cell? ⟨bl, off + i * 3 + 1, none⟩ = some b ∧ w.cell? ⟨bl, off + i * 3 + 2, none⟩ = some c ∧ TrOn w S ks[i] a b c) → RowOn w S bl off ks
  | [], _, _ => by simp [RowOn]
  | t :: ts, off, h => by
    simp only [RowOn]
    refine ⟨by have h0 := h 0 (by simp); simp only [Nat.zero_mul, Nat.add_zero, List.getElem_cons_zero] at h0; exact h0, RowOn.of ts (off + 3) fun i hi => ?_⟩
    have := h (i + 1) (by simpa using hi)
    have e : off + (i + 1) * 3 = off + 3 + i * 3 := by omega
    rw [e] at this
    simpa using this

/-- all blocks below a number -/
def Lt (B : Nat) : Nat → Prop := fun k => k < B

theorem KidsOn.below {w w' : World} {B B' : Nat} {ks : List Tr} {c : Value} (h : KidsOn w (Lt B) ks c) (hb : Below B w w') (hB : B ≤ B') : KidsOn w' (Lt B') ks c :=
  h.mono (fun k (hk : k < B) => (show k < B' by omega)) (fun k hk => hb.block k hk)

/-- a store into another block -/
theorem KidsOn.setCell {w : World} {S : Nat → Prop} {ks : List Tr} {c : Value} (h : KidsOn w S ks c) {a : Addr} (ha : ¬ S a.block) (u : Value) : KidsOn (w.setCell a u) S ks c :=
  h.mono (fun _ hk => hk) (fun k hk => Below.heap_setCell _ _ _ _ (fun e => ha (e ▸ hk)))
theorem TrOn.setCell {w : World} {S : Nat → Prop} {t : Tr} {x y z : Value} (h : TrOn w S t x y z) {a : Addr} (ha : ¬ S a.block) (u : Value) : TrOn (w.setCell a u) S t x y z :=
  h.mono (fun _ hk => hk) (fun k hk => Below.heap_setCell _ _ _ _ (fun e => ha (e ▸ hk)))
theorem size_setCell (w : World) (a : Addr) (u : Value) : (w.setCell a u).heap.size = w.heap.size := by simp [World.setCell]
theorem cell_lt {w : World} {a : Addr} {v : Value} (h : w.cell? a = some v) : a.block < w.heap.size := by
  unfold World.cell? at h
  cases hb : w.heap[a.block]? with
  | none => rw [hb] at h; simp at h
  | some o => exact (Array.getElem?_eq_some_iff.1 hb).1
/-- a cell of a block that was laid last -/
theorem box_cell (w : World) (C : Array Value) (t : TypeId) (i : Nat) (v : Value) (h : C[i]? = some v) : (w.alloc (.cells C t)).cell? ⟨w.heap.size, i, none⟩ = some v := by
  unfold World.cell?
  rw [Deep.blk_alloc_new]
  exact h
theorem old_cell {w : World} {a : Addr} {v : Value} (h : w.cell? a = some v) (o : Obj) : (w.alloc o).cell? a = some v := by
  have hlt := cell_lt h
  rw [World.cell?_of_block (w := w) (Deep.blk_alloc_lt w o a.block hlt)]
  exact h
theorem box_below (w : World) (o : Obj) : Below w.heap.size w (w.alloc o) := (Below.refl _ _).alloc (Nat.le_refl _) _
theorem ret_int {k : IntKind} {a b : Int} (h : a = b) : Ending.returned (.int k a) = .returned (.int k b) := by rw [h]
theorem ret_bool {a b : Bool} (h : a = b) : Ending.returned (.bool a) = .returned (.bool b) := by rw [h]

/-- trees that lie in a world, wherever -/
abbrev In (w : World) (ks : List Tr) (c : Value) : Prop := KidsOn w (Lt w.heap.size) ks c
theorem KidsOn.next {w w' : World} {ks : List Tr} {c : Value} (h : In w ks c) (hb : Below w.heap.size w w') : In w' ks c := h.below hb hb.size

theorem KidsOn.drew {w : World} {ks : List Tr} {c : Value} (h : In w ks c) : In w.drew ks c := h.next ((Below.refl _ _).drew)

/-! ### Down: from the reading of an argument -/
section
variable {H : Type} {enc : TypeId × Value → H} {P : Program} {w : World} {base : Nat} {spare : Nat → Bool} {held : Bool}

end

end Go.Proofs.Ytiipcgnkfhjpeaa
/-
  make, OF SO MANY INTS: a new row of zeros.
-/
namespace Go.Proofs.Ytiipcgnkfhjpeaa
set_option linter.unusedVariables false
set_option linter.unusedSimpArgs false
open Go.RowKit

theorem infoI : (Try.prog.info? 3).map (fun i => (i.zero, i.size, i.bytes)) = some (some (.int .i64 0), 1, 8) := by kernel_rfl
/-- make, of so many ints: a new row of zeros -/
theorem make_ints (n : Nat) (h : n ≤ 1048576) : ∀ w : World, (Instr.makeSlice 24 (.int .i64 (n : Int)) (.int .i64 (n : Int))).run Try.prog w = .ok (.slice (some ⟨w.heap.size, 0, none⟩) n n) (w.alloc (.cells (madeCells #[.int .i64 0] n) 3)) := by
  obtain ⟨i, hi, hzz⟩ := Option.map_eq_some_iff.1 infoI
  simp only [Prod.mk.injEq] at hzz
  obtain ⟨hz, hs, hb⟩ := hzz
  intro w
  have hr := run_make (P := Try.prog) w 24 3 i _ Try.underlying24 hi hz .i64 .i64 n n (by omega) (Int.le_refl _) (by rw [hb]; omega) (by omega)
  simp only [Int.toNat_natCast, hs, Nat.mul_one] at hr
  exact hr
theorem zero_row (w : World) (n : Nat) : (w.alloc (.cells (madeCells #[.int .i64 0] n) 3)).rowIs w.heap.size 3 n (fun i => .int .i64 (((fun _ => 0 : Nat → Nat) i : Nat) : Int)) := by
  have hl : (madeCells #[.int .i64 0] n).toList = List.replicate n (.int .i64 0) := toList_madeCells_one _ _
  have hsz : (madeCells #[.int .i64 0] n).size = n := by rw [← Array.length_toList, hl, List.length_replicate]
  refine ⟨_, Deep.blk_alloc_new _ _, hsz, fun i hi => ?_⟩
  rw [← Array.getElem?_toList, hl, List.getElem?_replicate, if_pos hi]
  rfl
end Go.Proofs.Ytiipcgnkfhjpeaa
/-
  SLICES OF INTS IN MEMORY; the laws' own comparison and copy of them (eqIntS, toIntS).
-/
namespace Go.Proofs.Ytiipcgnkfhjpeaa
set_option linter.unusedVariables false
set_option linter.unusedSimpArgs false
open Go.RowKit

/-- a slice value that holds these numbers, its block out of S -/
def IntsOn (w : World) (S : Nat → Prop) (xs : List Int) (v : Value) : Prop :=
  ∃ ad cap, v = .slice ad xs.length cap ∧ xs.length ≤ cap ∧ cap ≤ maxLen ∧ (xs = [] ∨ ∃ bl off, ad = some ⟨bl, off, none⟩ ∧ S bl ∧ ∀ i (h : i < xs.length), w.cell? ⟨bl, off + i, none⟩ = some (.int .i64 xs[i]))
/-- .. in a row of its own, from block lo on -/
def IntRow (w : World) (lo : Nat) (xs : List Int) (v : Value) : Prop :=
  ∃ ad cap, v = .slice ad xs.length cap ∧ xs.length ≤ cap ∧ cap ≤ maxLen ∧ (xs = [] ∨ ∃ g f, ad = some ⟨g, 0, none⟩ ∧ lo ≤ g ∧ w.rowIs g 3 cap f ∧ ∀ i (h : i < xs.length), f i = .int .i64 xs[i])
theorem IntRow.on {w : World} {lo : Nat} {xs : List Int} {v : Value} (h : IntRow w lo xs v) : IntsOn w (fun k => lo ≤ k ∧ k < w.heap.size) xs v := by
  obtain ⟨ad, cap, e, l1, l2, h⟩ := h
  refine ⟨ad, cap, e, l1, l2, h.imp id ?_⟩
  rintro ⟨g, f, rfl, hg, hr, hf⟩
  refine ⟨g, 0, rfl, ⟨hg, hr.lt⟩, fun i hi => ?_⟩
  rw [Nat.zero_add, hr.cell (by omega), hf i hi]
theorem IntsOn.mono {w w' : World} {S S' : Nat → Prop} {xs : List Int} {v : Value} (h : IntsOn w S xs v) (hS : ∀ k, S k → S' k) (hw : ∀ k, S k → w'.heap[k]? = w.heap[k]?) : IntsOn w' S' xs v := by
  obtain ⟨ad, cap, e, l1, l2, h⟩ := h
  refine ⟨ad, cap, e, l1, l2, h.imp id ?_⟩
  rintro ⟨bl, off, rfl, hb, hc⟩
  exact ⟨bl, off, rfl, hS _ hb, fun i hi => (World.cell?_of_block (a := ⟨bl, off + i, none⟩) (hw _ hb)).trans (hc i hi)⟩
theorem IntRow.keep {w w' : World} {lo lo' : Nat} {xs : List Int} {v : Value} (h : IntRow w lo xs v) (hl : lo' ≤ lo) (hw : ∀ k, lo ≤ k → k < w.heap.size → w'.heap[k]? = w.heap[k]?) : IntRow w' lo' xs v := by
  obtain ⟨ad, cap, e, l1, l2, h⟩ := h
  refine ⟨ad, cap, e, l1, l2, h.imp id ?_⟩
  rintro ⟨g, f, rfl, hg, hr, hf⟩
  exact ⟨g, f, rfl, by omega, hr.of_block (hw g hg hr.lt), hf⟩
theorem IntRow.next {w w' : World} {lo : Nat} {xs : List Int} {v : Value} (h : IntRow w lo xs v) (hb : Below w.heap.size w w') : IntRow w' lo xs v := h.keep (Nat.le_refl _) fun k _ hk => hb.block k hk
/-- numbers that lie in a world, wherever -/
abbrev IIn (w : World) (xs : List Int) (v : Value) : Prop := IntsOn w (Lt w.heap.size) xs v
theorem IntRow.inn {w : World} {lo : Nat} {xs : List Int} {v : Value} (h : IntRow w lo xs v) : IIn w xs v := h.on.mono (fun k hk => hk.2) fun _ _ => rfl
theorem IntsOn.next {w w' : World} {xs : List Int} {v : Value} (h : IIn w xs v) (hb : Below w.heap.size w w') : IIn w' xs v :=
  h.mono (fun k (hk : k < _) => Nat.lt_of_lt_of_le hk hb.size) fun k hk => hb.block k hk

set_option maxHeartbeats 400000 in
theorem eqInts_calls (xs : List Int) (c d : Value) (w : World) (hc : IIn w xs c) (hd : IIn w xs d) :
    Calls Try.prog 13 #[c, d] w fun e w' => e = .returned (.bool true) ∧ Below w.heap.size w w' := by
  have HC : Hid (IIn w xs c) := hc
  have HD : Hid (IIn w xs d) := hd
  obtain ⟨ad, cap, rfl, hl, hm, -⟩ := hc
  obtain ⟨ad', cap', rfl, hl', hm', -⟩ := hd
  unfold maxLen at hm hm'
  have t1 : ((xs.length : Int) != xs.length) = false := by simp
  go_enter Try.func13, Try.ntmps13
  go_wp2_with fail
  go_loopw [5] (fun i wr => ∃ k : Nat, k ≤ xs.length ∧ i = .int .i64 k ∧ ∃ n, wr = w.drewN n) (fun i _ => xs.length - (intOf i).toNat)
  case atStart => exact ⟨0, Nat.zero_le _, rfl, 0, rfl⟩
  case round =>
    obtain ⟨k, hk, rfl, n, rfl⟩ := hrel
    by_cases hlt : k < xs.length
    · obtain ⟨_, _, he, -, -, hr1⟩ := HC.out
      cases he
      obtain ⟨_, _, he, -, -, hr2⟩ := HD.out
      cases he
      rcases hr1 with rfl | ⟨bl, off, rfl, -, hr1⟩
      · simp at hlt
      rcases hr2 with rfl | ⟨bl', off', rfl, -, hr2⟩
      · simp at hlt
      have c0 := hr1 k hlt
      have d0 := hr2 k hlt
      have t2 : (xs[k] != xs[k]) = false := by simp
      clear hr1 hr2
      go_wp2_with fail
      go_quiet (fail)
      go_wp2_with fail
      go_roundw
      case rel => exact ⟨k + 1, by omega, by go_num, _, rfl⟩
      case measure => simp [intOf]; omega
    · go_wp2_with fail
      go_ret
      exact ⟨rfl, below_drewN (Below.refl _ _) _⟩

theorem IntRow.none (w : World) (lo : Nat) : IntRow w lo [] (.slice none 0 0) := ⟨_, _, rfl, Nat.le_refl _, by simp [maxLen], Or.inl rfl⟩
/-- the answer: the numbers in a row of their own -/
def NewInts (xs : List Int) (w : World) (e : Ending) (w' : World) : Prop := ∃ v, e = .returned v ∧ IntRow w' w.heap.size xs v ∧ Below w.heap.size w w'
end Go.Proofs.Ytiipcgnkfhjpeaa
/-
  THE LAWS' OWN COPY OF A SLICE OF INTS (toIntS).
-/
namespace Go.Proofs.Ytiipcgnkfhjpeaa
set_option linter.unusedVariables false
set_option linter.unusedSimpArgs false
open Go.RowKit

/-! ### The copy -/
/-- what holds of the copy behind k rounds -/
def ToIRel (xs : List Int) (w : World) (k : Nat) (wr : World) : Prop :=
  ∃ f : Nat → Value, wr.rowIs w.heap.size 3 xs.length f ∧ (∀ j (_ : j < k) (hj : j < xs.length), f j = .int .i64 xs[j]) ∧ Below w.heap.size w wr
theorem toIRel_start (xs : List Int) (w : World) : ToIRel xs w 0 (w.alloc (.cells (madeCells #[.int .i64 0] xs.length) 3)) :=
  ⟨_, zero_row w xs.length, fun j hj => absurd hj (by omega), (Below.refl _ _).alloc (Nat.le_refl _) _⟩
theorem toIRel_step {xs : List Int} {w wr : World} {k : Nat} (h : ToIRel xs w k wr) (hk : k < xs.length) : ToIRel xs w (k + 1) (wr.setCell ⟨w.heap.size, k, none⟩ (.int .i64 xs[k])) := by
  obtain ⟨f, hr, ht, hb⟩ := h
  refine ⟨_, hr.set k _, fun j hj hl => ?_, hb.setCell (Nat.le_refl _) _⟩
  by_cases hjk : j = k
  · subst hjk; simp
  · simp [hjk, ht j (by omega) hl]

theorem toIRel_end {xs : List Int} {w wr : World} (h : ToIRel xs w xs.length wr) (hl : xs.length ≤ 1048576) : NewInts xs w (.returned (.slice (some ⟨w.heap.size, 0, none⟩) xs.length xs.length)) wr := by
  obtain ⟨f, hr, ht, hb⟩ := h
  exact ⟨_, rfl, ⟨_, _, rfl, Nat.le_refl _, by unfold maxLen; omega, Or.inr ⟨_, f, rfl, Nat.le_refl _, hr, fun i hi => ht i hi hi⟩⟩, hb⟩

set_option maxHeartbeats 400000 in
theorem toInts_calls (xs : List Int) (c : Value) (w : World) (hc : IIn w xs c) (hlen : xs.length ≤ 1048576) :
    Calls Try.prog 19 #[c] w (NewInts xs w) := by
  have HC : Hid (IIn w xs c) := hc
  obtain ⟨ad, cap, rfl, hl, hm, -⟩ := hc
  unfold maxLen at hm
  have hmk := make_ints xs.length hlen
  go_enter Try.func19, Try.ntmps19
  go_wp2_with fail
  go_loopw [4] (fun i wr => ∃ k : Nat, k ≤ xs.length ∧ i = .int .i64 k ∧ ToIRel xs w k wr) (fun i _ => xs.length - (intOf i).toNat)
  case atStart => exact ⟨0, Nat.zero_le _, rfl, toIRel_start xs w⟩
  case round =>
    obtain ⟨k, hk, rfl, hto⟩ := hrel
    have HT : Hid (ToIRel xs w k wr) := hto
    obtain ⟨f, hr0, _, hb⟩ := hto
    by_cases hlt : k < xs.length
    · obtain ⟨_, _, he, -, -, hr1⟩ := HC.out.next hb
      cases he
      rcases hr1 with rfl | ⟨bl, off, rfl, -, hr1⟩
      · simp at hlt
      have c0 := hr1 k hlt
      have g0 := hr0.cell (i := k) (by omega)
      have f0 := hr0.frozen k
      clear hr1 hb hr0
      go_wp2_with fail
      go_roundw
      case rel => exact ⟨k + 1, by omega, by go_num, toIRel_step HT.out hlt⟩
      case measure => simp [intOf]; omega
    · have hke : xs.length = k := by omega
      have HV : Hid (NewInts xs w (.returned (.slice (some ⟨w.heap.size, 0, none⟩) xs.length xs.length)) wr) := by subst hke; exact toIRel_end HT.out hlen
      clear hke hr0 hb
      go_wp2_with fail
      go_ret
      exact HV.out
end Go.Proofs.Ytiipcgnkfhjpeaa
/-
  PLAIN FACTS ON TREES: how many nodes a list of trees has; which trees are valid expressions. No program is named here.
-/
namespace Go.Proofs.Ytiipcgnkfhjpeaa
set_option linter.unusedVariables false
set_option linter.unusedSimpArgs false

mutual
/-- how many nodes stand below a tree's top -/
def szT : Tr → Nat
  | .node _ _ ks => szL ks
/-- how many nodes a list of trees has -/
def szL : List Tr → Nat
  | [] => 0
  | t :: ts => 1 + szT t + szL ts
end

theorem szT_eq (t : Tr) : szT t = szL t.kids := by cases t; simp [szT]

/-- the nodes below the tops of a list -/
def sumT (l : List Tr) : Nat := (l.map szT).sum
theorem sumT_cons (t : Tr) (l : List Tr) : sumT (t :: l) = szT t + sumT l := rfl
theorem sumT_append (a b : List Tr) : sumT (a ++ b) = sumT a + sumT b := by simp [sumT]
theorem szL_sum : ∀ (l : List Tr), szL l = l.length + sumT l
  | [] => by simp [szL, sumT]
  | t :: ts => by rw [szL, szL_sum ts, sumT_cons]; simp; omega
theorem sumT_take_succ (l : List Tr) (i : Nat) (h : i < l.length) : sumT (l.take (i + 1)) = sumT (l.take i) + szT l[i] := by
  rw [List.take_succ_eq_append_getElem h, sumT_append]; simp [sumT]
theorem szL_append (a b : List Tr) : szL (a ++ b) = szL a + szL b := by simp [szL_sum, sumT_append]; omega
theorem szL_take_succ (l : List Tr) (i : Nat) (h : i < l.length) : szL (l.take (i + 1)) = szL (l.take i) + 1 + szT l[i] := by
  rw [szL_sum, szL_sum, sumT_take_succ l i h, List.length_take, List.length_take]; omega
theorem szL_take_le (l : List Tr) (i : Nat) : szL (l.take i) ≤ szL l := by
  conv => rhs; rw [← List.take_append_drop i l, szL_append]
  omega
theorem szT_lt_szL (l : List Tr) (i : Nat) (h : i < l.length) : szT l[i] < szL l := by
  have := szL_take_succ l i h
  have := szL_take_le l (i + 1)
  omega
/-- how many operands a kind has -/
def arity (op : Int) : Int :=
  if op = 1 ∨ op = 2 ∨ op = 3 then 0 else if op = 6 ∨ op = 7 then 1 else if op = 4 ∨ op = 5 ∨ op = 8 ∨ op = 9 then 2 else if op = 10 then 3 else -1

/-- is the number of a node right? -/
def ownB (op n vars defs : Int) : Bool :=
  if op = 1 then decide (0 ≤ n ∧ n < vars) else if op = 2 then decide (0 ≤ n ∧ n ≤ 999) else if op = 3 then decide (0 ≤ n ∧ n < defs) else decide (n = 0)

end Go.Proofs.Ytiipcgnkfhjpeaa
/-
  GRAPHS IN MEMORY: a slice of cells (Op, N, Kids), three cells of memory each, the operands a slice of ints. The laws' own count, copy and comparison of graphs.
-/
namespace Go.Proofs.Ytiipcgnkfhjpeaa
set_option linter.unusedVariables false
set_option linter.unusedSimpArgs false
open Go.RowKit

/-- a cell of a graph -/
structure Ce where
  op : Int
  num : Int
  kids : List Int
instance : Inhabited Ce := ⟨⟨0, 0, []⟩⟩

/-- a slice value that holds these cells, its blocks out of S -/
def CellsOn (w : World) (S : Nat → Prop) (g : List Ce) (v : Value) : Prop :=
  ∃ ad cap, v = .slice ad g.length cap ∧ g.length ≤ cap ∧ cap ≤ maxLen ∧ (g = [] ∨ ∃ bl off, ad = some ⟨bl, off, none⟩ ∧ S bl ∧ ∀ i (hi : i < g.length), ∃ c,
    w.cell? ⟨bl, off + i * 3, none⟩ = some (.int .i64 g[i].op) ∧ w.cell? ⟨bl, off + i * 3 + 1, none⟩ = some (.int .i64 g[i].num) ∧ w.cell? ⟨bl, off + i * 3 + 2, none⟩ = some c ∧ I64 g[i].op ∧ I64 g[i].num ∧ IntsOn w S g[i].kids c)
theorem CellsOn.mono {w w' : World} {S S' : Nat → Prop} {g : List Ce} {v : Value} (h : CellsOn w S g v) (hS : ∀ k, S k → S' k) (hw : ∀ k, S k → w'.heap[k]? = w.heap[k]?) : CellsOn w' S' g v := by
  obtain ⟨ad, cap, e, l1, l2, h5⟩ := h
  refine ⟨ad, cap, e, l1, l2, ?_⟩
  rcases h5 with h5 | ⟨bl, off, e, s, r⟩
  · exact Or.inl h5
  · refine Or.inr ⟨bl, off, e, hS _ s, fun i hi => ?_⟩
    obtain ⟨c, h1, h2, h3, i1, i2, g3⟩ := r i hi
    refine ⟨c, ?_, ?_, ?_, i1, i2, g3.mono hS hw⟩
    all_goals rw [World.cell?_of_block (w := w) (hw bl s)]; assumption
/-- cells that lie in a world, wherever -/
abbrev CIn (w : World) (g : List Ce) (v : Value) : Prop := CellsOn w (Lt w.heap.size) g v
theorem CellsOn.next {w w' : World} {g : List Ce} {v : Value} (h : CIn w g v) (hb : Below w.heap.size w w') : CIn w' g v :=
  h.mono (fun k (hk : k < w.heap.size) => Nat.lt_of_lt_of_le hk hb.size) (fun k hk => hb.block k hk)
theorem CellsOn.drew {w : World} {g : List Ce} {v : Value} (h : CIn w g v) : CIn w.drew g v := h.next ((Below.refl _ _).drew)
theorem IntsOn.drew {w : World} {xs : List Int} {v : Value} (h : IIn w xs v) : IIn w.drew xs v := h.next ((Below.refl _ _).drew)

/-- element i, opened -/
theorem CellsOn.at {w : World} {g : List Ce} {ad : Option Addr} {n cap : Nat} (h : CIn w g (.slice ad n cap)) (i : Nat) (hi : i < g.length) :
    ∃ bl off c, ad = some ⟨bl, off, none⟩ ∧ w.cell? ⟨bl, off + i * 3, none⟩ = some (.int .i64 g[i].op) ∧ w.cell? ⟨bl, off + i * 3 + 1, none⟩ = some (.int .i64 g[i].num) ∧ w.cell? ⟨bl, off + i * 3 + 2, none⟩ = some c ∧ I64 g[i].op ∧ I64 g[i].num ∧ IIn w g[i].kids c := by
  obtain ⟨ad', cap', he, -, -, hr⟩ := h
  cases he
  rcases hr with rfl | ⟨bl, off, rfl, -, r⟩
  · simp at hi
  obtain ⟨c, h1, h2, h3, i1, i2, h4⟩ := r i hi
  exact ⟨bl, off, c, rfl, h1, h2, h3, i1, i2, h4⟩
/-- number i of a list of ints, opened -/
theorem IntsOn.at {w : World} {xs : List Int} {ad : Option Addr} {n cap : Nat} (h : IIn w xs (.slice ad n cap)) (i : Nat) (hi : i < xs.length) :
    ∃ bl off, ad = some ⟨bl, off, none⟩ ∧ w.cell? ⟨bl, off + i, none⟩ = some (.int .i64 xs[i]) := by
  obtain ⟨ad', cap', he, -, -, hr⟩ := h
  cases he
  rcases hr with rfl | ⟨bl, off, rfl, -, r⟩
  · simp at hi
  exact ⟨bl, off, rfl, r i hi⟩

/-! ### The count -/
/-- the operands of the first cells -/
def sumK (l : List Ce) : Nat := (l.map (·.kids.length)).sum
/-! ### The copy -/
/-- a slice value that holds these cells in a row of its own, the operands in such rows too, from block lo on -/
def CellRow (w : World) (lo : Nat) (g : List Ce) (v : Value) : Prop :=
  ∃ ad cap, v = .slice ad g.length cap ∧ g.length ≤ cap ∧ cap ≤ maxLen ∧ (g = [] ∨ ∃ b f, ad = some ⟨b, 0, none⟩ ∧ lo ≤ b ∧ w.rowIs b 40 (cap * 3) f ∧ ∀ i (h : i < g.length), f (i * 3) = .int .i64 g[i].op ∧ f (i * 3 + 1) = .int .i64 g[i].num ∧ I64 g[i].op ∧ I64 g[i].num ∧ IntRow w lo g[i].kids (f (i * 3 + 2)))
theorem CellRow.inn {w : World} {lo : Nat} {g : List Ce} {v : Value} (h : CellRow w lo g v) : CIn w g v := by
  obtain ⟨ad, cap, e, l1, l2, h⟩ := h
  refine ⟨ad, cap, e, l1, l2, h.imp id ?_⟩
  rintro ⟨b, f, rfl, hg, hr, hf⟩
  refine ⟨b, 0, rfl, hr.lt, fun i hi => ?_⟩
  obtain ⟨f0, f1, i0, i1, f2⟩ := hf i hi
  refine ⟨_, ?_, ?_, ?_, i0, i1, f2.inn⟩
  · rw [Nat.zero_add, hr.cell (by omega), f0]
  · rw [Nat.zero_add, hr.cell (by omega), f1]
  · rw [Nat.zero_add, hr.cell (by omega)]
theorem CellRow.keep {w w' : World} {lo lo' : Nat} {g : List Ce} {v : Value} (h : CellRow w lo g v) (hl : lo' ≤ lo) (hw : ∀ k, lo ≤ k → k < w.heap.size → w'.heap[k]? = w.heap[k]?) : CellRow w' lo' g v := by
  obtain ⟨ad, cap, e, l1, l2, h⟩ := h
  refine ⟨ad, cap, e, l1, l2, h.imp id ?_⟩
  rintro ⟨b, f, rfl, hg, hr, hf⟩
  refine ⟨b, f, rfl, by omega, hr.of_block (hw b hg hr.lt), fun i hi => ?_⟩
  obtain ⟨f0, f1, i0, i1, f2⟩ := hf i hi
  exact ⟨f0, f1, i0, i1, f2.keep hl hw⟩
theorem CellRow.next {w w' : World} {lo : Nat} {g : List Ce} {v : Value} (h : CellRow w lo g v) (hb : Below w.heap.size w w') : CellRow w' lo g v := h.keep (Nat.le_refl _) fun k _ hk => hb.block k hk

theorem IntRow.setCell {w : World} {lo : Nat} {xs : List Int} {v : Value} (h : IntRow w lo xs v) {a : Addr} (ha : a.block < lo) (u : Value) : IntRow (w.setCell a u) lo xs v :=
  h.keep (Nat.le_refl _) fun k hk _ => Below.heap_setCell _ _ _ _ (fun e => by omega)
theorem IntRow.down {w : World} {lo lo' : Nat} {xs : List Int} {v : Value} (h : IntRow w lo xs v) (hl : lo' ≤ lo) : IntRow w lo' xs v := h.keep hl fun _ _ _ => rfl

theorem infoC : (Try.prog.info? 40).map (fun i => (i.zero, i.size, i.bytes)) = some (some (.agg #[.int .i64 0, .int .i64 0, .slice none 0 0]), 3, 40) := by kernel_rfl
end Go.Proofs.Ytiipcgnkfhjpeaa
/-
  WHAT THE READING OF AN ARGUMENT GIVES: an expression of the laws' own type is a tree in memory.
-/
namespace Go.Proofs.Ytiipcgnkfhjpeaa
open Go.RowKit
set_option linter.unusedVariables false
set_option linter.unusedSimpArgs false
section
variable {H : Type} {enc : TypeId × Value → H} {w : World} {base : Nat} {spare : Nat → Bool} {held : Bool}

end
end Go.Proofs.Ytiipcgnkfhjpeaa
/-
  WHAT THE READING OF AN ARGUMENT GIVES: a slice of ints, each in its range.
-/
namespace Go.Proofs.Ytiipcgnkfhjpeaa
open Go.RowKit
set_option linter.unusedVariables false
set_option linter.unusedSimpArgs false
section
variable {H : Type} {enc : TypeId × Value → H} {w : World} {base : Nat} {spare : Nat → Bool} {held : Bool}

theorem trod_ints64 (fuel : Nat) (v : Value) (x : DataW H × List MemPlace) (h : DataW.trod enc Try.prog w base spare held fuel 24 [v] = some x) : ∃ xs, IIn w xs v ∧ ∀ x ∈ xs, I64 x := by
  have hC : Try.prog.cellsOf 3 = 1 := by kernel_rfl
  rcases DataW.trod_slice Try.underlying24 h with ⟨h0', _⟩ | ⟨a, len, cap, elems, rest, n, hfu, hv, _, hb, hl, hm, hlen, hel, _, _⟩
  · simp only [List.cons.injEq, and_true] at h0'
    exact ⟨[], ⟨none, 0, h0', by simp, by simp [maxLen], Or.inl rfl⟩, fun x hx => absurd hx (by simp)⟩
  · simp only [List.cons.injEq, and_true] at hv
    have key : ∀ i, i < len → ∃ z : Int, w.cell? (a.add (i * 1)) = some (.int .i64 z) ∧ I64 z := by
      intro i hi
      have hh := hel i hi
      rw [hC] at hh
      obtain ⟨cs, hcs, hd⟩ := Option.bind_eq_some_iff.1 (hh.trans (List.getElem?_eq_getElem (by omega)))
      obtain ⟨_, hl1, hcell⟩ := World.cells?_some hcs
      obtain ⟨p, rfl⟩ : ∃ p, cs = [p] := by
        match cs, hl1 with
        | [p], _ => exact ⟨p, rfl⟩
      obtain ⟨z, e0, _, w0⟩ := DataW.trod_int Try.underlying3 hd
      simp only [List.cons.injEq, and_true] at e0
      have g0 := hcell 0 (by omega)
      exact ⟨z, by rw [← e0]; simpa [Addr.add] using g0, bounds_i64 w0⟩
    subst hv
    obtain ⟨f, hfk⟩ := Deep.choose_lt key
    refine ⟨(List.range len).map f, ⟨some a, cap, by simp, by simpa using hl, hm, ?_⟩, fun x hx => ?_⟩
    rotate_left
    · obtain ⟨i, hi, rfl⟩ := List.mem_map.1 hx
      exact (hfk i (List.mem_range.1 hi)).2
    by_cases hz : len = 0
    · left; simp [hz]
    right
    obtain ⟨bl, off, spot⟩ := a
    have g0 := (hfk 0 (by omega)).1
    have hspot : spot = none := by simpa [Addr.add] using World.cell?_spot g0
    subst hspot
    refine ⟨bl, off, rfl, by have := cell_lt g0; simpa [Addr.add, Lt] using this, fun i hi => ?_⟩
    simp only [List.length_map, List.length_range] at hi
    have g0 := (hfk i hi).1
    rw [WideShapes.add_plain, Nat.mul_one] at g0
    simpa using g0

end
end Go.Proofs.Ytiipcgnkfhjpeaa
/-
  WHAT THE READING OF AN ARGUMENT GIVES: a graph of the laws' own type is a list of cells in memory.
-/
namespace Go.Proofs.Ytiipcgnkfhjpeaa
open Go.RowKit
set_option linter.unusedVariables false
set_option linter.unusedSimpArgs false
section
variable {H : Type} {enc : TypeId × Value → H} {w : World} {base : Nat} {spare : Nat → Bool} {held : Bool}

theorem trod_ints (fuel : Nat) (v : Value) (x : DataW H × List MemPlace) (h : DataW.trod enc Try.prog w base spare held fuel 24 [v] = some x) : ∃ xs, IIn w xs v := by
  have hC : Try.prog.cellsOf 3 = 1 := by kernel_rfl
  rcases DataW.trod_slice Try.underlying24 h with ⟨h0', _⟩ | ⟨a, len, cap, elems, rest, n, hfu, hv, _, hb, hl, hm, hlen, hel, _, _⟩
  · simp only [List.cons.injEq, and_true] at h0'
    exact ⟨[], none, 0, h0', by simp, by simp [maxLen], Or.inl rfl⟩
  · simp only [List.cons.injEq, and_true] at hv
    have key : ∀ i, i < len → ∃ z : Int, w.cell? (a.add (i * 1)) = some (.int .i64 z) := by
      intro i hi
      have hh := hel i hi
      rw [hC] at hh
      obtain ⟨cs, hcs, hd⟩ := Option.bind_eq_some_iff.1 (hh.trans (List.getElem?_eq_getElem (by omega)))
      obtain ⟨_, hl1, hcell⟩ := World.cells?_some hcs
      obtain ⟨p, rfl⟩ : ∃ p, cs = [p] := by
        match cs, hl1 with
        | [p], _ => exact ⟨p, rfl⟩
      obtain ⟨z, e0, _, w0⟩ := DataW.trod_int Try.underlying3 hd
      simp only [List.cons.injEq, and_true] at e0
      have g0 := hcell 0 (by omega)
      exact ⟨z, by rw [← e0]; simpa [Addr.add] using g0⟩
    subst hv
    obtain ⟨f, hfk⟩ := Deep.choose_lt key
    refine ⟨(List.range len).map f, some a, cap, by simp, by simpa using hl, hm, ?_⟩
    by_cases hz : len = 0
    · left; simp [hz]
    right
    obtain ⟨bl, off, spot⟩ := a
    have g0 := hfk 0 (by omega)
    have hspot : spot = none := by simpa [Addr.add] using World.cell?_spot g0
    subst hspot
    refine ⟨bl, off, rfl, by have := cell_lt g0; simpa [Addr.add, Lt] using this, fun i hi => ?_⟩
    simp only [List.length_map, List.length_range] at hi
    have g0 := hfk i hi
    rw [WideShapes.add_plain, Nat.mul_one] at g0
    simpa using g0

end
end Go.Proofs.Ytiipcgnkfhjpeaa
/-
  PLAIN FACTS ON GRAPHS: which lists of cells are graphs; where indirections lead. No program is named here.
-/
namespace Go.Proofs.Ytiipcgnkfhjpeaa
set_option linter.unusedVariables false
set_option linter.unusedSimpArgs false

/-- how many operands a kind of cell has -/
def cArity (op : Int) : Int := if op = 11 then 1 else arity op
/-- are these cells of a graph? -/
def isAt (cells : Int) (k : Int) : Bool := decide (0 ≤ k ∧ k < cells)
/-- has a cell the fields of its kind, whatever its operands? -/
def fitsB (defs : Int) (c : Ce) : Bool := decide ((c.kids.length : Int) = cArity c.op) && ownB c.op c.num 0 defs
/-- is it a cell of a graph with some cells? -/
def cellB (cells defs : Int) (c : Ce) : Bool := fitsB defs c && c.kids.all (isAt cells)
def graphB (g : List Ce) (defs : Int) : Bool := decide ((g.length : Int) ≤ 400 ∧ 0 ≤ defs ∧ defs ≤ 6) && g.all (cellB g.length defs)

theorem ownB_var (n defs : Int) : ownB 1 n 0 defs = false := by unfold ownB; rw [if_pos rfl, decide_eq_false]; omega
theorem allI_take_succ {α : Type} (p : α → Bool) (l : List α) (i : Nat) (h : i < l.length) : (l.take (i + 1)).all p = ((l.take i).all p && p l[i]) := by
  rw [List.take_succ_eq_append_getElem h, List.all_append]; simp
theorem allI_false_of {α : Type} (p : α → Bool) (l : List α) (i : Nat) (h : i < l.length) (hp : p l[i] = false) : l.all p = false := by
  rw [List.all_eq_false]; exact ⟨l[i], List.getElem_mem h, by simp [hp]⟩

theorem graphB_cell {g : List Ce} {defs : Int} (h : graphB g defs = true) (a : Nat) (ha : a < g.length) : cellB g.length defs g[a] = true := by
  unfold graphB at h
  simp only [Bool.and_eq_true, List.all_eq_true] at h
  exact h.2 _ (List.getElem_mem ha)
theorem getD_at {α : Type} (g : List α) (d : α) (a : Nat) (ha : a < g.length) : g.getD a d = g[a] := by simp [ha]
end Go.Proofs.Ytiipcgnkfhjpeaa
/-
  PLAIN FACTS ON HEAPS OF WORDS: how long cells are, where they begin, which graph words are. No program is named here.
-/
namespace Go.Proofs.Ytiipcgnkfhjpeaa
set_option linter.unusedVariables false
set_option linter.unusedSimpArgs false

/-- how many words the cells of a kind take; 0: there are none -/
def wLen (op : Int) : Nat := if op = 2 ∨ op = 3 ∨ op = 6 ∨ op = 7 ∨ op = 11 then 2 else if op = 4 ∨ op = 5 ∨ op = 8 ∨ op = 9 then 3 else if op = 10 then 4 else 0
/-- has such a cell a number, and no operands? -/
def isNumOp (op : Int) : Bool := decide (op = 2 ∨ op = 3)
theorem wLen_le (op : Int) : wLen op ≤ 4 := by unfold wLen; repeat' split
                                               all_goals omega
theorem wLen_pos {op : Int} (h : wLen op ≠ 0) : 2 ≤ wLen op := by unfold wLen at *; repeat' split at *
                                                                  all_goals omega
theorem wLen_num {op : Int} (h : isNumOp op = true) : wLen op = 2 := by
  unfold isNumOp at h; simp at h; unfold wLen; rw [if_pos (by omega)]
theorem wLen_neg {op : Int} (h : op < 0) : wLen op = 0 := by
  unfold wLen; rw [if_neg (by omega), if_neg (by omega), if_neg (by omega)]

end Go.Proofs.Ytiipcgnkfhjpeaa
/-
  PLAIN FACTS ON THE GRAPH OF WORDS: where cells begin, places of addresses, the cells. No program is named here.
-/
namespace Go.Proofs.Ytiipcgnkfhjpeaa
set_option linter.unusedVariables false
set_option linter.unusedSimpArgs false

/-- the addresses of the cells from a place on, if there is nothing else -/
def startsW (ws : List Int) (a : Nat) : Option (List Int) :=
  if h : a < ws.length then
    if h2 : wLen ws[a] = 0 ∨ ws.length < a + wLen ws[a] then none
    else (startsW ws (a + wLen ws[a])).map ((a : Int) :: ·)
  else some []
termination_by ws.length - a
decreasing_by
  have h3 : wLen ws[a] ≠ 0 := fun e => h2 (Or.inl e)
  have := wLen_pos h3
  omega
theorem startsW_end {ws : List Int} {a : Nat} (h : ws.length ≤ a) : startsW ws a = some [] := by rw [startsW, dif_neg (by omega)]
theorem startsW_bad {ws : List Int} {a : Nat} (h : a < ws.length) (h2 : wLen ws[a] = 0 ∨ ws.length < a + wLen ws[a]) : startsW ws a = none := by rw [startsW, dif_pos h, dif_pos h2]
theorem startsW_go {ws : List Int} {a : Nat} (h : a < ws.length) (h2 : ¬ (wLen ws[a] = 0 ∨ ws.length < a + wLen ws[a])) : startsW ws a = (startsW ws (a + wLen ws[a])).map ((a : Int) :: ·) := by rw [startsW, dif_pos h, dif_neg h2]
/-- a place with a whole cell -/
def CellAt (ws : List Int) (x : Int) : Prop := ∃ a : Nat, x = (a : Int) ∧ ∃ h : a < ws.length, wLen ws[a] ≠ 0 ∧ a + wLen ws[a] ≤ ws.length
theorem startsW_all (ws : List Int) : ∀ (n a : Nat), ws.length - a ≤ n → ∀ st, startsW ws a = some st → st.Pairwise (· < ·) ∧ ∀ x ∈ st, (a : Int) ≤ x ∧ CellAt ws x := by
  intro n
  induction n with
  | zero =>
    intro a hn st h
    rw [startsW_end (by omega)] at h
    cases h
    exact ⟨List.Pairwise.nil, fun x hx => absurd hx (by simp)⟩
  | succ n ih =>
    intro a hn st h
    by_cases ha : a < ws.length
    · by_cases h2 : wLen ws[a] = 0 ∨ ws.length < a + wLen ws[a]
      · rw [startsW_bad ha h2] at h; cases h
      · rw [startsW_go ha h2, Option.map_eq_some_iff] at h
        obtain ⟨st2, h3, rfl⟩ := h
        have h4 : wLen ws[a] ≠ 0 := fun e => h2 (Or.inl e)
        have h5 := wLen_pos h4
        obtain ⟨i1, i2⟩ := ih (a + wLen ws[a]) (by omega) st2 h3
        refine ⟨List.Pairwise.cons (fun x hx => by have := (i2 x hx).1; omega) i1, fun x hx => ?_⟩
        rcases List.mem_cons.1 hx with rfl | hx
        · exact ⟨Int.le_refl _, a, rfl, ha, h4, by omega⟩
        · have := i2 x hx
          exact ⟨by omega, this.2⟩
    · rw [startsW_end (by omega)] at h
      cases h
      exact ⟨List.Pairwise.nil, fun x hx => absurd hx (by simp)⟩
theorem startsW_len (ws : List Int) : ∀ (n a : Nat), ws.length - a ≤ n → ∀ st, startsW ws a = some st → 2 * st.length ≤ ws.length - a := by
  intro n
  induction n with
  | zero =>
    intro a hn st h
    rw [startsW_end (by omega)] at h
    cases h; simp
  | succ n ih =>
    intro a hn st h
    by_cases ha : a < ws.length
    · by_cases h2 : wLen ws[a] = 0 ∨ ws.length < a + wLen ws[a]
      · rw [startsW_bad ha h2] at h; cases h
      · rw [startsW_go ha h2, Option.map_eq_some_iff] at h
        obtain ⟨st2, h3, rfl⟩ := h
        have h4 : wLen ws[a] ≠ 0 := fun e => h2 (Or.inl e)
        have h5 := wLen_pos h4
        have := ih (a + wLen ws[a]) (by omega) st2 h3
        rw [List.length_cons]
        omega
    · rw [startsW_end (by omega)] at h
      cases h; simp
theorem starts_sorted {ws st : List Int} (h : startsW ws 0 = some st) : st.Pairwise (· < ·) := (startsW_all ws _ 0 (Nat.le_refl _) st h).1
theorem starts_cell {ws st : List Int} (h : startsW ws 0 = some st) {x : Int} (hx : x ∈ st) : CellAt ws x := ((startsW_all ws _ 0 (Nat.le_refl _) st h).2 x hx).2
theorem starts_small {ws st : List Int} (h : startsW ws 0 = some st) : 2 * st.length ≤ ws.length := by have := startsW_len ws _ 0 (Nat.le_refl _) st h; omega

/-! ### The place of a number in an ascending list -/
def idxI (xs : List Int) (a : Int) : Int := if xs.idxOf a < xs.length then (xs.idxOf a : Int) else -1
theorem sorted_lt {xs : List Int} (h : xs.Pairwise (· < ·)) {i j : Nat} (hij : i < j) (hj : j < xs.length) : xs[i] < xs[j] := List.pairwise_iff_getElem.1 h i j (by omega) hj hij
theorem idxI_found {xs : List Int} (h : xs.Pairwise (· < ·)) {i : Nat} (hi : i < xs.length) {a : Int} (ha : xs[i] = a) : idxI xs a = (i : Int) := by
  have hm : a ∈ xs := by rw [← ha]; exact List.getElem_mem hi
  have hl := List.idxOf_lt_length_iff.2 hm
  have he : xs[xs.idxOf a] = a := List.getElem_idxOf hl
  unfold idxI
  rw [if_pos hl]
  have : xs.idxOf a = i := by
    rcases Nat.lt_trichotomy (xs.idxOf a) i with h1 | h1 | h1
    · have := sorted_lt h h1 hi; omega
    · exact h1
    · have := sorted_lt h h1 hl; omega
  rw [this]
theorem idxI_none {xs : List Int} {a : Int} (h : ∀ i (hi : i < xs.length), xs[i] ≠ a) : idxI xs a = -1 := by
  have hm : a ∉ xs := fun hm => by
    obtain ⟨i, hi, e⟩ := List.getElem_of_mem hm
    exact h i hi e
  unfold idxI
  rw [if_neg (fun hl => hm (List.idxOf_lt_length_iff.1 hl))]
theorem idxI_bound (xs : List Int) (a : Int) : -1 ≤ idxI xs a ∧ idxI xs a < xs.length := by unfold idxI; split <;> omega
theorem idxI_mem {xs : List Int} {a : Int} : 0 ≤ idxI xs a ↔ a ∈ xs := by
  unfold idxI
  rw [← List.idxOf_lt_length_iff]
  split <;> omega
/-- what a binary search knows -/
def Bis (xs : List Int) (a : Int) (lo hi : Nat) : Prop := lo ≤ hi ∧ hi ≤ xs.length ∧ (∀ i (h : i < xs.length), i < lo → xs[i] < a) ∧ ∀ i (h : i < xs.length), hi ≤ i → a ≤ xs[i]
theorem Bis.start (xs : List Int) (a : Int) : Bis xs a 0 xs.length := ⟨Nat.zero_le _, Nat.le_refl _, fun i _ h => by omega, fun i h1 h2 => by omega⟩
theorem Bis.up {xs : List Int} {a : Int} {lo hi m : Nat} (h : Bis xs a lo hi) (hs : xs.Pairwise (· < ·)) (h1 : m < hi) (hm : m < xs.length) (h2 : xs[m] < a) : Bis xs a (m + 1) hi :=
  ⟨by omega, h.2.1, fun i hi' hlt => by
    by_cases e : i = m
    · subst e; exact h2
    · have := sorted_lt hs (show i < m by omega) hm; omega, h.2.2.2⟩
theorem Bis.down {xs : List Int} {a : Int} {lo hi m : Nat} (h : Bis xs a lo hi) (hs : xs.Pairwise (· < ·)) (h1 : m < hi) (h3 : lo ≤ m) (hm : m < xs.length) (h2 : ¬ xs[m] < a) : Bis xs a lo m :=
  ⟨h3, by omega, h.2.2.1, fun i hi' hle => by
    by_cases e : i = m
    · subst e; omega
    · have := sorted_lt hs (show m < i by omega) hi'; omega⟩
theorem Bis.none {xs : List Int} {a : Int} {lo : Nat} (h : Bis xs a lo lo) (hn : ∀ hl : lo < xs.length, xs[lo] ≠ a) (hs : xs.Pairwise (· < ·)) : idxI xs a = -1 := by
  refine idxI_none fun i hi e => ?_
  by_cases h1 : i < lo
  · have := h.2.2.1 i hi h1; omega
  · by_cases e2 : i = lo
    · subst e2; exact hn hi e
    · have h3 := h.2.2.2 lo (by omega) (Nat.le_refl _)
      have := sorted_lt hs (show lo < i by omega) hi
      omega

/-! ### The cells -/
def opW (ws : List Int) (a : Nat) : Int := ws.getD a 0
theorem opW_at {ws : List Int} {a : Nat} (h : a < ws.length) : opW ws a = ws[a] := by simp [opW, h]
/-- a whole cell at a place? -/
def WholeAt (ws : List Int) (a : Nat) : Prop := wLen (opW ws a) ≠ 0 ∧ a + wLen (opW ws a) ≤ ws.length
/-- the cell at an address, its operands as addresses -/
def cellW (ws : List Int) (a : Nat) : Ce := if isNumOp (opW ws a) = true then ⟨opW ws a, opW ws (a + 1), []⟩ else ⟨opW ws a, 0, (ws.drop (a + 1)).take (wLen (opW ws a) - 1)⟩
theorem cellW_op (ws : List Int) (a : Nat) : (cellW ws a).op = opW ws a := by unfold cellW; split <;> rfl
theorem cellW_num {ws : List Int} {a : Nat} (h : isNumOp (opW ws a) = true) : cellW ws a = ⟨opW ws a, opW ws (a + 1), []⟩ := by unfold cellW; rw [if_pos h]
theorem cellW_kid {ws : List Int} {a : Nat} (h : isNumOp (opW ws a) = false) : cellW ws a = ⟨opW ws a, 0, (ws.drop (a + 1)).take (wLen (opW ws a) - 1)⟩ := by unfold cellW; rw [if_neg (by rw [h]; simp)]
theorem kidsW_len {ws : List Int} {a : Nat} (h : a + wLen (opW ws a) ≤ ws.length) (hw : wLen (opW ws a) ≠ 0) : ((ws.drop (a + 1)).take (wLen (opW ws a) - 1)).length = wLen (opW ws a) - 1 := by
  have := wLen_pos hw
  rw [List.length_take, List.length_drop]; omega
theorem kidsW_get {ws : List Int} {a : Nat} {q : Nat} (h : a + wLen (opW ws a) ≤ ws.length) (hq : q < wLen (opW ws a) - 1) : ((ws.drop (a + 1)).take (wLen (opW ws a) - 1))[q]? = some (opW ws (a + 1 + q)) := by
  rw [List.getElem?_take_of_lt hq, List.getElem?_drop]
  unfold opW
  rw [List.getD_eq_getElem?_getD, List.getElem?_eq_getElem (by omega)]
  rfl
/-- a cell whose operands are places -/
def cellP (st : List Int) (c : Ce) : Ce := { c with kids := c.kids.map (idxI st) }
/-- the graph of words -/
def graphW (ws st : List Int) : List Ce := st.map fun x => cellP st (cellW ws x.toNat)
theorem graphW_length (ws st : List Int) : (graphW ws st).length = st.length := by simp [graphW]
/-- of the first cells -/
def graphTo (ws st : List Int) (j : Nat) : List Ce := (st.take j).map fun x => cellP st (cellW ws x.toNat)
theorem graphTo_zero (ws st : List Int) : graphTo ws st 0 = [] := by simp [graphTo]
theorem graphTo_all (ws st : List Int) : graphTo ws st st.length = graphW ws st := by simp [graphTo, graphW]
theorem graphTo_len {ws st : List Int} {j : Nat} (h : j ≤ st.length) : (graphTo ws st j).length = j := by simp [graphTo]; omega
theorem graphTo_snoc {ws st : List Int} {j : Nat} (h : j < st.length) {a : Nat} (ha : st[j] = (a : Int)) : graphTo ws st (j + 1) = graphTo ws st j ++ [cellP st (cellW ws a)] := by
  unfold graphTo
  rw [List.take_succ_eq_append_getElem h, List.map_append, List.map_cons, List.map_nil, ha, Int.toNat_natCast]
/-- the answer: the graph, the addresses of its cells, and whether there is one -/
def unpO (ws : List Int) : List Ce × List Int × Bool :=
  if ws.length ≤ 1600 then match startsW ws 0 with
    | some st => if graphB (graphW ws st) 6 = true then (graphW ws st, st, true) else ([], [], false)
    | none => ([], [], false)
  else ([], [], false)
theorem unpO_long {ws : List Int} (h : ¬ ws.length ≤ 1600) : unpO ws = ([], [], false) := by unfold unpO; rw [if_neg h]
theorem unpO_none {ws : List Int} (h2 : startsW ws 0 = none) : unpO ws = ([], [], false) := by
  unfold unpO; rw [h2]; split <;> rfl
theorem unpO_bad {ws st : List Int} (h2 : startsW ws 0 = some st) (h3 : graphB (graphW ws st) 6 = false) : unpO ws = ([], [], false) := by
  unfold unpO; rw [h2]
  split
  · show (if graphB (graphW ws st) 6 = true then (graphW ws st, st, true) else ([], [], false)) = _
    rw [if_neg (by rw [h3]; simp)]
  · rfl
theorem unpO_yes {ws st : List Int} (h : ws.length ≤ 1600) (h2 : startsW ws 0 = some st) (h3 : graphB (graphW ws st) 6 = true) : unpO ws = (graphW ws st, st, true) := by
  unfold unpO; rw [h2, if_pos h]
  show (if graphB (graphW ws st) 6 = true then (graphW ws st, st, true) else ([], [], false)) = _
  rw [if_pos h3]
/-- a place that is missing: no graph -/
theorem graph_miss {ws st : List Int} {j : Nat} (h : j < st.length) {a : Nat} (ha : st[j] = (a : Int)) {x : Int} (hx : x ∈ (cellW ws a).kids) (hi : idxI st x = -1) {defs : Int} : graphB (graphW ws st) defs = false := by
  cases hg : graphB (graphW ws st) defs with
  | false => rfl
  | true =>
    have hj : j < (graphW ws st).length := by rw [graphW_length]; exact h
    have h1 := graphB_cell hg j hj
    have h2 : (graphW ws st)[j] = cellP st (cellW ws a) := by simp [graphW, ha]
    rw [h2] at h1
    unfold cellB at h1
    simp only [Bool.and_eq_true, List.all_eq_true, isAt, decide_eq_true_eq] at h1
    have h3 := h1.2 (idxI st x) (by unfold cellP; exact List.mem_map.2 ⟨x, hx, rfl⟩)
    omega
end Go.Proofs.Ytiipcgnkfhjpeaa
/-
  PLAIN FACTS ON COPYING WORDS: a cell is forwarded; the operands of a cell are forwarded. No program is named here.
-/
namespace Go.Proofs.Ytiipcgnkfhjpeaa
set_option linter.unusedVariables false
set_option linter.unusedSimpArgs false

theorem opW_append {xs ys : List Int} {a : Nat} (h : a < xs.length) : opW (xs ++ ys) a = opW xs a := by
  unfold opW
  rw [List.getD_eq_getElem?_getD, List.getD_eq_getElem?_getD, List.getElem?_append_left h]
theorem opW_set {xs : List Int} {a b : Nat} {v : Int} : opW (xs.set a v) b = if a = b ∧ a < xs.length then v else opW xs b := by
  unfold opW
  rw [List.getD_eq_getElem?_getD, List.getD_eq_getElem?_getD, List.getElem?_set]
  by_cases h : a = b
  · subst h
    by_cases h2 : a < xs.length
    · rw [if_pos rfl, if_pos h2, if_pos ⟨rfl, h2⟩]; rfl
    · rw [if_pos rfl, if_neg h2, if_neg (fun h => h2 h.2), List.getElem?_eq_none (by omega)]
  · rw [if_neg h, if_neg (fun h2 => h h2.1)]
/-- the words of a cell -/
def segW (F : List Int) (a : Nat) : List Int := (F.drop a).take (wLen (opW F a))
theorem segW_len {F : List Int} {a : Nat} (h : WholeAt F a) : (segW F a).length = wLen (opW F a) := by
  unfold segW
  have := h.2
  rw [List.length_take, List.length_drop]; omega
/-- the cell at an address is forwarded: the old heap, the new one, the new address -/
def fwd (F T : List Int) (a : Nat) : List Int × List Int × Int :=
  if opW F a < 0 then (F, T, -(opW F a) - 1) else (F.set a (-(T.length : Int) - 1), T ++ segW F a, (T.length : Int))
theorem fwd_old {F T : List Int} {a : Nat} (h : opW F a < 0) : fwd F T a = (F, T, -(opW F a) - 1) := by unfold fwd; rw [if_pos h]
theorem fwd_new {F T : List Int} {a : Nat} (h : ¬ opW F a < 0) : fwd F T a = (F.set a (-(T.length : Int) - 1), T ++ segW F a, (T.length : Int)) := by unfold fwd; rw [if_neg h]
/-- can the cell at a place be forwarded? -/
def CanF (F : List Int) (x : Int) : Prop := 0 ≤ x ∧ x < F.length ∧ ((opW F x.toNat < 0 ∧ -1000000 ≤ opW F x.toNat) ∨ WholeAt F x.toNat)
/-- one operand -/
def scanS (scan i : Nat) (s : List Int × List Int) : List Int × List Int :=
  ((fwd s.1 s.2 (opW s.2 (scan + i)).toNat).1, (fwd s.1 s.2 (opW s.2 (scan + i)).toNat).2.1.set (scan + i) (fwd s.1 s.2 (opW s.2 (scan + i)).toNat).2.2)
/-- the first operands -/
def scanN (F T : List Int) (scan : Nat) : Nat → List Int × List Int
  | 0 => (F, T)
  | k + 1 => scanS scan (k + 1) (scanN F T scan k)
/-- what is asked of the operands of the cell at a place -/
def FitsF (F T : List Int) (scan n : Nat) : Prop := ∀ i, 1 ≤ i → i < n → CanF F (opW T (scan + i))
/-- what stays while operands are forwarded -/
structure ScanI (F T : List Int) (scan n k : Nat) (s : List Int × List Int) : Prop where
  lenF : s.1.length = F.length
  lenT : T.length ≤ s.2.length ∧ s.2.length ≤ T.length + 4 * k
  old : ∀ x, opW s.1 x = opW F x ∨ (opW s.1 x < 0 ∧ -1000000 ≤ opW s.1 x)
  rest : ∀ i, k < i → i < n → opW s.2 (scan + i) = opW T (scan + i)
theorem ScanI.can {F T : List Int} {scan n k : Nat} {s : List Int × List Int} (h : ScanI F T scan n k s) {x : Int} (hx : CanF F x) : CanF s.1 x := by
  obtain ⟨h0, h1, h2⟩ := hx
  refine ⟨h0, by rw [h.lenF]; exact h1, ?_⟩
  rcases h.old x.toNat with e | e
  · rw [e]
    rcases h2 with h2 | h2
    · exact Or.inl h2
    · right
      unfold WholeAt at h2 ⊢
      rw [e, h.lenF]; exact h2
  · exact Or.inl e
theorem fwd_lenF (F T : List Int) (a : Nat) : (fwd F T a).1.length = F.length := by
  unfold fwd; split <;> simp
theorem fwd_lenT {F T : List Int} {x : Int} (h : CanF F x) : T.length ≤ (fwd F T x.toNat).2.1.length ∧ (fwd F T x.toNat).2.1.length ≤ T.length + 4 := by
  by_cases hn : opW F x.toNat < 0
  · rw [fwd_old hn]; show T.length ≤ T.length ∧ T.length ≤ T.length + 4; omega
  · rw [fwd_new hn]
    have hw : WholeAt F x.toNat := by rcases h.2.2 with h2 | h2; exact absurd h2.1 hn; exact h2
    show T.length ≤ (T ++ segW F x.toNat).length ∧ (T ++ segW F x.toNat).length ≤ T.length + 4
    rw [List.length_append, segW_len hw]
    have := wLen_le (opW F x.toNat)
    omega
theorem fwd_old' {F T : List Int} {a : Nat} (hT : T.length ≤ 900000) : ∀ x, opW (fwd F T a).1 x = opW F x ∨ (opW (fwd F T a).1 x < 0 ∧ -1000000 ≤ opW (fwd F T a).1 x) := by
  intro x
  by_cases hn : opW F a < 0
  · rw [fwd_old hn]; exact Or.inl rfl
  · rw [fwd_new hn]
    show opW (F.set a (-(T.length : Int) - 1)) x = opW F x ∨ (opW (F.set a (-(T.length : Int) - 1)) x < 0 ∧ -1000000 ≤ opW (F.set a (-(T.length : Int) - 1)) x)
    rw [opW_set]
    split
    · right; omega
    · left; rfl
theorem fwd_rest {F T : List Int} {a y : Nat} (hy : y < T.length) : opW (fwd F T a).2.1 y = opW T y := by
  unfold fwd; split
  · rfl
  · exact opW_append hy
theorem scanI_zero (F T : List Int) (scan n : Nat) : ScanI F T scan n 0 (F, T) := ⟨rfl, ⟨Nat.le_refl _, Nat.le_add_right _ _⟩, fun x => Or.inl rfl, fun i _ _ => rfl⟩
theorem ScanI.step {F T : List Int} {scan n k : Nat} {s : List Int × List Int} (h : ScanI F T scan n k s) (hf : FitsF F T scan n) (hn : n ≤ 4) (hk : k + 1 < n) (hs : scan + n ≤ T.length) (hT : T.length ≤ 800000) : ScanI F T scan n (k + 1) (scanS scan (k + 1) s) := by
  have hx : opW s.2 (scan + (k + 1)) = opW T (scan + (k + 1)) := h.rest (k + 1) (by omega) hk
  have hc := h.can (hf (k + 1) (by omega) hk)
  unfold scanS
  rw [hx]
  generalize hX : opW T (scan + (k + 1)) = x at *
  have l1 := fwd_lenT (T := s.2) hc
  have l2 := h.lenT
  refine ⟨by rw [fwd_lenF]; exact h.lenF, ?_, fun y => ?_, fun i hi hin => ?_⟩
  · simp only [List.length_set]; omega
  · rcases fwd_old' (F := s.1) (T := s.2) (a := x.toNat) (by omega) y with e | e
    · rw [e]; exact h.old y
    · exact Or.inr e
  · simp only
    rw [opW_set, if_neg (by omega), fwd_rest (by omega)]
    exact h.rest i (by omega) hin
theorem scanN_inv {F T : List Int} {scan n : Nat} (hf : FitsF F T scan n) (hn : n ≤ 4) (hs : scan + n ≤ T.length) (hT : T.length ≤ 800000) : ∀ k, k < n → ScanI F T scan n k (scanN F T scan k)
  | 0, _ => scanI_zero F T scan n
  | k + 1, h => (scanN_inv hf hn hs hT k (by omega)).step hf hn h hs hT
/-- how many operands are addresses -/
def kidsN7 (op : Int) : Nat := if isNumOp op = true then 0 else wLen op - 1
/-- a cell is scanned -/
def scanC (F T : List Int) (scan : Nat) : List Int × List Int := scanN F T scan (kidsN7 (opW T scan))
end Go.Proofs.Ytiipcgnkfhjpeaa
/-
  PLAIN FACTS ON WHAT CAN BE REACHED IN A GRAPH: the two searches (marked when taken from the work, marked when added to it), each with what holds behind every step. No program is named here.
-/
namespace Go.Proofs.Ytiipcgnkfhjpeaa
set_option linter.unusedVariables false
set_option linter.unusedSimpArgs false

/-- the operands of a cell, as places -/
def kidsN (g : List Ce) (a : Nat) : List Nat := (g.getD a ⟨0, 0, []⟩).kids.map Int.toNat
inductive Reach (g : List Ce) (r : Nat) : Nat → Prop
  | root : Reach g r r
  | kid (a k : Nat) : Reach g r a → k ∈ kidsN g a → Reach g r k

theorem arity_le (op : Int) : cArity op ≤ 3 := by unfold cArity arity; repeat' split; all_goals omega
theorem kids_graph {g : List Ce} {defs : Int} (h : graphB g defs = true) (a : Nat) (ha : a < g.length) : g[a].kids.length ≤ 3 ∧ ∀ k ∈ g[a].kids, 0 ≤ k ∧ k < g.length := by
  have hc := graphB_cell h a ha
  unfold cellB fitsB at hc
  simp only [Bool.and_eq_true, decide_eq_true_eq, List.all_eq_true, isAt] at hc
  obtain ⟨⟨h1, -⟩, h3⟩ := hc
  have := arity_le g[a].op
  exact ⟨by omega, h3⟩
theorem kidsN_at {g : List Ce} (a : Nat) (ha : a < g.length) : kidsN g a = g[a].kids.map Int.toNat := by unfold kidsN; rw [getD_at _ _ _ ha]
theorem kidsN_lt {g : List Ce} {defs : Int} (h : graphB g defs = true) (a : Nat) (ha : a < g.length) (k : Nat) (hk : k ∈ kidsN g a) : k < g.length := by
  rw [kidsN_at a ha] at hk
  simp only [List.mem_map] at hk
  obtain ⟨x, hx, rfl⟩ := hk
  have := (kids_graph h a ha).2 x hx
  omega
def setF (f : Nat → Bool) (a : Nat) : Nat → Bool := fun b => if b = a then true else f b
theorem setF_same (f : Nat → Bool) (a : Nat) : setF f a a = true := by simp [setF]
theorem setF_of {f : Nat → Bool} {a b : Nat} (h : f b = true) : setF f a b = true := by unfold setF; split <;> simp_all
theorem setF_inv {f : Nat → Bool} {a b : Nat} (h : setF f a b = true) : b = a ∨ f b = true := by
  unfold setF at h; split at h
  · left; assumption
  · right; exact h
/-! ### The model's search: marked when it is taken -/
structure SInv (g : List Ce) (r : Nat) (f : Nat → Bool) (work : List Nat) : Prop where
  rt : f r = true ∨ r ∈ work
  fl : ∀ a, f a = true → Reach g r a ∧ a < g.length
  wk : ∀ a ∈ work, Reach g r a ∧ a < g.length
  cl : ∀ a, f a = true → ∀ k ∈ kidsN g a, f k = true ∨ k ∈ work
theorem SInv.start (g : List Ce) (r : Nat) (hr : r < g.length) : SInv g r (fun _ => false) [r] where
  rt := Or.inr (by simp)
  fl := by intro a h; cases h
  wk := by intro a h; simp only [List.mem_singleton] at h; subst h; exact ⟨.root, hr⟩
  cl := by intro a h; cases h
theorem SInv.old {g : List Ce} {r a : Nat} {f : Nat → Bool} {rest : List Nat} (h : SInv g r f (rest ++ [a])) (ha : f a = true) : SInv g r f rest where
  rt := by
    rcases h.rt with h1 | h1
    · exact Or.inl h1
    · rcases List.mem_append.1 h1 with h2 | h2
      · exact Or.inr h2
      · simp only [List.mem_singleton] at h2; subst h2; exact Or.inl ha
  fl := h.fl
  wk := fun b hb => h.wk b (List.mem_append_left _ hb)
  cl := fun b hb k hk => by
    rcases h.cl b hb k hk with h1 | h1
    · exact Or.inl h1
    · rcases List.mem_append.1 h1 with h2 | h2
      · exact Or.inr h2
      · simp only [List.mem_singleton] at h2; subst h2; exact Or.inl ha
theorem SInv.new {g : List Ce} {r a : Nat} {defs : Int} {f : Nat → Bool} {rest : List Nat} (hg : graphB g defs = true) (h : SInv g r f (rest ++ [a])) : SInv g r (setF f a) (rest ++ kidsN g a) := by
  have ha := h.wk a (List.mem_append_right _ (by simp))
  refine ⟨?_, fun b hb => ?_, fun b hb => ?_, fun b hb k hk => ?_⟩
  · rcases h.rt with h1 | h1
    · exact Or.inl (setF_of h1)
    · rcases List.mem_append.1 h1 with h2 | h2
      · exact Or.inr (List.mem_append_left _ h2)
      · simp only [List.mem_singleton] at h2; subst h2; exact Or.inl (setF_same _ _)
  · rcases setF_inv hb with rfl | h1
    · exact ha
    · exact h.fl b h1
  · rcases List.mem_append.1 hb with h1 | h1
    · exact h.wk b (List.mem_append_left _ h1)
    · exact ⟨.kid a b ha.1 h1, kidsN_lt hg a ha.2 b h1⟩
  · rcases setF_inv hb with rfl | h1
    · exact Or.inr (List.mem_append_right _ hk)
    · rcases h.cl b h1 k hk with h2 | h2
      · exact Or.inl (setF_of h2)
      · rcases List.mem_append.1 h2 with h3 | h3
        · exact Or.inr (List.mem_append_left _ h3)
        · simp only [List.mem_singleton] at h3; subst h3; exact Or.inl (setF_same _ _)
/-! ### The program's search: marked when it is added -/
structure IInv (g : List Ce) (r : Nat) (f : Nat → Bool) (work : List Nat) : Prop where
  rt : f r = true
  fl : ∀ a, f a = true → Reach g r a ∧ a < g.length
  wk : ∀ a ∈ work, f a = true
  cl : ∀ a, f a = true → a ∈ work ∨ ∀ k ∈ kidsN g a, f k = true
/-- .. in the middle of the operands of a cell -/
structure MInv (g : List Ce) (r : Nat) (f : Nat → Bool) (work : List Nat) (at' j : Nat) : Prop where
  rt : f r = true
  fl : ∀ a, f a = true → Reach g r a ∧ a < g.length
  wk : ∀ a ∈ work, f a = true
  me : f at' = true
  cl : ∀ a, f a = true → a ∈ work ∨ a = at' ∨ ∀ k ∈ kidsN g a, f k = true
  js : ∀ i, i < j → ∀ k, (kidsN g at')[i]? = some k → f k = true
theorem IInv.start (g : List Ce) (r : Nat) (hr : r < g.length) : IInv g r (setF (fun _ => false) r) [r] where
  rt := setF_same _ _
  fl := by intro a h; rcases setF_inv h with rfl | h; exact ⟨.root, hr⟩; cases h
  wk := by intro a h; simp only [List.mem_singleton] at h; subst h; exact setF_same _ _
  cl := by intro a h; rcases setF_inv h with rfl | h; exact Or.inl (by simp); cases h
theorem MInv.old {g : List Ce} {r a j k : Nat} {f : Nat → Bool} {work : List Nat} (h : MInv g r f work a j) (hk : (kidsN g a)[j]? = some k) (hf : f k = true) : MInv g r f work a (j + 1) where
  rt := h.rt
  fl := h.fl
  wk := h.wk
  me := h.me
  cl := h.cl
  js := fun i hi x hx => by
    by_cases e : i = j
    · subst e; rw [hk] at hx; cases hx; exact hf
    · exact h.js i (by omega) x hx
theorem MInv.new {g : List Ce} {r a j k : Nat} {f : Nat → Bool} {work : List Nat} (h : MInv g r f work a j) (hk : (kidsN g a)[j]? = some k) (hl : k < g.length) : MInv g r (setF f k) (work ++ [k]) a (j + 1) where
  rt := setF_of h.rt
  fl := fun b hb => by
    rcases setF_inv hb with rfl | h1
    · exact ⟨.kid a b (h.fl a h.me).1 (List.mem_of_getElem? hk), hl⟩
    · exact h.fl b h1
  wk := fun b hb => by
    rcases List.mem_append.1 hb with h1 | h1
    · exact setF_of (h.wk b h1)
    · simp only [List.mem_singleton] at h1; subst h1; exact setF_same _ _
  me := setF_of h.me
  cl := fun b hb => by
    rcases setF_inv hb with rfl | h1
    · exact Or.inl (by simp)
    · rcases h.cl b h1 with h2 | h2 | h2
      · exact Or.inl (List.mem_append_left _ h2)
      · exact Or.inr (Or.inl h2)
      · exact Or.inr (Or.inr fun x hx => setF_of (h2 x hx))
  js := fun i hi x hx => by
    by_cases e : i = j
    · subst e; rw [hk] at hx; cases hx; exact setF_same _ _
    · exact setF_of (h.js i (by omega) x hx)
end Go.Proofs.Ytiipcgnkfhjpeaa
