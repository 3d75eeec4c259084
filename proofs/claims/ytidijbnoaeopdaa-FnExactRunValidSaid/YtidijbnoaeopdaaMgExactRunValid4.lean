/-
  WHAT THE READING OF AN ARGUMENT GIVES: a program of the laws' own type is a list of functions in memory.
-/
import Derived.Test.YtidijbnoaeopdaaMgExactRunValid3
import Derived.Test.YtidijbnoaeopdaaMgExactRunValid1
import Derived.Test.YtidijbnoaeopdaaProg
import Derived.Deep.QuietTactic
import Derived.BigQuiet
import Derived.WalkSmall
namespace Go.Proofs.Ytidijbnoaeopdaa
open Go.RowKit
set_option linter.unusedVariables false
set_option linter.unusedSimpArgs false
section
variable {H : Type} {enc : TypeId × Value → H} {w : World} {base : Nat} {spare : Nat → Bool} {held : Bool}

theorem list4 {α : Type} (l : List α) (h : l.length = 4) : ∃ a b c d, l = [a, b, c, d] := by
  match l, h with
  | [a, b, c, d], _ => exact ⟨a, b, c, d, rfl⟩
theorem list2 {α : Type} (l : List α) (h : l.length = 2) : ∃ a b, l = [a, b] := by
  match l, h with
  | [a, b], _ => exact ⟨a, b, rfl⟩

/-- an expression of the laws' own type, of its three cells -/
theorem trod_lawExpr (fuel : Nat) (p q r : Value) (x : DataW H × List MemPlace) (h : DataW.trod enc Try.prog w base spare held fuel 25 [p, q, r] = some x) : ∃ t : Tr, TrOn w (Lt w.heap.size) t p q r := by
  obtain ⟨xs, m, -, -, -, hxl, hf⟩ := DataW.trod_struct Try.underlying25 h
  obtain ⟨y0, y1, y2, rfl⟩ := list3 xs (by simpa using hxl)
  have hp := hf 0 _ rfl
  have hq := hf 1 _ rfl
  have hr := hf 2 _ rfl
  have c1 : Try.prog.cellsOf 3 = 1 := by kernel_rfl
  have c2 : Try.prog.cellsOf 23 = 1 := by kernel_rfl
  simp [c1, c2] at hp hq hr
  obtain ⟨o, e0, _, w0⟩ := DataW.trod_int Try.underlying3 hp
  obtain ⟨n, e1, _, w1⟩ := DataW.trod_int Try.underlying3 hq
  obtain ⟨ks, hk⟩ := trod_lawKids m r y2 hr
  simp only [List.cons.injEq, and_true] at e0 e1
  exact ⟨.node o n ks, trOn_iff.2 ⟨e0, e1, bounds_i64 w0, bounds_i64 w1, hk⟩⟩

theorem trod_lawDefs (fuel : Nat) (v : Value) (x : DataW H × List MemPlace) (h : DataW.trod enc Try.prog w base spare held fuel 22 [v] = some x) : ∃ ds, DIn w ds v := by
  have hC : Try.prog.cellsOf 60 = 4 := by kernel_rfl
  have hC3 : Try.prog.cellsOf 25 = 3 := by kernel_rfl
  have hC1 : Try.prog.cellsOf 3 = 1 := by kernel_rfl
  rcases DataW.trod_slice Try.underlying22 h with ⟨h0', _⟩ | ⟨a, len, cap, elems, rest, n, hfu, hv, _, hb, hl, hm, hlen, hel, _, _⟩
  · simp only [List.cons.injEq, and_true] at h0'
    exact ⟨[], none, 0, h0', by simp, by simp [maxLen], Or.inl rfl⟩
  · simp only [List.cons.injEq, and_true] at hv
    have key : ∀ i, i < len → ∃ d : Df, ∃ p q r s, w.cell? (a.add (i * 4)) = some p ∧ w.cell? ((a.add (i * 4)).add 1) = some q ∧ w.cell? ((a.add (i * 4)).add 2) = some r ∧ w.cell? ((a.add (i * 4)).add 3) = some s ∧ DfOn w (Lt w.heap.size) d p q r s := by
      intro i hi
      have hh := hel i hi
      rw [hC] at hh
      obtain ⟨cs, hcs, hd⟩ := Option.bind_eq_some_iff.1 (hh.trans (List.getElem?_eq_getElem (by omega)))
      obtain ⟨_, hl4, hcell⟩ := World.cells?_some hcs
      obtain ⟨p, q, r, s, rfl⟩ := list4 cs hl4
      obtain ⟨xs, m, hm1, _, _, hxl, hf⟩ := DataW.trod_struct Try.underlying60 hd
      obtain ⟨y0, y1, rfl⟩ := list2 xs (by simpa using hxl)
      have hp := hf 0 _ rfl
      have hq := hf 1 _ rfl
      simp [hC1, hC3] at hp hq
      obtain ⟨na, e0, _, w0⟩ := DataW.trod_int Try.underlying3 hp
      simp only [List.cons.injEq, and_true] at e0
      obtain ⟨t, ht⟩ := trod_lawExpr m q r s y1 hq
      have g0 := hcell 0 (by omega)
      have g1 := hcell 1 (by omega)
      have g2 := hcell 2 (by omega)
      have g3 := hcell 3 (by omega)
      exact ⟨(na, t), p, q, r, s, by simpa [Addr.add] using g0, by simpa using g1, by simpa using g2, by simpa using g3, e0, bounds_i64 w0, ht⟩
    subst hv
    obtain ⟨f, hfk⟩ := Deep.choose_lt key
    refine ⟨(List.range len).map f, some a, cap, by simp, by simpa using hl, hm, ?_⟩
    by_cases hz : len = 0
    · left; simp [hz]
    right
    obtain ⟨bl, off, spot⟩ := a
    obtain ⟨p, q, r, s, g0, _⟩ := hfk 0 (by omega)
    have hspot : spot = none := by simpa [Addr.add] using World.cell?_spot g0
    subst hspot
    refine ⟨bl, off, rfl, by have := cell_lt g0; simpa [Addr.add, Lt] using this, fun i hi => ?_⟩
    simp only [List.length_map, List.length_range] at hi
    obtain ⟨p, q, r, s, g0, g1, g2, g3, g4⟩ := hfk i hi
    rw [WideShapes.add_plain] at g0 g1 g2 g3
    rw [WideShapes.add_plain] at g1 g2 g3
    exact ⟨p, q, r, s, g0, g1, g2, g3, by simpa using g4⟩
end
end Go.Proofs.Ytidijbnoaeopdaa
/-
  make, OF SO MANY INTS: a new row of zeros.
-/
namespace Go.Proofs.Ytidijbnoaeopdaa
set_option linter.unusedVariables false
set_option linter.unusedSimpArgs false
open Go.RowKit

theorem infoI : (Try.prog.info? 3).map (fun i => (i.zero, i.size, i.bytes)) = some (some (.int .i64 0), 1, 8) := by kernel_rfl
/-- make, of so many ints: a new row of zeros -/
theorem make_ints (n : Nat) (h : n ≤ 1048576) : ∀ w : World, (Instr.makeSlice 84 (.int .i64 (n : Int)) (.int .i64 (n : Int))).run Try.prog w = .ok (.slice (some ⟨w.heap.size, 0, none⟩) n n) (w.alloc (.cells (madeCells #[.int .i64 0] n) 3)) := by
  obtain ⟨i, hi, hzz⟩ := Option.map_eq_some_iff.1 infoI
  simp only [Prod.mk.injEq] at hzz
  obtain ⟨hz, hs, hb⟩ := hzz
  intro w
  have hr := run_make (P := Try.prog) w 84 3 i _ Try.underlying84 hi hz .i64 .i64 n n (by omega) (Int.le_refl _) (by rw [hb]; omega) (by omega)
  simp only [Int.toNat_natCast, hs, Nat.mul_one] at hr
  exact hr
theorem zero_row (w : World) (n : Nat) : (w.alloc (.cells (madeCells #[.int .i64 0] n) 3)).rowIs w.heap.size 3 n (fun i => .int .i64 (((fun _ => 0 : Nat → Nat) i : Nat) : Int)) := by
  have hl : (madeCells #[.int .i64 0] n).toList = List.replicate n (.int .i64 0) := toList_madeCells_one _ _
  have hsz : (madeCells #[.int .i64 0] n).size = n := by rw [← Array.length_toList, hl, List.length_replicate]
  refine ⟨_, Deep.blk_alloc_new _ _, hsz, fun i hi => ?_⟩
  rw [← Array.getElem?_toList, hl, List.getElem?_replicate, if_pos hi]
  rfl
end Go.Proofs.Ytidijbnoaeopdaa
/-
  SLICES OF INTS IN MEMORY; the laws' own comparison and copy of them (eqIntS, toIntS).
-/
namespace Go.Proofs.Ytidijbnoaeopdaa
set_option linter.unusedVariables false
set_option linter.unusedSimpArgs false
open Go.RowKit

/-- a slice value that holds these numbers, its block out of S -/
def IntsOn (w : World) (S : Nat → Prop) (xs : List Int) (v : Value) : Prop :=
  ∃ ad cap, v = .slice ad xs.length cap ∧ xs.length ≤ cap ∧ cap ≤ maxLen ∧ (xs = [] ∨ ∃ bl off, ad = some ⟨bl, off, none⟩ ∧ S bl ∧ ∀ i (h : i < xs.length), w.cell? ⟨bl, off + i, none⟩ = some (.int .i64 xs[i]))
/-- .. in a row of its own, from block lo on -/
def IntRow (w : World) (lo : Nat) (xs : List Int) (v : Value) : Prop :=
  ∃ ad cap, v = .slice ad xs.length cap ∧ xs.length ≤ cap ∧ cap ≤ maxLen ∧ (xs = [] ∨ ∃ g f, ad = some ⟨g, 0, none⟩ ∧ lo ≤ g ∧ w.rowIs g 3 cap f ∧ ∀ i (h : i < xs.length), f i = .int .i64 xs[i])
theorem IntRow.on {w : World} {lo : Nat} {xs : List Int} {v : Value} (h : IntRow w lo xs v) : IntsOn w (fun k => lo ≤ k ∧ k < w.heap.size) xs v := by
  obtain ⟨ad, cap, e, l1, l2, h⟩ := h
  refine ⟨ad, cap, e, l1, l2, h.imp id ?_⟩
  rintro ⟨g, f, rfl, hg, hr, hf⟩
  refine ⟨g, 0, rfl, ⟨hg, hr.lt⟩, fun i hi => ?_⟩
  rw [Nat.zero_add, hr.cell (by omega), hf i hi]
theorem IntsOn.mono {w w' : World} {S S' : Nat → Prop} {xs : List Int} {v : Value} (h : IntsOn w S xs v) (hS : ∀ k, S k → S' k) (hw : ∀ k, S k → w'.heap[k]? = w.heap[k]?) : IntsOn w' S' xs v := by
  obtain ⟨ad, cap, e, l1, l2, h⟩ := h
  refine ⟨ad, cap, e, l1, l2, h.imp id ?_⟩
  rintro ⟨bl, off, rfl, hb, hc⟩
  exact ⟨bl, off, rfl, hS _ hb, fun i hi => (World.cell?_of_block (a := ⟨bl, off + i, none⟩) (hw _ hb)).trans (hc i hi)⟩
theorem IntRow.keep {w w' : World} {lo lo' : Nat} {xs : List Int} {v : Value} (h : IntRow w lo xs v) (hl : lo' ≤ lo) (hw : ∀ k, lo ≤ k → k < w.heap.size → w'.heap[k]? = w.heap[k]?) : IntRow w' lo' xs v := by
  obtain ⟨ad, cap, e, l1, l2, h⟩ := h
  refine ⟨ad, cap, e, l1, l2, h.imp id ?_⟩
  rintro ⟨g, f, rfl, hg, hr, hf⟩
  exact ⟨g, f, rfl, by omega, hr.of_block (hw g hg hr.lt), hf⟩
theorem IntRow.next {w w' : World} {lo : Nat} {xs : List Int} {v : Value} (h : IntRow w lo xs v) (hb : Below w.heap.size w w') : IntRow w' lo xs v := h.keep (Nat.le_refl _) fun k _ hk => hb.block k hk
/-- numbers that lie in a world, wherever -/
abbrev IIn (w : World) (xs : List Int) (v : Value) : Prop := IntsOn w (Lt w.heap.size) xs v
theorem IntRow.inn {w : World} {lo : Nat} {xs : List Int} {v : Value} (h : IntRow w lo xs v) : IIn w xs v := h.on.mono (fun k hk => hk.2) fun _ _ => rfl
theorem IntsOn.next {w w' : World} {xs : List Int} {v : Value} (h : IIn w xs v) (hb : Below w.heap.size w w') : IIn w' xs v :=
  h.mono (fun k (hk : k < _) => Nat.lt_of_lt_of_le hk hb.size) fun k hk => hb.block k hk

set_option maxHeartbeats 400000 in
theorem eqInts_calls (xs : List Int) (c d : Value) (w : World) (hc : IIn w xs c) (hd : IIn w xs d) :
    Calls Try.prog 71 #[c, d] w fun e w' => e = .returned (.bool true) ∧ Below w.heap.size w w' := by
  have HC : Hid (IIn w xs c) := hc
  have HD : Hid (IIn w xs d) := hd
  obtain ⟨ad, cap, rfl, hl, hm, -⟩ := hc
  obtain ⟨ad', cap', rfl, hl', hm', -⟩ := hd
  unfold maxLen at hm hm'
  have t1 : ((xs.length : Int) != xs.length) = false := by simp
  go_enter Try.func71, Try.ntmps71
  go_wp2_with fail
  go_loopw [5] (fun i wr => ∃ k : Nat, k ≤ xs.length ∧ i = .int .i64 k ∧ ∃ n, wr = w.drewN n) (fun i _ => xs.length - (intOf i).toNat)
  case atStart => exact ⟨0, Nat.zero_le _, rfl, 0, rfl⟩
  case round =>
    obtain ⟨k, hk, rfl, n, rfl⟩ := hrel
    by_cases hlt : k < xs.length
    · obtain ⟨_, _, he, -, -, hr1⟩ := HC.out
      cases he
      obtain ⟨_, _, he, -, -, hr2⟩ := HD.out
      cases he
      rcases hr1 with rfl | ⟨bl, off, rfl, -, hr1⟩
      · simp at hlt
      rcases hr2 with rfl | ⟨bl', off', rfl, -, hr2⟩
      · simp at hlt
      have c0 := hr1 k hlt
      have d0 := hr2 k hlt
      have t2 : (xs[k] != xs[k]) = false := by simp
      clear hr1 hr2
      go_wp2_with fail
      go_quiet (fail)
      go_wp2_with fail
      go_roundw
      case rel => exact ⟨k + 1, by omega, by go_num, _, rfl⟩
      case measure => simp [intOf]; omega
    · go_wp2_with fail
      go_ret
      exact ⟨rfl, below_drewN (Below.refl _ _) _⟩

theorem IntRow.none (w : World) (lo : Nat) : IntRow w lo [] (.slice none 0 0) := ⟨_, _, rfl, Nat.le_refl _, by simp [maxLen], Or.inl rfl⟩
/-- the answer: the numbers in a row of their own -/
def NewInts (xs : List Int) (w : World) (e : Ending) (w' : World) : Prop := ∃ v, e = .returned v ∧ IntRow w' w.heap.size xs v ∧ Below w.heap.size w w'
end Go.Proofs.Ytidijbnoaeopdaa
/-
  THE LAWS' OWN COPY OF A SLICE OF INTS (toIntS).
-/
namespace Go.Proofs.Ytidijbnoaeopdaa
set_option linter.unusedVariables false
set_option linter.unusedSimpArgs false
open Go.RowKit

/-! ### The copy -/
/-- what holds of the copy behind k rounds -/
def ToIRel (xs : List Int) (w : World) (k : Nat) (wr : World) : Prop :=
  ∃ f : Nat → Value, wr.rowIs w.heap.size 3 xs.length f ∧ (∀ j (_ : j < k) (hj : j < xs.length), f j = .int .i64 xs[j]) ∧ Below w.heap.size w wr
theorem toIRel_start (xs : List Int) (w : World) : ToIRel xs w 0 (w.alloc (.cells (madeCells #[.int .i64 0] xs.length) 3)) :=
  ⟨_, zero_row w xs.length, fun j hj => absurd hj (by omega), (Below.refl _ _).alloc (Nat.le_refl _) _⟩
theorem toIRel_step {xs : List Int} {w wr : World} {k : Nat} (h : ToIRel xs w k wr) (hk : k < xs.length) : ToIRel xs w (k + 1) (wr.setCell ⟨w.heap.size, k, none⟩ (.int .i64 xs[k])) := by
  obtain ⟨f, hr, ht, hb⟩ := h
  refine ⟨_, hr.set k _, fun j hj hl => ?_, hb.setCell (Nat.le_refl _) _⟩
  by_cases hjk : j = k
  · subst hjk; simp
  · simp [hjk, ht j (by omega) hl]

theorem toIRel_end {xs : List Int} {w wr : World} (h : ToIRel xs w xs.length wr) (hl : xs.length ≤ 1048576) : NewInts xs w (.returned (.slice (some ⟨w.heap.size, 0, none⟩) xs.length xs.length)) wr := by
  obtain ⟨f, hr, ht, hb⟩ := h
  exact ⟨_, rfl, ⟨_, _, rfl, Nat.le_refl _, by unfold maxLen; omega, Or.inr ⟨_, f, rfl, Nat.le_refl _, hr, fun i hi => ht i hi hi⟩⟩, hb⟩

set_option maxHeartbeats 400000 in
theorem toInts_calls (xs : List Int) (c : Value) (w : World) (hc : IIn w xs c) (hlen : xs.length ≤ 1048576) :
    Calls Try.prog 74 #[c] w (NewInts xs w) := by
  have HC : Hid (IIn w xs c) := hc
  obtain ⟨ad, cap, rfl, hl, hm, -⟩ := hc
  unfold maxLen at hm
  have hmk := make_ints xs.length hlen
  go_enter Try.func74, Try.ntmps74
  go_wp2_with fail
  go_loopw [4] (fun i wr => ∃ k : Nat, k ≤ xs.length ∧ i = .int .i64 k ∧ ToIRel xs w k wr) (fun i _ => xs.length - (intOf i).toNat)
  case atStart => exact ⟨0, Nat.zero_le _, rfl, toIRel_start xs w⟩
  case round =>
    obtain ⟨k, hk, rfl, hto⟩ := hrel
    have HT : Hid (ToIRel xs w k wr) := hto
    obtain ⟨f, hr0, _, hb⟩ := hto
    by_cases hlt : k < xs.length
    · obtain ⟨_, _, he, -, -, hr1⟩ := HC.out.next hb
      cases he
      rcases hr1 with rfl | ⟨bl, off, rfl, -, hr1⟩
      · simp at hlt
      have c0 := hr1 k hlt
      have g0 := hr0.cell (i := k) (by omega)
      have f0 := hr0.frozen k
      clear hr1 hb hr0
      go_wp2_with fail
      go_roundw
      case rel => exact ⟨k + 1, by omega, by go_num, toIRel_step HT.out hlt⟩
      case measure => simp [intOf]; omega
    · have hke : xs.length = k := by omega
      have HV : Hid (NewInts xs w (.returned (.slice (some ⟨w.heap.size, 0, none⟩) xs.length xs.length)) wr) := by subst hke; exact toIRel_end HT.out hlen
      clear hke hr0 hb
      go_wp2_with fail
      go_ret
      exact HV.out
end Go.Proofs.Ytidijbnoaeopdaa
