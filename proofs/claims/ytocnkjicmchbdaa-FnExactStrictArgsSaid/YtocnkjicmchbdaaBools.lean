/-
  SLICES OF TRUTH VALUES IN MEMORY; the laws' own count, copy and comparison of them (szBoolS, toBoolS, eqBoolS).
-/
import Derived.Test.YtocnkjicmchbdaaMakeI
import Derived.Test.YtocnkjicmchbdaaProg
import Derived.Deep.QuietTactic
import Derived.BigQuiet
import Derived.WalkSmall
namespace Go.Proofs.Ytocnkjicmchbdaa
set_option linter.unusedVariables false
set_option linter.unusedSimpArgs false
open Go.RowKit

/-- a slice value that holds these truth values, its block out of S -/
def BoolsOn (w : World) (S : Nat → Prop) (xs : List Bool) (v : Value) : Prop :=
  ∃ ad cap, v = .slice ad xs.length cap ∧ xs.length ≤ cap ∧ cap ≤ maxLen ∧ (xs = [] ∨ ∃ bl off, ad = some ⟨bl, off, none⟩ ∧ S bl ∧ ∀ i (h : i < xs.length), w.cell? ⟨bl, off + i, none⟩ = some (.bool xs[i]))
/-- .. in a row of its own, from block lo on -/
def BoolRow (w : World) (lo : Nat) (xs : List Bool) (v : Value) : Prop :=
  ∃ ad cap, v = .slice ad xs.length cap ∧ xs.length ≤ cap ∧ cap ≤ maxLen ∧ (xs = [] ∨ ∃ g f, ad = some ⟨g, 0, none⟩ ∧ lo ≤ g ∧ w.rowIs g 4 cap f ∧ ∀ i (h : i < xs.length), f i = .bool xs[i])
theorem BoolRow.on {w : World} {lo : Nat} {xs : List Bool} {v : Value} (h : BoolRow w lo xs v) : BoolsOn w (fun k => lo ≤ k ∧ k < w.heap.size) xs v := by
  obtain ⟨ad, cap, e, l1, l2, h⟩ := h
  refine ⟨ad, cap, e, l1, l2, h.imp id ?_⟩
  rintro ⟨g, f, rfl, hg, hr, hf⟩
  refine ⟨g, 0, rfl, ⟨hg, hr.lt⟩, fun i hi => ?_⟩
  rw [Nat.zero_add, hr.cell (by omega), hf i hi]
theorem BoolsOn.mono {w w' : World} {S S' : Nat → Prop} {xs : List Bool} {v : Value} (h : BoolsOn w S xs v) (hS : ∀ k, S k → S' k) (hw : ∀ k, S k → w'.heap[k]? = w.heap[k]?) : BoolsOn w' S' xs v := by
  obtain ⟨ad, cap, e, l1, l2, h⟩ := h
  refine ⟨ad, cap, e, l1, l2, h.imp id ?_⟩
  rintro ⟨bl, off, rfl, hb, hc⟩
  exact ⟨bl, off, rfl, hS _ hb, fun i hi => (World.cell?_of_block (a := ⟨bl, off + i, none⟩) (hw _ hb)).trans (hc i hi)⟩
theorem BoolRow.keep {w w' : World} {lo lo' : Nat} {xs : List Bool} {v : Value} (h : BoolRow w lo xs v) (hl : lo' ≤ lo) (hw : ∀ k, lo ≤ k → k < w.heap.size → w'.heap[k]? = w.heap[k]?) : BoolRow w' lo' xs v := by
  obtain ⟨ad, cap, e, l1, l2, h⟩ := h
  refine ⟨ad, cap, e, l1, l2, h.imp id ?_⟩
  rintro ⟨g, f, rfl, hg, hr, hf⟩
  exact ⟨g, f, rfl, by omega, hr.of_block (hw g hg hr.lt), hf⟩
theorem BoolRow.next {w w' : World} {lo : Nat} {xs : List Bool} {v : Value} (h : BoolRow w lo xs v) (hb : Below w.heap.size w w') : BoolRow w' lo xs v := h.keep (Nat.le_refl _) fun k _ hk => hb.block k hk
/-- truth values that lie in a world, wherever -/
abbrev BIn (w : World) (xs : List Bool) (v : Value) : Prop := BoolsOn w (Lt w.heap.size) xs v
theorem BoolRow.inn {w : World} {lo : Nat} {xs : List Bool} {v : Value} (h : BoolRow w lo xs v) : BIn w xs v := h.on.mono (fun k hk => hk.2) fun _ _ => rfl
theorem BoolsOn.next {w w' : World} {xs : List Bool} {v : Value} (h : BIn w xs v) (hb : Below w.heap.size w w') : BIn w' xs v :=
  h.mono (fun k (hk : k < _) => Nat.lt_of_lt_of_le hk hb.size) fun k hk => hb.block k hk
theorem BoolsOn.drew {w : World} {xs : List Bool} {v : Value} (h : BIn w xs v) : BIn w.drew xs v := h.next ((Below.refl _ _).drew)
/-- value i, opened -/
theorem BoolsOn.at {w : World} {xs : List Bool} {ad : Option Addr} {n cap : Nat} (h : BIn w xs (.slice ad n cap)) (i : Nat) (hi : i < xs.length) :
    ∃ bl off, ad = some ⟨bl, off, none⟩ ∧ bl < w.heap.size ∧ w.cell? ⟨bl, off + i, none⟩ = some (.bool xs[i]) := by
  obtain ⟨ad', cap', he, -, -, hr⟩ := h
  cases he
  rcases hr with rfl | ⟨bl, off, rfl, hb, r⟩
  · simp at hi
  exact ⟨bl, off, rfl, hb, r i hi⟩
theorem BoolRow.none (w : World) (lo : Nat) : BoolRow w lo [] (.slice none 0 0) := ⟨_, _, rfl, Nat.le_refl _, by simp [maxLen], Or.inl rfl⟩
theorem BoolRow.down {w : World} {lo lo' : Nat} {xs : List Bool} {v : Value} (h : BoolRow w lo xs v) (hl : lo' ≤ lo) : BoolRow w lo' xs v := h.keep hl fun _ _ _ => rfl
theorem BoolRow.setCell {w : World} {lo : Nat} {xs : List Bool} {v : Value} (h : BoolRow w lo xs v) {a : Addr} (ha : a.block < lo) (u : Value) : BoolRow (w.setCell a u) lo xs v :=
  h.keep (Nat.le_refl _) fun k hk _ => Below.heap_setCell _ _ _ _ (fun e => by omega)
/-- the answer: the truth values in a row of their own -/
def NewBools (xs : List Bool) (w : World) (e : Ending) (w' : World) : Prop := ∃ v, e = .returned v ∧ BoolRow w' w.heap.size xs v ∧ Below w.heap.size w w'

/-! ### The comparison -/
set_option maxHeartbeats 400000 in
theorem eqBools_calls (xs : List Bool) (c d : Value) (w : World) (hc : BIn w xs c) (hd : BIn w xs d) :
    Calls Try.prog 58 #[c, d] w fun e w' => e = .returned (.bool true) ∧ Below w.heap.size w w' := by
  have HC : Hid (BIn w xs c) := hc
  have HD : Hid (BIn w xs d) := hd
  obtain ⟨ad, cap, rfl, hl, hm, -⟩ := hc
  obtain ⟨ad', cap', rfl, hl', hm', -⟩ := hd
  unfold maxLen at hm hm'
  have t1 : ((xs.length : Int) != xs.length) = false := by simp
  go_enter Try.func58, Try.ntmps58
  go_wp2_with fail
  go_loopw [5] (fun i wr => ∃ k : Nat, k ≤ xs.length ∧ i = .int .i64 k ∧ ∃ n, wr = w.drewN n) (fun i _ => xs.length - (intOf i).toNat)
  case atStart => exact ⟨0, Nat.zero_le _, rfl, 0, rfl⟩
  case round =>
    obtain ⟨k, hk, rfl, n, rfl⟩ := hrel
    by_cases hlt : k < xs.length
    · obtain ⟨bl, off, rfl, -, c0⟩ := HC.out.at k hlt
      obtain ⟨bl', off', rfl, -, d0⟩ := HD.out.at k hlt
      obtain ⟨b, hb⟩ : ∃ b : Bool, xs[k] = b := ⟨_, rfl⟩
      rw [hb] at c0 d0
      have t2 : (b != b) = false := by simp
      clear hb
      go_wp2_with fail
      go_quiet (fail)
      go_wp2_with fail
      go_roundw
      case rel => exact ⟨k + 1, by omega, by go_num, _, rfl⟩
      case measure => simp [intOf]; omega
    · go_wp2_with fail
      go_ret
      exact ⟨rfl, below_drewN (Below.refl _ _) _⟩

/-! ### The copy -/
theorem infoBx : (Try.prog.info? 4).map (fun i => (i.zero, i.size, i.bytes)) = some (some (.bool false), 1, 1) := by kernel_rfl
/-- make, of so many truth values: a new row of false -/
theorem make_boolx (n : Nat) (h : n ≤ 1048576) : ∀ w : World, (Instr.makeSlice 74 (.int .i64 (n : Int)) (.int .i64 (n : Int))).run Try.prog w = .ok (.slice (some ⟨w.heap.size, 0, none⟩) n n) (w.alloc (.cells (madeCells #[.bool false] n) 4)) := by
  obtain ⟨i, hi, hzz⟩ := Option.map_eq_some_iff.1 infoBx
  simp only [Prod.mk.injEq] at hzz
  obtain ⟨hz, hs, hb⟩ := hzz
  intro w
  have hr := run_make (P := Try.prog) w 74 4 i _ Try.underlying74 hi hz .i64 .i64 n n (by omega) (Int.le_refl _) (by rw [hb]; omega) (by omega)
  simp only [Int.toNat_natCast, hs, Nat.mul_one] at hr
  exact hr
theorem false_row (w : World) (n : Nat) : (w.alloc (.cells (madeCells #[.bool false] n) 4)).rowIs w.heap.size 4 n (fun i => .bool (((fun _ => false : Nat → Bool)) i)) := by
  have hl : (madeCells #[.bool false] n).toList = List.replicate n (.bool false) := toList_madeCells_one _ _
  have hsz : (madeCells #[.bool false] n).size = n := by rw [← Array.length_toList, hl, List.length_replicate]
  refine ⟨_, Deep.blk_alloc_new _ _, hsz, fun i hi => ?_⟩
  rw [← Array.getElem?_toList, hl, List.getElem?_replicate, if_pos hi]
/-- what holds of the copy behind k rounds -/
def ToBRel (xs : List Bool) (w : World) (k : Nat) (wr : World) : Prop :=
  ∃ f : Nat → Value, wr.rowIs w.heap.size 4 xs.length f ∧ (∀ j (_ : j < k) (hj : j < xs.length), f j = .bool xs[j]) ∧ Below w.heap.size w wr
theorem toBRel_start (xs : List Bool) (w : World) : ToBRel xs w 0 (w.alloc (.cells (madeCells #[.bool false] xs.length) 4)) :=
  ⟨_, false_row w xs.length, fun j hj => absurd hj (by omega), (Below.refl _ _).alloc (Nat.le_refl _) _⟩
theorem toBRel_step {xs : List Bool} {w wr : World} {k : Nat} (h : ToBRel xs w k wr) (hk : k < xs.length) : ToBRel xs w (k + 1) (wr.setCell ⟨w.heap.size, k, none⟩ (.bool xs[k])) := by
  obtain ⟨f, hr, ht, hb⟩ := h
  refine ⟨_, hr.set k _, fun j hj hl => ?_, hb.setCell (Nat.le_refl _) _⟩
  by_cases hjk : j = k
  · subst hjk; simp
  · simp [hjk, ht j (by omega) hl]
theorem toBRel_end {xs : List Bool} {w wr : World} (h : ToBRel xs w xs.length wr) (hl : xs.length ≤ 1048576) : NewBools xs w (.returned (.slice (some ⟨w.heap.size, 0, none⟩) xs.length xs.length)) wr := by
  obtain ⟨f, hr, ht, hb⟩ := h
  exact ⟨_, rfl, ⟨_, _, rfl, Nat.le_refl _, by unfold maxLen; omega, Or.inr ⟨_, f, rfl, Nat.le_refl _, hr, fun i hi => ht i hi hi⟩⟩, hb⟩

set_option maxHeartbeats 400000 in
theorem toBools_calls (xs : List Bool) (c : Value) (w : World) (hc : BIn w xs c) (hlen : xs.length ≤ 1048576) :
    Calls Try.prog 55 #[c] w (NewBools xs w) := by
  have HC : Hid (BIn w xs c) := hc
  obtain ⟨ad, cap, rfl, hl, hm, -⟩ := hc
  unfold maxLen at hm
  have hmk := make_boolx xs.length hlen
  go_enter Try.func55, Try.ntmps55
  go_wp2_with fail
  go_loopw [4] (fun i wr => ∃ k : Nat, k ≤ xs.length ∧ i = .int .i64 k ∧ ToBRel xs w k wr) (fun i _ => xs.length - (intOf i).toNat)
  case atStart => exact ⟨0, Nat.zero_le _, rfl, toBRel_start xs w⟩
  case round =>
    obtain ⟨k, hk, rfl, hto⟩ := hrel
    have HT : Hid (ToBRel xs w k wr) := hto
    obtain ⟨f, hr0, _, hb⟩ := hto
    by_cases hlt : k < xs.length
    · obtain ⟨bl, off, rfl, -, c0⟩ := (HC.out.next hb).at k hlt
      have g0 := hr0.cell (i := k) (by omega)
      have f0 := hr0.frozen k
      have HS : Hid (ToBRel xs w (k + 1) (wr.setCell ⟨w.heap.size, k, none⟩ (.bool xs[k]))) := toBRel_step HT.out hlt
      clear hb hr0
      go_wp2_with fail
      go_roundw
      case rel => exact ⟨k + 1, by omega, by go_num, HS.out⟩
      case measure => simp [intOf]; omega
    · have hke : xs.length = k := by omega
      have HV : Hid (NewBools xs w (.returned (.slice (some ⟨w.heap.size, 0, none⟩) xs.length xs.length)) wr) := by subst hke; exact toBRel_end HT.out hlen
      clear hke hr0 hb
      go_wp2_with fail
      go_ret
      exact HV.out

/-! ### The count -/
set_option maxHeartbeats 400000 in
theorem szBools_calls (n cap : Nat) (ad : Option Addr) (left : Int) (w : World) (hn : n ≤ 9223372036854775807) (h0 : 0 ≤ left) (h1 : left ≤ 4611686018427387904) :
    Calls Try.prog 51 #[.slice ad n cap, .int .i64 left] w fun e w' => e = .returned (.int .i64 (if (n : Int) ≤ left then left - n else -1)) ∧ Below w.heap.size w w' := by
  by_cases h : (n : Int) ≤ left
  · have h' : ¬ (left - (n : Int) < 0) := by omega
    rw [if_pos h]
    go_enter Try.func51, Try.ntmps51
    go_wp2_with fail
    go_ret
    exact ⟨rfl, Below.refl _ _⟩
  · rw [if_neg h]
    go_enter Try.func51, Try.ntmps51
    go_wp2_with fail
    go_ret
    exact ⟨rfl, Below.refl _ _⟩
end Go.Proofs.Ytocnkjicmchbdaa
