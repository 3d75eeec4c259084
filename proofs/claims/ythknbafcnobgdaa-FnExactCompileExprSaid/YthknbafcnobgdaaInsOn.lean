/-
  CODE IN MEMORY: a slice of instructions (Op, N), two cells of memory each. The laws' own count, copy, comparison, marking and reading of it.
-/
import Derived.Test.YthknbafcnobgdaaCodeT
import Derived.Test.YthknbafcnobgdaaToInts
import Derived.Test.YthknbafcnobgdaaCells
import Derived.Deep.RegionHeld3
import Derived.Deep.RegionWith
import Derived.Deep.DeepMust
namespace Go.Proofs.Ythknbafcnobgdaa
set_option linter.unusedVariables false
set_option linter.unusedSimpArgs false
open Go.RowKit

/-- a slice value that holds these instructions, its block out of S -/
def InsOn (w : World) (S : Nat → Prop) (cs : List Ins) (v : Value) : Prop :=
  ∃ ad cap, v = .slice ad cs.length cap ∧ cs.length ≤ cap ∧ cap ≤ maxLen ∧ (cs = [] ∨ ∃ bl off, ad = some ⟨bl, off, none⟩ ∧ S bl ∧ ∀ i (hi : i < cs.length),
    w.cell? ⟨bl, off + i * 2, none⟩ = some (.int .i64 cs[i].op) ∧ w.cell? ⟨bl, off + i * 2 + 1, none⟩ = some (.int .i64 cs[i].num))
theorem InsOn.mono {w w' : World} {S S' : Nat → Prop} {cs : List Ins} {v : Value} (h : InsOn w S cs v) (hS : ∀ k, S k → S' k) (hw : ∀ k, S k → w'.heap[k]? = w.heap[k]?) : InsOn w' S' cs v := by
  obtain ⟨ad, cap, e, l1, l2, h5⟩ := h
  refine ⟨ad, cap, e, l1, l2, ?_⟩
  rcases h5 with h5 | ⟨bl, off, e, s, r⟩
  · exact Or.inl h5
  · refine Or.inr ⟨bl, off, e, hS _ s, fun i hi => ?_⟩
    obtain ⟨h1, h2⟩ := r i hi
    constructor
    all_goals rw [World.cell?_of_block (w := w) (hw bl s)]; assumption
/-- code that lies in a world, wherever -/
abbrev InsIn (w : World) (cs : List Ins) (v : Value) : Prop := InsOn w (Lt w.heap.size) cs v
theorem InsOn.next {w w' : World} {cs : List Ins} {v : Value} (h : InsIn w cs v) (hb : Below w.heap.size w w') : InsIn w' cs v :=
  h.mono (fun k (hk : k < w.heap.size) => Nat.lt_of_lt_of_le hk hb.size) (fun k hk => hb.block k hk)
theorem InsOn.at {w : World} {cs : List Ins} {ad : Option Addr} {n cap : Nat} (h : InsIn w cs (.slice ad n cap)) (i : Nat) (hi : i < cs.length) :
    ∃ bl off, ad = some ⟨bl, off, none⟩ ∧ bl < w.heap.size ∧ w.cell? ⟨bl, off + i * 2, none⟩ = some (.int .i64 cs[i].op) ∧ w.cell? ⟨bl, off + i * 2 + 1, none⟩ = some (.int .i64 cs[i].num) := by
  obtain ⟨ad', cap', he, -, -, hr⟩ := h
  cases he
  rcases hr with rfl | ⟨bl, off, rfl, hb, r⟩
  · simp at hi
  exact ⟨bl, off, rfl, hb, (r i hi).1, (r i hi).2⟩

/-- code in a row of its own, from block lo on -/
def InsRow (w : World) (lo : Nat) (cs : List Ins) (v : Value) : Prop :=
  ∃ ad cap, v = .slice ad cs.length cap ∧ cs.length ≤ cap ∧ cap ≤ maxLen ∧ (cs = [] ∨ ∃ b f, ad = some ⟨b, 0, none⟩ ∧ lo ≤ b ∧ w.rowIs b 66 (cap * 2) f ∧ ∀ i (h : i < cs.length), f (i * 2) = .int .i64 cs[i].op ∧ f (i * 2 + 1) = .int .i64 cs[i].num)
theorem InsRow.on {w : World} {lo : Nat} {cs : List Ins} {v : Value} (h : InsRow w lo cs v) : InsOn w (fun k => lo ≤ k ∧ k < w.heap.size) cs v := by
  obtain ⟨ad, cap, e, l1, l2, h⟩ := h
  refine ⟨ad, cap, e, l1, l2, h.imp id ?_⟩
  rintro ⟨b, f, rfl, hg, hr, hf⟩
  refine ⟨b, 0, rfl, ⟨hg, hr.lt⟩, fun i hi => ?_⟩
  obtain ⟨f0, f1⟩ := hf i hi
  constructor
  · rw [Nat.zero_add, hr.cell (by omega), f0]
  · rw [Nat.zero_add, hr.cell (by omega), f1]
theorem InsRow.inn {w : World} {lo : Nat} {cs : List Ins} {v : Value} (h : InsRow w lo cs v) : InsIn w cs v := h.on.mono (fun k hk => hk.2) fun _ _ => rfl
theorem InsRow.keep {w w' : World} {lo lo' : Nat} {cs : List Ins} {v : Value} (h : InsRow w lo cs v) (hl : lo' ≤ lo) (hw : ∀ k, lo ≤ k → k < w.heap.size → w'.heap[k]? = w.heap[k]?) : InsRow w' lo' cs v := by
  obtain ⟨ad, cap, e, l1, l2, h⟩ := h
  refine ⟨ad, cap, e, l1, l2, h.imp id ?_⟩
  rintro ⟨b, f, rfl, hg, hr, hf⟩
  exact ⟨b, f, rfl, by omega, hr.of_block (hw b hg hr.lt), hf⟩
theorem InsRow.next {w w' : World} {lo : Nat} {cs : List Ins} {v : Value} (h : InsRow w lo cs v) (hb : Below w.heap.size w w') : InsRow w' lo cs v := h.keep (Nat.le_refl _) fun k _ hk => hb.block k hk
theorem InsRow.none (w : World) (lo : Nat) : InsRow w lo [] (.slice none 0 0) := ⟨_, _, rfl, Nat.le_refl _, by simp [maxLen], Or.inl rfl⟩
def NewIns (cs : List Ins) (w : World) (e : Ending) (w' : World) : Prop := ∃ v, e = .returned v ∧ InsRow w' w.heap.size cs v ∧ Below w.heap.size w w'

/-! ### The count -/
/-- what the law's own count of code leaves of a budget -/
def szI (cs : List Ins) (left : Int) : Int := if (cs.length : Int) ≤ left then left - cs.length else -1
theorem szI_range (cs : List Ins) (left : Int) (h : 0 ≤ left) : -1 ≤ szI cs left ∧ szI cs left ≤ left := by unfold szI; split <;> omega
set_option maxHeartbeats 400000 in
theorem szCode_calls (cs : List Ins) (c : Value) (left : Int) (w : World) (hk : InsIn w cs c) (h0 : 0 ≤ left) (h1 : left ≤ 4611686018427387904) :
    Calls Try.prog 9 #[c, .int .i64 left] w fun e w' => e = .returned (.int .i64 (szI cs left)) ∧ Below w.heap.size w w' := by
  obtain ⟨ad, cap, rfl, hl, hm, -⟩ := hk
  unfold maxLen at hm
  by_cases h : (cs.length : Int) ≤ left
  · have h' : ¬ (left - (cs.length : Int) < 0) := by omega
    have HV : Hid (szI cs left = left - cs.length) := by unfold Hid szI; rw [if_pos h]
    go_enter Try.func9, Try.ntmps9
    go_wp2_with fail
    go_ret
    exact ⟨ret_int HV.out.symm, Below.refl _ _⟩
  · have HV : Hid (szI cs left = -1) := by unfold Hid szI; rw [if_neg h]
    go_enter Try.func9, Try.ntmps9
    go_wp2_with fail
    go_ret
    exact ⟨ret_int HV.out.symm, Below.refl _ _⟩

/-! ### The comparison -/
set_option maxHeartbeats 400000 in
theorem eqCode1_calls (o n : Int) (w : World) :
    Calls Try.prog 48 #[.agg #[.int .i64 o, .int .i64 n], .agg #[.int .i64 o, .int .i64 n]] w fun e w' => e = .returned (.bool true) ∧ Below w.heap.size w w' := by
  have t1 : (o != o) = false := by simp
  have t2 : (n != n) = false := by simp
  have hb0 : ∀ o1 o2, Below w.heap.size w ((w.alloc o1).alloc o2) := fun o1 o2 => ((Below.refl _ _).alloc (Nat.le_refl _) _).alloc (by simp) _
  go_enter Try.func48, Try.ntmps48
  go_wp2_with fail
  go_ret
  exact ⟨rfl, hb0 _ _⟩
set_option maxHeartbeats 400000 in
theorem eqCode_calls (cs : List Ins) (c d : Value) (w : World) (hc : InsIn w cs c) (hd : InsIn w cs d) :
    Calls Try.prog 13 #[c, d] w fun e w' => e = .returned (.bool true) ∧ Below w.heap.size w w' := by
  have HC : Hid (InsIn w cs c) := hc
  have HD : Hid (InsIn w cs d) := hd
  obtain ⟨ad, cap, rfl, hl, hm, -⟩ := hc
  obtain ⟨ad', cap', rfl, hl', hm', -⟩ := hd
  unfold maxLen at hm hm'
  have t1 : ((cs.length : Int) != cs.length) = false := by simp
  go_enter Try.func13, Try.ntmps13
  go_wp2_with fail
  go_loopw [5] (fun i wr => ∃ k : Nat, k ≤ cs.length ∧ i = .int .i64 k ∧ Below w.heap.size w wr) (fun i _ => cs.length - (intOf i).toNat)
  case atStart => exact ⟨0, Nat.zero_le _, rfl, Below.refl _ _⟩
  case round =>
    obtain ⟨k, hk, rfl, hb⟩ := hrel
    by_cases hlt : k < cs.length
    · obtain ⟨bl, off, rfl, -, c0, c1⟩ := (HC.out.next hb).at k hlt
      obtain ⟨bl', off', rfl, -, d0, d1⟩ := (HD.out.next hb).at k hlt
      go_wp2_with fail
      go_region_with ((go_at_call 48; refine (eqCode1_calls cs[k].op cs[k].num _).mono ?_; rintro e w1 ⟨rfl, hb1⟩))
      all_goals
        have hb2 : Below w.heap.size w w1 := hb.drew.trans (hb1.mono hb.drew.size)
        clear hb1
        go_wp2_with fail
        go_roundw
        case rel => exact ⟨k + 1, by omega, by go_num, hb2⟩
        case measure => simp [intOf]; omega
    · have hke : k = cs.length := by omega
      have HB : Hid (Below w.heap.size w wr) := hb
      clear hb
      clear hke
      go_wp2_with fail
      go_ret
      exact ⟨rfl, HB.out⟩

/-! ### The copy -/
theorem infoI2 : (Try.prog.info? 66).map (fun i => (i.zero, i.size, i.bytes)) = some (some (.agg #[.int .i64 0, .int .i64 0]), 2, 16) := by kernel_rfl
theorem make_code (n : Nat) (h : n ≤ 1048576) : ∃ C : Array Value, C.size = n * 2 ∧ ∀ w : World, (Instr.makeSlice 25 (.int .i64 (n : Int)) (.int .i64 (n : Int))).run Try.prog w = .ok (.slice (some ⟨w.heap.size, 0, none⟩) n n) (w.alloc (.cells C 66)) := by
  obtain ⟨i, hi, hzz⟩ := Option.map_eq_some_iff.1 infoI2
  simp only [Prod.mk.injEq] at hzz
  obtain ⟨hz, hs, hb⟩ := hzz
  refine ⟨madeCells (Value.agg #[.int .i64 0, .int .i64 0]).cells (n * 2), size_madeCells _ _, fun w => ?_⟩
  have hr := run_make (P := Try.prog) w 25 66 i _ Try.underlying25 hi hz .i64 .i64 n n (by omega) (Int.le_refl _) (by rw [hb]; omega) (by omega)
  simp only [Int.toNat_natCast, hs] at hr
  exact hr

/-- what holds of the copy of code behind k rounds -/
def ToKRel (cs : List Ins) (w : World) (k : Nat) (wr : World) : Prop :=
  ∃ f : Nat → Value, wr.rowIs w.heap.size 66 (cs.length * 2) f ∧ (∀ j (_ : j < k) (hj : j < cs.length), f (j * 2) = .int .i64 cs[j].op ∧ f (j * 2 + 1) = .int .i64 cs[j].num) ∧ Below w.heap.size w wr
theorem toKRel_start (cs : List Ins) (w : World) (C : Array Value) (h : C.size = cs.length * 2) : ToKRel cs w 0 (w.alloc (.cells C 66)) := by
  refine ⟨fun i => C.getD i undef, ⟨C, Deep.blk_alloc_new _ _, h, fun i hi => ?_⟩, fun j hj => absurd hj (by omega), (Below.refl _ _).alloc (Nat.le_refl _) _⟩
  simp [Array.getElem?_eq_getElem (h ▸ hi : i < C.size), Array.getD, (h ▸ hi : i < C.size)]
/-- the world behind the two stores -/
def stK (w1 : World) (b k : Nat) (x y : Int) : World := (w1.setCell ⟨b, k * 2, none⟩ (.int .i64 x)).setCell ⟨b, k * 2 + 1, none⟩ (.int .i64 y)
theorem rows2_step {w1 : World} {b n : Nat} {f : Nat → Value} {T : TypeId} (hr : w1.rowIs b T n f) (k : Nat) (x y : Int) :
    ∃ f', (stK w1 b k x y).rowIs b T n f' ∧ f' (k * 2) = .int .i64 x ∧ f' (k * 2 + 1) = .int .i64 y ∧ ∀ j, j ≠ k → f' (j * 2) = f (j * 2) ∧ f' (j * 2 + 1) = f (j * 2 + 1) := by
  unfold stK
  refine ⟨_, (hr.set (k * 2) _).set (k * 2 + 1) _, by simp, by simp, fun j hj => ?_⟩
  have a0 : j * 2 ≠ k * 2 + 1 ∧ j * 2 ≠ k * 2 := by omega
  have a1 : j * 2 + 1 ≠ k * 2 + 1 ∧ j * 2 + 1 ≠ k * 2 := by omega
  constructor
  · simp only [if_neg a0.1, if_neg a0.2]
  · simp only [if_neg a1.1, if_neg a1.2]
theorem toKRel_step (cs : List Ins) (w wr w1 : World) (k : Nat) (hk : k < cs.length) (h : ToKRel cs w k wr) (hb : Below wr.heap.size wr w1) : ToKRel cs w (k + 1) (stK w1 w.heap.size k cs[k].op cs[k].num) := by
  obtain ⟨f, hr, ht, hbw⟩ := h
  have hlt := hr.lt
  obtain ⟨f', h1, h2, h3, h4⟩ := rows2_step (hr.of_block (hb.block _ hlt)) k cs[k].op cs[k].num
  refine ⟨f', h1, fun j hj hjl => ?_, ?_⟩
  · by_cases hjk : j = k
    · subst hjk; exact ⟨h2, h3⟩
    · rw [(h4 j hjk).1, (h4 j hjk).2]; exact ht j (by omega) hjl
  · unfold stK
    exact ((hbw.trans (hb.mono (Nat.le_of_lt hlt))).setCell (by simp) _).setCell (by simp) _
theorem toKRel_end (cs : List Ins) (w wr : World) (h : ToKRel cs w cs.length wr) (hl : cs.length ≤ 1048576) : NewIns cs w (.returned (.slice (some ⟨w.heap.size, 0, none⟩) cs.length cs.length)) wr := by
  obtain ⟨f, hr, ht, hbw⟩ := h
  exact ⟨_, rfl, ⟨_, _, rfl, Nat.le_refl _, by unfold maxLen; omega, Or.inr ⟨_, f, rfl, Nat.le_refl _, hr, fun i hi => ht i hi hi⟩⟩, hbw⟩

set_option maxHeartbeats 400000 in
theorem toCode1_calls (o n : Int) (w : World) :
    Calls Try.prog 46 #[.agg #[.int .i64 o, .int .i64 n]] w fun e w' => e = .returned (.agg #[.int .i64 o, .int .i64 n]) ∧ Below w.heap.size w w' := by
  go_enter Try.func46, Try.ntmps46
  go_wp2_with fail
  refine bodyPost_ret (v := .agg #[.int .i64 o, .int .i64 n]) (by simp [results, Try.results46, go_sem]) rfl ⟨rfl, ?_⟩
  repeat' (refine Below.setCell ?_ (by simp) _)
  exact (((Below.refl _ _).alloc (Nat.le_refl _) _).alloc (by simp) _).alloc (by simp; omega) _
set_option maxHeartbeats 400000 in
theorem toCode_calls (cs : List Ins) (c : Value) (w : World) (hk : InsIn w cs c) (hsz : cs.length ≤ 1048576) : Calls Try.prog 11 #[c] w (NewIns cs w) := by
  have HK : Hid (InsIn w cs c) := hk
  obtain ⟨ad, cap, rfl, -, -, -⟩ := hk
  obtain ⟨C, hC, hmk⟩ := make_code cs.length hsz
  have HC : Hid (C.size = cs.length * 2) := hC
  clear hC
  go_enter Try.func11, Try.ntmps11
  go_wp2_with fail
  go_loopw [4] (fun i wr => ∃ k : Nat, k ≤ cs.length ∧ i = .int .i64 k ∧ ToKRel cs w k wr) (fun i _ => cs.length - (intOf i).toNat)
  case atStart => exact ⟨0, Nat.zero_le _, rfl, toKRel_start cs w C HC.out⟩
  case round =>
    obtain ⟨k, hk, rfl, hto⟩ := hrel
    have HT : Hid (ToKRel cs w k wr) := hto
    obtain ⟨f, hr0, _, hb⟩ := hto
    have hlt0 := hr0.lt
    by_cases hlt : k < cs.length
    · obtain ⟨bl, off, rfl, -, c0, c1⟩ := (HK.out.next hb).at k hlt
      have HR : Hid (wr.rowIs w.heap.size 66 (cs.length * 2) f) := hr0
      clear hr0 hb
      go_wp2_with fail
      refine (toCode1_calls _ _ _).mono ?_
      rintro e w1 ⟨rfl, hb1⟩
      have hr1 : w1.rowIs w.heap.size 66 (cs.length * 2) f := HR.out.of_block (hb1.block _ hlt0)
      have HS : Hid (ToKRel cs w (k + 1) (stK w1 w.heap.size k cs[k].op cs[k].num)) := toKRel_step cs w wr w1 k hlt HT.out hb1
      have g0 := hr1.cell (i := k * 2) (by omega)
      have g1 := hr1.cell (i := k * 2 + 1) (by omega)
      have f0 := hr1.frozen (k * 2)
      have f1 := hr1.frozen (k * 2 + 1)
      clear hr1 hb1
      go_wp2_with fail
      go_roundw
      case rel => exact ⟨k + 1, by omega, by go_num, HS.out⟩
      case measure => simp [intOf]; omega
    · have hke : cs.length = k := by omega
      have HV : Hid (NewIns cs w (.returned (.slice (some ⟨w.heap.size, 0, none⟩) cs.length cs.length)) wr) := by subst hke; exact toKRel_end cs w wr HT.out hsz
      clear hke hr0 hb
      go_wp2_with fail
      go_ret
      exact HV.out
end Go.Proofs.Ythknbafcnobgdaa
