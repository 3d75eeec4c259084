/-
  NEEDS IN MEMORY: a slice of slices of truth values; the laws' own count, copy and comparison of them (szBoolSS, toBoolSS, eqBoolSS).
-/
import Derived.Test.YtocnkjicmchbdaaBools
import Derived.Test.YtocnkjicmchbdaaPlain
import Derived.Deep.RegionHeld3
import Derived.Deep.RegionWith
import Derived.Deep.DeepMust
namespace Go.Proofs.Ytocnkjicmchbdaa
set_option linter.unusedVariables false
set_option linter.unusedSimpArgs false
open Go.RowKit

/-- a slice value that holds these rows, its blocks out of S -/
def NeedsOn (w : World) (S : Nat → Prop) (g : List (List Bool)) (v : Value) : Prop :=
  ∃ ad cap, v = .slice ad g.length cap ∧ g.length ≤ cap ∧ cap ≤ maxLen ∧ (g = [] ∨ ∃ bl off, ad = some ⟨bl, off, none⟩ ∧ S bl ∧ ∀ i (hi : i < g.length), ∃ c,
    w.cell? ⟨bl, off + i, none⟩ = some c ∧ BoolsOn w S g[i] c)
theorem NeedsOn.mono {w w' : World} {S S' : Nat → Prop} {g : List (List Bool)} {v : Value} (h : NeedsOn w S g v) (hS : ∀ k, S k → S' k) (hw : ∀ k, S k → w'.heap[k]? = w.heap[k]?) : NeedsOn w' S' g v := by
  obtain ⟨ad, cap, e, l1, l2, h5⟩ := h
  refine ⟨ad, cap, e, l1, l2, ?_⟩
  rcases h5 with h5 | ⟨bl, off, e, s, r⟩
  · exact Or.inl h5
  · refine Or.inr ⟨bl, off, e, hS _ s, fun i hi => ?_⟩
    obtain ⟨c, h1, g3⟩ := r i hi
    exact ⟨c, (World.cell?_of_block (a := ⟨bl, off + i, none⟩) (hw bl s)).trans h1, g3.mono hS hw⟩
/-- needs that lie in a world, wherever -/
abbrev NIn (w : World) (g : List (List Bool)) (v : Value) : Prop := NeedsOn w (Lt w.heap.size) g v
theorem NeedsOn.next {w w' : World} {g : List (List Bool)} {v : Value} (h : NIn w g v) (hb : Below w.heap.size w w') : NIn w' g v :=
  h.mono (fun k (hk : k < w.heap.size) => Nat.lt_of_lt_of_le hk hb.size) (fun k hk => hb.block k hk)
theorem NeedsOn.drew {w : World} {g : List (List Bool)} {v : Value} (h : NIn w g v) : NIn w.drew g v := h.next ((Below.refl _ _).drew)
/-- row i, opened -/
theorem NeedsOn.at {w : World} {g : List (List Bool)} {ad : Option Addr} {n cap : Nat} (h : NIn w g (.slice ad n cap)) (i : Nat) (hi : i < g.length) :
    ∃ bl off c, ad = some ⟨bl, off, none⟩ ∧ bl < w.heap.size ∧ w.cell? ⟨bl, off + i, none⟩ = some c ∧ BIn w g[i] c := by
  obtain ⟨ad', cap', he, -, -, hr⟩ := h
  cases he
  rcases hr with rfl | ⟨bl, off, rfl, hb, r⟩
  · simp at hi
  obtain ⟨c, h1, h4⟩ := r i hi
  exact ⟨bl, off, c, rfl, hb, h1, h4⟩

/-! ### The count -/
/-- the values of the first rows -/
def sumB (l : List (List Bool)) : Nat := (l.map (·.length)).sum
theorem sumB_append (a b : List (List Bool)) : sumB (a ++ b) = sumB a + sumB b := by simp [sumB]
theorem sumB_take_succ (l : List (List Bool)) (i : Nat) (h : i < l.length) : sumB (l.take (i + 1)) = sumB (l.take i) + l[i].length := by
  rw [List.take_succ_eq_append_getElem h, sumB_append]; simp [sumB]
theorem sumB_take_le (l : List (List Bool)) (i : Nat) : sumB (l.take i) ≤ sumB l := by
  conv => rhs; rw [← List.take_append_drop i l, sumB_append]
  omega
theorem row_le_sumB (l : List (List Bool)) (i : Nat) (h : i < l.length) : l[i].length ≤ sumB l := by
  have := sumB_take_succ l i h
  have := sumB_take_le l (i + 1)
  omega
/-- what the law's own count leaves of a budget -/
def szN (g : List (List Bool)) (left : Int) : Int := if (g.length : Int) + sumB g ≤ left then left - (g.length + sumB g) else -1
theorem szN_range (g : List (List Bool)) (left : Int) (h : 0 ≤ left) : -1 ≤ szN g left ∧ szN g left ≤ left := by unfold szN; split <;> omega
def szNAt (g : List (List Bool)) (left : Int) (k : Nat) : Int := left - g.length - sumB (g.take k)
theorem szN_kid (g : List (List Bool)) (left : Int) (k : Nat) (hk : k < g.length) (h : (g[k].length : Int) ≤ szNAt g left k) : szNAt g left k - g[k].length = szNAt g left (k + 1) := by
  have e := sumB_take_succ g k hk
  unfold szNAt; rw [e]; omega
theorem szN_neg (g : List (List Bool)) (left : Int) (k : Nat) (hk : k < g.length) (h : ¬ (g[k].length : Int) ≤ szNAt g left k) : szN g left = -1 := by
  have e := sumB_take_succ g k hk
  have e2 := sumB_take_le g (k + 1)
  unfold szN; rw [if_neg]; unfold szNAt at h; omega
theorem szN_end (g : List (List Bool)) (left : Int) (h : 0 ≤ szNAt g left g.length) : szN g left = szNAt g left g.length := by
  unfold szNAt at h ⊢; rw [List.take_length] at h ⊢; unfold szN; rw [if_pos (by omega)]; omega

set_option maxHeartbeats 400000 in
theorem szNeeds_calls (g : List (List Bool)) (c : Value) (left : Int) (w : World) (hk : NIn w g c) (h0 : 0 ≤ left) (h1 : left ≤ 4611686018427387904) :
    Calls Try.prog 10 #[c, .int .i64 left] w fun e w' => e = .returned (.int .i64 (szN g left)) ∧ Below w.heap.size w w' := by
  have HK : Hid (NIn w g c) := hk
  obtain ⟨ad, cap, rfl, hl, hm, -⟩ := hk
  unfold maxLen at hm
  by_cases hlen : left < g.length
  · have HV : Hid (szN g left = -1) := by unfold Hid szN; rw [if_neg]; omega
    go_enter Try.func10, Try.ntmps10
    go_wp2_with fail
    go_ret
    exact ⟨ret_int HV.out.symm, Below.refl _ _⟩
  · have hneg : ¬ (left - g.length < 0) := by omega
    go_enter Try.func10, Try.ntmps10
    go_wp2_with fail
    go_loopw [1, 5] (fun l i wr => ∃ k : Nat, k ≤ g.length ∧ i = .int .i64 k ∧ l = .int .i64 (szNAt g left k) ∧ 0 ≤ szNAt g left k ∧ Below w.heap.size w wr) (fun _ i _ => g.length - (intOf i).toNat)
    case atStart => exact ⟨0, Nat.zero_le _, rfl, by simp [szNAt, sumB], by simp [szNAt, sumB]; omega, Below.refl _ _⟩
    case round =>
      obtain ⟨k, hk, rfl, rfl, hpos, hb⟩ := hrel
      have hle : szNAt g left k ≤ left := by unfold szNAt; omega
      by_cases hlt : k < g.length
      · obtain ⟨bl, off, r, rfl, -, c0, hkk⟩ := (HK.out.next hb).at k hlt
        obtain ⟨ad2, cap2, rfl, hl2, hm2, -⟩ := hkk
        have hm3 : g[k].length ≤ 9223372036854775807 := by unfold maxLen at hm2; omega
        clear hl2 hm2
        go_wp2_with fail
        refine (szBools_calls _ _ _ _ _ hm3 hpos (by omega)).mono ?_
        rintro e w1 ⟨rfl, hb1⟩
        have hb2 : Below w.heap.size w w1 := hb.trans (hb1.mono hb.size)
        clear hb1
        by_cases hneg1 : (g[k].length : Int) ≤ szNAt g left k
        · have HV : Hid (szNAt g left k - g[k].length = szNAt g left (k + 1)) := szN_kid g left k hlt hneg1
          rw [if_pos hneg1]
          have hnn : 0 ≤ szNAt g left (k + 1) := by rw [← HV.out]; omega
          have hq : ¬ (szNAt g left k - g[k].length < 0) := by omega
          go_wp2_with fail
          go_roundw
          case rel => exact ⟨k + 1, by omega, by go_num, by rw [HV.out], hnn, hb2⟩
          case measure => simp [intOf]; omega
        · have HV : Hid (szN g left = -1) := szN_neg g left k hlt hneg1
          rw [if_neg hneg1]
          go_wp2_with fail
          go_ret
          exact ⟨ret_int HV.out.symm, hb2⟩
      · have hke : g.length = k := by omega
        have HV : Hid (szN g left = szNAt g left k) := by subst hke; exact szN_end g left hpos
        clear hke
        go_wp2_with fail
        go_ret
        exact ⟨ret_int HV.out.symm, hb⟩

/-! ### The copy -/
/-- a slice value that holds these rows in a row of its own, the rows in such too, from block lo on -/
def NeedRow (w : World) (lo : Nat) (g : List (List Bool)) (v : Value) : Prop :=
  ∃ ad cap, v = .slice ad g.length cap ∧ g.length ≤ cap ∧ cap ≤ maxLen ∧ (g = [] ∨ ∃ b f, ad = some ⟨b, 0, none⟩ ∧ lo ≤ b ∧ w.rowIs b 74 cap f ∧ ∀ i (h : i < g.length), BoolRow w lo g[i] (f i))
theorem NeedRow.inn {w : World} {lo : Nat} {g : List (List Bool)} {v : Value} (h : NeedRow w lo g v) : NIn w g v := by
  obtain ⟨ad, cap, e, l1, l2, h⟩ := h
  refine ⟨ad, cap, e, l1, l2, h.imp id ?_⟩
  rintro ⟨b, f, rfl, hg, hr, hf⟩
  refine ⟨b, 0, rfl, hr.lt, fun i hi => ?_⟩
  refine ⟨_, ?_, (hf i hi).inn⟩
  rw [Nat.zero_add, hr.cell (by omega)]
theorem NeedRow.keep {w w' : World} {lo lo' : Nat} {g : List (List Bool)} {v : Value} (h : NeedRow w lo g v) (hl : lo' ≤ lo) (hw : ∀ k, lo ≤ k → k < w.heap.size → w'.heap[k]? = w.heap[k]?) : NeedRow w' lo' g v := by
  obtain ⟨ad, cap, e, l1, l2, h⟩ := h
  refine ⟨ad, cap, e, l1, l2, h.imp id ?_⟩
  rintro ⟨b, f, rfl, hg, hr, hf⟩
  exact ⟨b, f, rfl, by omega, hr.of_block (hw b hg hr.lt), fun i hi => (hf i hi).keep hl hw⟩
theorem NeedRow.next {w w' : World} {lo : Nat} {g : List (List Bool)} {v : Value} (h : NeedRow w lo g v) (hb : Below w.heap.size w w') : NeedRow w' lo g v := h.keep (Nat.le_refl _) fun k _ hk => hb.block k hk
theorem NeedRow.none (w : World) (lo : Nat) : NeedRow w lo [] (.slice none 0 0) := ⟨_, _, rfl, Nat.le_refl _, by simp [maxLen], Or.inl rfl⟩
def NewNeeds (g : List (List Bool)) (w : World) (e : Ending) (w' : World) : Prop := ∃ v, e = .returned v ∧ NeedRow w' w.heap.size g v ∧ Below w.heap.size w w'

theorem infoBB : (Try.prog.info? 74).map (fun i => (i.zero, i.size, i.bytes)) = some (some (.slice none 0 0), 1, 24) := by kernel_rfl
theorem make_needs (n : Nat) (h : n ≤ 1048576) : ∃ C : Array Value, C.size = n ∧ (∀ i, i < n → C[i]? = some (.slice none 0 0)) ∧ ∀ w : World, (Instr.makeSlice 25 (.int .i64 (n : Int)) (.int .i64 (n : Int))).run Try.prog w = .ok (.slice (some ⟨w.heap.size, 0, none⟩) n n) (w.alloc (.cells C 74)) := by
  obtain ⟨i, hi, hzz⟩ := Option.map_eq_some_iff.1 infoBB
  simp only [Prod.mk.injEq] at hzz
  obtain ⟨hz, hs, hb⟩ := hzz
  have hl : (madeCells #[.slice none 0 0] n).toList = List.replicate n (.slice none 0 0) := toList_madeCells_one _ _
  refine ⟨madeCells #[.slice none 0 0] n, by rw [← Array.length_toList, hl, List.length_replicate], fun i hi => by rw [← Array.getElem?_toList, hl, List.getElem?_replicate, if_pos hi], fun w => ?_⟩
  have hr := run_make (P := Try.prog) w 25 74 i _ Try.underlying25 hi hz .i64 .i64 n n (by omega) (Int.le_refl _) (by rw [hb]; omega) (by omega)
  simp only [Int.toNat_natCast, hs, Nat.mul_one] at hr
  exact hr

/-- what holds of the copy behind k rounds -/
def ToNRel (g : List (List Bool)) (w : World) (k : Nat) (wr : World) : Prop :=
  ∃ f : Nat → Value, wr.rowIs w.heap.size 74 g.length f ∧ (∀ j (_ : j < k) (hj : j < g.length), BoolRow wr (w.heap.size + 1) g[j] (f j)) ∧ Below w.heap.size w wr
theorem toNRel_start (g : List (List Bool)) (w : World) (C : Array Value) (h : C.size = g.length) : ToNRel g w 0 (w.alloc (.cells C 74)) := by
  refine ⟨fun i => C.getD i undef, ⟨C, Deep.blk_alloc_new _ _, h, fun i hi => ?_⟩, fun j hj => absurd hj (by omega), (Below.refl _ _).alloc (Nat.le_refl _) _⟩
  simp [Array.getElem?_eq_getElem (h ▸ hi : i < C.size), Array.getD, (h ▸ hi : i < C.size)]
theorem toNRel_step (g : List (List Bool)) (w wr w1 : World) (k : Nat) (hk : k < g.length) (h : ToNRel g w k wr) (v : Value) (hb : Below wr.heap.size wr w1) (hv : BoolRow w1 wr.heap.size g[k] v) :
    ToNRel g w (k + 1) (w1.setCell ⟨w.heap.size, k, none⟩ v) := by
  obtain ⟨f, hr, ht, hbw⟩ := h
  have hlt := hr.lt
  have hr1 : w1.rowIs w.heap.size 74 g.length f := hr.of_block (hb.block _ hlt)
  have hsz := hb.size
  refine ⟨_, hr1.set k _, fun j hj hjl => ?_, (hbw.trans (hb.mono (Nat.le_of_lt hlt))).setCell (by simp) _⟩
  by_cases hjk : j = k
  · subst hjk
    have h1 : BoolRow w1 (w.heap.size + 1) g[j] v := hv.down (by omega)
    simpa using h1.setCell (a := ⟨w.heap.size, j, none⟩) (by simp) v
  · have h1 : BoolRow w1 (w.heap.size + 1) g[j] (f j) := (ht j (by omega) hjl).next hb
    simp only [if_neg hjk]
    exact h1.setCell (by simp) v
theorem toNRel_end (g : List (List Bool)) (w wr : World) (h : ToNRel g w g.length wr) (hl : g.length ≤ 1048576) : NewNeeds g w (.returned (.slice (some ⟨w.heap.size, 0, none⟩) g.length g.length)) wr := by
  obtain ⟨f, hr, ht, hbw⟩ := h
  exact ⟨_, rfl, ⟨_, _, rfl, Nat.le_refl _, by unfold maxLen; omega, Or.inr ⟨_, f, rfl, Nat.le_refl _, hr, fun i hi => (ht i hi hi).down (by omega)⟩⟩, hbw⟩

set_option maxHeartbeats 400000 in
theorem toNeeds_calls (g : List (List Bool)) (c : Value) (w : World) (hk : NIn w g c) (hsz : g.length + sumB g ≤ 1048576) : Calls Try.prog 13 #[c] w (NewNeeds g w) := by
  have HK : Hid (NIn w g c) := hk
  have hlen : g.length ≤ 1048576 := by omega
  obtain ⟨ad, cap, rfl, -, -, -⟩ := hk
  obtain ⟨C, hC, -, hmk⟩ := make_needs g.length hlen
  have HC : Hid (C.size = g.length) := hC
  clear hC
  go_enter Try.func13, Try.ntmps13
  go_wp2_with fail
  go_loopw [4] (fun i wr => ∃ k : Nat, k ≤ g.length ∧ i = .int .i64 k ∧ ToNRel g w k wr) (fun i _ => g.length - (intOf i).toNat)
  case atStart => exact ⟨0, Nat.zero_le _, rfl, toNRel_start g w C HC.out⟩
  case round =>
    obtain ⟨k, hk, rfl, hto⟩ := hrel
    have HT : Hid (ToNRel g w k wr) := hto
    obtain ⟨f, hr0, _, hb⟩ := hto
    have hlt0 := hr0.lt
    by_cases hlt : k < g.length
    · obtain ⟨bl, off, r, rfl, -, c0, hkk⟩ := (HK.out.next hb).at k hlt
      have HKK : Hid (BIn wr g[k] r) := hkk
      have hkz : g[k].length ≤ 1048576 := by have := row_le_sumB g k hlt; omega
      have HR : Hid (wr.rowIs w.heap.size 74 g.length f) := hr0
      clear hkk hr0 hb
      go_wp2_with fail
      refine (toBools_calls g[k] r _ HKK.out hkz).mono ?_
      rintro e w1 ⟨v, rfl, hv, hb1⟩
      have hr1 : w1.rowIs w.heap.size 74 g.length f := HR.out.of_block (hb1.block _ hlt0)
      have HS : Hid (ToNRel g w (k + 1) (w1.setCell ⟨w.heap.size, k, none⟩ v)) := toNRel_step g w wr w1 k hlt HT.out v hb1 hv
      obtain ⟨ad2, cap2, rfl, _, _, _⟩ := hv
      have g0 := hr1.cell (i := k) (by omega)
      have f0 := hr1.frozen k
      clear hr1 hb1
      go_wp2_with fail
      go_roundw
      case rel => exact ⟨k + 1, by omega, by go_num, HS.out⟩
      case measure => simp [intOf]; omega
    · have hke : g.length = k := by omega
      have HV : Hid (NewNeeds g w (.returned (.slice (some ⟨w.heap.size, 0, none⟩) g.length g.length)) wr) := by subst hke; exact toNRel_end g w wr HT.out hlen
      clear hke hr0 hb
      go_wp2_with fail
      go_ret
      exact HV.out

/-! ### The comparison -/
set_option maxHeartbeats 400000 in
theorem eqNeeds_calls (g : List (List Bool)) (c d : Value) (w : World) (hc : NIn w g c) (hd : NIn w g d) : Calls Try.prog 16 #[c, d] w fun e w' => e = .returned (.bool true) ∧ Below w.heap.size w w' := by
  have HC : Hid (NIn w g c) := hc
  have HD : Hid (NIn w g d) := hd
  obtain ⟨ad, cap, rfl, hl, hm, -⟩ := hc
  obtain ⟨ad', cap', rfl, hl', hm', -⟩ := hd
  unfold maxLen at hm hm'
  have t1 : ((g.length : Int) != g.length) = false := by simp
  go_enter Try.func16, Try.ntmps16
  go_wp2_with fail
  go_loopw [5] (fun i wr => ∃ k : Nat, k ≤ g.length ∧ i = .int .i64 k ∧ Below w.heap.size w wr) (fun i _ => g.length - (intOf i).toNat)
  case atStart => exact ⟨0, Nat.zero_le _, rfl, Below.refl _ _⟩
  case round =>
    obtain ⟨k, hk, rfl, hb⟩ := hrel
    by_cases hlt : k < g.length
    · obtain ⟨bl, off, r, rfl, -, c0, hk1⟩ := (HC.out.next hb).at k hlt
      obtain ⟨bl', off', r', rfl, -, d0, hk2⟩ := (HD.out.next hb).at k hlt
      have HK1 : Hid (BIn wr g[k] r) := hk1
      have HK2 : Hid (BIn wr g[k] r') := hk2
      clear hk1 hk2
      go_wp2_with fail
      go_region_with ((go_at_call 58; refine (eqBools_calls g[k] r r' _ ?_ ?_).mono ?_; exact HK1.out.drew; exact HK2.out.drew; rintro e w1 ⟨rfl, hb1⟩))
      all_goals
        have hb2 : Below w.heap.size w w1 := hb.drew.trans (hb1.mono hb.drew.size)
        clear hb1
        go_wp2_with fail
        go_roundw
        case rel => exact ⟨k + 1, by omega, by go_num, hb2⟩
        case measure => simp [intOf]; omega
    · have hke : k = g.length := by omega
      have HB : Hid (Below w.heap.size w wr) := hb
      clear hb
      clear hke
      go_wp2_with fail
      go_ret
      exact ⟨rfl, HB.out⟩
end Go.Proofs.Ytocnkjicmchbdaa
