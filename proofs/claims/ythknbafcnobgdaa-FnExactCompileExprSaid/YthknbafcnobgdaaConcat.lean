/-
  slices.Grow OF NOTHING AND slices.Concat, at code: the lists one behind the other, in a row of its own.
-/
import Derived.Test.YthknbafcnobgdaaInsP
import Derived.Lib.AppendZerosOnto
import Derived.Laws.AppendOwn
namespace Go.Proofs.Ythknbafcnobgdaa
set_option linter.unusedVariables false
set_option linter.unusedSimpArgs false
open Go.RowKit

/-- an empty row of a call's own -/
def GrowRes (w : World) (e : Ending) (w' : World) : Prop := ∃ v, e = .returned v ∧ StkP w' w.heap.size [] v ∧ Below w.heap.size w w'
set_option maxRecDepth 100000 in
set_option maxHeartbeats 1600000 in
theorem grow_calls (n : Nat) (w : World) (hn : n ≤ 1048576) : Calls Try.prog 81 #[.slice none 0 0, .int .i64 (n : Int)] w (GrowRes w) := by
  by_cases h0 : n = 0
  · subst h0
    go_enter Try.func81, Try.ntmps81
    go_wp2_with fail
    go_ret
    exact ⟨_, rfl, StkP.none _ _, Below.refl _ _⟩
  · obtain ⟨i, z, hi, hz, hs, hby, hzs⟩ := infoK2
    have hrz := fun ty => Lib.run_append_grow_zeros w 25 3 ty 66 i z .i64 .i64 Try.underlying25 Try.underlying3 hi hz none 0 0 [] (run_firstCells_none w.drew i.size 0 0 0) n (by omega) (by omega) (by omega) (by omega) (by rw [hby]; omega) (by rw [Nat.zero_add]; exact growslice_fits (by omega) (by rw [hby]; omega))
    have hGn : n ≤ grownCap w n 0 66 := grownCap_ge w _ _ _
    have hGm : grownCap w n 0 66 ≤ maxLen := grownCap_le_maxLen w n 0 66 (by unfold maxLen; omega)
    obtain ⟨G, hG⟩ : ∃ G, G = grownCap w n 0 66 := ⟨_, rfl⟩
    obtain ⟨C, hC⟩ : ∃ C : Array Value, C = ([] : List Value).toArray ++ Builtin.zeroCells z.cells n ++ Builtin.zeroCells z.cells (G - n) := ⟨_, rfl⟩
    rw [← hG] at hGn hGm
    simp only [Nat.zero_add] at hrz
    rw [← hG, ← hC] at hrz
    have HC : Hid (C.size = G * 2) := by
      rw [hC]
      have h1 : ∀ m, (Builtin.zeroCells z.cells m).size = m * 2 := fun m => by rw [size_zeroCells, hzs]
      unfold Hid
      rw [Array.size_append, Array.size_append, h1, h1]
      simp
      omega
    have HGM : Hid (G ≤ maxLen) := hGm
    have hg63 : G ≤ 9223372036854775807 := by unfold maxLen at hGm; omega
    have hpos : (0 : Int) < (n : Int) := by omega
    clear hG hC hi hz hs hby hzs hGm
    go_enter Try.func81, Try.ntmps81
    go_wp2_with (at_builtin; refine Lib.wpList_append_run _ rfl _ _ _ _ rfl _ _ rfl rfl _ _ (hrz _) ?_)
    go_ret
    exact ⟨_, rfl, ⟨rfl, Or.inr ⟨w.heap.size, G, C, rfl, Nat.le_refl _, Deep.blk_alloc_new _ _, Nat.zero_le _, HGM.out, HC.out, by simp [insV]⟩⟩, (((Below.refl _ _).drew).alloc (Nat.le_refl _) _)⟩

theorem stkP_grown {lo : Nat} {w0 w w' : World} {cs : List Ins} {v : Value} (hst : StkP w lo cs v) (hb : Below lo w0 w) (hl : lo ≤ w0.heap.size) (hg : w.grownBy w' v.ownBlock) : Below lo w0 w' :=
  ⟨by rw [hg.os]; exact hb.os, by rw [hg.tape]; exact hb.tape, by rw [hg.output]; exact hb.output, Nat.le_trans hb.size hg.size, fun k hk => (hg.block k (Nat.lt_of_lt_of_le hk (Nat.le_trans hl hb.size)) (fun e => by have := (hst.lt e).1; omega)).trans (hb.block k hk)⟩
/-- a slice of lists of code -/
def RowSl (w : World) (css : List (List Ins)) (v : Value) : Prop :=
  ∃ ad cap, v = .slice ad css.length cap ∧ css.length ≤ cap ∧ cap ≤ maxLen ∧ (css = [] ∨ ∃ bl off, ad = some ⟨bl, off, none⟩ ∧ bl < w.heap.size ∧ ∀ i (h : i < css.length), ∃ u, w.cell? ⟨bl, off + i, none⟩ = some u ∧ InsIn w css[i] u)
theorem RowSl.next {w w' : World} {css : List (List Ins)} {v : Value} (h : RowSl w css v) (hb : Below w.heap.size w w') : RowSl w' css v := by
  obtain ⟨ad, cap, e, l1, l2, h⟩ := h
  refine ⟨ad, cap, e, l1, l2, h.imp id ?_⟩
  rintro ⟨bl, off, rfl, hbl, hc⟩
  refine ⟨bl, off, rfl, Nat.lt_of_lt_of_le hbl hb.size, fun i hi => ?_⟩
  obtain ⟨u, h1, h2⟩ := hc i hi
  exact ⟨u, (hb.cell (p := ⟨bl, off + i, none⟩) hbl).trans h1, h2.next hb⟩
theorem RowSl.at {w : World} {css : List (List Ins)} {ad : Option Addr} {n cap : Nat} (h : RowSl w css (.slice ad n cap)) (i : Nat) (hi : i < css.length) : ∃ bl off u, ad = some ⟨bl, off, none⟩ ∧ w.cell? ⟨bl, off + i, none⟩ = some u ∧ InsIn w css[i] u := by
  obtain ⟨ad', cap', he, -, -, hr⟩ := h
  cases he
  rcases hr with rfl | ⟨bl, off, rfl, -, r⟩
  · simp at hi
  obtain ⟨u, h1, h2⟩ := r i hi
  exact ⟨bl, off, u, rfl, h1, h2⟩
theorem ins_news {w : World} {cs : List Ins} {ad : Addr} {n cap : Nat} (h : InsIn w cs (.slice (some ad) n cap)) : ∀ j u, (insV cs)[j]? = some u → w.cell? (ad.add j) = some u := by
  intro j u hj
  obtain ⟨ad', cap', he, -, -, hr⟩ := h
  have hjl := (List.getElem?_eq_some_iff.1 hj).1
  rw [insV_length] at hjl
  simp only [Value.slice.injEq, Option.some.injEq] at he
  obtain ⟨rfl, -, -⟩ := he
  rcases hr with rfl | ⟨bl, off, e, -, r⟩
  · simp at hjl
  simp only [Option.some.injEq] at e
  subst e
  rw [WideShapes.add_plain]
  have hi : j / 2 < cs.length := by omega
  obtain ⟨e1, e2⟩ := insV_get cs (j / 2) hi
  obtain ⟨c1, c2⟩ := r (j / 2) hi
  have hm : j % 2 = 0 ∨ j % 2 = 1 := by omega
  rcases hm with hm | hm
  · rw [show j / 2 * 2 = j by omega] at e1 c1
    rw [hj] at e1
    cases e1
    exact c1
  · rw [show j / 2 * 2 + 1 = j by omega] at e2
    rw [show off + j / 2 * 2 + 1 = off + j by omega] at c2
    rw [hj] at e2
    cases e2
    exact c2
theorem flat_take {α : Type} (l : List (List α)) (i : Nat) (h : i < l.length) : (l.take (i + 1)).flatten = (l.take i).flatten ++ l[i] := by
  rw [List.take_succ_eq_append_getElem h, List.flatten_append]; simp
theorem flat_le {α : Type} (l : List (List α)) (i : Nat) : (l.take i).flatten.length ≤ l.flatten.length := by
  conv => rhs; rw [← List.take_append_drop i l, List.flatten_append, List.length_append]
  omega

/-- the lists, one behind the other -/
def CatRes (css : List (List Ins)) (w : World) (e : Ending) (w' : World) : Prop := ∃ v, e = .returned v ∧ StkP w' w.heap.size css.flatten v ∧ Below w.heap.size w w'
set_option maxRecDepth 100000 in
set_option maxHeartbeats 1600000 in
theorem concat_calls (css : List (List Ins)) (c : Value) (w : World) (hk : RowSl w css c) (hne : ∀ i (h : i < css.length), css[i] ≠ []) (hl : css.flatten.length ≤ 1048576) (hl2 : css.length ≤ 1048576) : Calls Try.prog 56 #[c] w (CatRes css w) := by
  have HK := mkHid hk
  have HNE := mkHid hne
  obtain ⟨ad, cap, rfl, -, hm, -⟩ := hk
  unfold maxLen at hm
  clear hne
  go_enter Try.func56, Try.ntmps56
  go_wp2_with fail
  go_loopw [3, 11] (fun n i wr => ∃ k : Nat, k ≤ css.length ∧ i = .int .i64 k ∧ n = .int .i64 ((css.take k).flatten.length : Int) ∧ Below w.heap.size w wr) (fun _ i _ => css.length - (intOf i).toNat)
  case atStart => exact ⟨0, Nat.zero_le _, rfl, rfl, Below.refl _ _⟩
  case round =>
    obtain ⟨k, hk, rfl, rfl, hb⟩ := hrel
    have HB := mkHid hb
    have hle := flat_le css k
    by_cases hlt : k < css.length
    · obtain ⟨bl, off, u, rfl, c0, hu⟩ := (HK.out.next hb).at k hlt
      obtain ⟨adu, capu, rfl, -, hmu, -⟩ := hu
      have HF := mkHid (flat_take css k hlt)
      have hle2 := flat_le css (k + 1)
      obtain ⟨a, ha⟩ : ∃ a, a = (css.take k).flatten.length := ⟨_, rfl⟩
      obtain ⟨b, hb'⟩ : ∃ b, b = css[k].length := ⟨_, rfl⟩
      have HA : Hid ((css.take (k + 1)).flatten.length = a + b) := by rw [Hid, HF.out, List.length_append, ha, hb']
      have hab : a + b ≤ 1048576 := by have := HA.out; omega
      rw [← ha]
      rw [← hb'] at c0
      clear hb ha hb' hle hle2 hmu
      go_wp2_with fail
      go_roundw
      case rel => exact ⟨k + 1, by omega, by go_num, by rw [HA.out]; push_cast; rfl, HB.out⟩
      case measure => simp [intOf]; omega
    · have hke : k = css.length := by omega
      obtain ⟨n, hn⟩ : ∃ n, n = (css.take k).flatten.length := ⟨_, rfl⟩
      have hn2 : n ≤ 1048576 := by omega
      have HG := mkHid (grow_calls n wr hn2)
      rw [← hn]
      clear hb hke hn hle
      go_wp2_with fail
      refine HG.out.mono ?_
      rintro e w1 ⟨v1, rfl, hst, hb1⟩
      have HS1 : Hid (StkP w1 w.heap.size [] v1) := hst.lower HB.out.size
      have HB1 : Hid (Below w.heap.size w w1) := HB.out.trans (hb1.mono HB.out.size)
      clear hst hb1
      go_wp2_with fail
      go_loopw [6, 27] (fun v i wq => ∃ q : Nat, q ≤ css.length ∧ i = .int .i64 q ∧ StkP wq w.heap.size (css.take q).flatten v ∧ Below w.heap.size w wq) (fun _ i _ => css.length - (intOf i).toNat)
      case atStart => exact ⟨0, Nat.zero_le _, rfl, HS1.out, HB1.out⟩
      case round =>
        obtain ⟨q, hq, rfl, hst, hbq⟩ := hrel
        have HST := mkHid hst
        have HBQ := mkHid hbq
        have hle := flat_le css q
        by_cases hlt : q < css.length
        · obtain ⟨bl, off, u, rfl, c0, hu⟩ := (HK.out.next hbq).at q hlt
          have HU := mkHid hu
          have HF := mkHid (flat_take css q hlt)
          have hle2 := flat_le css (q + 1)
          obtain ⟨os, hos⟩ : ∃ os, os = (css.take q).flatten := ⟨_, rfl⟩
          rw [← hos] at HST hst HF hle
          have HL : Hid (os.length + css[q].length ≤ 1048576) := by
            rw [HF.out, List.length_append] at hle2
            unfold Hid
            omega
          obtain ⟨adu, capu, rfl, -, hmu, hru⟩ := hu
          obtain ⟨bu, ou, rfl⟩ : ∃ bu ou, adu = some ⟨bu, ou, none⟩ := by
            rcases hru with h | ⟨bu, ou, h, -⟩
            · exact absurd h (HNE.out q hlt)
            · exact ⟨bu, ou, h⟩
          obtain ⟨ado, capo, rfl⟩ := hst.form
          obtain ⟨cs, hcs⟩ : ∃ cs, cs = css[q] := ⟨_, rfl⟩
          rw [← hcs] at HU HF HL c0
          obtain ⟨iE, zE, hII⟩ := infoK2
          have HII := mkHid hII
          have hlen := HL.out
          clear hst hbq hos hle hle2 hmu hru hcs hII
          go_wp2_with (at_builtin; go_must (refine wpList_append_own _ rfl _ _ 25 rfl w.heap.size 66 iE zE 2 16 Try.underlying25 HII.out.1 HII.out.2.1 HII.out.2.2.1 HII.out.2.2.2.1 HII.out.2.2.2.2 (by decide) (.slice ado os.length capo) os.length (insV os) rfl HST.out ⟨bu, ou, none⟩ cs.length capu (insV cs) rfl (insV_length cs) (ins_news HU.out) (insV_one cs) (by unfold maxLen; omega) (by omega) HBQ.out.size ?_); go_must (intro v' w3 hown hgrow hwh); go_must (have HS3 : Hid (StkP w3 w.heap.size (css.take (q + 1)).flatten v') := by rw [HF.out]; unfold StkP Hid; rw [insV_append, List.length_append]; exact hown); go_must (have HB3 : Hid (Below w.heap.size w w3) := stkP_grown HST.out HBQ.out (Nat.le_refl _) hgrow); clear hown hgrow hwh)
          go_roundw
          case rel => exact ⟨q + 1, by omega, by go_num, HS3.out, HB3.out⟩
          case measure => simp [intOf]; omega
        · have hqe : q = css.length := by omega
          have HS : Hid (StkP wr w.heap.size css.flatten u6) := by
            have h := HST.out
            rw [hqe, List.take_length] at h
            exact h
          clear hst hbq hqe hle
          obtain ⟨ado, capo, rfl⟩ := HS.out.form
          go_wp2_with fail
          go_ret
          exact ⟨_, rfl, HS.out, HBQ.out⟩
end Go.Proofs.Ythknbafcnobgdaa
