/-
  THE WALK OF FnExactPackGraph.
-/
import Derived.Test.YtiipcgnkfhjpeaaSpecPw
import Derived.Test.YtiipcgnkfhjpeaaImplPw
import Derived.Test.YtiipcgnkfhjpeaaOneRow
import Derived.Test.YtiipcgnkfhjpeaaMarkC
import Derived.Test.YtiipcgnkfhjpeaaCRow
import Derived.Test.YtiipcgnkfhjpeaaToInts
import Derived.Test.YtiipcgnkfhjpeaaCells
import Derived.Test.YtiipcgnkfhjpeaaInts
import Derived.Test.YtiipcgnkfhjpeaaSz
import Derived.Deep.RegionHeld3
namespace Go.Proofs.Ytiipcgnkfhjpeaa.lawExactPackGraph
open Go.ChangeShapes Go.WideShapes Go.ChangeAt Go.RowKit
set_option linter.unusedVariables false
set_option linter.unusedSimpArgs false

theorem packO_small (g : List Ce) : (packO g).1.length ≤ 4000 ∧ (packO g).2.1.length ≤ 4000 := by
  cases hg : graphB g 6 with
  | false => rw [packO_no hg]; simp
  | true =>
    rw [packO_yes hg]
    have hlen := graphB_len hg
    have h1 := wordsTo_len (g := g) (fun c hc => by
      obtain ⟨j, hj, rfl⟩ := List.getElem_of_mem hc
      exact (graph_cell hg j hj).2.2.2.2) g.length
    rw [wordsTo_all] at h1
    have h2 := startsG_length g 0
    show (wordsG g).length ≤ 4000 ∧ (startsG g 0).length ≤ 4000
    omega

set_option maxRecDepth 100000 in
set_option maxHeartbeats 12800000 in
theorem walk (g : List Ce) (cg : Value) (w : World) (hgk : CIn w g cg) :
    Calls Try.prog 3 #[cg] w fun e w' => e = .returned (.bool true) ∧ Below w.heap.size w w' := by
  have HG : Hid (CIn w g cg) := hgk
  obtain ⟨adg, capg, rfl, -, -, -⟩ := hgk
  obtain ⟨X0, hX0⟩ : ∃ X : List Int, X = (packO g).1 := ⟨_, rfl⟩
  obtain ⟨X1, hX1⟩ : ∃ X : List Int, X = (packO g).2.1 := ⟨_, rfl⟩
  obtain ⟨r2, hr2⟩ : ∃ r : Bool, r = (packO g).2.2 := ⟨_, rfl⟩
  have HXS0 : Hid (X0.length ≤ 4000) := by rw [hX0]; exact (packO_small g).1
  have HXS1 : Hid (X1.length ≤ 4000) := by rw [hX1]; exact (packO_small g).2
  have HSS : Hid (∀ (u : Value) (W : World), CIn W g u → Calls Try.prog 10 #[u] W fun en w' => ∃ t s, en = .returned (.tuple #[t, s, .bool r2]) ∧ (IIn w' X0 t ∧ IIn w' X1 s) ∧ Below W.heap.size W w') := fun u W h1 => (specPack_calls g u W h1).mono fun en w' h => by
    obtain ⟨t, s, e1, e2, e3, e4⟩ := h
    rw [hX0, hX1, hr2]
    exact ⟨t, s, e1, ⟨e2.inn, e3.inn⟩, e4⟩
  have HSI : Hid (∀ (u : Value) (W : World), CIn W g u → Calls Try.prog 12 #[u] W fun en w' => ∃ t s, en = .returned (.tuple #[t, s, .bool r2]) ∧ TwoRows X0 X1 t s W w' ∧ Below W.heap.size W w') := fun u W h1 => (implPack_calls g u W h1).mono fun en w' h => by
    obtain ⟨t, s, e1, e2, e3⟩ := h
    rw [hX0, hX1, hr2]
    exact ⟨t, s, e1, e2, e3⟩
  clear hX0 hX1 hr2
  go_enter Try.func3, Try.ntmps3
  have HB_w : Hid (Below w.heap.size w w) := Below.refl _ _
  have hleft0 : (0 : Int) ≤ 1048576 ∧ (1048576 : Int) ≤ 1048576 := by omega
  have hrgC := szC_range g 1048576 (by omega)
  go_wp2_with fail
  refine (szCells_calls g (.slice adg g.length capg) _ _ (HG.out.next HB_w.out) (by omega) (by omega)).mono ?_
  rintro en w1 ⟨rfl, hb⟩
  have HB_w1 : Hid (Below w.heap.size w w1) := HB_w.out.trans (hb.mono HB_w.out.size)
  clear hb
  by_cases hnegc : szC g 1048576 < 0
  · go_wp2_with fail
    go_ret
    exact ⟨rfl, HB_w1.out⟩
  have HZG : Hid (g.length + sumK g ≤ 1048576) := by unfold szC at hnegc; unfold Hid; split at hnegc <;> omega
  generalize szC g 1048576 = leftC at *
  clear hrgC
  go_wp2_with fail
  -- the model's answer
  refine (toCells_calls g (.slice adg g.length capg) w1 (HG.out.next HB_w1.out) HZG.out).mono ?_
  rintro en w2 ⟨sC, rfl, hvsC, hbsC⟩
  have HXw2 : Hid (Below w1.heap.size w1 w2) := hbsC
  have HsC_w2 : Hid (CIn w2 g sC) := hvsC.inn
  clear hvsC hbsC
  go_wp2_with fail
  refine (HSS.out sC w2 HsC_w2.out).mono ?_
  rintro en w3 ⟨vs0, vs1, rfl, hres, hbr⟩
  have HXw3 : Hid (Below w1.heap.size w1 w3) := HXw2.out.trans (hbr.mono HXw2.out.size)
  have HRs := mkHid hres
  clear hres hbr
  have HB_w3 : Hid (Below w.heap.size w w3) := HB_w1.out.trans (HXw3.out.mono HB_w1.out.size)
  have S0 : Hid (w.heap.size ≤ w3.heap.size) := HB_w3.out.size
  have LE_w3 : Hid (w3.heap.size ≤ w3.heap.size) := Nat.le_refl _
  have W0_w3 : Hid (IntsOn w3 (Lt w3.heap.size) X0 vs0) := HRs.out.1
  have W1_w3 : Hid (IntsOn w3 (Lt w3.heap.size) X1 vs1) := HRs.out.2
  -- the program's arguments
  go_wp2_with fail
  refine (toCells_calls g (.slice adg g.length capg) _ (HG.out.next HB_w3.out) HZG.out).mono ?_
  rintro en w4 ⟨xC, rfl, hv, hb⟩
  obtain ⟨fC, hfC⟩ : ∃ fC, fC = List.range' w3.heap.size (w4.heap.size - w3.heap.size) := ⟨_, rfl⟩
  have S1 : Hid (w3.heap.size ≤ w4.heap.size) := hb.size
  have HF_fC : Hid (True ∧ ∀ k ∈ fC, w3.heap.size ≤ k ∧ k < w4.heap.size) := ⟨trivial, fun k hk => by rw [hfC, List.mem_range'_1] at hk; have := S1.out; omega⟩
  have LE_w4 : Hid (w3.heap.size ≤ w4.heap.size) := Nat.le_trans LE_w3.out hb.size
  have W0_w4 : Hid (IntsOn w4 (Lt w3.heap.size) X0 vs0) := W0_w3.out.mono (fun _ hk => hk) fun k hk => hb.block k (Nat.lt_of_lt_of_le hk LE_w3.out)
  have W1_w4 : Hid (IntsOn w4 (Lt w3.heap.size) X1 vs1) := W1_w3.out.mono (fun _ hk => hk) fun k hk => hb.block k (Nat.lt_of_lt_of_le hk LE_w3.out)
  have HB_w4 : Hid (Below w.heap.size w w4) := HB_w3.out.trans (hb.mono HB_w3.out.size)
  have ZfC_w4 : Hid (w4.heap.size ≤ w4.heap.size) := Nat.le_refl _
  have XC_w4 : Hid (CIn w4 g xC) := hv.inn
  have KC_w4 : Hid (CShape w4 fC (g.map (·.kids.length)) xC) := by rw [Hid, hfC]; exact CellRow.shape hv
  clear hv hb hfC
  go_wp2_with fail
  -- the program's answer
  refine (HSI.out xC _ XC_w4.out).mono ?_
  rintro en w5 ⟨gL0, gL1, rfl, hres, hb⟩
  have SR : Hid (w4.heap.size ≤ w5.heap.size) := hb.size
  obtain ⟨bL0, bL1, hil, hbl, hdj⟩ := hres
  have HDJ := mkHid hdj
  have HF_bL0 : Hid (∀ k, k = bL0 → w4.heap.size ≤ k) := fun k hk => by rw [hk]; exact hbl.1
  have HF_bL1 : Hid (∀ k, k = bL1 → w4.heap.size ≤ k) := fun k hk => by rw [hk]; exact hbl.2
  have LE_w5 : Hid (w3.heap.size ≤ w5.heap.size) := Nat.le_trans LE_w4.out hb.size
  have W0_w5 : Hid (IntsOn w5 (Lt w3.heap.size) X0 vs0) := W0_w4.out.mono (fun _ hk => hk) fun k hk => hb.block k (Nat.lt_of_lt_of_le hk LE_w4.out)
  have W1_w5 : Hid (IntsOn w5 (Lt w3.heap.size) X1 vs1) := W1_w4.out.mono (fun _ hk => hk) fun k hk => hb.block k (Nat.lt_of_lt_of_le hk LE_w4.out)
  have ZfC_w5 : Hid (w4.heap.size ≤ w5.heap.size) := Nat.le_trans ZfC_w4.out hb.size
  have XC_w5 : Hid (CIn w5 g xC) := XC_w4.out.next hb
  have KC_w5 : Hid (CShape w5 fC (g.map (·.kids.length)) xC) := CShape.blocks KC_w4.out fun b hb9 => hb.block b (Nat.lt_of_lt_of_le (HF_fC.out.2 b hb9).2 ZfC_w4.out)
  have HB_w5 : Hid (Below w.heap.size w w5) := HB_w4.out.trans (hb.mono HB_w4.out.size)
  have IO0_w5 : Hid (OneRow w5 bL0 X0 gL0) := hil.1
  have IO1_w5 : Hid (OneRow w5 bL1 X1 gL1) := hil.2
  clear hb hil hbl hdj
  have t2 : (r2 != r2) = false := by simp
  obtain ⟨adL0, capL0, rfl⟩ := IO0_w5.out.form
  obtain ⟨adS0, capS0, rfl, -, -, -⟩ := id W0_w5.out
  obtain ⟨adL1, capL1, rfl⟩ := IO1_w5.out.form
  obtain ⟨adS1, capS1, rfl, -, -, -⟩ := id W1_w5.out
  go_wp2_with fail
  refine (eqInts_calls X0 _ _ _ IO0_w5.out.inn (W0_w5.out.mono (fun k hk => Nat.lt_of_lt_of_le hk LE_w5.out) fun _ _ => rfl)).mono ?_
  rintro en w6 ⟨rfl, hb⟩
  have LE_w6 : Hid (w3.heap.size ≤ w6.heap.size) := Nat.le_trans LE_w5.out hb.size
  have W0_w6 : Hid (IntsOn w6 (Lt w3.heap.size) X0 (.slice adS0 X0.length capS0)) := W0_w5.out.mono (fun _ hk => hk) fun k hk => hb.block k (Nat.lt_of_lt_of_le hk LE_w5.out)
  have W1_w6 : Hid (IntsOn w6 (Lt w3.heap.size) X1 (.slice adS1 X1.length capS1)) := W1_w5.out.mono (fun _ hk => hk) fun k hk => hb.block k (Nat.lt_of_lt_of_le hk LE_w5.out)
  have ZfC_w6 : Hid (w4.heap.size ≤ w6.heap.size) := Nat.le_trans ZfC_w5.out hb.size
  have XC_w6 : Hid (CIn w6 g xC) := XC_w5.out.next hb
  have KC_w6 : Hid (CShape w6 fC (g.map (·.kids.length)) xC) := CShape.blocks KC_w5.out fun b hb9 => hb.block b (Nat.lt_of_lt_of_le (HF_fC.out.2 b hb9).2 ZfC_w5.out)
  have IO0_w6 : Hid (OneRow w6 bL0 X0 (.slice adL0 X0.length capL0)) := OneRow.next IO0_w5.out hb
  have IO1_w6 : Hid (OneRow w6 bL1 X1 (.slice adL1 X1.length capL1)) := OneRow.next IO1_w5.out hb
  have HB_w6 : Hid (Below w.heap.size w w6) := HB_w5.out.trans (hb.mono HB_w5.out.size)
  clear hb
  go_wp2_with fail
  refine (eqInts_calls X1 _ _ _ IO1_w6.out.inn (W1_w6.out.mono (fun k hk => Nat.lt_of_lt_of_le hk LE_w6.out) fun _ _ => rfl)).mono ?_
  rintro en w7 ⟨rfl, hb⟩
  have LE_w7 : Hid (w3.heap.size ≤ w7.heap.size) := Nat.le_trans LE_w6.out hb.size
  have W0_w7 : Hid (IntsOn w7 (Lt w3.heap.size) X0 (.slice adS0 X0.length capS0)) := W0_w6.out.mono (fun _ hk => hk) fun k hk => hb.block k (Nat.lt_of_lt_of_le hk LE_w6.out)
  have W1_w7 : Hid (IntsOn w7 (Lt w3.heap.size) X1 (.slice adS1 X1.length capS1)) := W1_w6.out.mono (fun _ hk => hk) fun k hk => hb.block k (Nat.lt_of_lt_of_le hk LE_w6.out)
  have ZfC_w7 : Hid (w4.heap.size ≤ w7.heap.size) := Nat.le_trans ZfC_w6.out hb.size
  have XC_w7 : Hid (CIn w7 g xC) := XC_w6.out.next hb
  have KC_w7 : Hid (CShape w7 fC (g.map (·.kids.length)) xC) := CShape.blocks KC_w6.out fun b hb9 => hb.block b (Nat.lt_of_lt_of_le (HF_fC.out.2 b hb9).2 ZfC_w6.out)
  have IO0_w7 : Hid (OneRow w7 bL0 X0 (.slice adL0 X0.length capL0)) := OneRow.next IO0_w6.out hb
  have IO1_w7 : Hid (OneRow w7 bL1 X1 (.slice adL1 X1.length capL1)) := OneRow.next IO1_w6.out hb
  have HB_w7 : Hid (Below w.heap.size w w7) := HB_w6.out.trans (hb.mono HB_w6.out.size)
  clear hb
  go_wp2_with fail
  refine (toCells_calls g (.slice adg g.length capg) _ (HG.out.next HB_w7.out) HZG.out).mono ?_
  rintro en w8 ⟨yC, rfl, hvyC, hbyC⟩
  have LE_w8 : Hid (w3.heap.size ≤ w8.heap.size) := Nat.le_trans LE_w7.out hbyC.size
  have W0_w8 : Hid (IntsOn w8 (Lt w3.heap.size) X0 (.slice adS0 X0.length capS0)) := W0_w7.out.mono (fun _ hk => hk) fun k hk => hbyC.block k (Nat.lt_of_lt_of_le hk LE_w7.out)
  have W1_w8 : Hid (IntsOn w8 (Lt w3.heap.size) X1 (.slice adS1 X1.length capS1)) := W1_w7.out.mono (fun _ hk => hk) fun k hk => hbyC.block k (Nat.lt_of_lt_of_le hk LE_w7.out)
  have ZfC_w8 : Hid (w4.heap.size ≤ w8.heap.size) := Nat.le_trans ZfC_w7.out hbyC.size
  have XC_w8 : Hid (CIn w8 g xC) := XC_w7.out.next hbyC
  have KC_w8 : Hid (CShape w8 fC (g.map (·.kids.length)) xC) := CShape.blocks KC_w7.out fun b hb9 => hbyC.block b (Nat.lt_of_lt_of_le (HF_fC.out.2 b hb9).2 ZfC_w7.out)
  have IO0_w8 : Hid (OneRow w8 bL0 X0 (.slice adL0 X0.length capL0)) := OneRow.next IO0_w7.out hbyC
  have IO1_w8 : Hid (OneRow w8 bL1 X1 (.slice adL1 X1.length capL1)) := OneRow.next IO1_w7.out hbyC
  have HB_w8 : Hid (Below w.heap.size w w8) := HB_w7.out.trans (hbyC.mono HB_w7.out.size)
  have HY : Hid (CIn w8 g yC) := hvyC.inn
  clear hvyC hbyC
  go_wp2_with fail
  refine (eqCells_calls g xC yC _ XC_w8.out HY.out).mono ?_
  rintro en w9 ⟨rfl, hb⟩
  clear HY
  have LE_w9 : Hid (w3.heap.size ≤ w9.heap.size) := Nat.le_trans LE_w8.out hb.size
  have W0_w9 : Hid (IntsOn w9 (Lt w3.heap.size) X0 (.slice adS0 X0.length capS0)) := W0_w8.out.mono (fun _ hk => hk) fun k hk => hb.block k (Nat.lt_of_lt_of_le hk LE_w8.out)
  have W1_w9 : Hid (IntsOn w9 (Lt w3.heap.size) X1 (.slice adS1 X1.length capS1)) := W1_w8.out.mono (fun _ hk => hk) fun k hk => hb.block k (Nat.lt_of_lt_of_le hk LE_w8.out)
  have ZfC_w9 : Hid (w4.heap.size ≤ w9.heap.size) := Nat.le_trans ZfC_w8.out hb.size
  have XC_w9 : Hid (CIn w9 g xC) := XC_w8.out.next hb
  have KC_w9 : Hid (CShape w9 fC (g.map (·.kids.length)) xC) := CShape.blocks KC_w8.out fun b hb9 => hb.block b (Nat.lt_of_lt_of_le (HF_fC.out.2 b hb9).2 ZfC_w8.out)
  have IO0_w9 : Hid (OneRow w9 bL0 X0 (.slice adL0 X0.length capL0)) := OneRow.next IO0_w8.out hb
  have IO1_w9 : Hid (OneRow w9 bL1 X1 (.slice adL1 X1.length capL1)) := OneRow.next IO1_w8.out hb
  have HB_w9 : Hid (Below w.heap.size w w9) := HB_w8.out.trans (hb.mono HB_w8.out.size)
  clear hb
  -- the arguments are marked
  go_wp2_with fail
  refine (markCells_calls _ fC xC 1 w9 KC_w9.out (by omega) (by omega) (by rw [sum_shape, List.length_map]; exact HZG.out)).mono ?_
  rintro en w10 ⟨rfl, hb⟩
  have LE_w10 : Hid (w3.heap.size ≤ w10.heap.size) := Nat.le_trans LE_w9.out hb.size
  have W0_w10 : Hid (IntsOn w10 (Lt w3.heap.size) X0 (.slice adS0 X0.length capS0)) := W0_w9.out.mono (fun _ hk => hk) fun k (hk : k < _) => hb.block k (Nat.lt_of_lt_of_le hk LE_w9.out) (fun h => by have := (HF_fC.out.2 _ h); have := S0.out; have := S1.out; have := SR.out; omega)
  have W1_w10 : Hid (IntsOn w10 (Lt w3.heap.size) X1 (.slice adS1 X1.length capS1)) := W1_w9.out.mono (fun _ hk => hk) fun k (hk : k < _) => hb.block k (Nat.lt_of_lt_of_le hk LE_w9.out) (fun h => by have := (HF_fC.out.2 _ h); have := S0.out; have := S1.out; have := SR.out; omega)
  have IO0_w10 : Hid (OneRow w10 bL0 X0 (.slice adL0 X0.length capL0)) := OneRow.keep IO0_w9.out fun b hb9 hz9 => hb.block b hz9 (fun h => by have := (HF_fC.out.2 _ h); have := (HF_bL0.out b hb9); have := S0.out; have := S1.out; have := SR.out; omega)
  have IO1_w10 : Hid (OneRow w10 bL1 X1 (.slice adL1 X1.length capL1)) := OneRow.keep IO1_w9.out fun b hb9 hz9 => hb.block b hz9 (fun h => by have := (HF_fC.out.2 _ h); have := (HF_bL1.out b hb9); have := S0.out; have := S1.out; have := SR.out; omega)
  have HB_w10 : Hid (Below w.heap.size w w10) := HB_w9.out.trans (hb.below (fun k h => by have := (HF_fC.out.2 _ h); have := S0.out; have := S1.out; have := SR.out; omega) HB_w9.out.size)
  clear hb
  have hkB : ((2 * (g.map (·.kids.length)).length + sumN' (g.map (·.kids.length)) : Nat) : Int) ≤ 2097152 := by rw [sum_shape, List.length_map]; have := HZG.out; omega
  obtain ⟨kC, hkC⟩ : ∃ kC : Int, kC = 1 + ((2 * (g.map (·.kids.length)).length + sumN' (g.map (·.kids.length)) : Nat) : Int) := ⟨_, rfl⟩
  rw [← hkC]
  have hkC0 : 0 ≤ kC ∧ kC ≤ 8388608 := by omega
  clear hkC hkB
  go_wp2_with fail
  refine (eqInts_calls X0 _ _ _ IO0_w10.out.inn (W0_w10.out.mono (fun k hk => Nat.lt_of_lt_of_le hk LE_w10.out) fun _ _ => rfl)).mono ?_
  rintro en w11 ⟨rfl, hb⟩
  have LE_w11 : Hid (w3.heap.size ≤ w11.heap.size) := Nat.le_trans LE_w10.out hb.size
  have W0_w11 : Hid (IntsOn w11 (Lt w3.heap.size) X0 (.slice adS0 X0.length capS0)) := W0_w10.out.mono (fun _ hk => hk) fun k hk => hb.block k (Nat.lt_of_lt_of_le hk LE_w10.out)
  have W1_w11 : Hid (IntsOn w11 (Lt w3.heap.size) X1 (.slice adS1 X1.length capS1)) := W1_w10.out.mono (fun _ hk => hk) fun k hk => hb.block k (Nat.lt_of_lt_of_le hk LE_w10.out)
  have IO0_w11 : Hid (OneRow w11 bL0 X0 (.slice adL0 X0.length capL0)) := OneRow.next IO0_w10.out hb
  have IO1_w11 : Hid (OneRow w11 bL1 X1 (.slice adL1 X1.length capL1)) := OneRow.next IO1_w10.out hb
  have HB_w11 : Hid (Below w.heap.size w w11) := HB_w10.out.trans (hb.mono HB_w10.out.size)
  clear hb
  go_wp2_with fail
  refine (eqInts_calls X1 _ _ _ IO1_w11.out.inn (W1_w11.out.mono (fun k hk => Nat.lt_of_lt_of_le hk LE_w11.out) fun _ _ => rfl)).mono ?_
  rintro en w12 ⟨rfl, hb⟩
  have LE_w12 : Hid (w3.heap.size ≤ w12.heap.size) := Nat.le_trans LE_w11.out hb.size
  have W0_w12 : Hid (IntsOn w12 (Lt w3.heap.size) X0 (.slice adS0 X0.length capS0)) := W0_w11.out.mono (fun _ hk => hk) fun k hk => hb.block k (Nat.lt_of_lt_of_le hk LE_w11.out)
  have W1_w12 : Hid (IntsOn w12 (Lt w3.heap.size) X1 (.slice adS1 X1.length capS1)) := W1_w11.out.mono (fun _ hk => hk) fun k hk => hb.block k (Nat.lt_of_lt_of_le hk LE_w11.out)
  have IO0_w12 : Hid (OneRow w12 bL0 X0 (.slice adL0 X0.length capL0)) := OneRow.next IO0_w11.out hb
  have IO1_w12 : Hid (OneRow w12 bL1 X1 (.slice adL1 X1.length capL1)) := OneRow.next IO1_w11.out hb
  have HB_w12 : Hid (Below w.heap.size w w12) := HB_w11.out.trans (hb.mono HB_w11.out.size)
  clear hb
  go_wp2_with fail
  -- the answer is marked
  refine (markOne_calls X0 bL0 _ 1 w12 IO0_w12.out (by omega) (by have := HXS0.out; omega)).mono ?_
  rintro en w13 ⟨rfl, hk9, hb⟩
  have LE_w13 : Hid (w3.heap.size ≤ w13.heap.size) := Nat.le_trans LE_w12.out hb.size
  have W0_w13 : Hid (IntsOn w13 (Lt w3.heap.size) X0 (.slice adS0 X0.length capS0)) := W0_w12.out.mono (fun _ hk => hk) fun k (hk : k < _) => hb.block k (Nat.lt_of_lt_of_le hk LE_w12.out) (fun h => by have := HF_bL0.out k (List.mem_singleton.1 h); have := S0.out; have := S1.out; have := SR.out; omega)
  have W1_w13 : Hid (IntsOn w13 (Lt w3.heap.size) X1 (.slice adS1 X1.length capS1)) := W1_w12.out.mono (fun _ hk => hk) fun k (hk : k < _) => hb.block k (Nat.lt_of_lt_of_le hk LE_w12.out) (fun h => by have := HF_bL0.out k (List.mem_singleton.1 h); have := S0.out; have := S1.out; have := SR.out; omega)
  have IO1_w13 : Hid (OneRow w13 bL1 X1 (.slice adL1 X1.length capL1)) := OneRow.keep IO1_w12.out fun b hb9 hz9 => hb.block b hz9 (fun h => HDJ.out ((List.mem_singleton.1 h).symm.trans hb9))
  have HB_w13 : Hid (Below w.heap.size w w13) := HB_w12.out.trans (hb.below (fun k h => by have := HF_bL0.out k (List.mem_singleton.1 h); have := S0.out; have := S1.out; have := SR.out; omega) HB_w12.out.size)
  have IL0_w13 : Hid (OneRow w13 bL0 (upFrom 1 X0.length) (.slice adL0 X0.length capL0)) := hk9
  clear hb hk9
  obtain ⟨mL0, hmL0⟩ : ∃ mL0 : Int, mL0 = 1 + (X0.length : Int) := ⟨_, rfl⟩
  have HML0 := mkHid hmL0
  have hmL00 : 0 ≤ mL0 ∧ mL0 ≤ 4001 := by have := HXS0.out; omega
  rw [← hmL0]
  clear hmL0
  go_wp2_with fail
  refine (markOne_calls X1 bL1 _ mL0 w13 IO1_w13.out (by omega) (by have := HXS1.out; omega)).mono ?_
  rintro en w14 ⟨rfl, hk9, hb⟩
  have LE_w14 : Hid (w3.heap.size ≤ w14.heap.size) := Nat.le_trans LE_w13.out hb.size
  have W0_w14 : Hid (IntsOn w14 (Lt w3.heap.size) X0 (.slice adS0 X0.length capS0)) := W0_w13.out.mono (fun _ hk => hk) fun k (hk : k < _) => hb.block k (Nat.lt_of_lt_of_le hk LE_w13.out) (fun h => by have := HF_bL1.out k (List.mem_singleton.1 h); have := S0.out; have := S1.out; have := SR.out; omega)
  have W1_w14 : Hid (IntsOn w14 (Lt w3.heap.size) X1 (.slice adS1 X1.length capS1)) := W1_w13.out.mono (fun _ hk => hk) fun k (hk : k < _) => hb.block k (Nat.lt_of_lt_of_le hk LE_w13.out) (fun h => by have := HF_bL1.out k (List.mem_singleton.1 h); have := S0.out; have := S1.out; have := SR.out; omega)
  have IL0_w14 : Hid (OneRow w14 bL0 (upFrom 1 X0.length) (.slice adL0 X0.length capL0)) := OneRow.keep IL0_w13.out fun b hb9 hz9 => hb.block b hz9 (fun h => HDJ.out (hb9.symm.trans (List.mem_singleton.1 h)))
  have HB_w14 : Hid (Below w.heap.size w w14) := HB_w13.out.trans (hb.below (fun k h => by have := HF_bL1.out k (List.mem_singleton.1 h); have := S0.out; have := S1.out; have := SR.out; omega) HB_w13.out.size)
  have IL1_w14 : Hid (OneRow w14 bL1 (upFrom mL0 X1.length) (.slice adL1 X1.length capL1)) := hk9
  clear hb hk9
  obtain ⟨mL1, hmL1⟩ : ∃ mL1 : Int, mL1 = mL0 + (X1.length : Int) := ⟨_, rfl⟩
  have HML1 := mkHid hmL1
  have hmL10 : 0 ≤ mL1 ∧ mL1 ≤ 8001 := by have := HXS1.out; omega
  rw [← hmL1]
  clear hmL1
  go_wp2_with fail
  refine (heldInts_calls X0.length _ 1 w14 IL0_w14.out.inn (by omega) (by have := HXS0.out; omega)).mono ?_
  rintro en w15 ⟨rfl, hb⟩
  rw [← HML0.out]
  have LE_w15 : Hid (w3.heap.size ≤ w15.heap.size) := Nat.le_trans LE_w14.out hb.size
  have W0_w15 : Hid (IntsOn w15 (Lt w3.heap.size) X0 (.slice adS0 X0.length capS0)) := W0_w14.out.mono (fun _ hk => hk) fun k hk => hb.block k (Nat.lt_of_lt_of_le hk LE_w14.out)
  have W1_w15 : Hid (IntsOn w15 (Lt w3.heap.size) X1 (.slice adS1 X1.length capS1)) := W1_w14.out.mono (fun _ hk => hk) fun k hk => hb.block k (Nat.lt_of_lt_of_le hk LE_w14.out)
  have IL0_w15 : Hid (OneRow w15 bL0 (upFrom 1 X0.length) (.slice adL0 X0.length capL0)) := OneRow.next IL0_w14.out hb
  have IL1_w15 : Hid (OneRow w15 bL1 (upFrom mL0 X1.length) (.slice adL1 X1.length capL1)) := OneRow.next IL1_w14.out hb
  have HB_w15 : Hid (Below w.heap.size w w15) := HB_w14.out.trans (hb.mono HB_w14.out.size)
  clear hb
  go_wp2_with fail
  refine (heldInts_calls X1.length _ mL0 w15 IL1_w15.out.inn (by omega) (by have := HXS1.out; omega)).mono ?_
  rintro en w16 ⟨rfl, hb⟩
  rw [← HML1.out]
  have LE_w16 : Hid (w3.heap.size ≤ w16.heap.size) := Nat.le_trans LE_w15.out hb.size
  have W0_w16 : Hid (IntsOn w16 (Lt w3.heap.size) X0 (.slice adS0 X0.length capS0)) := W0_w15.out.mono (fun _ hk => hk) fun k hk => hb.block k (Nat.lt_of_lt_of_le hk LE_w15.out)
  have W1_w16 : Hid (IntsOn w16 (Lt w3.heap.size) X1 (.slice adS1 X1.length capS1)) := W1_w15.out.mono (fun _ hk => hk) fun k hk => hb.block k (Nat.lt_of_lt_of_le hk LE_w15.out)
  have IL0_w16 : Hid (OneRow w16 bL0 (upFrom 1 X0.length) (.slice adL0 X0.length capL0)) := OneRow.next IL0_w15.out hb
  have IL1_w16 : Hid (OneRow w16 bL1 (upFrom mL0 X1.length) (.slice adL1 X1.length capL1)) := OneRow.next IL1_w15.out hb
  have HB_w16 : Hid (Below w.heap.size w w16) := HB_w15.out.trans (hb.mono HB_w15.out.size)
  clear hb
  have tm : (mL1 != mL1) = false := by simp
  go_wp2_with fail
  -- called once more
  refine (toCells_calls g (.slice adg g.length capg) w16 (HG.out.next HB_w16.out) HZG.out).mono ?_
  rintro en w17 ⟨hC, rfl, hvhC, hbhC⟩
  have HXw17 : Hid (Below w16.heap.size w16 w17) := hbhC
  have HhC_w17 : Hid (CIn w17 g hC) := hvhC.inn
  clear hvhC hbhC
  go_wp2_with fail
  refine (HSI.out hC w17 HhC_w17.out).mono ?_
  rintro en w18 ⟨vh0, vh1, rfl, hres, hbr⟩
  have HXw18 : Hid (Below w16.heap.size w16 w18) := HXw17.out.trans (hbr.mono HXw17.out.size)
  have HRh := mkHid hres
  clear hres hbr
  have LE_w18 : Hid (w3.heap.size ≤ w18.heap.size) := Nat.le_trans LE_w16.out HXw18.out.size
  have W0_w18 : Hid (IntsOn w18 (Lt w3.heap.size) X0 (.slice adS0 X0.length capS0)) := W0_w16.out.mono (fun _ hk => hk) fun k hk => HXw18.out.block k (Nat.lt_of_lt_of_le hk LE_w16.out)
  have W1_w18 : Hid (IntsOn w18 (Lt w3.heap.size) X1 (.slice adS1 X1.length capS1)) := W1_w16.out.mono (fun _ hk => hk) fun k hk => HXw18.out.block k (Nat.lt_of_lt_of_le hk LE_w16.out)
  have IL0_w18 : Hid (OneRow w18 bL0 (upFrom 1 X0.length) (.slice adL0 X0.length capL0)) := OneRow.next IL0_w16.out HXw18.out
  have IL1_w18 : Hid (OneRow w18 bL1 (upFrom mL0 X1.length) (.slice adL1 X1.length capL1)) := OneRow.next IL1_w16.out HXw18.out
  have HB_w18 : Hid (Below w.heap.size w w18) := HB_w16.out.trans (HXw18.out.mono HB_w16.out.size)
  obtain ⟨bH0, bH1, hih, -, -⟩ := HRh.out
  have HIH0 := mkHid hih.1
  have HIH1 := mkHid hih.2
  clear hih
  obtain ⟨adH0, capH0, rfl⟩ := HIH0.out.form
  obtain ⟨adH1, capH1, rfl⟩ := HIH1.out.form
  go_wp2_with fail
  refine (eqInts_calls X0 _ _ _ HIH0.out.inn (W0_w18.out.mono (fun k hk => Nat.lt_of_lt_of_le hk LE_w18.out) fun _ _ => rfl)).mono ?_
  rintro en w19 ⟨rfl, hb⟩
  have HIH1 := mkHid (OneRow.next HIH1.out hb)
  have LE_w19 : Hid (w3.heap.size ≤ w19.heap.size) := Nat.le_trans LE_w18.out hb.size
  have W0_w19 : Hid (IntsOn w19 (Lt w3.heap.size) X0 (.slice adS0 X0.length capS0)) := W0_w18.out.mono (fun _ hk => hk) fun k hk => hb.block k (Nat.lt_of_lt_of_le hk LE_w18.out)
  have W1_w19 : Hid (IntsOn w19 (Lt w3.heap.size) X1 (.slice adS1 X1.length capS1)) := W1_w18.out.mono (fun _ hk => hk) fun k hk => hb.block k (Nat.lt_of_lt_of_le hk LE_w18.out)
  have IL0_w19 : Hid (OneRow w19 bL0 (upFrom 1 X0.length) (.slice adL0 X0.length capL0)) := OneRow.next IL0_w18.out hb
  have IL1_w19 : Hid (OneRow w19 bL1 (upFrom mL0 X1.length) (.slice adL1 X1.length capL1)) := OneRow.next IL1_w18.out hb
  have HB_w19 : Hid (Below w.heap.size w w19) := HB_w18.out.trans (hb.mono HB_w18.out.size)
  clear hb
  go_wp2_with fail
  refine (eqInts_calls X1 _ _ _ HIH1.out.inn (W1_w19.out.mono (fun k hk => Nat.lt_of_lt_of_le hk LE_w19.out) fun _ _ => rfl)).mono ?_
  rintro en w20 ⟨rfl, hb⟩
  have LE_w20 : Hid (w3.heap.size ≤ w20.heap.size) := Nat.le_trans LE_w19.out hb.size
  have W0_w20 : Hid (IntsOn w20 (Lt w3.heap.size) X0 (.slice adS0 X0.length capS0)) := W0_w19.out.mono (fun _ hk => hk) fun k hk => hb.block k (Nat.lt_of_lt_of_le hk LE_w19.out)
  have W1_w20 : Hid (IntsOn w20 (Lt w3.heap.size) X1 (.slice adS1 X1.length capS1)) := W1_w19.out.mono (fun _ hk => hk) fun k hk => hb.block k (Nat.lt_of_lt_of_le hk LE_w19.out)
  have IL0_w20 : Hid (OneRow w20 bL0 (upFrom 1 X0.length) (.slice adL0 X0.length capL0)) := OneRow.next IL0_w19.out hb
  have IL1_w20 : Hid (OneRow w20 bL1 (upFrom mL0 X1.length) (.slice adL1 X1.length capL1)) := OneRow.next IL1_w19.out hb
  have HB_w20 : Hid (Below w.heap.size w w20) := HB_w19.out.trans (hb.mono HB_w19.out.size)
  clear hb
  go_wp2_with fail
  refine (heldInts_calls X0.length _ 1 w20 IL0_w20.out.inn (by omega) (by have := HXS0.out; omega)).mono ?_
  rintro en w21 ⟨rfl, hb⟩
  rw [← HML0.out]
  have IL0_w21 : Hid (OneRow w21 bL0 (upFrom 1 X0.length) (.slice adL0 X0.length capL0)) := OneRow.next IL0_w20.out hb
  have IL1_w21 : Hid (OneRow w21 bL1 (upFrom mL0 X1.length) (.slice adL1 X1.length capL1)) := OneRow.next IL1_w20.out hb
  have HB_w21 : Hid (Below w.heap.size w w21) := HB_w20.out.trans (hb.mono HB_w20.out.size)
  clear hb
  go_wp2_with fail
  refine (heldInts_calls X1.length _ mL0 w21 IL1_w21.out.inn (by omega) (by have := HXS1.out; omega)).mono ?_
  rintro en w22 ⟨rfl, hb⟩
  rw [← HML1.out]
  have IL0_w22 : Hid (OneRow w22 bL0 (upFrom 1 X0.length) (.slice adL0 X0.length capL0)) := OneRow.next IL0_w21.out hb
  have IL1_w22 : Hid (OneRow w22 bL1 (upFrom mL0 X1.length) (.slice adL1 X1.length capL1)) := OneRow.next IL1_w21.out hb
  have HB_w22 : Hid (Below w.heap.size w w22) := HB_w21.out.trans (hb.mono HB_w21.out.size)
  clear hb
  go_wp2_with fail
  go_ret
  exact ⟨rfl, HB_w22.out⟩
end Go.Proofs.Ytiipcgnkfhjpeaa.lawExactPackGraph
