/-
  THE WALK OF FnExactCopyWords.
-/
import Derived.Test.YtiipcgnkfhjpeaaMgExactCopyWords6
import Derived.Test.YtiipcgnkfhjpeaaMgExactCopyWords8
import Derived.Test.YtiipcgnkfhjpeaaMgExactCopyWords2
import Derived.Test.YtiipcgnkfhjpeaaMgExactCopyWords1
import Derived.Deep.RegionHeld3
namespace Go.Proofs.Ytiipcgnkfhjpeaa.lawExactCopyWords
open Go.ChangeShapes Go.WideShapes Go.ChangeAt Go.RowKit
set_option linter.unusedVariables false
set_option linter.unusedSimpArgs false


set_option maxRecDepth 100000 in
set_option maxHeartbeats 12800000 in
theorem walk (xs0 : List Int) (ca0 : Value) (xs1 : List Int) (ca1 : Value) (w : World) (hak0 : IIn w xs0 ca0) (hak1 : IIn w xs1 ca1) (hw : ∀ x ∈ xs0, I64 x) :
    Calls Try.prog 5 #[ca0, ca1] w fun e w' => e = .returned (.bool true) ∧ Below w.heap.size w w' := by
  have HA0 : Hid (IIn w xs0 ca0) := hak0
  obtain ⟨ada0, capa0, rfl, hal0, ham0, -⟩ := hak0
  unfold maxLen at ham0
  have HA1 : Hid (IIn w xs1 ca1) := hak1
  obtain ⟨ada1, capa1, rfl, hal1, ham1, -⟩ := hak1
  unfold maxLen at ham1
  obtain ⟨X0, hX0⟩ : ∃ X : List Int, X = (copyO xs0 xs1).1 := ⟨_, rfl⟩
  obtain ⟨X1, hX1⟩ : ∃ X : List Int, X = (copyO xs0 xs1).2.1 := ⟨_, rfl⟩
  obtain ⟨r2, hr2⟩ : ∃ r : Bool, r = (copyO xs0 xs1).2.2 := ⟨_, rfl⟩
  have HXS0 : Hid (X0.length ≤ 4000) := by rw [hX0]; exact (copyO_small xs0 xs1).1
  have HXS1 : Hid (X1.length ≤ 4000) := by rw [hX1]; exact (copyO_small xs0 xs1).2
  have HSS0 : Hid (xs0.length ≤ 1048576 → xs1.length ≤ 1048576 → ∀ (u u2 : Value) (W : World), IIn W xs0 u → IIn W xs1 u2 → Calls Try.prog 22 #[u, u2] W fun en w' => ∃ t s, en = .returned (.tuple #[t, s, .bool r2]) ∧ (IIn w' X0 t ∧ IIn w' X1 s) ∧ Below W.heap.size W w') := fun hl hl2 u u2 W h1 h2 => (specCopyW_calls xs0 xs1 u u2 W h1 h2 hw hl hl2).mono fun en w' h => by
    obtain ⟨t, s, e1, e2, e3, e4⟩ := h
    rw [hX0, hX1, hr2]
    exact ⟨t, s, e1, ⟨e2, e3⟩, e4⟩
  have HSI0 : Hid (xs0.length ≤ 1048576 → xs1.length ≤ 1048576 → ∀ (u u2 : Value) (W : World), IIn W xs0 u → IIn W xs1 u2 → Calls Try.prog 23 #[u, u2] W fun en w' => ∃ t s, en = .returned (.tuple #[t, s, .bool r2]) ∧ TwoRows X0 X1 t s W w' ∧ Below W.heap.size W w') := fun hl hl2 u u2 W h1 h2 => (implCopyW_calls xs0 xs1 u u2 W h1 h2 hw hl hl2).mono fun en w' h => by
    obtain ⟨t, s, e1, e2, e3⟩ := h
    rw [hX0, hX1, hr2]
    exact ⟨t, s, e1, e2, e3⟩
  clear hX0 hX1 hr2 hw
  go_enter Try.func5, Try.ntmps5
  have HB_w : Hid (Below w.heap.size w w) := Below.refl _ _
  by_cases hlen0 : (1048576 : Int) < (xs0.length : Int)
  · go_wp2_with fail
    go_ret
    exact ⟨rfl, HB_w.out⟩
  have HL0 : Hid (xs0.length ≤ 1048576) := by unfold Hid; omega
  by_cases hlen1 : (1048576 : Int) < (xs1.length : Int)
  · go_wp2_with fail
    go_ret
    exact ⟨rfl, HB_w.out⟩
  have HL1 : Hid (xs1.length ≤ 1048576) := by unfold Hid; omega
  have HSS := mkHid (HSS0.out HL0.out HL1.out)
  have HSI := mkHid (HSI0.out HL0.out HL1.out)
  go_wp2_with fail
  -- the model's answer
  refine (toInts_calls xs0 (.slice ada0 xs0.length capa0) w (HA0.out.next HB_w.out) HL0.out).mono ?_
  rintro en w1 ⟨sA0, rfl, hvsA0, hbsA0⟩
  have HXw1 : Hid (Below w.heap.size w w1) := hbsA0
  have HsA0_w1 : Hid (IIn w1 xs0 sA0) := hvsA0.inn
  clear hvsA0 hbsA0
  go_wp2_with fail
  refine (toInts_calls xs1 (.slice ada1 xs1.length capa1) w1 (HA1.out.next (HB_w.out.trans (HXw1.out.mono HB_w.out.size))) HL1.out).mono ?_
  rintro en w2 ⟨sA1, rfl, hvsA1, hbsA1⟩
  have HXw2 : Hid (Below w.heap.size w w2) := HXw1.out.trans (hbsA1.mono HXw1.out.size)
  have HsA1_w2 : Hid (IIn w2 xs1 sA1) := hvsA1.inn
  have HsA0_w2 : Hid (IIn w2 xs0 sA0) := HsA0_w1.out.next hbsA1
  clear hvsA1 hbsA1
  go_wp2_with fail
  refine (HSS.out sA0 sA1 w2 HsA0_w2.out HsA1_w2.out).mono ?_
  rintro en w3 ⟨vs0, vs1, rfl, hres, hbr⟩
  have HXw3 : Hid (Below w.heap.size w w3) := HXw2.out.trans (hbr.mono HXw2.out.size)
  have HRs := mkHid hres
  clear hres hbr
  have HB_w3 : Hid (Below w.heap.size w w3) := HB_w.out.trans (HXw3.out.mono HB_w.out.size)
  have S0 : Hid (w.heap.size ≤ w3.heap.size) := HB_w3.out.size
  have LE_w3 : Hid (w3.heap.size ≤ w3.heap.size) := Nat.le_refl _
  have W0_w3 : Hid (IntsOn w3 (Lt w3.heap.size) X0 vs0) := HRs.out.1
  have W1_w3 : Hid (IntsOn w3 (Lt w3.heap.size) X1 vs1) := HRs.out.2
  -- the program's arguments
  go_wp2_with fail
  refine (toInts_calls xs0 (.slice ada0 xs0.length capa0) _ (HA0.out.next HB_w3.out) HL0.out).mono ?_
  rintro en w4 ⟨xA0, rfl, hv, hb⟩
  obtain ⟨fA0, hfA0⟩ : ∃ fA0, fA0 = List.range' w3.heap.size (w4.heap.size - w3.heap.size) := ⟨_, rfl⟩
  have S1 : Hid (w3.heap.size ≤ w4.heap.size) := hb.size
  have HF_fA0 : Hid (True ∧ ∀ k ∈ fA0, w3.heap.size ≤ k ∧ k < w4.heap.size) := ⟨trivial, fun k hk => by rw [hfA0, List.mem_range'_1] at hk; have := S1.out; omega⟩
  have LE_w4 : Hid (w3.heap.size ≤ w4.heap.size) := Nat.le_trans LE_w3.out hb.size
  have W0_w4 : Hid (IntsOn w4 (Lt w3.heap.size) X0 vs0) := W0_w3.out.mono (fun _ hk => hk) fun k hk => hb.block k (Nat.lt_of_lt_of_le hk LE_w3.out)
  have W1_w4 : Hid (IntsOn w4 (Lt w3.heap.size) X1 vs1) := W1_w3.out.mono (fun _ hk => hk) fun k hk => hb.block k (Nat.lt_of_lt_of_le hk LE_w3.out)
  have HB_w4 : Hid (Below w.heap.size w w4) := HB_w3.out.trans (hb.mono HB_w3.out.size)
  have ZfA0_w4 : Hid (w4.heap.size ≤ w4.heap.size) := Nat.le_refl _
  have XA0_w4 : Hid (IIn w4 xs0 xA0) := hv.inn
  have KA0_w4 : Hid (IShape w4 fA0 xs0.length xA0) := by rw [Hid, hfA0]; exact IntRow.shape hv
  clear hv hb hfA0
  go_wp2_with fail
  refine (toInts_calls xs1 (.slice ada1 xs1.length capa1) _ (HA1.out.next HB_w4.out) HL1.out).mono ?_
  rintro en w5 ⟨xA1, rfl, hv, hb⟩
  obtain ⟨fA1, hfA1⟩ : ∃ fA1, fA1 = List.range' w4.heap.size (w5.heap.size - w4.heap.size) := ⟨_, rfl⟩
  have S2 : Hid (w4.heap.size ≤ w5.heap.size) := hb.size
  have HF_fA1 : Hid (True ∧ ∀ k ∈ fA1, w4.heap.size ≤ k ∧ k < w5.heap.size) := ⟨trivial, fun k hk => by rw [hfA1, List.mem_range'_1] at hk; have := S2.out; omega⟩
  have LE_w5 : Hid (w3.heap.size ≤ w5.heap.size) := Nat.le_trans LE_w4.out hb.size
  have W0_w5 : Hid (IntsOn w5 (Lt w3.heap.size) X0 vs0) := W0_w4.out.mono (fun _ hk => hk) fun k hk => hb.block k (Nat.lt_of_lt_of_le hk LE_w4.out)
  have W1_w5 : Hid (IntsOn w5 (Lt w3.heap.size) X1 vs1) := W1_w4.out.mono (fun _ hk => hk) fun k hk => hb.block k (Nat.lt_of_lt_of_le hk LE_w4.out)
  have ZfA0_w5 : Hid (w4.heap.size ≤ w5.heap.size) := Nat.le_trans ZfA0_w4.out hb.size
  have XA0_w5 : Hid (IIn w5 xs0 xA0) := XA0_w4.out.next hb
  have KA0_w5 : Hid (IShape w5 fA0 xs0.length xA0) := IShape.blocks KA0_w4.out fun b hb9 => hb.block b (Nat.lt_of_lt_of_le (HF_fA0.out.2 b hb9).2 ZfA0_w4.out)
  have HB_w5 : Hid (Below w.heap.size w w5) := HB_w4.out.trans (hb.mono HB_w4.out.size)
  have ZfA1_w5 : Hid (w5.heap.size ≤ w5.heap.size) := Nat.le_refl _
  have XA1_w5 : Hid (IIn w5 xs1 xA1) := hv.inn
  have KA1_w5 : Hid (IShape w5 fA1 xs1.length xA1) := by rw [Hid, hfA1]; exact IntRow.shape hv
  clear hv hb hfA1
  go_wp2_with fail
  -- the program's answer
  refine (HSI.out xA0 xA1 _ XA0_w5.out XA1_w5.out).mono ?_
  rintro en w6 ⟨gL0, gL1, rfl, hres, hb⟩
  have SR : Hid (w5.heap.size ≤ w6.heap.size) := hb.size
  obtain ⟨bL0, bL1, hil, hbl, hdj⟩ := hres
  have HDJ := mkHid hdj
  have HF_bL0 : Hid (∀ k, k = bL0 → w5.heap.size ≤ k) := fun k hk => by rw [hk]; exact hbl.1
  have HF_bL1 : Hid (∀ k, k = bL1 → w5.heap.size ≤ k) := fun k hk => by rw [hk]; exact hbl.2
  have LE_w6 : Hid (w3.heap.size ≤ w6.heap.size) := Nat.le_trans LE_w5.out hb.size
  have W0_w6 : Hid (IntsOn w6 (Lt w3.heap.size) X0 vs0) := W0_w5.out.mono (fun _ hk => hk) fun k hk => hb.block k (Nat.lt_of_lt_of_le hk LE_w5.out)
  have W1_w6 : Hid (IntsOn w6 (Lt w3.heap.size) X1 vs1) := W1_w5.out.mono (fun _ hk => hk) fun k hk => hb.block k (Nat.lt_of_lt_of_le hk LE_w5.out)
  have ZfA0_w6 : Hid (w4.heap.size ≤ w6.heap.size) := Nat.le_trans ZfA0_w5.out hb.size
  have XA0_w6 : Hid (IIn w6 xs0 xA0) := XA0_w5.out.next hb
  have KA0_w6 : Hid (IShape w6 fA0 xs0.length xA0) := IShape.blocks KA0_w5.out fun b hb9 => hb.block b (Nat.lt_of_lt_of_le (HF_fA0.out.2 b hb9).2 ZfA0_w5.out)
  have ZfA1_w6 : Hid (w5.heap.size ≤ w6.heap.size) := Nat.le_trans ZfA1_w5.out hb.size
  have XA1_w6 : Hid (IIn w6 xs1 xA1) := XA1_w5.out.next hb
  have KA1_w6 : Hid (IShape w6 fA1 xs1.length xA1) := IShape.blocks KA1_w5.out fun b hb9 => hb.block b (Nat.lt_of_lt_of_le (HF_fA1.out.2 b hb9).2 ZfA1_w5.out)
  have HB_w6 : Hid (Below w.heap.size w w6) := HB_w5.out.trans (hb.mono HB_w5.out.size)
  have IO0_w6 : Hid (OneRow w6 bL0 X0 gL0) := hil.1
  have IO1_w6 : Hid (OneRow w6 bL1 X1 gL1) := hil.2
  clear hb hil hbl hdj
  have t2 : (r2 != r2) = false := by simp
  obtain ⟨adL0, capL0, rfl⟩ := IO0_w6.out.form
  obtain ⟨adS0, capS0, rfl, -, -, -⟩ := id W0_w6.out
  obtain ⟨adL1, capL1, rfl⟩ := IO1_w6.out.form
  obtain ⟨adS1, capS1, rfl, -, -, -⟩ := id W1_w6.out
  go_wp2_with fail
  refine (eqInts_calls X0 _ _ _ IO0_w6.out.inn (W0_w6.out.mono (fun k hk => Nat.lt_of_lt_of_le hk LE_w6.out) fun _ _ => rfl)).mono ?_
  rintro en w7 ⟨rfl, hb⟩
  have LE_w7 : Hid (w3.heap.size ≤ w7.heap.size) := Nat.le_trans LE_w6.out hb.size
  have W0_w7 : Hid (IntsOn w7 (Lt w3.heap.size) X0 (.slice adS0 X0.length capS0)) := W0_w6.out.mono (fun _ hk => hk) fun k hk => hb.block k (Nat.lt_of_lt_of_le hk LE_w6.out)
  have W1_w7 : Hid (IntsOn w7 (Lt w3.heap.size) X1 (.slice adS1 X1.length capS1)) := W1_w6.out.mono (fun _ hk => hk) fun k hk => hb.block k (Nat.lt_of_lt_of_le hk LE_w6.out)
  have ZfA0_w7 : Hid (w4.heap.size ≤ w7.heap.size) := Nat.le_trans ZfA0_w6.out hb.size
  have XA0_w7 : Hid (IIn w7 xs0 xA0) := XA0_w6.out.next hb
  have KA0_w7 : Hid (IShape w7 fA0 xs0.length xA0) := IShape.blocks KA0_w6.out fun b hb9 => hb.block b (Nat.lt_of_lt_of_le (HF_fA0.out.2 b hb9).2 ZfA0_w6.out)
  have ZfA1_w7 : Hid (w5.heap.size ≤ w7.heap.size) := Nat.le_trans ZfA1_w6.out hb.size
  have XA1_w7 : Hid (IIn w7 xs1 xA1) := XA1_w6.out.next hb
  have KA1_w7 : Hid (IShape w7 fA1 xs1.length xA1) := IShape.blocks KA1_w6.out fun b hb9 => hb.block b (Nat.lt_of_lt_of_le (HF_fA1.out.2 b hb9).2 ZfA1_w6.out)
  have IO0_w7 : Hid (OneRow w7 bL0 X0 (.slice adL0 X0.length capL0)) := OneRow.next IO0_w6.out hb
  have IO1_w7 : Hid (OneRow w7 bL1 X1 (.slice adL1 X1.length capL1)) := OneRow.next IO1_w6.out hb
  have HB_w7 : Hid (Below w.heap.size w w7) := HB_w6.out.trans (hb.mono HB_w6.out.size)
  clear hb
  go_wp2_with fail
  refine (eqInts_calls X1 _ _ _ IO1_w7.out.inn (W1_w7.out.mono (fun k hk => Nat.lt_of_lt_of_le hk LE_w7.out) fun _ _ => rfl)).mono ?_
  rintro en w8 ⟨rfl, hb⟩
  have LE_w8 : Hid (w3.heap.size ≤ w8.heap.size) := Nat.le_trans LE_w7.out hb.size
  have W0_w8 : Hid (IntsOn w8 (Lt w3.heap.size) X0 (.slice adS0 X0.length capS0)) := W0_w7.out.mono (fun _ hk => hk) fun k hk => hb.block k (Nat.lt_of_lt_of_le hk LE_w7.out)
  have W1_w8 : Hid (IntsOn w8 (Lt w3.heap.size) X1 (.slice adS1 X1.length capS1)) := W1_w7.out.mono (fun _ hk => hk) fun k hk => hb.block k (Nat.lt_of_lt_of_le hk LE_w7.out)
  have ZfA0_w8 : Hid (w4.heap.size ≤ w8.heap.size) := Nat.le_trans ZfA0_w7.out hb.size
  have XA0_w8 : Hid (IIn w8 xs0 xA0) := XA0_w7.out.next hb
  have KA0_w8 : Hid (IShape w8 fA0 xs0.length xA0) := IShape.blocks KA0_w7.out fun b hb9 => hb.block b (Nat.lt_of_lt_of_le (HF_fA0.out.2 b hb9).2 ZfA0_w7.out)
  have ZfA1_w8 : Hid (w5.heap.size ≤ w8.heap.size) := Nat.le_trans ZfA1_w7.out hb.size
  have XA1_w8 : Hid (IIn w8 xs1 xA1) := XA1_w7.out.next hb
  have KA1_w8 : Hid (IShape w8 fA1 xs1.length xA1) := IShape.blocks KA1_w7.out fun b hb9 => hb.block b (Nat.lt_of_lt_of_le (HF_fA1.out.2 b hb9).2 ZfA1_w7.out)
  have IO0_w8 : Hid (OneRow w8 bL0 X0 (.slice adL0 X0.length capL0)) := OneRow.next IO0_w7.out hb
  have IO1_w8 : Hid (OneRow w8 bL1 X1 (.slice adL1 X1.length capL1)) := OneRow.next IO1_w7.out hb
  have HB_w8 : Hid (Below w.heap.size w w8) := HB_w7.out.trans (hb.mono HB_w7.out.size)
  clear hb
  go_wp2_with fail
  refine (toInts_calls xs0 (.slice ada0 xs0.length capa0) _ (HA0.out.next HB_w8.out) HL0.out).mono ?_
  rintro en w9 ⟨yA0, rfl, hvyA0, hbyA0⟩
  have LE_w9 : Hid (w3.heap.size ≤ w9.heap.size) := Nat.le_trans LE_w8.out hbyA0.size
  have W0_w9 : Hid (IntsOn w9 (Lt w3.heap.size) X0 (.slice adS0 X0.length capS0)) := W0_w8.out.mono (fun _ hk => hk) fun k hk => hbyA0.block k (Nat.lt_of_lt_of_le hk LE_w8.out)
  have W1_w9 : Hid (IntsOn w9 (Lt w3.heap.size) X1 (.slice adS1 X1.length capS1)) := W1_w8.out.mono (fun _ hk => hk) fun k hk => hbyA0.block k (Nat.lt_of_lt_of_le hk LE_w8.out)
  have ZfA0_w9 : Hid (w4.heap.size ≤ w9.heap.size) := Nat.le_trans ZfA0_w8.out hbyA0.size
  have XA0_w9 : Hid (IIn w9 xs0 xA0) := XA0_w8.out.next hbyA0
  have KA0_w9 : Hid (IShape w9 fA0 xs0.length xA0) := IShape.blocks KA0_w8.out fun b hb9 => hbyA0.block b (Nat.lt_of_lt_of_le (HF_fA0.out.2 b hb9).2 ZfA0_w8.out)
  have ZfA1_w9 : Hid (w5.heap.size ≤ w9.heap.size) := Nat.le_trans ZfA1_w8.out hbyA0.size
  have XA1_w9 : Hid (IIn w9 xs1 xA1) := XA1_w8.out.next hbyA0
  have KA1_w9 : Hid (IShape w9 fA1 xs1.length xA1) := IShape.blocks KA1_w8.out fun b hb9 => hbyA0.block b (Nat.lt_of_lt_of_le (HF_fA1.out.2 b hb9).2 ZfA1_w8.out)
  have IO0_w9 : Hid (OneRow w9 bL0 X0 (.slice adL0 X0.length capL0)) := OneRow.next IO0_w8.out hbyA0
  have IO1_w9 : Hid (OneRow w9 bL1 X1 (.slice adL1 X1.length capL1)) := OneRow.next IO1_w8.out hbyA0
  have HB_w9 : Hid (Below w.heap.size w w9) := HB_w8.out.trans (hbyA0.mono HB_w8.out.size)
  have HY : Hid (IIn w9 xs0 yA0) := hvyA0.inn
  clear hvyA0 hbyA0
  go_wp2_with fail
  refine (eqInts_calls xs0 xA0 yA0 _ XA0_w9.out HY.out).mono ?_
  rintro en w10 ⟨rfl, hb⟩
  clear HY
  have LE_w10 : Hid (w3.heap.size ≤ w10.heap.size) := Nat.le_trans LE_w9.out hb.size
  have W0_w10 : Hid (IntsOn w10 (Lt w3.heap.size) X0 (.slice adS0 X0.length capS0)) := W0_w9.out.mono (fun _ hk => hk) fun k hk => hb.block k (Nat.lt_of_lt_of_le hk LE_w9.out)
  have W1_w10 : Hid (IntsOn w10 (Lt w3.heap.size) X1 (.slice adS1 X1.length capS1)) := W1_w9.out.mono (fun _ hk => hk) fun k hk => hb.block k (Nat.lt_of_lt_of_le hk LE_w9.out)
  have ZfA0_w10 : Hid (w4.heap.size ≤ w10.heap.size) := Nat.le_trans ZfA0_w9.out hb.size
  have XA0_w10 : Hid (IIn w10 xs0 xA0) := XA0_w9.out.next hb
  have KA0_w10 : Hid (IShape w10 fA0 xs0.length xA0) := IShape.blocks KA0_w9.out fun b hb9 => hb.block b (Nat.lt_of_lt_of_le (HF_fA0.out.2 b hb9).2 ZfA0_w9.out)
  have ZfA1_w10 : Hid (w5.heap.size ≤ w10.heap.size) := Nat.le_trans ZfA1_w9.out hb.size
  have XA1_w10 : Hid (IIn w10 xs1 xA1) := XA1_w9.out.next hb
  have KA1_w10 : Hid (IShape w10 fA1 xs1.length xA1) := IShape.blocks KA1_w9.out fun b hb9 => hb.block b (Nat.lt_of_lt_of_le (HF_fA1.out.2 b hb9).2 ZfA1_w9.out)
  have IO0_w10 : Hid (OneRow w10 bL0 X0 (.slice adL0 X0.length capL0)) := OneRow.next IO0_w9.out hb
  have IO1_w10 : Hid (OneRow w10 bL1 X1 (.slice adL1 X1.length capL1)) := OneRow.next IO1_w9.out hb
  have HB_w10 : Hid (Below w.heap.size w w10) := HB_w9.out.trans (hb.mono HB_w9.out.size)
  clear hb
  go_wp2_with fail
  refine (toInts_calls xs1 (.slice ada1 xs1.length capa1) _ (HA1.out.next HB_w10.out) HL1.out).mono ?_
  rintro en w11 ⟨yA1, rfl, hvyA1, hbyA1⟩
  have LE_w11 : Hid (w3.heap.size ≤ w11.heap.size) := Nat.le_trans LE_w10.out hbyA1.size
  have W0_w11 : Hid (IntsOn w11 (Lt w3.heap.size) X0 (.slice adS0 X0.length capS0)) := W0_w10.out.mono (fun _ hk => hk) fun k hk => hbyA1.block k (Nat.lt_of_lt_of_le hk LE_w10.out)
  have W1_w11 : Hid (IntsOn w11 (Lt w3.heap.size) X1 (.slice adS1 X1.length capS1)) := W1_w10.out.mono (fun _ hk => hk) fun k hk => hbyA1.block k (Nat.lt_of_lt_of_le hk LE_w10.out)
  have ZfA0_w11 : Hid (w4.heap.size ≤ w11.heap.size) := Nat.le_trans ZfA0_w10.out hbyA1.size
  have XA0_w11 : Hid (IIn w11 xs0 xA0) := XA0_w10.out.next hbyA1
  have KA0_w11 : Hid (IShape w11 fA0 xs0.length xA0) := IShape.blocks KA0_w10.out fun b hb9 => hbyA1.block b (Nat.lt_of_lt_of_le (HF_fA0.out.2 b hb9).2 ZfA0_w10.out)
  have ZfA1_w11 : Hid (w5.heap.size ≤ w11.heap.size) := Nat.le_trans ZfA1_w10.out hbyA1.size
  have XA1_w11 : Hid (IIn w11 xs1 xA1) := XA1_w10.out.next hbyA1
  have KA1_w11 : Hid (IShape w11 fA1 xs1.length xA1) := IShape.blocks KA1_w10.out fun b hb9 => hbyA1.block b (Nat.lt_of_lt_of_le (HF_fA1.out.2 b hb9).2 ZfA1_w10.out)
  have IO0_w11 : Hid (OneRow w11 bL0 X0 (.slice adL0 X0.length capL0)) := OneRow.next IO0_w10.out hbyA1
  have IO1_w11 : Hid (OneRow w11 bL1 X1 (.slice adL1 X1.length capL1)) := OneRow.next IO1_w10.out hbyA1
  have HB_w11 : Hid (Below w.heap.size w w11) := HB_w10.out.trans (hbyA1.mono HB_w10.out.size)
  have HY : Hid (IIn w11 xs1 yA1) := hvyA1.inn
  clear hvyA1 hbyA1
  go_wp2_with fail
  refine (eqInts_calls xs1 xA1 yA1 _ XA1_w11.out HY.out).mono ?_
  rintro en w12 ⟨rfl, hb⟩
  clear HY
  have LE_w12 : Hid (w3.heap.size ≤ w12.heap.size) := Nat.le_trans LE_w11.out hb.size
  have W0_w12 : Hid (IntsOn w12 (Lt w3.heap.size) X0 (.slice adS0 X0.length capS0)) := W0_w11.out.mono (fun _ hk => hk) fun k hk => hb.block k (Nat.lt_of_lt_of_le hk LE_w11.out)
  have W1_w12 : Hid (IntsOn w12 (Lt w3.heap.size) X1 (.slice adS1 X1.length capS1)) := W1_w11.out.mono (fun _ hk => hk) fun k hk => hb.block k (Nat.lt_of_lt_of_le hk LE_w11.out)
  have ZfA0_w12 : Hid (w4.heap.size ≤ w12.heap.size) := Nat.le_trans ZfA0_w11.out hb.size
  have XA0_w12 : Hid (IIn w12 xs0 xA0) := XA0_w11.out.next hb
  have KA0_w12 : Hid (IShape w12 fA0 xs0.length xA0) := IShape.blocks KA0_w11.out fun b hb9 => hb.block b (Nat.lt_of_lt_of_le (HF_fA0.out.2 b hb9).2 ZfA0_w11.out)
  have ZfA1_w12 : Hid (w5.heap.size ≤ w12.heap.size) := Nat.le_trans ZfA1_w11.out hb.size
  have XA1_w12 : Hid (IIn w12 xs1 xA1) := XA1_w11.out.next hb
  have KA1_w12 : Hid (IShape w12 fA1 xs1.length xA1) := IShape.blocks KA1_w11.out fun b hb9 => hb.block b (Nat.lt_of_lt_of_le (HF_fA1.out.2 b hb9).2 ZfA1_w11.out)
  have IO0_w12 : Hid (OneRow w12 bL0 X0 (.slice adL0 X0.length capL0)) := OneRow.next IO0_w11.out hb
  have IO1_w12 : Hid (OneRow w12 bL1 X1 (.slice adL1 X1.length capL1)) := OneRow.next IO1_w11.out hb
  have HB_w12 : Hid (Below w.heap.size w w12) := HB_w11.out.trans (hb.mono HB_w11.out.size)
  clear hb
  -- the arguments are marked
  go_wp2_with fail
  refine (markI_calls xs0.length fA0 xA0 1 w12 KA0_w12.out (by omega) (by have := HL0.out; omega)).mono ?_
  rintro en w13 ⟨rfl, hk9⟩
  have hb := hk9.but
  clear hk9
  have LE_w13 : Hid (w3.heap.size ≤ w13.heap.size) := Nat.le_trans LE_w12.out hb.size
  have W0_w13 : Hid (IntsOn w13 (Lt w3.heap.size) X0 (.slice adS0 X0.length capS0)) := W0_w12.out.mono (fun _ hk => hk) fun k (hk : k < _) => hb.block k (Nat.lt_of_lt_of_le hk LE_w12.out) (fun h => by have := (HF_fA0.out.2 _ h); have := S0.out; have := S1.out; have := S2.out; have := SR.out; omega)
  have W1_w13 : Hid (IntsOn w13 (Lt w3.heap.size) X1 (.slice adS1 X1.length capS1)) := W1_w12.out.mono (fun _ hk => hk) fun k (hk : k < _) => hb.block k (Nat.lt_of_lt_of_le hk LE_w12.out) (fun h => by have := (HF_fA0.out.2 _ h); have := S0.out; have := S1.out; have := S2.out; have := SR.out; omega)
  have ZfA1_w13 : Hid (w5.heap.size ≤ w13.heap.size) := Nat.le_trans ZfA1_w12.out hb.size
  have KA1_w13 : Hid (IShape w13 fA1 xs1.length xA1) := IShape.blocks KA1_w12.out fun b hb9 => hb.block b (Nat.lt_of_lt_of_le (HF_fA1.out.2 b hb9).2 ZfA1_w12.out) (fun h => by have := (HF_fA0.out.2 _ h); have := (HF_fA1.out.2 _ hb9); have := S0.out; have := S1.out; have := S2.out; have := SR.out; omega)
  have IO0_w13 : Hid (OneRow w13 bL0 X0 (.slice adL0 X0.length capL0)) := OneRow.keep IO0_w12.out fun b hb9 hz9 => hb.block b hz9 (fun h => by have := (HF_fA0.out.2 _ h); have := (HF_bL0.out b hb9); have := S0.out; have := S1.out; have := S2.out; have := SR.out; omega)
  have IO1_w13 : Hid (OneRow w13 bL1 X1 (.slice adL1 X1.length capL1)) := OneRow.keep IO1_w12.out fun b hb9 hz9 => hb.block b hz9 (fun h => by have := (HF_fA0.out.2 _ h); have := (HF_bL1.out b hb9); have := S0.out; have := S1.out; have := S2.out; have := SR.out; omega)
  have HB_w13 : Hid (Below w.heap.size w w13) := HB_w12.out.trans (hb.below (fun k h => by have := (HF_fA0.out.2 _ h); have := S0.out; have := S1.out; have := S2.out; have := SR.out; omega) HB_w12.out.size)
  clear hb
  obtain ⟨kA0, hkA0⟩ : ∃ kA0 : Int, kA0 = 1 + (xs0.length : Int) := ⟨_, rfl⟩
  rw [← hkA0]
  have hkA00 : 0 ≤ kA0 ∧ kA0 ≤ 9437184 := by have := HL0.out; omega
  clear hkA0
  go_wp2_with fail
  refine (markI_calls xs1.length fA1 xA1 kA0 w13 KA1_w13.out (by omega) (by have := HL1.out; omega)).mono ?_
  rintro en w14 ⟨rfl, hk9⟩
  have hb := hk9.but
  clear hk9
  have LE_w14 : Hid (w3.heap.size ≤ w14.heap.size) := Nat.le_trans LE_w13.out hb.size
  have W0_w14 : Hid (IntsOn w14 (Lt w3.heap.size) X0 (.slice adS0 X0.length capS0)) := W0_w13.out.mono (fun _ hk => hk) fun k (hk : k < _) => hb.block k (Nat.lt_of_lt_of_le hk LE_w13.out) (fun h => by have := (HF_fA1.out.2 _ h); have := S0.out; have := S1.out; have := S2.out; have := SR.out; omega)
  have W1_w14 : Hid (IntsOn w14 (Lt w3.heap.size) X1 (.slice adS1 X1.length capS1)) := W1_w13.out.mono (fun _ hk => hk) fun k (hk : k < _) => hb.block k (Nat.lt_of_lt_of_le hk LE_w13.out) (fun h => by have := (HF_fA1.out.2 _ h); have := S0.out; have := S1.out; have := S2.out; have := SR.out; omega)
  have IO0_w14 : Hid (OneRow w14 bL0 X0 (.slice adL0 X0.length capL0)) := OneRow.keep IO0_w13.out fun b hb9 hz9 => hb.block b hz9 (fun h => by have := (HF_fA1.out.2 _ h); have := (HF_bL0.out b hb9); have := S0.out; have := S1.out; have := S2.out; have := SR.out; omega)
  have IO1_w14 : Hid (OneRow w14 bL1 X1 (.slice adL1 X1.length capL1)) := OneRow.keep IO1_w13.out fun b hb9 hz9 => hb.block b hz9 (fun h => by have := (HF_fA1.out.2 _ h); have := (HF_bL1.out b hb9); have := S0.out; have := S1.out; have := S2.out; have := SR.out; omega)
  have HB_w14 : Hid (Below w.heap.size w w14) := HB_w13.out.trans (hb.below (fun k h => by have := (HF_fA1.out.2 _ h); have := S0.out; have := S1.out; have := S2.out; have := SR.out; omega) HB_w13.out.size)
  clear hb
  obtain ⟨kA1, hkA1⟩ : ∃ kA1 : Int, kA1 = kA0 + (xs1.length : Int) := ⟨_, rfl⟩
  rw [← hkA1]
  have hkA10 : 0 ≤ kA1 ∧ kA1 ≤ 10485760 := by have := HL1.out; omega
  clear hkA1
  go_wp2_with fail
  refine (eqInts_calls X0 _ _ _ IO0_w14.out.inn (W0_w14.out.mono (fun k hk => Nat.lt_of_lt_of_le hk LE_w14.out) fun _ _ => rfl)).mono ?_
  rintro en w15 ⟨rfl, hb⟩
  have LE_w15 : Hid (w3.heap.size ≤ w15.heap.size) := Nat.le_trans LE_w14.out hb.size
  have W0_w15 : Hid (IntsOn w15 (Lt w3.heap.size) X0 (.slice adS0 X0.length capS0)) := W0_w14.out.mono (fun _ hk => hk) fun k hk => hb.block k (Nat.lt_of_lt_of_le hk LE_w14.out)
  have W1_w15 : Hid (IntsOn w15 (Lt w3.heap.size) X1 (.slice adS1 X1.length capS1)) := W1_w14.out.mono (fun _ hk => hk) fun k hk => hb.block k (Nat.lt_of_lt_of_le hk LE_w14.out)
  have IO0_w15 : Hid (OneRow w15 bL0 X0 (.slice adL0 X0.length capL0)) := OneRow.next IO0_w14.out hb
  have IO1_w15 : Hid (OneRow w15 bL1 X1 (.slice adL1 X1.length capL1)) := OneRow.next IO1_w14.out hb
  have HB_w15 : Hid (Below w.heap.size w w15) := HB_w14.out.trans (hb.mono HB_w14.out.size)
  clear hb
  go_wp2_with fail
  refine (eqInts_calls X1 _ _ _ IO1_w15.out.inn (W1_w15.out.mono (fun k hk => Nat.lt_of_lt_of_le hk LE_w15.out) fun _ _ => rfl)).mono ?_
  rintro en w16 ⟨rfl, hb⟩
  have LE_w16 : Hid (w3.heap.size ≤ w16.heap.size) := Nat.le_trans LE_w15.out hb.size
  have W0_w16 : Hid (IntsOn w16 (Lt w3.heap.size) X0 (.slice adS0 X0.length capS0)) := W0_w15.out.mono (fun _ hk => hk) fun k hk => hb.block k (Nat.lt_of_lt_of_le hk LE_w15.out)
  have W1_w16 : Hid (IntsOn w16 (Lt w3.heap.size) X1 (.slice adS1 X1.length capS1)) := W1_w15.out.mono (fun _ hk => hk) fun k hk => hb.block k (Nat.lt_of_lt_of_le hk LE_w15.out)
  have IO0_w16 : Hid (OneRow w16 bL0 X0 (.slice adL0 X0.length capL0)) := OneRow.next IO0_w15.out hb
  have IO1_w16 : Hid (OneRow w16 bL1 X1 (.slice adL1 X1.length capL1)) := OneRow.next IO1_w15.out hb
  have HB_w16 : Hid (Below w.heap.size w w16) := HB_w15.out.trans (hb.mono HB_w15.out.size)
  clear hb
  go_wp2_with fail
  -- the answer is marked
  refine (markOne_calls X0 bL0 _ 1 w16 IO0_w16.out (by omega) (by have := HXS0.out; omega)).mono ?_
  rintro en w17 ⟨rfl, hk9, hb⟩
  have LE_w17 : Hid (w3.heap.size ≤ w17.heap.size) := Nat.le_trans LE_w16.out hb.size
  have W0_w17 : Hid (IntsOn w17 (Lt w3.heap.size) X0 (.slice adS0 X0.length capS0)) := W0_w16.out.mono (fun _ hk => hk) fun k (hk : k < _) => hb.block k (Nat.lt_of_lt_of_le hk LE_w16.out) (fun h => by have := HF_bL0.out k (List.mem_singleton.1 h); have := S0.out; have := S1.out; have := S2.out; have := SR.out; omega)
  have W1_w17 : Hid (IntsOn w17 (Lt w3.heap.size) X1 (.slice adS1 X1.length capS1)) := W1_w16.out.mono (fun _ hk => hk) fun k (hk : k < _) => hb.block k (Nat.lt_of_lt_of_le hk LE_w16.out) (fun h => by have := HF_bL0.out k (List.mem_singleton.1 h); have := S0.out; have := S1.out; have := S2.out; have := SR.out; omega)
  have IO1_w17 : Hid (OneRow w17 bL1 X1 (.slice adL1 X1.length capL1)) := OneRow.keep IO1_w16.out fun b hb9 hz9 => hb.block b hz9 (fun h => HDJ.out ((List.mem_singleton.1 h).symm.trans hb9))
  have HB_w17 : Hid (Below w.heap.size w w17) := HB_w16.out.trans (hb.below (fun k h => by have := HF_bL0.out k (List.mem_singleton.1 h); have := S0.out; have := S1.out; have := S2.out; have := SR.out; omega) HB_w16.out.size)
  have IL0_w17 : Hid (OneRow w17 bL0 (upFrom 1 X0.length) (.slice adL0 X0.length capL0)) := hk9
  clear hb hk9
  obtain ⟨mL0, hmL0⟩ : ∃ mL0 : Int, mL0 = 1 + (X0.length : Int) := ⟨_, rfl⟩
  have HML0 := mkHid hmL0
  have hmL00 : 0 ≤ mL0 ∧ mL0 ≤ 4001 := by have := HXS0.out; omega
  rw [← hmL0]
  clear hmL0
  go_wp2_with fail
  refine (markOne_calls X1 bL1 _ mL0 w17 IO1_w17.out (by omega) (by have := HXS1.out; omega)).mono ?_
  rintro en w18 ⟨rfl, hk9, hb⟩
  have LE_w18 : Hid (w3.heap.size ≤ w18.heap.size) := Nat.le_trans LE_w17.out hb.size
  have W0_w18 : Hid (IntsOn w18 (Lt w3.heap.size) X0 (.slice adS0 X0.length capS0)) := W0_w17.out.mono (fun _ hk => hk) fun k (hk : k < _) => hb.block k (Nat.lt_of_lt_of_le hk LE_w17.out) (fun h => by have := HF_bL1.out k (List.mem_singleton.1 h); have := S0.out; have := S1.out; have := S2.out; have := SR.out; omega)
  have W1_w18 : Hid (IntsOn w18 (Lt w3.heap.size) X1 (.slice adS1 X1.length capS1)) := W1_w17.out.mono (fun _ hk => hk) fun k (hk : k < _) => hb.block k (Nat.lt_of_lt_of_le hk LE_w17.out) (fun h => by have := HF_bL1.out k (List.mem_singleton.1 h); have := S0.out; have := S1.out; have := S2.out; have := SR.out; omega)
  have IL0_w18 : Hid (OneRow w18 bL0 (upFrom 1 X0.length) (.slice adL0 X0.length capL0)) := OneRow.keep IL0_w17.out fun b hb9 hz9 => hb.block b hz9 (fun h => HDJ.out (hb9.symm.trans (List.mem_singleton.1 h)))
  have HB_w18 : Hid (Below w.heap.size w w18) := HB_w17.out.trans (hb.below (fun k h => by have := HF_bL1.out k (List.mem_singleton.1 h); have := S0.out; have := S1.out; have := S2.out; have := SR.out; omega) HB_w17.out.size)
  have IL1_w18 : Hid (OneRow w18 bL1 (upFrom mL0 X1.length) (.slice adL1 X1.length capL1)) := hk9
  clear hb hk9
  obtain ⟨mL1, hmL1⟩ : ∃ mL1 : Int, mL1 = mL0 + (X1.length : Int) := ⟨_, rfl⟩
  have HML1 := mkHid hmL1
  have hmL10 : 0 ≤ mL1 ∧ mL1 ≤ 8001 := by have := HXS1.out; omega
  rw [← hmL1]
  clear hmL1
  go_wp2_with fail
  refine (heldInts_calls X0.length _ 1 w18 IL0_w18.out.inn (by omega) (by have := HXS0.out; omega)).mono ?_
  rintro en w19 ⟨rfl, hb⟩
  rw [← HML0.out]
  have LE_w19 : Hid (w3.heap.size ≤ w19.heap.size) := Nat.le_trans LE_w18.out hb.size
  have W0_w19 : Hid (IntsOn w19 (Lt w3.heap.size) X0 (.slice adS0 X0.length capS0)) := W0_w18.out.mono (fun _ hk => hk) fun k hk => hb.block k (Nat.lt_of_lt_of_le hk LE_w18.out)
  have W1_w19 : Hid (IntsOn w19 (Lt w3.heap.size) X1 (.slice adS1 X1.length capS1)) := W1_w18.out.mono (fun _ hk => hk) fun k hk => hb.block k (Nat.lt_of_lt_of_le hk LE_w18.out)
  have IL0_w19 : Hid (OneRow w19 bL0 (upFrom 1 X0.length) (.slice adL0 X0.length capL0)) := OneRow.next IL0_w18.out hb
  have IL1_w19 : Hid (OneRow w19 bL1 (upFrom mL0 X1.length) (.slice adL1 X1.length capL1)) := OneRow.next IL1_w18.out hb
  have HB_w19 : Hid (Below w.heap.size w w19) := HB_w18.out.trans (hb.mono HB_w18.out.size)
  clear hb
  go_wp2_with fail
  refine (heldInts_calls X1.length _ mL0 w19 IL1_w19.out.inn (by omega) (by have := HXS1.out; omega)).mono ?_
  rintro en w20 ⟨rfl, hb⟩
  rw [← HML1.out]
  have LE_w20 : Hid (w3.heap.size ≤ w20.heap.size) := Nat.le_trans LE_w19.out hb.size
  have W0_w20 : Hid (IntsOn w20 (Lt w3.heap.size) X0 (.slice adS0 X0.length capS0)) := W0_w19.out.mono (fun _ hk => hk) fun k hk => hb.block k (Nat.lt_of_lt_of_le hk LE_w19.out)
  have W1_w20 : Hid (IntsOn w20 (Lt w3.heap.size) X1 (.slice adS1 X1.length capS1)) := W1_w19.out.mono (fun _ hk => hk) fun k hk => hb.block k (Nat.lt_of_lt_of_le hk LE_w19.out)
  have IL0_w20 : Hid (OneRow w20 bL0 (upFrom 1 X0.length) (.slice adL0 X0.length capL0)) := OneRow.next IL0_w19.out hb
  have IL1_w20 : Hid (OneRow w20 bL1 (upFrom mL0 X1.length) (.slice adL1 X1.length capL1)) := OneRow.next IL1_w19.out hb
  have HB_w20 : Hid (Below w.heap.size w w20) := HB_w19.out.trans (hb.mono HB_w19.out.size)
  clear hb
  have tm : (mL1 != mL1) = false := by simp
  go_wp2_with fail
  -- called once more
  refine (toInts_calls xs0 (.slice ada0 xs0.length capa0) w20 (HA0.out.next HB_w20.out) HL0.out).mono ?_
  rintro en w21 ⟨hA0, rfl, hvhA0, hbhA0⟩
  have HXw21 : Hid (Below w20.heap.size w20 w21) := hbhA0
  have HhA0_w21 : Hid (IIn w21 xs0 hA0) := hvhA0.inn
  clear hvhA0 hbhA0
  go_wp2_with fail
  refine (toInts_calls xs1 (.slice ada1 xs1.length capa1) w21 (HA1.out.next (HB_w20.out.trans (HXw21.out.mono HB_w20.out.size))) HL1.out).mono ?_
  rintro en w22 ⟨hA1, rfl, hvhA1, hbhA1⟩
  have HXw22 : Hid (Below w20.heap.size w20 w22) := HXw21.out.trans (hbhA1.mono HXw21.out.size)
  have HhA1_w22 : Hid (IIn w22 xs1 hA1) := hvhA1.inn
  have HhA0_w22 : Hid (IIn w22 xs0 hA0) := HhA0_w21.out.next hbhA1
  clear hvhA1 hbhA1
  go_wp2_with fail
  refine (HSI.out hA0 hA1 w22 HhA0_w22.out HhA1_w22.out).mono ?_
  rintro en w23 ⟨vh0, vh1, rfl, hres, hbr⟩
  have HXw23 : Hid (Below w20.heap.size w20 w23) := HXw22.out.trans (hbr.mono HXw22.out.size)
  have HRh := mkHid hres
  clear hres hbr
  have LE_w23 : Hid (w3.heap.size ≤ w23.heap.size) := Nat.le_trans LE_w20.out HXw23.out.size
  have W0_w23 : Hid (IntsOn w23 (Lt w3.heap.size) X0 (.slice adS0 X0.length capS0)) := W0_w20.out.mono (fun _ hk => hk) fun k hk => HXw23.out.block k (Nat.lt_of_lt_of_le hk LE_w20.out)
  have W1_w23 : Hid (IntsOn w23 (Lt w3.heap.size) X1 (.slice adS1 X1.length capS1)) := W1_w20.out.mono (fun _ hk => hk) fun k hk => HXw23.out.block k (Nat.lt_of_lt_of_le hk LE_w20.out)
  have IL0_w23 : Hid (OneRow w23 bL0 (upFrom 1 X0.length) (.slice adL0 X0.length capL0)) := OneRow.next IL0_w20.out HXw23.out
  have IL1_w23 : Hid (OneRow w23 bL1 (upFrom mL0 X1.length) (.slice adL1 X1.length capL1)) := OneRow.next IL1_w20.out HXw23.out
  have HB_w23 : Hid (Below w.heap.size w w23) := HB_w20.out.trans (HXw23.out.mono HB_w20.out.size)
  obtain ⟨bH0, bH1, hih, -, -⟩ := HRh.out
  have HIH0 := mkHid hih.1
  have HIH1 := mkHid hih.2
  clear hih
  obtain ⟨adH0, capH0, rfl⟩ := HIH0.out.form
  obtain ⟨adH1, capH1, rfl⟩ := HIH1.out.form
  go_wp2_with fail
  refine (eqInts_calls X0 _ _ _ HIH0.out.inn (W0_w23.out.mono (fun k hk => Nat.lt_of_lt_of_le hk LE_w23.out) fun _ _ => rfl)).mono ?_
  rintro en w24 ⟨rfl, hb⟩
  have HIH1 := mkHid (OneRow.next HIH1.out hb)
  have LE_w24 : Hid (w3.heap.size ≤ w24.heap.size) := Nat.le_trans LE_w23.out hb.size
  have W0_w24 : Hid (IntsOn w24 (Lt w3.heap.size) X0 (.slice adS0 X0.length capS0)) := W0_w23.out.mono (fun _ hk => hk) fun k hk => hb.block k (Nat.lt_of_lt_of_le hk LE_w23.out)
  have W1_w24 : Hid (IntsOn w24 (Lt w3.heap.size) X1 (.slice adS1 X1.length capS1)) := W1_w23.out.mono (fun _ hk => hk) fun k hk => hb.block k (Nat.lt_of_lt_of_le hk LE_w23.out)
  have IL0_w24 : Hid (OneRow w24 bL0 (upFrom 1 X0.length) (.slice adL0 X0.length capL0)) := OneRow.next IL0_w23.out hb
  have IL1_w24 : Hid (OneRow w24 bL1 (upFrom mL0 X1.length) (.slice adL1 X1.length capL1)) := OneRow.next IL1_w23.out hb
  have HB_w24 : Hid (Below w.heap.size w w24) := HB_w23.out.trans (hb.mono HB_w23.out.size)
  clear hb
  go_wp2_with fail
  refine (eqInts_calls X1 _ _ _ HIH1.out.inn (W1_w24.out.mono (fun k hk => Nat.lt_of_lt_of_le hk LE_w24.out) fun _ _ => rfl)).mono ?_
  rintro en w25 ⟨rfl, hb⟩
  have LE_w25 : Hid (w3.heap.size ≤ w25.heap.size) := Nat.le_trans LE_w24.out hb.size
  have W0_w25 : Hid (IntsOn w25 (Lt w3.heap.size) X0 (.slice adS0 X0.length capS0)) := W0_w24.out.mono (fun _ hk => hk) fun k hk => hb.block k (Nat.lt_of_lt_of_le hk LE_w24.out)
  have W1_w25 : Hid (IntsOn w25 (Lt w3.heap.size) X1 (.slice adS1 X1.length capS1)) := W1_w24.out.mono (fun _ hk => hk) fun k hk => hb.block k (Nat.lt_of_lt_of_le hk LE_w24.out)
  have IL0_w25 : Hid (OneRow w25 bL0 (upFrom 1 X0.length) (.slice adL0 X0.length capL0)) := OneRow.next IL0_w24.out hb
  have IL1_w25 : Hid (OneRow w25 bL1 (upFrom mL0 X1.length) (.slice adL1 X1.length capL1)) := OneRow.next IL1_w24.out hb
  have HB_w25 : Hid (Below w.heap.size w w25) := HB_w24.out.trans (hb.mono HB_w24.out.size)
  clear hb
  go_wp2_with fail
  refine (heldInts_calls X0.length _ 1 w25 IL0_w25.out.inn (by omega) (by have := HXS0.out; omega)).mono ?_
  rintro en w26 ⟨rfl, hb⟩
  rw [← HML0.out]
  have IL0_w26 : Hid (OneRow w26 bL0 (upFrom 1 X0.length) (.slice adL0 X0.length capL0)) := OneRow.next IL0_w25.out hb
  have IL1_w26 : Hid (OneRow w26 bL1 (upFrom mL0 X1.length) (.slice adL1 X1.length capL1)) := OneRow.next IL1_w25.out hb
  have HB_w26 : Hid (Below w.heap.size w w26) := HB_w25.out.trans (hb.mono HB_w25.out.size)
  clear hb
  go_wp2_with fail
  refine (heldInts_calls X1.length _ mL0 w26 IL1_w26.out.inn (by omega) (by have := HXS1.out; omega)).mono ?_
  rintro en w27 ⟨rfl, hb⟩
  rw [← HML1.out]
  have IL0_w27 : Hid (OneRow w27 bL0 (upFrom 1 X0.length) (.slice adL0 X0.length capL0)) := OneRow.next IL0_w26.out hb
  have IL1_w27 : Hid (OneRow w27 bL1 (upFrom mL0 X1.length) (.slice adL1 X1.length capL1)) := OneRow.next IL1_w26.out hb
  have HB_w27 : Hid (Below w.heap.size w w27) := HB_w26.out.trans (hb.mono HB_w26.out.size)
  clear hb
  go_wp2_with fail
  go_ret
  exact ⟨rfl, HB_w27.out⟩
end Go.Proofs.Ytiipcgnkfhjpeaa.lawExactCopyWords
