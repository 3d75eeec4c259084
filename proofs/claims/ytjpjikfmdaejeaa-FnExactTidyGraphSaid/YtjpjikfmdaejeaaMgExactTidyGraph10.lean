/-
  THE WALK OF FnExactTidyGraph.
-/
import Derived.Test.YtjpjikfmdaejeaaMgExactTidyGraph6
import Derived.Test.YtjpjikfmdaejeaaMgExactTidyGraph9
import Derived.Test.YtjpjikfmdaejeaaMgExactTidyGraph7
import Derived.Test.YtjpjikfmdaejeaaMgExactTidyGraph3
import Derived.Test.YtjpjikfmdaejeaaMgExactTidyGraph1
import Derived.Deep.RegionHeld3
namespace Go.Proofs.Ytjpjikfmdaejeaa.lawExactTidyGraph
open Go.ChangeShapes Go.WideShapes Go.ChangeAt Go.RowKit
set_option linter.unusedVariables false
set_option linter.unusedSimpArgs false


set_option maxRecDepth 100000 in
set_option maxHeartbeats 12800000 in
theorem walk (g : List Ce) (cg : Value) (xs : List Int) (ca : Value) (w : World) (hgk : CIn w g cg) (hak : IIn w xs ca) :
    Calls Try.prog 7 #[cg, ca] w fun e w' => e = .returned (.bool true) ∧ Below w.heap.size w w' := by
  have HG : Hid (CIn w g cg) := hgk
  obtain ⟨adg, capg, rfl, -, -, -⟩ := hgk
  have HA : Hid (IIn w xs ca) := hak
  obtain ⟨ada, capa, rfl, hal, ham, -⟩ := hak
  unfold maxLen at ham
  obtain ⟨G, hG⟩ : ∃ G : List Ce, G = (tidyO g xs).1 := ⟨_, rfl⟩
  obtain ⟨X, hX⟩ : ∃ X : List Int, X = plI (tidyO g xs).2 := ⟨_, rfl⟩
  obtain ⟨r2, hr2⟩ : ∃ r2 : Bool, r2 = rootB g xs := ⟨_, rfl⟩
  have HGS : Hid (G.length + sumK G ≤ 2000) := by rw [hG]; exact (tidyO_small g xs).1
  have HXS : Hid (X.length ≤ 2000) := by rw [hX, plI_length]; exact (tidyO_small g xs).2
  have HSS : Hid (∀ (u z : Value) (W : World), CIn W g u → IIn W xs z → Calls Try.prog 25 #[u, z] W fun en w' => ∃ v t, en = .returned (.tuple #[v, t, .bool r2]) ∧ (CIn w' G v ∧ IIn w' X t) ∧ Below W.heap.size W w') := fun u z W h1 h2 => (specTidy_calls g xs u z W h1 h2).mono fun en w' h => by
    obtain ⟨v, t, e1, e2, e3, e4⟩ := h
    rw [hG, hX, hr2]
    exact ⟨v, t, e1, ⟨e2, e3⟩, e4⟩
  have HSI : Hid (∀ (u z : Value) (W : World), CIn W g u → IIn W xs z → Calls Try.prog 26 #[u, z] W fun en w' => ∃ v t, en = .returned (.tuple #[v, t, .bool r2]) ∧ GIRes G X v t W w' ∧ Below W.heap.size W w') := fun u z W h1 h2 => (implTidy_calls g xs u z W h1 h2).mono fun en w' h => by
    obtain ⟨v, t, e1, e2, e3⟩ := h
    rw [hG, hX, hr2]
    exact ⟨v, t, e1, e2, e3⟩
  clear hG hX hr2
  go_enter Try.func7, Try.ntmps7
  have HB_w : Hid (Below w.heap.size w w) := Below.refl _ _
  by_cases hlen : (1048576 : Int) < (xs.length : Int)
  · go_wp2_with fail
    go_ret
    exact ⟨rfl, HB_w.out⟩
  have HL : Hid (xs.length ≤ 1048576) := by unfold Hid; omega
  have hleft0 : (0 : Int) ≤ 1048576 ∧ (1048576 : Int) ≤ 1048576 := by omega
  have hrgC := szC_range g 1048576 (by omega)
  go_wp2_with fail
  refine (szCells_calls g (.slice adg g.length capg) _ _ (HG.out.next HB_w.out) (by omega) (by omega)).mono ?_
  rintro en w1 ⟨rfl, hb⟩
  have HB_w1 : Hid (Below w.heap.size w w1) := HB_w.out.trans (hb.mono HB_w.out.size)
  clear hb
  by_cases hnegc : szC g 1048576 < 0
  · go_wp2_with fail
    go_ret
    exact ⟨rfl, HB_w1.out⟩
  have HZG : Hid (g.length + sumK g ≤ 1048576) := by unfold szC at hnegc; unfold Hid; split at hnegc <;> omega
  generalize szC g 1048576 = leftC at *
  clear hrgC
  go_wp2_with fail
  -- the model's answer
  refine (toCells_calls g (.slice adg g.length capg) w1 (HG.out.next HB_w1.out) HZG.out).mono ?_
  rintro en w2 ⟨sC, rfl, hvsC, hbsC⟩
  have HXw2 : Hid (Below w1.heap.size w1 w2) := hbsC
  have HsC_w2 : Hid (CIn w2 g sC) := hvsC.inn
  clear hvsC hbsC
  go_wp2_with fail
  refine (toInts_calls xs (.slice ada xs.length capa) w2 (HA.out.next (HB_w1.out.trans (HXw2.out.mono HB_w1.out.size))) HL.out).mono ?_
  rintro en w3 ⟨sA, rfl, hvsA, hbsA⟩
  have HXw3 : Hid (Below w1.heap.size w1 w3) := HXw2.out.trans (hbsA.mono HXw2.out.size)
  have HsA_w3 : Hid (IIn w3 xs sA) := hvsA.inn
  have HsC_w3 : Hid (CIn w3 g sC) := HsC_w2.out.next hbsA
  clear hvsA hbsA
  go_wp2_with fail
  refine (HSS.out sC sA w3 HsC_w3.out HsA_w3.out).mono ?_
  rintro en w4 ⟨vsG, vsL, rfl, hres, hbr⟩
  have HXw4 : Hid (Below w1.heap.size w1 w4) := HXw3.out.trans (hbr.mono HXw3.out.size)
  have HRs := mkHid hres
  have HSs : Hid (w3.heap.size ≤ w4.heap.size ∧ w1.heap.size ≤ w3.heap.size) := ⟨hbr.size, HXw3.out.size⟩
  clear hres hbr
  have HB_w4 : Hid (Below w.heap.size w w4) := HB_w1.out.trans (HXw4.out.mono HB_w1.out.size)
  have S0 : Hid (w.heap.size ≤ w4.heap.size) := HB_w4.out.size
  have LE_w4 : Hid (w4.heap.size ≤ w4.heap.size) := Nat.le_refl _
  have W0_w4 : Hid (CellsOn w4 (Lt w4.heap.size) G vsG) := HRs.out.1
  have W1_w4 : Hid (IntsOn w4 (Lt w4.heap.size) X vsL) := HRs.out.2
  -- the program's arguments
  go_wp2_with fail
  refine (toCells_calls g (.slice adg g.length capg) _ (HG.out.next HB_w4.out) HZG.out).mono ?_
  rintro en w5 ⟨xC, rfl, hv, hb⟩
  obtain ⟨fC, hfC⟩ : ∃ fC, fC = List.range' w4.heap.size (w5.heap.size - w4.heap.size) := ⟨_, rfl⟩
  have S1 : Hid (w4.heap.size ≤ w5.heap.size) := hb.size
  have HF_fC : Hid (True ∧ ∀ k ∈ fC, w4.heap.size ≤ k ∧ k < w5.heap.size) := ⟨trivial, fun k hk => by rw [hfC, List.mem_range'_1] at hk; have := S1.out; omega⟩
  have LE_w5 : Hid (w4.heap.size ≤ w5.heap.size) := Nat.le_trans LE_w4.out hb.size
  have W0_w5 : Hid (CellsOn w5 (Lt w4.heap.size) G vsG) := W0_w4.out.mono (fun _ hk => hk) fun k hk => hb.block k (Nat.lt_of_lt_of_le hk LE_w4.out)
  have W1_w5 : Hid (IntsOn w5 (Lt w4.heap.size) X vsL) := W1_w4.out.mono (fun _ hk => hk) fun k hk => hb.block k (Nat.lt_of_lt_of_le hk LE_w4.out)
  have HB_w5 : Hid (Below w.heap.size w w5) := HB_w4.out.trans (hb.mono HB_w4.out.size)
  have ZfC_w5 : Hid (w5.heap.size ≤ w5.heap.size) := Nat.le_refl _
  have XC_w5 : Hid (CIn w5 g xC) := hv.inn
  have KC_w5 : Hid (CShape w5 fC (g.map (·.kids.length)) xC) := by rw [Hid, hfC]; exact CellRow.shape hv
  clear hv hb hfC
  go_wp2_with fail
  refine (toInts_calls xs (.slice ada xs.length capa) _ (HA.out.next HB_w5.out) HL.out).mono ?_
  rintro en w6 ⟨xA, rfl, hv, hb⟩
  obtain ⟨fA, hfA⟩ : ∃ fA, fA = List.range' w5.heap.size (w6.heap.size - w5.heap.size) := ⟨_, rfl⟩
  have S2 : Hid (w5.heap.size ≤ w6.heap.size) := hb.size
  have HF_fA : Hid (True ∧ ∀ k ∈ fA, w5.heap.size ≤ k ∧ k < w6.heap.size) := ⟨trivial, fun k hk => by rw [hfA, List.mem_range'_1] at hk; have := S2.out; omega⟩
  have LE_w6 : Hid (w4.heap.size ≤ w6.heap.size) := Nat.le_trans LE_w5.out hb.size
  have W0_w6 : Hid (CellsOn w6 (Lt w4.heap.size) G vsG) := W0_w5.out.mono (fun _ hk => hk) fun k hk => hb.block k (Nat.lt_of_lt_of_le hk LE_w5.out)
  have W1_w6 : Hid (IntsOn w6 (Lt w4.heap.size) X vsL) := W1_w5.out.mono (fun _ hk => hk) fun k hk => hb.block k (Nat.lt_of_lt_of_le hk LE_w5.out)
  have ZfC_w6 : Hid (w5.heap.size ≤ w6.heap.size) := Nat.le_trans ZfC_w5.out hb.size
  have XC_w6 : Hid (CIn w6 g xC) := XC_w5.out.next hb
  have KC_w6 : Hid (CShape w6 fC (g.map (·.kids.length)) xC) := CShape.blocks KC_w5.out fun b hb9 => hb.block b (Nat.lt_of_lt_of_le (HF_fC.out.2 b hb9).2 ZfC_w5.out)
  have HB_w6 : Hid (Below w.heap.size w w6) := HB_w5.out.trans (hb.mono HB_w5.out.size)
  have ZfA_w6 : Hid (w6.heap.size ≤ w6.heap.size) := Nat.le_refl _
  have XA_w6 : Hid (IIn w6 xs xA) := hv.inn
  have KA_w6 : Hid (IShape w6 fA xs.length xA) := by rw [Hid, hfA]; exact IntRow.shape hv
  clear hv hb hfA
  go_wp2_with fail
  -- the program's answer
  refine (HSI.out xC xA _ XC_w6.out XA_w6.out).mono ?_
  rintro en w7 ⟨gG, gL, rfl, hres, hb⟩
  have SR : Hid (w6.heap.size ≤ w7.heap.size) := hb.size
  obtain ⟨fG, bL, hgo, hfg, hil, hbl, hdj⟩ := hres
  have HF_fG : Hid (True ∧ ∀ k ∈ fG, w6.heap.size ≤ k ∧ k < w7.heap.size) := ⟨trivial, hfg⟩
  have HF_bL : Hid (∀ k, k = bL → w6.heap.size ≤ k) := fun k hk => by rw [hk]; exact hbl
  have HDJ : Hid (∀ k, k = bL → k ∉ fG) := fun k hk => by rw [hk]; exact hdj
  have LE_w7 : Hid (w4.heap.size ≤ w7.heap.size) := Nat.le_trans LE_w6.out hb.size
  have W0_w7 : Hid (CellsOn w7 (Lt w4.heap.size) G vsG) := W0_w6.out.mono (fun _ hk => hk) fun k hk => hb.block k (Nat.lt_of_lt_of_le hk LE_w6.out)
  have W1_w7 : Hid (IntsOn w7 (Lt w4.heap.size) X vsL) := W1_w6.out.mono (fun _ hk => hk) fun k hk => hb.block k (Nat.lt_of_lt_of_le hk LE_w6.out)
  have ZfC_w7 : Hid (w5.heap.size ≤ w7.heap.size) := Nat.le_trans ZfC_w6.out hb.size
  have XC_w7 : Hid (CIn w7 g xC) := XC_w6.out.next hb
  have KC_w7 : Hid (CShape w7 fC (g.map (·.kids.length)) xC) := CShape.blocks KC_w6.out fun b hb9 => hb.block b (Nat.lt_of_lt_of_le (HF_fC.out.2 b hb9).2 ZfC_w6.out)
  have ZfA_w7 : Hid (w6.heap.size ≤ w7.heap.size) := Nat.le_trans ZfA_w6.out hb.size
  have XA_w7 : Hid (IIn w7 xs xA) := XA_w6.out.next hb
  have KA_w7 : Hid (IShape w7 fA xs.length xA) := IShape.blocks KA_w6.out fun b hb9 => hb.block b (Nat.lt_of_lt_of_le (HF_fA.out.2 b hb9).2 ZfA_w6.out)
  have HB_w7 : Hid (Below w.heap.size w w7) := HB_w6.out.trans (hb.mono HB_w6.out.size)
  have GO_w7 : Hid (GOwn w7 fG G gG) := hgo
  have IO_w7 : Hid (OneRow w7 bL X gL) := hil
  have ZfG_w7 : Hid (w7.heap.size ≤ w7.heap.size) := Nat.le_refl _
  clear hb hgo hfg hil hbl hdj
  have t2 : (r2 != r2) = false := by simp
  obtain ⟨adL, capL, rfl⟩ := IO_w7.out.form
  obtain ⟨adSL, capSL, rfl, -, -, -⟩ := id W1_w7.out
  go_wp2_with fail
  refine (eqCells_calls G _ _ _ GO_w7.out.inn (W0_w7.out.mono (fun k hk => Nat.lt_of_lt_of_le hk LE_w7.out) fun _ _ => rfl)).mono ?_
  rintro en w8 ⟨rfl, hb⟩
  have LE_w8 : Hid (w4.heap.size ≤ w8.heap.size) := Nat.le_trans LE_w7.out hb.size
  have W0_w8 : Hid (CellsOn w8 (Lt w4.heap.size) G vsG) := W0_w7.out.mono (fun _ hk => hk) fun k hk => hb.block k (Nat.lt_of_lt_of_le hk LE_w7.out)
  have W1_w8 : Hid (IntsOn w8 (Lt w4.heap.size) X (.slice adSL X.length capSL)) := W1_w7.out.mono (fun _ hk => hk) fun k hk => hb.block k (Nat.lt_of_lt_of_le hk LE_w7.out)
  have ZfC_w8 : Hid (w5.heap.size ≤ w8.heap.size) := Nat.le_trans ZfC_w7.out hb.size
  have XC_w8 : Hid (CIn w8 g xC) := XC_w7.out.next hb
  have KC_w8 : Hid (CShape w8 fC (g.map (·.kids.length)) xC) := CShape.blocks KC_w7.out fun b hb9 => hb.block b (Nat.lt_of_lt_of_le (HF_fC.out.2 b hb9).2 ZfC_w7.out)
  have ZfA_w8 : Hid (w6.heap.size ≤ w8.heap.size) := Nat.le_trans ZfA_w7.out hb.size
  have XA_w8 : Hid (IIn w8 xs xA) := XA_w7.out.next hb
  have KA_w8 : Hid (IShape w8 fA xs.length xA) := IShape.blocks KA_w7.out fun b hb9 => hb.block b (Nat.lt_of_lt_of_le (HF_fA.out.2 b hb9).2 ZfA_w7.out)
  have GO_w8 : Hid (GOwn w8 fG G gG) := GO_w7.out.keep fun k hk _ => hb.block k (Nat.lt_of_lt_of_le (HF_fG.out.2 k hk).2 ZfG_w7.out)
  have IO_w8 : Hid (OneRow w8 bL X (.slice adL X.length capL)) := OneRow.next IO_w7.out hb
  have ZfG_w8 : Hid (w7.heap.size ≤ w8.heap.size) := Nat.le_trans ZfG_w7.out hb.size
  have HB_w8 : Hid (Below w.heap.size w w8) := HB_w7.out.trans (hb.mono HB_w7.out.size)
  clear hb
  go_wp2_with fail
  refine (eqInts_calls X _ _ _ IO_w8.out.inn (W1_w8.out.mono (fun k hk => Nat.lt_of_lt_of_le hk LE_w8.out) fun _ _ => rfl)).mono ?_
  rintro en w9 ⟨rfl, hb⟩
  have LE_w9 : Hid (w4.heap.size ≤ w9.heap.size) := Nat.le_trans LE_w8.out hb.size
  have W0_w9 : Hid (CellsOn w9 (Lt w4.heap.size) G vsG) := W0_w8.out.mono (fun _ hk => hk) fun k hk => hb.block k (Nat.lt_of_lt_of_le hk LE_w8.out)
  have W1_w9 : Hid (IntsOn w9 (Lt w4.heap.size) X (.slice adSL X.length capSL)) := W1_w8.out.mono (fun _ hk => hk) fun k hk => hb.block k (Nat.lt_of_lt_of_le hk LE_w8.out)
  have ZfC_w9 : Hid (w5.heap.size ≤ w9.heap.size) := Nat.le_trans ZfC_w8.out hb.size
  have XC_w9 : Hid (CIn w9 g xC) := XC_w8.out.next hb
  have KC_w9 : Hid (CShape w9 fC (g.map (·.kids.length)) xC) := CShape.blocks KC_w8.out fun b hb9 => hb.block b (Nat.lt_of_lt_of_le (HF_fC.out.2 b hb9).2 ZfC_w8.out)
  have ZfA_w9 : Hid (w6.heap.size ≤ w9.heap.size) := Nat.le_trans ZfA_w8.out hb.size
  have XA_w9 : Hid (IIn w9 xs xA) := XA_w8.out.next hb
  have KA_w9 : Hid (IShape w9 fA xs.length xA) := IShape.blocks KA_w8.out fun b hb9 => hb.block b (Nat.lt_of_lt_of_le (HF_fA.out.2 b hb9).2 ZfA_w8.out)
  have GO_w9 : Hid (GOwn w9 fG G gG) := GO_w8.out.keep fun k hk _ => hb.block k (Nat.lt_of_lt_of_le (HF_fG.out.2 k hk).2 ZfG_w8.out)
  have IO_w9 : Hid (OneRow w9 bL X (.slice adL X.length capL)) := OneRow.next IO_w8.out hb
  have ZfG_w9 : Hid (w7.heap.size ≤ w9.heap.size) := Nat.le_trans ZfG_w8.out hb.size
  have HB_w9 : Hid (Below w.heap.size w w9) := HB_w8.out.trans (hb.mono HB_w8.out.size)
  clear hb
  go_wp2_with fail
  refine (toCells_calls g (.slice adg g.length capg) _ (HG.out.next HB_w9.out) HZG.out).mono ?_
  rintro en w10 ⟨yC, rfl, hvyC, hbyC⟩
  have LE_w10 : Hid (w4.heap.size ≤ w10.heap.size) := Nat.le_trans LE_w9.out hbyC.size
  have W0_w10 : Hid (CellsOn w10 (Lt w4.heap.size) G vsG) := W0_w9.out.mono (fun _ hk => hk) fun k hk => hbyC.block k (Nat.lt_of_lt_of_le hk LE_w9.out)
  have W1_w10 : Hid (IntsOn w10 (Lt w4.heap.size) X (.slice adSL X.length capSL)) := W1_w9.out.mono (fun _ hk => hk) fun k hk => hbyC.block k (Nat.lt_of_lt_of_le hk LE_w9.out)
  have ZfC_w10 : Hid (w5.heap.size ≤ w10.heap.size) := Nat.le_trans ZfC_w9.out hbyC.size
  have XC_w10 : Hid (CIn w10 g xC) := XC_w9.out.next hbyC
  have KC_w10 : Hid (CShape w10 fC (g.map (·.kids.length)) xC) := CShape.blocks KC_w9.out fun b hb9 => hbyC.block b (Nat.lt_of_lt_of_le (HF_fC.out.2 b hb9).2 ZfC_w9.out)
  have ZfA_w10 : Hid (w6.heap.size ≤ w10.heap.size) := Nat.le_trans ZfA_w9.out hbyC.size
  have XA_w10 : Hid (IIn w10 xs xA) := XA_w9.out.next hbyC
  have KA_w10 : Hid (IShape w10 fA xs.length xA) := IShape.blocks KA_w9.out fun b hb9 => hbyC.block b (Nat.lt_of_lt_of_le (HF_fA.out.2 b hb9).2 ZfA_w9.out)
  have GO_w10 : Hid (GOwn w10 fG G gG) := GO_w9.out.keep fun k hk _ => hbyC.block k (Nat.lt_of_lt_of_le (HF_fG.out.2 k hk).2 ZfG_w9.out)
  have IO_w10 : Hid (OneRow w10 bL X (.slice adL X.length capL)) := OneRow.next IO_w9.out hbyC
  have ZfG_w10 : Hid (w7.heap.size ≤ w10.heap.size) := Nat.le_trans ZfG_w9.out hbyC.size
  have HB_w10 : Hid (Below w.heap.size w w10) := HB_w9.out.trans (hbyC.mono HB_w9.out.size)
  have HY : Hid (CIn w10 g yC) := hvyC.inn
  clear hvyC hbyC
  go_wp2_with fail
  refine (eqCells_calls g xC yC _ XC_w10.out HY.out).mono ?_
  rintro en w11 ⟨rfl, hb⟩
  clear HY
  have LE_w11 : Hid (w4.heap.size ≤ w11.heap.size) := Nat.le_trans LE_w10.out hb.size
  have W0_w11 : Hid (CellsOn w11 (Lt w4.heap.size) G vsG) := W0_w10.out.mono (fun _ hk => hk) fun k hk => hb.block k (Nat.lt_of_lt_of_le hk LE_w10.out)
  have W1_w11 : Hid (IntsOn w11 (Lt w4.heap.size) X (.slice adSL X.length capSL)) := W1_w10.out.mono (fun _ hk => hk) fun k hk => hb.block k (Nat.lt_of_lt_of_le hk LE_w10.out)
  have ZfC_w11 : Hid (w5.heap.size ≤ w11.heap.size) := Nat.le_trans ZfC_w10.out hb.size
  have XC_w11 : Hid (CIn w11 g xC) := XC_w10.out.next hb
  have KC_w11 : Hid (CShape w11 fC (g.map (·.kids.length)) xC) := CShape.blocks KC_w10.out fun b hb9 => hb.block b (Nat.lt_of_lt_of_le (HF_fC.out.2 b hb9).2 ZfC_w10.out)
  have ZfA_w11 : Hid (w6.heap.size ≤ w11.heap.size) := Nat.le_trans ZfA_w10.out hb.size
  have XA_w11 : Hid (IIn w11 xs xA) := XA_w10.out.next hb
  have KA_w11 : Hid (IShape w11 fA xs.length xA) := IShape.blocks KA_w10.out fun b hb9 => hb.block b (Nat.lt_of_lt_of_le (HF_fA.out.2 b hb9).2 ZfA_w10.out)
  have GO_w11 : Hid (GOwn w11 fG G gG) := GO_w10.out.keep fun k hk _ => hb.block k (Nat.lt_of_lt_of_le (HF_fG.out.2 k hk).2 ZfG_w10.out)
  have IO_w11 : Hid (OneRow w11 bL X (.slice adL X.length capL)) := OneRow.next IO_w10.out hb
  have ZfG_w11 : Hid (w7.heap.size ≤ w11.heap.size) := Nat.le_trans ZfG_w10.out hb.size
  have HB_w11 : Hid (Below w.heap.size w w11) := HB_w10.out.trans (hb.mono HB_w10.out.size)
  clear hb
  go_wp2_with fail
  refine (toInts_calls xs (.slice ada xs.length capa) _ (HA.out.next HB_w11.out) HL.out).mono ?_
  rintro en w12 ⟨yA, rfl, hvyA, hbyA⟩
  have LE_w12 : Hid (w4.heap.size ≤ w12.heap.size) := Nat.le_trans LE_w11.out hbyA.size
  have W0_w12 : Hid (CellsOn w12 (Lt w4.heap.size) G vsG) := W0_w11.out.mono (fun _ hk => hk) fun k hk => hbyA.block k (Nat.lt_of_lt_of_le hk LE_w11.out)
  have W1_w12 : Hid (IntsOn w12 (Lt w4.heap.size) X (.slice adSL X.length capSL)) := W1_w11.out.mono (fun _ hk => hk) fun k hk => hbyA.block k (Nat.lt_of_lt_of_le hk LE_w11.out)
  have ZfC_w12 : Hid (w5.heap.size ≤ w12.heap.size) := Nat.le_trans ZfC_w11.out hbyA.size
  have XC_w12 : Hid (CIn w12 g xC) := XC_w11.out.next hbyA
  have KC_w12 : Hid (CShape w12 fC (g.map (·.kids.length)) xC) := CShape.blocks KC_w11.out fun b hb9 => hbyA.block b (Nat.lt_of_lt_of_le (HF_fC.out.2 b hb9).2 ZfC_w11.out)
  have ZfA_w12 : Hid (w6.heap.size ≤ w12.heap.size) := Nat.le_trans ZfA_w11.out hbyA.size
  have XA_w12 : Hid (IIn w12 xs xA) := XA_w11.out.next hbyA
  have KA_w12 : Hid (IShape w12 fA xs.length xA) := IShape.blocks KA_w11.out fun b hb9 => hbyA.block b (Nat.lt_of_lt_of_le (HF_fA.out.2 b hb9).2 ZfA_w11.out)
  have GO_w12 : Hid (GOwn w12 fG G gG) := GO_w11.out.keep fun k hk _ => hbyA.block k (Nat.lt_of_lt_of_le (HF_fG.out.2 k hk).2 ZfG_w11.out)
  have IO_w12 : Hid (OneRow w12 bL X (.slice adL X.length capL)) := OneRow.next IO_w11.out hbyA
  have ZfG_w12 : Hid (w7.heap.size ≤ w12.heap.size) := Nat.le_trans ZfG_w11.out hbyA.size
  have HB_w12 : Hid (Below w.heap.size w w12) := HB_w11.out.trans (hbyA.mono HB_w11.out.size)
  have HY : Hid (IIn w12 xs yA) := hvyA.inn
  clear hvyA hbyA
  go_wp2_with fail
  refine (eqInts_calls xs xA yA _ XA_w12.out HY.out).mono ?_
  rintro en w13 ⟨rfl, hb⟩
  clear HY
  have LE_w13 : Hid (w4.heap.size ≤ w13.heap.size) := Nat.le_trans LE_w12.out hb.size
  have W0_w13 : Hid (CellsOn w13 (Lt w4.heap.size) G vsG) := W0_w12.out.mono (fun _ hk => hk) fun k hk => hb.block k (Nat.lt_of_lt_of_le hk LE_w12.out)
  have W1_w13 : Hid (IntsOn w13 (Lt w4.heap.size) X (.slice adSL X.length capSL)) := W1_w12.out.mono (fun _ hk => hk) fun k hk => hb.block k (Nat.lt_of_lt_of_le hk LE_w12.out)
  have ZfC_w13 : Hid (w5.heap.size ≤ w13.heap.size) := Nat.le_trans ZfC_w12.out hb.size
  have XC_w13 : Hid (CIn w13 g xC) := XC_w12.out.next hb
  have KC_w13 : Hid (CShape w13 fC (g.map (·.kids.length)) xC) := CShape.blocks KC_w12.out fun b hb9 => hb.block b (Nat.lt_of_lt_of_le (HF_fC.out.2 b hb9).2 ZfC_w12.out)
  have ZfA_w13 : Hid (w6.heap.size ≤ w13.heap.size) := Nat.le_trans ZfA_w12.out hb.size
  have XA_w13 : Hid (IIn w13 xs xA) := XA_w12.out.next hb
  have KA_w13 : Hid (IShape w13 fA xs.length xA) := IShape.blocks KA_w12.out fun b hb9 => hb.block b (Nat.lt_of_lt_of_le (HF_fA.out.2 b hb9).2 ZfA_w12.out)
  have GO_w13 : Hid (GOwn w13 fG G gG) := GO_w12.out.keep fun k hk _ => hb.block k (Nat.lt_of_lt_of_le (HF_fG.out.2 k hk).2 ZfG_w12.out)
  have IO_w13 : Hid (OneRow w13 bL X (.slice adL X.length capL)) := OneRow.next IO_w12.out hb
  have ZfG_w13 : Hid (w7.heap.size ≤ w13.heap.size) := Nat.le_trans ZfG_w12.out hb.size
  have HB_w13 : Hid (Below w.heap.size w w13) := HB_w12.out.trans (hb.mono HB_w12.out.size)
  clear hb
  -- the arguments are marked
  go_wp2_with fail
  refine (markCells_calls _ fC xC 1 w13 KC_w13.out (by omega) (by omega) (by rw [sum_shape, List.length_map]; exact HZG.out)).mono ?_
  rintro en w14 ⟨rfl, hb⟩
  have LE_w14 : Hid (w4.heap.size ≤ w14.heap.size) := Nat.le_trans LE_w13.out hb.size
  have W0_w14 : Hid (CellsOn w14 (Lt w4.heap.size) G vsG) := W0_w13.out.mono (fun _ hk => hk) fun k (hk : k < _) => hb.block k (Nat.lt_of_lt_of_le hk LE_w13.out) (fun h => by have := (HF_fC.out.2 _ h); have := S0.out; have := S1.out; have := S2.out; have := SR.out; omega)
  have W1_w14 : Hid (IntsOn w14 (Lt w4.heap.size) X (.slice adSL X.length capSL)) := W1_w13.out.mono (fun _ hk => hk) fun k (hk : k < _) => hb.block k (Nat.lt_of_lt_of_le hk LE_w13.out) (fun h => by have := (HF_fC.out.2 _ h); have := S0.out; have := S1.out; have := S2.out; have := SR.out; omega)
  have ZfA_w14 : Hid (w6.heap.size ≤ w14.heap.size) := Nat.le_trans ZfA_w13.out hb.size
  have KA_w14 : Hid (IShape w14 fA xs.length xA) := IShape.blocks KA_w13.out fun b hb9 => hb.block b (Nat.lt_of_lt_of_le (HF_fA.out.2 b hb9).2 ZfA_w13.out) (fun h => by have := (HF_fC.out.2 _ h); have := (HF_fA.out.2 _ hb9); have := S0.out; have := S1.out; have := S2.out; have := SR.out; omega)
  have GO_w14 : Hid (GOwn w14 fG G gG) := GO_w13.out.keep fun b hb9 _ => hb.block b (Nat.lt_of_lt_of_le (HF_fG.out.2 b hb9).2 ZfG_w13.out) (fun h => by have := (HF_fC.out.2 _ h); have := (HF_fG.out.2 _ hb9); have := S0.out; have := S1.out; have := S2.out; have := SR.out; omega)
  have IO_w14 : Hid (OneRow w14 bL X (.slice adL X.length capL)) := OneRow.keep IO_w13.out fun b hb9 hz9 => hb.block b hz9 (fun h => by have := (HF_fC.out.2 _ h); have := (HF_bL.out b hb9); have := S0.out; have := S1.out; have := S2.out; have := SR.out; omega)
  have ZfG_w14 : Hid (w7.heap.size ≤ w14.heap.size) := Nat.le_trans ZfG_w13.out hb.size
  have HB_w14 : Hid (Below w.heap.size w w14) := HB_w13.out.trans (hb.below (fun k h => by have := (HF_fC.out.2 _ h); have := S0.out; have := S1.out; have := S2.out; have := SR.out; omega) HB_w13.out.size)
  clear hb
  have hkB : ((2 * (g.map (·.kids.length)).length + sumN' (g.map (·.kids.length)) : Nat) : Int) ≤ 2097152 := by rw [sum_shape, List.length_map]; have := HZG.out; omega
  obtain ⟨kC, hkC⟩ : ∃ kC : Int, kC = 1 + ((2 * (g.map (·.kids.length)).length + sumN' (g.map (·.kids.length)) : Nat) : Int) := ⟨_, rfl⟩
  rw [← hkC]
  have hkC0 : 0 ≤ kC := by omega
  have hkC1 : kC ≤ 1 + 2097152 := by omega
  clear hkC hkB
  go_wp2_with fail
  refine (markI_calls xs.length fA xA kC w14 KA_w14.out (by omega) (by have := HL.out; omega)).mono ?_
  rintro en w15 ⟨rfl, hk9⟩
  have hb := hk9.but
  clear hk9
  have LE_w15 : Hid (w4.heap.size ≤ w15.heap.size) := Nat.le_trans LE_w14.out hb.size
  have W0_w15 : Hid (CellsOn w15 (Lt w4.heap.size) G vsG) := W0_w14.out.mono (fun _ hk => hk) fun k (hk : k < _) => hb.block k (Nat.lt_of_lt_of_le hk LE_w14.out) (fun h => by have := (HF_fA.out.2 _ h); have := S0.out; have := S1.out; have := S2.out; have := SR.out; omega)
  have W1_w15 : Hid (IntsOn w15 (Lt w4.heap.size) X (.slice adSL X.length capSL)) := W1_w14.out.mono (fun _ hk => hk) fun k (hk : k < _) => hb.block k (Nat.lt_of_lt_of_le hk LE_w14.out) (fun h => by have := (HF_fA.out.2 _ h); have := S0.out; have := S1.out; have := S2.out; have := SR.out; omega)
  have GO_w15 : Hid (GOwn w15 fG G gG) := GO_w14.out.keep fun b hb9 _ => hb.block b (Nat.lt_of_lt_of_le (HF_fG.out.2 b hb9).2 ZfG_w14.out) (fun h => by have := (HF_fA.out.2 _ h); have := (HF_fG.out.2 _ hb9); have := S0.out; have := S1.out; have := S2.out; have := SR.out; omega)
  have IO_w15 : Hid (OneRow w15 bL X (.slice adL X.length capL)) := OneRow.keep IO_w14.out fun b hb9 hz9 => hb.block b hz9 (fun h => by have := (HF_fA.out.2 _ h); have := (HF_bL.out b hb9); have := S0.out; have := S1.out; have := S2.out; have := SR.out; omega)
  have ZfG_w15 : Hid (w7.heap.size ≤ w15.heap.size) := Nat.le_trans ZfG_w14.out hb.size
  have HB_w15 : Hid (Below w.heap.size w w15) := HB_w14.out.trans (hb.below (fun k h => by have := (HF_fA.out.2 _ h); have := S0.out; have := S1.out; have := S2.out; have := SR.out; omega) HB_w14.out.size)
  clear hb
  obtain ⟨kA, hkA⟩ : ∃ kA : Int, kA = kC + (xs.length : Int) := ⟨_, rfl⟩
  rw [← hkA]
  have hkA0 : 0 ≤ kA := by omega
  clear hkA
  go_wp2_with fail
  refine (eqCells_calls G _ _ _ GO_w15.out.inn (W0_w15.out.mono (fun k hk => Nat.lt_of_lt_of_le hk LE_w15.out) fun _ _ => rfl)).mono ?_
  rintro en w16 ⟨rfl, hb⟩
  have LE_w16 : Hid (w4.heap.size ≤ w16.heap.size) := Nat.le_trans LE_w15.out hb.size
  have W0_w16 : Hid (CellsOn w16 (Lt w4.heap.size) G vsG) := W0_w15.out.mono (fun _ hk => hk) fun k hk => hb.block k (Nat.lt_of_lt_of_le hk LE_w15.out)
  have W1_w16 : Hid (IntsOn w16 (Lt w4.heap.size) X (.slice adSL X.length capSL)) := W1_w15.out.mono (fun _ hk => hk) fun k hk => hb.block k (Nat.lt_of_lt_of_le hk LE_w15.out)
  have GO_w16 : Hid (GOwn w16 fG G gG) := GO_w15.out.keep fun k hk _ => hb.block k (Nat.lt_of_lt_of_le (HF_fG.out.2 k hk).2 ZfG_w15.out)
  have IO_w16 : Hid (OneRow w16 bL X (.slice adL X.length capL)) := OneRow.next IO_w15.out hb
  have ZfG_w16 : Hid (w7.heap.size ≤ w16.heap.size) := Nat.le_trans ZfG_w15.out hb.size
  have HB_w16 : Hid (Below w.heap.size w w16) := HB_w15.out.trans (hb.mono HB_w15.out.size)
  clear hb
  go_wp2_with fail
  refine (eqInts_calls X _ _ _ IO_w16.out.inn (W1_w16.out.mono (fun k hk => Nat.lt_of_lt_of_le hk LE_w16.out) fun _ _ => rfl)).mono ?_
  rintro en w17 ⟨rfl, hb⟩
  have LE_w17 : Hid (w4.heap.size ≤ w17.heap.size) := Nat.le_trans LE_w16.out hb.size
  have W0_w17 : Hid (CellsOn w17 (Lt w4.heap.size) G vsG) := W0_w16.out.mono (fun _ hk => hk) fun k hk => hb.block k (Nat.lt_of_lt_of_le hk LE_w16.out)
  have W1_w17 : Hid (IntsOn w17 (Lt w4.heap.size) X (.slice adSL X.length capSL)) := W1_w16.out.mono (fun _ hk => hk) fun k hk => hb.block k (Nat.lt_of_lt_of_le hk LE_w16.out)
  have GO_w17 : Hid (GOwn w17 fG G gG) := GO_w16.out.keep fun k hk _ => hb.block k (Nat.lt_of_lt_of_le (HF_fG.out.2 k hk).2 ZfG_w16.out)
  have IO_w17 : Hid (OneRow w17 bL X (.slice adL X.length capL)) := OneRow.next IO_w16.out hb
  have ZfG_w17 : Hid (w7.heap.size ≤ w17.heap.size) := Nat.le_trans ZfG_w16.out hb.size
  have HB_w17 : Hid (Below w.heap.size w w17) := HB_w16.out.trans (hb.mono HB_w16.out.size)
  clear hb
  go_wp2_with fail
  -- the answer is marked
  refine (gmarkG_calls G fG _ 1 w17 GO_w17.out (by omega) (by omega) (by have := HGS.out; omega)).mono ?_
  rintro en w18 ⟨rfl, hk9, hb⟩
  have LE_w18 : Hid (w4.heap.size ≤ w18.heap.size) := Nat.le_trans LE_w17.out hb.size
  have W0_w18 : Hid (CellsOn w18 (Lt w4.heap.size) G vsG) := W0_w17.out.mono (fun _ hk => hk) fun k (hk : k < _) => hb.block k (Nat.lt_of_lt_of_le hk LE_w17.out) (fun h => by have := (HF_fG.out.2 _ h); have := S0.out; have := S1.out; have := S2.out; have := SR.out; omega)
  have W1_w18 : Hid (IntsOn w18 (Lt w4.heap.size) X (.slice adSL X.length capSL)) := W1_w17.out.mono (fun _ hk => hk) fun k (hk : k < _) => hb.block k (Nat.lt_of_lt_of_le hk LE_w17.out) (fun h => by have := (HF_fG.out.2 _ h); have := S0.out; have := S1.out; have := S2.out; have := SR.out; omega)
  have IO_w18 : Hid (OneRow w18 bL X (.slice adL X.length capL)) := OneRow.keep IO_w17.out fun b hb9 hz9 => hb.block b hz9 (fun h => HDJ.out b hb9 h)
  have HB_w18 : Hid (Below w.heap.size w w18) := HB_w17.out.trans (hb.below (fun k h => by have := (HF_fG.out.2 _ h); have := S0.out; have := S1.out; have := S2.out; have := SR.out; omega) HB_w17.out.size)
  have GL_w18 : Hid (GOwn w18 fG (labC G 1) gG) := hk9
  clear hb hk9
  obtain ⟨mG, hmG⟩ : ∃ mG : Int, mG = 1 + 2 * (G.length : Int) + (sumK G : Int) := ⟨_, rfl⟩
  have HMG := mkHid hmG
  have hmG0 : 0 ≤ mG ∧ mG ≤ 1048576 := by have := HGS.out; omega
  rw [← hmG]
  clear hmG
  go_wp2_with fail
  refine (markOne_calls X bL _ mG w18 IO_w18.out (by omega) (by have := HXS.out; omega)).mono ?_
  rintro en w19 ⟨rfl, hk9, hb⟩
  have LE_w19 : Hid (w4.heap.size ≤ w19.heap.size) := Nat.le_trans LE_w18.out hb.size
  have W0_w19 : Hid (CellsOn w19 (Lt w4.heap.size) G vsG) := W0_w18.out.mono (fun _ hk => hk) fun k (hk : k < _) => hb.block k (Nat.lt_of_lt_of_le hk LE_w18.out) (fun h => by have := HF_bL.out k (List.mem_singleton.1 h); have := S0.out; have := S1.out; have := S2.out; have := SR.out; omega)
  have W1_w19 : Hid (IntsOn w19 (Lt w4.heap.size) X (.slice adSL X.length capSL)) := W1_w18.out.mono (fun _ hk => hk) fun k (hk : k < _) => hb.block k (Nat.lt_of_lt_of_le hk LE_w18.out) (fun h => by have := HF_bL.out k (List.mem_singleton.1 h); have := S0.out; have := S1.out; have := S2.out; have := SR.out; omega)
  have GL_w19 : Hid (GOwn w19 fG (labC G 1) gG) := GL_w18.out.keep fun k hk hk2 => hb.block k hk2 (fun h => HDJ.out k (List.mem_singleton.1 h) hk)
  have HB_w19 : Hid (Below w.heap.size w w19) := HB_w18.out.trans (hb.below (fun k h => by have := HF_bL.out k (List.mem_singleton.1 h); have := S0.out; have := S1.out; have := S2.out; have := SR.out; omega) HB_w18.out.size)
  have IL_w19 : Hid (OneRow w19 bL (upFrom mG X.length) (.slice adL X.length capL)) := hk9
  clear hb hk9
  obtain ⟨mL, hmL⟩ : ∃ mL : Int, mL = mG + (X.length : Int) := ⟨_, rfl⟩
  have HML := mkHid hmL
  have hmL0 : 0 ≤ mL ∧ mL ≤ 2097152 := by have := HXS.out; omega
  rw [← hmL]
  clear hmL
  go_wp2_with fail
  refine (gheld_calls G _ 1 w19 GL_w19.out.inn (by omega) (by omega) (by have := HGS.out; omega)).mono ?_
  rintro en w20 ⟨rfl, hb⟩
  rw [← HMG.out]
  have LE_w20 : Hid (w4.heap.size ≤ w20.heap.size) := Nat.le_trans LE_w19.out hb.size
  have W0_w20 : Hid (CellsOn w20 (Lt w4.heap.size) G vsG) := W0_w19.out.mono (fun _ hk => hk) fun k hk => hb.block k (Nat.lt_of_lt_of_le hk LE_w19.out)
  have W1_w20 : Hid (IntsOn w20 (Lt w4.heap.size) X (.slice adSL X.length capSL)) := W1_w19.out.mono (fun _ hk => hk) fun k hk => hb.block k (Nat.lt_of_lt_of_le hk LE_w19.out)
  have GL_w20 : Hid (GOwn w20 fG (labC G 1) gG) := GL_w19.out.keep fun k _ hk2 => hb.block k hk2
  have IL_w20 : Hid (OneRow w20 bL (upFrom mG X.length) (.slice adL X.length capL)) := OneRow.next IL_w19.out hb
  have HB_w20 : Hid (Below w.heap.size w w20) := HB_w19.out.trans (hb.mono HB_w19.out.size)
  clear hb
  go_wp2_with fail
  refine (heldInts_calls X.length _ mG w20 IL_w20.out.inn (by omega) (by have := HXS.out; omega)).mono ?_
  rintro en w21 ⟨rfl, hb⟩
  rw [← HML.out]
  have LE_w21 : Hid (w4.heap.size ≤ w21.heap.size) := Nat.le_trans LE_w20.out hb.size
  have W0_w21 : Hid (CellsOn w21 (Lt w4.heap.size) G vsG) := W0_w20.out.mono (fun _ hk => hk) fun k hk => hb.block k (Nat.lt_of_lt_of_le hk LE_w20.out)
  have W1_w21 : Hid (IntsOn w21 (Lt w4.heap.size) X (.slice adSL X.length capSL)) := W1_w20.out.mono (fun _ hk => hk) fun k hk => hb.block k (Nat.lt_of_lt_of_le hk LE_w20.out)
  have GL_w21 : Hid (GOwn w21 fG (labC G 1) gG) := GL_w20.out.keep fun k _ hk2 => hb.block k hk2
  have IL_w21 : Hid (OneRow w21 bL (upFrom mG X.length) (.slice adL X.length capL)) := OneRow.next IL_w20.out hb
  have HB_w21 : Hid (Below w.heap.size w w21) := HB_w20.out.trans (hb.mono HB_w20.out.size)
  clear hb
  have tm : (mL != mL) = false := by simp
  go_wp2_with fail
  -- called once more
  refine (toCells_calls g (.slice adg g.length capg) w21 (HG.out.next HB_w21.out) HZG.out).mono ?_
  rintro en w22 ⟨hC, rfl, hvhC, hbhC⟩
  have HXw22 : Hid (Below w21.heap.size w21 w22) := hbhC
  have HhC_w22 : Hid (CIn w22 g hC) := hvhC.inn
  clear hvhC hbhC
  go_wp2_with fail
  refine (toInts_calls xs (.slice ada xs.length capa) w22 (HA.out.next (HB_w21.out.trans (HXw22.out.mono HB_w21.out.size))) HL.out).mono ?_
  rintro en w23 ⟨hA, rfl, hvhA, hbhA⟩
  have HXw23 : Hid (Below w21.heap.size w21 w23) := HXw22.out.trans (hbhA.mono HXw22.out.size)
  have HhA_w23 : Hid (IIn w23 xs hA) := hvhA.inn
  have HhC_w23 : Hid (CIn w23 g hC) := HhC_w22.out.next hbhA
  clear hvhA hbhA
  go_wp2_with fail
  refine (HSI.out hC hA w23 HhC_w23.out HhA_w23.out).mono ?_
  rintro en w24 ⟨vhG, vhL, rfl, hres, hbr⟩
  have HXw24 : Hid (Below w21.heap.size w21 w24) := HXw23.out.trans (hbr.mono HXw23.out.size)
  have HRh := mkHid hres
  have HSh : Hid (w23.heap.size ≤ w24.heap.size ∧ w21.heap.size ≤ w23.heap.size) := ⟨hbr.size, HXw23.out.size⟩
  clear hres hbr
  have LE_w24 : Hid (w4.heap.size ≤ w24.heap.size) := Nat.le_trans LE_w21.out HXw24.out.size
  have W0_w24 : Hid (CellsOn w24 (Lt w4.heap.size) G vsG) := W0_w21.out.mono (fun _ hk => hk) fun k hk => HXw24.out.block k (Nat.lt_of_lt_of_le hk LE_w21.out)
  have W1_w24 : Hid (IntsOn w24 (Lt w4.heap.size) X (.slice adSL X.length capSL)) := W1_w21.out.mono (fun _ hk => hk) fun k hk => HXw24.out.block k (Nat.lt_of_lt_of_le hk LE_w21.out)
  have GL_w24 : Hid (GOwn w24 fG (labC G 1) gG) := GL_w21.out.keep fun k _ hk2 => HXw24.out.block k hk2
  have IL_w24 : Hid (OneRow w24 bL (upFrom mG X.length) (.slice adL X.length capL)) := OneRow.next IL_w21.out HXw24.out
  have HB_w24 : Hid (Below w.heap.size w w24) := HB_w21.out.trans (HXw24.out.mono HB_w21.out.size)
  obtain ⟨fH, bH, HGH, -, HIH, -, -⟩ := HRh.out
  have HGH := mkHid HGH
  have HIH := mkHid HIH
  obtain ⟨adH, capH, rfl⟩ := HIH.out.form
  go_wp2_with fail
  refine (eqCells_calls G _ _ _ HGH.out.inn (W0_w24.out.mono (fun k hk => Nat.lt_of_lt_of_le hk LE_w24.out) fun _ _ => rfl)).mono ?_
  rintro en w25 ⟨rfl, hb⟩
  have HIH2 : Hid (IIn w25 X (.slice adH X.length capH)) := HIH.out.inn.next hb
  have LE_w25 : Hid (w4.heap.size ≤ w25.heap.size) := Nat.le_trans LE_w24.out hb.size
  have W0_w25 : Hid (CellsOn w25 (Lt w4.heap.size) G vsG) := W0_w24.out.mono (fun _ hk => hk) fun k hk => hb.block k (Nat.lt_of_lt_of_le hk LE_w24.out)
  have W1_w25 : Hid (IntsOn w25 (Lt w4.heap.size) X (.slice adSL X.length capSL)) := W1_w24.out.mono (fun _ hk => hk) fun k hk => hb.block k (Nat.lt_of_lt_of_le hk LE_w24.out)
  have GL_w25 : Hid (GOwn w25 fG (labC G 1) gG) := GL_w24.out.keep fun k _ hk2 => hb.block k hk2
  have IL_w25 : Hid (OneRow w25 bL (upFrom mG X.length) (.slice adL X.length capL)) := OneRow.next IL_w24.out hb
  have HB_w25 : Hid (Below w.heap.size w w25) := HB_w24.out.trans (hb.mono HB_w24.out.size)
  clear hb
  go_wp2_with fail
  refine (eqInts_calls X _ _ _ (HIH2.out) (W1_w25.out.mono (fun k hk => Nat.lt_of_lt_of_le hk LE_w25.out) fun _ _ => rfl)).mono ?_
  rintro en w26 ⟨rfl, hb⟩
  have LE_w26 : Hid (w4.heap.size ≤ w26.heap.size) := Nat.le_trans LE_w25.out hb.size
  have W0_w26 : Hid (CellsOn w26 (Lt w4.heap.size) G vsG) := W0_w25.out.mono (fun _ hk => hk) fun k hk => hb.block k (Nat.lt_of_lt_of_le hk LE_w25.out)
  have W1_w26 : Hid (IntsOn w26 (Lt w4.heap.size) X (.slice adSL X.length capSL)) := W1_w25.out.mono (fun _ hk => hk) fun k hk => hb.block k (Nat.lt_of_lt_of_le hk LE_w25.out)
  have GL_w26 : Hid (GOwn w26 fG (labC G 1) gG) := GL_w25.out.keep fun k _ hk2 => hb.block k hk2
  have IL_w26 : Hid (OneRow w26 bL (upFrom mG X.length) (.slice adL X.length capL)) := OneRow.next IL_w25.out hb
  have HB_w26 : Hid (Below w.heap.size w w26) := HB_w25.out.trans (hb.mono HB_w25.out.size)
  clear hb
  go_wp2_with fail
  refine (gheld_calls G _ 1 w26 GL_w26.out.inn (by omega) (by omega) (by have := HGS.out; omega)).mono ?_
  rintro en w27 ⟨rfl, hb⟩
  rw [← HMG.out]
  have GL_w27 : Hid (GOwn w27 fG (labC G 1) gG) := GL_w26.out.keep fun k _ hk2 => hb.block k hk2
  have IL_w27 : Hid (OneRow w27 bL (upFrom mG X.length) (.slice adL X.length capL)) := OneRow.next IL_w26.out hb
  have HB_w27 : Hid (Below w.heap.size w w27) := HB_w26.out.trans (hb.mono HB_w26.out.size)
  clear hb
  go_wp2_with fail
  refine (heldInts_calls X.length _ mG w27 IL_w27.out.inn (by omega) (by have := HXS.out; omega)).mono ?_
  rintro en w28 ⟨rfl, hb⟩
  rw [← HML.out]
  have GL_w28 : Hid (GOwn w28 fG (labC G 1) gG) := GL_w27.out.keep fun k _ hk2 => hb.block k hk2
  have IL_w28 : Hid (OneRow w28 bL (upFrom mG X.length) (.slice adL X.length capL)) := OneRow.next IL_w27.out hb
  have HB_w28 : Hid (Below w.heap.size w w28) := HB_w27.out.trans (hb.mono HB_w27.out.size)
  clear hb
  go_wp2_with fail
  go_ret
  exact ⟨rfl, HB_w28.out⟩
end Go.Proofs.Ytjpjikfmdaejeaa.lawExactTidyGraph
