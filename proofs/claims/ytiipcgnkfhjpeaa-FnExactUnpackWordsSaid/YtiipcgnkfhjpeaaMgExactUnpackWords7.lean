/-
  THE WALK OF FnExactUnpackWords.
-/
import Derived.Test.YtiipcgnkfhjpeaaMgExactUnpackWords5
import Derived.Test.YtiipcgnkfhjpeaaMgExactUnpackWords6
import Derived.Test.YtiipcgnkfhjpeaaMgExactUnpackWords3
import Derived.Test.YtiipcgnkfhjpeaaMgExactUnpackWords1
import Derived.Deep.RegionHeld3
namespace Go.Proofs.Ytiipcgnkfhjpeaa.lawExactUnpackWords
open Go.ChangeShapes Go.WideShapes Go.ChangeAt Go.RowKit
set_option linter.unusedVariables false
set_option linter.unusedSimpArgs false

theorem sumK_le3W : ∀ (g : List Ce), (∀ c ∈ g, c.kids.length ≤ 3) → sumK g ≤ 3 * g.length
  | [], _ => by simp [sumK]
  | c :: g, h => by
    have h1 := h c (List.mem_cons_self ..)
    have h2 := sumK_le3W g fun d hd => h d (List.mem_cons_of_mem _ hd)
    have h3 : sumK (c :: g) = c.kids.length + sumK g := by simp [sumK]
    rw [h3]
    simp only [List.length_cons]
    omega
theorem unpO_small (ws : List Int) : (unpO ws).1.length + sumK (unpO ws).1 ≤ 2000 ∧ (unpO ws).2.1.length ≤ 2000 := by
  by_cases hb : ws.length ≤ 1600
  · cases hs : startsW ws 0 with
    | none => rw [unpO_none hs]; simp [sumK]
    | some st =>
      cases hg : graphB (graphW ws st) 6 with
      | false => rw [unpO_bad hs hg]; simp [sumK]
      | true =>
        rw [unpO_yes hb hs hg]
        have h1 := graphB_len hg
        have h2 : sumK (graphW ws st) ≤ 3 * (graphW ws st).length := sumK_le3W _ fun c hc => by
          obtain ⟨j, hj, rfl⟩ := List.getElem_of_mem hc
          exact (graph_cell hg j hj).2.2.2.2
        have h3 := starts_small hs
        show (graphW ws st).length + sumK (graphW ws st) ≤ 2000 ∧ st.length ≤ 2000
        omega
  · rw [unpO_long hb]; simp [sumK]

set_option maxRecDepth 100000 in
set_option maxHeartbeats 12800000 in
theorem walk (xs : List Int) (ca : Value) (w : World) (hak : IIn w xs ca) (hw : ∀ x ∈ xs, I64 x) :
    Calls Try.prog 4 #[ca] w fun e w' => e = .returned (.bool true) ∧ Below w.heap.size w w' := by
  have HA : Hid (IIn w xs ca) := hak
  obtain ⟨ada, capa, rfl, hal, ham, -⟩ := hak
  unfold maxLen at ham
  obtain ⟨G, hG⟩ : ∃ G : List Ce, G = (unpO xs).1 := ⟨_, rfl⟩
  obtain ⟨r1, hr1⟩ : ∃ r : Bool, r = (unpO xs).2.2 := ⟨_, rfl⟩
  have HGS : Hid (G.length + sumK G ≤ 2000) := by rw [hG]; exact (unpO_small xs).1
  have HLW : xs.length ≤ 1048576 → Hid (xs.length ≤ 1048576) := fun h => h
  have HSS0 : Hid (xs.length ≤ 1048576 → ∀ (u : Value) (W : World), IIn W xs u → Calls Try.prog 18 #[u] W fun en w' => ∃ v, en = .returned (.tuple #[v, .bool r1]) ∧ CIn w' G v ∧ Below W.heap.size W w') := fun hl u W h1 => by
    rw [hG, hr1]; exact specUnp_calls xs u W h1 hw hl
  have HSI0 : Hid (xs.length ≤ 1048576 → ∀ (u : Value) (W : World), IIn W xs u → Calls Try.prog 20 #[u] W fun en w' => ∃ v, en = .returned (.tuple #[v, .bool r1]) ∧ GOwn w' (List.range' W.heap.size (w'.heap.size - W.heap.size)) G v ∧ Below W.heap.size W w') := fun hl u W h1 => (implUnp_calls xs u W h1 hw hl).mono fun en w' h => by
    obtain ⟨v, e1, e2, e3⟩ := h
    rw [hG, hr1]
    exact ⟨v, e1, e2.own fun k h _ => h, e3⟩
  clear hG hr1 HLW hw
  go_enter Try.func4, Try.ntmps4
  have HB_w : Hid (Below w.heap.size w w) := Below.refl _ _
  by_cases hlen : (1048576 : Int) < (xs.length : Int)
  · go_wp2_with fail
    go_ret
    exact ⟨rfl, HB_w.out⟩
  have HL : Hid (xs.length ≤ 1048576) := by unfold Hid; omega
  have HSS := mkHid (HSS0.out HL.out)
  have HSI := mkHid (HSI0.out HL.out)
  have hleft0 : (0 : Int) ≤ 1048576 ∧ (1048576 : Int) ≤ 1048576 := by omega
  go_wp2_with fail
  -- the model's answer
  refine (toInts_calls xs (.slice ada xs.length capa) w (HA.out.next HB_w.out) HL.out).mono ?_
  rintro en w1 ⟨sA, rfl, hvsA, hbsA⟩
  have HXw1 : Hid (Below w.heap.size w w1) := hbsA
  have HsA_w1 : Hid (IIn w1 xs sA) := hvsA.inn
  clear hvsA hbsA
  go_wp2_with fail
  refine (HSS.out sA w1 HsA_w1.out).mono ?_
  rintro en w2 ⟨vsG, rfl, hres, hbr⟩
  have HXw2 : Hid (Below w.heap.size w w2) := HXw1.out.trans (hbr.mono HXw1.out.size)
  have HRs := mkHid hres
  have HSs : Hid (w1.heap.size ≤ w2.heap.size ∧ w.heap.size ≤ w1.heap.size) := ⟨hbr.size, HXw1.out.size⟩
  clear hres hbr
  have HB_w2 : Hid (Below w.heap.size w w2) := HB_w.out.trans (HXw2.out.mono HB_w.out.size)
  have S0 : Hid (w.heap.size ≤ w2.heap.size) := HB_w2.out.size
  have LE_w2 : Hid (w2.heap.size ≤ w2.heap.size) := Nat.le_refl _
  have W0_w2 : Hid (CellsOn w2 (Lt w2.heap.size) G vsG) := HRs.out
  -- the program's arguments
  go_wp2_with fail
  refine (toInts_calls xs (.slice ada xs.length capa) _ (HA.out.next HB_w2.out) HL.out).mono ?_
  rintro en w3 ⟨xA, rfl, hv, hb⟩
  obtain ⟨fA, hfA⟩ : ∃ fA, fA = List.range' w2.heap.size (w3.heap.size - w2.heap.size) := ⟨_, rfl⟩
  have S1 : Hid (w2.heap.size ≤ w3.heap.size) := hb.size
  have HF_fA : Hid (True ∧ ∀ k ∈ fA, w2.heap.size ≤ k ∧ k < w3.heap.size) := ⟨trivial, fun k hk => by rw [hfA, List.mem_range'_1] at hk; have := S1.out; omega⟩
  have LE_w3 : Hid (w2.heap.size ≤ w3.heap.size) := Nat.le_trans LE_w2.out hb.size
  have W0_w3 : Hid (CellsOn w3 (Lt w2.heap.size) G vsG) := W0_w2.out.mono (fun _ hk => hk) fun k hk => hb.block k (Nat.lt_of_lt_of_le hk LE_w2.out)
  have HB_w3 : Hid (Below w.heap.size w w3) := HB_w2.out.trans (hb.mono HB_w2.out.size)
  have ZfA_w3 : Hid (w3.heap.size ≤ w3.heap.size) := Nat.le_refl _
  have XA_w3 : Hid (IIn w3 xs xA) := hv.inn
  have KA_w3 : Hid (IShape w3 fA xs.length xA) := by rw [Hid, hfA]; exact IntRow.shape hv
  clear hv hb hfA
  go_wp2_with fail
  -- the program's answer
  refine (HSI.out xA _ XA_w3.out).mono ?_
  rintro en w4 ⟨gG, rfl, hres, hb⟩
  have SR : Hid (w3.heap.size ≤ w4.heap.size) := hb.size
  obtain ⟨fG, hfG⟩ : ∃ fG, fG = List.range' w3.heap.size (w4.heap.size - w3.heap.size) := ⟨_, rfl⟩
  have HF_fG : Hid (True ∧ ∀ k ∈ fG, w3.heap.size ≤ k ∧ k < w4.heap.size) := ⟨trivial, fun k hk => by rw [hfG, List.mem_range'_1] at hk; have := SR.out; omega⟩
  rw [← hfG] at hres
  have LE_w4 : Hid (w2.heap.size ≤ w4.heap.size) := Nat.le_trans LE_w3.out hb.size
  have W0_w4 : Hid (CellsOn w4 (Lt w2.heap.size) G vsG) := W0_w3.out.mono (fun _ hk => hk) fun k hk => hb.block k (Nat.lt_of_lt_of_le hk LE_w3.out)
  have ZfA_w4 : Hid (w3.heap.size ≤ w4.heap.size) := Nat.le_trans ZfA_w3.out hb.size
  have XA_w4 : Hid (IIn w4 xs xA) := XA_w3.out.next hb
  have KA_w4 : Hid (IShape w4 fA xs.length xA) := IShape.blocks KA_w3.out fun b hb9 => hb.block b (Nat.lt_of_lt_of_le (HF_fA.out.2 b hb9).2 ZfA_w3.out)
  have HB_w4 : Hid (Below w.heap.size w w4) := HB_w3.out.trans (hb.mono HB_w3.out.size)
  have GO_w4 : Hid (GOwn w4 fG G gG) := hres
  have ZfG_w4 : Hid (w4.heap.size ≤ w4.heap.size) := Nat.le_refl _
  clear hb hres hfG
  have t1 : (r1 != r1) = false := by simp
  go_wp2_with fail
  refine (eqCells_calls G _ _ _ GO_w4.out.inn (W0_w4.out.mono (fun k hk => Nat.lt_of_lt_of_le hk LE_w4.out) fun _ _ => rfl)).mono ?_
  rintro en w5 ⟨rfl, hb⟩
  have LE_w5 : Hid (w2.heap.size ≤ w5.heap.size) := Nat.le_trans LE_w4.out hb.size
  have W0_w5 : Hid (CellsOn w5 (Lt w2.heap.size) G vsG) := W0_w4.out.mono (fun _ hk => hk) fun k hk => hb.block k (Nat.lt_of_lt_of_le hk LE_w4.out)
  have ZfA_w5 : Hid (w3.heap.size ≤ w5.heap.size) := Nat.le_trans ZfA_w4.out hb.size
  have XA_w5 : Hid (IIn w5 xs xA) := XA_w4.out.next hb
  have KA_w5 : Hid (IShape w5 fA xs.length xA) := IShape.blocks KA_w4.out fun b hb9 => hb.block b (Nat.lt_of_lt_of_le (HF_fA.out.2 b hb9).2 ZfA_w4.out)
  have GO_w5 : Hid (GOwn w5 fG G gG) := GO_w4.out.keep fun k hk _ => hb.block k (Nat.lt_of_lt_of_le (HF_fG.out.2 k hk).2 ZfG_w4.out)
  have ZfG_w5 : Hid (w4.heap.size ≤ w5.heap.size) := Nat.le_trans ZfG_w4.out hb.size
  have HB_w5 : Hid (Below w.heap.size w w5) := HB_w4.out.trans (hb.mono HB_w4.out.size)
  clear hb
  go_wp2_with fail
  refine (toInts_calls xs (.slice ada xs.length capa) _ (HA.out.next HB_w5.out) HL.out).mono ?_
  rintro en w6 ⟨yA, rfl, hvyA, hbyA⟩
  have LE_w6 : Hid (w2.heap.size ≤ w6.heap.size) := Nat.le_trans LE_w5.out hbyA.size
  have W0_w6 : Hid (CellsOn w6 (Lt w2.heap.size) G vsG) := W0_w5.out.mono (fun _ hk => hk) fun k hk => hbyA.block k (Nat.lt_of_lt_of_le hk LE_w5.out)
  have ZfA_w6 : Hid (w3.heap.size ≤ w6.heap.size) := Nat.le_trans ZfA_w5.out hbyA.size
  have XA_w6 : Hid (IIn w6 xs xA) := XA_w5.out.next hbyA
  have KA_w6 : Hid (IShape w6 fA xs.length xA) := IShape.blocks KA_w5.out fun b hb9 => hbyA.block b (Nat.lt_of_lt_of_le (HF_fA.out.2 b hb9).2 ZfA_w5.out)
  have GO_w6 : Hid (GOwn w6 fG G gG) := GO_w5.out.keep fun k hk _ => hbyA.block k (Nat.lt_of_lt_of_le (HF_fG.out.2 k hk).2 ZfG_w5.out)
  have ZfG_w6 : Hid (w4.heap.size ≤ w6.heap.size) := Nat.le_trans ZfG_w5.out hbyA.size
  have HB_w6 : Hid (Below w.heap.size w w6) := HB_w5.out.trans (hbyA.mono HB_w5.out.size)
  have HY : Hid (IIn w6 xs yA) := hvyA.inn
  clear hvyA hbyA
  go_wp2_with fail
  refine (eqInts_calls xs xA yA _ XA_w6.out HY.out).mono ?_
  rintro en w7 ⟨rfl, hb⟩
  clear HY
  have LE_w7 : Hid (w2.heap.size ≤ w7.heap.size) := Nat.le_trans LE_w6.out hb.size
  have W0_w7 : Hid (CellsOn w7 (Lt w2.heap.size) G vsG) := W0_w6.out.mono (fun _ hk => hk) fun k hk => hb.block k (Nat.lt_of_lt_of_le hk LE_w6.out)
  have ZfA_w7 : Hid (w3.heap.size ≤ w7.heap.size) := Nat.le_trans ZfA_w6.out hb.size
  have XA_w7 : Hid (IIn w7 xs xA) := XA_w6.out.next hb
  have KA_w7 : Hid (IShape w7 fA xs.length xA) := IShape.blocks KA_w6.out fun b hb9 => hb.block b (Nat.lt_of_lt_of_le (HF_fA.out.2 b hb9).2 ZfA_w6.out)
  have GO_w7 : Hid (GOwn w7 fG G gG) := GO_w6.out.keep fun k hk _ => hb.block k (Nat.lt_of_lt_of_le (HF_fG.out.2 k hk).2 ZfG_w6.out)
  have ZfG_w7 : Hid (w4.heap.size ≤ w7.heap.size) := Nat.le_trans ZfG_w6.out hb.size
  have HB_w7 : Hid (Below w.heap.size w w7) := HB_w6.out.trans (hb.mono HB_w6.out.size)
  clear hb
  -- the arguments are marked
  go_wp2_with fail
  refine (markI_calls xs.length fA xA 1 w7 KA_w7.out (by omega) (by have := HL.out; omega)).mono ?_
  rintro en w8 ⟨rfl, hk9⟩
  have hb := hk9.but
  clear hk9
  have LE_w8 : Hid (w2.heap.size ≤ w8.heap.size) := Nat.le_trans LE_w7.out hb.size
  have W0_w8 : Hid (CellsOn w8 (Lt w2.heap.size) G vsG) := W0_w7.out.mono (fun _ hk => hk) fun k (hk : k < _) => hb.block k (Nat.lt_of_lt_of_le hk LE_w7.out) (fun h => by have := (HF_fA.out.2 _ h); have := S0.out; have := S1.out; have := SR.out; omega)
  have GO_w8 : Hid (GOwn w8 fG G gG) := GO_w7.out.keep fun b hb9 _ => hb.block b (Nat.lt_of_lt_of_le (HF_fG.out.2 b hb9).2 ZfG_w7.out) (fun h => by have := (HF_fA.out.2 _ h); have := (HF_fG.out.2 _ hb9); have := S0.out; have := S1.out; have := SR.out; omega)
  have ZfG_w8 : Hid (w4.heap.size ≤ w8.heap.size) := Nat.le_trans ZfG_w7.out hb.size
  have HB_w8 : Hid (Below w.heap.size w w8) := HB_w7.out.trans (hb.below (fun k h => by have := (HF_fA.out.2 _ h); have := S0.out; have := S1.out; have := SR.out; omega) HB_w7.out.size)
  clear hb
  obtain ⟨kA, hkA⟩ : ∃ kA : Int, kA = 1 + (xs.length : Int) := ⟨_, rfl⟩
  rw [← hkA]
  have hkA0 : 0 ≤ kA := by omega
  clear hkA
  go_wp2_with fail
  refine (eqCells_calls G _ _ _ GO_w8.out.inn (W0_w8.out.mono (fun k hk => Nat.lt_of_lt_of_le hk LE_w8.out) fun _ _ => rfl)).mono ?_
  rintro en w9 ⟨rfl, hb⟩
  have LE_w9 : Hid (w2.heap.size ≤ w9.heap.size) := Nat.le_trans LE_w8.out hb.size
  have W0_w9 : Hid (CellsOn w9 (Lt w2.heap.size) G vsG) := W0_w8.out.mono (fun _ hk => hk) fun k hk => hb.block k (Nat.lt_of_lt_of_le hk LE_w8.out)
  have GO_w9 : Hid (GOwn w9 fG G gG) := GO_w8.out.keep fun k hk _ => hb.block k (Nat.lt_of_lt_of_le (HF_fG.out.2 k hk).2 ZfG_w8.out)
  have ZfG_w9 : Hid (w4.heap.size ≤ w9.heap.size) := Nat.le_trans ZfG_w8.out hb.size
  have HB_w9 : Hid (Below w.heap.size w w9) := HB_w8.out.trans (hb.mono HB_w8.out.size)
  clear hb
  go_wp2_with fail
  -- the answer is marked
  refine (gmarkG_calls G fG _ 1 w9 GO_w9.out (by omega) (by omega) (by have := HGS.out; omega)).mono ?_
  rintro en w10 ⟨rfl, hk9, hb⟩
  have LE_w10 : Hid (w2.heap.size ≤ w10.heap.size) := Nat.le_trans LE_w9.out hb.size
  have W0_w10 : Hid (CellsOn w10 (Lt w2.heap.size) G vsG) := W0_w9.out.mono (fun _ hk => hk) fun k (hk : k < _) => hb.block k (Nat.lt_of_lt_of_le hk LE_w9.out) (fun h => by have := (HF_fG.out.2 _ h); have := S0.out; have := S1.out; have := SR.out; omega)
  have HB_w10 : Hid (Below w.heap.size w w10) := HB_w9.out.trans (hb.below (fun k h => by have := (HF_fG.out.2 _ h); have := S0.out; have := S1.out; have := SR.out; omega) HB_w9.out.size)
  have GL_w10 : Hid (GOwn w10 fG (labC G 1) gG) := hk9
  clear hb hk9
  obtain ⟨mG, hmG⟩ : ∃ mG : Int, mG = 1 + 2 * (G.length : Int) + (sumK G : Int) := ⟨_, rfl⟩
  have HMG := mkHid hmG
  have hmG0 : 0 ≤ mG ∧ mG ≤ 1048576 := by have := HGS.out; omega
  rw [← hmG]
  clear hmG
  go_wp2_with fail
  refine (gheld_calls G _ 1 w10 GL_w10.out.inn (by omega) (by omega) (by have := HGS.out; omega)).mono ?_
  rintro en w11 ⟨rfl, hb⟩
  rw [← HMG.out]
  have LE_w11 : Hid (w2.heap.size ≤ w11.heap.size) := Nat.le_trans LE_w10.out hb.size
  have W0_w11 : Hid (CellsOn w11 (Lt w2.heap.size) G vsG) := W0_w10.out.mono (fun _ hk => hk) fun k hk => hb.block k (Nat.lt_of_lt_of_le hk LE_w10.out)
  have GL_w11 : Hid (GOwn w11 fG (labC G 1) gG) := GL_w10.out.keep fun k _ hk2 => hb.block k hk2
  have HB_w11 : Hid (Below w.heap.size w w11) := HB_w10.out.trans (hb.mono HB_w10.out.size)
  clear hb
  have tm : (mG != mG) = false := by simp
  go_wp2_with fail
  -- called once more
  refine (toInts_calls xs (.slice ada xs.length capa) w11 (HA.out.next HB_w11.out) HL.out).mono ?_
  rintro en w12 ⟨hA, rfl, hvhA, hbhA⟩
  have HXw12 : Hid (Below w11.heap.size w11 w12) := hbhA
  have HhA_w12 : Hid (IIn w12 xs hA) := hvhA.inn
  clear hvhA hbhA
  go_wp2_with fail
  refine (HSI.out hA w12 HhA_w12.out).mono ?_
  rintro en w13 ⟨vhG, rfl, hres, hbr⟩
  have HXw13 : Hid (Below w11.heap.size w11 w13) := HXw12.out.trans (hbr.mono HXw12.out.size)
  have HRh := mkHid hres
  have HSh : Hid (w12.heap.size ≤ w13.heap.size ∧ w11.heap.size ≤ w12.heap.size) := ⟨hbr.size, HXw12.out.size⟩
  clear hres hbr
  have LE_w13 : Hid (w2.heap.size ≤ w13.heap.size) := Nat.le_trans LE_w11.out HXw13.out.size
  have W0_w13 : Hid (CellsOn w13 (Lt w2.heap.size) G vsG) := W0_w11.out.mono (fun _ hk => hk) fun k hk => HXw13.out.block k (Nat.lt_of_lt_of_le hk LE_w11.out)
  have GL_w13 : Hid (GOwn w13 fG (labC G 1) gG) := GL_w11.out.keep fun k _ hk2 => HXw13.out.block k hk2
  have HB_w13 : Hid (Below w.heap.size w w13) := HB_w11.out.trans (HXw13.out.mono HB_w11.out.size)
  have HGH := HRh
  go_wp2_with fail
  refine (eqCells_calls G _ _ _ HGH.out.inn (W0_w13.out.mono (fun k hk => Nat.lt_of_lt_of_le hk LE_w13.out) fun _ _ => rfl)).mono ?_
  rintro en w14 ⟨rfl, hb⟩
  have LE_w14 : Hid (w2.heap.size ≤ w14.heap.size) := Nat.le_trans LE_w13.out hb.size
  have W0_w14 : Hid (CellsOn w14 (Lt w2.heap.size) G vsG) := W0_w13.out.mono (fun _ hk => hk) fun k hk => hb.block k (Nat.lt_of_lt_of_le hk LE_w13.out)
  have GL_w14 : Hid (GOwn w14 fG (labC G 1) gG) := GL_w13.out.keep fun k _ hk2 => hb.block k hk2
  have HB_w14 : Hid (Below w.heap.size w w14) := HB_w13.out.trans (hb.mono HB_w13.out.size)
  clear hb
  go_wp2_with fail
  refine (gheld_calls G _ 1 w14 GL_w14.out.inn (by omega) (by omega) (by have := HGS.out; omega)).mono ?_
  rintro en w15 ⟨rfl, hb⟩
  rw [← HMG.out]
  have GL_w15 : Hid (GOwn w15 fG (labC G 1) gG) := GL_w14.out.keep fun k _ hk2 => hb.block k hk2
  have HB_w15 : Hid (Below w.heap.size w w15) := HB_w14.out.trans (hb.mono HB_w14.out.size)
  clear hb
  go_wp2_with fail
  go_ret
  exact ⟨rfl, HB_w15.out⟩
end Go.Proofs.Ytiipcgnkfhjpeaa.lawExactUnpackWords
