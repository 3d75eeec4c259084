/-
  THE WALK OF FnExactEvalGraph.
-/
import Derived.Test.YtjpjikfmdaejeaaGreatDoorMgExactEvalGraph11
import Derived.Test.YtjpjikfmdaejeaaGreatDoorMgExactEvalGraph3
import Derived.Test.YtjpjikfmdaejeaaGreatDoorMgExactEvalGraph1
import Derived.Test.YtjpjikfmdaejeaaGreatDoorMgExactEvalGraph2
import Derived.Deep.RegionHeld3
namespace Go.Proofs.YtjpjikfmdaejeaaGreatDoor.lawExactEvalGraph
open Go.ChangeShapes Go.WideShapes Go.ChangeAt Go.RowKit
set_option linter.unusedVariables false
set_option linter.unusedSimpArgs false

theorem cArity_le (op : Int) : cArity op ≤ 3 := by
  unfold cArity arity
  repeat' split
  all_goals omega
theorem sumK_le3 : ∀ (g : List Ce), (∀ c ∈ g, c.kids.length ≤ 3) → sumK g ≤ 3 * g.length
  | [], _ => by simp [sumK]
  | c :: g, h => by
    have h1 := h c (List.mem_cons_self ..)
    have h2 := sumK_le3 g fun d hd => h d (List.mem_cons_of_mem _ hd)
    have h3 : sumK (c :: g) = c.kids.length + sumK g := by simp [sumK]
    rw [h3]
    simp only [List.length_cons]
    omega
theorem graphB_sumK {g : List Ce} {defs : Int} (h : graphB g defs = true) : g.length + sumK g ≤ 2000 := by
  have h0 : sumK g ≤ 3 * g.length := by
    refine sumK_le3 g fun c hc => ?_
    obtain ⟨i, hi, rfl⟩ := List.getElem_of_mem hc
    have h1 := graphB_cell h i hi
    unfold cellB fitsB at h1
    simp only [Bool.and_eq_true, decide_eq_true_eq] at h1
    have h2 := cArity_le g[i].op
    have h3 := h1.1.1
    omega
  have h1 := graphB_len h
  omega
theorem ans_small (ds : List Df) (g : List Ce) (a f : Int) : (evO ds g a f).1.length + sumK (evO ds g a f).1 ≤ 2000 := by
  by_cases h : rightB ds g a = true ∧ 0 ≤ f ∧ f ≤ 300
  · obtain ⟨hp, hg, h0, h1⟩ := right_parts h.1
    obtain ⟨n, rfl⟩ : ∃ n : Nat, a = (n : Int) := ⟨a.toNat, by omega⟩
    obtain ⟨k, rfl⟩ : ∃ k : Nat, f = (k : Int) := ⟨f.toNat, by omega⟩
    rw [evO_yes h.1 (by omega)]
    exact graphB_sumK (evalG_valid hp k g hg (by omega)).1
  · rw [evO_no h]; simp [sumK]

set_option maxRecDepth 100000 in
set_option maxHeartbeats 12800000 in
theorem walk (ds : List Df) (cp : Value) (g : List Ce) (cg : Value) (i0 : Int) (i1 : Int) (w : World) (hdk : DIn w ds cp) (hgk : CIn w g cg) (hi0 : I64 i0) (hi1 : I64 i1) (aF aS aL : Addr) (hE : Errs aF aS aL w) :
    Calls Tryz.prog 4 #[cp, cg, .int .i64 i0, .int .i64 i1] w fun e w' => e = .returned (.bool true) ∧ Below w.heap.size w w' := by
  have HD : Hid (DIn w ds cp) := hdk
  obtain ⟨adp, capp, rfl, -, -, -⟩ := hdk
  have HG : Hid (CIn w g cg) := hgk
  obtain ⟨adg, capg, rfl, -, -, -⟩ := hgk
  have HE := mkHid hE
  clear hE
  obtain ⟨G, hG⟩ : ∃ G : List Ce, G = (evO ds g i0 i1).1 := ⟨_, rfl⟩
  obtain ⟨r1, hr1⟩ : ∃ r1 : Int, r1 = ((evO ds g i0 i1).2.1 : Int) := ⟨_, rfl⟩
  obtain ⟨r2, hr2⟩ : ∃ r2 : Int, r2 = ((evO ds g i0 i1).2.2 : Int) := ⟨_, rfl⟩
  have HGS : Hid (G.length + sumK G ≤ 2000) := by rw [hG]; exact ans_small ds g i0 i1
  have HSS : Hid (∀ (u z : Value) (W : World), Below w.heap.size w W → DInP W ds u → CIn W g z → Calls Tryz.prog 16 #[u, z, .int .i64 i0, .int .i64 i1] W fun en w' => ∃ v, en = .returned (.tuple #[v, .int .i64 r1, .int .i64 r2]) ∧ CIn w' G v ∧ Below W.heap.size W w') := fun u z W _ h1 h2 => (specEvalG_calls ds g i0 i1 u z W h1.inP h2).mono fun en w' h => by
    obtain ⟨v, e1, e2, e3⟩ := h
    rw [hG, hr1, hr2]
    exact ⟨v, e1, e2, e3⟩
  have HSI : Hid (∀ (u z : Value) (W : World), Below w.heap.size w W → DInP W ds u → CIn W g z → Calls Tryz.prog 17 #[u, z, .int .i64 i0, .int .i64 i1] W fun en w' => ∃ v, en = .returned (.tuple #[v, .int .i64 r1, .int .i64 r2]) ∧ GOwn w' (List.range' W.heap.size (w'.heap.size - W.heap.size)) G v ∧ Below W.heap.size W w') := fun u z W hbW h1 h2 => (implEval_calls aF aS aL ds g i0 i1 u z W (HE.out.next hbW) h1 h2).mono fun en w' h => by
    obtain ⟨v, e1, e2, e3⟩ := h
    rw [hG, hr1, hr2]
    exact ⟨v, e1, e2.own fun k h _ => h, e3⟩
  clear hG hr1 hr2
  clear hi0
  clear hi1
  go_enter Tryz.func4, Tryz.ntmps4
  have HB_w : Hid (Below w.heap.size w w) := Below.refl _ _
  have hleft0 : (0 : Int) ≤ 1048576 ∧ (1048576 : Int) ≤ 1048576 := by omega
  have hrgD := szOut_range (bodies ds) 1048576 (by omega)
  go_wp2_with fail
  refine (szDefS_calls ds (.slice adp ds.length capp) _ _ (HD.out.next HB_w.out) (by omega) (by omega)).mono ?_
  rintro en w1 ⟨rfl, hb⟩
  have HB_w1 : Hid (Below w.heap.size w w1) := HB_w.out.trans (hb.mono HB_w.out.size)
  clear hb
  by_cases hneg : szOut (bodies ds) 1048576 < 0
  · go_wp2_with fail
    go_ret
    exact ⟨rfl, HB_w1.out⟩
  have HZD : Hid (szL (bodies ds) ≤ 1048576) := by unfold szOut at hneg; unfold Hid; split at hneg <;> omega
  generalize szOut (bodies ds) 1048576 = leftD at *
  have hrgC := szC_range g leftD (by omega)
  go_wp2_with fail
  refine (szCells_calls g (.slice adg g.length capg) _ _ (HG.out.next HB_w1.out) (by omega) (by omega)).mono ?_
  rintro en w2 ⟨rfl, hb⟩
  have HB_w2 : Hid (Below w.heap.size w w2) := HB_w1.out.trans (hb.mono HB_w1.out.size)
  clear hb
  by_cases hnegc : szC g leftD < 0
  · go_wp2_with fail
    go_ret
    exact ⟨rfl, HB_w2.out⟩
  have HZG : Hid (g.length + sumK g ≤ 1048576) := by unfold szC at hnegc; unfold Hid; split at hnegc <;> omega
  generalize szC g leftD = leftC at *
  clear hrgD
  clear hrgC
  go_wp2_with fail
  -- the model's answer
  refine (toDefS_callsF ds (.slice adp ds.length capp) w2 (HD.out.next HB_w2.out) HZD.out).mono ?_
  rintro en w3 ⟨sD, fpsD, rfl, hvsD, -, -, hbsD⟩
  have HXw3 : Hid (Below w2.heap.size w2 w3) := hbsD
  have HsD_w3 : Hid (DInP w3 ds sD) := hvsD.on hvsD.plain
  clear hvsD hbsD
  go_wp2_with fail
  refine (toCells_calls g (.slice adg g.length capg) w3 (HG.out.next (HB_w2.out.trans (HXw3.out.mono HB_w2.out.size))) HZG.out).mono ?_
  rintro en w4 ⟨sC, rfl, hvsC, hbsC⟩
  have HXw4 : Hid (Below w2.heap.size w2 w4) := HXw3.out.trans (hbsC.mono HXw3.out.size)
  have HsC_w4 : Hid (CIn w4 g sC) := hvsC.inn
  have HsD_w4 : Hid (DInP w4 ds sD) := DefsOn.nextP HsD_w3.out hbsC
  clear hvsC hbsC
  go_wp2_with fail
  refine (HSS.out sD sC w4 (HB_w2.out.trans (HXw4.out.mono HB_w2.out.size)) HsD_w4.out HsC_w4.out).mono ?_
  rintro en w5 ⟨vsG, rfl, hres, hbr⟩
  have HXw5 : Hid (Below w2.heap.size w2 w5) := HXw4.out.trans (hbr.mono HXw4.out.size)
  have HRs := mkHid hres
  have HSs : Hid (w4.heap.size ≤ w5.heap.size ∧ w2.heap.size ≤ w4.heap.size) := ⟨hbr.size, HXw4.out.size⟩
  clear hres hbr
  have HB_w5 : Hid (Below w.heap.size w w5) := HB_w2.out.trans (HXw5.out.mono HB_w2.out.size)
  have S0 : Hid (w.heap.size ≤ w5.heap.size) := HB_w5.out.size
  have LE_w5 : Hid (w5.heap.size ≤ w5.heap.size) := Nat.le_refl _
  have W0_w5 : Hid (CellsOn w5 (Lt w5.heap.size) G vsG) := HRs.out
  -- the program's arguments
  go_wp2_with fail
  refine (toDefS_callsF ds (.slice adp ds.length capp) _ (HD.out.next HB_w5.out) HZD.out).mono ?_
  rintro en w6 ⟨xD, fD, rfl, hv, hnd, hlo, hb⟩
  have S1 : Hid (w5.heap.size ≤ w6.heap.size) := hb.size
  have HF_fD : Hid (fD.Nodup ∧ ∀ k ∈ fD, w5.heap.size ≤ k ∧ k < w6.heap.size) := ⟨hnd, fun k hk => ⟨hlo k hk, hv.lt k hk⟩⟩
  have LE_w6 : Hid (w5.heap.size ≤ w6.heap.size) := Nat.le_trans LE_w5.out hb.size
  have W0_w6 : Hid (CellsOn w6 (Lt w5.heap.size) G vsG) := W0_w5.out.mono (fun _ hk => hk) fun k hk => hb.block k (Nat.lt_of_lt_of_le hk LE_w5.out)
  have HB_w6 : Hid (Below w.heap.size w w6) := HB_w5.out.trans (hb.mono HB_w5.out.size)
  have ZfD_w6 : Hid (w6.heap.size ≤ w6.heap.size) := Nat.le_refl _
  have KD_w6 : Hid (DefsFp w6 ds fD xD) := hv
  clear hv hnd hlo hb
  go_wp2_with fail
  refine (toCells_calls g (.slice adg g.length capg) _ (HG.out.next HB_w6.out) HZG.out).mono ?_
  rintro en w7 ⟨xC, rfl, hv, hb⟩
  obtain ⟨fC, hfC⟩ : ∃ fC, fC = List.range' w6.heap.size (w7.heap.size - w6.heap.size) := ⟨_, rfl⟩
  have S2 : Hid (w6.heap.size ≤ w7.heap.size) := hb.size
  have HF_fC : Hid (True ∧ ∀ k ∈ fC, w6.heap.size ≤ k ∧ k < w7.heap.size) := ⟨trivial, fun k hk => by rw [hfC, List.mem_range'_1] at hk; have := S2.out; omega⟩
  have LE_w7 : Hid (w5.heap.size ≤ w7.heap.size) := Nat.le_trans LE_w6.out hb.size
  have W0_w7 : Hid (CellsOn w7 (Lt w5.heap.size) G vsG) := W0_w6.out.mono (fun _ hk => hk) fun k hk => hb.block k (Nat.lt_of_lt_of_le hk LE_w6.out)
  have ZfD_w7 : Hid (w6.heap.size ≤ w7.heap.size) := Nat.le_trans ZfD_w6.out hb.size
  have KD_w7 : Hid (DefsFp w7 ds fD xD) := DefsFp.keep KD_w6.out fun k hk => hb.block k (DefsFp.lt KD_w6.out k hk)
  have HB_w7 : Hid (Below w.heap.size w w7) := HB_w6.out.trans (hb.mono HB_w6.out.size)
  have ZfC_w7 : Hid (w7.heap.size ≤ w7.heap.size) := Nat.le_refl _
  have XC_w7 : Hid (CIn w7 g xC) := hv.inn
  have KC_w7 : Hid (CShape w7 fC (g.map (·.kids.length)) xC) := by rw [Hid, hfC]; exact CellRow.shape hv
  clear hv hb hfC
  go_wp2_with fail
  -- the program's answer
  refine (HSI.out xD xC _ HB_w7.out (KD_w7.out.on KD_w7.out.plain) XC_w7.out).mono ?_
  rintro en w8 ⟨gG, rfl, hres, hb⟩
  have SR : Hid (w7.heap.size ≤ w8.heap.size) := hb.size
  obtain ⟨fG, hfG⟩ : ∃ fG, fG = List.range' w7.heap.size (w8.heap.size - w7.heap.size) := ⟨_, rfl⟩
  have HF_fG : Hid (True ∧ ∀ k ∈ fG, w7.heap.size ≤ k ∧ k < w8.heap.size) := ⟨trivial, fun k hk => by rw [hfG, List.mem_range'_1] at hk; have := SR.out; omega⟩
  rw [← hfG] at hres
  have LE_w8 : Hid (w5.heap.size ≤ w8.heap.size) := Nat.le_trans LE_w7.out hb.size
  have W0_w8 : Hid (CellsOn w8 (Lt w5.heap.size) G vsG) := W0_w7.out.mono (fun _ hk => hk) fun k hk => hb.block k (Nat.lt_of_lt_of_le hk LE_w7.out)
  have ZfD_w8 : Hid (w6.heap.size ≤ w8.heap.size) := Nat.le_trans ZfD_w7.out hb.size
  have KD_w8 : Hid (DefsFp w8 ds fD xD) := DefsFp.keep KD_w7.out fun k hk => hb.block k (DefsFp.lt KD_w7.out k hk)
  have ZfC_w8 : Hid (w7.heap.size ≤ w8.heap.size) := Nat.le_trans ZfC_w7.out hb.size
  have XC_w8 : Hid (CIn w8 g xC) := XC_w7.out.next hb
  have KC_w8 : Hid (CShape w8 fC (g.map (·.kids.length)) xC) := CShape.blocks KC_w7.out fun b hb9 => hb.block b (Nat.lt_of_lt_of_le (HF_fC.out.2 b hb9).2 ZfC_w7.out)
  have HB_w8 : Hid (Below w.heap.size w w8) := HB_w7.out.trans (hb.mono HB_w7.out.size)
  have GO_w8 : Hid (GOwn w8 fG G gG) := hres
  have ZfG_w8 : Hid (w8.heap.size ≤ w8.heap.size) := Nat.le_refl _
  clear hb hres hfG
  have t1 : (r1 != r1) = false := by simp
  have t2 : (r2 != r2) = false := by simp
  go_wp2_with fail
  refine (eqCells_calls G _ _ _ GO_w8.out.inn (W0_w8.out.mono (fun k hk => Nat.lt_of_lt_of_le hk LE_w8.out) fun _ _ => rfl)).mono ?_
  rintro en w9 ⟨rfl, hb⟩
  have LE_w9 : Hid (w5.heap.size ≤ w9.heap.size) := Nat.le_trans LE_w8.out hb.size
  have W0_w9 : Hid (CellsOn w9 (Lt w5.heap.size) G vsG) := W0_w8.out.mono (fun _ hk => hk) fun k hk => hb.block k (Nat.lt_of_lt_of_le hk LE_w8.out)
  have ZfD_w9 : Hid (w6.heap.size ≤ w9.heap.size) := Nat.le_trans ZfD_w8.out hb.size
  have KD_w9 : Hid (DefsFp w9 ds fD xD) := DefsFp.keep KD_w8.out fun k hk => hb.block k (DefsFp.lt KD_w8.out k hk)
  have ZfC_w9 : Hid (w7.heap.size ≤ w9.heap.size) := Nat.le_trans ZfC_w8.out hb.size
  have XC_w9 : Hid (CIn w9 g xC) := XC_w8.out.next hb
  have KC_w9 : Hid (CShape w9 fC (g.map (·.kids.length)) xC) := CShape.blocks KC_w8.out fun b hb9 => hb.block b (Nat.lt_of_lt_of_le (HF_fC.out.2 b hb9).2 ZfC_w8.out)
  have GO_w9 : Hid (GOwn w9 fG G gG) := GO_w8.out.keep fun k hk _ => hb.block k (Nat.lt_of_lt_of_le (HF_fG.out.2 k hk).2 ZfG_w8.out)
  have ZfG_w9 : Hid (w8.heap.size ≤ w9.heap.size) := Nat.le_trans ZfG_w8.out hb.size
  have HB_w9 : Hid (Below w.heap.size w w9) := HB_w8.out.trans (hb.mono HB_w8.out.size)
  clear hb
  go_wp2_with fail
  refine (toDefS_callsF ds (.slice adp ds.length capp) _ (HD.out.next HB_w9.out) HZD.out).mono ?_
  rintro en w10 ⟨yD, fpyD, rfl, hvyD, -, -, hbyD⟩
  have LE_w10 : Hid (w5.heap.size ≤ w10.heap.size) := Nat.le_trans LE_w9.out hbyD.size
  have W0_w10 : Hid (CellsOn w10 (Lt w5.heap.size) G vsG) := W0_w9.out.mono (fun _ hk => hk) fun k hk => hbyD.block k (Nat.lt_of_lt_of_le hk LE_w9.out)
  have ZfD_w10 : Hid (w6.heap.size ≤ w10.heap.size) := Nat.le_trans ZfD_w9.out hbyD.size
  have KD_w10 : Hid (DefsFp w10 ds fD xD) := DefsFp.keep KD_w9.out fun k hk => hbyD.block k (DefsFp.lt KD_w9.out k hk)
  have ZfC_w10 : Hid (w7.heap.size ≤ w10.heap.size) := Nat.le_trans ZfC_w9.out hbyD.size
  have XC_w10 : Hid (CIn w10 g xC) := XC_w9.out.next hbyD
  have KC_w10 : Hid (CShape w10 fC (g.map (·.kids.length)) xC) := CShape.blocks KC_w9.out fun b hb9 => hbyD.block b (Nat.lt_of_lt_of_le (HF_fC.out.2 b hb9).2 ZfC_w9.out)
  have GO_w10 : Hid (GOwn w10 fG G gG) := GO_w9.out.keep fun k hk _ => hbyD.block k (Nat.lt_of_lt_of_le (HF_fG.out.2 k hk).2 ZfG_w9.out)
  have ZfG_w10 : Hid (w8.heap.size ≤ w10.heap.size) := Nat.le_trans ZfG_w9.out hbyD.size
  have HB_w10 : Hid (Below w.heap.size w w10) := HB_w9.out.trans (hbyD.mono HB_w9.out.size)
  have HY : Hid (DIn w10 ds yD) := hvyD.on hvyD.lt
  clear hvyD hbyD
  go_wp2_with fail
  refine (eqDefS_calls ds xD yD _ (KD_w10.out.on KD_w10.out.lt) HY.out).mono ?_
  rintro en w11 ⟨rfl, hb⟩
  clear HY
  have LE_w11 : Hid (w5.heap.size ≤ w11.heap.size) := Nat.le_trans LE_w10.out hb.size
  have W0_w11 : Hid (CellsOn w11 (Lt w5.heap.size) G vsG) := W0_w10.out.mono (fun _ hk => hk) fun k hk => hb.block k (Nat.lt_of_lt_of_le hk LE_w10.out)
  have ZfD_w11 : Hid (w6.heap.size ≤ w11.heap.size) := Nat.le_trans ZfD_w10.out hb.size
  have KD_w11 : Hid (DefsFp w11 ds fD xD) := DefsFp.keep KD_w10.out fun k hk => hb.block k (DefsFp.lt KD_w10.out k hk)
  have ZfC_w11 : Hid (w7.heap.size ≤ w11.heap.size) := Nat.le_trans ZfC_w10.out hb.size
  have XC_w11 : Hid (CIn w11 g xC) := XC_w10.out.next hb
  have KC_w11 : Hid (CShape w11 fC (g.map (·.kids.length)) xC) := CShape.blocks KC_w10.out fun b hb9 => hb.block b (Nat.lt_of_lt_of_le (HF_fC.out.2 b hb9).2 ZfC_w10.out)
  have GO_w11 : Hid (GOwn w11 fG G gG) := GO_w10.out.keep fun k hk _ => hb.block k (Nat.lt_of_lt_of_le (HF_fG.out.2 k hk).2 ZfG_w10.out)
  have ZfG_w11 : Hid (w8.heap.size ≤ w11.heap.size) := Nat.le_trans ZfG_w10.out hb.size
  have HB_w11 : Hid (Below w.heap.size w w11) := HB_w10.out.trans (hb.mono HB_w10.out.size)
  clear hb
  go_wp2_with fail
  refine (toCells_calls g (.slice adg g.length capg) _ (HG.out.next HB_w11.out) HZG.out).mono ?_
  rintro en w12 ⟨yC, rfl, hvyC, hbyC⟩
  have LE_w12 : Hid (w5.heap.size ≤ w12.heap.size) := Nat.le_trans LE_w11.out hbyC.size
  have W0_w12 : Hid (CellsOn w12 (Lt w5.heap.size) G vsG) := W0_w11.out.mono (fun _ hk => hk) fun k hk => hbyC.block k (Nat.lt_of_lt_of_le hk LE_w11.out)
  have ZfD_w12 : Hid (w6.heap.size ≤ w12.heap.size) := Nat.le_trans ZfD_w11.out hbyC.size
  have KD_w12 : Hid (DefsFp w12 ds fD xD) := DefsFp.keep KD_w11.out fun k hk => hbyC.block k (DefsFp.lt KD_w11.out k hk)
  have ZfC_w12 : Hid (w7.heap.size ≤ w12.heap.size) := Nat.le_trans ZfC_w11.out hbyC.size
  have XC_w12 : Hid (CIn w12 g xC) := XC_w11.out.next hbyC
  have KC_w12 : Hid (CShape w12 fC (g.map (·.kids.length)) xC) := CShape.blocks KC_w11.out fun b hb9 => hbyC.block b (Nat.lt_of_lt_of_le (HF_fC.out.2 b hb9).2 ZfC_w11.out)
  have GO_w12 : Hid (GOwn w12 fG G gG) := GO_w11.out.keep fun k hk _ => hbyC.block k (Nat.lt_of_lt_of_le (HF_fG.out.2 k hk).2 ZfG_w11.out)
  have ZfG_w12 : Hid (w8.heap.size ≤ w12.heap.size) := Nat.le_trans ZfG_w11.out hbyC.size
  have HB_w12 : Hid (Below w.heap.size w w12) := HB_w11.out.trans (hbyC.mono HB_w11.out.size)
  have HY : Hid (CIn w12 g yC) := hvyC.inn
  clear hvyC hbyC
  go_wp2_with fail
  refine (eqCells_calls g xC yC _ XC_w12.out HY.out).mono ?_
  rintro en w13 ⟨rfl, hb⟩
  clear HY
  have LE_w13 : Hid (w5.heap.size ≤ w13.heap.size) := Nat.le_trans LE_w12.out hb.size
  have W0_w13 : Hid (CellsOn w13 (Lt w5.heap.size) G vsG) := W0_w12.out.mono (fun _ hk => hk) fun k hk => hb.block k (Nat.lt_of_lt_of_le hk LE_w12.out)
  have ZfD_w13 : Hid (w6.heap.size ≤ w13.heap.size) := Nat.le_trans ZfD_w12.out hb.size
  have KD_w13 : Hid (DefsFp w13 ds fD xD) := DefsFp.keep KD_w12.out fun k hk => hb.block k (DefsFp.lt KD_w12.out k hk)
  have ZfC_w13 : Hid (w7.heap.size ≤ w13.heap.size) := Nat.le_trans ZfC_w12.out hb.size
  have XC_w13 : Hid (CIn w13 g xC) := XC_w12.out.next hb
  have KC_w13 : Hid (CShape w13 fC (g.map (·.kids.length)) xC) := CShape.blocks KC_w12.out fun b hb9 => hb.block b (Nat.lt_of_lt_of_le (HF_fC.out.2 b hb9).2 ZfC_w12.out)
  have GO_w13 : Hid (GOwn w13 fG G gG) := GO_w12.out.keep fun k hk _ => hb.block k (Nat.lt_of_lt_of_le (HF_fG.out.2 k hk).2 ZfG_w12.out)
  have ZfG_w13 : Hid (w8.heap.size ≤ w13.heap.size) := Nat.le_trans ZfG_w12.out hb.size
  have HB_w13 : Hid (Below w.heap.size w w13) := HB_w12.out.trans (hb.mono HB_w12.out.size)
  clear hb
  -- the arguments are marked
  go_wp2_with fail
  refine (markDefs_calls ds fD xD 1 w13 KD_w13.out HF_fD.out.1 (by omega) (by omega) HZD.out).mono ?_
  rintro en w14 ⟨rfl, hb⟩
  have LE_w14 : Hid (w5.heap.size ≤ w14.heap.size) := Nat.le_trans LE_w13.out hb.size
  have W0_w14 : Hid (CellsOn w14 (Lt w5.heap.size) G vsG) := W0_w13.out.mono (fun _ hk => hk) fun k (hk : k < _) => hb.block k (Nat.lt_of_lt_of_le hk LE_w13.out) (fun h => by have := (HF_fD.out.2 _ h); have := S0.out; have := S1.out; have := S2.out; have := SR.out; omega)
  have ZfC_w14 : Hid (w7.heap.size ≤ w14.heap.size) := Nat.le_trans ZfC_w13.out hb.size
  have KC_w14 : Hid (CShape w14 fC (g.map (·.kids.length)) xC) := CShape.blocks KC_w13.out fun b hb9 => hb.block b (Nat.lt_of_lt_of_le (HF_fC.out.2 b hb9).2 ZfC_w13.out) (fun h => by have := (HF_fD.out.2 _ h); have := (HF_fC.out.2 _ hb9); have := S0.out; have := S1.out; have := S2.out; have := SR.out; omega)
  have GO_w14 : Hid (GOwn w14 fG G gG) := GO_w13.out.keep fun b hb9 _ => hb.block b (Nat.lt_of_lt_of_le (HF_fG.out.2 b hb9).2 ZfG_w13.out) (fun h => by have := (HF_fD.out.2 _ h); have := (HF_fG.out.2 _ hb9); have := S0.out; have := S1.out; have := S2.out; have := SR.out; omega)
  have ZfG_w14 : Hid (w8.heap.size ≤ w14.heap.size) := Nat.le_trans ZfG_w13.out hb.size
  have HB_w14 : Hid (Below w.heap.size w w14) := HB_w13.out.trans (hb.below (fun k h => by have := (HF_fD.out.2 _ h); have := S0.out; have := S1.out; have := S2.out; have := SR.out; omega) HB_w13.out.size)
  clear hb
  have hzD := sumZ_szL ds
  obtain ⟨kD, hkD⟩ : ∃ kD : Int, kD = 1 + ((3 * ds.length + 2 * sumZ ds : Nat) : Int) := ⟨_, rfl⟩
  rw [← hkD]
  have hkD0 : 0 ≤ kD := by omega
  have hkD1 : kD ≤ 1 + 3145728 := by have := HZD.out; omega
  clear hkD hzD
  go_wp2_with fail
  refine (markCells_calls _ fC xC kD w14 KC_w14.out (by omega) (by omega) (by rw [sum_shape, List.length_map]; exact HZG.out)).mono ?_
  rintro en w15 ⟨rfl, hb⟩
  have LE_w15 : Hid (w5.heap.size ≤ w15.heap.size) := Nat.le_trans LE_w14.out hb.size
  have W0_w15 : Hid (CellsOn w15 (Lt w5.heap.size) G vsG) := W0_w14.out.mono (fun _ hk => hk) fun k (hk : k < _) => hb.block k (Nat.lt_of_lt_of_le hk LE_w14.out) (fun h => by have := (HF_fC.out.2 _ h); have := S0.out; have := S1.out; have := S2.out; have := SR.out; omega)
  have GO_w15 : Hid (GOwn w15 fG G gG) := GO_w14.out.keep fun b hb9 _ => hb.block b (Nat.lt_of_lt_of_le (HF_fG.out.2 b hb9).2 ZfG_w14.out) (fun h => by have := (HF_fC.out.2 _ h); have := (HF_fG.out.2 _ hb9); have := S0.out; have := S1.out; have := S2.out; have := SR.out; omega)
  have ZfG_w15 : Hid (w8.heap.size ≤ w15.heap.size) := Nat.le_trans ZfG_w14.out hb.size
  have HB_w15 : Hid (Below w.heap.size w w15) := HB_w14.out.trans (hb.below (fun k h => by have := (HF_fC.out.2 _ h); have := S0.out; have := S1.out; have := S2.out; have := SR.out; omega) HB_w14.out.size)
  clear hb
  have hkB : ((2 * (g.map (·.kids.length)).length + sumN' (g.map (·.kids.length)) : Nat) : Int) ≤ 2097152 := by rw [sum_shape, List.length_map]; have := HZG.out; omega
  obtain ⟨kC, hkC⟩ : ∃ kC : Int, kC = kD + ((2 * (g.map (·.kids.length)).length + sumN' (g.map (·.kids.length)) : Nat) : Int) := ⟨_, rfl⟩
  rw [← hkC]
  have hkC0 : 0 ≤ kC := by omega
  have hkC1 : kC ≤ 1 + 3145728 + 2097152 := by omega
  clear hkC hkB
  go_wp2_with fail
  refine (eqCells_calls G _ _ _ GO_w15.out.inn (W0_w15.out.mono (fun k hk => Nat.lt_of_lt_of_le hk LE_w15.out) fun _ _ => rfl)).mono ?_
  rintro en w16 ⟨rfl, hb⟩
  have LE_w16 : Hid (w5.heap.size ≤ w16.heap.size) := Nat.le_trans LE_w15.out hb.size
  have W0_w16 : Hid (CellsOn w16 (Lt w5.heap.size) G vsG) := W0_w15.out.mono (fun _ hk => hk) fun k hk => hb.block k (Nat.lt_of_lt_of_le hk LE_w15.out)
  have GO_w16 : Hid (GOwn w16 fG G gG) := GO_w15.out.keep fun k hk _ => hb.block k (Nat.lt_of_lt_of_le (HF_fG.out.2 k hk).2 ZfG_w15.out)
  have ZfG_w16 : Hid (w8.heap.size ≤ w16.heap.size) := Nat.le_trans ZfG_w15.out hb.size
  have HB_w16 : Hid (Below w.heap.size w w16) := HB_w15.out.trans (hb.mono HB_w15.out.size)
  clear hb
  go_wp2_with fail
  -- the answer is marked
  refine (gmarkO_calls G fG _ 1 w16 GO_w16.out (by omega) (by omega) (by have := HGS.out; omega)).mono ?_
  rintro en w17 ⟨rfl, hk9, hb⟩
  have LE_w17 : Hid (w5.heap.size ≤ w17.heap.size) := Nat.le_trans LE_w16.out hb.size
  have W0_w17 : Hid (CellsOn w17 (Lt w5.heap.size) G vsG) := W0_w16.out.mono (fun _ hk => hk) fun k (hk : k < _) => hb.block k (Nat.lt_of_lt_of_le hk LE_w16.out) (fun h => by have := (HF_fG.out.2 _ h); have := S0.out; have := S1.out; have := S2.out; have := SR.out; omega)
  have HB_w17 : Hid (Below w.heap.size w w17) := HB_w16.out.trans (hb.below (fun k h => by have := (HF_fG.out.2 _ h); have := S0.out; have := S1.out; have := S2.out; have := SR.out; omega) HB_w16.out.size)
  have GL_w17 : Hid (CIn w17 (labC G 1) gG) := hk9
  clear hb hk9
  obtain ⟨mG, hmG⟩ : ∃ mG : Int, mG = 1 + 2 * (G.length : Int) + (sumK G : Int) := ⟨_, rfl⟩
  have HMG := mkHid hmG
  have hmG0 : 0 ≤ mG ∧ mG ≤ 1048576 := by have := HGS.out; omega
  rw [← hmG]
  clear hmG
  go_wp2_with fail
  refine (gheld_calls G _ 1 w17 GL_w17.out (by omega) (by omega) (by have := HGS.out; omega)).mono ?_
  rintro en w18 ⟨rfl, hb⟩
  rw [← HMG.out]
  have LE_w18 : Hid (w5.heap.size ≤ w18.heap.size) := Nat.le_trans LE_w17.out hb.size
  have W0_w18 : Hid (CellsOn w18 (Lt w5.heap.size) G vsG) := W0_w17.out.mono (fun _ hk => hk) fun k hk => hb.block k (Nat.lt_of_lt_of_le hk LE_w17.out)
  have GL_w18 : Hid (CIn w18 (labC G 1) gG) := GL_w17.out.next hb
  have HB_w18 : Hid (Below w.heap.size w w18) := HB_w17.out.trans (hb.mono HB_w17.out.size)
  clear hb
  have tm : (mG != mG) = false := by simp
  go_wp2_with fail
  -- called once more
  refine (toDefS_callsF ds (.slice adp ds.length capp) w18 (HD.out.next HB_w18.out) HZD.out).mono ?_
  rintro en w19 ⟨hD, fphD, rfl, hvhD, -, -, hbhD⟩
  have HXw19 : Hid (Below w18.heap.size w18 w19) := hbhD
  have HhD_w19 : Hid (DInP w19 ds hD) := hvhD.on hvhD.plain
  clear hvhD hbhD
  go_wp2_with fail
  refine (toCells_calls g (.slice adg g.length capg) w19 (HG.out.next (HB_w18.out.trans (HXw19.out.mono HB_w18.out.size))) HZG.out).mono ?_
  rintro en w20 ⟨hC, rfl, hvhC, hbhC⟩
  have HXw20 : Hid (Below w18.heap.size w18 w20) := HXw19.out.trans (hbhC.mono HXw19.out.size)
  have HhC_w20 : Hid (CIn w20 g hC) := hvhC.inn
  have HhD_w20 : Hid (DInP w20 ds hD) := DefsOn.nextP HhD_w19.out hbhC
  clear hvhC hbhC
  go_wp2_with fail
  refine (HSI.out hD hC w20 (HB_w18.out.trans (HXw20.out.mono HB_w18.out.size)) HhD_w20.out HhC_w20.out).mono ?_
  rintro en w21 ⟨vhG, rfl, hres, hbr⟩
  have HXw21 : Hid (Below w18.heap.size w18 w21) := HXw20.out.trans (hbr.mono HXw20.out.size)
  have HRh := mkHid hres
  have HSh : Hid (w20.heap.size ≤ w21.heap.size ∧ w18.heap.size ≤ w20.heap.size) := ⟨hbr.size, HXw20.out.size⟩
  clear hres hbr
  have LE_w21 : Hid (w5.heap.size ≤ w21.heap.size) := Nat.le_trans LE_w18.out HXw21.out.size
  have W0_w21 : Hid (CellsOn w21 (Lt w5.heap.size) G vsG) := W0_w18.out.mono (fun _ hk => hk) fun k hk => HXw21.out.block k (Nat.lt_of_lt_of_le hk LE_w18.out)
  have GL_w21 : Hid (CIn w21 (labC G 1) gG) := GL_w18.out.next HXw21.out
  have HB_w21 : Hid (Below w.heap.size w w21) := HB_w18.out.trans (HXw21.out.mono HB_w18.out.size)
  have HGH := HRh
  go_wp2_with fail
  refine (eqCells_calls G _ _ _ HGH.out.inn (W0_w21.out.mono (fun k hk => Nat.lt_of_lt_of_le hk LE_w21.out) fun _ _ => rfl)).mono ?_
  rintro en w22 ⟨rfl, hb⟩
  have LE_w22 : Hid (w5.heap.size ≤ w22.heap.size) := Nat.le_trans LE_w21.out hb.size
  have W0_w22 : Hid (CellsOn w22 (Lt w5.heap.size) G vsG) := W0_w21.out.mono (fun _ hk => hk) fun k hk => hb.block k (Nat.lt_of_lt_of_le hk LE_w21.out)
  have GL_w22 : Hid (CIn w22 (labC G 1) gG) := GL_w21.out.next hb
  have HB_w22 : Hid (Below w.heap.size w w22) := HB_w21.out.trans (hb.mono HB_w21.out.size)
  clear hb
  go_wp2_with fail
  refine (gheld_calls G _ 1 w22 GL_w22.out (by omega) (by omega) (by have := HGS.out; omega)).mono ?_
  rintro en w23 ⟨rfl, hb⟩
  rw [← HMG.out]
  have GL_w23 : Hid (CIn w23 (labC G 1) gG) := GL_w22.out.next hb
  have HB_w23 : Hid (Below w.heap.size w w23) := HB_w22.out.trans (hb.mono HB_w22.out.size)
  clear hb
  go_wp2_with fail
  go_ret
  exact ⟨rfl, HB_w23.out⟩
end Go.Proofs.YtjpjikfmdaejeaaGreatDoor.lawExactEvalGraph
