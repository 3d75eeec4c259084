/-
  THE WALK OF FnExactAddExpr.
-/
import Derived.Test.YthlblgibgfledaaMgExactAddExpr5
import Derived.Test.YthlblgibgfledaaMgExactAddExpr6
import Derived.Test.YthlblgibgfledaaMgExactAddExpr4
import Derived.Test.YthlblgibgfledaaMgExactAddExpr2
import Derived.Test.YthlblgibgfledaaMgExactAddExpr1
namespace Go.Proofs.Ythlblgibgfledaa.lawExactAddExpr
open Go.ChangeShapes Go.WideShapes Go.ChangeAt Go.RowKit
set_option linter.unusedVariables false
set_option linter.unusedSimpArgs false

theorem cArity_le (op : Int) : cArity op ≤ 3 := by
  unfold cArity arity
  repeat' split
  all_goals omega
theorem sumK_le3 : ∀ (g : List Ce), (∀ c ∈ g, c.kids.length ≤ 3) → sumK g ≤ 3 * g.length
  | [], _ => by simp [sumK]
  | c :: g, h => by
    have h1 := h c (List.mem_cons_self ..)
    have h2 := sumK_le3 g fun d hd => h d (List.mem_cons_of_mem _ hd)
    have h3 : sumK (c :: g) = c.kids.length + sumK g := by simp [sumK]
    rw [h3]
    simp only [List.length_cons]
    omega
theorem graphB_sumK {g : List Ce} {defs : Int} (h : graphB g defs = true) : sumK g ≤ 3 * g.length := by
  refine sumK_le3 g fun c hc => ?_
  obtain ⟨i, hi, rfl⟩ := List.getElem_of_mem hc
  have h1 := graphB_cell h i hi
  unfold cellB fitsB at h1
  simp only [Bool.and_eq_true, decide_eq_true_eq] at h1
  have h2 := cArity_le g[i].op
  have h3 := h1.1.1
  omega
theorem addOut_smallX (g : List Ce) (t : Tr) (xs : List Int) (defs : Int) : (addOut g t xs defs).1.length + sumK (addOut g t xs defs).1 ≤ 2000 := by
  by_cases h : graphB g defs = true ∧ validB t xs.length defs = true ∧ xs.all (isAt g.length) = true ∧ (addT (xs.map Int.toNat) t g).1.length ≤ 400
  · rw [addOut_yes h.1 h.2.1 h.2.2.1 h.2.2.2]
    have h' := h.2.1
    unfold validB at h'
    simp only [Bool.and_eq_true, decide_eq_true_eq] at h'
    have hs := (addT_size (xs.map Int.toNat) t g).2.2
    have h1 := graphB_sumK h.1
    have h2 := graphB_len h.1
    have h3 := h.2.2.2
    show (addT (xs.map Int.toNat) t g).1.length + sumK (addT (xs.map Int.toNat) t g).1 ≤ 2000
    omega
  · rw [addOut_no h]; simp [sumK]
theorem IntRow.shape {w : World} {lo : Nat} {xs : List Int} {v : Value} (h : IntRow w lo xs v) : IShape w (List.range' lo (w.heap.size - lo)) xs.length v := by
  obtain ⟨ad, cap, e, l1, l2, h⟩ := h
  refine ⟨ad, cap, e, l1, l2, ?_⟩
  rcases h with rfl | ⟨b, f, rfl, hb, hr, -⟩
  · exact Or.inl rfl
  · exact Or.inr ⟨b, f, rfl, by rw [List.mem_range'_1]; have := hr.lt; omega, hr⟩
theorem IShape.blocks {fp : List Nat} {w w' : World} {n : Nat} {v : Value} (h : IShape w fp n v) (k : ∀ b ∈ fp, w'.heap[b]? = w.heap[b]?) : IShape w' fp n v := by
  obtain ⟨ad, cap, e, l1, l2, h⟩ := h
  refine ⟨ad, cap, e, l1, l2, h.imp id ?_⟩
  rintro ⟨g, f, rfl, hg, hr⟩
  exact ⟨g, f, rfl, hg, hr.of_block (k g hg)⟩

set_option maxRecDepth 100000 in
set_option maxHeartbeats 12800000 in
theorem walk (g : List Ce) (cg : Value) (t : Tr) (c : Value) (xs : List Int) (ca : Value) (defs : Int) (w : World) (hgk : CIn w g cg) (hk : In w t.kids c) (hak : IIn w xs ca) (ht : I64 t.op ∧ I64 t.num) (hd0 : I64 defs) :
    Calls Try.prog 3 #[cg, .agg #[.int .i64 t.op, .int .i64 t.num, c], ca, .int .i64 defs] w fun e w' => e = .returned (.bool true) ∧ Below w.heap.size w w' := by
  have HG : Hid (CIn w g cg) := hgk
  have HK : Hid (In w t.kids c) := hk
  have HA : Hid (IIn w xs ca) := hak
  have HT : Hid (I64 t.op ∧ I64 t.num) := ht
  obtain ⟨ad, cap, rfl, -, -, -⟩ := hk
  obtain ⟨ada, capa, rfl, hal, ham, -⟩ := hak
  unfold maxLen at ham
  obtain ⟨G, hG⟩ : ∃ G : List Ce, G = (addOut g t xs defs).1 := ⟨_, rfl⟩
  obtain ⟨r, hr⟩ : ∃ r : Int, r = ((addOut g t xs defs).2.1 : Int) := ⟨_, rfl⟩
  obtain ⟨b, hb⟩ : ∃ b : Bool, b = (addOut g t xs defs).2.2 := ⟨_, rfl⟩
  have HGS : Hid (G.length + sumK G ≤ 2000) := by rw [hG]; exact addOut_smallX g t xs defs
  have HSI : Hid (∀ (u v z : Value) (W : World), CIn W g u → In W t.kids v → IIn W xs z → Calls Try.prog 12 #[u, .agg #[.int .i64 t.op, .int .i64 t.num, v], z, .int .i64 defs] W fun en w' => ∃ v, en = .returned (.tuple #[v, .int .i64 r, .bool b]) ∧ GOwn w' (List.range' W.heap.size (w'.heap.size - W.heap.size)) G v ∧ Below W.heap.size W w') := fun u v z W h1 h2 h3 => (implAddX_calls g t xs defs u v z W h1 h2 h3 HT.out.1 HT.out.2).mono fun en w' h => by
    obtain ⟨v, e1, e2, e3⟩ := h
    rw [hG, hr, hb]
    exact ⟨v, e1, e2.own fun k h _ => h, e3⟩
  have HSS : Hid (∀ (u v z : Value) (W : World), CIn W g u → In W t.kids v → IIn W xs z → Calls Try.prog 8 #[u, .agg #[.int .i64 t.op, .int .i64 t.num, v], z, .int .i64 defs] W fun en w' => ∃ v, en = .returned (.tuple #[v, .int .i64 r, .bool b]) ∧ CIn w' G v ∧ Below W.heap.size W w') := fun u v z W h1 h2 h3 => (specAddX_calls g t xs defs u v z W h1 h2 h3 HT.out.1 HT.out.2).mono fun en w' h => by
    obtain ⟨v, e1, e2, e3⟩ := h
    rw [hG, hr, hb]
    exact ⟨v, e1, (e2.own fun k h _ => h).inn, e3⟩
  have hrg := szC_range g 1048576 (by omega)
  clear ht hG hr hb hd0 hgk
  go_enter Try.func3, Try.ntmps3
  by_cases hlen : (1048576 : Int) < (xs.length : Int)
  · go_wp2_with fail
    go_ret
    exact ⟨rfl, box_below _ _⟩
  have HL : Hid (xs.length ≤ 1048576) := by unfold Hid; omega
  go_wp2_with fail
  refine (szCells_calls g cg _ _ (HG.out.next (box_below _ _)) (by omega) (by omega)).mono ?_
  rintro en w1 ⟨rfl, hb1⟩
  have BA_w1 : Hid (w1.heap[w.heap.size]? = some (.cells #[.int .i64 t.op, .int .i64 t.num, (.slice ad t.kids.length cap)] 25)) := (hb1.block _ (by rw [Deep.nblk_alloc]; exact Nat.lt_succ_self _)).trans (Deep.blk_alloc_new _ _)
  have HB_w1 : Hid (Below w.heap.size w w1) := (box_below w _).trans (hb1.mono (by rw [Deep.nblk_alloc]; omega))
  clear hb1
  by_cases hnegc : szC g 1048576 < 0
  · go_wp2_with fail
    go_ret
    exact ⟨rfl, HB_w1.out⟩
  have HZG : Hid (g.length + sumK g ≤ 1048576) := by unfold szC at hnegc; unfold Hid; split at hnegc <;> omega
  generalize szC g 1048576 = left0 at *
  have hrg2 := szOut_range t.kids left0 (by omega)
  have ba0 := cell_of_blk BA_w1.out 0 _ rfl
  have ba1 := cell_of_blk BA_w1.out 1 _ rfl
  have ba2 := cell_of_blk BA_w1.out 2 _ rfl
  have baz := cellsOf_lt BA_w1.out
  go_wp2_with fail
  refine (sz_calls t.kids _ _ _ _ _ (HK.out.next HB_w1.out) (by omega) (by omega)).mono ?_
  rintro en w2 ⟨rfl, hb2⟩
  clear ba0 ba1 ba2 baz
  have BA_w2 : Hid (w2.heap[w.heap.size]? = some (.cells #[.int .i64 t.op, .int .i64 t.num, (.slice ad t.kids.length cap)] 25)) := (hb2.block _ (cellsOf_lt BA_w1.out)).trans BA_w1.out
  have HB_w2 : Hid (Below w.heap.size w w2) := HB_w1.out.trans (hb2.mono HB_w1.out.size)
  clear hb2
  have ba0 := cell_of_blk BA_w2.out 0 _ rfl
  have ba1 := cell_of_blk BA_w2.out 1 _ rfl
  have ba2 := cell_of_blk BA_w2.out 2 _ rfl
  have baz := cellsOf_lt BA_w2.out
  by_cases hneg : szOut t.kids left0 < 0
  · go_wp2_with fail
    go_ret
    exact ⟨rfl, HB_w2.out⟩
  have HZ : Hid (szL t.kids ≤ 1048576) := by unfold szOut at hneg; unfold Hid; split at hneg <;> omega
  clear hrg
  generalize szOut t.kids left0 = left at *
  go_wp2_with fail
  -- the model's answer
  go_region_held3 (fun w' => w'.cell? ⟨w.heap.size, 0, none⟩ = some (.int .i64 t.op) ∧ w'.cell? ⟨w.heap.size, 1, none⟩ = some (.int .i64 t.num) ∧ w'.cell? ⟨w.heap.size, 2, none⟩ = some (.slice ad t.kids.length cap))
    (first
      | go_keep
      | exact ⟨rd0, rd1, rd2⟩
      | exact ⟨rc0, rc1, rc2⟩
      | exact ⟨rb0, rb1, rb2⟩
      | exact ⟨ra0, ra1, ra2⟩
      | exact ⟨ba0, ba1, ba2⟩)
    (first
      | (go_at_call 9; refine (toCells_calls g cg w2.drew (HG.out.next HB_w2.out.drew) HZG.out).mono ?_; rintro en w3 ⟨va, rfl, hva, hba⟩; have HBA : Hid (Below w2.heap.size w2 w3) := ((Below.refl _ _).drew).trans hba; have HVA : Hid (CIn w3 g va) := hva.inn; have hxra := (HBA.out.block _ baz).trans BA_w2.out; have ra0 := cell_of_blk hxra 0 _ rfl; have ra1 := cell_of_blk hxra 1 _ rfl; have ra2 := cell_of_blk hxra 2 _ rfl; clear hxra; clear hva hba)
      | (go_at_call 10; refine (to_calls t.kids _ _ _ w3 (HK.out.next (HB_w2.out.trans (HBA.out.mono HB_w2.out.size))) HZ.out).mono ?_; rintro en w4 ⟨vb, rfl, hvb, hbb⟩; have HBB : Hid (Below w2.heap.size w2 w4) := HBA.out.trans (hbb.mono HBA.out.size); have HVB : Hid (In w4 t.kids vb) := hvb.btw_in; have HVA2 : Hid (CIn w4 g va) := HVA.out.next hbb; have hxrb := (HBB.out.block _ baz).trans BA_w2.out; have rb0 := cell_of_blk hxrb 0 _ rfl; have rb1 := cell_of_blk hxrb 1 _ rfl; have rb2 := cell_of_blk hxrb 2 _ rfl; clear hxrb; clear hvb hbb)
      | (go_at_call 11; refine (toInts_calls xs _ w4 (HA.out.next (HB_w2.out.trans (HBB.out.mono HB_w2.out.size))) HL.out).mono ?_; rintro en w5 ⟨vc, rfl, hvc, hbc⟩; have HBC : Hid (Below w2.heap.size w2 w5) := HBB.out.trans (hbc.mono HBB.out.size); have HVC : Hid (IIn w5 xs vc) := hvc.inn; have HVA3 : Hid (CIn w5 g va) := HVA2.out.next hbc; have HVB3 : Hid (In w5 t.kids vb) := HVB.out.next hbc; have hxrc := (HBC.out.block _ baz).trans BA_w2.out; have rc0 := cell_of_blk hxrc 0 _ rfl; have rc1 := cell_of_blk hxrc 1 _ rfl; have rc2 := cell_of_blk hxrc 2 _ rfl; clear hxrc; clear hvc hbc)
      | (go_at_call 8; refine (HSS.out _ _ _ w5 HVA3.out HVB3.out HVC.out).mono ?_; rintro en w6 ⟨v6, rfl, hvd, hbd⟩; have HBD : Hid (Below w2.heap.size w2 w6) := HBC.out.trans (hbd.mono HBC.out.size); have HVD := mkHid hvd; have hxrd := (HBD.out.block _ baz).trans BA_w2.out; have rd0 := cell_of_blk hxrd 0 _ rfl; have rd1 := cell_of_blk hxrd 1 _ rfl; have rd2 := cell_of_blk hxrd 2 _ rfl; clear hxrd; clear hvd hbd))
  clear ba0 ba1 ba2 baz
  clear HVA HVA2 HVA3 HVB HVB3 HVC HBA HBB HBC
  have BA_w6 : Hid (w6.heap[w.heap.size]? = some (.cells #[.int .i64 t.op, .int .i64 t.num, (.slice ad t.kids.length cap)] 25)) := (HBD.out.block _ (cellsOf_lt BA_w2.out)).trans BA_w2.out
  have HB_w6 : Hid (Below w.heap.size w w6) := HB_w2.out.trans (HBD.out.mono HB_w2.out.size)
  have W0_w6 : Hid (CellsOn w6 (Lt w6.heap.size) G v6) := HVD.out
  have LE_w6 : Hid (w6.heap.size ≤ w6.heap.size) := Nat.le_refl _
  clear HVD HBD
  have S6 : Hid (w.heap.size < w6.heap.size) := cellsOf_lt BA_w6.out
  go_wp2_with fail
  -- the program's arguments
  refine (toCells_calls g cg _ (HG.out.next HB_w6.out) HZG.out).mono ?_
  rintro en w7 ⟨v7, rfl, hv7, hb7⟩
  obtain ⟨f1, hf1⟩ : ∃ f1, f1 = List.range' w6.heap.size (w7.heap.size - w6.heap.size) := ⟨_, rfl⟩
  have S7 : Hid (w6.heap.size ≤ w7.heap.size) := hb7.size
  have HF_f1 : Hid (True ∧ ∀ k ∈ f1, w6.heap.size ≤ k ∧ k < w7.heap.size) := ⟨trivial, fun k hk => by rw [hf1, List.mem_range'_1] at hk; have := S7.out; omega⟩
  have BA_w7 : Hid (w7.heap[w.heap.size]? = some (.cells #[.int .i64 t.op, .int .i64 t.num, (.slice ad t.kids.length cap)] 25)) := (hb7.block _ (cellsOf_lt BA_w6.out)).trans BA_w6.out
  have W0_w7 : Hid (CellsOn w7 (Lt w6.heap.size) G v6) := W0_w6.out.mono (fun _ hk => hk) fun k hk => hb7.block k (Nat.lt_of_lt_of_le hk LE_w6.out)
  have LE_w7 : Hid (w6.heap.size ≤ w7.heap.size) := Nat.le_trans LE_w6.out hb7.size
  have HB_w7 : Hid (Below w.heap.size w w7) := HB_w6.out.trans (hb7.mono HB_w6.out.size)
  have X0_w7 : Hid (CIn w7 g v7) := hv7.inn
  have LF_w7 : Hid (w7.heap.size ≤ w7.heap.size) := Nat.le_refl _
  have CS_w7 : Hid (CShape w7 f1 (g.map (·.kids.length)) v7) := by rw [Hid, hf1]; exact CellRow.shape hv7
  clear hv7 hb7 hf1
  have ba0 := cell_of_blk BA_w7.out 0 _ rfl
  have ba1 := cell_of_blk BA_w7.out 1 _ rfl
  have ba2 := cell_of_blk BA_w7.out 2 _ rfl
  have baz := cellsOf_lt BA_w7.out
  go_wp2_with fail
  refine (fto_calls t.kids _ _ _ _ (HK.out.next HB_w7.out) HZ.out).mono ?_
  rintro en w8 ⟨v8, rfl, hv8, hb8⟩
  obtain ⟨f2, hkf, hnd, hlo⟩ := hv8
  clear ba0 ba1 ba2 baz
  have S8 : Hid (w7.heap.size ≤ w8.heap.size) := hb8.size
  have BA_w8 : Hid (w8.heap[w.heap.size]? = some (.cells #[.int .i64 t.op, .int .i64 t.num, (.slice ad t.kids.length cap)] 25)) := (hb8.block _ (cellsOf_lt BA_w7.out)).trans BA_w7.out
  have W0_w8 : Hid (CellsOn w8 (Lt w6.heap.size) G v6) := W0_w7.out.mono (fun _ hk => hk) fun k hk => hb8.block k (Nat.lt_of_lt_of_le hk LE_w7.out)
  have LE_w8 : Hid (w6.heap.size ≤ w8.heap.size) := Nat.le_trans LE_w7.out hb8.size
  have X0_w8 : Hid (CIn w8 g v7) := X0_w7.out.next hb8
  have LF_w8 : Hid (w7.heap.size ≤ w8.heap.size) := Nat.le_trans LF_w7.out hb8.size
  have CS_w8 : Hid (CShape w8 f1 (g.map (·.kids.length)) v7) := CShape.blocks CS_w7.out fun b hb => hb8.block b (Nat.lt_of_lt_of_le (HF_f1.out.2 b hb).2 LF_w7.out)
  have HB_w8 : Hid (Below w.heap.size w w8) := HB_w7.out.trans (hb8.mono HB_w7.out.size)
  have HF_f2 : Hid (f2.Nodup ∧ ∀ k ∈ f2, w7.heap.size ≤ k ∧ k < w8.heap.size) := ⟨hnd, fun k hk => ⟨hlo k hk, hkf.lt k hk⟩⟩
  have HKF : Hid _ := hkf
  obtain ⟨ad8, cap8, rfl, -, -, -⟩ := hkf
  have K2_w8 : Hid (KidsFp w8 35 t.kids f2 (.slice ad8 t.kids.length cap8)) := HKF.out
  clear HKF hnd hlo hb8
  go_wp2_with fail
  obtain ⟨w9, hw9⟩ : ∃ w9 : World, w9 = w8.alloc (.cells #[.int .i64 t.op, .int .i64 t.num, .slice ad8 t.kids.length cap8] 35) := ⟨_, rfl⟩
  rw [← hw9]
  have hbw9 : Below w8.heap.size w8 w9 := by rw [hw9]; exact box_below _ _
  have BA_w9 : Hid (w9.heap[w.heap.size]? = some (.cells #[.int .i64 t.op, .int .i64 t.num, (.slice ad t.kids.length cap)] 25)) := (hbw9.block _ (cellsOf_lt BA_w8.out)).trans BA_w8.out
  have W0_w9 : Hid (CellsOn w9 (Lt w6.heap.size) G v6) := W0_w8.out.mono (fun _ hk => hk) fun k hk => hbw9.block k (Nat.lt_of_lt_of_le hk LE_w8.out)
  have LE_w9 : Hid (w6.heap.size ≤ w9.heap.size) := Nat.le_trans LE_w8.out hbw9.size
  have X0_w9 : Hid (CIn w9 g v7) := X0_w8.out.next hbw9
  have LF_w9 : Hid (w7.heap.size ≤ w9.heap.size) := Nat.le_trans LF_w8.out hbw9.size
  have CS_w9 : Hid (CShape w9 f1 (g.map (·.kids.length)) v7) := CShape.blocks CS_w8.out fun b hb => hbw9.block b (Nat.lt_of_lt_of_le (HF_f1.out.2 b hb).2 LF_w8.out)
  have K2_w9 : Hid (KidsFp w9 35 t.kids f2 (.slice ad8 t.kids.length cap8)) := K2_w8.out.keep fun k hk => hbw9.block k (K2_w8.out.lt k hk)
  have HB_w9 : Hid (Below w.heap.size w w9) := HB_w8.out.trans (hbw9.mono HB_w8.out.size)
  have BX_w9 : Hid (w9.heap[w8.heap.size]? = some (.cells #[.int .i64 t.op, .int .i64 t.num, (.slice ad8 t.kids.length cap8)] 35)) := by rw [hw9]; exact Deep.blk_alloc_new _ _
  have S9 : Hid (w9.heap.size = w8.heap.size + 1) := by rw [hw9]; exact Deep.nblk_alloc _ _
  clear hw9 hbw9
  refine (toInts_calls xs _ _ (HA.out.next HB_w9.out) HL.out).mono ?_
  rintro en w10 ⟨v10, rfl, hv10, hb10⟩
  obtain ⟨f4, hf4⟩ : ∃ f4, f4 = List.range' w9.heap.size (w10.heap.size - w9.heap.size) := ⟨_, rfl⟩
  have S10 : Hid (w9.heap.size ≤ w10.heap.size) := hb10.size
  have HF_f4 : Hid (True ∧ ∀ k ∈ f4, w9.heap.size ≤ k ∧ k < w10.heap.size) := ⟨trivial, fun k hk => by rw [hf4, List.mem_range'_1] at hk; have := S10.out; omega⟩
  have BA_w10 : Hid (w10.heap[w.heap.size]? = some (.cells #[.int .i64 t.op, .int .i64 t.num, (.slice ad t.kids.length cap)] 25)) := (hb10.block _ (cellsOf_lt BA_w9.out)).trans BA_w9.out
  have W0_w10 : Hid (CellsOn w10 (Lt w6.heap.size) G v6) := W0_w9.out.mono (fun _ hk => hk) fun k hk => hb10.block k (Nat.lt_of_lt_of_le hk LE_w9.out)
  have LE_w10 : Hid (w6.heap.size ≤ w10.heap.size) := Nat.le_trans LE_w9.out hb10.size
  have X0_w10 : Hid (CIn w10 g v7) := X0_w9.out.next hb10
  have LF_w10 : Hid (w7.heap.size ≤ w10.heap.size) := Nat.le_trans LF_w9.out hb10.size
  have CS_w10 : Hid (CShape w10 f1 (g.map (·.kids.length)) v7) := CShape.blocks CS_w9.out fun b hb => hb10.block b (Nat.lt_of_lt_of_le (HF_f1.out.2 b hb).2 LF_w9.out)
  have K2_w10 : Hid (KidsFp w10 35 t.kids f2 (.slice ad8 t.kids.length cap8)) := K2_w9.out.keep fun k hk => hb10.block k (K2_w9.out.lt k hk)
  have BX_w10 : Hid (w10.heap[w8.heap.size]? = some (.cells #[.int .i64 t.op, .int .i64 t.num, (.slice ad8 t.kids.length cap8)] 35)) := (hb10.block _ (cellsOf_lt BX_w9.out)).trans BX_w9.out
  have HB_w10 : Hid (Below w.heap.size w w10) := HB_w9.out.trans (hb10.mono HB_w9.out.size)
  have X2_w10 : Hid (IIn w10 xs v10) := hv10.inn
  have LI_w10 : Hid (w10.heap.size ≤ w10.heap.size) := Nat.le_refl _
  have IS_w10 : Hid (IShape w10 f4 xs.length v10) := by rw [Hid, hf4]; exact IntRow.shape hv10
  clear hv10 hb10 hf4
  have bx0 := cell_of_blk BX_w10.out 0 _ rfl
  have bx1 := cell_of_blk BX_w10.out 1 _ rfl
  have bx2 := cell_of_blk BX_w10.out 2 _ rfl
  have bxz := cellsOf_lt BX_w10.out
  go_wp2_with fail
  -- the program's answer
  refine (HSI.out _ _ _ _ X0_w10.out (K2_w10.out.on fun k hk => K2_w10.out.lt k hk) X2_w10.out).mono ?_
  rintro en w11 ⟨v11, rfl, hv11, hb11⟩
  clear bx0 bx1 bx2 bxz
  obtain ⟨f3, hf3⟩ : ∃ f3, f3 = List.range' w10.heap.size (w11.heap.size - w10.heap.size) := ⟨_, rfl⟩
  have S11 : Hid (w10.heap.size ≤ w11.heap.size) := hb11.size
  have HF_f3 : Hid (True ∧ ∀ k ∈ f3, w10.heap.size ≤ k ∧ k < w11.heap.size) := ⟨trivial, fun k hk => by rw [hf3, List.mem_range'_1] at hk; have := S11.out; omega⟩
  rw [← hf3] at hv11
  have BA_w11 : Hid (w11.heap[w.heap.size]? = some (.cells #[.int .i64 t.op, .int .i64 t.num, (.slice ad t.kids.length cap)] 25)) := (hb11.block _ (cellsOf_lt BA_w10.out)).trans BA_w10.out
  have W0_w11 : Hid (CellsOn w11 (Lt w6.heap.size) G v6) := W0_w10.out.mono (fun _ hk => hk) fun k hk => hb11.block k (Nat.lt_of_lt_of_le hk LE_w10.out)
  have LE_w11 : Hid (w6.heap.size ≤ w11.heap.size) := Nat.le_trans LE_w10.out hb11.size
  have X0_w11 : Hid (CIn w11 g v7) := X0_w10.out.next hb11
  have LF_w11 : Hid (w7.heap.size ≤ w11.heap.size) := Nat.le_trans LF_w10.out hb11.size
  have CS_w11 : Hid (CShape w11 f1 (g.map (·.kids.length)) v7) := CShape.blocks CS_w10.out fun b hb => hb11.block b (Nat.lt_of_lt_of_le (HF_f1.out.2 b hb).2 LF_w10.out)
  have K2_w11 : Hid (KidsFp w11 35 t.kids f2 (.slice ad8 t.kids.length cap8)) := K2_w10.out.keep fun k hk => hb11.block k (K2_w10.out.lt k hk)
  have BX_w11 : Hid (w11.heap[w8.heap.size]? = some (.cells #[.int .i64 t.op, .int .i64 t.num, (.slice ad8 t.kids.length cap8)] 35)) := (hb11.block _ (cellsOf_lt BX_w10.out)).trans BX_w10.out
  have X2_w11 : Hid (IIn w11 xs v10) := X2_w10.out.next hb11
  have LI_w11 : Hid (w10.heap.size ≤ w11.heap.size) := Nat.le_trans LI_w10.out hb11.size
  have IS_w11 : Hid (IShape w11 f4 xs.length v10) := IShape.blocks IS_w10.out fun b hb => hb11.block b (Nat.lt_of_lt_of_le (HF_f4.out.2 b hb).2 LI_w10.out)
  have HB_w11 : Hid (Below w.heap.size w w11) := HB_w10.out.trans (hb11.mono HB_w10.out.size)
  have GO_w11 : Hid (GOwn w11 f3 G v11) := hv11
  have LG_w11 : Hid (w11.heap.size ≤ w11.heap.size) := Nat.le_refl _
  clear hb11 hv11 hf3
  have tb : (b != b) = false := by simp
  have tr : (r != r) = false := by simp
  go_wp2_with fail
  refine (eqCells_calls G _ _ _ GO_w11.out.inn (W0_w11.out.mono (fun k hk => Nat.lt_of_lt_of_le hk LE_w11.out) fun _ _ => rfl)).mono ?_
  rintro en w12 ⟨rfl, hb12⟩
  have BA_w12 : Hid (w12.heap[w.heap.size]? = some (.cells #[.int .i64 t.op, .int .i64 t.num, (.slice ad t.kids.length cap)] 25)) := (hb12.block _ (cellsOf_lt BA_w11.out)).trans BA_w11.out
  have W0_w12 : Hid (CellsOn w12 (Lt w6.heap.size) G v6) := W0_w11.out.mono (fun _ hk => hk) fun k hk => hb12.block k (Nat.lt_of_lt_of_le hk LE_w11.out)
  have LE_w12 : Hid (w6.heap.size ≤ w12.heap.size) := Nat.le_trans LE_w11.out hb12.size
  have X0_w12 : Hid (CIn w12 g v7) := X0_w11.out.next hb12
  have LF_w12 : Hid (w7.heap.size ≤ w12.heap.size) := Nat.le_trans LF_w11.out hb12.size
  have CS_w12 : Hid (CShape w12 f1 (g.map (·.kids.length)) v7) := CShape.blocks CS_w11.out fun b hb => hb12.block b (Nat.lt_of_lt_of_le (HF_f1.out.2 b hb).2 LF_w11.out)
  have K2_w12 : Hid (KidsFp w12 35 t.kids f2 (.slice ad8 t.kids.length cap8)) := K2_w11.out.keep fun k hk => hb12.block k (K2_w11.out.lt k hk)
  have BX_w12 : Hid (w12.heap[w8.heap.size]? = some (.cells #[.int .i64 t.op, .int .i64 t.num, (.slice ad8 t.kids.length cap8)] 35)) := (hb12.block _ (cellsOf_lt BX_w11.out)).trans BX_w11.out
  have X2_w12 : Hid (IIn w12 xs v10) := X2_w11.out.next hb12
  have LI_w12 : Hid (w10.heap.size ≤ w12.heap.size) := Nat.le_trans LI_w11.out hb12.size
  have IS_w12 : Hid (IShape w12 f4 xs.length v10) := IShape.blocks IS_w11.out fun b hb => hb12.block b (Nat.lt_of_lt_of_le (HF_f4.out.2 b hb).2 LI_w11.out)
  have GO_w12 : Hid (GOwn w12 f3 G v11) := GO_w11.out.keep fun k hk _ => hb12.block k (Nat.lt_of_lt_of_le (HF_f3.out.2 k hk).2 LG_w11.out)
  have LG_w12 : Hid (w11.heap.size ≤ w12.heap.size) := Nat.le_trans LG_w11.out hb12.size
  have HB_w12 : Hid (Below w.heap.size w w12) := HB_w11.out.trans (hb12.mono HB_w11.out.size)
  clear hb12
  go_wp2_with fail
  refine (toCells_calls g cg _ (HG.out.next HB_w12.out) HZG.out).mono ?_
  rintro en w13 ⟨v13, rfl, hv13, hb13⟩
  have BA_w13 : Hid (w13.heap[w.heap.size]? = some (.cells #[.int .i64 t.op, .int .i64 t.num, (.slice ad t.kids.length cap)] 25)) := (hb13.block _ (cellsOf_lt BA_w12.out)).trans BA_w12.out
  have W0_w13 : Hid (CellsOn w13 (Lt w6.heap.size) G v6) := W0_w12.out.mono (fun _ hk => hk) fun k hk => hb13.block k (Nat.lt_of_lt_of_le hk LE_w12.out)
  have LE_w13 : Hid (w6.heap.size ≤ w13.heap.size) := Nat.le_trans LE_w12.out hb13.size
  have X0_w13 : Hid (CIn w13 g v7) := X0_w12.out.next hb13
  have LF_w13 : Hid (w7.heap.size ≤ w13.heap.size) := Nat.le_trans LF_w12.out hb13.size
  have CS_w13 : Hid (CShape w13 f1 (g.map (·.kids.length)) v7) := CShape.blocks CS_w12.out fun b hb => hb13.block b (Nat.lt_of_lt_of_le (HF_f1.out.2 b hb).2 LF_w12.out)
  have K2_w13 : Hid (KidsFp w13 35 t.kids f2 (.slice ad8 t.kids.length cap8)) := K2_w12.out.keep fun k hk => hb13.block k (K2_w12.out.lt k hk)
  have BX_w13 : Hid (w13.heap[w8.heap.size]? = some (.cells #[.int .i64 t.op, .int .i64 t.num, (.slice ad8 t.kids.length cap8)] 35)) := (hb13.block _ (cellsOf_lt BX_w12.out)).trans BX_w12.out
  have X2_w13 : Hid (IIn w13 xs v10) := X2_w12.out.next hb13
  have LI_w13 : Hid (w10.heap.size ≤ w13.heap.size) := Nat.le_trans LI_w12.out hb13.size
  have IS_w13 : Hid (IShape w13 f4 xs.length v10) := IShape.blocks IS_w12.out fun b hb => hb13.block b (Nat.lt_of_lt_of_le (HF_f4.out.2 b hb).2 LI_w12.out)
  have GO_w13 : Hid (GOwn w13 f3 G v11) := GO_w12.out.keep fun k hk _ => hb13.block k (Nat.lt_of_lt_of_le (HF_f3.out.2 k hk).2 LG_w12.out)
  have LG_w13 : Hid (w11.heap.size ≤ w13.heap.size) := Nat.le_trans LG_w12.out hb13.size
  have HB_w13 : Hid (Below w.heap.size w w13) := HB_w12.out.trans (hb13.mono HB_w12.out.size)
  have HV13 : Hid (CIn w13 g v13) := hv13.inn
  clear hv13 hb13
  go_wp2_with fail
  refine (eqCells_calls g v7 v13 _ X0_w13.out HV13.out).mono ?_
  rintro en w14 ⟨rfl, hb14⟩
  have BA_w14 : Hid (w14.heap[w.heap.size]? = some (.cells #[.int .i64 t.op, .int .i64 t.num, (.slice ad t.kids.length cap)] 25)) := (hb14.block _ (cellsOf_lt BA_w13.out)).trans BA_w13.out
  have W0_w14 : Hid (CellsOn w14 (Lt w6.heap.size) G v6) := W0_w13.out.mono (fun _ hk => hk) fun k hk => hb14.block k (Nat.lt_of_lt_of_le hk LE_w13.out)
  have LE_w14 : Hid (w6.heap.size ≤ w14.heap.size) := Nat.le_trans LE_w13.out hb14.size
  have X0_w14 : Hid (CIn w14 g v7) := X0_w13.out.next hb14
  have LF_w14 : Hid (w7.heap.size ≤ w14.heap.size) := Nat.le_trans LF_w13.out hb14.size
  have CS_w14 : Hid (CShape w14 f1 (g.map (·.kids.length)) v7) := CShape.blocks CS_w13.out fun b hb => hb14.block b (Nat.lt_of_lt_of_le (HF_f1.out.2 b hb).2 LF_w13.out)
  have K2_w14 : Hid (KidsFp w14 35 t.kids f2 (.slice ad8 t.kids.length cap8)) := K2_w13.out.keep fun k hk => hb14.block k (K2_w13.out.lt k hk)
  have BX_w14 : Hid (w14.heap[w8.heap.size]? = some (.cells #[.int .i64 t.op, .int .i64 t.num, (.slice ad8 t.kids.length cap8)] 35)) := (hb14.block _ (cellsOf_lt BX_w13.out)).trans BX_w13.out
  have X2_w14 : Hid (IIn w14 xs v10) := X2_w13.out.next hb14
  have LI_w14 : Hid (w10.heap.size ≤ w14.heap.size) := Nat.le_trans LI_w13.out hb14.size
  have IS_w14 : Hid (IShape w14 f4 xs.length v10) := IShape.blocks IS_w13.out fun b hb => hb14.block b (Nat.lt_of_lt_of_le (HF_f4.out.2 b hb).2 LI_w13.out)
  have GO_w14 : Hid (GOwn w14 f3 G v11) := GO_w13.out.keep fun k hk _ => hb14.block k (Nat.lt_of_lt_of_le (HF_f3.out.2 k hk).2 LG_w13.out)
  have LG_w14 : Hid (w11.heap.size ≤ w14.heap.size) := Nat.le_trans LG_w13.out hb14.size
  have HB_w14 : Hid (Below w.heap.size w w14) := HB_w13.out.trans (hb14.mono HB_w13.out.size)
  clear hb14
  have bx0 := cell_of_blk BX_w14.out 0 _ rfl
  have bx1 := cell_of_blk BX_w14.out 1 _ rfl
  have bx2 := cell_of_blk BX_w14.out 2 _ rfl
  have bxz := cellsOf_lt BX_w14.out
  have ba0 := cell_of_blk BA_w14.out 0 _ rfl
  have ba1 := cell_of_blk BA_w14.out 1 _ rfl
  have ba2 := cell_of_blk BA_w14.out 2 _ rfl
  have baz := cellsOf_lt BA_w14.out
  go_wp2_with fail
  have HKA : Hid (In w14 t.kids (.slice ad t.kids.length cap)) := HK.out.next HB_w14.out
  have HKX : Hid (In w14 t.kids (.slice ad8 t.kids.length cap8)) := (K2_w14.out.on fun k hk => K2_w14.out.lt k hk)
  go_region_held3 (fun w' => (w'.cell? ⟨w.heap.size, 0, none⟩ = some (.int .i64 t.op) ∧ w'.cell? ⟨w.heap.size, 1, none⟩ = some (.int .i64 t.num) ∧ w'.cell? ⟨w.heap.size, 2, none⟩ = some (.slice ad t.kids.length cap)) ∧ (w'.cell? ⟨w8.heap.size, 0, none⟩ = some (.int .i64 t.op) ∧ w'.cell? ⟨w8.heap.size, 1, none⟩ = some (.int .i64 t.num) ∧ w'.cell? ⟨w8.heap.size, 2, none⟩ = some (.slice ad8 t.kids.length cap8)))
    (first
      | go_keep
      | exact ⟨⟨rb0, rb1, rb2⟩, ⟨rf0, rf1, rf2⟩⟩
      | exact ⟨⟨ra0, ra1, ra2⟩, ⟨re0, re1, re2⟩⟩
      | exact ⟨⟨ba0, ba1, ba2⟩, ⟨bx0, bx1, bx2⟩⟩)
    (first
      | (go_at_call 10; refine (to_calls t.kids _ _ _ w14.drew HKA.out.drew HZ.out).mono ?_; rintro en w15 ⟨v15, rfl, hv15, hb15⟩; have HV15 : Hid (In w15 t.kids v15) := hv15.btw_in; have HB15 : Hid (Below w14.heap.size w14 w15) := (Below.refl _ _).drew.trans hb15; have hxa := (HB15.out.block _ baz).trans BA_w14.out; have ra0 := cell_of_blk hxa 0 _ rfl; have ra1 := cell_of_blk hxa 1 _ rfl; have ra2 := cell_of_blk hxa 2 _ rfl; have hxb := (HB15.out.block _ bxz).trans BX_w14.out; have re0 := cell_of_blk hxb 0 _ rfl; have re1 := cell_of_blk hxb 1 _ rfl; have re2 := cell_of_blk hxb 2 _ rfl; clear hv15 hb15 hxa hxb)
      | (go_at_call 14; refine (eq_calls t.kids _ _ _ _ w15 (HKX.out.next HB15.out) HV15.out).mono ?_; rintro en w16 ⟨rfl, hb16⟩; have HB16 : Hid (Below w14.heap.size w14 w16) := HB15.out.trans (hb16.mono HB15.out.size); have hxa := (HB16.out.block _ baz).trans BA_w14.out; have rb0 := cell_of_blk hxa 0 _ rfl; have rb1 := cell_of_blk hxa 1 _ rfl; have rb2 := cell_of_blk hxa 2 _ rfl; have hxb := (HB16.out.block _ bxz).trans BX_w14.out; have rf0 := cell_of_blk hxb 0 _ rfl; have rf1 := cell_of_blk hxb 1 _ rfl; have rf2 := cell_of_blk hxb 2 _ rfl; clear hb16 hxa hxb))
  clear bx0 bx1 bx2 bxz ba0 ba1 ba2 baz
  clear HV15 HB15
  have BA_w16 : Hid (w16.heap[w.heap.size]? = some (.cells #[.int .i64 t.op, .int .i64 t.num, (.slice ad t.kids.length cap)] 25)) := (HB16.out.block _ (cellsOf_lt BA_w14.out)).trans BA_w14.out
  have W0_w16 : Hid (CellsOn w16 (Lt w6.heap.size) G v6) := W0_w14.out.mono (fun _ hk => hk) fun k hk => HB16.out.block k (Nat.lt_of_lt_of_le hk LE_w14.out)
  have LE_w16 : Hid (w6.heap.size ≤ w16.heap.size) := Nat.le_trans LE_w14.out HB16.out.size
  have X0_w16 : Hid (CIn w16 g v7) := X0_w14.out.next HB16.out
  have LF_w16 : Hid (w7.heap.size ≤ w16.heap.size) := Nat.le_trans LF_w14.out HB16.out.size
  have CS_w16 : Hid (CShape w16 f1 (g.map (·.kids.length)) v7) := CShape.blocks CS_w14.out fun b hb => HB16.out.block b (Nat.lt_of_lt_of_le (HF_f1.out.2 b hb).2 LF_w14.out)
  have K2_w16 : Hid (KidsFp w16 35 t.kids f2 (.slice ad8 t.kids.length cap8)) := K2_w14.out.keep fun k hk => HB16.out.block k (K2_w14.out.lt k hk)
  have BX_w16 : Hid (w16.heap[w8.heap.size]? = some (.cells #[.int .i64 t.op, .int .i64 t.num, (.slice ad8 t.kids.length cap8)] 35)) := (HB16.out.block _ (cellsOf_lt BX_w14.out)).trans BX_w14.out
  have X2_w16 : Hid (IIn w16 xs v10) := X2_w14.out.next HB16.out
  have LI_w16 : Hid (w10.heap.size ≤ w16.heap.size) := Nat.le_trans LI_w14.out HB16.out.size
  have IS_w16 : Hid (IShape w16 f4 xs.length v10) := IShape.blocks IS_w14.out fun b hb => HB16.out.block b (Nat.lt_of_lt_of_le (HF_f4.out.2 b hb).2 LI_w14.out)
  have GO_w16 : Hid (GOwn w16 f3 G v11) := GO_w14.out.keep fun k hk _ => HB16.out.block k (Nat.lt_of_lt_of_le (HF_f3.out.2 k hk).2 LG_w14.out)
  have LG_w16 : Hid (w11.heap.size ≤ w16.heap.size) := Nat.le_trans LG_w14.out HB16.out.size
  have HB_w16 : Hid (Below w.heap.size w w16) := HB_w14.out.trans (HB16.out.mono HB_w14.out.size)
  go_wp2_with fail
  refine (toInts_calls xs _ _ (HA.out.next HB_w16.out) HL.out).mono ?_
  rintro en w17 ⟨v17, rfl, hv17, hb17⟩
  have BA_w17 : Hid (w17.heap[w.heap.size]? = some (.cells #[.int .i64 t.op, .int .i64 t.num, (.slice ad t.kids.length cap)] 25)) := (hb17.block _ (cellsOf_lt BA_w16.out)).trans BA_w16.out
  have W0_w17 : Hid (CellsOn w17 (Lt w6.heap.size) G v6) := W0_w16.out.mono (fun _ hk => hk) fun k hk => hb17.block k (Nat.lt_of_lt_of_le hk LE_w16.out)
  have LE_w17 : Hid (w6.heap.size ≤ w17.heap.size) := Nat.le_trans LE_w16.out hb17.size
  have X0_w17 : Hid (CIn w17 g v7) := X0_w16.out.next hb17
  have LF_w17 : Hid (w7.heap.size ≤ w17.heap.size) := Nat.le_trans LF_w16.out hb17.size
  have CS_w17 : Hid (CShape w17 f1 (g.map (·.kids.length)) v7) := CShape.blocks CS_w16.out fun b hb => hb17.block b (Nat.lt_of_lt_of_le (HF_f1.out.2 b hb).2 LF_w16.out)
  have K2_w17 : Hid (KidsFp w17 35 t.kids f2 (.slice ad8 t.kids.length cap8)) := K2_w16.out.keep fun k hk => hb17.block k (K2_w16.out.lt k hk)
  have BX_w17 : Hid (w17.heap[w8.heap.size]? = some (.cells #[.int .i64 t.op, .int .i64 t.num, (.slice ad8 t.kids.length cap8)] 35)) := (hb17.block _ (cellsOf_lt BX_w16.out)).trans BX_w16.out
  have X2_w17 : Hid (IIn w17 xs v10) := X2_w16.out.next hb17
  have LI_w17 : Hid (w10.heap.size ≤ w17.heap.size) := Nat.le_trans LI_w16.out hb17.size
  have IS_w17 : Hid (IShape w17 f4 xs.length v10) := IShape.blocks IS_w16.out fun b hb => hb17.block b (Nat.lt_of_lt_of_le (HF_f4.out.2 b hb).2 LI_w16.out)
  have GO_w17 : Hid (GOwn w17 f3 G v11) := GO_w16.out.keep fun k hk _ => hb17.block k (Nat.lt_of_lt_of_le (HF_f3.out.2 k hk).2 LG_w16.out)
  have LG_w17 : Hid (w11.heap.size ≤ w17.heap.size) := Nat.le_trans LG_w16.out hb17.size
  have HB_w17 : Hid (Below w.heap.size w w17) := HB_w16.out.trans (hb17.mono HB_w16.out.size)
  have HV17 : Hid (IIn w17 xs v17) := hv17.inn
  clear hv17 hb17
  go_wp2_with fail
  refine (eqInts_calls xs v10 v17 _ X2_w17.out HV17.out).mono ?_
  rintro en w18 ⟨rfl, hb18⟩
  have BA_w18 : Hid (w18.heap[w.heap.size]? = some (.cells #[.int .i64 t.op, .int .i64 t.num, (.slice ad t.kids.length cap)] 25)) := (hb18.block _ (cellsOf_lt BA_w17.out)).trans BA_w17.out
  have W0_w18 : Hid (CellsOn w18 (Lt w6.heap.size) G v6) := W0_w17.out.mono (fun _ hk => hk) fun k hk => hb18.block k (Nat.lt_of_lt_of_le hk LE_w17.out)
  have LE_w18 : Hid (w6.heap.size ≤ w18.heap.size) := Nat.le_trans LE_w17.out hb18.size
  have X0_w18 : Hid (CIn w18 g v7) := X0_w17.out.next hb18
  have LF_w18 : Hid (w7.heap.size ≤ w18.heap.size) := Nat.le_trans LF_w17.out hb18.size
  have CS_w18 : Hid (CShape w18 f1 (g.map (·.kids.length)) v7) := CShape.blocks CS_w17.out fun b hb => hb18.block b (Nat.lt_of_lt_of_le (HF_f1.out.2 b hb).2 LF_w17.out)
  have K2_w18 : Hid (KidsFp w18 35 t.kids f2 (.slice ad8 t.kids.length cap8)) := K2_w17.out.keep fun k hk => hb18.block k (K2_w17.out.lt k hk)
  have BX_w18 : Hid (w18.heap[w8.heap.size]? = some (.cells #[.int .i64 t.op, .int .i64 t.num, (.slice ad8 t.kids.length cap8)] 35)) := (hb18.block _ (cellsOf_lt BX_w17.out)).trans BX_w17.out
  have X2_w18 : Hid (IIn w18 xs v10) := X2_w17.out.next hb18
  have LI_w18 : Hid (w10.heap.size ≤ w18.heap.size) := Nat.le_trans LI_w17.out hb18.size
  have IS_w18 : Hid (IShape w18 f4 xs.length v10) := IShape.blocks IS_w17.out fun b hb => hb18.block b (Nat.lt_of_lt_of_le (HF_f4.out.2 b hb).2 LI_w17.out)
  have GO_w18 : Hid (GOwn w18 f3 G v11) := GO_w17.out.keep fun k hk _ => hb18.block k (Nat.lt_of_lt_of_le (HF_f3.out.2 k hk).2 LG_w17.out)
  have LG_w18 : Hid (w11.heap.size ≤ w18.heap.size) := Nat.le_trans LG_w17.out hb18.size
  have HB_w18 : Hid (Below w.heap.size w w18) := HB_w17.out.trans (hb18.mono HB_w17.out.size)
  clear hb18
  go_wp2_with fail
  -- the arguments are marked
  refine (markCells_calls _ f1 v7 1 w18 CS_w18.out (by omega) (by omega) (by rw [sum_shape, List.length_map]; exact HZG.out)).mono ?_
  rintro en w19 ⟨rfl, hb19⟩
  have BA_w19 : Hid (w19.heap[w.heap.size]? = some (.cells #[.int .i64 t.op, .int .i64 t.num, (.slice ad t.kids.length cap)] 25)) := (hb19.block _ (cellsOf_lt BA_w18.out) (fun h => by have := (HF_f1.out.2 _ h); have := S6.out; have := S7.out; have := S8.out; have := S9.out; have := S10.out; have := S11.out; omega)).trans BA_w18.out
  have W0_w19 : Hid (CellsOn w19 (Lt w6.heap.size) G v6) := W0_w18.out.mono (fun _ hk => hk) fun k (hk : k < _) => hb19.block k (Nat.lt_of_lt_of_le hk LE_w18.out) (fun h => by have := (HF_f1.out.2 _ h); have := S6.out; have := S7.out; have := S8.out; have := S9.out; have := S10.out; have := S11.out; omega)
  have LE_w19 : Hid (w6.heap.size ≤ w19.heap.size) := Nat.le_trans LE_w18.out hb19.size
  have K2_w19 : Hid (KidsFp w19 35 t.kids f2 (.slice ad8 t.kids.length cap8)) := K2_w18.out.keep fun k hk => hb19.block k (K2_w18.out.lt k hk) (fun h => by have := (HF_f1.out.2 _ h); have := (HF_f2.out.2 _ hk); have := S6.out; have := S7.out; have := S8.out; have := S9.out; have := S10.out; have := S11.out; omega)
  have BX_w19 : Hid (w19.heap[w8.heap.size]? = some (.cells #[.int .i64 t.op, .int .i64 t.num, (.slice ad8 t.kids.length cap8)] 35)) := (hb19.block _ (cellsOf_lt BX_w18.out) (fun h => by have := (HF_f1.out.2 _ h); have := S6.out; have := S7.out; have := S8.out; have := S9.out; have := S10.out; have := S11.out; omega)).trans BX_w18.out
  have LI_w19 : Hid (w10.heap.size ≤ w19.heap.size) := Nat.le_trans LI_w18.out hb19.size
  have IS_w19 : Hid (IShape w19 f4 xs.length v10) := IShape.blocks IS_w18.out fun b hb => hb19.block b (Nat.lt_of_lt_of_le (HF_f4.out.2 b hb).2 LI_w18.out) (fun h => by have := (HF_f1.out.2 _ h); have := (HF_f4.out.2 _ hb); have := S6.out; have := S7.out; have := S8.out; have := S9.out; have := S10.out; have := S11.out; omega)
  have GO_w19 : Hid (GOwn w19 f3 G v11) := GO_w18.out.keep fun k hk _ => hb19.block k (Nat.lt_of_lt_of_le (HF_f3.out.2 k hk).2 LG_w18.out) (fun h => by have := (HF_f1.out.2 _ h); have := (HF_f3.out.2 _ hk); have := S6.out; have := S7.out; have := S8.out; have := S9.out; have := S10.out; have := S11.out; omega)
  have LG_w19 : Hid (w11.heap.size ≤ w19.heap.size) := Nat.le_trans LG_w18.out hb19.size
  have HB_w19 : Hid (Below w.heap.size w w19) := HB_w18.out.trans (hb19.below (fun k h => by have := (HF_f1.out.2 _ h); have := S6.out; have := S7.out; have := S8.out; have := S9.out; have := S10.out; have := S11.out; omega) HB_w18.out.size)
  clear hb19
  have hkB : ((2 * (g.map (·.kids.length)).length + sumN' (g.map (·.kids.length)) : Nat) : Int) ≤ 2097152 := by rw [sum_shape, List.length_map]; have := HZG.out; omega
  obtain ⟨ka, hka⟩ : ∃ ka : Int, ka = 1 + ((2 * (g.map (·.kids.length)).length + sumN' (g.map (·.kids.length)) : Nat) : Int) := ⟨_, rfl⟩
  rw [← hka]
  have hka0 : 0 ≤ ka := by omega
  have hka1 : ka ≤ 2097153 := by omega
  clear hka hkB
  have bx0 := cell_of_blk BX_w19.out 0 _ rfl
  have bx1 := cell_of_blk BX_w19.out 1 _ rfl
  have bx2 := cell_of_blk BX_w19.out 2 _ rfl
  have bxz := cellsOf_lt BX_w19.out
  go_wp2_with fail
  refine (mark_calls t.kids _ _ f2 _ ka w19 K2_w19.out HF_f2.out.1 (by omega) (by have := HZ.out; omega)).mono ?_
  rintro en w20 ⟨rfl, -, hb20⟩
  clear bx0 bx1 bx2 bxz
  have BA_w20 : Hid (w20.heap[w.heap.size]? = some (.cells #[.int .i64 t.op, .int .i64 t.num, (.slice ad t.kids.length cap)] 25)) := (hb20.block _ (cellsOf_lt BA_w19.out) (fun h => by have := (HF_f2.out.2 _ h); have := S6.out; have := S7.out; have := S8.out; have := S9.out; have := S10.out; have := S11.out; omega)).trans BA_w19.out
  have W0_w20 : Hid (CellsOn w20 (Lt w6.heap.size) G v6) := W0_w19.out.mono (fun _ hk => hk) fun k (hk : k < _) => hb20.block k (Nat.lt_of_lt_of_le hk LE_w19.out) (fun h => by have := (HF_f2.out.2 _ h); have := S6.out; have := S7.out; have := S8.out; have := S9.out; have := S10.out; have := S11.out; omega)
  have LE_w20 : Hid (w6.heap.size ≤ w20.heap.size) := Nat.le_trans LE_w19.out hb20.size
  have LI_w20 : Hid (w10.heap.size ≤ w20.heap.size) := Nat.le_trans LI_w19.out hb20.size
  have IS_w20 : Hid (IShape w20 f4 xs.length v10) := IShape.blocks IS_w19.out fun b hb => hb20.block b (Nat.lt_of_lt_of_le (HF_f4.out.2 b hb).2 LI_w19.out) (fun h => by have := (HF_f2.out.2 _ h); have := (HF_f4.out.2 _ hb); have := S6.out; have := S7.out; have := S8.out; have := S9.out; have := S10.out; have := S11.out; omega)
  have GO_w20 : Hid (GOwn w20 f3 G v11) := GO_w19.out.keep fun k hk _ => hb20.block k (Nat.lt_of_lt_of_le (HF_f3.out.2 k hk).2 LG_w19.out) (fun h => by have := (HF_f2.out.2 _ h); have := (HF_f3.out.2 _ hk); have := S6.out; have := S7.out; have := S8.out; have := S9.out; have := S10.out; have := S11.out; omega)
  have LG_w20 : Hid (w11.heap.size ≤ w20.heap.size) := Nat.le_trans LG_w19.out hb20.size
  have HB_w20 : Hid (Below w.heap.size w w20) := HB_w19.out.trans (hb20.below (fun k h => by have := (HF_f2.out.2 _ h); have := S6.out; have := S7.out; have := S8.out; have := S9.out; have := S10.out; have := S11.out; omega) HB_w19.out.size)
  clear hb20
  obtain ⟨kc, hkc⟩ : ∃ kc : Int, kc = ka + 2 * (szL t.kids : Int) := ⟨_, rfl⟩
  have hkc0 : 0 ≤ kc := by omega
  have hkc1 : kc ≤ 4194305 := by have := HZ.out; omega
  rw [← hkc]
  clear hkc
  go_wp2_with fail
  refine (markI_calls xs.length f4 v10 kc w20 IS_w20.out (by omega) (by have := HL.out; omega)).mono ?_
  rintro en w21 ⟨rfl, hk21⟩
  have hb21 := hk21.but
  clear hk21
  have BA_w21 : Hid (w21.heap[w.heap.size]? = some (.cells #[.int .i64 t.op, .int .i64 t.num, (.slice ad t.kids.length cap)] 25)) := (hb21.block _ (cellsOf_lt BA_w20.out) (fun h => by have := (HF_f4.out.2 _ h); have := S6.out; have := S7.out; have := S8.out; have := S9.out; have := S10.out; have := S11.out; omega)).trans BA_w20.out
  have W0_w21 : Hid (CellsOn w21 (Lt w6.heap.size) G v6) := W0_w20.out.mono (fun _ hk => hk) fun k (hk : k < _) => hb21.block k (Nat.lt_of_lt_of_le hk LE_w20.out) (fun h => by have := (HF_f4.out.2 _ h); have := S6.out; have := S7.out; have := S8.out; have := S9.out; have := S10.out; have := S11.out; omega)
  have LE_w21 : Hid (w6.heap.size ≤ w21.heap.size) := Nat.le_trans LE_w20.out hb21.size
  have GO_w21 : Hid (GOwn w21 f3 G v11) := GO_w20.out.keep fun k hk _ => hb21.block k (Nat.lt_of_lt_of_le (HF_f3.out.2 k hk).2 LG_w20.out) (fun h => by have := (HF_f4.out.2 _ h); have := (HF_f3.out.2 _ hk); have := S6.out; have := S7.out; have := S8.out; have := S9.out; have := S10.out; have := S11.out; omega)
  have LG_w21 : Hid (w11.heap.size ≤ w21.heap.size) := Nat.le_trans LG_w20.out hb21.size
  have HB_w21 : Hid (Below w.heap.size w w21) := HB_w20.out.trans (hb21.below (fun k h => by have := (HF_f4.out.2 _ h); have := S6.out; have := S7.out; have := S8.out; have := S9.out; have := S10.out; have := S11.out; omega) HB_w20.out.size)
  clear hb21
  obtain ⟨kk, hkk⟩ : ∃ kk : Int, kk = kc + (xs.length : Int) := ⟨_, rfl⟩
  have hk0 : 0 ≤ kk := by omega
  rw [← hkk]
  clear hkk
  go_wp2_with fail
  refine (eqCells_calls G _ _ _ GO_w21.out.inn (W0_w21.out.mono (fun k hk => Nat.lt_of_lt_of_le hk LE_w21.out) fun _ _ => rfl)).mono ?_
  rintro en w22 ⟨rfl, hb22⟩
  have BA_w22 : Hid (w22.heap[w.heap.size]? = some (.cells #[.int .i64 t.op, .int .i64 t.num, (.slice ad t.kids.length cap)] 25)) := (hb22.block _ (cellsOf_lt BA_w21.out)).trans BA_w21.out
  have W0_w22 : Hid (CellsOn w22 (Lt w6.heap.size) G v6) := W0_w21.out.mono (fun _ hk => hk) fun k hk => hb22.block k (Nat.lt_of_lt_of_le hk LE_w21.out)
  have LE_w22 : Hid (w6.heap.size ≤ w22.heap.size) := Nat.le_trans LE_w21.out hb22.size
  have GO_w22 : Hid (GOwn w22 f3 G v11) := GO_w21.out.keep fun k hk _ => hb22.block k (Nat.lt_of_lt_of_le (HF_f3.out.2 k hk).2 LG_w21.out)
  have LG_w22 : Hid (w11.heap.size ≤ w22.heap.size) := Nat.le_trans LG_w21.out hb22.size
  have HB_w22 : Hid (Below w.heap.size w w22) := HB_w21.out.trans (hb22.mono HB_w21.out.size)
  clear hb22
  go_wp2_with fail
  -- the answer is marked
  refine (gmarkO_calls G f3 _ 1 w22 GO_w22.out (by omega) (by omega) (by have := HGS.out; omega)).mono ?_
  rintro en w23 ⟨rfl, hk23, hb23⟩
  have BA_w23 : Hid (w23.heap[w.heap.size]? = some (.cells #[.int .i64 t.op, .int .i64 t.num, (.slice ad t.kids.length cap)] 25)) := (hb23.block _ (cellsOf_lt BA_w22.out) (fun h => by have := (HF_f3.out.2 _ h); have := S6.out; have := S7.out; have := S8.out; have := S9.out; have := S10.out; have := S11.out; omega)).trans BA_w22.out
  have W0_w23 : Hid (CellsOn w23 (Lt w6.heap.size) G v6) := W0_w22.out.mono (fun _ hk => hk) fun k (hk : k < _) => hb23.block k (Nat.lt_of_lt_of_le hk LE_w22.out) (fun h => by have := (HF_f3.out.2 _ h); have := S6.out; have := S7.out; have := S8.out; have := S9.out; have := S10.out; have := S11.out; omega)
  have LE_w23 : Hid (w6.heap.size ≤ w23.heap.size) := Nat.le_trans LE_w22.out hb23.size
  have HB_w23 : Hid (Below w.heap.size w w23) := HB_w22.out.trans (hb23.below (fun k h => by have := (HF_f3.out.2 _ h); have := S6.out; have := S7.out; have := S8.out; have := S9.out; have := S10.out; have := S11.out; omega) HB_w22.out.size)
  have GL_w23 : Hid (CIn w23 (labC G 1) v11) := hk23
  clear hb23 hk23
  obtain ⟨mm, hmm⟩ : ∃ mm : Int, mm = 1 + 2 * (G.length : Int) + (sumK G : Int) := ⟨_, rfl⟩
  have HM : Hid (mm = 1 + 2 * (G.length : Int) + (sumK G : Int)) := hmm
  have hm0 : 0 ≤ mm := by omega
  rw [← hmm]
  clear hmm
  go_wp2_with fail
  refine (gheld_calls G _ 1 w23 GL_w23.out (by omega) (by omega) (by have := HGS.out; omega)).mono ?_
  rintro en w24 ⟨rfl, hb24⟩
  rw [← HM.out]
  have BA_w24 : Hid (w24.heap[w.heap.size]? = some (.cells #[.int .i64 t.op, .int .i64 t.num, (.slice ad t.kids.length cap)] 25)) := (hb24.block _ (cellsOf_lt BA_w23.out)).trans BA_w23.out
  have W0_w24 : Hid (CellsOn w24 (Lt w6.heap.size) G v6) := W0_w23.out.mono (fun _ hk => hk) fun k hk => hb24.block k (Nat.lt_of_lt_of_le hk LE_w23.out)
  have LE_w24 : Hid (w6.heap.size ≤ w24.heap.size) := Nat.le_trans LE_w23.out hb24.size
  have GL_w24 : Hid (CIn w24 (labC G 1) v11) := GL_w23.out.next hb24
  have HB_w24 : Hid (Below w.heap.size w w24) := HB_w23.out.trans (hb24.mono HB_w23.out.size)
  clear hb24
  have tm : (mm != mm) = false := by simp
  have ba0 := cell_of_blk BA_w24.out 0 _ rfl
  have ba1 := cell_of_blk BA_w24.out 1 _ rfl
  have ba2 := cell_of_blk BA_w24.out 2 _ rfl
  have baz := cellsOf_lt BA_w24.out
  go_wp2_with fail
  -- called once more
  go_region_held3 (fun w' => w'.cell? ⟨w.heap.size, 0, none⟩ = some (.int .i64 t.op) ∧ w'.cell? ⟨w.heap.size, 1, none⟩ = some (.int .i64 t.num) ∧ w'.cell? ⟨w.heap.size, 2, none⟩ = some (.slice ad t.kids.length cap))
    (first
      | go_keep
      | exact ⟨rd0, rd1, rd2⟩
      | exact ⟨rc0, rc1, rc2⟩
      | exact ⟨rb0, rb1, rb2⟩
      | exact ⟨ra0, ra1, ra2⟩
      | exact ⟨ba0, ba1, ba2⟩)
    (first
      | (go_at_call 9; refine (toCells_calls g cg w24.drew (HG.out.next HB_w24.out.drew) HZG.out).mono ?_; rintro en w25 ⟨va, rfl, hva, hba⟩; have HBA : Hid (Below w24.heap.size w24 w25) := ((Below.refl _ _).drew).trans hba; have HVA : Hid (CIn w25 g va) := hva.inn; have hxra := (HBA.out.block _ baz).trans BA_w24.out; have ra0 := cell_of_blk hxra 0 _ rfl; have ra1 := cell_of_blk hxra 1 _ rfl; have ra2 := cell_of_blk hxra 2 _ rfl; clear hxra; clear hva hba)
      | (go_at_call 10; refine (to_calls t.kids _ _ _ w25 (HK.out.next (HB_w24.out.trans (HBA.out.mono HB_w24.out.size))) HZ.out).mono ?_; rintro en w26 ⟨vb, rfl, hvb, hbb⟩; have HBB : Hid (Below w24.heap.size w24 w26) := HBA.out.trans (hbb.mono HBA.out.size); have HVB : Hid (In w26 t.kids vb) := hvb.btw_in; have HVA2 : Hid (CIn w26 g va) := HVA.out.next hbb; have hxrb := (HBB.out.block _ baz).trans BA_w24.out; have rb0 := cell_of_blk hxrb 0 _ rfl; have rb1 := cell_of_blk hxrb 1 _ rfl; have rb2 := cell_of_blk hxrb 2 _ rfl; clear hxrb; clear hvb hbb)
      | (go_at_call 11; refine (toInts_calls xs _ w26 (HA.out.next (HB_w24.out.trans (HBB.out.mono HB_w24.out.size))) HL.out).mono ?_; rintro en w27 ⟨vc, rfl, hvc, hbc⟩; have HBC : Hid (Below w24.heap.size w24 w27) := HBB.out.trans (hbc.mono HBB.out.size); have HVC : Hid (IIn w27 xs vc) := hvc.inn; have HVA3 : Hid (CIn w27 g va) := HVA2.out.next hbc; have HVB3 : Hid (In w27 t.kids vb) := HVB.out.next hbc; have hxrc := (HBC.out.block _ baz).trans BA_w24.out; have rc0 := cell_of_blk hxrc 0 _ rfl; have rc1 := cell_of_blk hxrc 1 _ rfl; have rc2 := cell_of_blk hxrc 2 _ rfl; clear hxrc; clear hvc hbc)
      | (go_at_call 12; refine (HSI.out _ _ _ w27 HVA3.out HVB3.out HVC.out).mono ?_; rintro en w28 ⟨v28, rfl, hvd, hbd⟩; have HBD : Hid (Below w24.heap.size w24 w28) := HBC.out.trans (hbd.mono HBC.out.size); have HVD := mkHid hvd.inn; have hxrd := (HBD.out.block _ baz).trans BA_w24.out; have rd0 := cell_of_blk hxrd 0 _ rfl; have rd1 := cell_of_blk hxrd 1 _ rfl; have rd2 := cell_of_blk hxrd 2 _ rfl; clear hxrd; clear hvd hbd))
  clear ba0 ba1 ba2 baz
  clear HVA HVA2 HVA3 HVB HVB3 HVC HBA HBB HBC
  have W0_w28 : Hid (CellsOn w28 (Lt w6.heap.size) G v6) := W0_w24.out.mono (fun _ hk => hk) fun k hk => HBD.out.block k (Nat.lt_of_lt_of_le hk LE_w24.out)
  have LE_w28 : Hid (w6.heap.size ≤ w28.heap.size) := Nat.le_trans LE_w24.out HBD.out.size
  have GL_w28 : Hid (CIn w28 (labC G 1) v11) := GL_w24.out.next HBD.out
  have HB_w28 : Hid (Below w.heap.size w w28) := HB_w24.out.trans (HBD.out.mono HB_w24.out.size)
  have HV28 : Hid (CIn w28 G v28) := HVD.out
  clear HVD HBD
  go_wp2_with fail
  refine (eqCells_calls G _ _ _ HV28.out (W0_w28.out.mono (fun k hk => Nat.lt_of_lt_of_le hk LE_w28.out) fun _ _ => rfl)).mono ?_
  rintro en w29 ⟨rfl, hb29⟩
  have W0_w29 : Hid (CellsOn w29 (Lt w6.heap.size) G v6) := W0_w28.out.mono (fun _ hk => hk) fun k hk => hb29.block k (Nat.lt_of_lt_of_le hk LE_w28.out)
  have LE_w29 : Hid (w6.heap.size ≤ w29.heap.size) := Nat.le_trans LE_w28.out hb29.size
  have GL_w29 : Hid (CIn w29 (labC G 1) v11) := GL_w28.out.next hb29
  have HB_w29 : Hid (Below w.heap.size w w29) := HB_w28.out.trans (hb29.mono HB_w28.out.size)
  clear hb29
  go_wp2_with fail
  refine (gheld_calls G _ 1 w29 GL_w29.out (by omega) (by omega) (by have := HGS.out; omega)).mono ?_
  rintro en w30 ⟨rfl, hb30⟩
  rw [← HM.out]
  have HB_w30 : Hid (Below w.heap.size w w30) := HB_w29.out.trans (hb30.mono HB_w29.out.size)
  clear hb30
  go_wp2_with fail
  go_ret
  exact ⟨rfl, HB_w30.out⟩
end Go.Proofs.Ythlblgibgfledaa.lawExactAddExpr
