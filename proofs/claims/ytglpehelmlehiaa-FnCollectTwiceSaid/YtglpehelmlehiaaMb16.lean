/-
  THE PROGRAM's canCopy, CopyGraph AND CopyOrder.
-/
import Derived.Test.YtglpehelmlehiaaMb15
import Derived.Test.YtglpehelmlehiaaMb14
import Derived.Test.YtglpehelmlehiaaMb8
import Derived.Test.YtglpehelmlehiaaMb10
import Derived.Test.YtglpehelmlehiaaMb5
import Derived.OpenShut
namespace Go.Proofs.Ytglpehelmlehiaa
set_option linter.unusedVariables false
set_option linter.unusedSimpArgs false
open Go.RowKit

set_option maxHeartbeats 800000 in
theorem canCopy_calls (g : List Ce) (rs : List Int) (v rv : Value) (w : World) (hk : CIn w g v) (hr : IIn w rs rv) :
    Calls Try.prog 63 #[v, rv] w fun e w' => e = .returned (.bool (rootB g rs)) ∧ Below w.heap.size w w' := by
  have HK : Hid (CIn w g v) := hk
  have HR : Hid (IIn w rs rv) := hr
  obtain ⟨ad, cap, rfl, hl, hm, -⟩ := hk
  obtain ⟨adr, capr, rfl, hlr, hmr, -⟩ := hr
  unfold maxLen at hm hmr
  go_enter Try.func63, Try.ntmps63
  go_wp2_with fail
  refine (implGraph_calls g 6 _ _ HK.out).mono ?_
  rintro e w1 ⟨rfl, hb1⟩
  have HB1 : Hid (Below w.heap.size w w1) := hb1
  clear hb1
  cases hg : graphB g 6 with
  | false =>
    have HV : Hid (rootB g rs = false) := by unfold Hid rootB; rw [hg]; rfl
    clear hg
    go_wp2_with fail
    go_ret
    exact ⟨ret_bool HV.out.symm, HB1.out⟩
  | true =>
    have HG : Hid (graphB g 6 = true) := hg
    clear hg
    by_cases h20 : (rs.length : Int) ≤ 20
    · have HV : Hid (rootB g rs = rs.all (isAt g.length)) := by unfold Hid rootB; rw [HG.out, decide_eq_true (by omega)]; rfl
      go_wp2_with fail
      refine (areCells_calls g.length cap ad rs _ _ (by omega) (HR.out.next HB1.out)).mono ?_
      rintro e w2 ⟨rfl, hb2⟩
      have HB2 : Hid (Below w.heap.size w w2) := HB1.out.trans (hb2.mono HB1.out.size)
      clear hb2
      go_wp2_with fail
      go_ret
      exact ⟨ret_bool HV.out.symm, HB2.out⟩
    · have HV : Hid (rootB g rs = false) := by unfold Hid rootB; rw [decide_eq_false (by omega)]; simp
      go_wp2_with fail
      go_ret
      exact ⟨ret_bool HV.out.symm, HB1.out⟩

/-- a graph and numbers in rows of their own, and whether -/
def OwnGI (r : List Ce × List Nat) (ok : Bool) (w : World) (e : Ending) (w' : World) : Prop :=
  ∃ gv tv, e = .returned (.tuple #[gv, tv, .bool ok]) ∧ GIRes r.1 (plI r.2) gv tv w w' ∧ Below w.heap.size w w'

set_option maxHeartbeats 800000 in
theorem implCopyG_calls (g : List Ce) (rs : List Int) (v rv : Value) (w : World) (hk : CIn w g v) (hr : IIn w rs rv) :
    Calls Try.prog 29 #[v, rv] w (OwnGI (copyO g rs) (rootB g rs) w) := by
  have HK : Hid (CIn w g v) := hk
  have HR : Hid (IIn w rs rv) := hr
  clear hk hr
  go_enter Try.func29, Try.ntmps29
  go_wp2_with fail
  refine (canCopy_calls g rs _ _ _ HK.out HR.out).mono ?_
  rintro e w1 ⟨rfl, hb1⟩
  have HB1 : Hid (Below w.heap.size w w1) := hb1
  clear hb1
  cases hg : rootB g rs with
  | false =>
    have HV := mkHid (copyO_no hg)
    have HT := mkHid hg
    clear hg
    go_wp2_with fail
    go_ret3
    rw [HV.out, HT.out]
    exact ⟨_, _, rfl, gi_res (lo := w1.heap.size) (OwnC.nil _ _ (fun _ => False)) (fun _ h => h.elim) (no_ints _ _ _ 0 (by simp [maxLen])) HB1.out.size (Nat.le_refl _), HB1.out⟩
  | true =>
    have HT := mkHid hg
    have HV := mkHid (copyO_yes hg)
    have HR2 : Hid (IIn w1 (plI (natL rs)) rv) := by
      have h := HR.out.next HB1.out
      rw [root_back hg] at h
      exact h
    clear hg
    go_wp2_with fail
    refine (copyFrom_calls g (natL rs) _ _ _ (HK.out.next HB1.out) HR2.out (rootB_iff.1 HT.out).1 (root_lt HT.out) (by rw [natL_len]; exact (rootB_iff.1 HT.out).2.1)).mono ?_
    rintro e w2 ⟨C, M, fv, gv, ov, tv, S, rfl, hC, hbx, hog, hS, hoo, hot, hb2⟩
    have c1 := cell_of_blk hbx 1 _ rfl
    have HRES := mkHid (gi_res hog hS hot.row HB1.out.size hb2.size)
    have HB2 : Hid (Below w.heap.size w w2) := HB1.out.trans (hb2.mono HB1.out.size)
    clear hbx hog hS hoo hot hb2
    go_wp2_with fail
    go_ret3
    rw [HV.out, HT.out]
    exact ⟨_, _, rfl, HRES.out, HB2.out⟩

set_option maxHeartbeats 800000 in
theorem implOrderG_calls (g : List Ce) (rs : List Int) (v rv : Value) (w : World) (hk : CIn w g v) (hr : IIn w rs rv) :
    Calls Try.prog 22 #[v, rv] w (NewInts (plI (orderO g rs)) w) := by
  have HK : Hid (CIn w g v) := hk
  have HR : Hid (IIn w rs rv) := hr
  clear hk hr
  go_enter Try.func22, Try.ntmps22
  go_wp2_with fail
  refine (canCopy_calls g rs _ _ _ HK.out HR.out).mono ?_
  rintro e w1 ⟨rfl, hb1⟩
  have HB1 : Hid (Below w.heap.size w w1) := hb1
  clear hb1
  cases hg : rootB g rs with
  | false =>
    have HV := mkHid (orderO_no hg)
    clear hg
    go_wp2_with fail
    go_ret
    rw [HV.out]
    exact ⟨_, rfl, no_ints _ _ _ 0 (by simp [maxLen]), HB1.out⟩
  | true =>
    have HT := mkHid hg
    have HV := mkHid (orderO_yes hg)
    have HR2 : Hid (IIn w1 (plI (natL rs)) rv) := by
      have h := HR.out.next HB1.out
      rw [root_back hg] at h
      exact h
    clear hg
    go_wp2_with fail
    refine (copyFrom_calls g (natL rs) _ _ _ (HK.out.next HB1.out) HR2.out (rootB_iff.1 HT.out).1 (root_lt HT.out) (by rw [natL_len]; exact (rootB_iff.1 HT.out).2.1)).mono ?_
    rintro e w2 ⟨C, M, fv, gv, ov, tv, S, rfl, hC, hbx, hog, hS, hoo, hot, hb2⟩
    have c3 := cell_of_blk hbx 3 _ rfl
    have HS := mkHid (hoo.lower HB1.out.size).row
    have HB2 : Hid (Below w.heap.size w w2) := HB1.out.trans (hb2.mono HB1.out.size)
    clear hbx hog hS hoo hot hb2
    go_wp2_with fail
    go_ret
    rw [HV.out]
    exact ⟨_, rfl, HS.out, HB2.out⟩
end Go.Proofs.Ytglpehelmlehiaa
/-
  THE PROGRAM's LiveCells.
-/
namespace Go.Proofs.Ytglpehelmlehiaa
set_option linter.unusedVariables false
set_option linter.unusedSimpArgs false
open Go.RowKit

set_option maxHeartbeats 1600000 in
theorem implLive_calls (g : List Ce) (rs : List Int) (v rv : Value) (w : World) (hk : CIn w g v) (hr : IIn w rs rv) :
    Calls Try.prog 27 #[v, rv] w fun e w' => e = .returned (.tuple #[.int .i64 (liveO g rs), .bool (rootB g rs)]) ∧ Below w.heap.size w w' := by
  have HK : Hid (CIn w g v) := hk
  have HR : Hid (IIn w rs rv) := hr
  clear hk hr
  go_enter Try.func27, Try.ntmps27
  go_wp2_with fail
  refine (canCopy_calls g rs _ _ _ HK.out HR.out).mono ?_
  rintro e w1 ⟨rfl, hb1⟩
  have HB1 : Hid (Below w.heap.size w w1) := hb1
  clear hb1
  cases hg : rootB g rs with
  | false =>
    have HV := mkHid (liveO_no hg)
    have HT := mkHid hg
    clear hg
    go_wp2_with fail
    go_ret2
    exact ⟨ret_ib HV.out.symm HT.out.symm, HB1.out⟩
  | true =>
    have HT := mkHid hg
    have HV := mkHid (liveO_yes hg)
    have HR2 : Hid (IIn w1 (plI (natL rs)) rv) := by
      have h := HR.out.next HB1.out
      rw [root_back hg] at h
      exact h
    clear hg
    go_wp2_with fail
    refine (copyFrom_calls g (natL rs) _ _ _ (HK.out.next HB1.out) HR2.out (rootB_iff.1 HT.out).1 (root_lt HT.out) (by rw [natL_len]; exact (rootB_iff.1 HT.out).2.1)).mono ?_
    rintro e w2 ⟨C, M, fv, gv, ov, tv, S, rfl, hC, hbx, hog, hS, hoo, hot, hb2⟩
    have c1 := cell_of_blk hbx 1 _ rfl
    have HB2 : Hid (Below w.heap.size w w2) := HB1.out.trans (hb2.mono HB1.out.size)
    have hcl : (copyG g (natL rs)).length ≤ 400 := by rw [copyG_len]; have := (order_cs (rootB_iff.1 HT.out).1 (root_lt HT.out)).len; have := graphB_len (rootB_iff.1 HT.out).1; omega
    have HLC := mkHid (liveC_copy g (natL rs))
    have HG2 := mkHid (hog.own fun k h _ => (hS k h).1).inn
    obtain ⟨G, hG⟩ : ∃ G, G = copyG g (natL rs) := ⟨_, rfl⟩
    rw [← hG] at hcl HLC HG2
    obtain ⟨adg, capg, rfl, hlg, hmg, -⟩ := id HG2.out
    unfold maxLen at hmg
    have hCl : C < w2.heap.size := (Array.getElem?_eq_some_iff.1 hbx).1
    clear hbx hog hS hoo hot hb2 hG
    go_wp2_with fail
    go_loopw [8, 27] (fun n i wr => ∃ k : Nat, k ≤ G.length ∧ i = .int .i64 k ∧ n = .int .i64 (liveC (G.take k) : Int) ∧ Below w2.heap.size w2 wr) (fun _ i _ => G.length - (intOf i).toNat)
    case atStart => exact ⟨0, Nat.zero_le _, rfl, rfl, Below.refl _ _⟩
    case round =>
      obtain ⟨k, hk, rfl, rfl, hb⟩ := hrel
      have HB : Hid (Below w2.heap.size w2 wr) := hb
      have hll := liveC_le (G.take k)
      have htl : (G.take k).length ≤ 400 := by rw [List.length_take]; omega
      obtain ⟨q, hq⟩ : ∃ q, q = liveC (G.take k) := ⟨_, rfl⟩
      have HQ := mkHid hq
      rw [← hq] at hll ⊢
      clear hq
      by_cases hlt : k < G.length
      · obtain ⟨bl, off, r2, rfl, d0, d1, d2, -, -, hkk⟩ := (HG2.out.next hb).at k hlt
        obtain ⟨adk, capk, rfl, -, -, -⟩ := id hkk
        clear hb hkk
        by_cases ho : G[k].op = 11
        · have HV2 : Hid (q = liveC (G.take (k + 1))) := by rw [Hid, take_snocC hlt, liveC_snoc, ← HQ.out, ho]; simp
          have t1 : (G[k].op != 11) = false := by simp [ho]
          clear ho
          go_wp2_with fail
          go_roundw
          case rel => exact ⟨k + 1, by omega, by go_num, by rw [← HV2.out], HB.out.trans ((box_below _ _).mono HB.out.size)⟩
          case measure => simp [intOf]; omega
        · have HV2 : Hid (q + 1 = liveC (G.take (k + 1))) := by rw [Hid, take_snocC hlt, liveC_snoc, ← HQ.out]; simp [ho]
          have t1 : (G[k].op != 11) = true := by simpa using ho
          clear ho
          go_wp2_with fail
          go_roundw
          case rel => exact ⟨k + 1, by omega, by go_num, by rw [← HV2.out]; go_num, HB.out.trans ((box_below _ _).mono HB.out.size)⟩
          case measure => simp [intOf]; omega
      · have hke : k = G.length := by omega
        have HE : Hid ((q : Int) = liveO g rs) := by rw [Hid, HV.out, ← HLC.out, HQ.out, hke, List.take_length]
        clear hke hb
        go_wp2_with fail
        go_ret2
        exact ⟨ret_ib HE.out HT.out.symm, HB2.out.trans (HB.out.mono HB2.out.size)⟩
end Go.Proofs.Ytglpehelmlehiaa
/-
  MARKS: a row of bools.
-/
namespace Go.Proofs.Ytglpehelmlehiaa
set_option linter.unusedVariables false
set_option linter.unusedSimpArgs false
open Go.RowKit

/-! ### Marks -/
theorem infoB : (Try.prog.info? 4).map (fun i => (i.zero, i.size, i.bytes)) = some (some (.bool false), 1, 1) := by kernel_rfl
theorem make_bools (n : Nat) (h : n ≤ 1048576) : ∀ w : World, (Instr.makeSlice 93 (.int .i64 (n : Int)) (.int .i64 (n : Int))).run Try.prog w = .ok (.slice (some ⟨w.heap.size, 0, none⟩) n n) (w.alloc (.cells (madeCells #[.bool false] n) 4)) := by
  obtain ⟨i, hi, hzz⟩ := Option.map_eq_some_iff.1 infoB
  simp only [Prod.mk.injEq] at hzz
  obtain ⟨hz, hs, hb⟩ := hzz
  intro w
  have hr := run_make (P := Try.prog) w 93 4 i _ Try.underlying93 hi hz .i64 .i64 n n (by omega) (Int.le_refl _) (by rw [hb]; omega) (by omega)
  simp only [Int.toNat_natCast, hs, Nat.mul_one] at hr
  exact hr
/-- a row of marks -/
abbrev Marks (w : World) (b n : Nat) (f : Nat → Bool) : Prop := w.rowIs b 4 n (fun i => .bool (f i))
theorem no_marks (w : World) (n : Nat) : Marks (w.alloc (.cells (madeCells #[.bool false] n) 4)) w.heap.size n (fun _ => false) := by
  have hl : (madeCells #[.bool false] n).toList = List.replicate n (.bool false) := toList_madeCells_one _ _
  have hsz : (madeCells #[.bool false] n).size = n := by rw [← Array.length_toList, hl, List.length_replicate]
  refine ⟨_, Deep.blk_alloc_new _ _, hsz, fun i hi => ?_⟩
  rw [← Array.getElem?_toList, hl, List.getElem?_replicate, if_pos hi]
theorem Marks.mark {w : World} {b n : Nat} {f : Nat → Bool} (h : Marks w b n f) (a : Nat) : Marks (w.setCell ⟨b, a, none⟩ (.bool true)) b n (setF f a) := by
  refine World.rowIs.congr (h.set a _) fun i hi => ?_
  unfold setF
  by_cases e : i = a
  · simp [e]
  · simp [e]
end Go.Proofs.Ytglpehelmlehiaa
/-
  THE MODEL's l5Order: the cells in the order in which they are copied.
-/
namespace Go.Proofs.Ytglpehelmlehiaa
set_option linter.unusedVariables false
set_option linter.unusedSimpArgs false
open Go.RowKit

theorem bool_ne_int : (4 : TypeId) ≠ 3 := by decide

set_option maxRecDepth 100000 in
set_option maxHeartbeats 1600000 in
theorem l5Order_calls (g : List Ce) (rs : List Nat) (v rv : Value) (w : World) (hk : CIn w g v) (hr : IIn w (plI rs) rv) (hg : graphB g 6 = true) (hlt : ∀ x ∈ rs, x < g.length) (h20 : rs.length ≤ 20) :
    Calls Try.prog 66 #[v, rv] w (NewStk (orderG g rs) w) := by
  have HK : Hid (CIn w g v) := hk
  have HR : Hid (IIn w (plI rs) rv) := hr
  have HG : Hid (graphB g 6 = true) := hg
  have HLT : Hid (∀ x ∈ rs, x < g.length) := hlt
  have h400 : g.length ≤ 400 := graphB_len hg
  obtain ⟨ad, cap, rfl, hl, hm, -⟩ := hk
  obtain ⟨adr, capr, rfl, hlr, hmr⟩ := pl_form hr
  unfold maxLen at hm hmr
  have hmk := make_bools g.length (by omega)
  have HM0 : Hid (Marks ((w.alloc (.cells #[] 3)).alloc (.cells (madeCells #[.bool false] g.length) 4)) (w.heap.size + 1) g.length (memB [])) := by
    have h := no_marks (w.alloc (.cells #[] 3)) g.length
    rw [Deep.nblk_alloc] at h
    rw [memB_nil]; exact h
  have HS0 : Hid (Stk ((w.alloc (.cells #[] 3)).alloc (.cells (madeCells #[.bool false] g.length) 4)) w.heap.size [] (.slice (some ⟨w.heap.size, 0, none⟩) 0 0)) := (stk_zero (Deep.blk_alloc_new w _) (Nat.le_refl _)).alloc _
  clear hg hlt hr
  go_enter Try.func66, Try.ntmps66
  go_wp2_with fail
  go_loopw [5, 7] (fun out i wr => ∃ (k : Nat) (o : List Nat), k ≤ rs.length ∧ i = .int .i64 k ∧ o = visitL [] (rs.take k) ∧ Cs g.length o ∧ Stk wr w.heap.size o out ∧ Marks wr (w.heap.size + 1) g.length (memB o) ∧ Below w.heap.size w wr) (fun _ i _ => rs.length - (intOf i).toNat)
  case atStart => exact ⟨0, [], Nat.zero_le _, rfl, rfl, Cs.nil _, HS0.out, HM0.out, ((Below.refl _ _).alloc (Nat.le_refl _) _).alloc (by simp) _⟩
  case round =>
    obtain ⟨k, o, hk, rfl, ho, hcs, hst, hmk2, hb⟩ := hrel
    have HO : Hid (o = visitL [] (rs.take k)) := ho
    have HC : Hid (Cs g.length o) := hcs
    have hol := hcs.len
    have HB : Hid (Below w.heap.size w wr) := hb
    have HMK : Hid (Marks wr (w.heap.size + 1) g.length (memB o)) := hmk2
    have HS : Hid (Stk wr w.heap.size o u5) := hst
    obtain ⟨ad5, cap5, rfl⟩ := hst.len
    clear ho hcs hst
    by_cases hlt : k < rs.length
    · obtain ⟨bl, off, x, rfl, hbl, hx, hxm, d0w⟩ := pl_at HR.out k hlt
      have hxl := HLT.out x hxm
      have HX : Hid (rs[k]? = some x) := hx
      have d0 := (hb.cell (p := ⟨bl, off + k, none⟩) hbl).trans d0w
      have cm := hmk2.cell (i := x) hxl
      have fm := hmk2.frozen x
      clear hx hxm d0w hmk2 hb
      cases hf : memB o x with
      | true =>
        have HO2 : Hid (o = visitL [] (rs.take (k + 1))) := by rw [Hid, take_snoc HX.out, visitL_snoc, ← HO.out]; exact (memB_yes hf).symm
        rw [hf] at cm
        go_wp2_with fail
        go_roundw
        case rel => exact ⟨k + 1, o, by omega, by go_num, HO2.out, HC.out, HS.out, HMK.out, HB.out⟩
        case measure => simp [intOf]; omega
      | false =>
        have HO2 : Hid (o ++ [x] = visitL [] (rs.take (k + 1))) := by rw [Hid, take_snoc HX.out, visitL_snoc, ← HO.out]; exact (memB_no hf).symm
        have HC2 : Hid (Cs g.length (o ++ [x])) := by rw [Hid, ← memB_no hf]; exact HC.out.visit hxl
        rw [hf] at cm
        have hz3 : (wr.setCell ⟨w.heap.size + 1, x, none⟩ (.bool true)).heap.size = wr.heap.size := size_setCell _ _ _
        have HB3 : Hid (Below w.heap.size w (wr.setCell ⟨w.heap.size + 1, x, none⟩ (.bool true))) := HB.out.setCell (by simp) _
        have HS3 : Hid (Stk ((wr.setCell ⟨w.heap.size + 1, x, none⟩ (.bool true)).alloc (.cells #[.int .i64 (x : Int)] 3)) w.heap.size o (.slice ad5 o.length cap5)) := (HS.out.mark HMK.out bool_ne_int _ _).alloc _
        have HK3 : Hid (IIn ((wr.setCell ⟨w.heap.size + 1, x, none⟩ (.bool true)).alloc (.cells #[.int .i64 (x : Int)] 3)) [(x : Int)] (.slice (some ⟨wr.heap.size, 0, none⟩) 1 1)) := by
          have h := one_in (wr.setCell ⟨w.heap.size + 1, x, none⟩ (.bool true)) x
          rw [hz3] at h; exact h
        have HMK3 : Hid (Marks ((wr.setCell ⟨w.heap.size + 1, x, none⟩ (.bool true)).alloc (.cells #[.int .i64 (x : Int)] 3)) (w.heap.size + 1) g.length (memB (o ++ [x]))) := by
          have h : Marks (wr.setCell ⟨w.heap.size + 1, x, none⟩ (.bool true)) (w.heap.size + 1) g.length (setF (memB o) x) := HMK.out.mark x
          rw [Hid, memB_snoc]
          exact h.of_block (Deep.blk_alloc_lt _ _ _ h.lt)
        have HLO : Hid (w.heap.size ≤ ((wr.setCell ⟨w.heap.size + 1, x, none⟩ (.bool true)).alloc (.cells #[.int .i64 (x : Int)] 3)).heap.size) := by rw [Hid, Deep.nblk_alloc]; have := HB3.out.size; omega
        have d3 : (wr.setCell ⟨w.heap.size + 1, x, none⟩ (.bool true)).cell? ⟨bl, off + k, none⟩ = some (.int .i64 (x : Int)) := (World.cell?_of_block (Below.heap_setCell _ _ _ _ (by show bl ≠ w.heap.size + 1; omega))).trans d0
        clear hf hz3
        go_wp2_with (at_builtin; go_must (refine wpList_push rfl _ _ rfl _ w.heap.size o [x] (.slice ad5 o.length cap5) (.slice (some ⟨wr.heap.size, 0, none⟩) 1 1) rfl HS3.out rfl HK3.out rfl HLO.out (by simp; omega) ?_); go_must (intro v' w5 hst5 hg5); go_must (have HS5 : Hid (Stk w5 w.heap.size (o ++ [x]) v') := hst5); go_must (have HM5 : Hid (Marks w5 (w.heap.size + 1) g.length (memB (o ++ [x]))) := row_push HMK3.out HS3.out hg5 bool_ne_int); go_must (have HB5 : Hid (Below w.heap.size w w5) := push_below HS3.out (HB3.out.alloc HB3.out.size _) (Nat.le_refl _) hg5 (Nat.le_refl _)); clear hst5 hg5 d0 d3 cm fm)
        go_roundw
        case rel => first | exact ⟨k + 1, o ++ [x], by omega, by go_num, HO2.out, HC2.out, HS5.out, HM5.out, HB5.out⟩ | ((repeat apply Exists.intro); exact ⟨⟨k + 1, o ++ [x], by omega, by go_num, HO2.out, HC2.out, HS5.out, HM5.out, HB5.out⟩, rfl⟩)
        case measure => simp [intOf]; omega
    · have hke : k = rs.length := by omega
      have HE : Hid (OrdRel g rs 0 o) := by
        have h := HO.out
        rw [hke, List.take_length] at h
        rw [Hid, h]; exact OrdRel.start HLT.out
      clear hke hmk2 hb
      clear HO HC hol
      go_wp2_with fail
      go_loopw [5, 8] (fun out a wr => ∃ (i : Nat) (o : List Nat), a = .int .i64 i ∧ OrdRel g rs i o ∧ Stk wr w.heap.size o out ∧ Marks wr (w.heap.size + 1) g.length (memB o) ∧ Below w.heap.size w wr) (fun _ a _ => g.length - (intOf a).toNat)
      case atStart => exact ⟨0, o, rfl, HE.out, HS.out, HMK.out, HB.out⟩
      case round =>
        obtain ⟨i, o, rfl, hor, hst, hmk2, hb⟩ := hrel
        obtain ⟨wo, rfl⟩ : ∃ wo : World, wo = wr := ⟨_, rfl⟩
        have HE : Hid (OrdRel g rs i o) := hor
        have hol := hor.cs.len
        have hile := hor.le
        have HB : Hid (Below w.heap.size w wo) := hb
        have HMK : Hid (Marks wo (w.heap.size + 1) g.length (memB o)) := hmk2
        have HS : Hid (Stk wo w.heap.size o u5) := hst
        obtain ⟨ad5, cap5, rfl⟩ := hst.len
        clear hor
        by_cases hlt : i < o.length
        · obtain ⟨blo, offo, a, rfl, hblo, ha, ham, dow⟩ := pl_at HS.out.pin i hlt
          have hal := HE.out.lt a ham
          obtain ⟨bl, off, r2, rfl, c0w, c1w, c2w, -, -, hkk⟩ := HK.out.at a hal
          have hbl3 : bl < w.heap.size := cell_lt c0w
          have c2 := (hb.cell (p := ⟨bl, off + a * 3 + 2, none⟩) hbl3).trans c2w
          obtain ⟨ks, hks⟩ : ∃ ks, ks = kidsN g a := ⟨_, rfl⟩
          have HKK : Hid (IIn w (plI ks) r2) := by rw [Hid, hks]; exact kids_pl HG.out hal hkk
          obtain ⟨adk, capk, rfl, hlk, hmk⟩ := pl_form HKK.out
          have HNX : Hid (OrdRel g rs (i + 1) (visitL o ks)) := by
            have h := HE.out.step HG.out hlt
            rw [List.getD_eq_getElem?_getD, ha] at h
            rw [Hid, hks]; exact h
          have hk3 : ks.length ≤ 3 := by rw [hks]; exact kidsN_len HG.out a hal
          have HKL : Hid (∀ x ∈ ks, x < g.length) := by rw [hks]; exact fun x hx => kidsN_lt HG.out a hal x hx
          have HC0 : Hid (Cs g.length o) := HE.out.cs
          clear ha ham hkk hks c0w c1w c2w hst hmk2 hb
          go_wp2_with fail
          go_loopw [5, 10] (fun out z wr => ∃ (k : Nat) (p : List Nat), k ≤ ks.length ∧ z = .int .i64 k ∧ p = visitL o (ks.take k) ∧ Cs g.length p ∧ Stk wr w.heap.size p out ∧ Marks wr (w.heap.size + 1) g.length (memB p) ∧ Below w.heap.size w wr) (fun _ z _ => ks.length - (intOf z).toNat)
          case atStart => exact ⟨0, o, Nat.zero_le _, rfl, rfl, HC0.out, HS.out, HMK.out, HB.out⟩
          case round =>
            obtain ⟨k, p, hk, rfl, hp, hcs, hst, hmk2, hb⟩ := hrel
            have HO : Hid (p = visitL o (ks.take k)) := hp
            have HC : Hid (Cs g.length p) := hcs
            have hpl := hcs.len
            have HB : Hid (Below w.heap.size w wr) := hb
            have HMK : Hid (Marks wr (w.heap.size + 1) g.length (memB p)) := hmk2
            have HS : Hid (Stk wr w.heap.size p u5) := hst
            obtain ⟨ad5, cap5, rfl⟩ := hst.len
            clear hp hcs hst dow c2
            by_cases hltk : k < ks.length
            · obtain ⟨bl, off, x, rfl, hbl, hx, hxm, d0w⟩ := pl_at HKK.out k hltk
              have hxl := HKL.out x hxm
              have HX : Hid (ks[k]? = some x) := hx
              have d0 := (hb.cell (p := ⟨bl, off + k, none⟩) hbl).trans d0w
              have cm := hmk2.cell (i := x) hxl
              have fm := hmk2.frozen x
              clear hx hxm d0w hmk2 hb
              cases hf : memB p x with
              | true =>
                have HO2 : Hid (p = visitL o (ks.take (k + 1))) := by rw [Hid, take_snoc HX.out, visitL_snoc, ← HO.out]; exact (memB_yes hf).symm
                rw [hf] at cm
                go_wp2_with fail
                go_roundw
                case rel => exact ⟨k + 1, p, by omega, by go_num, HO2.out, HC.out, HS.out, HMK.out, HB.out⟩
                case measure => simp [intOf]; omega
              | false =>
                have HO2 : Hid (p ++ [x] = visitL o (ks.take (k + 1))) := by rw [Hid, take_snoc HX.out, visitL_snoc, ← HO.out]; exact (memB_no hf).symm
                have HC2 : Hid (Cs g.length (p ++ [x])) := by rw [Hid, ← memB_no hf]; exact HC.out.visit hxl
                rw [hf] at cm
                have hz3 : (wr.setCell ⟨w.heap.size + 1, x, none⟩ (.bool true)).heap.size = wr.heap.size := size_setCell _ _ _
                have HB3 : Hid (Below w.heap.size w (wr.setCell ⟨w.heap.size + 1, x, none⟩ (.bool true))) := HB.out.setCell (by simp) _
                have HS3 : Hid (Stk ((wr.setCell ⟨w.heap.size + 1, x, none⟩ (.bool true)).alloc (.cells #[.int .i64 (x : Int)] 3)) w.heap.size p (.slice ad5 p.length cap5)) := (HS.out.mark HMK.out bool_ne_int _ _).alloc _
                have HK3 : Hid (IIn ((wr.setCell ⟨w.heap.size + 1, x, none⟩ (.bool true)).alloc (.cells #[.int .i64 (x : Int)] 3)) [(x : Int)] (.slice (some ⟨wr.heap.size, 0, none⟩) 1 1)) := by
                  have h := one_in (wr.setCell ⟨w.heap.size + 1, x, none⟩ (.bool true)) x
                  rw [hz3] at h; exact h
                have HMK3 : Hid (Marks ((wr.setCell ⟨w.heap.size + 1, x, none⟩ (.bool true)).alloc (.cells #[.int .i64 (x : Int)] 3)) (w.heap.size + 1) g.length (memB (p ++ [x]))) := by
                  have h : Marks (wr.setCell ⟨w.heap.size + 1, x, none⟩ (.bool true)) (w.heap.size + 1) g.length (setF (memB p) x) := HMK.out.mark x
                  rw [Hid, memB_snoc]
                  exact h.of_block (Deep.blk_alloc_lt _ _ _ h.lt)
                have HLO : Hid (w.heap.size ≤ ((wr.setCell ⟨w.heap.size + 1, x, none⟩ (.bool true)).alloc (.cells #[.int .i64 (x : Int)] 3)).heap.size) := by rw [Hid, Deep.nblk_alloc]; have := HB3.out.size; omega
                have d3 : (wr.setCell ⟨w.heap.size + 1, x, none⟩ (.bool true)).cell? ⟨bl, off + k, none⟩ = some (.int .i64 (x : Int)) := (World.cell?_of_block (Below.heap_setCell _ _ _ _ (by show bl ≠ w.heap.size + 1; omega))).trans d0
                clear hf hz3
                go_wp2_with (at_builtin; go_must (refine wpList_push rfl _ _ rfl _ w.heap.size p [x] (.slice ad5 p.length cap5) (.slice (some ⟨wr.heap.size, 0, none⟩) 1 1) rfl HS3.out rfl HK3.out rfl HLO.out (by simp; omega) ?_); go_must (intro v' w5 hst5 hg5); go_must (have HS5 : Hid (Stk w5 w.heap.size (p ++ [x]) v') := hst5); go_must (have HM5 : Hid (Marks w5 (w.heap.size + 1) g.length (memB (p ++ [x]))) := row_push HMK3.out HS3.out hg5 bool_ne_int); go_must (have HB5 : Hid (Below w.heap.size w w5) := push_below HS3.out (HB3.out.alloc HB3.out.size _) (Nat.le_refl _) hg5 (Nat.le_refl _)); clear hst5 hg5 d0 d3 cm fm)
                go_roundw
                case rel => first | exact ⟨k + 1, p ++ [x], by omega, by go_num, HO2.out, HC2.out, HS5.out, HM5.out, HB5.out⟩ | ((repeat apply Exists.intro); exact ⟨⟨k + 1, p ++ [x], by omega, by go_num, HO2.out, HC2.out, HS5.out, HM5.out, HB5.out⟩, rfl⟩)
                case measure => simp [intOf]; omega
            · have hke : k = ks.length := by omega
              have HE2 : Hid (OrdRel g rs (i + 1) p) := by
                have h := HO.out
                rw [hke, List.take_length] at h
                rw [Hid, h]; exact HNX.out
              clear hke hmk2 hb
              go_wp2_with fail
              go_roundw
              case rel => exact ⟨i + 1, p, by go_num, HE2.out, HS.out, HMK.out, HB.out⟩
              case measure => simp [intOf]; omega
        · have HV : Hid (o = orderG g rs) := HE.out.fin hlt
          clear hst hmk2 hb
          go_wp2_with fail
          go_ret
          exact ⟨_, rfl, by rw [← HV.out]; exact HS.out, HB.out⟩
end Go.Proofs.Ytglpehelmlehiaa
/-
  THE MODEL's l5Right: a graph and some of its cells.
-/
namespace Go.Proofs.Ytglpehelmlehiaa
set_option linter.unusedVariables false
set_option linter.unusedSimpArgs false
open Go.RowKit

theorem root_noG {g : List Ce} {rs : List Int} (h : graphB g 6 = false) : rootB g rs = false := by unfold rootB; rw [h]; rfl
theorem root_noL {g : List Ce} {rs : List Int} (h : 20 < rs.length) : rootB g rs = false := by
  unfold rootB; rw [decide_eq_false (by omega)]; simp
theorem root_noA {g : List Ce} {rs : List Int} (h : rs.all (isAt g.length) = false) : rootB g rs = false := by
  unfold rootB; rw [h]; simp

set_option maxHeartbeats 800000 in
theorem l5Right_calls (g : List Ce) (rs : List Int) (v rv : Value) (w : World) (hk : CIn w g v) (hr : IIn w rs rv) :
    Calls Try.prog 65 #[v, rv] w fun e w' => e = .returned (.bool (rootB g rs)) ∧ Below w.heap.size w w' := by
  have HK : Hid (CIn w g v) := hk
  have HR : Hid (IIn w rs rv) := hr
  obtain ⟨ad, cap, rfl, hl, hm, -⟩ := hk
  obtain ⟨adr, capr, rfl, hlr, hmr, -⟩ := hr
  unfold maxLen at hm hmr
  go_enter Try.func65, Try.ntmps65
  go_wp2_with fail
  refine (specGraph_calls g 6 _ _ HK.out).mono ?_
  rintro e w1 ⟨rfl, hb1⟩
  have HB1 : Hid (Below w.heap.size w w1) := hb1
  clear hb1
  cases hg : graphB g 6 with
  | false =>
    have HV : Hid (rootB g rs = false) := root_noG hg
    clear hg
    go_wp2_with fail
    go_ret
    exact ⟨ret_bool HV.out.symm, HB1.out⟩
  | true =>
    have HG : Hid (graphB g 6 = true) := hg
    clear hg
    by_cases h20 : (20 : Int) < rs.length
    · have HV : Hid (rootB g rs = false) := root_noL (by omega)
      go_wp2_with fail
      go_ret
      exact ⟨ret_bool HV.out.symm, HB1.out⟩
    have H20 : Hid (rs.length ≤ 20) := by unfold Hid; omega
    go_wp2_with fail
    go_loopw [5] (fun i wr => ∃ k : Nat, k ≤ rs.length ∧ i = .int .i64 k ∧ (rs.take k).all (isAt g.length) = true ∧ Below w.heap.size w wr) (fun i _ => rs.length - (intOf i).toNat)
    case atStart => exact ⟨0, Nat.zero_le _, rfl, by simp, HB1.out⟩
    case round =>
      obtain ⟨k, hk, rfl, hall, hb⟩ := hrel
      have HA : Hid ((rs.take k).all (isAt g.length) = true) := hall
      have HB : Hid (Below w.heap.size w wr) := hb
      clear hall hb
      by_cases hlt : k < rs.length
      · obtain ⟨bl, off, rfl, d0⟩ := (HR.out.next HB.out).at k hlt
        by_cases h0 : rs[k] < 0
        · have HV : Hid (rootB g rs = false) := root_noA (allI_false_of _ _ k hlt (isAt_lo h0))
          go_wp2_with fail
          go_ret
          exact ⟨ret_bool HV.out.symm, HB.out⟩
        by_cases h1 : (g.length : Int) ≤ rs[k]
        · have HV : Hid (rootB g rs = false) := root_noA (allI_false_of _ _ k hlt (isAt_hi (by omega)))
          go_wp2_with fail
          go_ret
          exact ⟨ret_bool HV.out.symm, HB.out⟩
        have HA2 : Hid ((rs.take (k + 1)).all (isAt g.length) = true) := by rw [Hid, allI_take_succ _ _ _ hlt, HA.out, isAt_in (by omega) (by omega)]; rfl
        go_wp2_with fail
        go_roundw
        case rel => exact ⟨k + 1, by omega, by go_num, HA2.out, HB.out⟩
        case measure => simp [intOf]; omega
      · have hke : rs.length = k := by omega
        have HV : Hid (rootB g rs = true) := rootB_iff.2 ⟨HG.out, H20.out, all_end HA.out hke⟩
        clear hke
        go_wp2_with fail
        go_ret
        exact ⟨ret_bool HV.out.symm, HB.out⟩
end Go.Proofs.Ytglpehelmlehiaa
/-
  THE MODEL's LiveCells.
-/
namespace Go.Proofs.Ytglpehelmlehiaa
set_option linter.unusedVariables false
set_option linter.unusedSimpArgs false
open Go.RowKit

set_option maxHeartbeats 1600000 in
theorem specLive_calls (g : List Ce) (rs : List Int) (v rv : Value) (w : World) (hk : CIn w g v) (hr : IIn w rs rv) :
    Calls Try.prog 28 #[v, rv] w fun e w' => e = .returned (.tuple #[.int .i64 (liveO g rs), .bool (rootB g rs)]) ∧ Below w.heap.size w w' := by
  have HK : Hid (CIn w g v) := hk
  have HR : Hid (IIn w rs rv) := hr
  obtain ⟨ad, cap, rfl, hl, hm, -⟩ := hk
  unfold maxLen at hm
  clear hr
  go_enter Try.func28, Try.ntmps28
  go_wp2_with fail
  refine (l5Right_calls g rs _ _ _ HK.out HR.out).mono ?_
  rintro e w1 ⟨rfl, hb1⟩
  have HB1 : Hid (Below w.heap.size w w1) := hb1
  clear hb1
  cases hg : rootB g rs with
  | false =>
    have HV := mkHid (liveO_no hg)
    have HT := mkHid hg
    clear hg
    go_wp2_with fail
    go_ret2
    exact ⟨ret_ib HV.out.symm HT.out.symm, HB1.out⟩
  | true =>
    have HT := mkHid hg
    have HV := mkHid (liveO_yes hg)
    have HG := mkHid (rootB_iff.1 hg).1
    have HR2 : Hid (IIn w1 (plI (natL rs)) rv) := by
      have h := HR.out.next HB1.out
      rw [root_back hg] at h
      exact h
    clear hg
    go_wp2_with fail
    refine (l5Order_calls g (natL rs) _ _ _ (HK.out.next HB1.out) HR2.out HG.out (root_lt HT.out) (by rw [natL_len]; exact (rootB_iff.1 HT.out).2.1)).mono ?_
    rintro e w2 ⟨tv, rfl, hs, hb2⟩
    have HS := mkHid hs.pin
    have HB2 : Hid (Below w.heap.size w w2) := HB1.out.trans (hb2.mono HB1.out.size)
    have HCS := mkHid (order_cs HG.out (root_lt HT.out))
    obtain ⟨o, ho⟩ : ∃ o, o = orderG g (natL rs) := ⟨_, rfl⟩
    have HO := mkHid ho
    rw [← ho] at HS HCS
    have hol : o.length ≤ 400 := by have := HCS.out.len; have := graphB_len HG.out; omega
    obtain ⟨ado, capo, rfl, hlo, hmo⟩ := pl_form HS.out
    unfold maxLen at hmo
    clear hs hb2 ho
    go_wp2_with fail
    go_loopw [6, 8] (fun n i wr => ∃ k : Nat, k ≤ o.length ∧ i = .int .i64 k ∧ n = .int .i64 (liveL g (o.take k) : Int) ∧ Below w2.heap.size w2 wr) (fun _ i _ => o.length - (intOf i).toNat)
    case atStart => exact ⟨0, Nat.zero_le _, rfl, rfl, Below.refl _ _⟩
    case round =>
      obtain ⟨k, hk, rfl, rfl, hb⟩ := hrel
      have HB : Hid (Below w2.heap.size w2 wr) := hb
      have hll := liveL_le g (o.take k)
      have htl : (o.take k).length ≤ 400 := by rw [List.length_take]; omega
      obtain ⟨q, hq⟩ : ∃ q, q = liveL g (o.take k) := ⟨_, rfl⟩
      have HQ := mkHid hq
      rw [← hq] at hll ⊢
      clear hq hb
      by_cases hlt : k < o.length
      · obtain ⟨blo, offo, a, rfl, hblo, ha, ham, dow⟩ := pl_at HS.out k hlt
        have hal := HCS.out.2 a ham
        obtain ⟨bl, off, r2, rfl, c0w, -, -, -, -, -⟩ := (HK.out.next HB2.out).at a hal
        have c0 := (HB.out.cell (p := ⟨bl, off + a * 3, none⟩) (cell_lt c0w)).trans c0w
        have co := (HB.out.cell (p := ⟨blo, offo + k, none⟩) hblo).trans dow
        have HA : Hid (o[k]? = some a) := ha
        by_cases ho : g[a].op = 11
        · have HV2 : Hid (q = liveL g (o.take (k + 1))) := by rw [Hid, take_snoc HA.out, liveL_snoc, ← HQ.out, opAt_at a hal, ho]; simp
          have t1 : (g[a].op != 11) = false := by simp [ho]
          clear c0w dow ha ho
          go_wp2_with fail
          go_roundw
          case rel => exact ⟨k + 1, by omega, by go_num, by rw [← HV2.out], HB.out⟩
          case measure => simp [intOf]; omega
        · have HV2 : Hid (q + 1 = liveL g (o.take (k + 1))) := by rw [Hid, take_snoc HA.out, liveL_snoc, ← HQ.out, opAt_at a hal]; simp [ho]
          have t1 : (g[a].op != 11) = true := by simpa using ho
          clear c0w dow ha ho
          go_wp2_with fail
          go_roundw
          case rel => exact ⟨k + 1, by omega, by go_num, by rw [← HV2.out]; go_num, HB.out⟩
          case measure => simp [intOf]; omega
      · have hke : k = o.length := by omega
        have HE : Hid ((q : Int) = liveO g rs) := by rw [Hid, HV.out, ← HO.out, HQ.out, hke, List.take_length]
        clear hke
        go_wp2_with fail
        go_ret2
        exact ⟨ret_ib HE.out HT.out.symm, HB2.out.trans (HB.out.mono HB2.out.size)⟩
end Go.Proofs.Ytglpehelmlehiaa
/-
  WHAT THE READING OF AN ARGUMENT GIVES: a slice of bytes.
-/
namespace Go.Proofs.Ytglpehelmlehiaa
open Go.RowKit
set_option linter.unusedVariables false
set_option linter.unusedSimpArgs false
section
variable {H : Type} {enc : TypeId × Value → H} {w : World} {base : Nat} {spare : Nat → Bool} {held : Bool}

theorem trod_bytes (fuel : Nat) (v : Value) (x : DataW H × List MemPlace) (h : DataW.trod enc Try.prog w base spare held fuel 22 [v] = some x) : ∃ len, BytesOn w (Lt w.heap.size) len v := by
  have hC : Try.prog.cellsOf 5 = 1 := by kernel_rfl
  rcases DataW.trod_slice Try.underlying22 h with ⟨h0', _⟩ | ⟨a, len, cap, elems, rest, n, hfu, hv, _, hb, hl, hm, hlen, hel, _, _⟩
  · simp only [List.cons.injEq, and_true] at h0'
    exact ⟨0, none, 0, h0', by simp, by simp [maxLen], Or.inl rfl⟩
  · simp only [List.cons.injEq, and_true] at hv
    have key : ∀ i, i < len → ∃ z : Int, w.cell? (a.add (i * 1)) = some (.int .u8 z) ∧ 0 ≤ z ∧ z ≤ 255 := by
      intro i hi
      have hh := hel i hi
      rw [hC] at hh
      obtain ⟨cs, hcs, hd⟩ := Option.bind_eq_some_iff.1 (hh.trans (List.getElem?_eq_getElem (by omega)))
      obtain ⟨_, hl1, hcell⟩ := World.cells?_some hcs
      obtain ⟨p, rfl⟩ : ∃ p, cs = [p] := by
        match cs, hl1 with
        | [p], _ => exact ⟨p, rfl⟩
      obtain ⟨z, e0, _, w0⟩ := DataW.trod_int Try.underlying5 hd
      simp only [List.cons.injEq, and_true] at e0
      have g0 := hcell 0 (by omega)
      exact ⟨z, by rw [← e0]; simpa [Addr.add] using g0, bounds_u8 w0⟩
    subst hv
    refine ⟨len, some a, cap, rfl, hl, hm, ?_⟩
    by_cases hz : len = 0
    · left; exact hz
    right
    obtain ⟨bl, off, spot⟩ := a
    obtain ⟨z0, g0, -⟩ := key 0 (by omega)
    have hspot : spot = none := by simpa [Addr.add] using World.cell?_spot g0
    subst hspot
    refine ⟨bl, off, rfl, by have := cell_lt g0; simpa [Addr.add, Lt] using this, fun i hi => ?_⟩
    obtain ⟨z, g, hz'⟩ := key i hi
    rw [WideShapes.add_plain, Nat.mul_one] at g
    exact ⟨z, g, hz'⟩
end
end Go.Proofs.Ytglpehelmlehiaa
