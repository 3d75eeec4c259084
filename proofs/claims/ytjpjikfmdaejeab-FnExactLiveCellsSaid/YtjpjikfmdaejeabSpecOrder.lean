/-
  THE MODEL's l5Order: the cells in the order in which they are copied.
-/
import Derived.Test.YtjpjikfmdaejeabMarksB
import Derived.Test.YtjpjikfmdaejeabSpecGraph
import Derived.Test.YtjpjikfmdaejeabPlN
import Derived.Test.YtjpjikfmdaejeabOrdM
namespace Go.Proofs.Ytjpjikfmdaejeab
set_option linter.unusedVariables false
set_option linter.unusedSimpArgs false
open Go.RowKit

theorem bool_ne_int : (4 : TypeId) ≠ 3 := by decide

set_option maxRecDepth 100000 in
set_option maxHeartbeats 1600000 in
theorem l5Order_calls (g : List Ce) (rs : List Nat) (v rv : Value) (w : World) (hk : CIn w g v) (hr : IIn w (plI rs) rv) (hg : graphB g 6 = true) (hlt : ∀ x ∈ rs, x < g.length) (h20 : rs.length ≤ 20) :
    Calls Try.prog 40 #[v, rv] w (NewStk (orderG g rs) w) := by
  have HK : Hid (CIn w g v) := hk
  have HR : Hid (IIn w (plI rs) rv) := hr
  have HG : Hid (graphB g 6 = true) := hg
  have HLT : Hid (∀ x ∈ rs, x < g.length) := hlt
  have h400 : g.length ≤ 400 := graphB_len hg
  obtain ⟨ad, cap, rfl, hl, hm, -⟩ := hk
  obtain ⟨adr, capr, rfl, hlr, hmr⟩ := pl_form hr
  unfold maxLen at hm hmr
  have hmk := make_bools g.length (by omega)
  have HM0 : Hid (Marks ((w.alloc (.cells #[] 3)).alloc (.cells (madeCells #[.bool false] g.length) 4)) (w.heap.size + 1) g.length (memB [])) := by
    have h := no_marks (w.alloc (.cells #[] 3)) g.length
    rw [Deep.nblk_alloc] at h
    rw [memB_nil]; exact h
  have HS0 : Hid (Stk ((w.alloc (.cells #[] 3)).alloc (.cells (madeCells #[.bool false] g.length) 4)) w.heap.size [] (.slice (some ⟨w.heap.size, 0, none⟩) 0 0)) := (stk_zero (Deep.blk_alloc_new w _) (Nat.le_refl _)).alloc _
  clear hg hlt hr
  go_enter Try.func40, Try.ntmps40
  go_wp2_with fail
  go_loopw [5, 7] (fun out i wr => ∃ (k : Nat) (o : List Nat), k ≤ rs.length ∧ i = .int .i64 k ∧ o = visitL [] (rs.take k) ∧ Cs g.length o ∧ Stk wr w.heap.size o out ∧ Marks wr (w.heap.size + 1) g.length (memB o) ∧ Below w.heap.size w wr) (fun _ i _ => rs.length - (intOf i).toNat)
  case atStart => exact ⟨0, [], Nat.zero_le _, rfl, rfl, Cs.nil _, HS0.out, HM0.out, ((Below.refl _ _).alloc (Nat.le_refl _) _).alloc (by simp) _⟩
  case round =>
    obtain ⟨k, o, hk, rfl, ho, hcs, hst, hmk2, hb⟩ := hrel
    have HO : Hid (o = visitL [] (rs.take k)) := ho
    have HC : Hid (Cs g.length o) := hcs
    have hol := hcs.len
    have HB : Hid (Below w.heap.size w wr) := hb
    have HMK : Hid (Marks wr (w.heap.size + 1) g.length (memB o)) := hmk2
    have HS : Hid (Stk wr w.heap.size o u5) := hst
    obtain ⟨ad5, cap5, rfl⟩ := hst.len
    clear ho hcs hst
    by_cases hlt : k < rs.length
    · obtain ⟨bl, off, x, rfl, hbl, hx, hxm, d0w⟩ := pl_at HR.out k hlt
      have hxl := HLT.out x hxm
      have HX : Hid (rs[k]? = some x) := hx
      have d0 := (hb.cell (p := ⟨bl, off + k, none⟩) hbl).trans d0w
      have cm := hmk2.cell (i := x) hxl
      have fm := hmk2.frozen x
      clear hx hxm d0w hmk2 hb
      cases hf : memB o x with
      | true =>
        have HO2 : Hid (o = visitL [] (rs.take (k + 1))) := by rw [Hid, take_snoc HX.out, visitL_snoc, ← HO.out]; exact (memB_yes hf).symm
        rw [hf] at cm
        go_wp2_with fail
        go_roundw
        case rel => exact ⟨k + 1, o, by omega, by go_num, HO2.out, HC.out, HS.out, HMK.out, HB.out⟩
        case measure => simp [intOf]; omega
      | false =>
        have HO2 : Hid (o ++ [x] = visitL [] (rs.take (k + 1))) := by rw [Hid, take_snoc HX.out, visitL_snoc, ← HO.out]; exact (memB_no hf).symm
        have HC2 : Hid (Cs g.length (o ++ [x])) := by rw [Hid, ← memB_no hf]; exact HC.out.visit hxl
        rw [hf] at cm
        have hz3 : (wr.setCell ⟨w.heap.size + 1, x, none⟩ (.bool true)).heap.size = wr.heap.size := size_setCell _ _ _
        have HB3 : Hid (Below w.heap.size w (wr.setCell ⟨w.heap.size + 1, x, none⟩ (.bool true))) := HB.out.setCell (by simp) _
        have HS3 : Hid (Stk ((wr.setCell ⟨w.heap.size + 1, x, none⟩ (.bool true)).alloc (.cells #[.int .i64 (x : Int)] 3)) w.heap.size o (.slice ad5 o.length cap5)) := (HS.out.mark HMK.out bool_ne_int _ _).alloc _
        have HK3 : Hid (IIn ((wr.setCell ⟨w.heap.size + 1, x, none⟩ (.bool true)).alloc (.cells #[.int .i64 (x : Int)] 3)) [(x : Int)] (.slice (some ⟨wr.heap.size, 0, none⟩) 1 1)) := by
          have h := one_in (wr.setCell ⟨w.heap.size + 1, x, none⟩ (.bool true)) x
          rw [hz3] at h; exact h
        have HMK3 : Hid (Marks ((wr.setCell ⟨w.heap.size + 1, x, none⟩ (.bool true)).alloc (.cells #[.int .i64 (x : Int)] 3)) (w.heap.size + 1) g.length (memB (o ++ [x]))) := by
          have h : Marks (wr.setCell ⟨w.heap.size + 1, x, none⟩ (.bool true)) (w.heap.size + 1) g.length (setF (memB o) x) := HMK.out.mark x
          rw [Hid, memB_snoc]
          exact h.of_block (Deep.blk_alloc_lt _ _ _ h.lt)
        have HLO : Hid (w.heap.size ≤ ((wr.setCell ⟨w.heap.size + 1, x, none⟩ (.bool true)).alloc (.cells #[.int .i64 (x : Int)] 3)).heap.size) := by rw [Hid, Deep.nblk_alloc]; have := HB3.out.size; omega
        have d3 : (wr.setCell ⟨w.heap.size + 1, x, none⟩ (.bool true)).cell? ⟨bl, off + k, none⟩ = some (.int .i64 (x : Int)) := (World.cell?_of_block (Below.heap_setCell _ _ _ _ (by show bl ≠ w.heap.size + 1; omega))).trans d0
        clear hf hz3
        go_wp2_with (at_builtin; go_must (refine wpList_push rfl _ _ rfl _ w.heap.size o [x] (.slice ad5 o.length cap5) (.slice (some ⟨wr.heap.size, 0, none⟩) 1 1) rfl HS3.out rfl HK3.out rfl HLO.out (by simp; omega) ?_); go_must (intro v' w5 hst5 hg5); go_must (have HS5 : Hid (Stk w5 w.heap.size (o ++ [x]) v') := hst5); go_must (have HM5 : Hid (Marks w5 (w.heap.size + 1) g.length (memB (o ++ [x]))) := row_push HMK3.out HS3.out hg5 bool_ne_int); go_must (have HB5 : Hid (Below w.heap.size w w5) := push_below HS3.out (HB3.out.alloc HB3.out.size _) (Nat.le_refl _) hg5 (Nat.le_refl _)); clear hst5 hg5 d0 d3 cm fm)
        go_roundw
        case rel => first | exact ⟨k + 1, o ++ [x], by omega, by go_num, HO2.out, HC2.out, HS5.out, HM5.out, HB5.out⟩ | ((repeat apply Exists.intro); exact ⟨⟨k + 1, o ++ [x], by omega, by go_num, HO2.out, HC2.out, HS5.out, HM5.out, HB5.out⟩, rfl⟩)
        case measure => simp [intOf]; omega
    · have hke : k = rs.length := by omega
      have HE : Hid (OrdRel g rs 0 o) := by
        have h := HO.out
        rw [hke, List.take_length] at h
        rw [Hid, h]; exact OrdRel.start HLT.out
      clear hke hmk2 hb
      clear HO HC hol
      go_wp2_with fail
      go_loopw [5, 8] (fun out a wr => ∃ (i : Nat) (o : List Nat), a = .int .i64 i ∧ OrdRel g rs i o ∧ Stk wr w.heap.size o out ∧ Marks wr (w.heap.size + 1) g.length (memB o) ∧ Below w.heap.size w wr) (fun _ a _ => g.length - (intOf a).toNat)
      case atStart => exact ⟨0, o, rfl, HE.out, HS.out, HMK.out, HB.out⟩
      case round =>
        obtain ⟨i, o, rfl, hor, hst, hmk2, hb⟩ := hrel
        obtain ⟨wo, rfl⟩ : ∃ wo : World, wo = wr := ⟨_, rfl⟩
        have HE : Hid (OrdRel g rs i o) := hor
        have hol := hor.cs.len
        have hile := hor.le
        have HB : Hid (Below w.heap.size w wo) := hb
        have HMK : Hid (Marks wo (w.heap.size + 1) g.length (memB o)) := hmk2
        have HS : Hid (Stk wo w.heap.size o u5) := hst
        obtain ⟨ad5, cap5, rfl⟩ := hst.len
        clear hor
        by_cases hlt : i < o.length
        · obtain ⟨blo, offo, a, rfl, hblo, ha, ham, dow⟩ := pl_at HS.out.pin i hlt
          have hal := HE.out.lt a ham
          obtain ⟨bl, off, r2, rfl, c0w, c1w, c2w, -, -, hkk⟩ := HK.out.at a hal
          have hbl3 : bl < w.heap.size := cell_lt c0w
          have c2 := (hb.cell (p := ⟨bl, off + a * 3 + 2, none⟩) hbl3).trans c2w
          obtain ⟨ks, hks⟩ : ∃ ks, ks = kidsN g a := ⟨_, rfl⟩
          have HKK : Hid (IIn w (plI ks) r2) := by rw [Hid, hks]; exact kids_pl HG.out hal hkk
          obtain ⟨adk, capk, rfl, hlk, hmk⟩ := pl_form HKK.out
          have HNX : Hid (OrdRel g rs (i + 1) (visitL o ks)) := by
            have h := HE.out.step HG.out hlt
            rw [List.getD_eq_getElem?_getD, ha] at h
            rw [Hid, hks]; exact h
          have hk3 : ks.length ≤ 3 := by rw [hks]; exact kidsN_len HG.out a hal
          have HKL : Hid (∀ x ∈ ks, x < g.length) := by rw [hks]; exact fun x hx => kidsN_lt HG.out a hal x hx
          have HC0 : Hid (Cs g.length o) := HE.out.cs
          clear ha ham hkk hks c0w c1w c2w hst hmk2 hb
          go_wp2_with fail
          go_loopw [5, 10] (fun out z wr => ∃ (k : Nat) (p : List Nat), k ≤ ks.length ∧ z = .int .i64 k ∧ p = visitL o (ks.take k) ∧ Cs g.length p ∧ Stk wr w.heap.size p out ∧ Marks wr (w.heap.size + 1) g.length (memB p) ∧ Below w.heap.size w wr) (fun _ z _ => ks.length - (intOf z).toNat)
          case atStart => exact ⟨0, o, Nat.zero_le _, rfl, rfl, HC0.out, HS.out, HMK.out, HB.out⟩
          case round =>
            obtain ⟨k, p, hk, rfl, hp, hcs, hst, hmk2, hb⟩ := hrel
            have HO : Hid (p = visitL o (ks.take k)) := hp
            have HC : Hid (Cs g.length p) := hcs
            have hpl := hcs.len
            have HB : Hid (Below w.heap.size w wr) := hb
            have HMK : Hid (Marks wr (w.heap.size + 1) g.length (memB p)) := hmk2
            have HS : Hid (Stk wr w.heap.size p u5) := hst
            obtain ⟨ad5, cap5, rfl⟩ := hst.len
            clear hp hcs hst dow c2
            by_cases hltk : k < ks.length
            · obtain ⟨bl, off, x, rfl, hbl, hx, hxm, d0w⟩ := pl_at HKK.out k hltk
              have hxl := HKL.out x hxm
              have HX : Hid (ks[k]? = some x) := hx
              have d0 := (hb.cell (p := ⟨bl, off + k, none⟩) hbl).trans d0w
              have cm := hmk2.cell (i := x) hxl
              have fm := hmk2.frozen x
              clear hx hxm d0w hmk2 hb
              cases hf : memB p x with
              | true =>
                have HO2 : Hid (p = visitL o (ks.take (k + 1))) := by rw [Hid, take_snoc HX.out, visitL_snoc, ← HO.out]; exact (memB_yes hf).symm
                rw [hf] at cm
                go_wp2_with fail
                go_roundw
                case rel => exact ⟨k + 1, p, by omega, by go_num, HO2.out, HC.out, HS.out, HMK.out, HB.out⟩
                case measure => simp [intOf]; omega
              | false =>
                have HO2 : Hid (p ++ [x] = visitL o (ks.take (k + 1))) := by rw [Hid, take_snoc HX.out, visitL_snoc, ← HO.out]; exact (memB_no hf).symm
                have HC2 : Hid (Cs g.length (p ++ [x])) := by rw [Hid, ← memB_no hf]; exact HC.out.visit hxl
                rw [hf] at cm
                have hz3 : (wr.setCell ⟨w.heap.size + 1, x, none⟩ (.bool true)).heap.size = wr.heap.size := size_setCell _ _ _
                have HB3 : Hid (Below w.heap.size w (wr.setCell ⟨w.heap.size + 1, x, none⟩ (.bool true))) := HB.out.setCell (by simp) _
                have HS3 : Hid (Stk ((wr.setCell ⟨w.heap.size + 1, x, none⟩ (.bool true)).alloc (.cells #[.int .i64 (x : Int)] 3)) w.heap.size p (.slice ad5 p.length cap5)) := (HS.out.mark HMK.out bool_ne_int _ _).alloc _
                have HK3 : Hid (IIn ((wr.setCell ⟨w.heap.size + 1, x, none⟩ (.bool true)).alloc (.cells #[.int .i64 (x : Int)] 3)) [(x : Int)] (.slice (some ⟨wr.heap.size, 0, none⟩) 1 1)) := by
                  have h := one_in (wr.setCell ⟨w.heap.size + 1, x, none⟩ (.bool true)) x
                  rw [hz3] at h; exact h
                have HMK3 : Hid (Marks ((wr.setCell ⟨w.heap.size + 1, x, none⟩ (.bool true)).alloc (.cells #[.int .i64 (x : Int)] 3)) (w.heap.size + 1) g.length (memB (p ++ [x]))) := by
                  have h : Marks (wr.setCell ⟨w.heap.size + 1, x, none⟩ (.bool true)) (w.heap.size + 1) g.length (setF (memB p) x) := HMK.out.mark x
                  rw [Hid, memB_snoc]
                  exact h.of_block (Deep.blk_alloc_lt _ _ _ h.lt)
                have HLO : Hid (w.heap.size ≤ ((wr.setCell ⟨w.heap.size + 1, x, none⟩ (.bool true)).alloc (.cells #[.int .i64 (x : Int)] 3)).heap.size) := by rw [Hid, Deep.nblk_alloc]; have := HB3.out.size; omega
                have d3 : (wr.setCell ⟨w.heap.size + 1, x, none⟩ (.bool true)).cell? ⟨bl, off + k, none⟩ = some (.int .i64 (x : Int)) := (World.cell?_of_block (Below.heap_setCell _ _ _ _ (by show bl ≠ w.heap.size + 1; omega))).trans d0
                clear hf hz3
                go_wp2_with (at_builtin; go_must (refine wpList_push rfl _ _ rfl _ w.heap.size p [x] (.slice ad5 p.length cap5) (.slice (some ⟨wr.heap.size, 0, none⟩) 1 1) rfl HS3.out rfl HK3.out rfl HLO.out (by simp; omega) ?_); go_must (intro v' w5 hst5 hg5); go_must (have HS5 : Hid (Stk w5 w.heap.size (p ++ [x]) v') := hst5); go_must (have HM5 : Hid (Marks w5 (w.heap.size + 1) g.length (memB (p ++ [x]))) := row_push HMK3.out HS3.out hg5 bool_ne_int); go_must (have HB5 : Hid (Below w.heap.size w w5) := push_below HS3.out (HB3.out.alloc HB3.out.size _) (Nat.le_refl _) hg5 (Nat.le_refl _)); clear hst5 hg5 d0 d3 cm fm)
                go_roundw
                case rel => first | exact ⟨k + 1, p ++ [x], by omega, by go_num, HO2.out, HC2.out, HS5.out, HM5.out, HB5.out⟩ | ((repeat apply Exists.intro); exact ⟨⟨k + 1, p ++ [x], by omega, by go_num, HO2.out, HC2.out, HS5.out, HM5.out, HB5.out⟩, rfl⟩)
                case measure => simp [intOf]; omega
            · have hke : k = ks.length := by omega
              have HE2 : Hid (OrdRel g rs (i + 1) p) := by
                have h := HO.out
                rw [hke, List.take_length] at h
                rw [Hid, h]; exact HNX.out
              clear hke hmk2 hb
              go_wp2_with fail
              go_roundw
              case rel => exact ⟨i + 1, p, by go_num, HE2.out, HS.out, HMK.out, HB.out⟩
              case measure => simp [intOf]; omega
        · have HV : Hid (o = orderG g rs) := HE.out.fin hlt
          clear hst hmk2 hb
          go_wp2_with fail
          go_ret
          exact ⟨_, rfl, by rw [← HV.out]; exact HS.out, HB.out⟩
end Go.Proofs.Ytjpjikfmdaejeab
