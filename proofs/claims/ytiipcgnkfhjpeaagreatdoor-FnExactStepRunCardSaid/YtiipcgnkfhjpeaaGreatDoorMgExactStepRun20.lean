/-
  THE MODEL's l5Order: the cells in the order in which they are copied.
-/
import Derived.Test.YtiipcgnkfhjpeaaGreatDoorMgExactStepRun18
import Derived.Test.YtiipcgnkfhjpeaaGreatDoorMgExactStepRun19
import Derived.Test.YtiipcgnkfhjpeaaGreatDoorMgExactStepRun15
import Derived.Test.YtiipcgnkfhjpeaaGreatDoorMgExactStepRun11
import Derived.Test.YtiipcgnkfhjpeaaGreatDoorMgExactStepRun5
import Derived.Deep.DeepCutAuto
import Derived.Deep.RegionWith
import Derived.Deep.RegionHeld3
namespace Go.Proofs.YtiipcgnkfhjpeaaGreatDoor
set_option linter.unusedVariables false
set_option linter.unusedSimpArgs false
open Go.RowKit

theorem bool_ne_int : (4 : TypeId) ≠ 3 := by decide

set_option maxRecDepth 100000 in
set_option maxHeartbeats 1600000 in
theorem l5Order_calls (g : List Ce) (rs : List Nat) (v rv : Value) (w : World) (hk : CIn w g v) (hr : IIn w (plI rs) rv) (hg : graphB g 6 = true) (hlt : ∀ x ∈ rs, x < g.length) (h20 : rs.length ≤ 20) :
    Calls Tryz.prog 110 #[v, rv] w (NewStk (orderG g rs) w) := by
  have HK : Hid (CIn w g v) := hk
  have HR : Hid (IIn w (plI rs) rv) := hr
  have HG : Hid (graphB g 6 = true) := hg
  have HLT : Hid (∀ x ∈ rs, x < g.length) := hlt
  have h400 : g.length ≤ 400 := graphB_len hg
  obtain ⟨ad, cap, rfl, hl, hm, -⟩ := hk
  obtain ⟨adr, capr, rfl, hlr, hmr⟩ := pl_form hr
  unfold maxLen at hm hmr
  have hmk := make_bools g.length (by omega)
  have HM0 : Hid (Marks ((w.alloc (.cells #[] 3)).alloc (.cells (madeCells #[.bool false] g.length) 4)) (w.heap.size + 1) g.length (memB [])) := by
    have h := no_marks (w.alloc (.cells #[] 3)) g.length
    rw [Deep.nblk_alloc] at h
    rw [memB_nil]; exact h
  have HS0 : Hid (Stk ((w.alloc (.cells #[] 3)).alloc (.cells (madeCells #[.bool false] g.length) 4)) w.heap.size [] (.slice (some ⟨w.heap.size, 0, none⟩) 0 0)) := (stk_zero (Deep.blk_alloc_new w _) (Nat.le_refl _)).alloc _
  clear hg hlt hr
  go_enter Tryz.func110, Tryz.ntmps110
  go_wp2_with fail
  go_loopw [5, 7] (fun out i wr => ∃ (k : Nat) (o : List Nat), k ≤ rs.length ∧ i = .int .i64 k ∧ o = visitL [] (rs.take k) ∧ Cs g.length o ∧ Stk wr w.heap.size o out ∧ Marks wr (w.heap.size + 1) g.length (memB o) ∧ Below w.heap.size w wr) (fun _ i _ => rs.length - (intOf i).toNat)
  case atStart => exact ⟨0, [], Nat.zero_le _, rfl, rfl, Cs.nil _, HS0.out, HM0.out, ((Below.refl _ _).alloc (Nat.le_refl _) _).alloc (by simp) _⟩
  case round =>
    obtain ⟨k, o, hk, rfl, ho, hcs, hst, hmk2, hb⟩ := hrel
    have HO : Hid (o = visitL [] (rs.take k)) := ho
    have HC : Hid (Cs g.length o) := hcs
    have hol := hcs.len
    have HB : Hid (Below w.heap.size w wr) := hb
    have HMK : Hid (Marks wr (w.heap.size + 1) g.length (memB o)) := hmk2
    have HS : Hid (Stk wr w.heap.size o u5) := hst
    obtain ⟨ad5, cap5, rfl⟩ := hst.len
    clear ho hcs hst
    by_cases hlt : k < rs.length
    · obtain ⟨bl, off, x, rfl, hbl, hx, hxm, d0w⟩ := pl_at HR.out k hlt
      have hxl := HLT.out x hxm
      have HX : Hid (rs[k]? = some x) := hx
      have d0 := (hb.cell (p := ⟨bl, off + k, none⟩) hbl).trans d0w
      have cm := hmk2.cell (i := x) hxl
      have fm := hmk2.frozen x
      clear hx hxm d0w hmk2 hb
      cases hf : memB o x with
      | true =>
        have HO2 : Hid (o = visitL [] (rs.take (k + 1))) := by rw [Hid, take_snoc HX.out, visitL_snoc, ← HO.out]; exact (memB_yes hf).symm
        rw [hf] at cm
        go_wp2_with fail
        go_roundw
        case rel => exact ⟨k + 1, o, by omega, by go_num, HO2.out, HC.out, HS.out, HMK.out, HB.out⟩
        case measure => simp [intOf]; omega
      | false =>
        have HO2 : Hid (o ++ [x] = visitL [] (rs.take (k + 1))) := by rw [Hid, take_snoc HX.out, visitL_snoc, ← HO.out]; exact (memB_no hf).symm
        have HC2 : Hid (Cs g.length (o ++ [x])) := by rw [Hid, ← memB_no hf]; exact HC.out.visit hxl
        rw [hf] at cm
        have hz3 : (wr.setCell ⟨w.heap.size + 1, x, none⟩ (.bool true)).heap.size = wr.heap.size := size_setCell _ _ _
        have HB3 : Hid (Below w.heap.size w (wr.setCell ⟨w.heap.size + 1, x, none⟩ (.bool true))) := HB.out.setCell (by simp) _
        have HS3 : Hid (Stk ((wr.setCell ⟨w.heap.size + 1, x, none⟩ (.bool true)).alloc (.cells #[.int .i64 (x : Int)] 3)) w.heap.size o (.slice ad5 o.length cap5)) := (HS.out.mark HMK.out bool_ne_int _ _).alloc _
        have HK3 : Hid (IIn ((wr.setCell ⟨w.heap.size + 1, x, none⟩ (.bool true)).alloc (.cells #[.int .i64 (x : Int)] 3)) [(x : Int)] (.slice (some ⟨wr.heap.size, 0, none⟩) 1 1)) := by
          have h := one_in (wr.setCell ⟨w.heap.size + 1, x, none⟩ (.bool true)) x
          rw [hz3] at h; exact h
        have HMK3 : Hid (Marks ((wr.setCell ⟨w.heap.size + 1, x, none⟩ (.bool true)).alloc (.cells #[.int .i64 (x : Int)] 3)) (w.heap.size + 1) g.length (memB (o ++ [x]))) := by
          have h : Marks (wr.setCell ⟨w.heap.size + 1, x, none⟩ (.bool true)) (w.heap.size + 1) g.length (setF (memB o) x) := HMK.out.mark x
          rw [Hid, memB_snoc]
          exact h.of_block (Deep.blk_alloc_lt _ _ _ h.lt)
        have HLO : Hid (w.heap.size ≤ ((wr.setCell ⟨w.heap.size + 1, x, none⟩ (.bool true)).alloc (.cells #[.int .i64 (x : Int)] 3)).heap.size) := by rw [Hid, Deep.nblk_alloc]; have := HB3.out.size; omega
        have d3 : (wr.setCell ⟨w.heap.size + 1, x, none⟩ (.bool true)).cell? ⟨bl, off + k, none⟩ = some (.int .i64 (x : Int)) := (World.cell?_of_block (Below.heap_setCell _ _ _ _ (by show bl ≠ w.heap.size + 1; omega))).trans d0
        clear hf hz3
        go_wp2_with (at_builtin; go_must (refine wpList_push rfl _ _ rfl _ w.heap.size o [x] (.slice ad5 o.length cap5) (.slice (some ⟨wr.heap.size, 0, none⟩) 1 1) rfl HS3.out rfl HK3.out rfl HLO.out (by simp; omega) ?_); go_must (intro v' w5 hst5 hg5); go_must (have HS5 : Hid (Stk w5 w.heap.size (o ++ [x]) v') := hst5); go_must (have HM5 : Hid (Marks w5 (w.heap.size + 1) g.length (memB (o ++ [x]))) := row_push HMK3.out HS3.out hg5 bool_ne_int); go_must (have HB5 : Hid (Below w.heap.size w w5) := push_below HS3.out (HB3.out.alloc HB3.out.size _) (Nat.le_refl _) hg5 (Nat.le_refl _)); clear hst5 hg5 d0 d3 cm fm)
        go_roundw
        case rel => first | exact ⟨k + 1, o ++ [x], by omega, by go_num, HO2.out, HC2.out, HS5.out, HM5.out, HB5.out⟩ | ((repeat apply Exists.intro); exact ⟨⟨k + 1, o ++ [x], by omega, by go_num, HO2.out, HC2.out, HS5.out, HM5.out, HB5.out⟩, rfl⟩)
        case measure => simp [intOf]; omega
    · have hke : k = rs.length := by omega
      have HE : Hid (OrdRel g rs 0 o) := by
        have h := HO.out
        rw [hke, List.take_length] at h
        rw [Hid, h]; exact OrdRel.start HLT.out
      clear hke hmk2 hb
      clear HO HC hol
      go_wp2_with fail
      go_loopw [5, 8] (fun out a wr => ∃ (i : Nat) (o : List Nat), a = .int .i64 i ∧ OrdRel g rs i o ∧ Stk wr w.heap.size o out ∧ Marks wr (w.heap.size + 1) g.length (memB o) ∧ Below w.heap.size w wr) (fun _ a _ => g.length - (intOf a).toNat)
      case atStart => exact ⟨0, o, rfl, HE.out, HS.out, HMK.out, HB.out⟩
      case round =>
        obtain ⟨i, o, rfl, hor, hst, hmk2, hb⟩ := hrel
        obtain ⟨wo, rfl⟩ : ∃ wo : World, wo = wr := ⟨_, rfl⟩
        have HE : Hid (OrdRel g rs i o) := hor
        have hol := hor.cs.len
        have hile := hor.le
        have HB : Hid (Below w.heap.size w wo) := hb
        have HMK : Hid (Marks wo (w.heap.size + 1) g.length (memB o)) := hmk2
        have HS : Hid (Stk wo w.heap.size o u5) := hst
        obtain ⟨ad5, cap5, rfl⟩ := hst.len
        clear hor
        by_cases hlt : i < o.length
        · obtain ⟨blo, offo, a, rfl, hblo, ha, ham, dow⟩ := pl_at HS.out.pin i hlt
          have hal := HE.out.lt a ham
          obtain ⟨bl, off, r2, rfl, c0w, c1w, c2w, -, -, hkk⟩ := HK.out.at a hal
          have hbl3 : bl < w.heap.size := cell_lt c0w
          have c2 := (hb.cell (p := ⟨bl, off + a * 3 + 2, none⟩) hbl3).trans c2w
          obtain ⟨ks, hks⟩ : ∃ ks, ks = kidsN g a := ⟨_, rfl⟩
          have HKK : Hid (IIn w (plI ks) r2) := by rw [Hid, hks]; exact kids_pl HG.out hal hkk
          obtain ⟨adk, capk, rfl, hlk, hmk⟩ := pl_form HKK.out
          have HNX : Hid (OrdRel g rs (i + 1) (visitL o ks)) := by
            have h := HE.out.step HG.out hlt
            rw [List.getD_eq_getElem?_getD, ha] at h
            rw [Hid, hks]; exact h
          have hk3 : ks.length ≤ 3 := by rw [hks]; exact kidsN_len HG.out a hal
          have HKL : Hid (∀ x ∈ ks, x < g.length) := by rw [hks]; exact fun x hx => kidsN_lt HG.out a hal x hx
          have HC0 : Hid (Cs g.length o) := HE.out.cs
          clear ha ham hkk hks c0w c1w c2w hst hmk2 hb
          go_wp2_with fail
          go_loopw [5, 10] (fun out z wr => ∃ (k : Nat) (p : List Nat), k ≤ ks.length ∧ z = .int .i64 k ∧ p = visitL o (ks.take k) ∧ Cs g.length p ∧ Stk wr w.heap.size p out ∧ Marks wr (w.heap.size + 1) g.length (memB p) ∧ Below w.heap.size w wr) (fun _ z _ => ks.length - (intOf z).toNat)
          case atStart => exact ⟨0, o, Nat.zero_le _, rfl, rfl, HC0.out, HS.out, HMK.out, HB.out⟩
          case round =>
            obtain ⟨k, p, hk, rfl, hp, hcs, hst, hmk2, hb⟩ := hrel
            have HO : Hid (p = visitL o (ks.take k)) := hp
            have HC : Hid (Cs g.length p) := hcs
            have hpl := hcs.len
            have HB : Hid (Below w.heap.size w wr) := hb
            have HMK : Hid (Marks wr (w.heap.size + 1) g.length (memB p)) := hmk2
            have HS : Hid (Stk wr w.heap.size p u5) := hst
            obtain ⟨ad5, cap5, rfl⟩ := hst.len
            clear hp hcs hst dow c2
            by_cases hltk : k < ks.length
            · obtain ⟨bl, off, x, rfl, hbl, hx, hxm, d0w⟩ := pl_at HKK.out k hltk
              have hxl := HKL.out x hxm
              have HX : Hid (ks[k]? = some x) := hx
              have d0 := (hb.cell (p := ⟨bl, off + k, none⟩) hbl).trans d0w
              have cm := hmk2.cell (i := x) hxl
              have fm := hmk2.frozen x
              clear hx hxm d0w hmk2 hb
              cases hf : memB p x with
              | true =>
                have HO2 : Hid (p = visitL o (ks.take (k + 1))) := by rw [Hid, take_snoc HX.out, visitL_snoc, ← HO.out]; exact (memB_yes hf).symm
                rw [hf] at cm
                go_wp2_with fail
                go_roundw
                case rel => exact ⟨k + 1, p, by omega, by go_num, HO2.out, HC.out, HS.out, HMK.out, HB.out⟩
                case measure => simp [intOf]; omega
              | false =>
                have HO2 : Hid (p ++ [x] = visitL o (ks.take (k + 1))) := by rw [Hid, take_snoc HX.out, visitL_snoc, ← HO.out]; exact (memB_no hf).symm
                have HC2 : Hid (Cs g.length (p ++ [x])) := by rw [Hid, ← memB_no hf]; exact HC.out.visit hxl
                rw [hf] at cm
                have hz3 : (wr.setCell ⟨w.heap.size + 1, x, none⟩ (.bool true)).heap.size = wr.heap.size := size_setCell _ _ _
                have HB3 : Hid (Below w.heap.size w (wr.setCell ⟨w.heap.size + 1, x, none⟩ (.bool true))) := HB.out.setCell (by simp) _
                have HS3 : Hid (Stk ((wr.setCell ⟨w.heap.size + 1, x, none⟩ (.bool true)).alloc (.cells #[.int .i64 (x : Int)] 3)) w.heap.size p (.slice ad5 p.length cap5)) := (HS.out.mark HMK.out bool_ne_int _ _).alloc _
                have HK3 : Hid (IIn ((wr.setCell ⟨w.heap.size + 1, x, none⟩ (.bool true)).alloc (.cells #[.int .i64 (x : Int)] 3)) [(x : Int)] (.slice (some ⟨wr.heap.size, 0, none⟩) 1 1)) := by
                  have h := one_in (wr.setCell ⟨w.heap.size + 1, x, none⟩ (.bool true)) x
                  rw [hz3] at h; exact h
                have HMK3 : Hid (Marks ((wr.setCell ⟨w.heap.size + 1, x, none⟩ (.bool true)).alloc (.cells #[.int .i64 (x : Int)] 3)) (w.heap.size + 1) g.length (memB (p ++ [x]))) := by
                  have h : Marks (wr.setCell ⟨w.heap.size + 1, x, none⟩ (.bool true)) (w.heap.size + 1) g.length (setF (memB p) x) := HMK.out.mark x
                  rw [Hid, memB_snoc]
                  exact h.of_block (Deep.blk_alloc_lt _ _ _ h.lt)
                have HLO : Hid (w.heap.size ≤ ((wr.setCell ⟨w.heap.size + 1, x, none⟩ (.bool true)).alloc (.cells #[.int .i64 (x : Int)] 3)).heap.size) := by rw [Hid, Deep.nblk_alloc]; have := HB3.out.size; omega
                have d3 : (wr.setCell ⟨w.heap.size + 1, x, none⟩ (.bool true)).cell? ⟨bl, off + k, none⟩ = some (.int .i64 (x : Int)) := (World.cell?_of_block (Below.heap_setCell _ _ _ _ (by show bl ≠ w.heap.size + 1; omega))).trans d0
                clear hf hz3
                go_wp2_with (at_builtin; go_must (refine wpList_push rfl _ _ rfl _ w.heap.size p [x] (.slice ad5 p.length cap5) (.slice (some ⟨wr.heap.size, 0, none⟩) 1 1) rfl HS3.out rfl HK3.out rfl HLO.out (by simp; omega) ?_); go_must (intro v' w5 hst5 hg5); go_must (have HS5 : Hid (Stk w5 w.heap.size (p ++ [x]) v') := hst5); go_must (have HM5 : Hid (Marks w5 (w.heap.size + 1) g.length (memB (p ++ [x]))) := row_push HMK3.out HS3.out hg5 bool_ne_int); go_must (have HB5 : Hid (Below w.heap.size w w5) := push_below HS3.out (HB3.out.alloc HB3.out.size _) (Nat.le_refl _) hg5 (Nat.le_refl _)); clear hst5 hg5 d0 d3 cm fm)
                go_roundw
                case rel => first | exact ⟨k + 1, p ++ [x], by omega, by go_num, HO2.out, HC2.out, HS5.out, HM5.out, HB5.out⟩ | ((repeat apply Exists.intro); exact ⟨⟨k + 1, p ++ [x], by omega, by go_num, HO2.out, HC2.out, HS5.out, HM5.out, HB5.out⟩, rfl⟩)
                case measure => simp [intOf]; omega
            · have hke : k = ks.length := by omega
              have HE2 : Hid (OrdRel g rs (i + 1) p) := by
                have h := HO.out
                rw [hke, List.take_length] at h
                rw [Hid, h]; exact HNX.out
              clear hke hmk2 hb
              go_wp2_with fail
              go_roundw
              case rel => exact ⟨i + 1, p, by go_num, HE2.out, HS.out, HMK.out, HB.out⟩
              case measure => simp [intOf]; omega
        · have HV : Hid (o = orderG g rs) := HE.out.fin hlt
          clear hst hmk2 hb
          go_wp2_with fail
          go_ret
          exact ⟨_, rfl, by rw [← HV.out]; exact HS.out, HB.out⟩
end Go.Proofs.YtiipcgnkfhjpeaaGreatDoor
/-
  THE MODEL's l5Places: the places of copies.
-/
namespace Go.Proofs.YtiipcgnkfhjpeaaGreatDoor
set_option linter.unusedVariables false
set_option linter.unusedSimpArgs false
open Go.RowKit

/-- a row of places of copies -/
abbrev PlW (w : World) (b n : Nat) (o : List Nat) : Prop := w.rowIs b 3 n (fun x => .int .i64 (placeV o x))
def NewPl (n : Nat) (o : List Nat) (w : World) (e : Ending) (w' : World) : Prop :=
  ∃ b, e = .returned (.slice (some ⟨b, 0, none⟩) n n) ∧ w.heap.size ≤ b ∧ PlW w' b n o ∧ Below w.heap.size w w'

set_option maxRecDepth 100000 in
set_option maxHeartbeats 1600000 in
theorem l5Places_calls (n : Nat) (o : List Nat) (ov : Value) (w : World) (ho : IIn w (plI o) ov) (hc : Cs n o) (hn : n ≤ 400) :
    Calls Tryz.prog 111 #[.int .i64 (n : Int), ov] w (NewPl n o w) := by
  have HO : Hid (IIn w (plI o) ov) := ho
  have HC : Hid (Cs n o) := hc
  obtain ⟨ad, cap, rfl, hl, hm⟩ := pl_form ho
  unfold maxLen at hm
  have hol := hc.len
  have hmk := make_ints n (by omega)
  have HZ : Hid ((w.alloc (.cells (madeCells #[.int .i64 0] n) 3)).rowIs w.heap.size 3 n (fun x => .int .i64 (if x < 0 then -1 else 0))) := World.rowIs.congr (zero_row w n) fun i _ => by simp
  clear hc ho
  go_enter Tryz.func111, Tryz.ntmps111
  go_wp2_with fail
  go_loopw [6] (fun i wr => ∃ k : Nat, k ≤ n ∧ i = .int .i64 k ∧ wr.rowIs w.heap.size 3 n (fun x => .int .i64 (if x < k then -1 else 0)) ∧ Below w.heap.size w wr) (fun i _ => n - (intOf i).toNat)
  case atStart => exact ⟨0, Nat.zero_le _, rfl, HZ.out, (Below.refl _ _).alloc (Nat.le_refl _) _⟩
  case round =>
    obtain ⟨k, hk, rfl, hrow, hb⟩ := hrel
    have HB : Hid (Below w.heap.size w wr) := hb
    have HR : Hid (wr.rowIs w.heap.size 3 n (fun x => .int .i64 (if x < k then -1 else 0))) := hrow
    by_cases hlt : k < n
    · have cm : wr.cell? ⟨w.heap.size, k, none⟩ = some (.int .i64 0) := by have h := hrow.cell (i := k) hlt; simpa using h
      have fm := hrow.frozen k
      have HR2 : Hid ((wr.setCell ⟨w.heap.size, k, none⟩ (.int .i64 (-1))).rowIs w.heap.size 3 n (fun x => .int .i64 (if x < k + 1 then -1 else 0))) := by
        refine World.rowIs.congr (hrow.set k _) fun x _ => ?_
        by_cases e : x = k
        · subst e; simp
        · have : (x < k + 1) = (x < k) := by apply propext; omega
          simp [e, this]
      have HB2 : Hid (Below w.heap.size w (wr.setCell ⟨w.heap.size, k, none⟩ (.int .i64 (-1)))) := hb.setCell (Nat.le_refl _) _
      clear hrow hb
      go_wp2_with fail
      go_roundw
      case rel => exact ⟨k + 1, by omega, by go_num, HR2.out, HB2.out⟩
      case measure => simp [intOf]; omega
    · have hke : k = n := by omega
      have HP : Hid (PlW wr w.heap.size n (o.take 0)) := by
        refine World.rowIs.congr HR.out fun x hx => ?_
        simp [placeV_nil, hke, hx]
      clear hke hrow hb
      go_wp2_with fail
      go_loopw [7] (fun i wr => ∃ k : Nat, k ≤ o.length ∧ i = .int .i64 k ∧ PlW wr w.heap.size n (o.take k) ∧ Below w.heap.size w wr) (fun i _ => o.length - (intOf i).toNat)
      case atStart => exact ⟨0, Nat.zero_le _, rfl, HP.out, HB.out⟩
      case round =>
        obtain ⟨k, hk, rfl, hrow, hb⟩ := hrel
        have HB : Hid (Below w.heap.size w wr) := hb
        have HR : Hid (PlW wr w.heap.size n (o.take k)) := hrow
        by_cases hlt : k < o.length
        · obtain ⟨bl, off, x, rfl, hbl, hx, hxm, d0w⟩ := pl_at HO.out k hlt
          have hxl := HC.out.2 x hxm
          have d0 := (hb.cell (p := ⟨bl, off + k, none⟩) hbl).trans d0w
          have cm := hrow.cell (i := x) hxl
          have fm := hrow.frozen x
          have HR2 : Hid (PlW (wr.setCell ⟨w.heap.size, x, none⟩ (.int .i64 (k : Int))) w.heap.size n (o.take (k + 1))) := by
            refine World.rowIs.congr (hrow.set x _) fun y _ => ?_
            rw [take_snoc hx, placeV_snoc (take_not HC.out.1 hx), List.length_take, Nat.min_eq_left (by omega)]
            by_cases e : y = x
            · simp [e]
            · simp [e]
          have HB2 : Hid (Below w.heap.size w (wr.setCell ⟨w.heap.size, x, none⟩ (.int .i64 (k : Int)))) := hb.setCell (Nat.le_refl _) _
          clear hx hxm d0w hrow hb
          go_wp2_with fail
          go_roundw
          case rel => exact ⟨k + 1, by omega, by go_num, HR2.out, HB2.out⟩
          case measure => simp [intOf]; omega
        · have hke : k = o.length := by omega
          have HV : Hid (PlW wr w.heap.size n o) := by
            have h := HR.out
            rw [hke, List.take_length] at h; exact h
          clear hke hrow hb
          go_wp2_with fail
          go_ret
          exact ⟨_, rfl, Nat.le_refl _, HV.out, HB.out⟩
end Go.Proofs.YtiipcgnkfhjpeaaGreatDoor
/-
  THE MODEL's l3Copy: a copy of a graph, in new memory.
-/
namespace Go.Proofs.YtiipcgnkfhjpeaaGreatDoor
set_option linter.unusedVariables false
set_option linter.unusedSimpArgs false
open Go.RowKit

/-- a copy of a graph, in rows of its own from block w.heap.size on -/
def CopyRes (g : List Ce) (w : World) (e : Ending) (w' : World) : Prop := ∃ gv, e = .returned gv ∧ OwnC w' w.heap.size (fun b => w.heap.size ≤ b) g gv ∧ Below w.heap.size w w'

/-- one cell more, with operands in a new row -/
theorem copy_push {wr w1 w3 : World} {lo : Nat} {G : List Ce} {v v' kv : Value} {ws : List Nat} {o n : Int} (h : OwnC wr lo (fun b => lo ≤ b) G v) (hlo : lo ≤ wr.heap.size) (h1 : Below wr.heap.size wr w1) (hst : Stk w1 wr.heap.size ws kv) (obj : Obj) {xs : List Value}
    (hx : (w1.alloc obj).ownsRow lo 93 3 v G.length xs) (hown : w3.ownsRow lo 93 3 v' (G.length + 1) (xs ++ [.int .i64 o, .int .i64 n, kv])) (hg : (w1.alloc obj).grownBy w3 v.ownBlock) (ho : I64 o) (hn : I64 n) :
    OwnC w3 lo (fun b => lo ≤ b) (G ++ [⟨o, n, ws.map fun (a : Nat) => (a : Int)⟩]) v' := by
  have hs1 := h1.size
  obtain ⟨ys, hy⟩ := h.row
  have h4 : OwnC (w1.alloc obj) lo (fun b => lo ≤ b ∧ b < wr.heap.size) G v := h.next (fun b hb hb2 => ⟨hb, hb2⟩) (fun b _ hb => (Deep.blk_alloc_lt _ _ _ (by omega)).trans (h1.block b hb)) (fun b _ hb => (Deep.blk_alloc_lt _ _ _ (by omega)).trans (h1.block b hb))
  obtain ⟨blk, hb1, hb3⟩ : ∃ blk, wr.heap.size ≤ blk ∧ KRowS (w1.alloc obj) (fun b => b = blk) (ws.map fun (a : Nat) => (a : Int)) blk kv := by
    obtain ⟨blk, h1, h2⟩ := stk_krow (hst.alloc obj)
    by_cases he : ws = []
    · obtain ⟨ad, cap, e, l1, l2, -⟩ := h2
      exact ⟨wr.heap.size, Nat.le_refl _, ad, cap, e, l1, l2, Or.inl (by rw [he]; rfl)⟩
    · exact ⟨blk, (own_some hst blk (h1 he)).1, h2⟩
  have h5 := h4.step (c := ⟨o, n, ws.map fun (a : Nat) => (a : Int)⟩) (v' := v') ⟨ho, hn⟩ hb3 (fun h => by have := h.2; omega) xs hx hown hg
  refine h5.next (fun b hb _ => ?_) (fun _ _ _ => rfl) (fun _ _ _ => rfl)
  rcases hb with hb | rfl
  · exact hb.1
  · omega

theorem copy_below {wr w1 : World} {o : Obj} (h : (wr.alloc o).drew.grownBy w1 (Value.slice (some ⟨wr.heap.size, 0, none⟩) 0 0).ownBlock) : Below wr.heap.size wr w1 :=
  ⟨h.os, h.tape, h.output, by have h1 : (wr.alloc o).heap.size ≤ w1.heap.size := h.size; rw [Deep.nblk_alloc] at h1; omega, fun k hk => (h.block k (by show k < (wr.alloc o).heap.size; rw [Deep.nblk_alloc]; omega) (by simp only [Value.ownBlock, ne_eq, Option.some.injEq]; omega)).trans (Deep.blk_alloc_lt _ _ _ hk)⟩
theorem copy_own {wr w1 : World} {lo n : Nat} {v : Value} {xs : List Value} (h : wr.ownsRow lo 93 3 v n xs) (hb : Below wr.heap.size wr w1) (o : Obj) : (w1.alloc o).ownsRow lo 93 3 v n xs := by
  refine ⟨h.1, ?_⟩
  have hs := hb.size
  rcases h.2 with h' | ⟨g, cap, cur, rfl, hg, hh, r⟩
  · exact Or.inl h'
  · have hl := (Array.getElem?_eq_some_iff.1 hh).1
    exact Or.inr ⟨g, cap, cur, rfl, hg, ((Deep.blk_alloc_lt _ _ _ (by omega)).trans (hb.block g hl)).trans hh, r⟩

theorem copy_below3 {w wr w1 w3 : World} {n : Nat} {v : Value} {xs : List Value} {o : Obj} (hb : Below w.heap.size w wr) (h1 : Below wr.heap.size wr w1) (hx : wr.ownsRow w.heap.size 93 3 v n xs) (hg : (w1.alloc o).grownBy w3 v.ownBlock) : Below w.heap.size w w3 := by
  have hs := hb.size
  have hs1 := h1.size
  have hs3 := hg.size
  rw [Deep.nblk_alloc] at hs3
  exact ⟨(hg.os.trans h1.os).trans hb.os, (hg.tape.trans h1.tape).trans hb.tape, (hg.output.trans h1.output).trans hb.output, by omega, fun k hk => (((hg.block k (by rw [Deep.nblk_alloc]; omega) (fun e => by have := (own_some hx k e.symm).1; omega)).trans (Deep.blk_alloc_lt _ _ _ (by omega))).trans (h1.block k (by omega))).trans (hb.block k hk)⟩

set_option maxRecDepth 100000 in
set_option maxHeartbeats 1600000 in
theorem l3Copy_calls (g : List Ce) (v : Value) (w : World) (hk : CIn w g v) (hg : ∃ defs, graphB g defs = true) : Calls Tryz.prog 53 #[v] w (CopyRes g w) := by
  have HK : Hid (CIn w g v) := hk
  obtain ⟨defs, hg⟩ := hg
  have HG : Hid (graphB g defs = true) := hg
  obtain ⟨ad, cap, rfl, hl, hm, -⟩ := hk
  unfold maxLen at hm
  have h400 : g.length ≤ 400 := graphB_len hg
  clear hg
  go_enter Tryz.func53, Tryz.ntmps53
  go_wp2_with fail
  have HST : Hid (OwnC (w.alloc (.cells #[] 93)) w.heap.size (fun b => w.heap.size ≤ b) (g.take 0) (.slice (some ⟨w.heap.size, 0, none⟩) 0 0)) :=
    ⟨fun i h => absurd h (by simp), [], fun _ => 0, ⟨rfl, Or.inr ⟨w.heap.size, 0, #[], rfl, Nat.le_refl _, Deep.blk_alloc_new _ _, Nat.le_refl _, by simp [maxLen], rfl, rfl⟩⟩, fun j hj => absurd hj (by simp), fun i j hi _ => absurd hi (by simp)⟩
  go_loopw [3, 4] (fun out i wr => ∃ k : Nat, k ≤ g.length ∧ i = .int .i64 k ∧ OwnC wr w.heap.size (fun b => w.heap.size ≤ b) (g.take k) out ∧ Below w.heap.size w wr) (fun _ i _ => g.length - (intOf i).toNat)
  case atStart => exact ⟨0, Nat.zero_le _, rfl, HST.out, box_below _ _⟩
  case round =>
    obtain ⟨k, hk, rfl, hown, hb⟩ := hrel
    have HO : Hid (OwnC wr w.heap.size (fun b => w.heap.size ≤ b) (g.take k) u3) := hown
    have HB : Hid (Below w.heap.size w wr) := hb
    have hsz := hb.size
    by_cases hlt : k < g.length
    · obtain ⟨bl, off, r2, rfl, c0w, c1w, c2w, io, iN, hkk⟩ := HK.out.at k hlt
      have HKK : Hid (IIn wr g[k].kids r2) := hkk.next hb
      have HLW : Hid (bl < w.heap.size) := cell_lt c0w
      have c0 := (hb.cell (p := ⟨bl, off + k * 3, none⟩) HLW.out).trans c0w
      have c1 := (hb.cell (p := ⟨bl, off + k * 3 + 1, none⟩) HLW.out).trans c1w
      have c2 := (hb.cell (p := ⟨bl, off + k * 3 + 2, none⟩) HLW.out).trans c2w
      have HC : Hid (w.cell? ⟨bl, off + k * 3, none⟩ = some (.int .i64 g[k].op) ∧ w.cell? ⟨bl, off + k * 3 + 1, none⟩ = some (.int .i64 g[k].num) ∧ w.cell? ⟨bl, off + k * 3 + 2, none⟩ = some r2) := ⟨c0w, c1w, c2w⟩
      clear c0w c1w c2w
      have HIO : Hid (I64 g[k].op ∧ I64 g[k].num) := ⟨io, iN⟩
      have lg := cell_lt c0
      have HTL : Hid ((g.take k).length = k) := by rw [Hid, List.length_take]; omega
      obtain ⟨adk, capk, rfl, -, -, -⟩ := id hkk
      clear hown hb hkk io iN
      obtain ⟨xs, hx⟩ := HO.out.row
      rw [HTL.out] at hx
      have HX : Hid (wr.ownsRow w.heap.size 93 3 u3 k xs) := hx
      obtain ⟨iC, zC, hII⟩ := infoC1
      have HII : Hid (Tryz.prog.info? 93 = some iC ∧ iC.zero = some zC ∧ iC.size = 3 ∧ iC.bytes = 40 ∧ zC.cells.size = 3) := hII
      have HK3 : Hid (g[k].kids.length ≤ 3) := (kids_graph HG.out k hlt).1
      have HKN : Hid ((kidsN g k).length = g[k].kids.length) := by rw [Hid, kidsN_at k hlt]; simp
      clear hII hx
      go_wp2_with fail
      go_region_held3 (fun w' => w'.cell? ⟨bl, off + k * 3, none⟩ = some (.int .i64 g[k].op) ∧ w'.cell? ⟨bl, off + k * 3 + 1, none⟩ = some (.int .i64 g[k].num) ∧ w'.cell? ⟨bl, off + k * 3 + 2, none⟩ = some (.slice adk g[k].kids.length capk))
        (first
          | go_keep
          | exact ⟨e0, e1, e2⟩
          | exact ⟨d0, d1, d2⟩
          | exact ⟨old_cell d0 _, old_cell d1 _, old_cell d2 _⟩
          | exact ⟨old_cell c0 _, old_cell c1 _, old_cell c2 _⟩)
        (first
          | (refine step_push (by rfl) (.tmp 23) (.tmp 28) (by rfl) wr.heap.size [] (kidsN g k) (.slice (some ⟨wr.heap.size, 0, none⟩) 0 0) (.slice adk g[k].kids.length capk) (by rfl) (stk_zero (Deep.blk_alloc_new wr _) (Nat.le_refl _)) (by rfl) (HKK.out.next ((box_below wr _).drew)) (kids_back HG.out k hlt) (by show wr.heap.size ≤ (wr.alloc _).heap.size; rw [Deep.nblk_alloc]; omega) (by rw [HKN.out]; have := HK3.out; simp only [List.length_nil]; omega) ?_; intro v1 w1 hst1 hg1; have HB1 : Hid (Below wr.heap.size wr w1) := copy_below hg1; have HST1 : Hid (Stk w1 wr.heap.size (kidsN g k) v1) := hst1; obtain ⟨ad1, cap1, rfl⟩ := stk_len2 hst1 HKN.out; have d0 := (HB1.out.cell (p := ⟨bl, off + k * 3, none⟩) lg).trans c0; have d1 := (HB1.out.cell (p := ⟨bl, off + k * 3 + 1, none⟩) lg).trans c1; have d2 := (HB1.out.cell (p := ⟨bl, off + k * 3 + 2, none⟩) lg).trans c2; clear hst1 hg1)
          | (refine step_append_where (by rfl) (.tmp 12) (.tmp 31) 28 (by rfl) w.heap.size 93 iC zC 3 40 Tryz.underlying28 HII.out.1 HII.out.2.1 HII.out.2.2.1 HII.out.2.2.2.1 HII.out.2.2.2.2 (by decide) u3 k xs (by rfl) (copy_own HX.out HB1.out _) ⟨w1.heap.size, 0, none⟩ 1 1 [.int .i64 g[k].op, .int .i64 g[k].num, .slice ad1 g[k].kids.length cap1] (by rfl) (by rfl) (news3c w1 _ _ _) (by simp [Value.oneCell']) (by unfold maxLen; omega) (by omega) (by show w.heap.size ≤ (w1.alloc _).heap.size; rw [Deep.nblk_alloc]; have := HB1.out.size; omega) (by omega) ?_; intro v3 w3 hown3 hg3 hw3; have HOWN3 : Hid (w3.ownsRow w.heap.size 93 3 v3 (k + 1) (xs ++ [.int .i64 g[k].op, .int .i64 g[k].num, .slice ad1 g[k].kids.length cap1])) := hown3; have HG3 : Hid ((w1.alloc (.cells #[.int .i64 g[k].op, .int .i64 g[k].num, .slice ad1 g[k].kids.length cap1] 93)).grownBy w3 u3.ownBlock) := hg3; have HB3 : Hid (Below w.heap.size w w3) := copy_below3 HB.out HB1.out HX.out hg3; have e0 := (HB3.out.cell (p := ⟨bl, off + k * 3, none⟩) HLW.out).trans HC.out.1; have e1 := (HB3.out.cell (p := ⟨bl, off + k * 3 + 1, none⟩) HLW.out).trans HC.out.2.1; have e2 := (HB3.out.cell (p := ⟨bl, off + k * 3 + 2, none⟩) HLW.out).trans HC.out.2.2; clear hown3 hg3 hw3))
      go_wp2_with fail
      go_roundw
      case rel =>
        refine ⟨k + 1, by omega, by go_num, ?_, HB3.out⟩
        have h := copy_push (G := g.take k) (ws := kidsN g k) (o := g[k].op) (n := g[k].num) HO.out HB.out.size HB1.out HST1.out _ (by rw [HTL.out]; exact copy_own HX.out HB1.out _) (by rw [HTL.out]; exact HOWN3.out) HG3.out HIO.out.1 HIO.out.2
        rw [← kids_back HG.out k hlt] at h
        rw [List.take_succ_eq_append_getElem hlt]
        exact h
      case measure => simp [intOf]; omega
    · have hke : k = g.length := by omega
      have HE : Hid (OwnC wr w.heap.size (fun b => w.heap.size ≤ b) g u3) := by
        have h := HO.out
        rw [hke, List.take_length] at h
        exact h
      clear hown hb hke
      go_wp2_with fail
      go_ret
      exact ⟨_, rfl, HE.out, HB.out⟩
end Go.Proofs.YtiipcgnkfhjpeaaGreatDoor
