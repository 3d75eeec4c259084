/-
  THE PROGRAM's decompile, CodeValid AND DecompileCode: the expression of code, in new memory; nothing that was there is changed.
-/
import Derived.Test.YthknbafcnobgdaaImplEx
import Derived.Test.YthknbafcnobgdaaNodesLeft
import Derived.Test.YthknbafcnobgdaaSubImpl
namespace Go.Proofs.Ythknbafcnobgdaa
set_option linter.unusedVariables false
set_option linter.unusedSimpArgs false
open Go.RowKit

/-- a tree in new memory, and whether there is one -/
def DecGot (r : Tr × Bool) (w : World) (e : Ending) (w' : World) : Prop :=
  ∃ v, e = .returned (.tuple #[.agg #[.int .i64 r.1.op, .int .i64 r.1.num, v], .bool r.2]) ∧ Fresh w' w.heap.size r.1.kids v ∧ I64 r.1.op ∧ I64 r.1.num ∧ Below w.heap.size w w'
theorem DecGot.no {r : Tr × Bool} {w w' : World} (h : r = (.node 0 0 [], false)) (hb : Below w.heap.size w w') : DecGot r w (.returned (.tuple #[.agg #[.int .i64 0, .int .i64 0, .slice none 0 0], .bool false])) w' := by
  subst h
  exact ⟨_, rfl, Fresh.none _ _, by simp [I64], by simp [I64], hb⟩
/-- the one tree of a list -/
theorem OwnF.single {w : World} {lo hi : Nat} {t : Tr} {v : Value} (h : OwnF w lo hi [t] v) : ∃ g cap a b c, v = .slice (some ⟨g, 0, none⟩) 1 cap ∧ g < w.heap.size ∧ 1 ≤ cap ∧ w.cell? ⟨g, 0, none⟩ = some a ∧ w.cell? ⟨g, 1, none⟩ = some b ∧ w.cell? ⟨g, 2, none⟩ = some c ∧ a = .int .i64 t.op ∧ b = .int .i64 t.num ∧ Fresh w lo t.kids c := by
  obtain ⟨xs, fps, h1, h2, h3, h4, h5⟩ := h
  obtain ⟨f, e0, a, b, c, e1, e2, e3, e4⟩ := h3 0 (by simp)
  obtain ⟨ha, hb, -, -, hc⟩ := trFp_iff.1 e4
  rcases h1.2 with ⟨-, h0⟩ | ⟨g, cap, cur, rfl, hg, hh, hn, hc', hs, htk⟩
  · simp at h0
  · have hmem : ∀ k ∈ f, k ∈ fps.flatten := fun k hk => List.mem_flatten.2 ⟨f, List.mem_of_getElem? e0, hk⟩
    have hnd : f.Nodup := (List.sublist_flatten_of_mem (List.mem_of_getElem? e0)).nodup h4
    refine ⟨g, cap, a, b, c, rfl, (Array.getElem?_eq_some_iff.1 hh).1, hn, ?_, ?_, ?_, ha, hb, f, hc, hnd, fun k hk => (h5 k (hmem k hk)).1⟩
    · rw [h1.cellAt 0 (by simp)]; exact e1
    · rw [h1.cellAt 1 (by simp)]; exact e2
    · rw [h1.cellAt 2 (by simp)]; exact e3

set_option maxRecDepth 100000 in
set_option maxHeartbeats 1600000 in
theorem decompile_calls (cs : List Ins) (vars defs : Int) (c : Value) (w : World) (hk : InsIn w cs c) (hl : cs.length ≤ 1048576) (hw : ∀ c ∈ cs, I64 c.op ∧ I64 c.num) : Calls Try.prog 47 #[c, .int .i64 vars, .int .i64 defs] w (DecGot (decO cs vars defs) w) := by
  have HK : Hid (InsIn w cs c) := hk
  have HW := mkHid hw
  obtain ⟨ad, cap, rfl, -, -, -⟩ := hk
  have r0 := box_cell w #[.int .i64 0, .int .i64 0, .slice none 0 0] 37 0 _ rfl
  have r1 := box_cell w #[.int .i64 0, .int .i64 0, .slice none 0 0] 37 1 _ rfl
  have r2 := box_cell w #[.int .i64 0, .int .i64 0, .slice none 0 0] 37 2 _ rfl
  have hz0 := Deep.blk_alloc_new w (.cells #[.int .i64 0, .int .i64 0, .slice none 0 0] 37)
  have HB0 : Hid (Below w.heap.size w (w.alloc (.cells #[.int .i64 0, .int .i64 0, .slice none 0 0] 37))) := box_below _ _
  by_cases hlong : 60 < cs.length
  · have HV : Hid (decO cs vars defs = (.node 0 0 [], false)) := decO_false (codeB_long hlong)
    have hl2 : (60 : Int) < (cs.length : Int) := by omega
    have rf := fun i => frz_of_blk hz0 i
    clear hw hlong hz0
    go_enter Try.func47, Try.ntmps47
    go_wp2_with fail
    refine bodyPost_ret (v := .tuple #[.agg #[.int .i64 0, .int .i64 0, .slice none 0 0], .bool false]) (by simp [results, Try.results47, go_sem, r0, r1, r2]) rfl (DecGot.no HV.out ?_)
    repeat' (refine Below.setCell ?_ (by simp) _)
    exact HB0.out
  · have hl2 : ¬ ((60 : Int) < (cs.length : Int)) := by omega
    have HL60 : Hid (cs.length ≤ 60) := by unfold Hid; omega
    have HEX : Hid (Calls Try.prog 78 #[.slice ad cs.length cap, .func (.func 79) #[] #[]] (w.alloc (.cells #[.int .i64 0, .int .i64 0, .slice none 0 0] 37)) (ExecRes cs (w.alloc (.cells #[.int .i64 0, .int .i64 0, .slice none 0 0] 37)))) := exec_calls cs _ _ (HK.out.next HB0.out) hl hw
    have HZ0 := mkHid hz0
    clear hw hlong hz0 r0 r1 r2
    cases hr : runC [] cs with
    | none =>
      have HV : Hid (decO cs vars defs = (.node 0 0 [], false)) := decO_false (codeB_none (by unfold oneC; rw [hr]))
      have HR := mkHid hr
      clear hr
      go_enter Try.func47, Try.ntmps47
      go_wp2_with fail
      refine HEX.out.mono ?_
      rintro e w1 ⟨hb, he⟩
      rw [HR.out] at he
      obtain rfl := he
      have hz1 := (hb.block w.heap.size (by rw [Deep.nblk_alloc]; omega)).trans HZ0.out
      have r0 := cell_of_blk hz1 0 _ rfl
      have r1 := cell_of_blk hz1 1 _ rfl
      have r2 := cell_of_blk hz1 2 _ rfl
      have rf := fun i => frz_of_blk hz1 i
      have HB1 : Hid (Below w.heap.size w w1) := HB0.out.trans (hb.mono HB0.out.size)
      clear hb hz1
      go_wp2_with fail
      refine bodyPost_ret (v := .tuple #[.agg #[.int .i64 0, .int .i64 0, .slice none 0 0], .bool false]) (by simp [results, Try.results47, go_sem, r0, r1, r2]) rfl (DecGot.no HV.out ?_)
      repeat' (refine Below.setCell ?_ (by simp) _)
      exact HB1.out
    | some s =>
      have HR := mkHid hr
      by_cases hs1 : s.length = 1
      · obtain ⟨t, rfl⟩ := List.length_eq_one_iff.1 hs1
        have HO1 := mkHid (oneC_of hr)
        have HI : Hid (I64 t.op ∧ I64 t.num) := (allN_iff.1 (((runC_all hr (R := fun o n => I64 o ∧ I64 n)).2 ⟨by simp, HW.out⟩) t (by simp))).1
        have HCB := mkHid (codeB_one HO1.out HL60.out (vars := vars) (defs := defs))
        clear hr hs1
        cases hv : validB t vars defs with
        | false =>
          have hq : Hid (∀ (c : Value) (W : World), In W t.kids c → Calls Try.prog 80 #[.agg #[.int .i64 t.op, .int .i64 t.num, c], .int .i64 vars, .int .i64 defs] W fun e w' => e = .returned (.bool false) ∧ Below W.heap.size W w') := fun c W h => by have h2 := implValid_calls t vars defs c W h; rwa [hv] at h2
          have HV : Hid (decO cs vars defs = (.node 0 0 [], false)) := decO_false (by rw [HCB.out, hv])
          clear hv
          go_enter Try.func47, Try.ntmps47
          go_wp2_with fail
          refine HEX.out.mono ?_
          rintro e w1 ⟨hb, he⟩
          rw [HR.out] at he
          obtain ⟨v, rfl, hov⟩ := he
          have hz1 := (hb.block w.heap.size (by rw [Deep.nblk_alloc]; omega)).trans HZ0.out
          have HZ1 := mkHid hz1
          have HB1 : Hid (Below w.heap.size w w1) := HB0.out.trans (hb.mono HB0.out.size)
          obtain ⟨g, capg, xa, xb, xc, rfl, hg, hcg, y0, y1, y2, rfl, rfl, hf⟩ := hov.single
          have HF : Hid (Fresh w1 (w.heap.size + 1) t.kids xc) := by rw [Deep.nblk_alloc] at hf; exact hf
          have HIN : Hid (In w1 t.kids xc) := HF.out.on.btw_in
          have HLT : Hid (w.heap.size < w1.heap.size) := (Array.getElem?_eq_some_iff.1 hz1).1
          obtain ⟨adk, capk, rfl, -, -, -⟩ := id HIN.out
          have hs2 : ((1 : Int) != 1) = false := by decide
          clear hb hz1 hov hf
          go_wp2_with (go_at_call 80; go_must (refine (hq.out _ _ HIN.out).mono ?_); go_must (rintro e w2 ⟨rfl, hb2⟩); go_must (have HB2 := mkHid hb2); go_must (have hz2 := (hb2.block w.heap.size HLT.out).trans HZ1.out); go_must (have r0 := cell_of_blk hz2 0 _ rfl); go_must (have r1 := cell_of_blk hz2 1 _ rfl); go_must (have r2 := cell_of_blk hz2 2 _ rfl); go_must (have rf := fun i => frz_of_blk hz2 i); go_must (have x0 := (hb2.cell (p := ⟨g, 0, none⟩) hg).trans y0); go_must (have x1 := (hb2.cell (p := ⟨g, 1, none⟩) hg).trans y1); go_must (have x2 := (hb2.cell (p := ⟨g, 2, none⟩) hg).trans y2); clear hb2 hz2)
          refine bodyPost_ret (v := .tuple #[.agg #[.int .i64 0, .int .i64 0, .slice none 0 0], .bool false]) (by simp [results, Try.results47, go_sem, r0, r1, r2]) rfl (DecGot.no HV.out ?_)
          repeat' (refine Below.setCell ?_ (by simp) _)
          exact HB1.out.trans (HB2.out.mono HB1.out.size)
        | true =>
          have hq : Hid (∀ (c : Value) (W : World), In W t.kids c → Calls Try.prog 80 #[.agg #[.int .i64 t.op, .int .i64 t.num, c], .int .i64 vars, .int .i64 defs] W fun e w' => e = .returned (.bool true) ∧ Below W.heap.size W w') := fun c W h => by have h2 := implValid_calls t vars defs c W h; rwa [hv] at h2
          have HV : Hid (decO cs vars defs = (t, true)) := by
            obtain ⟨t', e1, e2⟩ := decO_true (cs := cs) (vars := vars) (defs := defs) (by rw [HCB.out, hv])
            rw [HO1.out] at e1
            cases e1
            exact e2
          clear hv
          go_enter Try.func47, Try.ntmps47
          go_wp2_with fail
          refine HEX.out.mono ?_
          rintro e w1 ⟨hb, he⟩
          rw [HR.out] at he
          obtain ⟨v, rfl, hov⟩ := he
          have hz1 := (hb.block w.heap.size (by rw [Deep.nblk_alloc]; omega)).trans HZ0.out
          have HZ1 := mkHid hz1
          have HB1 : Hid (Below w.heap.size w w1) := HB0.out.trans (hb.mono HB0.out.size)
          obtain ⟨g, capg, xa, xb, xc, rfl, hg, hcg, y0, y1, y2, rfl, rfl, hf⟩ := hov.single
          have HF : Hid (Fresh w1 (w.heap.size + 1) t.kids xc) := by rw [Deep.nblk_alloc] at hf; exact hf
          have HIN : Hid (In w1 t.kids xc) := HF.out.on.btw_in
          have HLT : Hid (w.heap.size < w1.heap.size) := (Array.getElem?_eq_some_iff.1 hz1).1
          obtain ⟨adk, capk, rfl, -, -, -⟩ := id HIN.out
          have hs2 : ((1 : Int) != 1) = false := by decide
          clear hb hz1 hov hf
          go_wp2_with (go_at_call 80; go_must (refine (hq.out _ _ HIN.out).mono ?_); go_must (rintro e w2 ⟨rfl, hb2⟩); go_must (have HB2 := mkHid hb2); go_must (have hz2 := (hb2.block w.heap.size HLT.out).trans HZ1.out); go_must (have r0 := cell_of_blk hz2 0 _ rfl); go_must (have r1 := cell_of_blk hz2 1 _ rfl); go_must (have r2 := cell_of_blk hz2 2 _ rfl); go_must (have rf := fun i => frz_of_blk hz2 i); go_must (have x0 := (hb2.cell (p := ⟨g, 0, none⟩) hg).trans y0); go_must (have x1 := (hb2.cell (p := ⟨g, 1, none⟩) hg).trans y1); go_must (have x2 := (hb2.cell (p := ⟨g, 2, none⟩) hg).trans y2); clear hb2 hz2)
          refine bodyPost_ret (v := .tuple #[.agg #[.int .i64 t.op, .int .i64 t.num, .slice adk t.kids.length capk], .bool true]) (by simp [results, Try.results47, go_sem, r0, r1, r2]) rfl ?_
          rw [HV.out]
          refine ⟨_, rfl, ?_, HI.out.1, HI.out.2, ?_⟩
          · refine Fresh.mono (lo := w.heap.size + 1) ?_ (Nat.le_succ _) (fun _ _ _ => rfl)
            repeat' (refine Fresh.setCell ?_ (by simp) _)
            exact HF.out.next HB2.out
          · repeat' (refine Below.setCell ?_ (by simp) _)
            exact HB1.out.trans (HB2.out.mono HB1.out.size)
      · have HV : Hid (decO cs vars defs = (.node 0 0 [], false)) := decO_false (codeB_none (by
          unfold oneC; rw [hr]
          match s, hs1 with
          | [], _ => rfl
          | _ :: _ :: _, _ => rfl))
        have HS1 : Hid (¬ s.length = 1) := hs1
        clear hr hs1
        go_enter Try.func47, Try.ntmps47
        go_wp2_with fail
        refine HEX.out.mono ?_
        rintro e w1 ⟨hb, he⟩
        rw [HR.out] at he
        obtain ⟨v, rfl, hov⟩ := he
        have hz1 := (hb.block w.heap.size (by rw [Deep.nblk_alloc]; omega)).trans HZ0.out
        have r0 := cell_of_blk hz1 0 _ rfl
        have r1 := cell_of_blk hz1 1 _ rfl
        have r2 := cell_of_blk hz1 2 _ rfl
        have rf := fun i => frz_of_blk hz1 i
        have HB1 : Hid (Below w.heap.size w w1) := HB0.out.trans (hb.mono HB0.out.size)
        obtain ⟨ads, caps, rfl⟩ : ∃ ads caps, v = .slice ads s.length caps := by
          rcases hov.form with ⟨e, h⟩ | ⟨g, capg, e, -⟩
          · exact ⟨none, 0, by rw [e, h]⟩
          · exact ⟨_, _, e⟩
        have hs1 : ¬ s.length = 1 := HS1.out
        have hs2 : ((s.length : Int) != 1) = true := by simp; omega
        clear hb hz1 hov
        go_wp2_with fail
        refine bodyPost_ret (v := .tuple #[.agg #[.int .i64 0, .int .i64 0, .slice none 0 0], .bool false]) (by simp [results, Try.results47, go_sem, r0, r1, r2]) rfl (DecGot.no HV.out ?_)
        repeat' (refine Below.setCell ?_ (by simp) _)
        exact HB1.out
end Go.Proofs.Ythknbafcnobgdaa
