/-
  THE PROGRAM's spineFrom.
-/
import Derived.Test.YtidijbnoaeopdaaGreatDoorMgExactPeakCells21
import Derived.Test.YtidijbnoaeopdaaGreatDoorMgExactPeakCells31
import Derived.Test.YtidijbnoaeopdaaGreatDoorMgExactPeakCells24
import Derived.Test.YtidijbnoaeopdaaGreatDoorMgExactPeakCells30
namespace Go.Proofs.YtidijbnoaeopdaaGreatDoor
set_option linter.unusedVariables false
set_option linter.unusedSimpArgs false
open Go.RowKit

set_option maxRecDepth 100000 in
set_option maxHeartbeats 1600000 in
theorem spineFrom_calls (g : List Ce) (a : Nat) (v : Value) (w : World) (hk : CIn w g v) (hg : ∃ defs, graphB g defs = true) (ha : a < g.length) :
    Calls Tryz.prog 158 #[v, .int .i64 (a : Int)] w (SpineOut (spine g a) w) := by
  have HK : Hid (CIn w g v) := hk
  obtain ⟨ad, cap, rfl, hl, hm, -⟩ := hk
  obtain ⟨defs, hg⟩ := hg
  have HG : Hid (graphB g defs = true) := hg
  have h400 : g.length ≤ 400 := graphB_len hg
  have H0 : Hid (Stk w w.heap.size [] (.slice none 0 0)) := World.ownsRow_nil _ _ _ _
  unfold maxLen at hm
  clear hg
  go_enter Tryz.func158, Tryz.ntmps158
  go_wp2_with fail
  go_loopg [1, 7] (g.length + 3) (fun k at' cs wr => ∃ (ws : List Nat) (b : Nat), Stk wr w.heap.size ws cs ∧ SpRel g a ws b ∧ at' = .int .i64 (b : Int) ∧ g.length + 2 - ws.length < k ∧ Below w.heap.size w wr)
  case atStart => exact ⟨[], a, H0.out, SpRel.start ha, rfl, by simp, Below.refl _ _⟩
  case round =>
    obtain ⟨ws, b, hst, hsp, rfl, hms, hb⟩ := hrel
    have HS : Hid (Stk wr w.heap.size ws _) := hst
    have HR : Hid (SpRel g a ws b) := hsp
    have HB : Hid (Below w.heap.size w wr) := hb
    have hwl := hsp.len
    have hbl0 := hsp.lt
    obtain ⟨adc, capc, rfl⟩ := hst.len
    clear hst hsp hb
    by_cases hgt : g.length < ws.length
    · have HV : Hid (spine g a = none) := HR.out.out hgt
      go_wp2_with fail
      go_ret3
      exact out_none HV.out (by simp [maxLen]) HB.out
    have hwl2 : ws.length ≤ g.length := by omega
    go_wp2_with fail
    refine (standsFor_calls g b _ _ (HK.out.next HB.out) ⟨defs, HG.out⟩ HR.out.lt).mono ?_
    rintro e w1 ⟨rfl, hb1⟩
    have HB1 : Hid (Below w.heap.size w w1) := HB.out.trans (hb1.mono HB.out.size)
    have HS1 : Hid (Stk w1 w.heap.size ws (.slice adc ws.length capc)) := HS.out.keep fun k _ hk => hb1.block k hk
    clear hb1
    cases hf : followN g g.length b with
    | none =>
      have HV : Hid (spine g a = none) := HR.out.none hwl2 hf
      have e1 : folO none = 0 := rfl
      have e2 : (none : Option Nat).isSome = false := rfl
      rw [e1, e2]
      clear hf
      go_wp2_with fail
      go_ret3
      exact out_none HV.out (by simp [maxLen]) HB1.out
    | some f =>
      have hff : f < g.length := (followN_lt HG.out _ _ _ HR.out.lt hf).1
      have HF : Hid (followN g g.length b = some f) := hf
      have e1 : folO (some f) = (f : Int) := rfl
      have e2 : (some f).isSome = true := rfl
      rw [e1, e2]
      obtain ⟨bl, off, r, rfl, c0, c1, c2, -, -, hkk⟩ := (HK.out.next HB1.out).at f hff
      clear hf c1
      by_cases ho : g[f].op = 4
      · have t1 : (g[f].op != 4) = false := by simp [ho]
        have h4 : opAt g f = 4 := by rw [opAt_at f hff]; exact ho
        have HR2 : Hid (SpRel g a (ws ++ [f]) (kidAt g f 0)) := HR.out.next HG.out hwl2 HF.out h4
        have hkl : 0 < g[f].kids.length := by
          have h1 := kids_count HG.out f hff
          rw [ho] at h1
          have e : cArity 4 = 2 := by decide
          omega
        obtain ⟨hk0, hk0l⟩ := kidAt_get HG.out f hff 0 hkl
        obtain ⟨ad2, cap2, rfl, hl2, hm2, -⟩ := id hkk
        obtain ⟨bl2, off2, rfl, d0⟩ := hkk.at 0 hkl
        rw [hk0, Nat.add_zero] at d0
        have HC : Hid (w1.cell? ⟨bl, off + f * 3 + 2, none⟩ = some (.slice (some ⟨bl2, off2, none⟩) g[f].kids.length cap2)) := c2
        have HD : Hid (w1.cell? ⟨bl2, off2, none⟩ = some (.int .i64 (kidAt g f 0 : Int))) := d0
        have hbl : bl < w1.heap.size := cell_lt c2
        have hbl2 : bl2 < w1.heap.size := cell_lt d0
        have HS3 : Hid (Stk (w1.alloc (.cells #[.int .i64 (f : Int)] 3)) w.heap.size ws (.slice adc ws.length capc)) := HS1.out.alloc _
        have HK3 : Hid (IIn (w1.alloc (.cells #[.int .i64 (f : Int)] 3)) [(f : Int)] (.slice (some ⟨w1.heap.size, 0, none⟩) 1 1)) := one_in w1 f
        have HLO : Hid (w.heap.size ≤ (w1.alloc (.cells #[.int .i64 (f : Int)] 3)).heap.size) := by rw [Hid, Deep.nblk_alloc]; have := HB1.out.size; omega
        have HOB : Hid (∀ j, (Value.slice adc ws.length capc).ownBlock = some j → w.heap.size ≤ j) := fun j hj => own_lo HS1.out hj.symm
        have HBN : Hid (CIn w1 g (.slice (some ⟨bl, off, none⟩) g.length cap)) := HK.out.next HB1.out
        have HZ : Hid (w.heap.size ≤ w1.heap.size) := HB1.out.size
        have HBL : Hid (bl < w.heap.size) := by
          have h := HK.out.at f hff
          obtain ⟨bl', off', r', he, q0, -⟩ := h
          cases he
          exact cell_lt q0
        have HBL2 : Hid (bl2 < w.heap.size) := by
          have h := HK.out.at f hff
          obtain ⟨bl', off', r', he, -, -, q2, -, -, hkk'⟩ := h
          cases he
          have q3 := (HB1.out.cell (p := ⟨bl, off + f * 3 + 2, none⟩) (cell_lt q2)).trans q2
          rw [HC.out] at q3
          cases q3
          obtain ⟨bl3, off3, he, q4⟩ := hkk'.at 0 hkl
          cases he
          exact cell_lt q4
        clear ho hkk hk0 hk0l c2 d0 hl2 hm2 h4
        have c2 := HC.out
        have d0 := HD.out
        go_wp2_with (at_builtin; go_must (refine wpList_push rfl _ _ rfl _ w.heap.size ws [f] (.slice adc ws.length capc) (.slice (some ⟨w1.heap.size, 0, none⟩) 1 1) rfl HS3.out rfl HK3.out rfl HLO.out (by simp; omega) ?_); go_must (intro v' w5 hst5 hg5); go_must (have HS5 : Hid (Stk w5 w.heap.size (ws ++ [f]) v') := hst5); go_must (have HN5 : Hid (∀ j, j < w.heap.size → w5.heap[j]? = w1.heap[j]?) := fun j hj => (hg5.block j (by have := HLO.out; omega) (fun e => by have := HOB.out j e.symm; omega)).trans (Deep.blk_alloc_lt _ _ _ (by have := HZ.out; omega))); go_must (have HB5 : Hid (Below w.heap.size w w5) := by have hb3 : Below w.heap.size w (w1.alloc (.cells #[.int .i64 (f : Int)] 3)) := HB1.out.alloc HB1.out.size _; exact ⟨by rw [hg5.os]; exact hb3.os, by rw [hg5.tape]; exact hb3.tape, by rw [hg5.output]; exact hb3.output, Nat.le_trans hb3.size hg5.size, fun j hj => (hg5.block j (by have := hb3.size; omega) (fun e => by have := HOB.out j e.symm; omega)).trans (hb3.block j hj)⟩); clear c2 d0 c0; go_must (have c2 := (World.cell?_of_block (a := ⟨bl, off + f * 3 + 2, none⟩) (HN5.out bl HBL.out)).trans HC.out); go_must (have d0 := (World.cell?_of_block (a := ⟨bl2, off2, none⟩) (HN5.out bl2 HBL2.out)).trans HD.out); clear hst5 hg5)
        go_roundg (g.length + 2 - (ws ++ [f]).length + 1)
        case measure => rw [List.length_append]; simp; omega
        case rel => exact ⟨ws ++ [f], kidAt g f 0, HS5.out, HR2.out, rfl, by omega, HB5.out⟩
      · have t1 : (g[f].op != 4) = true := by simp [ho]
        have h4 : ¬ opAt g f = 4 := by rw [opAt_at f hff]; exact ho
        have HV : Hid (spine g a = some (f, ws)) := HR.out.fin hwl2 HF.out h4
        clear ho h4 hkk c2
        go_wp2_with fail
        go_ret3
        exact out_some HV.out HS1.out.row HB1.out

end Go.Proofs.YtidijbnoaeopdaaGreatDoor
/-
  THE PROGRAM's isValueCell AND canReduce.
-/
namespace Go.Proofs.YtidijbnoaeopdaaGreatDoor
set_option linter.unusedVariables false
set_option linter.unusedSimpArgs false
open Go.RowKit

set_option maxRecDepth 100000 in
set_option maxHeartbeats 1600000 in
theorem isValueCell_calls (ds : List Df) (g : List Ce) (a : Nat) (c v : Value) (w : World) (hd : DIn w ds c) (hk : CIn w g v) (hg : graphB g ds.length = true) (ha : a < g.length) :
    Calls Tryz.prog 155 #[c, v, .int .i64 (a : Int)] w fun e w' => e = .returned (.bool (valB (arsOf ds) g a)) ∧ Below w.heap.size w w' := by
  have HD : Hid (DIn w ds c) := hd
  have HK : Hid (CIn w g v) := hk
  have HG : Hid (graphB g ds.length = true) := hg
  obtain ⟨ad, cap, rfl, hl, hm, -⟩ := hk
  obtain ⟨adp, capp, rfl, hlp, hmp, -⟩ := hd
  have h400 : g.length ≤ 400 := graphB_len hg
  unfold maxLen at hm hmp
  clear hg
  go_enter Tryz.func155, Tryz.ntmps155
  go_wp2_with fail
  refine (spineFrom_calls g a _ _ HK.out ⟨_, HG.out⟩ ha).mono ?_
  rintro e w1 ⟨v1, rfl, hi1, hb1⟩
  have HB1 : Hid (Below w.heap.size w w1) := hb1
  have hlx : (spL (spine g a)).length ≤ 9223372036854775807 := by
    obtain ⟨ad2, cap2, rfl, l1, l2, -⟩ := hi1
    rw [plI_length] at l1
    unfold maxLen at l2
    omega
  obtain ⟨ad2, cap2, rfl, -, -, -⟩ := hi1
  rw [plI_length]
  clear hb1
  cases hs : spine g a with
  | none =>
    have HV : Hid (valB (arsOf ds) g a = false) := valB_none hs
    have e1 : spF none = 0 := rfl
    have e2 : (none : Option (Nat × List Nat)).isSome = false := rfl
    rw [e1, e2]
    clear hs
    go_wp2_with fail
    go_ret
    exact ⟨ret_bool HV.out.symm, HB1.out⟩
  | some x =>
    obtain ⟨f, xs⟩ := x
    have hok := spine_ok HG.out ha hs
    have hff : f < g.length := hok.1
    have HS : Hid (spine g a = some (f, xs)) := hs
    have e1 : spF (some (f, xs)) = (f : Int) := rfl
    have e2 : (some (f, xs)).isSome = true := rfl
    have e3 : spL (some (f, xs)) = xs := rfl
    rw [hs, e3] at hlx
    rw [e1, e2, e3]
    obtain ⟨bl, off, r, rfl, c0, c1, c2, -, -, hkk⟩ := (HK.out.next HB1.out).at f hff
    obtain ⟨adk, capk, rfl, -, -, -⟩ := id hkk
    have HOP : Hid (opAt g f = g[f].op) := opAt_at f hff
    clear hs hok hkk
    by_cases ho2 : g[f].op = 2
    · have HV : Hid (valB (arsOf ds) g a = decide (xs.length = 0)) := valB_num HS.out (Or.inl (by rw [HOP.out]; exact ho2))
      have t2 : (g[f].op == 2) = true := by simp [ho2]
      clear ho2
      go_wp2_with fail
      go_ret
      exact ⟨ret_bool (by rw [HV.out]; exact dec_len xs), HB1.out.alloc HB1.out.size _⟩
    have t2 : (g[f].op == 2) = false := by simp [ho2]
    by_cases ho5 : g[f].op = 5
    · have HV : Hid (valB (arsOf ds) g a = decide (xs.length = 0)) := valB_num HS.out (Or.inr (by rw [HOP.out]; exact ho5))
      have t5 : (g[f].op == 5) = true := by simp [ho5]
      clear ho2 ho5
      go_wp2_with fail
      go_ret
      exact ⟨ret_bool (by rw [HV.out]; exact dec_len xs), HB1.out.alloc HB1.out.size _⟩
    have t5 : (g[f].op == 5) = false := by simp [ho5]
    by_cases ho3 : g[f].op = 3
    · obtain ⟨n, hn, hnl⟩ := glob_num HG.out f hff ho3
      have hnl' : n < ds.length := by omega
      have HV : Hid (valB (arsOf ds) g a = decide ((xs.length : Int) < ds[n].1)) := by
        rw [Hid, valB_glob HS.out (by rw [HOP.out]; exact ho3), numAt_at f hff, hn, arOf_at ds n hnl']
      have t3 : (g[f].op == 3) = true := by simp [ho3]
      obtain ⟨blp, offp, rp, rfl, d0w, d1, d2, d3, -⟩ := (HD.out.next HB1.out).at n hnl'
      have d0 := old_cell d0w (.cells #[.int .i64 g[f].op, .int .i64 (n : Int), .slice adk g[f].kids.length capk] 93)
      rw [hn] at c1
      clear ho2 ho5 ho3 hn d1 d2 d3 d0w
      go_wp2_with fail
      go_ret
      exact ⟨ret_bool HV.out.symm, HB1.out.alloc HB1.out.size _⟩
    · have t3 : (g[f].op == 3) = false := by simp [ho3]
      have HV : Hid (valB (arsOf ds) g a = false) := valB_no HS.out (by rw [HOP.out]; exact ho2) (by rw [HOP.out]; exact ho5) (by rw [HOP.out]; exact ho3)
      clear ho2 ho5 ho3
      go_wp2_with fail
      go_ret
      exact ⟨ret_bool HV.out.symm, HB1.out.alloc HB1.out.size _⟩

end Go.Proofs.YtidijbnoaeopdaaGreatDoor
