/-
  THE PROGRAM's spineFrom.
-/
import Derived.Test.YtiipcgnkfhjpeaaGreatDoorMgExactStepRun23
import Derived.Test.YtiipcgnkfhjpeaaGreatDoorMgExactStepRun32
import Derived.Test.YtiipcgnkfhjpeaaGreatDoorMgExactStepRun26
import Derived.Test.YtiipcgnkfhjpeaaGreatDoorMgExactStepRun8
import Derived.Test.YtiipcgnkfhjpeaaGreatDoorMgExactStepRun18
import Derived.Test.YtiipcgnkfhjpeaaGreatDoorMgExactStepRun16
namespace Go.Proofs.YtiipcgnkfhjpeaaGreatDoor
set_option linter.unusedVariables false
set_option linter.unusedSimpArgs false
open Go.RowKit

set_option maxRecDepth 100000 in
set_option maxHeartbeats 1600000 in
theorem spineFrom_calls (g : List Ce) (a : Nat) (v : Value) (w : World) (hk : CIn w g v) (hg : ∃ defs, graphB g defs = true) (ha : a < g.length) :
    Calls Tryz.prog 151 #[v, .int .i64 (a : Int)] w (SpineOut (spine g a) w) := by
  have HK : Hid (CIn w g v) := hk
  obtain ⟨ad, cap, rfl, hl, hm, -⟩ := hk
  obtain ⟨defs, hg⟩ := hg
  have HG : Hid (graphB g defs = true) := hg
  have h400 : g.length ≤ 400 := graphB_len hg
  have H0 : Hid (Stk w w.heap.size [] (.slice none 0 0)) := World.ownsRow_nil _ _ _ _
  unfold maxLen at hm
  clear hg
  go_enter Tryz.func151, Tryz.ntmps151
  go_wp2_with fail
  go_loopg [1, 7] (g.length + 3) (fun k at' cs wr => ∃ (ws : List Nat) (b : Nat), Stk wr w.heap.size ws cs ∧ SpRel g a ws b ∧ at' = .int .i64 (b : Int) ∧ g.length + 2 - ws.length < k ∧ Below w.heap.size w wr)
  case atStart => exact ⟨[], a, H0.out, SpRel.start ha, rfl, by simp, Below.refl _ _⟩
  case round =>
    obtain ⟨ws, b, hst, hsp, rfl, hms, hb⟩ := hrel
    have HS : Hid (Stk wr w.heap.size ws _) := hst
    have HR : Hid (SpRel g a ws b) := hsp
    have HB : Hid (Below w.heap.size w wr) := hb
    have hwl := hsp.len
    have hbl0 := hsp.lt
    obtain ⟨adc, capc, rfl⟩ := hst.len
    clear hst hsp hb
    by_cases hgt : g.length < ws.length
    · have HV : Hid (spine g a = none) := HR.out.out hgt
      go_wp2_with fail
      go_ret3
      exact out_none HV.out (by simp [maxLen]) HB.out
    have hwl2 : ws.length ≤ g.length := by omega
    go_wp2_with fail
    refine (standsFor_calls g b _ _ (HK.out.next HB.out) ⟨defs, HG.out⟩ HR.out.lt).mono ?_
    rintro e w1 ⟨rfl, hb1⟩
    have HB1 : Hid (Below w.heap.size w w1) := HB.out.trans (hb1.mono HB.out.size)
    have HS1 : Hid (Stk w1 w.heap.size ws (.slice adc ws.length capc)) := HS.out.keep fun k _ hk => hb1.block k hk
    clear hb1
    cases hf : followN g g.length b with
    | none =>
      have HV : Hid (spine g a = none) := HR.out.none hwl2 hf
      have e1 : folO none = 0 := rfl
      have e2 : (none : Option Nat).isSome = false := rfl
      rw [e1, e2]
      clear hf
      go_wp2_with fail
      go_ret3
      exact out_none HV.out (by simp [maxLen]) HB1.out
    | some f =>
      have hff : f < g.length := (followN_lt HG.out _ _ _ HR.out.lt hf).1
      have HF : Hid (followN g g.length b = some f) := hf
      have e1 : folO (some f) = (f : Int) := rfl
      have e2 : (some f).isSome = true := rfl
      rw [e1, e2]
      obtain ⟨bl, off, r, rfl, c0, c1, c2, -, -, hkk⟩ := (HK.out.next HB1.out).at f hff
      clear hf c1
      by_cases ho : g[f].op = 4
      · have t1 : (g[f].op != 4) = false := by simp [ho]
        have h4 : opAt g f = 4 := by rw [opAt_at f hff]; exact ho
        have HR2 : Hid (SpRel g a (ws ++ [f]) (kidAt g f 0)) := HR.out.next HG.out hwl2 HF.out h4
        have hkl : 0 < g[f].kids.length := by
          have h1 := kids_count HG.out f hff
          rw [ho] at h1
          have e : cArity 4 = 2 := by decide
          omega
        obtain ⟨hk0, hk0l⟩ := kidAt_get HG.out f hff 0 hkl
        obtain ⟨ad2, cap2, rfl, hl2, hm2, -⟩ := id hkk
        obtain ⟨bl2, off2, rfl, d0⟩ := hkk.at 0 hkl
        rw [hk0, Nat.add_zero] at d0
        have HC : Hid (w1.cell? ⟨bl, off + f * 3 + 2, none⟩ = some (.slice (some ⟨bl2, off2, none⟩) g[f].kids.length cap2)) := c2
        have HD : Hid (w1.cell? ⟨bl2, off2, none⟩ = some (.int .i64 (kidAt g f 0 : Int))) := d0
        have hbl : bl < w1.heap.size := cell_lt c2
        have hbl2 : bl2 < w1.heap.size := cell_lt d0
        have HS3 : Hid (Stk (w1.alloc (.cells #[.int .i64 (f : Int)] 3)) w.heap.size ws (.slice adc ws.length capc)) := HS1.out.alloc _
        have HK3 : Hid (IIn (w1.alloc (.cells #[.int .i64 (f : Int)] 3)) [(f : Int)] (.slice (some ⟨w1.heap.size, 0, none⟩) 1 1)) := one_in w1 f
        have HLO : Hid (w.heap.size ≤ (w1.alloc (.cells #[.int .i64 (f : Int)] 3)).heap.size) := by rw [Hid, Deep.nblk_alloc]; have := HB1.out.size; omega
        have HOB : Hid (∀ j, (Value.slice adc ws.length capc).ownBlock = some j → w.heap.size ≤ j) := fun j hj => own_lo HS1.out hj.symm
        have HBN : Hid (CIn w1 g (.slice (some ⟨bl, off, none⟩) g.length cap)) := HK.out.next HB1.out
        have HZ : Hid (w.heap.size ≤ w1.heap.size) := HB1.out.size
        have HBL : Hid (bl < w.heap.size) := by
          have h := HK.out.at f hff
          obtain ⟨bl', off', r', he, q0, -⟩ := h
          cases he
          exact cell_lt q0
        have HBL2 : Hid (bl2 < w.heap.size) := by
          have h := HK.out.at f hff
          obtain ⟨bl', off', r', he, -, -, q2, -, -, hkk'⟩ := h
          cases he
          have q3 := (HB1.out.cell (p := ⟨bl, off + f * 3 + 2, none⟩) (cell_lt q2)).trans q2
          rw [HC.out] at q3
          cases q3
          obtain ⟨bl3, off3, he, q4⟩ := hkk'.at 0 hkl
          cases he
          exact cell_lt q4
        clear ho hkk hk0 hk0l c2 d0 hl2 hm2 h4
        have c2 := HC.out
        have d0 := HD.out
        go_wp2_with (at_builtin; go_must (refine wpList_push rfl _ _ rfl _ w.heap.size ws [f] (.slice adc ws.length capc) (.slice (some ⟨w1.heap.size, 0, none⟩) 1 1) rfl HS3.out rfl HK3.out rfl HLO.out (by simp; omega) ?_); go_must (intro v' w5 hst5 hg5); go_must (have HS5 : Hid (Stk w5 w.heap.size (ws ++ [f]) v') := hst5); go_must (have HN5 : Hid (∀ j, j < w.heap.size → w5.heap[j]? = w1.heap[j]?) := fun j hj => (hg5.block j (by have := HLO.out; omega) (fun e => by have := HOB.out j e.symm; omega)).trans (Deep.blk_alloc_lt _ _ _ (by have := HZ.out; omega))); go_must (have HB5 : Hid (Below w.heap.size w w5) := by have hb3 : Below w.heap.size w (w1.alloc (.cells #[.int .i64 (f : Int)] 3)) := HB1.out.alloc HB1.out.size _; exact ⟨by rw [hg5.os]; exact hb3.os, by rw [hg5.tape]; exact hb3.tape, by rw [hg5.output]; exact hb3.output, Nat.le_trans hb3.size hg5.size, fun j hj => (hg5.block j (by have := hb3.size; omega) (fun e => by have := HOB.out j e.symm; omega)).trans (hb3.block j hj)⟩); clear c2 d0 c0; go_must (have c2 := (World.cell?_of_block (a := ⟨bl, off + f * 3 + 2, none⟩) (HN5.out bl HBL.out)).trans HC.out); go_must (have d0 := (World.cell?_of_block (a := ⟨bl2, off2, none⟩) (HN5.out bl2 HBL2.out)).trans HD.out); clear hst5 hg5)
        go_roundg (g.length + 2 - (ws ++ [f]).length + 1)
        case measure => rw [List.length_append]; simp; omega
        case rel => exact ⟨ws ++ [f], kidAt g f 0, HS5.out, HR2.out, rfl, by omega, HB5.out⟩
      · have t1 : (g[f].op != 4) = true := by simp [ho]
        have h4 : ¬ opAt g f = 4 := by rw [opAt_at f hff]; exact ho
        have HV : Hid (spine g a = some (f, ws)) := HR.out.fin hwl2 HF.out h4
        clear ho h4 hkk c2
        go_wp2_with fail
        go_ret3
        exact out_some HV.out HS1.out.row HB1.out

end Go.Proofs.YtiipcgnkfhjpeaaGreatDoor
/-
  THE PROGRAM's isValueCell AND canReduce.
-/
namespace Go.Proofs.YtiipcgnkfhjpeaaGreatDoor
set_option linter.unusedVariables false
set_option linter.unusedSimpArgs false
open Go.RowKit

set_option maxRecDepth 100000 in
set_option maxHeartbeats 1600000 in
theorem isValueCell_calls (ds : List Df) (g : List Ce) (a : Nat) (c v : Value) (w : World) (hd : DIn w ds c) (hk : CIn w g v) (hg : graphB g ds.length = true) (ha : a < g.length) :
    Calls Tryz.prog 148 #[c, v, .int .i64 (a : Int)] w fun e w' => e = .returned (.bool (valB (arsOf ds) g a)) ∧ Below w.heap.size w w' := by
  have HD : Hid (DIn w ds c) := hd
  have HK : Hid (CIn w g v) := hk
  have HG : Hid (graphB g ds.length = true) := hg
  obtain ⟨ad, cap, rfl, hl, hm, -⟩ := hk
  obtain ⟨adp, capp, rfl, hlp, hmp, -⟩ := hd
  have h400 : g.length ≤ 400 := graphB_len hg
  unfold maxLen at hm hmp
  clear hg
  go_enter Tryz.func148, Tryz.ntmps148
  go_wp2_with fail
  refine (spineFrom_calls g a _ _ HK.out ⟨_, HG.out⟩ ha).mono ?_
  rintro e w1 ⟨v1, rfl, hi1, hb1⟩
  have HB1 : Hid (Below w.heap.size w w1) := hb1
  have hlx : (spL (spine g a)).length ≤ 9223372036854775807 := by
    obtain ⟨ad2, cap2, rfl, l1, l2, -⟩ := hi1
    rw [plI_length] at l1
    unfold maxLen at l2
    omega
  obtain ⟨ad2, cap2, rfl, -, -, -⟩ := hi1
  rw [plI_length]
  clear hb1
  cases hs : spine g a with
  | none =>
    have HV : Hid (valB (arsOf ds) g a = false) := valB_none hs
    have e1 : spF none = 0 := rfl
    have e2 : (none : Option (Nat × List Nat)).isSome = false := rfl
    rw [e1, e2]
    clear hs
    go_wp2_with fail
    go_ret
    exact ⟨ret_bool HV.out.symm, HB1.out⟩
  | some x =>
    obtain ⟨f, xs⟩ := x
    have hok := spine_ok HG.out ha hs
    have hff : f < g.length := hok.1
    have HS : Hid (spine g a = some (f, xs)) := hs
    have e1 : spF (some (f, xs)) = (f : Int) := rfl
    have e2 : (some (f, xs)).isSome = true := rfl
    have e3 : spL (some (f, xs)) = xs := rfl
    rw [hs, e3] at hlx
    rw [e1, e2, e3]
    obtain ⟨bl, off, r, rfl, c0, c1, c2, -, -, hkk⟩ := (HK.out.next HB1.out).at f hff
    obtain ⟨adk, capk, rfl, -, -, -⟩ := id hkk
    have HOP : Hid (opAt g f = g[f].op) := opAt_at f hff
    clear hs hok hkk
    by_cases ho2 : g[f].op = 2
    · have HV : Hid (valB (arsOf ds) g a = decide (xs.length = 0)) := valB_num HS.out (Or.inl (by rw [HOP.out]; exact ho2))
      have t2 : (g[f].op == 2) = true := by simp [ho2]
      clear ho2
      go_wp2_with fail
      go_ret
      exact ⟨ret_bool (by rw [HV.out]; exact dec_len xs), HB1.out.alloc HB1.out.size _⟩
    have t2 : (g[f].op == 2) = false := by simp [ho2]
    by_cases ho5 : g[f].op = 5
    · have HV : Hid (valB (arsOf ds) g a = decide (xs.length = 0)) := valB_num HS.out (Or.inr (by rw [HOP.out]; exact ho5))
      have t5 : (g[f].op == 5) = true := by simp [ho5]
      clear ho2 ho5
      go_wp2_with fail
      go_ret
      exact ⟨ret_bool (by rw [HV.out]; exact dec_len xs), HB1.out.alloc HB1.out.size _⟩
    have t5 : (g[f].op == 5) = false := by simp [ho5]
    by_cases ho3 : g[f].op = 3
    · obtain ⟨n, hn, hnl⟩ := glob_num HG.out f hff ho3
      have hnl' : n < ds.length := by omega
      have HV : Hid (valB (arsOf ds) g a = decide ((xs.length : Int) < ds[n].1)) := by
        rw [Hid, valB_glob HS.out (by rw [HOP.out]; exact ho3), numAt_at f hff, hn, arOf_at ds n hnl']
      have t3 : (g[f].op == 3) = true := by simp [ho3]
      obtain ⟨blp, offp, rp, rfl, d0w, d1, d2, d3, -⟩ := (HD.out.next HB1.out).at n hnl'
      have d0 := old_cell d0w (.cells #[.int .i64 g[f].op, .int .i64 (n : Int), .slice adk g[f].kids.length capk] 93)
      rw [hn] at c1
      clear ho2 ho5 ho3 hn d1 d2 d3 d0w
      go_wp2_with fail
      go_ret
      exact ⟨ret_bool HV.out.symm, HB1.out.alloc HB1.out.size _⟩
    · have t3 : (g[f].op == 3) = false := by simp [ho3]
      have HV : Hid (valB (arsOf ds) g a = false) := valB_no HS.out (by rw [HOP.out]; exact ho2) (by rw [HOP.out]; exact ho5) (by rw [HOP.out]; exact ho3)
      clear ho2 ho5 ho3
      go_wp2_with fail
      go_ret
      exact ⟨ret_bool HV.out.symm, HB1.out.alloc HB1.out.size _⟩

set_option maxHeartbeats 1600000 in
theorem canReduce_calls (ds : List Df) (g : List Ce) (a : Int) (c v : Value) (w : World) (hd : DIn w ds c) (hk : CIn w g v) :
    Calls Tryz.prog 78 #[c, v, .int .i64 a] w fun e w' => e = .returned (.bool (rightB ds g a)) ∧ Below w.heap.size w w' := by
  have HD : Hid (DIn w ds c) := hd
  have HK : Hid (CIn w g v) := hk
  obtain ⟨ad, cap, rfl, hl, hm, -⟩ := hk
  obtain ⟨adp, capp, rfl, hlp, hmp, -⟩ := hd
  unfold maxLen at hm hmp
  go_enter Tryz.func78, Tryz.ntmps78
  go_wp2_with fail
  refine (implProg_calls ds _ _ HD.out).mono ?_
  rintro e w1 ⟨rfl, hb1⟩
  have HB1 : Hid (Below w.heap.size w w1) := hb1
  clear hb1
  cases hp : progB ds with
  | false =>
    have HV : Hid (rightB ds g a = false) := by rw [Hid, rightB, hp]; rfl
    clear hp
    go_wp2_with fail
    go_ret
    exact ⟨ret_bool HV.out.symm, HB1.out⟩
  | true =>
    have HP : Hid (progB ds = true) := hp
    clear hp
    go_wp2_with fail
    refine (implGraph_calls g ds.length _ _ (HK.out.next HB1.out)).mono ?_
    rintro e w2 ⟨rfl, hb2⟩
    have HB2 : Hid (Below w.heap.size w w2) := HB1.out.trans (hb2.mono HB1.out.size)
    clear hb2
    cases hg : graphB g ds.length with
    | false =>
      have HV : Hid (rightB ds g a = false) := by rw [Hid, rightB, hg, Bool.false_and, Bool.and_false]
      clear hg
      go_wp2_with fail
      go_ret
      exact ⟨ret_bool HV.out.symm, HB2.out⟩
    | true =>
      have HV : Hid (rightB ds g a = isAt g.length a) := by rw [Hid, rightB, hg, HP.out, Bool.true_and, Bool.true_and]
      clear hg
      go_wp2_with fail
      refine (isCell_calls g.length cap ad a _ (by omega)).mono ?_
      rintro e w3 ⟨rfl, hb3⟩
      have HB3 : Hid (Below w.heap.size w w3) := HB2.out.trans (hb3.mono HB2.out.size)
      clear hb3
      go_wp2_with fail
      go_ret
      exact ⟨ret_bool HV.out.symm, HB3.out⟩

end Go.Proofs.YtiipcgnkfhjpeaaGreatDoor
/-
  THE PROGRAM's callIn, operandsOf, waitsFor AND redexFrom.
-/
namespace Go.Proofs.YtiipcgnkfhjpeaaGreatDoor
set_option linter.unusedVariables false
set_option linter.unusedSimpArgs false
open Go.RowKit

set_option maxHeartbeats 800000 in
theorem callIn_calls (f : Nat) (xs : List Nat) (ar : Nat) (v : Value) (w : World) (hi : IIn w (plI xs) v) (hle : ar ≤ xs.length) :
    Calls Tryz.prog 152 #[.int .i64 (f : Int), v, .int .i64 (ar : Int)] w fun e w' => e = .returned (.int .i64 (callAt f xs (ar : Int) : Int)) ∧ w' = w := by
  obtain ⟨ad, cap, rfl, hcl, hcm, hr⟩ := hi
  unfold maxLen at hcm
  rw [plI_length] at hcl ⊢
  by_cases hz : ar = 0
  · subst hz
    have HV : Hid (callAt f xs ((0 : Nat) : Int) = f) := callAt_zero
    clear hr
    go_enter Tryz.func152, Tryz.ntmps152
    go_wp2_with fail
    go_ret
    exact ⟨ret_int (by rw [HV.out]), rfl⟩
  · obtain ⟨q, hq⟩ : ∃ q, q + ar = xs.length := ⟨xs.length - ar, by omega⟩
    have hql : q < xs.length := by omega
    have HV : Hid (callAt f xs (ar : Int) = xs[q]) := callAt_at hz hq
    have hne : ¬ plI xs = [] := by intro e; have h1 := plI_length xs; rw [e, List.length_nil] at h1; omega
    rcases hr with hr | ⟨gb, off, rfl, -, hfb⟩
    · exact absurd hr hne
    have q0 : w.cell? ⟨gb, off + (xs.length - ar), none⟩ = some (.int .i64 (xs[q] : Int)) := by
      have hqe : xs.length - ar = q := by omega
      have hqp : q < (plI xs).length := by rw [plI_length]; exact hql
      have h1 := hfb q hqp
      rw [hqe, h1]
      simp [plI]
    have tz : ((ar : Int) == 0) = false := by rw [beq_eq_false_iff_ne]; omega
    have hq0 : 0 ≤ (xs.length : Int) - (ar : Int) := by omega
    have hq1 : (xs.length : Int) - (ar : Int) < (xs.length : Int) := by omega
    clear hfb hne
    go_enter Tryz.func152, Tryz.ntmps152
    go_wp2_with fail
    go_ret
    exact ⟨ret_int (by rw [HV.out]), rfl⟩

set_option maxHeartbeats 800000 in
theorem operandsOf_calls (o : Int) (ho : o = 6 ∨ o = 7 ∨ o = 8 ∨ o = 9 ∨ o = 10) (w : World) :
    Calls Tryz.prog 157 #[.int .i64 o] w fun e w' => e = .returned (.tuple #[.int .i64 (manyOf o : Int), .int .i64 (kindIn o)]) ∧ w' = w := by
  rcases ho with rfl | rfl | rfl | rfl | rfl
  all_goals
    go_enter Tryz.func157, Tryz.ntmps157
    go_wp2_with fail
    go_ret2
    exact ⟨rfl, rfl⟩

/-- what waitsFor answers -/
def wtI (o : Option (Option Nat)) : Int := match o with | some (some k) => (k : Int) | _ => 0
def wtB (o : Option (Option Nat)) : Bool := match o with | some (some _) => true | _ => false
def wtC (o : Option (Option Nat)) : Nat := match o with | none => 2 | _ => 0
theorem ret_ibv {a b : Int} {p q : Bool} {x y : Value} (h : a = b) (h' : p = q) (h2 : x = y) : Ending.returned (.tuple #[.int .i64 a, .bool p, x]) = .returned (.tuple #[.int .i64 b, .bool q, y]) := by rw [h, h', h2]

set_option maxRecDepth 100000 in
set_option maxHeartbeats 3200000 in
theorem waitsFor_calls (aF aS aL : Addr) (ds : List Df) (g : List Ce) (f : Nat) (c v : Value) (w : World) (hE : Errs aF aS aL w) (hd : DIn w ds c) (hk : CIn w g v) (hg : graphB g ds.length = true) (hf : f < g.length)
    (hop : g[f].op = 6 ∨ g[f].op = 7 ∨ g[f].op = 8 ∨ g[f].op = 9 ∨ g[f].op = 10) (hkl : manyOf g[f].op ≤ g[f].kids.length) :
    Calls Tryz.prog 153 #[c, v, .int .i64 (f : Int)] w fun e w' => e = .returned (.tuple #[.int .i64 (wtI (waits (arsOf ds) g f)), .bool (wtB (waits (arsOf ds) g f)), errV aF aS aL (wtC (waits (arsOf ds) g f))]) ∧ Below w.heap.size w w' := by
  have HD : Hid (DIn w ds c) := hd
  have HK : Hid (CIn w g v) := hk
  have HG := mkHid hg
  have HE := mkHid hE
  obtain ⟨ad, cap, rfl, hl, hm, -⟩ := hk
  obtain ⟨adp, capp, rfl, hlp, hmp, -⟩ := hd
  have h400 : g.length ≤ 400 := graphB_len hg
  obtain ⟨mn, hmn⟩ : ∃ mn, mn = manyOf g[f].op := ⟨_, rfl⟩
  have hm2 : mn ≤ 2 := by rw [hmn]; unfold manyOf; split <;> omega
  obtain ⟨kd, hkd⟩ : ∃ kd, kd = kindIn g[f].op := ⟨_, rfl⟩
  have HOP : Hid (opAt g f = g[f].op) := opAt_at f hf
  have HWL : Hid (waits (arsOf ds) g f = waitsL (arsOf ds) g kd ((List.range mn).map (kidAt g f))) := by
    rw [Hid, waits_list (by rw [HOP.out]; exact hop), HOP.out, ← hmn, ← hkd]
  have HOO : Hid (∀ W : World, Calls Tryz.prog 157 #[.int .i64 g[f].op] W fun e w' => e = .returned (.tuple #[.int .i64 (mn : Int), .int .i64 kd]) ∧ W = w') := fun W => by rw [hmn, hkd]; exact (operandsOf_calls _ hop W).mono fun _ _ h => ⟨h.1, h.2.symm⟩
  have hml : mn ≤ g[f].kids.length := by rw [hmn]; exact hkl
  obtain ⟨bl, off, r, rfl, c0, c1, c2, -, -, hkk⟩ := HK.out.at f hf
  obtain ⟨adk, capk, rfl, hkc, hkm, -⟩ := id hkk
  have HKK := mkHid hkk
  have HBL : Hid (bl < w.heap.size) := cell_lt c0
  unfold maxLen at hm hmp hkm
  have hmlI : (mn : Int) ≤ (g[f].kids.length : Int) := by omega
  have hmcI : (mn : Int) ≤ (capk : Int) := by omega
  clear hg hE hop hkl hmn hkd c1 hkk
  go_enter Tryz.func153, Tryz.ntmps153
  go_wp2_with fail
  refine (HOO.out _).mono ?_
  rintro e w1 ⟨rfl, rfl⟩
  go_wp2_with fail
  go_loopw [32] (fun i wr => ∃ k : Nat, k ≤ mn ∧ i = .int .i64 k ∧ waits (arsOf ds) g f = waitsL (arsOf ds) g kd (((List.range mn).map (kidAt g f)).drop k) ∧ Below w.heap.size w wr) (fun i _ => mn - (intOf i).toNat)
  case atStart => exact ⟨0, Nat.zero_le _, rfl, by rw [List.drop_zero]; exact HWL.out, Below.refl _ _⟩
  case round =>
    obtain ⟨k, hkm2, rfl, hw, hb⟩ := hrel
    have HW := mkHid hw
    have HB := mkHid hb
    clear hw hb c0 c2
    by_cases hlt : k < mn
    · have hkk2 : k < g[f].kids.length := by omega
      obtain ⟨hke, hkl⟩ := kidAt_get HG.out f hf k hkk2
      obtain ⟨bl2, off2, rfl, d0w⟩ := HKK.out.at k hkk2
      rw [hke] at d0w
      have d0 := (HB.out.cell (p := ⟨bl2, off2 + k, none⟩) (cell_lt d0w)).trans d0w
      have HKL := mkHid hkl
      have HDR : Hid (((List.range mn).map (kidAt g f)).drop k = kidAt g f k :: ((List.range mn).map (kidAt g f)).drop (k + 1)) := by
        rw [Hid, List.drop_eq_getElem_cons (by simpa using hlt)]
        simp
      obtain ⟨kk, hkk3⟩ : ∃ kk, kk = kidAt g f k := ⟨_, rfl⟩
      rw [← hkk3] at d0 HKL HDR
      clear hke hkl d0w hkk3
      go_wp2_with fail
      refine (isValueCell_calls ds g kk _ _ wr (HD.out.next HB.out) (HK.out.next HB.out) HG.out HKL.out).mono ?_
      rintro e w2 ⟨rfl, hb2⟩
      have HB2 : Hid (Below w.heap.size w w2) := HB.out.trans (hb2.mono HB.out.size)
      clear hb2 d0
      cases hv : valB (arsOf ds) g kk with
      | false =>
        have HV : Hid (waits (arsOf ds) g f = some (some kk)) := by rw [Hid, HW.out, HDR.out, waitsL, wait_go hv]
        clear hv
        go_wp2_with fail
        go_ret3
        exact ⟨ret_ibv (by rw [HV.out]; rfl) (by rw [HV.out]; rfl) (by rw [HV.out]; rfl), HB2.out⟩
      | true =>
        obtain ⟨b, hbf⟩ := val_follow hv
        have HV0 := mkHid hv
        have HBF := mkHid hbf
        have hbl := (followN_lt HG.out _ _ _ HKL.out hbf).1
        clear hv hbf
        go_wp2_with fail
        refine (standsFor_calls g kk _ w2 (HK.out.next HB2.out) ⟨_, HG.out⟩ HKL.out).mono ?_
        rintro e w3 ⟨rfl, hb3⟩
        rw [HBF.out]
        have e1 : folO (some b) = (b : Int) := rfl
        have e2 : (some b).isSome = true := rfl
        rw [e1, e2]
        have HB3 : Hid (Below w.heap.size w w3) := HB2.out.trans (hb3.mono HB2.out.size)
        obtain ⟨bl6, off6, r6, he6, f0, -, -, -, -, -⟩ := (HK.out.next HB3.out).at b hbl
        cases he6
        have HOB : Hid (opAt g b = g[b].op) := opAt_at b hbl
        clear hb3
        by_cases h5 : g[b].op = kd
        · have HV : Hid (waits (arsOf ds) g f = waitsL (arsOf ds) g kd (((List.range mn).map (kidAt g f)).drop (k + 1))) := by rw [Hid, HW.out, HDR.out, waitsL, wait_ok HV0.out HBF.out (by rw [HOB.out]; exact h5)]
          have t5 : (g[b].op != kd) = false := by simp [h5]
          clear h5
          go_wp2_with fail
          go_roundw
          case rel => exact ⟨k + 1, by omega, by go_num, HV.out, HB3.out⟩
          case measure => simp [intOf]; omega
        · have HV : Hid (waits (arsOf ds) g f = none) := by rw [Hid, HW.out, HDR.out, waitsL, wait_stuck HV0.out HBF.out (by rw [HOB.out]; exact h5)]
          have t5 : (g[b].op != kd) = true := by simp [h5]
          have cS := (HE.out.next HB3.out).cS
          clear h5
          go_wp2_with fail
          go_quiet (fail)
          go_wp2_with fail
          go_ret3
          exact ⟨ret_ibv (by rw [HV.out]; rfl) (by rw [HV.out]; rfl) (by rw [HV.out]; rfl), below_drewN HB3.out _⟩
    · have HV : Hid (waits (arsOf ds) g f = some none) := by
        rw [Hid, HW.out, List.drop_of_length_le (by simp; omega)]; rfl
      go_wp2_with fail
      go_ret3
      exact ⟨ret_ibv (by rw [HV.out]; rfl) (by rw [HV.out]; rfl) (by rw [HV.out]; rfl), HB.out⟩

theorem waits_some {ars : List Int} {g : List Ce} {defs : Int} (hg : graphB g defs = true) {f kk : Nat} (hf : f < g.length) (hop : g[f].op = 6 ∨ g[f].op = 7 ∨ g[f].op = 8 ∨ g[f].op = 9 ∨ g[f].op = 10) (hm : manyOf g[f].op ≤ g[f].kids.length) (h : waits ars g f = some (some kk)) : kk < g.length ∧ valB ars g kk = false := by
  have e := opAt_at f hf
  rw [waits_list (by rw [e]; exact hop), e] at h
  obtain ⟨h1, h2⟩ := waitsL_some _ h
  simp only [List.mem_map, List.mem_range] at h1
  obtain ⟨j, hj, rfl⟩ := h1
  exact ⟨(kidAt_get hg f hf j (by omega)).2, h2⟩

/-- what redexFrom answers -/
theorem ret_iv {a b : Int} {x y : Value} (h : a = b) (h2 : x = y) : Ending.returned (.tuple #[.int .i64 a, x]) = .returned (.tuple #[.int .i64 b, y]) := by rw [h, h2]
set_option maxRecDepth 100000 in
set_option maxHeartbeats 3200000 in
theorem redexFrom_calls (aF aS aL : Addr) (ds : List Df) (g : List Ce) (a : Nat) (c v : Value) (w : World) (hE : Errs aF aS aL w) (hd : DIn w ds c) (hk : CIn w g v) (hg : graphB g ds.length = true) (hp : progB ds = true) (ha : a < g.length) (hv : valB (arsOf ds) g a = false) :
    Calls Tryz.prog 149 #[c, v, .int .i64 (a : Int)] w fun e w' => e = .returned (.tuple #[.int .i64 (rdI (redex (arsOf ds) g a)), errV aF aS aL (rdC (redex (arsOf ds) g a))]) ∧ Below w.heap.size w w' := by
  have HD : Hid (DIn w ds c) := hd
  have HK : Hid (CIn w g v) := hk
  have HG := mkHid hg
  have HP := mkHid hp
  have HE := mkHid hE
  have HV0 := mkHid hv
  obtain ⟨ad, cap, rfl, hl, hm, -⟩ := hk
  obtain ⟨adp, capp, rfl, hlp, hmp, -⟩ := hd
  have h400 : g.length ≤ 400 := graphB_len hg
  unfold maxLen at hm hmp
  clear hg hp hE hv
  go_enter Tryz.func149, Tryz.ntmps149
  go_wp2_with fail
  go_loopw [2, 18] (fun at' i wr => ∃ (k b : Nat), k ≤ g.length + 1 ∧ i = .int .i64 k ∧ at' = .int .i64 (b : Int) ∧ b < g.length ∧ valB (arsOf ds) g b = false ∧ redex (arsOf ds) g a = redexN (arsOf ds) g (g.length + 1 - k) b ∧ Below w.heap.size w wr) (fun _ i _ => g.length + 1 - (intOf i).toNat)
  case atStart => exact ⟨0, a, Nat.zero_le _, rfl, rfl, ha, HV0.out, rfl, Below.refl _ _⟩
  case round =>
    obtain ⟨k, b, hk1, rfl, rfl, hbl, hvb, hred, hb⟩ := hrel
    have HR := mkHid hred
    have HB := mkHid hb
    have HVB := mkHid hvb
    clear hred hb hvb
    by_cases hlt : k < g.length + 1
    · obtain ⟨m, hm3⟩ : ∃ m, g.length + 1 - k = m + 1 := ⟨g.length - k, by omega⟩
      have HM : Hid (g.length + 1 - (k + 1) = m) := by unfold Hid; omega
      have HR : Hid (redex (arsOf ds) g a = redexN (arsOf ds) g (m + 1) b) := by rw [← hm3]; exact HR.out
      clear hm3
      go_wp2_with fail
      refine (spineFrom_calls g b _ wr (HK.out.next HB.out) ⟨_, HG.out⟩ hbl).mono ?_
      rintro e w1 ⟨v1, rfl, hi1, hb1⟩
      have HB1 : Hid (Below w.heap.size w w1) := HB.out.trans (hb1.mono HB.out.size)
      have hlx : (spL (spine g b)).length ≤ 9223372036854775807 := by
        obtain ⟨ad2, cap2, rfl, l1, l2, -⟩ := hi1
        rw [plI_length] at l1
        unfold maxLen at l2
        omega
      have HI1 : Hid (IIn w1 (plI (spL (spine g b))) v1) := hi1.inn
      obtain ⟨ad2, cap2, rfl, -, -, -⟩ := hi1
      rw [plI_length] at HI1 ⊢
      clear hb1
      cases hs : spine g b with
      | none =>
        have HV : Hid (redex (arsOf ds) g a = none) := by rw [Hid, HR.out]; exact redexN_none hs
        have e1 : spF none = 0 := rfl
        have e2 : (none : Option (Nat × List Nat)).isSome = false := rfl
        have cS := (HE.out.next HB1.out).cS
        rw [e1, e2]
        clear hs
        go_wp2_with fail
        go_quiet (fail)
        go_wp2_with fail
        go_ret2
        exact ⟨ret_iv (by rw [HV.out]; rfl) (by rw [HV.out]; rfl), below_drewN HB1.out _⟩
      | some x =>
        obtain ⟨f, xs⟩ := x
        have hok := spine_ok HG.out hbl hs
        have hff : f < g.length := hok.1
        have HOK := mkHid hok
        have HS : Hid (spine g b = some (f, xs)) := hs
        have e1 : spF (some (f, xs)) = (f : Int) := rfl
        have e2 : (some (f, xs)).isSome = true := rfl
        have e3 : spL (some (f, xs)) = xs := rfl
        rw [hs, e3] at hlx
        rw [hs, e3] at HI1
        rw [e1, e2, e3]
        obtain ⟨bl, off, r, rfl, c0, c1, c2, -, -, hkk⟩ := (HK.out.next HB1.out).at f hff
        obtain ⟨adk, capk, rfl, -, -, -⟩ := id hkk
        have HOP : Hid (opAt g f = g[f].op) := opAt_at f hff
        clear hs hok hkk
        by_cases ho3 : g[f].op = 3
        · obtain ⟨nn, hn, hnl⟩ := glob_num HG.out f hff ho3
          have hnl' : nn < ds.length := by omega
          have h0 := prog_ar HP.out nn hnl'
          have hle := call_idx (n := nn) HS.out (by rw [HOP.out]; exact ho3) (by rw [numAt_at f hff]; exact hn) hnl' HVB.out
          obtain ⟨ar, har⟩ : ∃ ar : Nat, ds[nn].1 = (ar : Int) := ⟨ds[nn].1.toNat, by omega⟩
          have HV : Hid (redex (arsOf ds) g a = some (callAt f xs (ar : Int))) := by
            rw [Hid, HR.out, redexN_glob HS.out (by rw [HOP.out]; exact ho3), numAt_at f hff, hn, arOf_at ds nn hnl', har]
          have t3 : (g[f].op == 3) = true := by simp [ho3]
          obtain ⟨blp, offp, rp, rfl, d0w, d1, d2, d3, -⟩ := (HD.out.next HB1.out).at nn hnl'
          rw [hn] at c1
          rw [har] at d0w hle
          have hle2 : ar ≤ xs.length := by omega
          have d0 := old_cell d0w (.cells #[.int .i64 g[f].op, .int .i64 (nn : Int), .slice adk g[f].kids.length capk] 93)
          have HC : Hid (∀ W : World, Below w1.heap.size w1 W → Calls Tryz.prog 152 #[.int .i64 (f : Int), .slice ad2 xs.length cap2, .int .i64 (ar : Int)] W fun e w' => e = .returned (.int .i64 (callAt f xs (ar : Int) : Int)) ∧ W = w') := fun W hW => (callIn_calls f xs ar _ W (HI1.out.next hW) hle2).mono fun _ _ h => ⟨h.1, h.2.symm⟩
          clear ho3 hn d1 d2 d3 har h0 hle d0w
          go_wp2_with fail
          refine (HC.out _ (box_below _ _)).mono ?_
          rintro e w2 ⟨rfl, rfl⟩
          go_wp2_with fail
          go_ret2
          exact ⟨ret_iv (by rw [HV.out]; rfl) (by rw [HV.out]; rfl), HB1.out.alloc HB1.out.size _⟩
        have t3 : (g[f].op == 3) = false := by simp [ho3]
        by_cases ho25 : g[f].op = 2 ∨ g[f].op = 5
        · have HV : Hid (redex (arsOf ds) g a = none) := by rw [Hid, HR.out]; exact redexN_val HS.out (by rw [HOP.out]; exact ho25)
          have cS := (HE.out.next (HB1.out.alloc HB1.out.size (.cells #[.int .i64 g[f].op, .int .i64 g[f].num, .slice adk g[f].kids.length capk] 93))).cS
          rcases ho25 with ho2 | ho5
          · have t2 : (g[f].op == 2) = true := by simp [ho2]
            clear ho3 ho2
            go_wp2_with fail
            go_quiet (fail)
            go_wp2_with fail
            go_ret2
            exact ⟨ret_iv (by rw [HV.out]; rfl) (by rw [HV.out]; rfl), below_drewN (HB1.out.alloc HB1.out.size _) _⟩
          · have t2 : (g[f].op == 2) = false := by simp [ho5]
            have t5 : (g[f].op == 5) = true := by simp [ho5]
            clear ho3 ho5
            go_wp2_with fail
            go_quiet (fail)
            go_wp2_with fail
            go_ret2
            exact ⟨ret_iv (by rw [HV.out]; rfl) (by rw [HV.out]; rfl), below_drewN (HB1.out.alloc HB1.out.size _) _⟩
        have hkinds := op_kinds HG.out f hff (by rw [← HOP.out]; exact HOK.out.2.1) (by rw [← HOP.out]; exact HOK.out.2.2.1) (by omega) ho3 (by omega)
        have HRN : Hid (redex (arsOf ds) g a = (match waits (arsOf ds) g f with | none => none | some none => some f | some (some k) => redexN (arsOf ds) g m k)) := by rw [Hid, HR.out]; exact redexN_op HS.out (by rw [HOP.out]; exact ho3) (by rw [HOP.out]; omega) (by rw [HOP.out]; omega)
        have HKI := mkHid hkinds
        have hmany : manyOf g[f].op ≤ g[f].kids.length := by
          have h1 := hkinds.1
          have h2 := hkinds.2
          unfold manyOf
          split at h2 <;> (try split at h2) <;> split <;> omega
        have HMA := mkHid hmany
        have t2 : (g[f].op == 2) = false := by simp; omega
        have t5 : (g[f].op == 5) = false := by simp; omega
        have HB2 : Hid (Below w.heap.size w (w1.alloc (.cells #[.int .i64 g[f].op, .int .i64 g[f].num, .slice adk g[f].kids.length capk] 93))) := HB1.out.alloc HB1.out.size _
        clear ho3 ho25 hkinds hmany
        go_wp2_with fail
        refine (waitsFor_calls aF aS aL ds g f _ _ _ (HE.out.next HB2.out) (HD.out.next HB2.out) (HK.out.next HB2.out) HG.out hff HKI.out.1 HMA.out).mono ?_
        rintro e w3 ⟨rfl, hb3⟩
        have HB3 : Hid (Below w.heap.size w w3) := HB2.out.trans (hb3.mono HB2.out.size)
        clear hb3
        cases hw : waits (arsOf ds) g f with
        | none =>
          have HV : Hid (redex (arsOf ds) g a = none) := by rw [Hid, HRN.out, hw]
          have e4 : wtI none = 0 := rfl
          have e5 : wtB none = false := rfl
          have e6 : errV aF aS aL (wtC none) = .iface 192 (.pointer (some aS)) := rfl
          rw [e4, e5, e6]
          clear hw
          go_wp2_with fail
          go_ret2
          exact ⟨ret_iv (by rw [HV.out]; rfl) (by rw [HV.out]; rfl), HB3.out⟩
        | some o =>
          cases o with
          | none =>
            have HV : Hid (redex (arsOf ds) g a = some f) := by rw [Hid, HRN.out, hw]
            have e4 : wtI (some none) = 0 := rfl
            have e5 : wtB (some none) = false := rfl
            have e6 : errV aF aS aL (wtC (some none)) = .nilIface := rfl
            rw [e4, e5, e6]
            clear hw
            go_wp2_with fail
            go_ret2
            exact ⟨ret_iv (by rw [HV.out]; rfl) (by rw [HV.out]; rfl), HB3.out⟩
          | some kk =>
            have HV : Hid (redex (arsOf ds) g a = redexN (arsOf ds) g (g.length + 1 - (k + 1)) kk) := by rw [Hid, HRN.out, hw, HM.out]
            have HKV := mkHid (waits_some HG.out hff HKI.out.1 HMA.out hw)
            have e4 : wtI (some (some kk)) = (kk : Int) := rfl
            have e5 : wtB (some (some kk)) = true := rfl
            have e6 : errV aF aS aL (wtC (some (some kk))) = .nilIface := rfl
            rw [e4, e5, e6]
            clear hw
            go_wp2_with fail
            go_roundw
            case rel => exact ⟨k + 1, kk, by omega, by go_num, rfl, HKV.out.1, HKV.out.2, HV.out, HB3.out⟩
            case measure => simp [intOf]; omega
    · have HV : Hid (redex (arsOf ds) g a = none) := by
        have h0 : g.length + 1 - k = 0 := by omega
        rw [Hid, HR.out, h0]; rfl
      have cS := (HE.out.next HB.out).cS
      go_wp2_with fail
      go_quiet (fail)
      go_wp2_with fail
      go_ret2
      exact ⟨ret_iv (by rw [HV.out]; rfl) (by rw [HV.out]; rfl), below_drewN HB.out _⟩
end Go.Proofs.YtiipcgnkfhjpeaaGreatDoor
