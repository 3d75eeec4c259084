/-
  THE MODEL's l4Spine: the function of nested applications of a graph, and the cells of these.
-/
import Derived.Test.YtjpjikfmdaejeaaDoorMgExactNumberNeed9
import Derived.Test.YtjpjikfmdaejeaaDoorMgExactNumberNeed16
import Derived.Deep.LoopGhost
import Derived.Test.YtjpjikfmdaejeaaDoorMgExactNumberNeed8
import Derived.Test.YtjpjikfmdaejeaaDoorMgExactNumberNeed10
import Derived.Test.YtjpjikfmdaejeaaDoorMgExactNumberNeed14
namespace Go.Proofs.YtjpjikfmdaejeaaDoor
set_option linter.unusedVariables false
set_option linter.unusedSimpArgs false
open Go.RowKit

def spI (o : Option (Nat × List Nat)) : Int := match o with | some x => (x.1 : Int) | none => -1
/-- what l4Spine answers; of none, the cells are whatever -/
def SpineSaid (o : Option (Nat × List Nat)) (w : World) (e : Ending) (w' : World) : Prop :=
  ∃ (xs : List Nat) (v : Value), (∀ x, o = some x → xs = x.2) ∧ e = .returned (.tuple #[.int .i64 (spI o), v]) ∧ IntRow w' w.heap.size (plI xs) v ∧ Below w.heap.size w w'
/-- what SpineOf answers -/
def SpineOut (o : Option (Nat × List Nat)) (w : World) (e : Ending) (w' : World) : Prop :=
  ∃ v, e = .returned (.tuple #[.int .i64 (spF o), v, .bool o.isSome]) ∧ IntRow w' w.heap.size (plI (spL o)) v ∧ Below w.heap.size w w'
theorem SpRel.len_lt {g : List Ce} {a : Nat} {ws : List Nat} {b : Nat} (h : SpRel g a ws b) : ws.length ≤ g.length + 1 := h.len
theorem said_none {g : List Ce} {a : Nat} {w w' : World} {ws : List Nat} {v : Value} (h : spine g a = none) (hr : IntRow w' w.heap.size (plI ws) v) (hb : Below w.heap.size w w') : SpineSaid (spine g a) w (.returned (.tuple #[.int .i64 (-1), v])) w' := by
  rw [h]; exact ⟨ws, v, (fun _ h => by cases h), rfl, hr, hb⟩
theorem said_some {g : List Ce} {a f : Nat} {w w' : World} {ws : List Nat} {v : Value} (h : spine g a = some (f, ws)) (hr : IntRow w' w.heap.size (plI ws) v) (hb : Below w.heap.size w w') : SpineSaid (spine g a) w (.returned (.tuple #[.int .i64 (f : Int), v])) w' := by
  rw [h]; exact ⟨ws, v, (fun _ h => by cases h; rfl), rfl, hr, hb⟩

set_option maxRecDepth 100000 in
set_option maxHeartbeats 1600000 in
theorem l4Spine_calls (g : List Ce) (a : Nat) (v : Value) (w : World) (hk : CIn w g v) (hg : ∃ defs, graphB g defs = true) (ha : a < g.length) :
    Calls Tryd.prog 75 #[v, .int .i64 (a : Int)] w (SpineSaid (spine g a) w) := by
  have HK : Hid (CIn w g v) := hk
  obtain ⟨ad, cap, rfl, hl, hm, -⟩ := hk
  obtain ⟨defs, hg⟩ := hg
  have HG : Hid (graphB g defs = true) := hg
  have h400 : g.length ≤ 400 := graphB_len hg
  have H0 : Hid (Stk (w.alloc (.cells #[] 3)) w.heap.size [] (.slice (some ⟨w.heap.size, 0, none⟩) 0 0)) := ⟨rfl, Or.inr ⟨_, 0, _, rfl, Nat.le_refl _, Deep.blk_alloc_new _ _, Nat.le_refl _, by simp [maxLen], rfl, rfl⟩⟩
  unfold maxLen at hm
  clear hg
  go_enter Tryd.func75, Tryd.ntmps75
  go_wp2_with fail
  refine (l3Follow_calls g a _ _ (HK.out.next (box_below _ _)) ⟨defs, HG.out⟩ ha).mono ?_
  rintro e w1 ⟨rfl, hb1⟩
  rw [follow_enough HG.out a ha]
  have HB1 : Hid (Below w.heap.size w w1) := (box_below _ _).trans (hb1.mono (by rw [Deep.nblk_alloc]; omega))
  have HS1 : Hid (Stk w1 w.heap.size [] (.slice (some ⟨w.heap.size, 0, none⟩) 0 0)) := H0.out.keep fun k _ hk => hb1.block k hk
  clear hb1
  go_wp2_with fail
  go_loopg [6, 7] (g.length + 3) (fun k cs at' wr => ∃ (ws : List Nat) (b : Nat), Stk wr w.heap.size ws cs ∧ SpRel g a ws b ∧ at' = .int .i64 (folI (followN g g.length b)) ∧ g.length + 2 - ws.length < k ∧ Below w.heap.size w wr)
  case atStart => exact ⟨[], a, HS1.out, SpRel.start ha, rfl, by simp, HB1.out⟩
  case round =>
    obtain ⟨ws, b, hst, hsp, rfl, hms, hb⟩ := hrel
    have HS : Hid (Stk wr w.heap.size ws _) := hst
    have HR : Hid (SpRel g a ws b) := hsp
    have HB : Hid (Below w.heap.size w wr) := hb
    have hwl := hsp.len
    obtain ⟨adc, capc, rfl⟩ := hst.len
    clear hst hsp
    cases hf : followN g g.length b with
    | none =>
      have HV : Hid (spine g a = none) := by
        by_cases hl2 : ws.length ≤ g.length
        · exact HR.out.none hl2 hf
        · exact HR.out.out (by omega)
      have e1 : folI none = -1 := rfl
      rw [e1]
      clear hf hb
      by_cases hgt : g.length < ws.length
      · go_wp2_with fail
        go_ret2
        exact said_none HV.out (ws := []) (no_ints _ _ _ _ (by simp [maxLen])) (HB.out.alloc HB.out.size _)
      · go_wp2_with fail
        go_ret2
        exact said_none HV.out HS.out.row HB.out
    | some f =>
      have hfl := followN_lt HG.out _ _ _ HR.out.lt hf
      have hff : f < g.length := hfl.1
      have HF : Hid (followN g g.length b = some f) := hf
      have e1 : folI (some f) = (f : Int) := rfl
      rw [e1]
      obtain ⟨bl, off, r, rfl, c0w, c1w, c2w, -, -, hkk⟩ := HK.out.at f hff
      have hbl : bl < w.heap.size := cell_lt c0w
      have c0 := (hb.cell (p := ⟨bl, off + f * 3, none⟩) hbl).trans c0w
      have c2 := (hb.cell (p := ⟨bl, off + f * 3 + 2, none⟩) hbl).trans c2w
      clear hf hfl c0w c1w c2w
      by_cases ho : g[f].op = 4
      · have t1 : (g[f].op == 4) = true := by simp [ho]
        by_cases hgt : g.length < ws.length
        · have HV : Hid (spine g a = none) := HR.out.out hgt
          clear ho hb hkk
          go_wp2_with fail
          go_ret2
          exact said_none HV.out (ws := []) (no_ints _ _ _ _ (by simp [maxLen])) (HB.out.alloc HB.out.size _)
        · have hwl2 : ws.length ≤ g.length := by omega
          have h4 : opAt g f = 4 := by rw [opAt_at f hff]; exact ho
          have HR2 : Hid (SpRel g a (ws ++ [f]) (kidAt g f 0)) := HR.out.next HG.out hwl2 HF.out h4
          have hkl : 0 < g[f].kids.length := by
            have h1 := kids_count HG.out f hff
            rw [ho] at h1
            have e : cArity 4 = 2 := by decide
            omega
          obtain ⟨hk0, hk0l⟩ := kidAt_get HG.out f hff 0 hkl
          obtain ⟨ad2, cap2, rfl, hl2, hm2, -⟩ := id hkk
          obtain ⟨bl2, off2, rfl, d0w⟩ := hkk.at 0 hkl
          have d0 := (hb.cell (p := ⟨bl2, off2 + 0, none⟩) (cell_lt d0w)).trans d0w
          rw [hk0, Nat.add_zero] at d0
          have HKL : Hid (kidAt g f 0 < g.length) := hk0l
          have HC : Hid (wr.cell? ⟨bl, off + f * 3 + 2, none⟩ = some (.slice (some ⟨bl2, off2, none⟩) g[f].kids.length cap2)) := c2
          have HD : Hid (wr.cell? ⟨bl2, off2, none⟩ = some (.int .i64 (kidAt g f 0 : Int))) := d0
          have hbl2 : bl2 < w.heap.size := by have := cell_lt d0w; simpa using this
          have HS3 : Hid (Stk (wr.alloc (.cells #[.int .i64 (f : Int)] 3)) w.heap.size ws (.slice adc ws.length capc)) := HS.out.alloc _
          have HK3 : Hid (IIn (wr.alloc (.cells #[.int .i64 (f : Int)] 3)) [(f : Int)] (.slice (some ⟨wr.heap.size, 0, none⟩) 1 1)) := one_in wr f
          have HLO : Hid (w.heap.size ≤ (wr.alloc (.cells #[.int .i64 (f : Int)] 3)).heap.size) := by rw [Hid, Deep.nblk_alloc]; have := HB.out.size; omega
          have HOB : Hid (∀ j, (Value.slice adc ws.length capc).ownBlock = some j → w.heap.size ≤ j) := fun j hj => own_lo HS.out hj.symm
          have HZ : Hid (w.heap.size ≤ wr.heap.size) := HB.out.size
          clear ho hb hkk hk0 hk0l c2 d0 d0w hl2 hm2 h4
          go_wp2_with (at_builtin; go_must (refine wpList_push rfl _ _ rfl _ w.heap.size ws [f] (.slice adc ws.length capc) (.slice (some ⟨wr.heap.size, 0, none⟩) 1 1) rfl HS3.out rfl HK3.out rfl HLO.out (by simp; omega) ?_); go_must (intro v' w5 hst5 hg5); go_must (have HS5 : Hid (Stk w5 w.heap.size (ws ++ [f]) v') := hst5); go_must (have HN5 : Hid (∀ j, j < w.heap.size → w5.heap[j]? = wr.heap[j]?) := fun j hj => (hg5.block j (by have := HLO.out; omega) (fun e => by have := HOB.out j e.symm; omega)).trans (Deep.blk_alloc_lt _ _ _ (by have := HZ.out; omega))); go_must (have HB5 : Hid (Below w.heap.size w w5) := by have hb3 : Below w.heap.size w (wr.alloc (.cells #[.int .i64 (f : Int)] 3)) := HB.out.alloc HB.out.size _; exact ⟨by rw [hg5.os]; exact hb3.os, by rw [hg5.tape]; exact hb3.tape, by rw [hg5.output]; exact hb3.output, Nat.le_trans hb3.size hg5.size, fun j hj => (hg5.block j (by have := hb3.size; omega) (fun e => by have := HOB.out j e.symm; omega)).trans (hb3.block j hj)⟩); go_must (have c2 := (World.cell?_of_block (a := ⟨bl, off + f * 3 + 2, none⟩) (HN5.out bl hbl)).trans HC.out); go_must (have d0 := (World.cell?_of_block (a := ⟨bl2, off2, none⟩) (HN5.out bl2 hbl2)).trans HD.out); clear hst5 hg5 c0)
          refine (l3Follow_calls g (kidAt g f 0) _ _ (HK.out.next HB5.out) ⟨defs, HG.out⟩ HKL.out).mono ?_
          rintro e w6 ⟨rfl, hb6⟩
          rw [follow_enough HG.out _ HKL.out]
          have HB6 : Hid (Below w.heap.size w w6) := HB5.out.trans (hb6.mono HB5.out.size)
          have HS6 : Hid (Stk w6 w.heap.size (ws ++ [f]) v') := HS5.out.keep fun k _ hk => hb6.block k hk
          clear hb6 c2 d0
          go_wp2_with fail
          go_roundg (g.length + 2 - (ws ++ [f]).length + 1)
          case measure => rw [List.length_append]; simp; omega
          case rel => exact ⟨ws ++ [f], kidAt g f 0, HS6.out, HR2.out, rfl, by omega, HB6.out⟩
      · have t1 : (g[f].op == 4) = false := by simp [ho]
        have h4 : ¬ opAt g f = 4 := by rw [opAt_at f hff]; exact ho
        clear hkk hb
        by_cases hgt : g.length < ws.length
        · have HV : Hid (spine g a = none) := HR.out.out hgt
          clear ho h4
          go_wp2_with fail
          go_ret2
          exact said_none HV.out (ws := []) (no_ints _ _ _ _ (by simp [maxLen])) (HB.out.alloc HB.out.size _)
        · have HV : Hid (spine g a = some (f, ws)) := HR.out.fin (by omega) HF.out h4
          clear ho h4
          go_wp2_with fail
          go_ret2
          exact said_some HV.out HS.out.row HB.out

theorem spV_no {g : List Ce} {a : Int} (h : ¬ (graphB g 6 = true ∧ 0 ≤ a ∧ a < g.length)) : spV g a = none := by unfold spV; rw [if_neg h]
theorem spV_yes {g : List Ce} {a : Int} (h : graphB g 6 = true ∧ 0 ≤ a ∧ a < g.length) : spV g a = spine g a.toNat := by unfold spV; rw [if_pos h]
theorem out_none {o : Option (Nat × List Nat)} {w w' : World} {ad : Option Addr} {cap : Nat} (h : o = none) (hc : cap ≤ maxLen) (hb : Below w.heap.size w w') : SpineOut o w (.returned (.tuple #[.int .i64 0, .slice ad 0 cap, .bool false])) w' := by
  subst h; exact ⟨_, rfl, no_ints _ _ _ _ hc, hb⟩
theorem out_some {o : Option (Nat × List Nat)} {w w' : World} {f : Nat} {ws : List Nat} {v : Value} (h : o = some (f, ws)) (hr : IntRow w' w.heap.size (plI ws) v) (hb : Below w.heap.size w w') : SpineOut o w (.returned (.tuple #[.int .i64 (f : Int), v, .bool true])) w' := by
  subst h; exact ⟨_, rfl, hr, hb⟩

end Go.Proofs.YtjpjikfmdaejeaaDoor
/-
  THE MODEL's GraphValid AND FollowInd (l3Cell, GraphValid, l3Follow, FollowInd); nothing that was there is changed.
-/
namespace Go.Proofs.YtjpjikfmdaejeaaDoor
set_option linter.unusedVariables false
set_option linter.unusedSimpArgs false
open Go.RowKit

theorem cellB_var {cells defs : Int} {c : Ce} (h : c.op = 1) : cellB cells defs c = false := by
  unfold cellB fitsB; rw [h, ownB_var]; simp
theorem cellB_len {cells defs : Int} {c : Ce} (h : ¬ (c.kids.length : Int) = cArity c.op) : cellB cells defs c = false := by
  unfold cellB fitsB; rw [decide_eq_false h]; simp
theorem cellB_kid {cells defs : Int} {c : Ce} (k : Nat) (hk : k < c.kids.length) (h : isAt cells c.kids[k] = false) : cellB cells defs c = false := by
  unfold cellB; rw [allI_false_of _ _ k hk h]; simp
theorem cellB_all {cells defs : Int} {c : Ce} (h : (c.kids.length : Int) = cArity c.op) (ha : c.kids.all (isAt cells) = true) : cellB cells defs c = ownB c.op c.num 0 defs := by
  unfold cellB fitsB; rw [decide_eq_true h, ha]; simp
theorem all_end {α : Type} {p : α → Bool} {l : List α} {k : Nat} (h : (l.take k).all p = true) (e : l.length = k) : l.all p = true := by
  subst e; rwa [List.take_length] at h
theorem isAt_lo {cells k : Int} (h : k < 0) : isAt cells k = false := by unfold isAt; rw [decide_eq_false]; omega
theorem isAt_hi {cells k : Int} (h : ¬ k < cells) : isAt cells k = false := by unfold isAt; rw [decide_eq_false]; omega
theorem isAt_in {cells k : Int} (h0 : 0 ≤ k) (h : k < cells) : isAt cells k = true := by unfold isAt; rw [decide_eq_true]; exact ⟨h0, h⟩

theorem graphB_no {g : List Ce} {defs : Int} (h : ¬ ((g.length : Int) ≤ 400 ∧ 0 ≤ defs ∧ defs ≤ 6)) : graphB g defs = false := by unfold graphB; rw [decide_eq_false h]; rfl
theorem graphB_cellNo {g : List Ce} {defs : Int} (k : Nat) (hk : k < g.length) (h : cellB g.length defs g[k] = false) : graphB g defs = false := by
  unfold graphB; rw [allI_false_of _ _ k hk h]; simp
theorem graphB_yes {g : List Ce} {defs : Int} (h : (g.length : Int) ≤ 400 ∧ 0 ≤ defs ∧ defs ≤ 6) (ha : g.all (cellB g.length defs) = true) : graphB g defs = true := by
  unfold graphB; rw [decide_eq_true h, ha]; rfl

end Go.Proofs.YtjpjikfmdaejeaaDoor
/-
  THE MODEL's l4Right AND l4Value.
-/
namespace Go.Proofs.YtjpjikfmdaejeaaDoor
set_option linter.unusedVariables false
set_option linter.unusedSimpArgs false
open Go.RowKit

theorem dec_len {α : Type} (xs : List α) : ((xs.length : Int) == 0) = decide (xs.length = 0) := by
  cases xs with
  | nil => rfl
  | cons x xs => simp only [List.length_cons]; rw [decide_eq_false (by omega)]; exact beq_eq_false_iff_ne.2 (by omega)

set_option maxRecDepth 100000 in
set_option maxHeartbeats 1600000 in
theorem l4Value_calls (ds : List Df) (g : List Ce) (a : Nat) (c v : Value) (w : World) (hd : DIn w ds c) (hk : CIn w g v) (hg : graphB g ds.length = true) (ha : a < g.length) :
    Calls Tryd.prog 53 #[c, v, .int .i64 (a : Int)] w fun e w' => e = .returned (.bool (valB (arsOf ds) g a)) ∧ Below w.heap.size w w' := by
  have HD : Hid (DIn w ds c) := hd
  have HK : Hid (CIn w g v) := hk
  have HG : Hid (graphB g ds.length = true) := hg
  obtain ⟨ad, cap, rfl, hl, hm, -⟩ := hk
  obtain ⟨adp, capp, rfl, hlp, hmp, -⟩ := hd
  have h400 : g.length ≤ 400 := graphB_len hg
  unfold maxLen at hm hmp
  clear hg
  go_enter Tryd.func53, Tryd.ntmps53
  go_wp2_with fail
  refine (l4Spine_calls g a _ _ HK.out ⟨_, HG.out⟩ ha).mono ?_
  rintro e w1 ⟨xs, v1, hxs, rfl, hi1, hb1⟩
  have HB1 : Hid (Below w.heap.size w w1) := hb1
  have HXS : Hid (∀ x, spine g a = some x → xs = x.2) := hxs
  have hlx : xs.length ≤ 9223372036854775807 := by
    obtain ⟨ad2, cap2, rfl, l1, l2, -⟩ := hi1
    rw [plI_length] at l1
    unfold maxLen at l2
    omega
  obtain ⟨ad2, cap2, rfl, -, -, -⟩ := hi1
  rw [plI_length]
  clear hb1 hxs
  cases hs : spine g a with
  | none =>
    have HV : Hid (valB (arsOf ds) g a = false) := valB_none hs
    have e1 : spI none = -1 := rfl
    rw [e1]
    clear hs
    go_wp2_with fail
    go_ret
    exact ⟨ret_bool HV.out.symm, HB1.out⟩
  | some x =>
    obtain ⟨f, ws⟩ := x
    obtain rfl : xs = ws := HXS.out _ hs
    have hok := spine_ok HG.out ha hs
    have hff : f < g.length := hok.1
    have HS : Hid (spine g a = some (f, xs)) := hs
    have e1 : spI (some (f, xs)) = (f : Int) := rfl
    rw [e1]
    obtain ⟨bl, off, r, rfl, c0, c1, c2, -, -, -⟩ := (HK.out.next HB1.out).at f hff
    have HOP : Hid (opAt g f = g[f].op) := opAt_at f hff
    have hbn : ¬ ((f : Int) < 0) := by omega
    clear hs hok c2
    by_cases ho2 : g[f].op = 2
    · have HV : Hid (valB (arsOf ds) g a = decide (xs.length = 0)) := valB_num HS.out (Or.inl (by rw [HOP.out]; exact ho2))
      have t2 : (g[f].op == 2) = true := by simp [ho2]
      clear ho2
      go_wp2_with fail
      go_ret
      exact ⟨ret_bool (by rw [HV.out]; exact dec_len xs), HB1.out⟩
    have t2 : (g[f].op == 2) = false := by simp [ho2]
    by_cases ho5 : g[f].op = 5
    · have HV : Hid (valB (arsOf ds) g a = decide (xs.length = 0)) := valB_num HS.out (Or.inr (by rw [HOP.out]; exact ho5))
      have t5 : (g[f].op == 5) = true := by simp [ho5]
      clear ho2 ho5
      go_wp2_with fail
      go_ret
      exact ⟨ret_bool (by rw [HV.out]; exact dec_len xs), HB1.out⟩
    have t5 : (g[f].op == 5) = false := by simp [ho5]
    by_cases ho3 : g[f].op = 3
    · obtain ⟨n, hn, hnl⟩ := glob_num HG.out f hff ho3
      have hnl' : n < ds.length := by omega
      have HV : Hid (valB (arsOf ds) g a = decide ((xs.length : Int) < ds[n].1)) := by
        rw [Hid, valB_glob HS.out (by rw [HOP.out]; exact ho3), numAt_at f hff, hn, arOf_at ds n hnl']
      have t3 : (g[f].op == 3) = true := by simp [ho3]
      obtain ⟨blp, offp, rp, rfl, d0, d1, d2, d3, -⟩ := (HD.out.next HB1.out).at n hnl'
      rw [hn] at c1
      clear ho2 ho5 ho3 hn d1 d2 d3
      go_wp2_with fail
      go_ret
      exact ⟨ret_bool HV.out.symm, HB1.out⟩
    · have t3 : (g[f].op == 3) = false := by simp [ho3]
      have HV : Hid (valB (arsOf ds) g a = false) := valB_no HS.out (by rw [HOP.out]; exact ho2) (by rw [HOP.out]; exact ho5) (by rw [HOP.out]; exact ho3)
      clear ho2 ho5 ho3
      go_wp2_with fail
      go_ret
      exact ⟨ret_bool HV.out.symm, HB1.out⟩

theorem valO_no {ds : List Df} {g : List Ce} {a : Int} (h : rightB ds g a = false) : valO ds g a = false := by unfold valO; rw [h]; rfl
theorem valO_yes {ds : List Df} {g : List Ce} {a : Nat} (h : rightB ds g (a : Int) = true) : valO ds g (a : Int) = valB (arsOf ds) g a := by unfold valO; rw [h, Bool.true_and, Int.toNat_natCast]
end Go.Proofs.YtjpjikfmdaejeaaDoor
