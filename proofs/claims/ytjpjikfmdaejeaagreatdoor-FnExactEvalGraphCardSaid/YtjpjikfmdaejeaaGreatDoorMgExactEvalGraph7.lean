/-
  THE MODEL's l4Spine: the function of nested applications of a graph, and the cells of these.
-/
import Derived.Test.YtjpjikfmdaejeaaGreatDoorMgExactEvalGraph2
import Derived.Test.YtjpjikfmdaejeaaGreatDoorMgExactEvalGraph4
import Derived.Deep.LoopGhost
import Derived.Test.YtjpjikfmdaejeaaGreatDoorMgExactEvalGraph3
import Derived.Test.YtjpjikfmdaejeaaGreatDoorMgExactEvalGraph6
import Derived.Test.YtjpjikfmdaejeaaGreatDoorMgExactEvalGraph5
namespace Go.Proofs.YtjpjikfmdaejeaaGreatDoor
set_option linter.unusedVariables false
set_option linter.unusedSimpArgs false
open Go.RowKit

def spI (o : Option (Nat × List Nat)) : Int := match o with | some x => (x.1 : Int) | none => -1
/-- places, as numbers -/
def plI (ws : List Nat) : List Int := ws.map fun (a : Nat) => (a : Int)
theorem plI_length (ws : List Nat) : (plI ws).length = ws.length := by simp [plI]
/-- what l4Spine answers; of none, the cells are whatever -/
def SpineSaid (o : Option (Nat × List Nat)) (w : World) (e : Ending) (w' : World) : Prop :=
  ∃ (xs : List Nat) (v : Value), (∀ x, o = some x → xs = x.2) ∧ e = .returned (.tuple #[.int .i64 (spI o), v]) ∧ IntRow w' w.heap.size (plI xs) v ∧ Below w.heap.size w w'
/-- what SpineOf answers -/
def SpineOut (o : Option (Nat × List Nat)) (w : World) (e : Ending) (w' : World) : Prop :=
  ∃ v, e = .returned (.tuple #[.int .i64 (spF o), v, .bool o.isSome]) ∧ IntRow w' w.heap.size (plI (spL o)) v ∧ Below w.heap.size w w'
theorem SpRel.len_lt {g : List Ce} {a : Nat} {ws : List Nat} {b : Nat} (h : SpRel g a ws b) : ws.length ≤ g.length + 1 := h.len
theorem said_none {g : List Ce} {a : Nat} {w w' : World} {ws : List Nat} {v : Value} (h : spine g a = none) (hr : IntRow w' w.heap.size (plI ws) v) (hb : Below w.heap.size w w') : SpineSaid (spine g a) w (.returned (.tuple #[.int .i64 (-1), v])) w' := by
  rw [h]; exact ⟨ws, v, (fun _ h => by cases h), rfl, hr, hb⟩
theorem said_some {g : List Ce} {a f : Nat} {w w' : World} {ws : List Nat} {v : Value} (h : spine g a = some (f, ws)) (hr : IntRow w' w.heap.size (plI ws) v) (hb : Below w.heap.size w w') : SpineSaid (spine g a) w (.returned (.tuple #[.int .i64 (f : Int), v])) w' := by
  rw [h]; exact ⟨ws, v, (fun _ h => by cases h; rfl), rfl, hr, hb⟩

set_option maxRecDepth 100000 in
set_option maxHeartbeats 1600000 in
theorem l4Spine_calls (g : List Ce) (a : Nat) (v : Value) (w : World) (hk : CIn w g v) (hg : ∃ defs, graphB g defs = true) (ha : a < g.length) :
    Calls Tryz.prog 43 #[v, .int .i64 (a : Int)] w (SpineSaid (spine g a) w) := by
  have HK : Hid (CIn w g v) := hk
  obtain ⟨ad, cap, rfl, hl, hm, -⟩ := hk
  obtain ⟨defs, hg⟩ := hg
  have HG : Hid (graphB g defs = true) := hg
  have h400 : g.length ≤ 400 := graphB_len hg
  have H0 : Hid (Stk (w.alloc (.cells #[] 3)) w.heap.size [] (.slice (some ⟨w.heap.size, 0, none⟩) 0 0)) := ⟨rfl, Or.inr ⟨_, 0, _, rfl, Nat.le_refl _, Deep.blk_alloc_new _ _, Nat.le_refl _, by simp [maxLen], rfl, rfl⟩⟩
  unfold maxLen at hm
  clear hg
  go_enter Tryz.func43, Tryz.ntmps43
  go_wp2_with fail
  refine (l3Follow_calls g a _ _ (HK.out.next (box_below _ _)) ⟨defs, HG.out⟩ ha).mono ?_
  rintro e w1 ⟨rfl, hb1⟩
  rw [follow_enough HG.out a ha]
  have HB1 : Hid (Below w.heap.size w w1) := (box_below _ _).trans (hb1.mono (by rw [Deep.nblk_alloc]; omega))
  have HS1 : Hid (Stk w1 w.heap.size [] (.slice (some ⟨w.heap.size, 0, none⟩) 0 0)) := H0.out.keep fun k _ hk => hb1.block k hk
  clear hb1
  go_wp2_with fail
  go_loopg [6, 7] (g.length + 3) (fun k cs at' wr => ∃ (ws : List Nat) (b : Nat), Stk wr w.heap.size ws cs ∧ SpRel g a ws b ∧ at' = .int .i64 (folI (followN g g.length b)) ∧ g.length + 2 - ws.length < k ∧ Below w.heap.size w wr)
  case atStart => exact ⟨[], a, HS1.out, SpRel.start ha, rfl, by simp, HB1.out⟩
  case round =>
    obtain ⟨ws, b, hst, hsp, rfl, hms, hb⟩ := hrel
    have HS : Hid (Stk wr w.heap.size ws _) := hst
    have HR : Hid (SpRel g a ws b) := hsp
    have HB : Hid (Below w.heap.size w wr) := hb
    have hwl := hsp.len
    obtain ⟨adc, capc, rfl⟩ := hst.len
    clear hst hsp
    cases hf : followN g g.length b with
    | none =>
      have HV : Hid (spine g a = none) := by
        by_cases hl2 : ws.length ≤ g.length
        · exact HR.out.none hl2 hf
        · exact HR.out.out (by omega)
      have e1 : folI none = -1 := rfl
      rw [e1]
      clear hf hb
      by_cases hgt : g.length < ws.length
      · go_wp2_with fail
        go_ret2
        exact said_none HV.out (ws := []) (no_ints _ _ _ _ (by simp [maxLen])) (HB.out.alloc HB.out.size _)
      · go_wp2_with fail
        go_ret2
        exact said_none HV.out HS.out.row HB.out
    | some f =>
      have hfl := followN_lt HG.out _ _ _ HR.out.lt hf
      have hff : f < g.length := hfl.1
      have HF : Hid (followN g g.length b = some f) := hf
      have e1 : folI (some f) = (f : Int) := rfl
      rw [e1]
      obtain ⟨bl, off, r, rfl, c0w, c1w, c2w, -, -, hkk⟩ := HK.out.at f hff
      have hbl : bl < w.heap.size := cell_lt c0w
      have c0 := (hb.cell (p := ⟨bl, off + f * 3, none⟩) hbl).trans c0w
      have c2 := (hb.cell (p := ⟨bl, off + f * 3 + 2, none⟩) hbl).trans c2w
      clear hf hfl c0w c1w c2w
      by_cases ho : g[f].op = 4
      · have t1 : (g[f].op == 4) = true := by simp [ho]
        by_cases hgt : g.length < ws.length
        · have HV : Hid (spine g a = none) := HR.out.out hgt
          clear ho hb hkk
          go_wp2_with fail
          go_ret2
          exact said_none HV.out (ws := []) (no_ints _ _ _ _ (by simp [maxLen])) (HB.out.alloc HB.out.size _)
        · have hwl2 : ws.length ≤ g.length := by omega
          have h4 : opAt g f = 4 := by rw [opAt_at f hff]; exact ho
          have HR2 : Hid (SpRel g a (ws ++ [f]) (kidAt g f 0)) := HR.out.next HG.out hwl2 HF.out h4
          have hkl : 0 < g[f].kids.length := by
            have h1 := kids_count HG.out f hff
            rw [ho] at h1
            have e : cArity 4 = 2 := by decide
            omega
          obtain ⟨hk0, hk0l⟩ := kidAt_get HG.out f hff 0 hkl
          obtain ⟨ad2, cap2, rfl, hl2, hm2, -⟩ := id hkk
          obtain ⟨bl2, off2, rfl, d0w⟩ := hkk.at 0 hkl
          have d0 := (hb.cell (p := ⟨bl2, off2 + 0, none⟩) (cell_lt d0w)).trans d0w
          rw [hk0, Nat.add_zero] at d0
          have HKL : Hid (kidAt g f 0 < g.length) := hk0l
          have HC : Hid (wr.cell? ⟨bl, off + f * 3 + 2, none⟩ = some (.slice (some ⟨bl2, off2, none⟩) g[f].kids.length cap2)) := c2
          have HD : Hid (wr.cell? ⟨bl2, off2, none⟩ = some (.int .i64 (kidAt g f 0 : Int))) := d0
          have hbl2 : bl2 < w.heap.size := by have := cell_lt d0w; simpa using this
          have HS3 : Hid (Stk (wr.alloc (.cells #[.int .i64 (f : Int)] 3)) w.heap.size ws (.slice adc ws.length capc)) := HS.out.alloc _
          have HK3 : Hid (IIn (wr.alloc (.cells #[.int .i64 (f : Int)] 3)) [(f : Int)] (.slice (some ⟨wr.heap.size, 0, none⟩) 1 1)) := one_in wr f
          have HLO : Hid (w.heap.size ≤ (wr.alloc (.cells #[.int .i64 (f : Int)] 3)).heap.size) := by rw [Hid, Deep.nblk_alloc]; have := HB.out.size; omega
          have HOB : Hid (∀ j, (Value.slice adc ws.length capc).ownBlock = some j → w.heap.size ≤ j) := fun j hj => own_lo HS.out hj.symm
          have HZ : Hid (w.heap.size ≤ wr.heap.size) := HB.out.size
          clear ho hb hkk hk0 hk0l c2 d0 d0w hl2 hm2 h4
          go_wp2_with (at_builtin; go_must (refine wpList_push rfl _ _ rfl _ w.heap.size ws [f] (.slice adc ws.length capc) (.slice (some ⟨wr.heap.size, 0, none⟩) 1 1) rfl HS3.out rfl HK3.out rfl HLO.out (by simp; omega) ?_); go_must (intro v' w5 hst5 hg5); go_must (have HS5 : Hid (Stk w5 w.heap.size (ws ++ [f]) v') := hst5); go_must (have HN5 : Hid (∀ j, j < w.heap.size → w5.heap[j]? = wr.heap[j]?) := fun j hj => (hg5.block j (by have := HLO.out; omega) (fun e => by have := HOB.out j e.symm; omega)).trans (Deep.blk_alloc_lt _ _ _ (by have := HZ.out; omega))); go_must (have HB5 : Hid (Below w.heap.size w w5) := by have hb3 : Below w.heap.size w (wr.alloc (.cells #[.int .i64 (f : Int)] 3)) := HB.out.alloc HB.out.size _; exact ⟨by rw [hg5.os]; exact hb3.os, by rw [hg5.tape]; exact hb3.tape, by rw [hg5.output]; exact hb3.output, Nat.le_trans hb3.size hg5.size, fun j hj => (hg5.block j (by have := hb3.size; omega) (fun e => by have := HOB.out j e.symm; omega)).trans (hb3.block j hj)⟩); go_must (have c2 := (World.cell?_of_block (a := ⟨bl, off + f * 3 + 2, none⟩) (HN5.out bl hbl)).trans HC.out); go_must (have d0 := (World.cell?_of_block (a := ⟨bl2, off2, none⟩) (HN5.out bl2 hbl2)).trans HD.out); clear hst5 hg5 c0)
          refine (l3Follow_calls g (kidAt g f 0) _ _ (HK.out.next HB5.out) ⟨defs, HG.out⟩ HKL.out).mono ?_
          rintro e w6 ⟨rfl, hb6⟩
          rw [follow_enough HG.out _ HKL.out]
          have HB6 : Hid (Below w.heap.size w w6) := HB5.out.trans (hb6.mono HB5.out.size)
          have HS6 : Hid (Stk w6 w.heap.size (ws ++ [f]) v') := HS5.out.keep fun k _ hk => hb6.block k hk
          clear hb6 c2 d0
          go_wp2_with fail
          go_roundg (g.length + 2 - (ws ++ [f]).length + 1)
          case measure => rw [List.length_append]; simp; omega
          case rel => exact ⟨ws ++ [f], kidAt g f 0, HS6.out, HR2.out, rfl, by omega, HB6.out⟩
      · have t1 : (g[f].op == 4) = false := by simp [ho]
        have h4 : ¬ opAt g f = 4 := by rw [opAt_at f hff]; exact ho
        clear hkk hb
        by_cases hgt : g.length < ws.length
        · have HV : Hid (spine g a = none) := HR.out.out hgt
          clear ho h4
          go_wp2_with fail
          go_ret2
          exact said_none HV.out (ws := []) (no_ints _ _ _ _ (by simp [maxLen])) (HB.out.alloc HB.out.size _)
        · have HV : Hid (spine g a = some (f, ws)) := HR.out.fin (by omega) HF.out h4
          clear ho h4
          go_wp2_with fail
          go_ret2
          exact said_some HV.out HS.out.row HB.out

theorem spV_no {g : List Ce} {a : Int} (h : ¬ (graphB g 6 = true ∧ 0 ≤ a ∧ a < g.length)) : spV g a = none := by unfold spV; rw [if_neg h]
theorem spV_yes {g : List Ce} {a : Int} (h : graphB g 6 = true ∧ 0 ≤ a ∧ a < g.length) : spV g a = spine g a.toNat := by unfold spV; rw [if_pos h]
theorem out_none {o : Option (Nat × List Nat)} {w w' : World} {ad : Option Addr} {cap : Nat} (h : o = none) (hc : cap ≤ maxLen) (hb : Below w.heap.size w w') : SpineOut o w (.returned (.tuple #[.int .i64 0, .slice ad 0 cap, .bool false])) w' := by
  subst h; exact ⟨_, rfl, no_ints _ _ _ _ hc, hb⟩
theorem out_some {o : Option (Nat × List Nat)} {w w' : World} {f : Nat} {ws : List Nat} {v : Value} (h : o = some (f, ws)) (hr : IntRow w' w.heap.size (plI ws) v) (hb : Below w.heap.size w w') : SpineOut o w (.returned (.tuple #[.int .i64 (f : Int), v, .bool true])) w' := by
  subst h; exact ⟨_, rfl, hr, hb⟩

end Go.Proofs.YtjpjikfmdaejeaaGreatDoor
/-
  THE MODEL's GraphValid AND FollowInd (l3Cell, GraphValid, l3Follow, FollowInd); nothing that was there is changed.
-/
namespace Go.Proofs.YtjpjikfmdaejeaaGreatDoor
set_option linter.unusedVariables false
set_option linter.unusedSimpArgs false
open Go.RowKit

theorem cellB_var {cells defs : Int} {c : Ce} (h : c.op = 1) : cellB cells defs c = false := by
  unfold cellB fitsB; rw [h, ownB_var]; simp
theorem cellB_len {cells defs : Int} {c : Ce} (h : ¬ (c.kids.length : Int) = cArity c.op) : cellB cells defs c = false := by
  unfold cellB fitsB; rw [decide_eq_false h]; simp
theorem cellB_kid {cells defs : Int} {c : Ce} (k : Nat) (hk : k < c.kids.length) (h : isAt cells c.kids[k] = false) : cellB cells defs c = false := by
  unfold cellB; rw [allI_false_of _ _ k hk h]; simp
theorem cellB_all {cells defs : Int} {c : Ce} (h : (c.kids.length : Int) = cArity c.op) (ha : c.kids.all (isAt cells) = true) : cellB cells defs c = ownB c.op c.num 0 defs := by
  unfold cellB fitsB; rw [decide_eq_true h, ha]; simp
theorem all_end {α : Type} {p : α → Bool} {l : List α} {k : Nat} (h : (l.take k).all p = true) (e : l.length = k) : l.all p = true := by
  subst e; rwa [List.take_length] at h
theorem isAt_lo {cells k : Int} (h : k < 0) : isAt cells k = false := by unfold isAt; rw [decide_eq_false]; omega
theorem isAt_hi {cells k : Int} (h : ¬ k < cells) : isAt cells k = false := by unfold isAt; rw [decide_eq_false]; omega
theorem isAt_in {cells k : Int} (h0 : 0 ≤ k) (h : k < cells) : isAt cells k = true := by unfold isAt; rw [decide_eq_true]; exact ⟨h0, h⟩

set_option maxHeartbeats 800000 in
theorem l3Cell_var (c : Ce) (cells defs : Int) (v : Value) (w : World) (hk : IIn w c.kids v) (h1 : c.op = 1) :
    Calls Tryz.prog 61 #[.agg #[.int .i64 c.op, .int .i64 c.num, v], .int .i64 cells, .int .i64 defs] w fun e w' => e = .returned (.bool (cellB cells defs c)) ∧ Below w.heap.size w w' := by
  have HK : Hid (IIn w c.kids v) := hk
  obtain ⟨ad, cap, rfl, hl, hm, -⟩ := hk
  unfold maxLen at hm
  have HV : Hid (cellB cells defs c = false) := cellB_var h1
  have t1 : (c.op == 1) = true := by simpa using h1
  have t11 : (c.op == 11) = false := by simp [h1]
  clear h1
  go_enter Tryz.func61, Tryz.ntmps61
  go_wp2_with fail
  refine (l1Kids_below c.op _).mono ?_
  rintro e w1 ⟨rfl, hb⟩
  have HB : Hid (Below w.heap.size w w1) := (box_below _ _).trans (hb.mono (by rw [Deep.nblk_alloc]; omega))
  have hz : w.heap.size < w1.heap.size := by have := hb.size; rw [Deep.nblk_alloc] at this; omega
  have c0 := (hb.cell (p := ⟨w.heap.size, 0, none⟩) (by rw [Deep.nblk_alloc]; exact Nat.lt_succ_self _)).trans (box_cell w #[.int .i64 c.op, .int .i64 c.num, .slice ad c.kids.length cap] 58 0 _ rfl)
  have c1 := (hb.cell (p := ⟨w.heap.size, 1, none⟩) (by rw [Deep.nblk_alloc]; exact Nat.lt_succ_self _)).trans (box_cell w #[.int .i64 c.op, .int .i64 c.num, .slice ad c.kids.length cap] 58 1 _ rfl)
  have c2 := (hb.cell (p := ⟨w.heap.size, 2, none⟩) (by rw [Deep.nblk_alloc]; exact Nat.lt_succ_self _)).trans (box_cell w #[.int .i64 c.op, .int .i64 c.num, .slice ad c.kids.length cap] 58 2 _ rfl)
  clear hb
  go_wp2_with fail
  go_ret
  exact ⟨ret_bool HV.out.symm, HB.out⟩

set_option maxHeartbeats 800000 in
theorem l3Cell_ind_no (c : Ce) (cells defs : Int) (v : Value) (w : World) (hk : IIn w c.kids v) (h1 : c.op = 11) (hlen : ¬ (c.kids.length : Int) = cArity c.op) :
    Calls Tryz.prog 61 #[.agg #[.int .i64 c.op, .int .i64 c.num, v], .int .i64 cells, .int .i64 defs] w fun e w' => e = .returned (.bool (cellB cells defs c)) ∧ Below w.heap.size w w' := by
  have HK : Hid (IIn w c.kids v) := hk
  obtain ⟨ad, cap, rfl, hl, hm, -⟩ := hk
  unfold maxLen at hm
  have t1 : (c.op == 1) = false := by simp [h1]
  have t11 : (c.op == 11) = true := by simpa using h1
  have ha : cArity c.op = 1 := by unfold cArity; rw [if_pos h1]
  have HV : Hid (cellB cells defs c = false) := cellB_len hlen
  rw [ha] at hlen
  have t2 : ((c.kids.length : Int) != 1) = true := by simpa using hlen
  clear h1 hlen ha
  go_enter Tryz.func61, Tryz.ntmps61
  go_wp2_with fail
  refine (l1Kids_below c.op _).mono ?_
  rintro e w1 ⟨rfl, hb⟩
  have HB : Hid (Below w.heap.size w w1) := (box_below _ _).trans (hb.mono (by rw [Deep.nblk_alloc]; omega))
  have hz : w.heap.size < w1.heap.size := by have := hb.size; rw [Deep.nblk_alloc] at this; omega
  have c0 := (hb.cell (p := ⟨w.heap.size, 0, none⟩) (by rw [Deep.nblk_alloc]; exact Nat.lt_succ_self _)).trans (box_cell w #[.int .i64 c.op, .int .i64 c.num, .slice ad c.kids.length cap] 58 0 _ rfl)
  have c1 := (hb.cell (p := ⟨w.heap.size, 1, none⟩) (by rw [Deep.nblk_alloc]; exact Nat.lt_succ_self _)).trans (box_cell w #[.int .i64 c.op, .int .i64 c.num, .slice ad c.kids.length cap] 58 1 _ rfl)
  have c2 := (hb.cell (p := ⟨w.heap.size, 2, none⟩) (by rw [Deep.nblk_alloc]; exact Nat.lt_succ_self _)).trans (box_cell w #[.int .i64 c.op, .int .i64 c.num, .slice ad c.kids.length cap] 58 2 _ rfl)
  clear hb
  go_wp2_with fail
  go_ret
  exact ⟨ret_bool HV.out.symm, HB.out⟩

set_option maxHeartbeats 800000 in
theorem l3Cell_ind_ok (c : Ce) (cells defs : Int) (v : Value) (w : World) (hk : IIn w c.kids v) (h1 : c.op = 11) (hlen : (c.kids.length : Int) = cArity c.op) :
    Calls Tryz.prog 61 #[.agg #[.int .i64 c.op, .int .i64 c.num, v], .int .i64 cells, .int .i64 defs] w fun e w' => e = .returned (.bool (cellB cells defs c)) ∧ Below w.heap.size w w' := by
  have HK : Hid (IIn w c.kids v) := hk
  obtain ⟨ad, cap, rfl, hl, hm, -⟩ := hk
  unfold maxLen at hm
  have t1 : (c.op == 1) = false := by simp [h1]
  have t11 : (c.op == 11) = true := by simpa using h1
  have ha : cArity c.op = 1 := by unfold cArity; rw [if_pos h1]
  have t2 : ((c.kids.length : Int) != 1) = false := by rw [ha] at hlen; simpa using hlen
  clear h1 ha
  go_enter Tryz.func61, Tryz.ntmps61
  go_wp2_with fail
  refine (l1Kids_below c.op _).mono ?_
  rintro e w1 ⟨rfl, hb⟩
  have HB : Hid (Below w.heap.size w w1) := (box_below _ _).trans (hb.mono (by rw [Deep.nblk_alloc]; omega))
  have hz : w.heap.size < w1.heap.size := by have := hb.size; rw [Deep.nblk_alloc] at this; omega
  have c0 := (hb.cell (p := ⟨w.heap.size, 0, none⟩) (by rw [Deep.nblk_alloc]; exact Nat.lt_succ_self _)).trans (box_cell w #[.int .i64 c.op, .int .i64 c.num, .slice ad c.kids.length cap] 58 0 _ rfl)
  have c1 := (hb.cell (p := ⟨w.heap.size, 1, none⟩) (by rw [Deep.nblk_alloc]; exact Nat.lt_succ_self _)).trans (box_cell w #[.int .i64 c.op, .int .i64 c.num, .slice ad c.kids.length cap] 58 1 _ rfl)
  have c2 := (hb.cell (p := ⟨w.heap.size, 2, none⟩) (by rw [Deep.nblk_alloc]; exact Nat.lt_succ_self _)).trans (box_cell w #[.int .i64 c.op, .int .i64 c.num, .slice ad c.kids.length cap] 58 2 _ rfl)
  clear hb
  have HL : Hid ((c.kids.length : Int) = cArity c.op) := hlen
  clear hlen
  go_wp2_with fail
  go_loopw [8] (fun i wr => ∃ k : Nat, k ≤ c.kids.length ∧ i = .int .i64 k ∧ (c.kids.take k).all (isAt cells) = true ∧ Below w1.heap.size w1 wr) (fun i _ => c.kids.length - (intOf i).toNat)
  case atStart => exact ⟨0, Nat.zero_le _, rfl, by simp, Below.refl _ _⟩
  case round =>
    obtain ⟨k, hk, rfl, hall, hb⟩ := hrel
    have HA : Hid ((c.kids.take k).all (isAt cells) = true) := hall
    have HBW : Hid (Below w.heap.size w wr) := HB.out.trans (hb.mono (Nat.le_of_lt hz))
    have HBR : Hid (Below w1.heap.size w1 wr) := hb
    have e0 := (hb.cell (p := ⟨w.heap.size, 0, none⟩) hz).trans c0
    have e1 := (hb.cell (p := ⟨w.heap.size, 1, none⟩) hz).trans c1
    have e2 := (hb.cell (p := ⟨w.heap.size, 2, none⟩) hz).trans c2
    clear hall hb c0 c1 c2
    by_cases hlt : k < c.kids.length
    · obtain ⟨bl, off, rfl, d0⟩ := (HK.out.next HBW.out).at k hlt
      by_cases hneg : c.kids[k] < 0
      · have HV : Hid (cellB cells defs c = false) := cellB_kid k hlt (isAt_lo hneg)
        go_wp2_with fail
        go_ret
        exact ⟨ret_bool HV.out.symm, HBW.out⟩
      by_cases hhi : c.kids[k] < cells
      · have HA2 : Hid ((c.kids.take (k + 1)).all (isAt cells) = true) := by rw [Hid, allI_take_succ _ _ _ hlt, HA.out, isAt_in (by omega) hhi]; rfl
        go_wp2_with fail
        go_roundw
        case rel => exact ⟨k + 1, by omega, by go_num, HA2.out, HBR.out⟩
        case measure => simp [intOf]; omega
      · have HV : Hid (cellB cells defs c = false) := cellB_kid k hlt (isAt_hi hhi)
        go_wp2_with fail
        go_ret
        exact ⟨ret_bool HV.out.symm, HBW.out⟩
    · have hke : c.kids.length = k := by omega
      have HV : Hid (cellB cells defs c = ownB c.op c.num 0 defs) := cellB_all HL.out (all_end HA.out hke)
      clear hke
      go_wp2_with fail
      refine (l1Own_calls c.op c.num 0 defs _ _).mono ?_
      rintro e w3 ⟨rfl, hb3⟩
      have HB3 : Hid (Below w.heap.size w w3) := HBW.out.trans (hb3.mono HBW.out.size)
      clear hb3
      go_wp2_with fail
      go_ret
      exact ⟨ret_bool HV.out.symm, HB3.out⟩

set_option maxHeartbeats 800000 in
theorem l3Cell_other_no (c : Ce) (cells defs : Int) (v : Value) (w : World) (hk : IIn w c.kids v) (h1 : c.op ≠ 1) (h11 : c.op ≠ 11) (hlen : ¬ (c.kids.length : Int) = cArity c.op) :
    Calls Tryz.prog 61 #[.agg #[.int .i64 c.op, .int .i64 c.num, v], .int .i64 cells, .int .i64 defs] w fun e w' => e = .returned (.bool (cellB cells defs c)) ∧ Below w.heap.size w w' := by
  have HK : Hid (IIn w c.kids v) := hk
  obtain ⟨ad, cap, rfl, hl, hm, -⟩ := hk
  unfold maxLen at hm
  have t1 : (c.op == 1) = false := by simpa using h1
  have t11 : (c.op == 11) = false := by simpa using h11
  have ha : cArity c.op = arity c.op := by unfold cArity; rw [if_neg h11]
  have HV : Hid (cellB cells defs c = false) := cellB_len hlen
  rw [ha] at hlen
  have t2 : ((c.kids.length : Int) != arity c.op) = true := by simpa using hlen
  clear h1 h11 hlen ha
  go_enter Tryz.func61, Tryz.ntmps61
  go_wp2_with fail
  refine (l1Kids_below c.op _).mono ?_
  rintro e w1 ⟨rfl, hb⟩
  have HB : Hid (Below w.heap.size w w1) := (box_below _ _).trans (hb.mono (by rw [Deep.nblk_alloc]; omega))
  have hz : w.heap.size < w1.heap.size := by have := hb.size; rw [Deep.nblk_alloc] at this; omega
  have c0 := (hb.cell (p := ⟨w.heap.size, 0, none⟩) (by rw [Deep.nblk_alloc]; exact Nat.lt_succ_self _)).trans (box_cell w #[.int .i64 c.op, .int .i64 c.num, .slice ad c.kids.length cap] 58 0 _ rfl)
  have c1 := (hb.cell (p := ⟨w.heap.size, 1, none⟩) (by rw [Deep.nblk_alloc]; exact Nat.lt_succ_self _)).trans (box_cell w #[.int .i64 c.op, .int .i64 c.num, .slice ad c.kids.length cap] 58 1 _ rfl)
  have c2 := (hb.cell (p := ⟨w.heap.size, 2, none⟩) (by rw [Deep.nblk_alloc]; exact Nat.lt_succ_self _)).trans (box_cell w #[.int .i64 c.op, .int .i64 c.num, .slice ad c.kids.length cap] 58 2 _ rfl)
  clear hb
  go_wp2_with fail
  go_ret
  exact ⟨ret_bool HV.out.symm, HB.out⟩

set_option maxHeartbeats 800000 in
theorem l3Cell_other_ok (c : Ce) (cells defs : Int) (v : Value) (w : World) (hk : IIn w c.kids v) (h1 : c.op ≠ 1) (h11 : c.op ≠ 11) (hlen : (c.kids.length : Int) = cArity c.op) :
    Calls Tryz.prog 61 #[.agg #[.int .i64 c.op, .int .i64 c.num, v], .int .i64 cells, .int .i64 defs] w fun e w' => e = .returned (.bool (cellB cells defs c)) ∧ Below w.heap.size w w' := by
  have HK : Hid (IIn w c.kids v) := hk
  obtain ⟨ad, cap, rfl, hl, hm, -⟩ := hk
  unfold maxLen at hm
  have t1 : (c.op == 1) = false := by simpa using h1
  have t11 : (c.op == 11) = false := by simpa using h11
  have ha : cArity c.op = arity c.op := by unfold cArity; rw [if_neg h11]
  have t2 : ((c.kids.length : Int) != arity c.op) = false := by rw [ha] at hlen; simpa using hlen
  clear h1 h11 ha
  go_enter Tryz.func61, Tryz.ntmps61
  go_wp2_with fail
  refine (l1Kids_below c.op _).mono ?_
  rintro e w1 ⟨rfl, hb⟩
  have HB : Hid (Below w.heap.size w w1) := (box_below _ _).trans (hb.mono (by rw [Deep.nblk_alloc]; omega))
  have hz : w.heap.size < w1.heap.size := by have := hb.size; rw [Deep.nblk_alloc] at this; omega
  have c0 := (hb.cell (p := ⟨w.heap.size, 0, none⟩) (by rw [Deep.nblk_alloc]; exact Nat.lt_succ_self _)).trans (box_cell w #[.int .i64 c.op, .int .i64 c.num, .slice ad c.kids.length cap] 58 0 _ rfl)
  have c1 := (hb.cell (p := ⟨w.heap.size, 1, none⟩) (by rw [Deep.nblk_alloc]; exact Nat.lt_succ_self _)).trans (box_cell w #[.int .i64 c.op, .int .i64 c.num, .slice ad c.kids.length cap] 58 1 _ rfl)
  have c2 := (hb.cell (p := ⟨w.heap.size, 2, none⟩) (by rw [Deep.nblk_alloc]; exact Nat.lt_succ_self _)).trans (box_cell w #[.int .i64 c.op, .int .i64 c.num, .slice ad c.kids.length cap] 58 2 _ rfl)
  clear hb
  have HL : Hid ((c.kids.length : Int) = cArity c.op) := hlen
  clear hlen
  go_wp2_with fail
  go_loopw [8] (fun i wr => ∃ k : Nat, k ≤ c.kids.length ∧ i = .int .i64 k ∧ (c.kids.take k).all (isAt cells) = true ∧ Below w1.heap.size w1 wr) (fun i _ => c.kids.length - (intOf i).toNat)
  case atStart => exact ⟨0, Nat.zero_le _, rfl, by simp, Below.refl _ _⟩
  case round =>
    obtain ⟨k, hk, rfl, hall, hb⟩ := hrel
    have HA : Hid ((c.kids.take k).all (isAt cells) = true) := hall
    have HBW : Hid (Below w.heap.size w wr) := HB.out.trans (hb.mono (Nat.le_of_lt hz))
    have HBR : Hid (Below w1.heap.size w1 wr) := hb
    have e0 := (hb.cell (p := ⟨w.heap.size, 0, none⟩) hz).trans c0
    have e1 := (hb.cell (p := ⟨w.heap.size, 1, none⟩) hz).trans c1
    have e2 := (hb.cell (p := ⟨w.heap.size, 2, none⟩) hz).trans c2
    clear hall hb c0 c1 c2
    by_cases hlt : k < c.kids.length
    · obtain ⟨bl, off, rfl, d0⟩ := (HK.out.next HBW.out).at k hlt
      by_cases hneg : c.kids[k] < 0
      · have HV : Hid (cellB cells defs c = false) := cellB_kid k hlt (isAt_lo hneg)
        go_wp2_with fail
        go_ret
        exact ⟨ret_bool HV.out.symm, HBW.out⟩
      by_cases hhi : c.kids[k] < cells
      · have HA2 : Hid ((c.kids.take (k + 1)).all (isAt cells) = true) := by rw [Hid, allI_take_succ _ _ _ hlt, HA.out, isAt_in (by omega) hhi]; rfl
        go_wp2_with fail
        go_roundw
        case rel => exact ⟨k + 1, by omega, by go_num, HA2.out, HBR.out⟩
        case measure => simp [intOf]; omega
      · have HV : Hid (cellB cells defs c = false) := cellB_kid k hlt (isAt_hi hhi)
        go_wp2_with fail
        go_ret
        exact ⟨ret_bool HV.out.symm, HBW.out⟩
    · have hke : c.kids.length = k := by omega
      have HV : Hid (cellB cells defs c = ownB c.op c.num 0 defs) := cellB_all HL.out (all_end HA.out hke)
      clear hke
      go_wp2_with fail
      refine (l1Own_calls c.op c.num 0 defs _ _).mono ?_
      rintro e w3 ⟨rfl, hb3⟩
      have HB3 : Hid (Below w.heap.size w w3) := HBW.out.trans (hb3.mono HBW.out.size)
      clear hb3
      go_wp2_with fail
      go_ret
      exact ⟨ret_bool HV.out.symm, HB3.out⟩

theorem l3Cell_calls (c : Ce) (cells defs : Int) (v : Value) (w : World) (hk : IIn w c.kids v) :
    Calls Tryz.prog 61 #[.agg #[.int .i64 c.op, .int .i64 c.num, v], .int .i64 cells, .int .i64 defs] w fun e w' => e = .returned (.bool (cellB cells defs c)) ∧ Below w.heap.size w w' := by
  by_cases h1 : c.op = 1
  · exact l3Cell_var c cells defs v w hk h1
  by_cases h11 : c.op = 11
  · by_cases hlen : (c.kids.length : Int) = cArity c.op
    · exact l3Cell_ind_ok c cells defs v w hk h11 hlen
    · exact l3Cell_ind_no c cells defs v w hk h11 hlen
  · by_cases hlen : (c.kids.length : Int) = cArity c.op
    · exact l3Cell_other_ok c cells defs v w hk h1 h11 hlen
    · exact l3Cell_other_no c cells defs v w hk h1 h11 hlen

theorem graphB_no {g : List Ce} {defs : Int} (h : ¬ ((g.length : Int) ≤ 400 ∧ 0 ≤ defs ∧ defs ≤ 6)) : graphB g defs = false := by unfold graphB; rw [decide_eq_false h]; rfl
theorem graphB_cellNo {g : List Ce} {defs : Int} (k : Nat) (hk : k < g.length) (h : cellB g.length defs g[k] = false) : graphB g defs = false := by
  unfold graphB; rw [allI_false_of _ _ k hk h]; simp
theorem graphB_yes {g : List Ce} {defs : Int} (h : (g.length : Int) ≤ 400 ∧ 0 ≤ defs ∧ defs ≤ 6) (ha : g.all (cellB g.length defs) = true) : graphB g defs = true := by
  unfold graphB; rw [decide_eq_true h, ha]; rfl

set_option maxHeartbeats 800000 in
theorem specGraph_calls (g : List Ce) (defs : Int) (v : Value) (w : World) (hk : CIn w g v) :
    Calls Tryz.prog 42 #[v, .int .i64 defs] w fun e w' => e = .returned (.bool (graphB g defs)) ∧ Below w.heap.size w w' := by
  have HK : Hid (CIn w g v) := hk
  obtain ⟨ad, cap, rfl, hl, hm, -⟩ := hk
  unfold maxLen at hm
  by_cases hlim : (g.length : Int) ≤ 400 ∧ 0 ≤ defs ∧ defs ≤ 6
  · have HLM : Hid ((g.length : Int) ≤ 400 ∧ 0 ≤ defs ∧ defs ≤ 6) := hlim
    obtain ⟨l1, l2, l3⟩ := hlim
    go_enter Tryz.func42, Tryz.ntmps42
    go_wp2_with fail
    go_loopw [5] (fun i wr => ∃ k : Nat, k ≤ g.length ∧ i = .int .i64 k ∧ (g.take k).all (cellB g.length defs) = true ∧ Below w.heap.size w wr) (fun i _ => g.length - (intOf i).toNat)
    case atStart => exact ⟨0, Nat.zero_le _, rfl, by simp, Below.refl _ _⟩
    case round =>
      obtain ⟨k, hk, rfl, hall, hb⟩ := hrel
      have HA : Hid ((g.take k).all (cellB g.length defs) = true) := hall
      have HB : Hid (Below w.heap.size w wr) := hb
      clear hall hb
      by_cases hlt : k < g.length
      · obtain ⟨bl, off, r, rfl, c0, c1, c2, -, -, hkk⟩ := (HK.out.next HB.out).at k hlt
        have HKK : Hid (IIn wr g[k].kids r) := hkk
        clear hkk
        go_wp2_with fail
        refine (l3Cell_calls g[k] _ defs r _ HKK.out).mono ?_
        rintro e w1 ⟨rfl, hb1⟩
        have HB1 : Hid (Below w.heap.size w w1) := HB.out.trans (hb1.mono HB.out.size)
        clear hb1 c0 c1 c2
        cases hc : cellB (g.length : Int) defs g[k] with
        | false =>
          have HV : Hid (graphB g defs = false) := graphB_cellNo k hlt hc
          clear hc
          go_wp2_with fail
          go_ret
          exact ⟨ret_bool HV.out.symm, HB1.out⟩
        | true =>
          have HA2 : Hid ((g.take (k + 1)).all (cellB g.length defs) = true) := by rw [Hid, allI_take_succ _ _ _ hlt, HA.out, hc]; rfl
          clear hc
          go_wp2_with fail
          go_roundw
          case rel => exact ⟨k + 1, by omega, by go_num, HA2.out, HB1.out⟩
          case measure => simp [intOf]; omega
      · have hke : g.length = k := by omega
        have HV : Hid (graphB g defs = true) := graphB_yes HLM.out (all_end HA.out hke)
        clear hke
        go_wp2_with fail
        go_ret
        exact ⟨ret_bool HV.out.symm, HB.out⟩
  · have HV : Hid (graphB g defs = false) := graphB_no hlim
    by_cases l1 : (g.length : Int) ≤ 400
    · by_cases l2 : 0 ≤ defs
      · have l3 : ¬ defs ≤ 6 := fun h => hlim ⟨l1, l2, h⟩
        clear hlim
        go_enter Tryz.func42, Tryz.ntmps42
        go_wp2_with fail
        go_ret
        exact ⟨ret_bool HV.out.symm, Below.refl _ _⟩
      · clear hlim
        go_enter Tryz.func42, Tryz.ntmps42
        go_wp2_with fail
        go_ret
        exact ⟨ret_bool HV.out.symm, Below.refl _ _⟩
    · clear hlim
      go_enter Tryz.func42, Tryz.ntmps42
      go_wp2_with fail
      go_ret
      exact ⟨ret_bool HV.out.symm, Below.refl _ _⟩
end Go.Proofs.YtjpjikfmdaejeaaGreatDoor
/-
  THE MODEL's l4Right AND l4Value.
-/
namespace Go.Proofs.YtjpjikfmdaejeaaGreatDoor
set_option linter.unusedVariables false
set_option linter.unusedSimpArgs false
open Go.RowKit

theorem dec_len {α : Type} (xs : List α) : ((xs.length : Int) == 0) = decide (xs.length = 0) := by
  cases xs with
  | nil => rfl
  | cons x xs => simp only [List.length_cons]; rw [decide_eq_false (by omega)]; exact beq_eq_false_iff_ne.2 (by omega)

set_option maxRecDepth 100000 in
set_option maxHeartbeats 1600000 in
theorem l4Value_calls (ds : List Df) (g : List Ce) (a : Nat) (c v : Value) (w : World) (hd : DIn w ds c) (hk : CIn w g v) (hg : graphB g ds.length = true) (ha : a < g.length) :
    Calls Tryz.prog 21 #[c, v, .int .i64 (a : Int)] w fun e w' => e = .returned (.bool (valB (arsOf ds) g a)) ∧ Below w.heap.size w w' := by
  have HD : Hid (DIn w ds c) := hd
  have HK : Hid (CIn w g v) := hk
  have HG : Hid (graphB g ds.length = true) := hg
  obtain ⟨ad, cap, rfl, hl, hm, -⟩ := hk
  obtain ⟨adp, capp, rfl, hlp, hmp, -⟩ := hd
  have h400 : g.length ≤ 400 := graphB_len hg
  unfold maxLen at hm hmp
  clear hg
  go_enter Tryz.func21, Tryz.ntmps21
  go_wp2_with fail
  refine (l4Spine_calls g a _ _ HK.out ⟨_, HG.out⟩ ha).mono ?_
  rintro e w1 ⟨xs, v1, hxs, rfl, hi1, hb1⟩
  have HB1 : Hid (Below w.heap.size w w1) := hb1
  have HXS : Hid (∀ x, spine g a = some x → xs = x.2) := hxs
  have hlx : xs.length ≤ 9223372036854775807 := by
    obtain ⟨ad2, cap2, rfl, l1, l2, -⟩ := hi1
    rw [plI_length] at l1
    unfold maxLen at l2
    omega
  obtain ⟨ad2, cap2, rfl, -, -, -⟩ := hi1
  rw [plI_length]
  clear hb1 hxs
  cases hs : spine g a with
  | none =>
    have HV : Hid (valB (arsOf ds) g a = false) := valB_none hs
    have e1 : spI none = -1 := rfl
    rw [e1]
    clear hs
    go_wp2_with fail
    go_ret
    exact ⟨ret_bool HV.out.symm, HB1.out⟩
  | some x =>
    obtain ⟨f, ws⟩ := x
    obtain rfl : xs = ws := HXS.out _ hs
    have hok := spine_ok HG.out ha hs
    have hff : f < g.length := hok.1
    have HS : Hid (spine g a = some (f, xs)) := hs
    have e1 : spI (some (f, xs)) = (f : Int) := rfl
    rw [e1]
    obtain ⟨bl, off, r, rfl, c0, c1, c2, -, -, -⟩ := (HK.out.next HB1.out).at f hff
    have HOP : Hid (opAt g f = g[f].op) := opAt_at f hff
    have hbn : ¬ ((f : Int) < 0) := by omega
    clear hs hok c2
    by_cases ho2 : g[f].op = 2
    · have HV : Hid (valB (arsOf ds) g a = decide (xs.length = 0)) := valB_num HS.out (Or.inl (by rw [HOP.out]; exact ho2))
      have t2 : (g[f].op == 2) = true := by simp [ho2]
      clear ho2
      go_wp2_with fail
      go_ret
      exact ⟨ret_bool (by rw [HV.out]; exact dec_len xs), HB1.out⟩
    have t2 : (g[f].op == 2) = false := by simp [ho2]
    by_cases ho5 : g[f].op = 5
    · have HV : Hid (valB (arsOf ds) g a = decide (xs.length = 0)) := valB_num HS.out (Or.inr (by rw [HOP.out]; exact ho5))
      have t5 : (g[f].op == 5) = true := by simp [ho5]
      clear ho2 ho5
      go_wp2_with fail
      go_ret
      exact ⟨ret_bool (by rw [HV.out]; exact dec_len xs), HB1.out⟩
    have t5 : (g[f].op == 5) = false := by simp [ho5]
    by_cases ho3 : g[f].op = 3
    · obtain ⟨n, hn, hnl⟩ := glob_num HG.out f hff ho3
      have hnl' : n < ds.length := by omega
      have HV : Hid (valB (arsOf ds) g a = decide ((xs.length : Int) < ds[n].1)) := by
        rw [Hid, valB_glob HS.out (by rw [HOP.out]; exact ho3), numAt_at f hff, hn, arOf_at ds n hnl']
      have t3 : (g[f].op == 3) = true := by simp [ho3]
      obtain ⟨blp, offp, rp, rfl, d0, d1, d2, d3, -⟩ := (HD.out.next HB1.out).at n hnl'
      rw [hn] at c1
      clear ho2 ho5 ho3 hn d1 d2 d3
      go_wp2_with fail
      go_ret
      exact ⟨ret_bool HV.out.symm, HB1.out⟩
    · have t3 : (g[f].op == 3) = false := by simp [ho3]
      have HV : Hid (valB (arsOf ds) g a = false) := valB_no HS.out (by rw [HOP.out]; exact ho2) (by rw [HOP.out]; exact ho5) (by rw [HOP.out]; exact ho3)
      clear ho2 ho5 ho3
      go_wp2_with fail
      go_ret
      exact ⟨ret_bool HV.out.symm, HB1.out⟩

set_option maxHeartbeats 1600000 in
theorem l4Right_calls (ds : List Df) (g : List Ce) (a : Int) (c v : Value) (w : World) (hd : DIn w ds c) (hk : CIn w g v) :
    Calls Tryz.prog 20 #[c, v, .int .i64 a] w fun e w' => e = .returned (.bool (rightB ds g a)) ∧ Below w.heap.size w w' := by
  have HD : Hid (DIn w ds c) := hd
  have HK : Hid (CIn w g v) := hk
  obtain ⟨ad, cap, rfl, hl, hm, -⟩ := hk
  obtain ⟨adp, capp, rfl, hlp, hmp, -⟩ := hd
  unfold maxLen at hm hmp
  go_enter Tryz.func20, Tryz.ntmps20
  go_wp2_with fail
  refine (specProg_calls ds _ _ HD.out).mono ?_
  rintro e w1 ⟨rfl, hb1⟩
  have HB1 : Hid (Below w.heap.size w w1) := hb1
  clear hb1
  cases hp : progB ds with
  | false =>
    have HV : Hid (rightB ds g a = false) := by rw [Hid, rightB, hp]; rfl
    clear hp
    go_wp2_with fail
    go_ret
    exact ⟨ret_bool HV.out.symm, HB1.out⟩
  | true =>
    have HP : Hid (progB ds = true) := hp
    clear hp
    go_wp2_with fail
    refine (specGraph_calls g ds.length _ _ (HK.out.next HB1.out)).mono ?_
    rintro e w2 ⟨rfl, hb2⟩
    have HB2 : Hid (Below w.heap.size w w2) := HB1.out.trans (hb2.mono HB1.out.size)
    clear hb2
    cases hg : graphB g ds.length with
    | false =>
      have HV : Hid (rightB ds g a = false) := by rw [Hid, rightB, hg, Bool.false_and, Bool.and_false]
      clear hg
      go_wp2_with fail
      go_ret
      exact ⟨ret_bool HV.out.symm, HB2.out⟩
    | true =>
      have HV : Hid (rightB ds g a = isAt g.length a) := by rw [Hid, rightB, hg, HP.out, Bool.true_and, Bool.true_and]
      clear hg
      by_cases h0 : a < 0
      · have HI : Hid (isAt g.length a = false) := isAt_lo h0
        go_wp2_with fail
        go_ret
        exact ⟨ret_bool (by rw [HV.out, HI.out]; first | done | rfl | (simp; omega)), HB2.out⟩
      by_cases h1 : (g.length : Int) ≤ a
      · have HI : Hid (isAt g.length a = false) := isAt_hi (by omega)
        go_wp2_with fail
        go_ret
        exact ⟨ret_bool (by rw [HV.out, HI.out]; first | done | rfl | (simp; omega)), HB2.out⟩
      have HI : Hid (isAt g.length a = true) := isAt_in (by omega) (by omega)
      go_wp2_with fail
      go_ret
      exact ⟨ret_bool (by rw [HV.out, HI.out]; first | done | rfl | (simp; omega)), HB2.out⟩

theorem valO_no {ds : List Df} {g : List Ce} {a : Int} (h : rightB ds g a = false) : valO ds g a = false := by unfold valO; rw [h]; rfl
theorem valO_yes {ds : List Df} {g : List Ce} {a : Nat} (h : rightB ds g (a : Int) = true) : valO ds g (a : Int) = valB (arsOf ds) g a := by unfold valO; rw [h, Bool.true_and, Int.toNat_natCast]
end Go.Proofs.YtjpjikfmdaejeaaGreatDoor
/-
  THE PROGRAM's spineFrom.
-/
namespace Go.Proofs.YtjpjikfmdaejeaaGreatDoor
set_option linter.unusedVariables false
set_option linter.unusedSimpArgs false
open Go.RowKit

set_option maxRecDepth 100000 in
set_option maxHeartbeats 1600000 in
theorem spineFrom_calls (g : List Ce) (a : Nat) (v : Value) (w : World) (hk : CIn w g v) (hg : ∃ defs, graphB g defs = true) (ha : a < g.length) :
    Calls Tryz.prog 53 #[v, .int .i64 (a : Int)] w (SpineOut (spine g a) w) := by
  have HK : Hid (CIn w g v) := hk
  obtain ⟨ad, cap, rfl, hl, hm, -⟩ := hk
  obtain ⟨defs, hg⟩ := hg
  have HG : Hid (graphB g defs = true) := hg
  have h400 : g.length ≤ 400 := graphB_len hg
  have H0 : Hid (Stk w w.heap.size [] (.slice none 0 0)) := World.ownsRow_nil _ _ _ _
  unfold maxLen at hm
  clear hg
  go_enter Tryz.func53, Tryz.ntmps53
  go_wp2_with fail
  go_loopg [1, 7] (g.length + 3) (fun k at' cs wr => ∃ (ws : List Nat) (b : Nat), Stk wr w.heap.size ws cs ∧ SpRel g a ws b ∧ at' = .int .i64 (b : Int) ∧ g.length + 2 - ws.length < k ∧ Below w.heap.size w wr)
  case atStart => exact ⟨[], a, H0.out, SpRel.start ha, rfl, by simp, Below.refl _ _⟩
  case round =>
    obtain ⟨ws, b, hst, hsp, rfl, hms, hb⟩ := hrel
    have HS : Hid (Stk wr w.heap.size ws _) := hst
    have HR : Hid (SpRel g a ws b) := hsp
    have HB : Hid (Below w.heap.size w wr) := hb
    have hwl := hsp.len
    have hbl0 := hsp.lt
    obtain ⟨adc, capc, rfl⟩ := hst.len
    clear hst hsp hb
    by_cases hgt : g.length < ws.length
    · have HV : Hid (spine g a = none) := HR.out.out hgt
      go_wp2_with fail
      go_ret3
      exact out_none HV.out (by simp [maxLen]) HB.out
    have hwl2 : ws.length ≤ g.length := by omega
    go_wp2_with fail
    refine (standsFor_calls g b _ _ (HK.out.next HB.out) ⟨defs, HG.out⟩ HR.out.lt).mono ?_
    rintro e w1 ⟨rfl, hb1⟩
    have HB1 : Hid (Below w.heap.size w w1) := HB.out.trans (hb1.mono HB.out.size)
    have HS1 : Hid (Stk w1 w.heap.size ws (.slice adc ws.length capc)) := HS.out.keep fun k _ hk => hb1.block k hk
    clear hb1
    cases hf : followN g g.length b with
    | none =>
      have HV : Hid (spine g a = none) := HR.out.none hwl2 hf
      have e1 : folO none = 0 := rfl
      have e2 : (none : Option Nat).isSome = false := rfl
      rw [e1, e2]
      clear hf
      go_wp2_with fail
      go_ret3
      exact out_none HV.out (by simp [maxLen]) HB1.out
    | some f =>
      have hff : f < g.length := (followN_lt HG.out _ _ _ HR.out.lt hf).1
      have HF : Hid (followN g g.length b = some f) := hf
      have e1 : folO (some f) = (f : Int) := rfl
      have e2 : (some f).isSome = true := rfl
      rw [e1, e2]
      obtain ⟨bl, off, r, rfl, c0, c1, c2, -, -, hkk⟩ := (HK.out.next HB1.out).at f hff
      clear hf c1
      by_cases ho : g[f].op = 4
      · have t1 : (g[f].op != 4) = false := by simp [ho]
        have h4 : opAt g f = 4 := by rw [opAt_at f hff]; exact ho
        have HR2 : Hid (SpRel g a (ws ++ [f]) (kidAt g f 0)) := HR.out.next HG.out hwl2 HF.out h4
        have hkl : 0 < g[f].kids.length := by
          have h1 := kids_count HG.out f hff
          rw [ho] at h1
          have e : cArity 4 = 2 := by decide
          omega
        obtain ⟨hk0, hk0l⟩ := kidAt_get HG.out f hff 0 hkl
        obtain ⟨ad2, cap2, rfl, hl2, hm2, -⟩ := id hkk
        obtain ⟨bl2, off2, rfl, d0⟩ := hkk.at 0 hkl
        rw [hk0, Nat.add_zero] at d0
        have HC : Hid (w1.cell? ⟨bl, off + f * 3 + 2, none⟩ = some (.slice (some ⟨bl2, off2, none⟩) g[f].kids.length cap2)) := c2
        have HD : Hid (w1.cell? ⟨bl2, off2, none⟩ = some (.int .i64 (kidAt g f 0 : Int))) := d0
        have hbl : bl < w1.heap.size := cell_lt c2
        have hbl2 : bl2 < w1.heap.size := cell_lt d0
        have HS3 : Hid (Stk (w1.alloc (.cells #[.int .i64 (f : Int)] 3)) w.heap.size ws (.slice adc ws.length capc)) := HS1.out.alloc _
        have HK3 : Hid (IIn (w1.alloc (.cells #[.int .i64 (f : Int)] 3)) [(f : Int)] (.slice (some ⟨w1.heap.size, 0, none⟩) 1 1)) := one_in w1 f
        have HLO : Hid (w.heap.size ≤ (w1.alloc (.cells #[.int .i64 (f : Int)] 3)).heap.size) := by rw [Hid, Deep.nblk_alloc]; have := HB1.out.size; omega
        have HOB : Hid (∀ j, (Value.slice adc ws.length capc).ownBlock = some j → w.heap.size ≤ j) := fun j hj => own_lo HS1.out hj.symm
        have HBN : Hid (CIn w1 g (.slice (some ⟨bl, off, none⟩) g.length cap)) := HK.out.next HB1.out
        have HZ : Hid (w.heap.size ≤ w1.heap.size) := HB1.out.size
        have HBL : Hid (bl < w.heap.size) := by
          have h := HK.out.at f hff
          obtain ⟨bl', off', r', he, q0, -⟩ := h
          cases he
          exact cell_lt q0
        have HBL2 : Hid (bl2 < w.heap.size) := by
          have h := HK.out.at f hff
          obtain ⟨bl', off', r', he, -, -, q2, -, -, hkk'⟩ := h
          cases he
          have q3 := (HB1.out.cell (p := ⟨bl, off + f * 3 + 2, none⟩) (cell_lt q2)).trans q2
          rw [HC.out] at q3
          cases q3
          obtain ⟨bl3, off3, he, q4⟩ := hkk'.at 0 hkl
          cases he
          exact cell_lt q4
        clear ho hkk hk0 hk0l c2 d0 hl2 hm2 h4
        have c2 := HC.out
        have d0 := HD.out
        go_wp2_with (at_builtin; go_must (refine wpList_push rfl _ _ rfl _ w.heap.size ws [f] (.slice adc ws.length capc) (.slice (some ⟨w1.heap.size, 0, none⟩) 1 1) rfl HS3.out rfl HK3.out rfl HLO.out (by simp; omega) ?_); go_must (intro v' w5 hst5 hg5); go_must (have HS5 : Hid (Stk w5 w.heap.size (ws ++ [f]) v') := hst5); go_must (have HN5 : Hid (∀ j, j < w.heap.size → w5.heap[j]? = w1.heap[j]?) := fun j hj => (hg5.block j (by have := HLO.out; omega) (fun e => by have := HOB.out j e.symm; omega)).trans (Deep.blk_alloc_lt _ _ _ (by have := HZ.out; omega))); go_must (have HB5 : Hid (Below w.heap.size w w5) := by have hb3 : Below w.heap.size w (w1.alloc (.cells #[.int .i64 (f : Int)] 3)) := HB1.out.alloc HB1.out.size _; exact ⟨by rw [hg5.os]; exact hb3.os, by rw [hg5.tape]; exact hb3.tape, by rw [hg5.output]; exact hb3.output, Nat.le_trans hb3.size hg5.size, fun j hj => (hg5.block j (by have := hb3.size; omega) (fun e => by have := HOB.out j e.symm; omega)).trans (hb3.block j hj)⟩); clear c2 d0 c0; go_must (have c2 := (World.cell?_of_block (a := ⟨bl, off + f * 3 + 2, none⟩) (HN5.out bl HBL.out)).trans HC.out); go_must (have d0 := (World.cell?_of_block (a := ⟨bl2, off2, none⟩) (HN5.out bl2 HBL2.out)).trans HD.out); clear hst5 hg5)
        go_roundg (g.length + 2 - (ws ++ [f]).length + 1)
        case measure => rw [List.length_append]; simp; omega
        case rel => exact ⟨ws ++ [f], kidAt g f 0, HS5.out, HR2.out, rfl, by omega, HB5.out⟩
      · have t1 : (g[f].op != 4) = true := by simp [ho]
        have h4 : ¬ opAt g f = 4 := by rw [opAt_at f hff]; exact ho
        have HV : Hid (spine g a = some (f, ws)) := HR.out.fin hwl2 HF.out h4
        clear ho h4 hkk c2
        go_wp2_with fail
        go_ret3
        exact out_some HV.out HS1.out.row HB1.out

end Go.Proofs.YtjpjikfmdaejeaaGreatDoor
/-
  THE PROGRAM's GraphValid (cellFits, isCell, areCells); nothing that was there is changed.
-/
namespace Go.Proofs.YtjpjikfmdaejeaaGreatDoor
set_option linter.unusedVariables false
set_option linter.unusedSimpArgs false
open Go.RowKit

set_option maxHeartbeats 400000 in
theorem isCell_calls (n cap : Nat) (ad : Option Addr) (a : Int) (w : World) (hn : n ≤ 9223372036854775807) :
    Calls Tryz.prog 50 #[.slice ad n cap, .int .i64 a] w fun e w' => e = .returned (.bool (isAt n a)) ∧ Below w.heap.size w w' := by
  by_cases h0 : 0 ≤ a
  · by_cases h1 : a < (n : Int)
    · have HV : Hid (isAt n a = true) := isAt_in h0 h1
      go_enter Tryz.func50, Tryz.ntmps50
      go_wp2_with fail
      go_ret
      exact ⟨ret_bool HV.out.symm, Below.refl _ _⟩
    · have HV : Hid (isAt n a = false) := isAt_hi h1
      go_enter Tryz.func50, Tryz.ntmps50
      go_wp2_with fail
      go_ret
      exact ⟨ret_bool HV.out.symm, Below.refl _ _⟩
  · have HV : Hid (isAt n a = false) := isAt_lo (by omega)
    go_enter Tryz.func50, Tryz.ntmps50
    go_wp2_with fail
    go_ret
    exact ⟨ret_bool HV.out.symm, Below.refl _ _⟩

set_option maxHeartbeats 800000 in
theorem areCells_calls (n cap : Nat) (ad : Option Addr) (xs : List Int) (v : Value) (w : World) (hn : n ≤ 9223372036854775807) (hk : IIn w xs v) :
    Calls Tryz.prog 68 #[.slice ad n cap, v] w fun e w' => e = .returned (.bool (xs.all (isAt n))) ∧ Below w.heap.size w w' := by
  have HK : Hid (IIn w xs v) := hk
  obtain ⟨ad2, cap2, rfl, hl, hm, -⟩ := hk
  unfold maxLen at hm
  go_enter Tryz.func68, Tryz.ntmps68
  go_wp2_with fail
  go_loopw [9] (fun i wr => ∃ k : Nat, k ≤ xs.length ∧ i = .int .i64 k ∧ (xs.take k).all (isAt n) = true ∧ Below w.heap.size w wr) (fun i _ => xs.length - (intOf i).toNat)
  case atStart => exact ⟨0, Nat.zero_le _, rfl, by simp, Below.refl _ _⟩
  case round =>
    obtain ⟨k, hk, rfl, hall, hb⟩ := hrel
    have HA : Hid ((xs.take k).all (isAt n) = true) := hall
    have HB : Hid (Below w.heap.size w wr) := hb
    clear hall hb
    by_cases hlt : k < xs.length
    · obtain ⟨bl, off, rfl, d0⟩ := (HK.out.next HB.out).at k hlt
      go_wp2_with fail
      refine (isCell_calls n cap ad xs[k] _ hn).mono ?_
      rintro e w1 ⟨rfl, hb1⟩
      have HB1 : Hid (Below w.heap.size w w1) := HB.out.trans (hb1.mono HB.out.size)
      clear hb1 d0
      cases hc : isAt n xs[k] with
      | false =>
        have HV : Hid (xs.all (isAt n) = false) := allI_false_of _ _ k hlt hc
        clear hc
        go_wp2_with fail
        go_ret
        exact ⟨ret_bool HV.out.symm, HB1.out⟩
      | true =>
        have HA2 : Hid ((xs.take (k + 1)).all (isAt n) = true) := by rw [Hid, allI_take_succ _ _ _ hlt, HA.out, hc]; rfl
        clear hc
        go_wp2_with fail
        go_roundw
        case rel => exact ⟨k + 1, by omega, by go_num, HA2.out, HB1.out⟩
        case measure => simp [intOf]; omega
    · have hke : xs.length = k := by omega
      have HV : Hid (xs.all (isAt n) = true) := all_end HA.out hke
      clear hke
      go_wp2_with fail
      go_ret
      exact ⟨ret_bool HV.out.symm, HB.out⟩

/-- cellFits, for a kind with a node -/
theorem fits_node {defs op num : Int} {n : Nat} (h : op ≠ 11) : topC op num n 0 defs = (decide ((n : Int) = cArity op) && ownB op num 0 defs) := by
  unfold topC cArity; rw [if_neg h]

set_option maxRecDepth 100000 in
set_option maxHeartbeats 800000 in
theorem cellFits_node (op num defs : Int) (n cap : Nat) (ad : Option Addr) (T : TypeId) (x : Value) (K : FuncId) (ok fit : Bool) (hn : NodeAt 0 defs op num n T x K ok fit) (h11 : op ≠ 11) (hm : n ≤ 9223372036854775807) (w : World) :
    Calls Tryz.prog 67 #[.agg #[.int .i64 op, .int .i64 num, .slice ad n cap], .int .i64 defs] w fun e w' => e = .returned (.bool (topC op num n 0 defs)) ∧ Below w.heap.size w w' := by
  have HN : Hid (NodeAt 0 defs op num n T x K ok fit) := hn
  have HBX : Hid (Below w.heap.size w (w.alloc (.cells #[.int .i64 op, .int .i64 num, .slice ad n cap] 58))) := box_below _ _
  have hme := hn.meth
  have hen := hn.enters
  have HT : Hid ((ok && fit) = topC op num n 0 defs) := hn.top
  have t11 : (op == 11) = false := by simpa using h11
  clear hn h11
  cases hok : ok with
  | false =>
    subst hok
    have HV : Hid (topC op num n 0 defs = false) := by have := HT.out; rw [Bool.false_and] at this; exact this.symm
    clear hme hen
    go_enter Tryz.func67, Tryz.ntmps67
    go_wp2_with fail
    refine (HN.out.node _).mono ?_
    rintro e w1 ⟨rfl, hb⟩
    have HB : Hid (Below w.heap.size w w1) := HBX.out.trans (hb.mono HBX.out.size)
    clear hb
    go_wp2_with fail
    go_ret
    exact ⟨ret_bool HV.out.symm, HB.out⟩
  | true =>
    subst hok
    have HV : Hid (topC op num n 0 defs = fit) := by have := HT.out; rw [Bool.true_and] at this; exact this.symm
    go_enter Tryz.func67, Tryz.ntmps67
    go_wp2_with fail
    refine (HN.out.node _).mono ?_
    rintro e w1 ⟨rfl, hb⟩
    have HB : Hid (Below w.heap.size w w1) := HBX.out.trans (hb.mono HBX.out.size)
    clear hb
    go_wp2_with fail
    refine (HN.out.fits rfl _).mono ?_
    rintro e w2 ⟨rfl, hb⟩
    have HB2 : Hid (Below w.heap.size w w2) := HB.out.trans (hb.mono HB.out.size)
    clear hb
    go_wp2_with fail
    go_ret
    exact ⟨ret_bool HV.out.symm, HB2.out⟩

set_option maxHeartbeats 800000 in
theorem cellFits_ind (num defs : Int) (n cap : Nat) (ad : Option Addr) (hm : n ≤ 9223372036854775807) (w : World) :
    Calls Tryz.prog 67 #[.agg #[.int .i64 11, .int .i64 num, .slice ad n cap], .int .i64 defs] w fun e w' => e = .returned (.bool ((num == 0) && ((n : Int) == 1))) ∧ Below w.heap.size w w' := by
  have HBX : Hid (Below w.heap.size w (w.alloc (.cells #[.int .i64 11, .int .i64 num, .slice ad n cap] 58))) := box_below _ _
  cases hnum : (num == 0) with
  | false =>
    go_enter Tryz.func67, Tryz.ntmps67
    go_wp2_with fail
    go_ret
    exact ⟨rfl, HBX.out⟩
  | true =>
    go_enter Tryz.func67, Tryz.ntmps67
    go_wp2_with fail
    go_ret
    exact ⟨rfl, HBX.out⟩

theorem cellFits_calls (c : Ce) (defs : Int) (v : Value) (w : World) (hk : IIn w c.kids v) :
    Calls Tryz.prog 67 #[.agg #[.int .i64 c.op, .int .i64 c.num, v], .int .i64 defs] w fun e w' => e = .returned (.bool (fitsB defs c)) ∧ Below w.heap.size w w' := by
  obtain ⟨ad, cap, rfl, hl, hm, -⟩ := hk
  have hm' : c.kids.length ≤ 9223372036854775807 := by unfold maxLen at hm; omega
  by_cases h11 : c.op = 11
  · have hv : fitsB defs c = ((c.num == 0) && ((c.kids.length : Int) == 1)) := by
      unfold fitsB cArity ownB
      rw [h11, if_pos rfl, if_neg (by omega), if_neg (by omega), if_neg (by omega), Bool.and_comm]
      rfl
    rw [hv, h11]
    exact cellFits_ind _ _ _ _ _ hm' w
  have hv : fitsB defs c = topC c.op c.num c.kids.length 0 defs := (fits_node h11).symm
  rw [hv]
  by_cases e1 : c.op = 1
  · exact cellFits_node _ _ _ _ _ _ _ _ _ _ _ (nodeAt_1 0 defs c.op c.num c.kids.length e1) h11 hm' w
  by_cases e2 : c.op = 2
  · exact cellFits_node _ _ _ _ _ _ _ _ _ _ _ (nodeAt_2 0 defs c.op c.num c.kids.length e2) h11 hm' w
  by_cases e3 : c.op = 3
  · exact cellFits_node _ _ _ _ _ _ _ _ _ _ _ (nodeAt_3 0 defs c.op c.num c.kids.length e3) h11 hm' w
  exact cellFits_node _ _ _ _ _ _ _ _ _ _ _ (nodeAt_o 0 defs c.op c.num c.kids.length e1 e2 e3) h11 hm' w

theorem cellB_fits {cells defs : Int} {c : Ce} (h : fitsB defs c = false) : cellB cells defs c = false := by unfold cellB; rw [h]; rfl
theorem cellB_kids {cells defs : Int} {c : Ce} (h : fitsB defs c = true) : cellB cells defs c = c.kids.all (isAt cells) := by unfold cellB; rw [h]; rfl

set_option maxHeartbeats 800000 in
theorem implGraph_calls (g : List Ce) (defs : Int) (v : Value) (w : World) (hk : CIn w g v) :
    Calls Tryz.prog 49 #[v, .int .i64 defs] w fun e w' => e = .returned (.bool (graphB g defs)) ∧ Below w.heap.size w w' := by
  have HK : Hid (CIn w g v) := hk
  obtain ⟨ad, cap, rfl, hl, hm, -⟩ := hk
  unfold maxLen at hm
  by_cases hlim : (g.length : Int) ≤ 400 ∧ 0 ≤ defs ∧ defs ≤ 6
  · have HLM : Hid ((g.length : Int) ≤ 400 ∧ 0 ≤ defs ∧ defs ≤ 6) := hlim
    obtain ⟨l1, l2, l3⟩ := hlim
    go_enter Tryz.func49, Tryz.ntmps49
    go_wp2_with fail
    go_loopw [20] (fun i wr => ∃ k : Nat, k ≤ g.length ∧ i = .int .i64 k ∧ (g.take k).all (cellB g.length defs) = true ∧ Below w.heap.size w wr) (fun i _ => g.length - (intOf i).toNat)
    case atStart => exact ⟨0, Nat.zero_le _, rfl, by simp, Below.refl _ _⟩
    case round =>
      obtain ⟨k, hk, rfl, hall, hb⟩ := hrel
      have HA : Hid ((g.take k).all (cellB g.length defs) = true) := hall
      have HB : Hid (Below w.heap.size w wr) := hb
      clear hall hb
      by_cases hlt : k < g.length
      · obtain ⟨bl, off, r, rfl, c0, c1, c2, -, -, hkk⟩ := (HK.out.next HB.out).at k hlt
        obtain ⟨ad2, cap2, rfl, -, -, -⟩ := id hkk
        have HKK : Hid (IIn wr g[k].kids (.slice ad2 g[k].kids.length cap2)) := hkk
        clear hkk
        go_wp2_with fail
        refine (cellFits_calls g[k] defs _ _ (HKK.out.next (box_below _ _))).mono ?_
        rintro e w1 ⟨rfl, hb1⟩
        have HB0 : Hid (Below wr.heap.size wr w1) := (box_below _ _).trans (hb1.mono (by rw [Deep.nblk_alloc]; omega))
        have HB1 : Hid (Below w.heap.size w w1) := HB.out.trans (HB0.out.mono HB.out.size)
        have b2 := (hb1.cell (p := ⟨wr.heap.size, 2, none⟩) (by rw [Deep.nblk_alloc]; exact Nat.lt_succ_self _)).trans (box_cell wr #[.int .i64 g[k].op, .int .i64 g[k].num, .slice ad2 g[k].kids.length cap2] 58 2 _ rfl)
        clear hb1 c0 c1 c2
        cases hc : fitsB defs g[k] with
        | false =>
          have HV : Hid (graphB g defs = false) := graphB_cellNo k hlt (cellB_fits hc)
          clear hc
          go_wp2_with fail
          go_ret
          exact ⟨ret_bool HV.out.symm, HB1.out⟩
        | true =>
          have HC : Hid (cellB (g.length : Int) defs g[k] = g[k].kids.all (isAt g.length)) := cellB_kids hc
          clear hc
          go_wp2_with fail
          refine (areCells_calls g.length cap _ g[k].kids _ _ (by omega) (HKK.out.next HB0.out)).mono ?_
          rintro e w2 ⟨rfl, hb2⟩
          have HB2 : Hid (Below w.heap.size w w2) := HB1.out.trans (hb2.mono HB1.out.size)
          clear hb2 b2
          cases hc2 : g[k].kids.all (isAt (g.length : Int)) with
          | false =>
            have HV : Hid (graphB g defs = false) := graphB_cellNo k hlt (by rw [HC.out, hc2])
            clear hc2
            go_wp2_with fail
            go_ret
            exact ⟨ret_bool HV.out.symm, HB2.out⟩
          | true =>
            have HA2 : Hid ((g.take (k + 1)).all (cellB g.length defs) = true) := by rw [Hid, allI_take_succ _ _ _ hlt, HA.out, HC.out, hc2]; rfl
            clear hc2
            go_wp2_with fail
            go_roundw
            case rel => exact ⟨k + 1, by omega, by go_num, HA2.out, HB2.out⟩
            case measure => simp [intOf]; omega
      · have hke : g.length = k := by omega
        have HV : Hid (graphB g defs = true) := graphB_yes HLM.out (all_end HA.out hke)
        clear hke
        go_wp2_with fail
        go_ret
        exact ⟨ret_bool HV.out.symm, HB.out⟩
  · have HV : Hid (graphB g defs = false) := graphB_no hlim
    by_cases l1 : (g.length : Int) ≤ 400
    · by_cases l2 : 0 ≤ defs
      · have l3 : ¬ defs ≤ 6 := fun h => hlim ⟨l1, l2, h⟩
        clear hlim
        go_enter Tryz.func49, Tryz.ntmps49
        go_wp2_with fail
        go_ret
        exact ⟨ret_bool HV.out.symm, Below.refl _ _⟩
      · clear hlim
        go_enter Tryz.func49, Tryz.ntmps49
        go_wp2_with fail
        go_ret
        exact ⟨ret_bool HV.out.symm, Below.refl _ _⟩
    · clear hlim
      go_enter Tryz.func49, Tryz.ntmps49
      go_wp2_with fail
      go_ret
      exact ⟨ret_bool HV.out.symm, Below.refl _ _⟩
end Go.Proofs.YtjpjikfmdaejeaaGreatDoor
/-
  THE PROGRAM's isValueCell AND canReduce.
-/
namespace Go.Proofs.YtjpjikfmdaejeaaGreatDoor
set_option linter.unusedVariables false
set_option linter.unusedSimpArgs false
open Go.RowKit

set_option maxRecDepth 100000 in
set_option maxHeartbeats 1600000 in
theorem isValueCell_calls (ds : List Df) (g : List Ce) (a : Nat) (c v : Value) (w : World) (hd : DIn w ds c) (hk : CIn w g v) (hg : graphB g ds.length = true) (ha : a < g.length) :
    Calls Tryz.prog 28 #[c, v, .int .i64 (a : Int)] w fun e w' => e = .returned (.bool (valB (arsOf ds) g a)) ∧ Below w.heap.size w w' := by
  have HD : Hid (DIn w ds c) := hd
  have HK : Hid (CIn w g v) := hk
  have HG : Hid (graphB g ds.length = true) := hg
  obtain ⟨ad, cap, rfl, hl, hm, -⟩ := hk
  obtain ⟨adp, capp, rfl, hlp, hmp, -⟩ := hd
  have h400 : g.length ≤ 400 := graphB_len hg
  unfold maxLen at hm hmp
  clear hg
  go_enter Tryz.func28, Tryz.ntmps28
  go_wp2_with fail
  refine (spineFrom_calls g a _ _ HK.out ⟨_, HG.out⟩ ha).mono ?_
  rintro e w1 ⟨v1, rfl, hi1, hb1⟩
  have HB1 : Hid (Below w.heap.size w w1) := hb1
  have hlx : (spL (spine g a)).length ≤ 9223372036854775807 := by
    obtain ⟨ad2, cap2, rfl, l1, l2, -⟩ := hi1
    rw [plI_length] at l1
    unfold maxLen at l2
    omega
  obtain ⟨ad2, cap2, rfl, -, -, -⟩ := hi1
  rw [plI_length]
  clear hb1
  cases hs : spine g a with
  | none =>
    have HV : Hid (valB (arsOf ds) g a = false) := valB_none hs
    have e1 : spF none = 0 := rfl
    have e2 : (none : Option (Nat × List Nat)).isSome = false := rfl
    rw [e1, e2]
    clear hs
    go_wp2_with fail
    go_ret
    exact ⟨ret_bool HV.out.symm, HB1.out⟩
  | some x =>
    obtain ⟨f, xs⟩ := x
    have hok := spine_ok HG.out ha hs
    have hff : f < g.length := hok.1
    have HS : Hid (spine g a = some (f, xs)) := hs
    have e1 : spF (some (f, xs)) = (f : Int) := rfl
    have e2 : (some (f, xs)).isSome = true := rfl
    have e3 : spL (some (f, xs)) = xs := rfl
    rw [hs, e3] at hlx
    rw [e1, e2, e3]
    obtain ⟨bl, off, r, rfl, c0, c1, c2, -, -, hkk⟩ := (HK.out.next HB1.out).at f hff
    obtain ⟨adk, capk, rfl, -, -, -⟩ := id hkk
    have HOP : Hid (opAt g f = g[f].op) := opAt_at f hff
    clear hs hok hkk
    by_cases ho2 : g[f].op = 2
    · have HV : Hid (valB (arsOf ds) g a = decide (xs.length = 0)) := valB_num HS.out (Or.inl (by rw [HOP.out]; exact ho2))
      have t2 : (g[f].op == 2) = true := by simp [ho2]
      clear ho2
      go_wp2_with fail
      go_ret
      exact ⟨ret_bool (by rw [HV.out]; exact dec_len xs), HB1.out.alloc HB1.out.size _⟩
    have t2 : (g[f].op == 2) = false := by simp [ho2]
    by_cases ho5 : g[f].op = 5
    · have HV : Hid (valB (arsOf ds) g a = decide (xs.length = 0)) := valB_num HS.out (Or.inr (by rw [HOP.out]; exact ho5))
      have t5 : (g[f].op == 5) = true := by simp [ho5]
      clear ho2 ho5
      go_wp2_with fail
      go_ret
      exact ⟨ret_bool (by rw [HV.out]; exact dec_len xs), HB1.out.alloc HB1.out.size _⟩
    have t5 : (g[f].op == 5) = false := by simp [ho5]
    by_cases ho3 : g[f].op = 3
    · obtain ⟨n, hn, hnl⟩ := glob_num HG.out f hff ho3
      have hnl' : n < ds.length := by omega
      have HV : Hid (valB (arsOf ds) g a = decide ((xs.length : Int) < ds[n].1)) := by
        rw [Hid, valB_glob HS.out (by rw [HOP.out]; exact ho3), numAt_at f hff, hn, arOf_at ds n hnl']
      have t3 : (g[f].op == 3) = true := by simp [ho3]
      obtain ⟨blp, offp, rp, rfl, d0w, d1, d2, d3, -⟩ := (HD.out.next HB1.out).at n hnl'
      have d0 := old_cell d0w (.cells #[.int .i64 g[f].op, .int .i64 (n : Int), .slice adk g[f].kids.length capk] 58)
      rw [hn] at c1
      clear ho2 ho5 ho3 hn d1 d2 d3 d0w
      go_wp2_with fail
      go_ret
      exact ⟨ret_bool HV.out.symm, HB1.out.alloc HB1.out.size _⟩
    · have t3 : (g[f].op == 3) = false := by simp [ho3]
      have HV : Hid (valB (arsOf ds) g a = false) := valB_no HS.out (by rw [HOP.out]; exact ho2) (by rw [HOP.out]; exact ho5) (by rw [HOP.out]; exact ho3)
      clear ho2 ho5 ho3
      go_wp2_with fail
      go_ret
      exact ⟨ret_bool HV.out.symm, HB1.out.alloc HB1.out.size _⟩

set_option maxHeartbeats 1600000 in
theorem canReduce_calls (ds : List Df) (g : List Ce) (a : Int) (c v : Value) (w : World) (hd : DIn w ds c) (hk : CIn w g v) :
    Calls Tryz.prog 26 #[c, v, .int .i64 a] w fun e w' => e = .returned (.bool (rightB ds g a)) ∧ Below w.heap.size w w' := by
  have HD : Hid (DIn w ds c) := hd
  have HK : Hid (CIn w g v) := hk
  obtain ⟨ad, cap, rfl, hl, hm, -⟩ := hk
  obtain ⟨adp, capp, rfl, hlp, hmp, -⟩ := hd
  unfold maxLen at hm hmp
  go_enter Tryz.func26, Tryz.ntmps26
  go_wp2_with fail
  refine (implProg_calls ds _ _ HD.out).mono ?_
  rintro e w1 ⟨rfl, hb1⟩
  have HB1 : Hid (Below w.heap.size w w1) := hb1
  clear hb1
  cases hp : progB ds with
  | false =>
    have HV : Hid (rightB ds g a = false) := by rw [Hid, rightB, hp]; rfl
    clear hp
    go_wp2_with fail
    go_ret
    exact ⟨ret_bool HV.out.symm, HB1.out⟩
  | true =>
    have HP : Hid (progB ds = true) := hp
    clear hp
    go_wp2_with fail
    refine (implGraph_calls g ds.length _ _ (HK.out.next HB1.out)).mono ?_
    rintro e w2 ⟨rfl, hb2⟩
    have HB2 : Hid (Below w.heap.size w w2) := HB1.out.trans (hb2.mono HB1.out.size)
    clear hb2
    cases hg : graphB g ds.length with
    | false =>
      have HV : Hid (rightB ds g a = false) := by rw [Hid, rightB, hg, Bool.false_and, Bool.and_false]
      clear hg
      go_wp2_with fail
      go_ret
      exact ⟨ret_bool HV.out.symm, HB2.out⟩
    | true =>
      have HV : Hid (rightB ds g a = isAt g.length a) := by rw [Hid, rightB, hg, HP.out, Bool.true_and, Bool.true_and]
      clear hg
      go_wp2_with fail
      refine (isCell_calls g.length cap ad a _ (by omega)).mono ?_
      rintro e w3 ⟨rfl, hb3⟩
      have HB3 : Hid (Below w.heap.size w w3) := HB2.out.trans (hb3.mono HB2.out.size)
      clear hb3
      go_wp2_with fail
      go_ret
      exact ⟨ret_bool HV.out.symm, HB3.out⟩

end Go.Proofs.YtjpjikfmdaejeaaGreatDoor
/-
  THE PROGRAM's callIn, operandsOf, waitsFor AND redexFrom.
-/
namespace Go.Proofs.YtjpjikfmdaejeaaGreatDoor
set_option linter.unusedVariables false
set_option linter.unusedSimpArgs false
open Go.RowKit

set_option maxHeartbeats 800000 in
theorem callIn_calls (f : Nat) (xs : List Nat) (ar : Nat) (v : Value) (w : World) (hi : IIn w (plI xs) v) (hle : ar ≤ xs.length) :
    Calls Tryz.prog 70 #[.int .i64 (f : Int), v, .int .i64 (ar : Int)] w fun e w' => e = .returned (.int .i64 (callAt f xs (ar : Int) : Int)) ∧ w' = w := by
  obtain ⟨ad, cap, rfl, hcl, hcm, hr⟩ := hi
  unfold maxLen at hcm
  rw [plI_length] at hcl ⊢
  by_cases hz : ar = 0
  · subst hz
    have HV : Hid (callAt f xs ((0 : Nat) : Int) = f) := callAt_zero
    clear hr
    go_enter Tryz.func70, Tryz.ntmps70
    go_wp2_with fail
    go_ret
    exact ⟨ret_int (by rw [HV.out]), rfl⟩
  · obtain ⟨q, hq⟩ : ∃ q, q + ar = xs.length := ⟨xs.length - ar, by omega⟩
    have hql : q < xs.length := by omega
    have HV : Hid (callAt f xs (ar : Int) = xs[q]) := callAt_at hz hq
    have hne : ¬ plI xs = [] := by intro e; have h1 := plI_length xs; rw [e, List.length_nil] at h1; omega
    rcases hr with hr | ⟨gb, off, rfl, -, hfb⟩
    · exact absurd hr hne
    have q0 : w.cell? ⟨gb, off + (xs.length - ar), none⟩ = some (.int .i64 (xs[q] : Int)) := by
      have hqe : xs.length - ar = q := by omega
      have hqp : q < (plI xs).length := by rw [plI_length]; exact hql
      have h1 := hfb q hqp
      rw [hqe, h1]
      simp [plI]
    have tz : ((ar : Int) == 0) = false := by rw [beq_eq_false_iff_ne]; omega
    have hq0 : 0 ≤ (xs.length : Int) - (ar : Int) := by omega
    have hq1 : (xs.length : Int) - (ar : Int) < (xs.length : Int) := by omega
    clear hfb hne
    go_enter Tryz.func70, Tryz.ntmps70
    go_wp2_with fail
    go_ret
    exact ⟨ret_int (by rw [HV.out]), rfl⟩

theorem ret_ii' {a b c d : Int} (h : a = b) (h' : c = d) : Ending.returned (.tuple #[.int .i64 a, .int .i64 c]) = .returned (.tuple #[.int .i64 b, .int .i64 d]) := by rw [h, h']
set_option maxHeartbeats 800000 in
theorem operandsOf_calls (o : Int) (ho : o = 6 ∨ o = 7 ∨ o = 8 ∨ o = 9 ∨ o = 10) (w : World) :
    Calls Tryz.prog 87 #[.int .i64 o] w fun e w' => e = .returned (.tuple #[.int .i64 (manyOf o : Int), .int .i64 (kindIn o)]) ∧ w' = w := by
  rcases ho with rfl | rfl | rfl | rfl | rfl
  all_goals
    go_enter Tryz.func87, Tryz.ntmps87
    go_wp2_with fail
    go_ret2
    exact ⟨rfl, rfl⟩

/-- what waitsFor answers -/
def wtI (o : Option (Option Nat)) : Int := match o with | some (some k) => (k : Int) | _ => 0
def wtB (o : Option (Option Nat)) : Bool := match o with | some (some _) => true | _ => false
def wtC (o : Option (Option Nat)) : Nat := match o with | none => 2 | _ => 0
theorem ret_ibv {a b : Int} {p q : Bool} {x y : Value} (h : a = b) (h' : p = q) (h2 : x = y) : Ending.returned (.tuple #[.int .i64 a, .bool p, x]) = .returned (.tuple #[.int .i64 b, .bool q, y]) := by rw [h, h', h2]

set_option maxRecDepth 100000 in
set_option maxHeartbeats 3200000 in
theorem waitsFor_calls (aF aS aL : Addr) (ds : List Df) (g : List Ce) (f : Nat) (c v : Value) (w : World) (hE : Errs aF aS aL w) (hd : DIn w ds c) (hk : CIn w g v) (hg : graphB g ds.length = true) (hf : f < g.length)
    (hop : g[f].op = 6 ∨ g[f].op = 7 ∨ g[f].op = 8 ∨ g[f].op = 9 ∨ g[f].op = 10) (hkl : manyOf g[f].op ≤ g[f].kids.length) :
    Calls Tryz.prog 71 #[c, v, .int .i64 (f : Int)] w fun e w' => e = .returned (.tuple #[.int .i64 (wtI (waits (arsOf ds) g f)), .bool (wtB (waits (arsOf ds) g f)), errV aF aS aL (wtC (waits (arsOf ds) g f))]) ∧ Below w.heap.size w w' := by
  have HD : Hid (DIn w ds c) := hd
  have HK : Hid (CIn w g v) := hk
  have HG := mkHid hg
  have HE := mkHid hE
  obtain ⟨ad, cap, rfl, hl, hm, -⟩ := hk
  obtain ⟨adp, capp, rfl, hlp, hmp, -⟩ := hd
  have h400 : g.length ≤ 400 := graphB_len hg
  obtain ⟨mn, hmn⟩ : ∃ mn, mn = manyOf g[f].op := ⟨_, rfl⟩
  have hm2 : mn ≤ 2 := by rw [hmn]; unfold manyOf; split <;> omega
  obtain ⟨kd, hkd⟩ : ∃ kd, kd = kindIn g[f].op := ⟨_, rfl⟩
  have HOP : Hid (opAt g f = g[f].op) := opAt_at f hf
  have HWL : Hid (waits (arsOf ds) g f = waitsL (arsOf ds) g kd ((List.range mn).map (kidAt g f))) := by
    rw [Hid, waits_list (by rw [HOP.out]; exact hop), HOP.out, ← hmn, ← hkd]
  have HOO : Hid (∀ W : World, Calls Tryz.prog 87 #[.int .i64 g[f].op] W fun e w' => e = .returned (.tuple #[.int .i64 (mn : Int), .int .i64 kd]) ∧ W = w') := fun W => by rw [hmn, hkd]; exact (operandsOf_calls _ hop W).mono fun _ _ h => ⟨h.1, h.2.symm⟩
  have hml : mn ≤ g[f].kids.length := by rw [hmn]; exact hkl
  obtain ⟨bl, off, r, rfl, c0, c1, c2, -, -, hkk⟩ := HK.out.at f hf
  obtain ⟨adk, capk, rfl, hkc, hkm, -⟩ := id hkk
  have HKK := mkHid hkk
  have HBL : Hid (bl < w.heap.size) := cell_lt c0
  unfold maxLen at hm hmp hkm
  have hmlI : (mn : Int) ≤ (g[f].kids.length : Int) := by omega
  have hmcI : (mn : Int) ≤ (capk : Int) := by omega
  clear hg hE hop hkl hmn hkd c1 hkk
  go_enter Tryz.func71, Tryz.ntmps71
  go_wp2_with fail
  refine (HOO.out _).mono ?_
  rintro e w1 ⟨rfl, rfl⟩
  go_wp2_with fail
  go_loopw [32] (fun i wr => ∃ k : Nat, k ≤ mn ∧ i = .int .i64 k ∧ waits (arsOf ds) g f = waitsL (arsOf ds) g kd (((List.range mn).map (kidAt g f)).drop k) ∧ Below w.heap.size w wr) (fun i _ => mn - (intOf i).toNat)
  case atStart => exact ⟨0, Nat.zero_le _, rfl, by rw [List.drop_zero]; exact HWL.out, Below.refl _ _⟩
  case round =>
    obtain ⟨k, hkm2, rfl, hw, hb⟩ := hrel
    have HW := mkHid hw
    have HB := mkHid hb
    clear hw hb c0 c2
    by_cases hlt : k < mn
    · have hkk2 : k < g[f].kids.length := by omega
      obtain ⟨hke, hkl⟩ := kidAt_get HG.out f hf k hkk2
      obtain ⟨bl2, off2, rfl, d0w⟩ := HKK.out.at k hkk2
      rw [hke] at d0w
      have d0 := (HB.out.cell (p := ⟨bl2, off2 + k, none⟩) (cell_lt d0w)).trans d0w
      have HKL := mkHid hkl
      have HDR : Hid (((List.range mn).map (kidAt g f)).drop k = kidAt g f k :: ((List.range mn).map (kidAt g f)).drop (k + 1)) := by
        rw [Hid, List.drop_eq_getElem_cons (by simpa using hlt)]
        simp
      obtain ⟨kk, hkk3⟩ : ∃ kk, kk = kidAt g f k := ⟨_, rfl⟩
      rw [← hkk3] at d0 HKL HDR
      clear hke hkl d0w hkk3
      go_wp2_with fail
      refine (isValueCell_calls ds g kk _ _ wr (HD.out.next HB.out) (HK.out.next HB.out) HG.out HKL.out).mono ?_
      rintro e w2 ⟨rfl, hb2⟩
      have HB2 : Hid (Below w.heap.size w w2) := HB.out.trans (hb2.mono HB.out.size)
      clear hb2 d0
      cases hv : valB (arsOf ds) g kk with
      | false =>
        have HV : Hid (waits (arsOf ds) g f = some (some kk)) := by rw [Hid, HW.out, HDR.out, waitsL, wait_go hv]
        clear hv
        go_wp2_with fail
        go_ret3
        exact ⟨ret_ibv (by rw [HV.out]; rfl) (by rw [HV.out]; rfl) (by rw [HV.out]; rfl), HB2.out⟩
      | true =>
        obtain ⟨b, hbf⟩ := val_follow hv
        have HV0 := mkHid hv
        have HBF := mkHid hbf
        have hbl := (followN_lt HG.out _ _ _ HKL.out hbf).1
        clear hv hbf
        go_wp2_with fail
        refine (standsFor_calls g kk _ w2 (HK.out.next HB2.out) ⟨_, HG.out⟩ HKL.out).mono ?_
        rintro e w3 ⟨rfl, hb3⟩
        rw [HBF.out]
        have e1 : folO (some b) = (b : Int) := rfl
        have e2 : (some b).isSome = true := rfl
        rw [e1, e2]
        have HB3 : Hid (Below w.heap.size w w3) := HB2.out.trans (hb3.mono HB2.out.size)
        obtain ⟨bl6, off6, r6, he6, f0, -, -, -, -, -⟩ := (HK.out.next HB3.out).at b hbl
        cases he6
        have HOB : Hid (opAt g b = g[b].op) := opAt_at b hbl
        clear hb3
        by_cases h5 : g[b].op = kd
        · have HV : Hid (waits (arsOf ds) g f = waitsL (arsOf ds) g kd (((List.range mn).map (kidAt g f)).drop (k + 1))) := by rw [Hid, HW.out, HDR.out, waitsL, wait_ok HV0.out HBF.out (by rw [HOB.out]; exact h5)]
          have t5 : (g[b].op != kd) = false := by simp [h5]
          clear h5
          go_wp2_with fail
          go_roundw
          case rel => exact ⟨k + 1, by omega, by go_num, HV.out, HB3.out⟩
          case measure => simp [intOf]; omega
        · have HV : Hid (waits (arsOf ds) g f = none) := by rw [Hid, HW.out, HDR.out, waitsL, wait_stuck HV0.out HBF.out (by rw [HOB.out]; exact h5)]
          have t5 : (g[b].op != kd) = true := by simp [h5]
          have cS := (HE.out.next HB3.out).cS
          clear h5
          go_wp2_with fail
          go_quiet (fail)
          go_wp2_with fail
          go_ret3
          exact ⟨ret_ibv (by rw [HV.out]; rfl) (by rw [HV.out]; rfl) (by rw [HV.out]; rfl), below_drewN HB3.out _⟩
    · have HV : Hid (waits (arsOf ds) g f = some none) := by
        rw [Hid, HW.out, List.drop_of_length_le (by simp; omega)]; rfl
      go_wp2_with fail
      go_ret3
      exact ⟨ret_ibv (by rw [HV.out]; rfl) (by rw [HV.out]; rfl) (by rw [HV.out]; rfl), HB.out⟩

theorem waits_some {ars : List Int} {g : List Ce} {defs : Int} (hg : graphB g defs = true) {f kk : Nat} (hf : f < g.length) (hop : g[f].op = 6 ∨ g[f].op = 7 ∨ g[f].op = 8 ∨ g[f].op = 9 ∨ g[f].op = 10) (hm : manyOf g[f].op ≤ g[f].kids.length) (h : waits ars g f = some (some kk)) : kk < g.length ∧ valB ars g kk = false := by
  have e := opAt_at f hf
  rw [waits_list (by rw [e]; exact hop), e] at h
  obtain ⟨h1, h2⟩ := waitsL_some _ h
  simp only [List.mem_map, List.mem_range] at h1
  obtain ⟨j, hj, rfl⟩ := h1
  exact ⟨(kidAt_get hg f hf j (by omega)).2, h2⟩

/-- what redexFrom answers -/
theorem ret_iv {a b : Int} {x y : Value} (h : a = b) (h2 : x = y) : Ending.returned (.tuple #[.int .i64 a, x]) = .returned (.tuple #[.int .i64 b, y]) := by rw [h, h2]
set_option maxRecDepth 100000 in
set_option maxHeartbeats 3200000 in
theorem redexFrom_calls (aF aS aL : Addr) (ds : List Df) (g : List Ce) (a : Nat) (c v : Value) (w : World) (hE : Errs aF aS aL w) (hd : DIn w ds c) (hk : CIn w g v) (hg : graphB g ds.length = true) (hp : progB ds = true) (ha : a < g.length) (hv : valB (arsOf ds) g a = false) :
    Calls Tryz.prog 54 #[c, v, .int .i64 (a : Int)] w fun e w' => e = .returned (.tuple #[.int .i64 (rdI (redex (arsOf ds) g a)), errV aF aS aL (rdC (redex (arsOf ds) g a))]) ∧ Below w.heap.size w w' := by
  have HD : Hid (DIn w ds c) := hd
  have HK : Hid (CIn w g v) := hk
  have HG := mkHid hg
  have HP := mkHid hp
  have HE := mkHid hE
  have HV0 := mkHid hv
  obtain ⟨ad, cap, rfl, hl, hm, -⟩ := hk
  obtain ⟨adp, capp, rfl, hlp, hmp, -⟩ := hd
  have h400 : g.length ≤ 400 := graphB_len hg
  unfold maxLen at hm hmp
  clear hg hp hE hv
  go_enter Tryz.func54, Tryz.ntmps54
  go_wp2_with fail
  go_loopw [2, 18] (fun at' i wr => ∃ (k b : Nat), k ≤ g.length + 1 ∧ i = .int .i64 k ∧ at' = .int .i64 (b : Int) ∧ b < g.length ∧ valB (arsOf ds) g b = false ∧ redex (arsOf ds) g a = redexN (arsOf ds) g (g.length + 1 - k) b ∧ Below w.heap.size w wr) (fun _ i _ => g.length + 1 - (intOf i).toNat)
  case atStart => exact ⟨0, a, Nat.zero_le _, rfl, rfl, ha, HV0.out, rfl, Below.refl _ _⟩
  case round =>
    obtain ⟨k, b, hk1, rfl, rfl, hbl, hvb, hred, hb⟩ := hrel
    have HR := mkHid hred
    have HB := mkHid hb
    have HVB := mkHid hvb
    clear hred hb hvb
    by_cases hlt : k < g.length + 1
    · obtain ⟨m, hm3⟩ : ∃ m, g.length + 1 - k = m + 1 := ⟨g.length - k, by omega⟩
      have HM : Hid (g.length + 1 - (k + 1) = m) := by unfold Hid; omega
      have HR : Hid (redex (arsOf ds) g a = redexN (arsOf ds) g (m + 1) b) := by rw [← hm3]; exact HR.out
      clear hm3
      go_wp2_with fail
      refine (spineFrom_calls g b _ wr (HK.out.next HB.out) ⟨_, HG.out⟩ hbl).mono ?_
      rintro e w1 ⟨v1, rfl, hi1, hb1⟩
      have HB1 : Hid (Below w.heap.size w w1) := HB.out.trans (hb1.mono HB.out.size)
      have hlx : (spL (spine g b)).length ≤ 9223372036854775807 := by
        obtain ⟨ad2, cap2, rfl, l1, l2, -⟩ := hi1
        rw [plI_length] at l1
        unfold maxLen at l2
        omega
      have HI1 : Hid (IIn w1 (plI (spL (spine g b))) v1) := hi1.inn
      obtain ⟨ad2, cap2, rfl, -, -, -⟩ := hi1
      rw [plI_length] at HI1 ⊢
      clear hb1
      cases hs : spine g b with
      | none =>
        have HV : Hid (redex (arsOf ds) g a = none) := by rw [Hid, HR.out]; exact redexN_none hs
        have e1 : spF none = 0 := rfl
        have e2 : (none : Option (Nat × List Nat)).isSome = false := rfl
        have cS := (HE.out.next HB1.out).cS
        rw [e1, e2]
        clear hs
        go_wp2_with fail
        go_quiet (fail)
        go_wp2_with fail
        go_ret2
        exact ⟨ret_iv (by rw [HV.out]; rfl) (by rw [HV.out]; rfl), below_drewN HB1.out _⟩
      | some x =>
        obtain ⟨f, xs⟩ := x
        have hok := spine_ok HG.out hbl hs
        have hff : f < g.length := hok.1
        have HOK := mkHid hok
        have HS : Hid (spine g b = some (f, xs)) := hs
        have e1 : spF (some (f, xs)) = (f : Int) := rfl
        have e2 : (some (f, xs)).isSome = true := rfl
        have e3 : spL (some (f, xs)) = xs := rfl
        rw [hs, e3] at hlx
        rw [hs, e3] at HI1
        rw [e1, e2, e3]
        obtain ⟨bl, off, r, rfl, c0, c1, c2, -, -, hkk⟩ := (HK.out.next HB1.out).at f hff
        obtain ⟨adk, capk, rfl, -, -, -⟩ := id hkk
        have HOP : Hid (opAt g f = g[f].op) := opAt_at f hff
        clear hs hok hkk
        by_cases ho3 : g[f].op = 3
        · obtain ⟨nn, hn, hnl⟩ := glob_num HG.out f hff ho3
          have hnl' : nn < ds.length := by omega
          have h0 := prog_ar HP.out nn hnl'
          have hle := call_idx (n := nn) HS.out (by rw [HOP.out]; exact ho3) (by rw [numAt_at f hff]; exact hn) hnl' HVB.out
          obtain ⟨ar, har⟩ : ∃ ar : Nat, ds[nn].1 = (ar : Int) := ⟨ds[nn].1.toNat, by omega⟩
          have HV : Hid (redex (arsOf ds) g a = some (callAt f xs (ar : Int))) := by
            rw [Hid, HR.out, redexN_glob HS.out (by rw [HOP.out]; exact ho3), numAt_at f hff, hn, arOf_at ds nn hnl', har]
          have t3 : (g[f].op == 3) = true := by simp [ho3]
          obtain ⟨blp, offp, rp, rfl, d0w, d1, d2, d3, -⟩ := (HD.out.next HB1.out).at nn hnl'
          rw [hn] at c1
          rw [har] at d0w hle
          have hle2 : ar ≤ xs.length := by omega
          have d0 := old_cell d0w (.cells #[.int .i64 g[f].op, .int .i64 (nn : Int), .slice adk g[f].kids.length capk] 58)
          have HC : Hid (∀ W : World, Below w1.heap.size w1 W → Calls Tryz.prog 70 #[.int .i64 (f : Int), .slice ad2 xs.length cap2, .int .i64 (ar : Int)] W fun e w' => e = .returned (.int .i64 (callAt f xs (ar : Int) : Int)) ∧ W = w') := fun W hW => (callIn_calls f xs ar _ W (HI1.out.next hW) hle2).mono fun _ _ h => ⟨h.1, h.2.symm⟩
          clear ho3 hn d1 d2 d3 har h0 hle d0w
          go_wp2_with fail
          refine (HC.out _ (box_below _ _)).mono ?_
          rintro e w2 ⟨rfl, rfl⟩
          go_wp2_with fail
          go_ret2
          exact ⟨ret_iv (by rw [HV.out]; rfl) (by rw [HV.out]; rfl), HB1.out.alloc HB1.out.size _⟩
        have t3 : (g[f].op == 3) = false := by simp [ho3]
        by_cases ho25 : g[f].op = 2 ∨ g[f].op = 5
        · have HV : Hid (redex (arsOf ds) g a = none) := by rw [Hid, HR.out]; exact redexN_val HS.out (by rw [HOP.out]; exact ho25)
          have cS := (HE.out.next (HB1.out.alloc HB1.out.size (.cells #[.int .i64 g[f].op, .int .i64 g[f].num, .slice adk g[f].kids.length capk] 58))).cS
          rcases ho25 with ho2 | ho5
          · have t2 : (g[f].op == 2) = true := by simp [ho2]
            clear ho3 ho2
            go_wp2_with fail
            go_quiet (fail)
            go_wp2_with fail
            go_ret2
            exact ⟨ret_iv (by rw [HV.out]; rfl) (by rw [HV.out]; rfl), below_drewN (HB1.out.alloc HB1.out.size _) _⟩
          · have t2 : (g[f].op == 2) = false := by simp [ho5]
            have t5 : (g[f].op == 5) = true := by simp [ho5]
            clear ho3 ho5
            go_wp2_with fail
            go_quiet (fail)
            go_wp2_with fail
            go_ret2
            exact ⟨ret_iv (by rw [HV.out]; rfl) (by rw [HV.out]; rfl), below_drewN (HB1.out.alloc HB1.out.size _) _⟩
        have hkinds := op_kinds HG.out f hff (by rw [← HOP.out]; exact HOK.out.2.1) (by rw [← HOP.out]; exact HOK.out.2.2.1) (by omega) ho3 (by omega)
        have HRN : Hid (redex (arsOf ds) g a = (match waits (arsOf ds) g f with | none => none | some none => some f | some (some k) => redexN (arsOf ds) g m k)) := by rw [Hid, HR.out]; exact redexN_op HS.out (by rw [HOP.out]; exact ho3) (by rw [HOP.out]; omega) (by rw [HOP.out]; omega)
        have HKI := mkHid hkinds
        have hmany : manyOf g[f].op ≤ g[f].kids.length := by
          have h1 := hkinds.1
          have h2 := hkinds.2
          unfold manyOf
          split at h2 <;> (try split at h2) <;> split <;> omega
        have HMA := mkHid hmany
        have t2 : (g[f].op == 2) = false := by simp; omega
        have t5 : (g[f].op == 5) = false := by simp; omega
        have HB2 : Hid (Below w.heap.size w (w1.alloc (.cells #[.int .i64 g[f].op, .int .i64 g[f].num, .slice adk g[f].kids.length capk] 58))) := HB1.out.alloc HB1.out.size _
        clear ho3 ho25 hkinds hmany
        go_wp2_with fail
        refine (waitsFor_calls aF aS aL ds g f _ _ _ (HE.out.next HB2.out) (HD.out.next HB2.out) (HK.out.next HB2.out) HG.out hff HKI.out.1 HMA.out).mono ?_
        rintro e w3 ⟨rfl, hb3⟩
        have HB3 : Hid (Below w.heap.size w w3) := HB2.out.trans (hb3.mono HB2.out.size)
        clear hb3
        cases hw : waits (arsOf ds) g f with
        | none =>
          have HV : Hid (redex (arsOf ds) g a = none) := by rw [Hid, HRN.out, hw]
          have e4 : wtI none = 0 := rfl
          have e5 : wtB none = false := rfl
          have e6 : errV aF aS aL (wtC none) = .iface 157 (.pointer (some aS)) := rfl
          rw [e4, e5, e6]
          clear hw
          go_wp2_with fail
          go_ret2
          exact ⟨ret_iv (by rw [HV.out]; rfl) (by rw [HV.out]; rfl), HB3.out⟩
        | some o =>
          cases o with
          | none =>
            have HV : Hid (redex (arsOf ds) g a = some f) := by rw [Hid, HRN.out, hw]
            have e4 : wtI (some none) = 0 := rfl
            have e5 : wtB (some none) = false := rfl
            have e6 : errV aF aS aL (wtC (some none)) = .nilIface := rfl
            rw [e4, e5, e6]
            clear hw
            go_wp2_with fail
            go_ret2
            exact ⟨ret_iv (by rw [HV.out]; rfl) (by rw [HV.out]; rfl), HB3.out⟩
          | some kk =>
            have HV : Hid (redex (arsOf ds) g a = redexN (arsOf ds) g (g.length + 1 - (k + 1)) kk) := by rw [Hid, HRN.out, hw, HM.out]
            have HKV := mkHid (waits_some HG.out hff HKI.out.1 HMA.out hw)
            have e4 : wtI (some (some kk)) = (kk : Int) := rfl
            have e5 : wtB (some (some kk)) = true := rfl
            have e6 : errV aF aS aL (wtC (some (some kk))) = .nilIface := rfl
            rw [e4, e5, e6]
            clear hw
            go_wp2_with fail
            go_roundw
            case rel => exact ⟨k + 1, kk, by omega, by go_num, rfl, HKV.out.1, HKV.out.2, HV.out, HB3.out⟩
            case measure => simp [intOf]; omega
    · have HV : Hid (redex (arsOf ds) g a = none) := by
        have h0 : g.length + 1 - k = 0 := by omega
        rw [Hid, HR.out, h0]; rfl
      have cS := (HE.out.next HB.out).cS
      go_wp2_with fail
      go_quiet (fail)
      go_wp2_with fail
      go_ret2
      exact ⟨ret_iv (by rw [HV.out]; rfl) (by rw [HV.out]; rfl), below_drewN HB.out _⟩
end Go.Proofs.YtjpjikfmdaejeaaGreatDoor
