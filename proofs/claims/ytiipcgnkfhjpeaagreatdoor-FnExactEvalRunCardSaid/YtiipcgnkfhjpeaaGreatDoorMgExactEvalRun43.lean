/-
  THE PROGRAM's countNodes: how many nodes of a tree are wanted; nothing that was there is changed.
-/
import Derived.Test.YtiipcgnkfhjpeaaGreatDoorMgExactEvalRun42
import Derived.Test.YtiipcgnkfhjpeaaGreatDoorMgExactEvalRun10
import Derived.Test.YtiipcgnkfhjpeaaGreatDoorMgExactEvalRun13
import Derived.Test.YtiipcgnkfhjpeaaGreatDoorMgExactEvalRun32
import Derived.RangeFuncNested
import Derived.RangeFuncBound
import Derived.RangeFuncCalls
import Derived.RangeFuncLeaves
import Derived.RangeFuncBox
import Derived.OrdersHeld
import Derived.Shelf.Abstract
import Derived.WalkKit
import Derived.OwnWalkIn
import Derived.TacticsInMore
import Derived.LoopNIn
import Derived.LoopIn
import Derived.Test.YtiipcgnkfhjpeaaGreatDoorRows
namespace Go.Proofs.YtiipcgnkfhjpeaaGreatDoor.cntCall
set_option linter.unusedVariables false
set_option linter.unusedSimpArgs false
open Go.RowKit

/-- what holds at the head of the loop -/
def TRel (wx : World) (B : Nat) (p : Tr → Bool) (a : Tr) (n : Nat) (v : Value) (wr : World) : Prop :=
  ∃ (l : List Fr) (f : Fr) (M : Mc), n = remP wx M (l ++ [f]) ∧ TInv wx (Pl wx) p M (l ++ [f]) ∧ HeadIs a (l ++ [f]) ∧ wr.ownsRow (B + 3) 225 3 v (l.length + 1) (frCells (l ++ [f])) ∧ (∃ g cap, v = .slice (some ⟨g, 0, none⟩) (l.length + 1) cap) ∧
    PMap embP wr (B + 2) (fun k => ∃ s, LiesAt wx (Pl wx) k s) M ∧ Below wx.heap.size wx wr

theorem zeroInt (w : World) : (zeroValue 3).run Tryz.prog w = .ok (.int .i64 0) w := by kernel_rfl
theorem ptrKc : PKey Tryz.prog 223 embP PlainAt := by
  obtain ⟨i, z, hi, -, hs, -⟩ := infoE3
  exact ptr_key Tryz.underlying223 hi (by omega)
theorem infoV : ∃ i z, Tryz.prog.info? 225 = some i ∧ i.zero = some z ∧ i.size = 3 ∧ i.bytes = 24 ∧ z.cells.size = 3 := by
  have h : (Tryz.prog.info? 225).map (fun i => (i.zero, i.size, i.bytes)) = some (some (.agg #[.pointer none, .int .i64 0, .int .i64 0]), 3, 24) := by kernel_rfl
  obtain ⟨i, hi, hzz⟩ := Option.map_eq_some_iff.1 h
  simp only [Prod.mk.injEq] at hzz
  obtain ⟨hz, hs, hb⟩ := hzz
  exact ⟨i, _, hi, hz, hs, hb, rfl⟩

set_option maxRecDepth 100000 in
set_option maxHeartbeats 3200000 in
theorem implCount_calls (vb : Nat) (p : Tr → Bool) (a : Tr) (c : Value) (w : World) (hw : WantSaid w vb p) (hc : InP w a.kids c) (ha : I64 a.op ∧ I64 a.num) (hz : szT a ≤ 1099511627776) :
    Calls Tryz.prog 158 #[.agg #[.int .i64 a.op, .int .i64 a.num, c], .func (.func 159) #[] #[]] w fun e w' => e = .returned (.int .i64 (cntT p a : Int)) ∧ Below w.heap.size w w' := by
  have HW : Hid (WantSaid w vb p) := hw
  have HC : Hid (InP w a.kids c) := hc
  have hmm := @run_makeMap Tryz.prog
  have hmf : ∀ (fn : Fn) (first cap : Array Value) (w : World), (Instr.makeFunc fn first cap).run Tryz.prog w = .ok (.func fn first cap) w := fun _ _ _ _ => rfl
  obtain ⟨ad, cap, rfl, -, -, -⟩ := hc
  obtain ⟨wx, hwx⟩ : ∃ wx : World, wx = (w.alloc (.cells #[.int .i64 a.op, .int .i64 a.num, .slice ad a.kids.length cap] 48)).alloc (.cells #[.func (.func 159) #[] #[]] 219) := ⟨_, rfl⟩
  have hxs : wx.heap.size = w.heap.size + 2 := by rw [hwx, Deep.nblk_alloc, Deep.nblk_alloc]
  have HX : Hid (wx = (w.alloc (.cells #[.int .i64 a.op, .int .i64 a.num, .slice ad a.kids.length cap] 48)).alloc (.cells #[.func (.func 159) #[] #[]] 219)) := hwx
  have HXS : Hid (wx.heap.size = w.heap.size + 2) := hxs
  have hbx : Below w.heap.size w wx := by rw [hwx]; exact (box_below w _).trans ((box_below _ _).mono (by simp))
  have HBX : Hid (Below w.heap.size w wx) := hbx
  have hla : LiesAt wx (Pl wx) ⟨w.heap.size, 0, none⟩ a := by
    refine ⟨w.heap.size, 0, .int .i64 a.op, .int .i64 a.num, .slice ad a.kids.length cap, rfl, ⟨by omega, #[.int .i64 a.op, .int .i64 a.num, .slice ad a.kids.length cap], 48, ?_⟩, ?_, ?_, ?_, trOn_iff.2 ⟨rfl, rfl, ha.1, ha.2, HC.out.nextP hbx⟩⟩
    · rw [hwx, Deep.blk_alloc_lt _ _ _ (by simp)]; exact Deep.blk_alloc_new _ _
    · rw [hwx]; exact old_cell (box_cell w _ _ 0 _ rfl) _
    · rw [hwx]; exact old_cell (box_cell w _ _ 1 _ rfl) _
    · rw [hwx]; exact old_cell (box_cell w _ _ 2 _ rfl) _
  have HLA : Hid (LiesAt wx (Pl wx) ⟨w.heap.size, 0, none⟩ a) := hla
  have HWB : Hid (wx.cell? ⟨w.heap.size + 1, 0, none⟩ = some (.func (.func 159) #[] #[])) := by
    have h := box_cell (w.alloc (.cells #[.int .i64 a.op, .int .i64 a.num, .slice ad a.kids.length cap] 48)) #[.func (.func 159) #[] #[]] 219 0 _ rfl
    rw [Deep.nblk_alloc, ← hwx] at h
    exact h
  have hbg : ∀ (x : Addr) (t : Tr) (n : Nat) (W : World), n = (if p t then 1 else 0) → Below wx.heap.size wx W → LiesAt wx (Pl wx) x t → Calls Tryz.prog 161 #[.pointer (some x), .pointer (some ⟨w.heap.size + 1, 0, none⟩)] W fun e w' => e = .returned (.agg #[.pointer (some x), .int .i64 0, .int .i64 (n : Int)]) ∧ Below W.heap.size W w' := fun x t n W hn hb hx => by
    rw [hn]
    exact begin_calls HW.out x t _ W (hx.carry hb) ((hb.cell (cell_lt HWB.out)).trans HWB.out) (HBX.out.trans (hb.mono HBX.out.size))
  have HBG : Hid _ := hbg
  obtain ⟨n0, hn0⟩ : ∃ n : Nat, n = (if p a then 1 else 0) := ⟨_, rfl⟩
  have HN0 : Hid (n0 = (if p a then 1 else 0)) := hn0
  clear ha hwx hxs hbx hla hw hbg hn0
  go_enter Tryz.func158, Tryz.ntmps158
  go_wp2_with (go_at_call 161; go_must (rw [← HX.out]); go_must (refine (HBG.out _ a n0 _ HN0.out (box_below wx _) HLA.out).mono ?_); go_must (rintro e w1 ⟨rfl, hb1⟩); go_must (have HB1 : Hid (Below (wx.alloc (.map #[] 0)).heap.size (wx.alloc (.map #[] 0)) w1) := hb1); clear hb1)
  clear hmm hmf
  obtain ⟨iE, zE, hiE, hzE, hsE, hbE, hcE⟩ := infoV
  have HE : Hid (Tryz.prog.info? 225 = some iE ∧ iE.zero = some zE ∧ iE.size = 3 ∧ iE.bytes = 24 ∧ zE.cells.size = 3) := ⟨hiE, hzE, hsE, hbE, hcE⟩
  clear hiE hzE hsE hbE hcE
  have HZ1 : Hid (w.heap.size + 3 ≤ w1.heap.size) := by have := HB1.out.size; rw [Deep.nblk_alloc, HXS.out] at this; exact this
  have HB2 : Hid (Below wx.heap.size wx w1) := (box_below wx _).trans (HB1.out.mono (by rw [Deep.nblk_alloc]; omega))
  go_loopg [7] (remP wx (fun _ => none) [⟨⟨w.heap.size, 0, none⟩, a, 0, n0⟩]) (fun n v wr => TRel wx w.heap.size p a n v wr)
  case atStart =>
    refine ⟨[], ⟨⟨w.heap.size, 0, none⟩, a, 0, n0⟩, fun _ => none, rfl, ?_, ⟨_, [], rfl, rfl⟩, ?_, ⟨_, _, rfl⟩, ?_, HB2.out.trans ((box_below w1 _).mono HB2.out.size)⟩
    · have := TInv.start HLA.out p
      rw [← HN0.out] at this
      exact this
    · exact ⟨rfl, Or.inr ⟨_, 1, _, rfl, HZ1.out, Deep.blk_alloc_new _ _, Nat.le_refl _, by unfold maxLen; omega, rfl, rfl⟩⟩
    · have h := PMap.made (emb := embP) wx (fun k => ∃ s, LiesAt wx (Pl wx) k s)
      rw [HXS.out] at h
      refine h.keep ?_
      rw [Deep.blk_alloc_lt _ _ _ (by have := HZ1.out; omega)]
      exact HB1.out.block _ (by rw [Deep.nblk_alloc, HXS.out]; omega)
  case round =>
    obtain ⟨l, f, M, rfl, hinv, hhd, hown, ⟨g, cp, rfl⟩, hmap, hb⟩ := hrel
    have HI : Hid (TInv wx (Pl wx) p M (l ++ [f])) := hinv
    have HH : Hid (HeadIs a (l ++ [f])) := hhd
    have HP : Hid (PMap embP wr (w.heap.size + 2) (fun k => ∃ s, LiesAt wx (Pl wx) k s) M) := hmap
    have HB : Hid (Below wx.heap.size wx wr) := hb
    have HO : Hid (wr.ownsRow (w.heap.size + 3) 225 3 (.slice (some ⟨g, 0, none⟩) (l.length + 1) cp) (l.length + 1) (frCells (l ++ [f]))) := hown
    have hle := hhd.le hinv.2.1
    have hft := hle.1 f (by simp)
    have hll := hle.2
    rw [List.length_append] at hll
    simp only [List.length_cons, List.length_nil] at hll
    obtain ⟨hx, hnx, hsm⟩ := hinv.1 f (by simp)
    have hsm2 : f.sm ≤ 1 + szT f.t := by
      rw [hsm]
      have := cntL_take_le p f.t.kids f.nx
      rw [szT_eq]
      split <;> omega
    obtain ⟨hcp, hcm⟩ : l.length + 1 ≤ cp ∧ cp ≤ maxLen := by
      obtain ⟨g2, c2, e2, -, -, h1, h2⟩ := own_form hown (by omega)
      cases e2
      exact ⟨h1, h2⟩
    unfold maxLen at hcm
    have HX1 : Hid (LiesAt wx (Pl wx) f.x f.t) := hx
    obtain ⟨xb, xo, x0, x1, x2, hxe, hxp, cx0, cx1, cx2, htx⟩ := hx
    obtain ⟨rfl, rfl, -, -, hkx⟩ := trOn_iff.1 htx
    have HKX : Hid (KidsOn wx (Pl wx) f.t.kids x2) := hkx
    obtain ⟨adx, capx, rfl, -, hmx, -⟩ := hkx
    unfold maxLen at hmx
    obtain ⟨e0, e1, e2⟩ := frCells_top l f
    rw [hxe] at e0
    have p0 := own_at HO.out _ _ e0
    have p1 := own_at HO.out _ _ e1
    have p2 := own_at HO.out _ _ e2
    have q2 := (HB.out.cell (p := ⟨xb, xo + 2, none⟩) hxp.1).trans cx2
    have fz := fun j => hown.frozenAt j
    have HXE : Hid (f.x = ⟨xb, xo, none⟩ ∧ xb < wx.heap.size ∧ wx.cell? ⟨xb, xo + 2, none⟩ = some (.slice adx f.t.kids.length capx)) := ⟨hxe, hxp.1, cx2⟩
    have HSM : Hid (f.sm = (if p f.t then 1 else 0) + cntL p (f.t.kids.take f.nx)) := hsm
    have hkl : f.t.kids.length ≤ szT a := by rw [szT_eq, szL_sum] at hft; omega
    have HGG : Hid (w.heap.size + 3 ≤ g ∧ g < wr.heap.size) := by
      obtain ⟨g2, c2, e2, h1, h2, -⟩ := own_form hown (by omega)
      cases e2
      exact ⟨h1, h2⟩
    have hmb : w.heap.size + 2 < wr.heap.size := hmap.lt
    clear hinv hhd hown hmap hb hle hxe hxp cx0 cx1 cx2 htx e0 e1 e2 hsm
    by_cases hfin : f.nx = f.t.kids.length
    · have t1 : ((f.nx : Int) == f.t.kids.length) = true := by simp [hfin]
      have HF : Hid (f.nx = f.t.kids.length) := hfin
      clear hfin
      go_wp2_with fail
      go_quiet (fail)
      rename_i nq
      by_cases hl : l = []
      · have t2 : ((l.length : Int) + 1 == 1) = true := by simp [hl]
        have HR : Hid (f.sm = cntT p a) := by
          have h1 := (HI.out.pop HF.out).2.1
          subst hl
          rw [HH.out.one] at h1
          exact h1
        clear hl
        go_wp2_with fail
        go_ret
        exact ⟨ret_int (by rw [HR.out]), HBX.out.trans (below_drewN (HB.out.mono (by have := HXS.out; omega)) _)⟩
      · have t2 : ((l.length : Int) + 1 == 1) = false := by
          have : l.length ≠ 0 := fun h => hl (List.eq_nil_of_length_eq_zero h)
          simp
          omega
        have HPq : PMap embP (wr.drewN (nq + 1)) (w.heap.size + 2) (fun k => ∃ s, LiesAt wx (Pl wx) k s) M := HP.out.keep rfl
        have HBq : Below wx.heap.size wx (wr.drewN (nq + 1)) := below_drewN HB.out _
        obtain ⟨o, hrun, hpn⟩ := HPq.store ptrKc Tryz.underlying227 (fun y hy => by obtain ⟨s, hs⟩ := hy; exact hs.plain HBq) f.x (HX1.out.plain HBq) ⟨_, HX1.out⟩ (.int .i64 (f.sm : Int))
        simp only [embP] at hrun
        rw [HXE.out.1] at hrun
        have HV : Hid (TRel wx w.heap.size p a (remP wx (pput M f.x (.int .i64 (f.sm : Int))) l) (.slice (some ⟨g, 0, none⟩) l.length cp) { wr.drewN (nq + 1) with heap := (wr.drewN (nq + 1)).heap.setIfInBounds (w.heap.size + 2) o } ∧ remP wx (pput M f.x (.int .i64 (f.sm : Int))) l < remP wx M (l ++ [f])) := by
          obtain ⟨i1, -, i3⟩ := HI.out.pop HF.out
          refine ⟨?_, i3⟩
          have hh := HH.out.init hl
          rcases List.eq_nil_or_concat l with hnil | ⟨l', f', he⟩
          · exact absurd hnil hl
          rw [List.concat_eq_append] at he
          have hll' : l.length = l'.length + 1 := by rw [he]; simp
          have h1 := HO.out
          rw [frCells_snoc] at h1
          have h2 := own_cut (m := l.length) h1 (frCells_length l) (by omega)
          have h3 := own_keep h2 (w' := { wr.drewN (nq + 1) with heap := (wr.drewN (nq + 1)).heap.setIfInBounds (w.heap.size + 2) o }) (fun k hk _ => set_other_block (wr.drewN (nq + 1)) _ o (by omega))
          rw [hll']
          rw [hll'] at h3
          rw [he] at i1 hh h3 ⊢
          exact ⟨l', f', _, rfl, i1, hh, h3, ⟨_, _, rfl⟩, hpn, HBq.trans (set_below _ _ o (by have := HXS.out; omega))⟩
        clear hl hpn HPq HBq
        go_wp2_with fail
        go_region
        all_goals
          go_wp2_with fail
          go_roundg (remP wx (pput M f.x (.int .i64 (f.sm : Int))) l)
          case rel => exact HV.out.1
          case measure => exact HV.out.2
    · have t1 : ((f.nx : Int) == f.t.kids.length) = false := by simp; omega
      have hlt : f.nx < f.t.kids.length := by omega
      obtain ⟨_, _, he, -, -, hr⟩ := HKX.out
      cases he
      rcases hr with hnil | ⟨xkb, xko, rfl, hxk, hrx⟩
      · rw [hnil] at hlt; simp at hlt
      have HLZ : Hid (LiesAt wx (Pl wx) ⟨xkb, xko + f.nx * 3, none⟩ f.t.kids[f.nx]) := RowOn.liesAt hlt hxk hrx
      have HAZ : Hid (kidAddr wx f.x f.nx = ⟨xkb, xko + f.nx * 3, none⟩) := KidAt.addr ⟨xb, xo, xkb, xko, _, _, HXE.out.1, HXE.out.2.2, rfl⟩
      have HLT : Hid (f.nx < f.t.kids.length) := hlt
      have hpl : ∀ n, PlainAt (wr.drewN n) ⟨xkb, xko + f.nx * 3, none⟩ := fun n => HLZ.out.plain (below_drewN HB.out n)
      have hK2 : ∀ n y, (∃ s, LiesAt wx (Pl wx) y s) → PlainAt (wr.drewN n) y := fun n y hy => by obtain ⟨s, hs⟩ := hy; exact hs.plain (below_drewN HB.out n)
      have hlook := fun n => ((HP.out.keep (w' := wr.drewN n) rfl).look ptrKc Tryz.underlying227 (hK2 n) (zeroInt _) ⟨xkb, xko + f.nx * 3, none⟩ (hpl n)).2
      simp only [embP] at hlook
      have HPL : Hid (∀ n, PlainAt (wr.drewN n) ⟨xkb, xko + f.nx * 3, none⟩) := hpl
      have HK2 : Hid (∀ n y, (∃ s, LiesAt wx (Pl wx) y s) → PlainAt (wr.drewN n) y) := hK2
      clear hrx hxk hfin hpl hK2
      cases hM : M ⟨xkb, xko + f.nx * 3, none⟩ with
      | some v =>
        obtain ⟨cn, hcn⟩ : ∃ cn : Nat, cn = cntT p f.t.kids[f.nx] := ⟨_, rfl⟩
        obtain ⟨hv, hi2, hm2⟩ : v = .int .i64 (cn : Int) ∧ TInv wx (Pl wx) p M (l ++ [⟨f.x, f.t, f.nx + 1, f.sm + cn⟩]) ∧ remP wx M (l ++ [⟨f.x, f.t, f.nx + 1, f.sm + cn⟩]) < remP wx M (l ++ [f]) := by
          rw [hcn]
          exact HI.out.found hlt (v := v) (by rw [HAZ.out]; exact hM)
        subst hv
        have hcl : cn ≤ 1 + szT f.t := by
          have h1 := cntT_le p f.t.kids[f.nx]
          have h2 := szT_lt_szL f.t.kids f.nx hlt
          rw [← szT_eq] at h2
          omega
        rw [hM] at hlook
        simp only [Option.getD_some, Option.isSome_some] at hlook
        have HI2 : Hid (TInv wx (Pl wx) p M (l ++ [⟨f.x, f.t, f.nx + 1, f.sm + cn⟩]) ∧ remP wx M (l ++ [⟨f.x, f.t, f.nx + 1, f.sm + cn⟩]) < remP wx M (l ++ [f])) := ⟨hi2, hm2⟩
        have t3 : ((cn : Int) == -1) = false := by simp <;> omega
        clear hM hcn hi2 hm2
        go_wp2_with fail
        have HV : Hid (∀ n, TRel wx w.heap.size p a (remP wx M (l ++ [⟨f.x, f.t, f.nx + 1, f.sm + cn⟩])) (.slice (some ⟨g, 0, none⟩) (l.length + 1) cp) (((wr.drewN n).setCell ⟨g, l.length * 3 + 2, none⟩ (.int .i64 ((f.sm : Int) + (cn : Int)))).setCell ⟨g, l.length * 3 + 1, none⟩ (.int .i64 ((f.nx : Int) + 1)))) := by
          intro n
          have h1 : (wr.drewN n).ownsRow (w.heap.size + 3) 225 3 (.slice (some ⟨g, 0, none⟩) (l.length + 1) cp) (l.length + 1) (frCells (l ++ [f])) := own_keep HO.out (fun k _ _ => rfl)
          have h2 := ((h1.stored (l.length * 3 + 2) (.int .i64 ((f.sm : Int) + (cn : Int)))).1.stored (l.length * 3 + 1) (.int .i64 ((f.nx : Int) + 1))).1
          have h3 := frCells_set l f (f.nx + 1) (f.sm + cn)
          push_cast at h3
          rw [h3] at h2
          refine ⟨l, ⟨f.x, f.t, f.nx + 1, f.sm + cn⟩, M, rfl, HI2.out.1, HH.out.last rfl, h2, ⟨_, _, rfl⟩, (HP.out.keep (w' := wr.drewN n) rfl).keep ?_, ?_⟩
          · exact (Below.heap_setCell _ _ _ _ (by have := HGG.out.1; show w.heap.size + 2 ≠ g; omega)).trans (Below.heap_setCell _ _ _ _ (by have := HGG.out.1; show w.heap.size + 2 ≠ g; omega))
          · exact ((below_drewN HB.out n).setCell (by have := HGG.out.1; have := HXS.out; show wx.heap.size ≤ g; omega) _).setCell (by have := HGG.out.1; have := HXS.out; show wx.heap.size ≤ g; omega) _
        go_quiet (fail)
        go_wp2_with fail
        go_quiet (fail)
        go_wp2_with fail
        go_roundg (remP wx M (l ++ [⟨f.x, f.t, f.nx + 1, f.sm + cn⟩]))
        case rel => exact HV.out _
        case measure => exact HI2.out.2
      | none =>
        obtain ⟨n1, hn1⟩ : ∃ n : Nat, n = (if p f.t.kids[f.nx] then 1 else 0) := ⟨_, rfl⟩
        have HN1 : Hid (n1 = (if p f.t.kids[f.nx] then 1 else 0)) := hn1
        have HI2 : Hid (TInv wx (Pl wx) p (pput M ⟨xkb, xko + f.nx * 3, none⟩ (.int .i64 (-1))) (l ++ [f] ++ [⟨⟨xkb, xko + f.nx * 3, none⟩, f.t.kids[f.nx], 0, n1⟩]) ∧ remP wx (pput M ⟨xkb, xko + f.nx * 3, none⟩ (.int .i64 (-1))) (l ++ [f] ++ [⟨⟨xkb, xko + f.nx * 3, none⟩, f.t.kids[f.nx], 0, n1⟩]) < remP wx M (l ++ [f])) := by
          have h := HI.out.push hlt (by rw [HAZ.out]; exact hM)
          rw [HAZ.out] at h
          rw [hn1]
          exact h
        rw [hM] at hlook
        simp only [Option.getD_none, Option.isSome_none] at hlook
        clear hM hn1
        go_wp2_with fail
        go_quiet (fail)
        go_wp2_with fail
        go_quiet (fail)
        go_wp2_with (first
          | (at_mapUpdate; go_must (refine wpList_store_v _ rfl _ _ _ 227 rfl 223 3 ptrKc Tryz.underlying227 (w.heap.size + 2) _ M rfl (HP.out.keep rfl) (HK2.out _) ⟨xkb, xko + f.nx * 3, none⟩ rfl (HPL.out _) ⟨_, HLZ.out⟩ (.int .i64 (-1)) rfl ?_); go_must (intro w1 hp hg hz1); go_must (have HP1 : Hid (PMap embP w1 (w.heap.size + 2) (fun k => ∃ s, LiesAt wx (Pl wx) k s) (pput M ⟨xkb, xko + f.nx * 3, none⟩ (.int .i64 (-1)))) := hp); go_must (have HX3 : Hid (∀ k, k < wr.heap.size → k ≠ w.heap.size + 2 → w1.heap[k]? = wr.heap[k]?) := fun k h1 h2 => hg.block k h1 (by simp; omega)); go_must (have HZ3 : Hid (w1.heap.size = wr.heap.size) := hz1); go_must (have HB1 : Hid (Below wx.heap.size wx w1) := ⟨hg.os.trans HB.out.os, hg.tape.trans HB.out.tape, hg.output.trans HB.out.output, Nat.le_trans HB.out.size (Nat.le_of_eq hz1.symm), fun k hk => (hg.block k (Nat.lt_of_lt_of_le hk HB.out.size) (by have := HXS.out; simp; omega)).trans (HB.out.block k hk)⟩); clear hp hg hz1 hlook)
          | (go_at_call 161; go_must (refine (HBG.out ⟨xkb, xko + f.nx * 3, none⟩ f.t.kids[f.nx] n1 _ HN1.out HB1.out HLZ.out).mono ?_); go_must (rintro e w2 ⟨rfl, hb2⟩); go_must (have HB2' : Hid (Below w1.heap.size w1 w2) := hb2); go_must (have hz2 : wr.heap.size ≤ w2.heap.size := by have := hb2.size; have := HZ3.out; omega); clear hb2)
          | (at_builtin; go_must (refine wpList_append_own _ rfl _ _ 228 rfl (w.heap.size + 3) 225 iE zE 3 24 Tryz.underlying228 HE.out.1 HE.out.2.1 HE.out.2.2.1 HE.out.2.2.2.1 HE.out.2.2.2.2 (by decide) _ _ _ rfl (own_keep (w := wr) HO.out (fun k h1 h2 => ((Deep.blk_alloc_lt _ _ k (by omega)).trans (HB2'.out.block k (by have := HZ3.out; omega))).trans (HX3.out k h2 (by omega)))) ⟨w2.heap.size, 0, none⟩ 1 1 [.pointer (some ⟨xkb, xko + f.nx * 3, none⟩), .int .i64 0, .int .i64 (n1 : Int)] rfl rfl (fun j u hu => box2_cell w2 _ _ j u (by simpa using hu)) (by simp [Value.oneCell']) (by unfold maxLen; omega) (by omega) (by rw [Deep.nblk_alloc]; omega) ?_); go_must (intro v' w3 hown' hgrow hnil); go_must (have HO3 : Hid (w3.ownsRow (w.heap.size + 3) 225 3 v' (l.length + 1 + 1) (frCells (l ++ [f]) ++ [.pointer (some ⟨xkb, xko + f.nx * 3, none⟩), .int .i64 0, .int .i64 (n1 : Int)])) := hown'); go_must (have HB3 : Hid (∀ k, k < wr.heap.size → k < w.heap.size + 3 → w3.heap[k]? = w1.heap[k]?) := fun k h1 h2 => ((hgrow.block k (by rw [Deep.nblk_alloc]; omega) (fun e => by have := own_block HO.out e; omega)).trans (Deep.blk_alloc_lt _ _ k (by omega))).trans (HB2'.out.block k (by have := HZ3.out; omega))); go_must (have HB4 : Hid (Below wx.heap.size wx w3) := ⟨(by rw [hgrow.os]; exact HB2'.out.os.trans HB1.out.os), (by rw [hgrow.tape]; exact HB2'.out.tape.trans HB1.out.tape), (by rw [hgrow.output]; exact HB2'.out.output.trans HB1.out.output), Nat.le_trans HB1.out.size (Nat.le_trans HB2'.out.size (by have := hgrow.size; rw [Deep.nblk_alloc] at this; omega)), fun k hk => (HB3.out k (Nat.lt_of_lt_of_le hk HB.out.size) (by have := HXS.out; omega)).trans (HB1.out.block k hk)⟩); go_must (obtain ⟨g3, c3, rfl, -⟩ := own_form hown' (by omega)); clear hown' hgrow hnil))
        go_roundg (remP wx (pput M ⟨xkb, xko + f.nx * 3, none⟩ (.int .i64 (-1))) (l ++ [f] ++ [⟨⟨xkb, xko + f.nx * 3, none⟩, f.t.kids[f.nx], 0, n1⟩]))
        case rel =>
          refine ⟨l ++ [f], ⟨⟨xkb, xko + f.nx * 3, none⟩, f.t.kids[f.nx], 0, n1⟩, _, rfl, HI2.out.1, HH.out.snoc _, ?_, ⟨g3, c3, by simp⟩, HP1.out.keep (HB3.out _ hmb (by omega)), HB4.out⟩
          rw [frCells_snoc]
          simpa using HO3.out
        case measure => exact HI2.out.2
end Go.Proofs.YtiipcgnkfhjpeaaGreatDoor.cntCall
/-
  HOW MANY CELLS A TREE GIVES: as many as it has nodes that are no variables. No program is named here.
-/
namespace Go.Proofs.YtiipcgnkfhjpeaaGreatDoor
open Go.RowKit

/-- a node that is no variable -/
def noV (t : Tr) : Bool := t.op != 1
mutual
theorem addT_len (args : List Nat) (n : Nat) : ∀ (t : Tr) (g : List Ce), AllT (VarOk n) t → (addT args t g).1.length = g.length + cntT noV t
  | .node o m ks, g, h => by
    obtain ⟨hv, hk⟩ := (allT_iff _ _).1 h
    by_cases h1 : o = 1
    · have e : ks = [] := (hv h1).2.2
      rw [addT_var (t := .node o m ks) g h1]
      subst e
      simp [cntT, cntL, noV, h1]
    · have hl := addL_len args n ks g hk
      rw [addT_other (t := .node o m ks) g h1, List.length_append]
      have e : noV (.node o m ks) = true := by simp [noV, h1]
      simp only [cntT, e, if_true, Tr.kids_node, List.length_cons, List.length_nil]
      omega
theorem addL_len (args : List Nat) (n : Nat) : ∀ (ts : List Tr) (g : List Ce), AllL (VarOk n) ts → (addL args ts g).1.length = g.length + cntL noV ts
  | [], g, _ => by simp [addL, cntL]
  | t :: ts, g, h => by
    have h1 := addT_len args n t g h.1
    have h2 := addL_len args n ts (addT args t g).1 h.2
    simp only [addL, cntL]
    omega
end
end Go.Proofs.YtiipcgnkfhjpeaaGreatDoor
/-
  THE COUNT OF A BODY's NODES THAT ARE NO VARIABLES, as (*reducer).call asks for it; nothing that was there is changed.
-/
namespace Go.Proofs.YtiipcgnkfhjpeaaGreatDoor
set_option linter.unusedVariables false
set_option linter.unusedSimpArgs false
open Go.RowKit

set_option maxHeartbeats 400000 in
theorem want_noV (w0 : World) (vb : Nat) : cntCall.WantSaid w0 vb noV := by
  intro t c W hb hk
  obtain ⟨ad, cap, rfl, -, -, -⟩ := hk
  clear hb
  go_enter Tryz.func159, Tryz.ntmps159
  go_wp2_with fail
  go_ret
  exact ⟨rfl, box_below _ _⟩
/-- how many nodes of a body are no variables -/
theorem cntNoV_calls (a : Tr) (c : Value) (w : World) (hc : InP w a.kids c) (ha : I64 a.op ∧ I64 a.num) (hz : szT a ≤ 1099511627776) :
    Calls Tryz.prog 158 #[.agg #[.int .i64 a.op, .int .i64 a.num, c], .func (.func 159) #[] #[]] w fun e w' => e = .returned (.int .i64 (cntT noV a : Int)) ∧ Below w.heap.size w w' :=
  cntCall.implCount_calls 0 noV a c w (want_noV w 0) hc ha hz
end Go.Proofs.YtiipcgnkfhjpeaaGreatDoor
/-
  slices.Backward OF A LIST OF INTS: the iterator that it hands back.
-/
namespace Go.Proofs.YtiipcgnkfhjpeaaGreatDoor
set_option linter.unusedVariables false
set_option linter.unusedSimpArgs false
open Go.RowKit

set_option maxHeartbeats 400000 in
theorem backward_calls (ad : Option Addr) (n cap : Nat) (w : World) :
    Calls Tryz.prog 160 #[.slice ad n cap] w fun e w' => e = .returned (.func (.func 162) #[] #[.pointer (some ⟨w.heap.size, 0, none⟩)]) ∧ w'.heap[w.heap.size]? = some (.cells #[.slice ad n cap] 88) ∧ Below w.heap.size w w' := by
  have hmf : ∀ (fn : Fn) (first cap : Array Value) (w : World), (Instr.makeFunc fn first cap).run Tryz.prog w = .ok (.func fn first cap) w := fun _ _ _ _ => rfl
  go_enter Tryz.func160, Tryz.ntmps160
  go_wp2_with fail
  go_ret
  exact ⟨rfl, Deep.blk_alloc_new _ _, box_below _ _⟩
end Go.Proofs.YtiipcgnkfhjpeaaGreatDoor
/-
  A REGION THAT DRAWS ITS ORDER, IN A ROUND OF A RANGE OVER A FUNCTION: by the moves of a plain region with a condition that is kept (no operation of it defers; none enters a row).
-/
namespace Go.Proofs.YtiipcgnkfhjpeaaGreatDoor
set_option linter.unusedVariables false
set_option linter.unusedSimpArgs false
open Go.RowKit

/-- no defer statement -/
def noDefer (o : Oper) : Bool := match o.op with
  | .defer _ => false
  | _ => true
theorem semAt_noDefer {o : Oper} (h : noDefer o = true) (l : Nat) (ρ : Operand → Value) : o.semAt (some l) ρ = execOp ρ o :=
  Oper.semAt_some l ρ o (fun c e => by unfold noDefer at h; rw [e] at h; cases h)
/-- a row is entered in a round as anywhere -/
theorem rows_inRound {P : Program} {row : String} {args : Array Value} {w : World} {R : Value → World → Prop} (n : Nat) (l : Nat) (h : Rows P row args w R) : RowsIn (Fence.wide.inRound l) n P row args w R := by
  intro c cs _
  obtain ⟨v, w', r, s⟩ := h c cs
  exact ⟨v, w', r, stepsIn_wide.2 s⟩
theorem wpIn_of_wp {P : Program} {o : Oper} {a : Act} {w : World} {K : Act → World → Prop} {Q : Exit → Act → World → Prop} (n l : Nat) (hd : noDefer o = true) (h : o.wp P a w K Q) : o.wpIn (Fence.wide.inRound l) n P a w K Q := by
  refine ⟨fun f _ => trivial, ?_⟩
  rw [show (Fence.wide.inRound l).round = some l from rfl, semAt_noDefer hd]
  unfold Oper.wp at h
  generalize (execOp a.eval o).run P w = r at h ⊢
  cases r with
  | ok x w' =>
    cases x with
    | value v => exact h
    | skip => exact h
    | defer d => exact h
    | enter f args => exact ⟨(fun hd => by cases hd), CallsIn.inRound l (callsIn_wide.2 h)⟩
    | row row args => exact ⟨(fun hd => by cases hd), rows_inRound _ l h⟩
    | _ => exact h.elim
  | halt x w' =>
    cases x <;> first | exact h | exact h.elim
theorem opsIn_of_ops {P : Program} {ops : Array Oper} {Q : Exit → Act → World → Prop} (n l : Nat) (hd : ∀ (i : Nat) (o : Oper), ops[i]? = some o → noDefer o = true) (hQ : ∀ a w, ¬ Q .outgrown a w) : ∀ (is : List Nat) (a : Act) (w : World), wpOps P ops Q is a w → wpOpsIn (Fence.wide.inRound l) n P ops Q is a w
  | [], _, _, h => h
  | i :: rest, a, w, h => by
    simp only [wpOps, wpOpsIn] at h ⊢
    cases ho : ops[i]? with
    | none =>
      rw [ho] at h
      exact opsIn_of_ops n l hd hQ rest a w h
    | some o =>
      rw [ho] at h
      simp only at h ⊢
      split
      · rename_i hw
        rw [if_pos hw] at h
        rcases h with h | ⟨-, a1, w1, h⟩
        · exact wpIn_of_wp n l (hd i o ho) (Oper.wp_mono (fun a w h => opsIn_of_ops n l hd hQ rest a w h) h)
        · exact absurd h (hQ a1 w1)
      · rename_i hw
        rw [if_neg hw] at h
        exact ⟨fun f _ => trivial, opsIn_of_ops n l hd hQ rest _ w h⟩
/-- the beginning -/
theorem wpIn_region_held {P : Program} {ops : Array Oper} {Q : Exit → Act → World → Prop} {S : World → Prop} {id n l : Nat} {a : Act} {w : World} (hm : P.follows .mixedOrders = true) (hd : ops.all noDefer = true) (hQ : ∀ a w, ¬ Q .outgrown a w)
    (hS : S w.drew) (h : S w.drew → wpAnyH P .any ops Q S ops.size (Array.replicate ops.size false) a w.drew) : (Code.region id ops true).wpIn (Fence.wide.inRound l) n P Q a w :=
  wpIn_region_draw fun t => by
    simp only [Region.schedule, hm, Bool.true_or, if_true]
    refine opsIn_of_ops n l (fun i o ho => ?_) hQ _ _ _ (wpAny_sound ops.size t _ a _ (wpAny_of_held _ _ _ _ (h hS)))
    rw [Array.all_eq_true] at hd
    obtain ⟨hi, rfl⟩ := Array.getElem?_eq_some_iff.1 ho
    exact hd i hi
end Go.Proofs.YtiipcgnkfhjpeaaGreatDoor
