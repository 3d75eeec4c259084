/-
  THE PROGRAM's forwardAll: the places of the copies of cells, in a new row.
-/
import Derived.Test.YtjpjikfmdaejeabImplFwd
namespace Go.Proofs.Ytjpjikfmdaejeab
set_option linter.unusedVariables false
set_option linter.unusedSimpArgs false
open Go.RowKit Go.Maps

theorem CopW.next {C M lo : Nat} {g : List Ce} {fv : Value} {o : List Nat} {i : Nat} {U V : Nat → Prop} {gv ov : Value} {w w' : World} (h : CopW C M lo g fv o i U gv ov w) (hV : ∀ k, U k → k < w.heap.size → V k) (hb : ∀ k, U k → k < w.heap.size → w'.heap[k]? = w.heap[k]?) (hl : ∀ k, k < lo → w'.heap[k]? = w.heap[k]?) : CopW C M lo g fv o i V gv ov w' := by
  obtain ⟨xs, hx⟩ := h.cells.row
  have hgl : ∀ k, some k = gv.ownBlock → k < w.heap.size := fun k e => (own_some hx k e.symm).2
  have hol : ∀ k, some k = ov.ownBlock → k < w.heap.size := fun k e => (own_some h.order k e.symm).2
  refine ⟨(hb C h.cU h.lt).trans h.box, h.cells.next (fun k hk hkl => ⟨hV k hk.1 hkl, hk.2⟩) (fun k e hk => hb k (h.gU k e) hk) (fun k D hS hk _ => hb k hS.1 hk) hl, ?_, h.map.of_block (hb M h.mU h.map.lt), fun k e => hV k (h.gU k e) (hgl k e), fun k e => hV k (h.oU k e) (hol k e), hV C h.cU h.lt, hV M h.mU h.map.lt, h.cl, h.ml, h.src.mono (fun _ h => h) fun k hk => hl k hk⟩
  refine ⟨h.order.1, ?_⟩
  rcases h.order.2 with h' | ⟨b, cap, cur, e, hg, hh, r⟩
  · exact Or.inl h'
  · exact Or.inr ⟨b, cap, cur, e, hg, (hb b (h.oU b (by rw [e]; rfl)) (Array.getElem?_eq_some_iff.1 hh).1).trans hh, r⟩
theorem cl_pre {g : List Ce} {o o' : List Nat} {i : Nat} (hp : o <+: o') (hi : i ≤ o.length) (hcl : ∀ j, j < i → ∀ k ∈ kidsN g (o.getD j 0), k ∈ o) : ∀ j, j < i → ∀ k ∈ kidsN g (o'.getD j 0), k ∈ o' := by
  intro j hj k hk
  rw [getD_pre hp (by omega)] at hk
  exact hp.subset (hcl j hj k hk)
theorem Stk.only {w w' : World} {lo : Nat} {ws : List Nat} {v : Value} (h : Stk w lo ws v) (hb : ∀ k, some k = v.ownBlock → k < w.heap.size → w'.heap[k]? = w.heap[k]?) : Stk w' lo ws v := by
  refine ⟨h.1, ?_⟩
  rcases h.2 with h' | ⟨b, cap, cur, e, hg, hh, r⟩
  · exact Or.inl h'
  · exact Or.inr ⟨b, cap, cur, e, hg, (hb b (by rw [e]; rfl) (Array.getElem?_eq_some_iff.1 hh).1).trans hh, r⟩
/-- what forwardAll hands back -/
def FwdAll (C M lo : Nat) (g : List Ce) (fv : Value) (o : List Nat) (i : Nat) (ls : List Nat) (U : Nat → Prop) (w : World) (e : Ending) (w' : World) : Prop :=
  ∃ pv gv' ov', e = .returned pv ∧ Stk w' w.heap.size (ls.map (posN (visitL o ls))) pv ∧ CopW C M lo g fv (visitL o ls) i (fun k => (U k ∨ w.heap.size ≤ k) ∧ some k ≠ pv.ownBlock) gv' ov' w' ∧ ButP U w w'
/-- what holds behind k places -/
structure FaRel (C M lo : Nat) (g : List Ce) (fv : Value) (o : List Nat) (i : Nat) (ls : List Nat) (U : Nat → Prop) (w : World) (k : Nat) (pv : Value) (wr : World) : Prop where
  places : Stk wr w.heap.size ((ls.take k).map (posN (visitL o (ls.take k)))) pv
  cop : ∃ gv ov, CopW C M lo g fv (visitL o (ls.take k)) i (fun k => (U k ∨ w.heap.size ≤ k) ∧ some k ≠ pv.ownBlock) gv ov wr
  but : ButP U w wr
  cs : Cs g.length (visitL o (ls.take k))
theorem FaRel.push {C M lo : Nat} {g : List Ce} {fv : Value} {o : List Nat} {i : Nat} {ls : List Nat} {U : Nat → Prop} {w : World} {k x : Nat} {pv pv' : Value} {wr w1 w5 : World} {obj : Obj} {gv1 ov1 : Value} (h : FaRel C M lo g fv o i ls U w k pv wr) (hx : ls[k]? = some x) (hxl : x < g.length) (hlo : lo ≤ w.heap.size)
    (h1 : CopW C M lo g fv (visit (visitL o (ls.take k)) x) i (fun y => ((U y ∨ w.heap.size ≤ y) ∧ some y ≠ pv.ownBlock) ∨ wr.heap.size ≤ y) gv1 ov1 w1) (hb1 : ButP (fun y => (U y ∨ w.heap.size ≤ y) ∧ some y ≠ pv.ownBlock) wr w1)
    (hst : Stk w5 w.heap.size ((ls.take k).map (posN (visitL o (ls.take k))) ++ [posN (visit (visitL o (ls.take k)) x) x]) pv') (hg : (w1.alloc obj).grownBy w5 pv.ownBlock) (hw : pv'.ownBlock = pv.ownBlock ∨ ∃ q, pv'.ownBlock = some q ∧ (w1.alloc obj).heap.size ≤ q) : FaRel C M lo g fv o i ls U w (k + 1) pv' w5 := by
  have hs1 := hb1.size
  have hsr := h.but.size
  have hs5 := hg.size
  rw [Deep.nblk_alloc] at hs5 hw
  have hvl : visitL o (ls.take (k + 1)) = visit (visitL o (ls.take k)) x := by rw [take_snoc hx, visitL_snoc]
  have hpv : ∀ y, some y = pv.ownBlock → w.heap.size ≤ y ∧ y < wr.heap.size := fun y e => own_some h.places y e.symm
  have k5 : ∀ y, y < w1.heap.size → some y ≠ pv.ownBlock → w5.heap[y]? = w1.heap[y]? := fun y hy hn => (hg.block y (by rw [Deep.nblk_alloc]; omega) hn).trans (Deep.blk_alloc_lt _ _ _ hy)
  have hpv' : ∀ y, some y = pv'.ownBlock → some y = pv.ownBlock ∨ w1.heap.size < y := by
    intro y hy
    rcases hw with e | ⟨q, e, hq⟩
    · rw [e] at hy; exact Or.inl hy
    · rw [e] at hy; simp only [Option.some.injEq] at hy; exact Or.inr (by omega)
  refine ⟨?_, ⟨gv1, ov1, ?_⟩, ?_, ?_⟩
  · rw [hvl, take_snoc hx, List.map_append, List.map_singleton]
    have e : (ls.take k).map (posN (visit (visitL o (ls.take k)) x)) = (ls.take k).map (posN (visitL o (ls.take k))) := List.map_congr_left fun y hy => posN_pre (visit_pre _ _) (visitL_mem _ _ _ hy)
    rw [e]; exact hst
  · rw [hvl]
    refine h1.next (fun y hy hyl => ⟨?_, fun e => ?_⟩) (fun y hy hyl => k5 y hyl fun e => ?_) fun y hy => k5 y (by omega) fun e => by have := (hpv y e).1; omega
    · rcases hy with hy | hy
      · exact hy.1
      · exact Or.inr (by omega)
    · rcases hpv' y e with e | e
      · rcases hy with hy | hy
        · exact hy.2 e
        · have := (hpv y e).2; omega
      · omega
    · rcases hy with hy | hy
      · exact hy.2 e
      · have := (hpv y e).2; omega
  · refine ⟨?_, ?_, ?_, by omega, fun y hy hn => ?_⟩
    · exact (hg.os.trans hb1.os).trans h.but.os
    · exact (hg.tape.trans hb1.tape).trans h.but.tape
    · exact (hg.output.trans hb1.output).trans h.but.output
    · refine ((k5 y (by omega) fun e => by have := (hpv y e).1; omega).trans (hb1.block y (by omega) fun e => ?_)).trans (h.but.block y hy hn)
      rcases e.1 with e | e
      · exact hn e
      · omega
  · rw [hvl]; exact h.cs.visit hxl
theorem wsnoc {w : World} {lo n q : Nat} {ws : List Nat} {v : Value} (hl : ws.length = q) (h : w.ownsRow lo 3 1 v (q + 1) (plV ws ++ [.int .i64 (n : Int)])) : Stk w lo (ws ++ [n]) v := by
  subst hl; exact stk_snoc2 h

set_option maxRecDepth 100000 in
set_option maxHeartbeats 1600000 in
theorem forwardAll_calls (C M lo : Nat) (g : List Ce) (fv : Value) (o : List Nat) (i : Nat) (ls : List Nat) (lv : Value) (U : Nat → Prop) (gv ov : Value) (w : World) (h : CopW C M lo g fv o i U gv ov w) (hlo : lo ≤ w.heap.size) (hg : graphB g 6 = true) (hcs : Cs g.length o) (hi : i ≤ o.length) (hcl : ∀ j, j < i → ∀ k ∈ kidsN g (o.getD j 0), k ∈ o) (hll : ∀ x ∈ ls, x < g.length) (hz : ls.length ≤ 1048576) (hU : ∀ k, U k → lo ≤ k) (hlv : IntsOn w (Lt lo) (plI ls) lv) :
    Calls Try.prog 60 #[.pointer (some ⟨C, 0, none⟩), lv] w (FwdAll C M lo g fv o i ls U w) := by
  have HG := mkHid hg
  have HCL := mkHid hcl
  have HLL := mkHid hll
  have HLV := mkHid hlv
  have HU := mkHid hU
  have HI := mkHid hi
  have HST : Hid (FaRel C M lo g fv o i ls U w 0 (.slice none 0 0) w) := ⟨World.ownsRow_nil _ _ _ _, ⟨gv, ov, h.next (fun k hk _ => ⟨Or.inl hk, by simp [Value.ownBlock]⟩) (fun _ _ _ => rfl) fun _ _ => rfl⟩, ButP.refl _ _, hcs⟩
  obtain ⟨adl, capl, rfl, hlc, hlm⟩ := pl_form (hlv.mono (S' := Lt w.heap.size) (fun k (hk : k < lo) => Nat.lt_of_lt_of_le hk hlo) fun _ _ => rfl)
  unfold maxLen at hlm
  clear h hg hcl hll hlv hU hcs
  go_enter Try.func60, Try.ntmps60
  go_wp2_with fail
  go_loopw [5, 10] (fun pv z wr => ∃ k : Nat, k ≤ ls.length ∧ z = .int .i64 k ∧ FaRel C M lo g fv o i ls U w k pv wr) (fun _ z _ => ls.length - (intOf z).toNat)
  case atStart => exact ⟨0, Nat.zero_le _, rfl, HST.out⟩
  case round =>
    obtain ⟨k, hk, rfl, hr⟩ := hrel
    have HR := mkHid hr
    have hjl : ((ls.take k).map (posN (visitL o (ls.take k)))).length = k := by rw [List.length_map, List.length_take]; omega
    have HJL := mkHid hjl
    obtain ⟨adp, capp, rfl⟩ : ∃ ad cap, u5 = .slice ad k cap := by obtain ⟨x, y, e⟩ := hr.places.len; rw [hjl] at e; exact ⟨x, y, e⟩
    clear hr hjl
    by_cases hlt : k < ls.length
    · obtain ⟨bl, off, x, rfl, hbl, hx, hxm, d0w⟩ := pl_at (HLV.out.mono (S' := Lt w.heap.size) (fun k (hk : k < lo) => Nat.lt_of_lt_of_le hk hlo) fun _ _ => rfl) k hlt
      have hbll : bl < lo := by
        obtain ⟨bl', off', e, hb, -⟩ := HLV.out.atS k (by rw [plI_length]; exact hlt)
        cases e; exact hb
      have hxl := HLL.out x hxm
      have HX := mkHid hx
      have d0 := (World.cell?_of_block (a := ⟨bl, off + k, none⟩) (HR.out.but.block bl hbl fun e => by have := HU.out bl e; omega)).trans d0w
      obtain ⟨gv1, ov1, hc⟩ := HR.out.cop
      have HC := mkHid hc
      obtain ⟨o', ho'⟩ : ∃ o', o' = visitL o (ls.take k) := ⟨_, rfl⟩
      have HO' := mkHid ho'
      have HCALL : Hid (Calls Try.prog 81 #[.pointer (some ⟨C, 0, none⟩), .int .i64 (x : Int)] wr (Fwd C M lo g fv (visitL o (ls.take k)) i x (fun y => (U y ∨ w.heap.size ≤ y) ∧ some y ≠ (Value.slice adp k capp).ownBlock) wr)) :=
        forward_calls C M lo g fv _ i x _ gv1 ov1 wr hc (Nat.le_trans hlo HR.out.but.size) HG.out HR.out.cs (Nat.le_trans HI.out (visitL_pre _ _).length_le) (cl_pre (visitL_pre _ _) HI.out HCL.out) hxl
      obtain ⟨iI, zI, hII⟩ := infoI1
      have HII : Hid (Try.prog.info? 3 = some iI ∧ iI.zero = some zI ∧ iI.size = 1 ∧ iI.bytes = 8 ∧ zI.cells.size = 1) := hII
      clear hII hc d0w hx hxm ho'
      go_wp2_with fail
      refine HCALL.out.mono ?_
      rintro e w1 ⟨rfl, gv2, ov2, hc2, hb2⟩
      have HC2 := mkHid hc2
      have HB2 := mkHid hb2
      obtain ⟨m, hm⟩ : ∃ m, m = posN (visit (visitL o (ls.take k)) x) x := ⟨_, rfl⟩
      have HM := mkHid hm
      rw [← hm]
      have HS1 : Hid (Stk (w1.alloc (.cells #[.int .i64 (m : Int)] 3)) w.heap.size ((ls.take k).map (posN (visitL o (ls.take k)))) (.slice adp k capp)) := (HR.out.places.only fun y e hy => hb2.block y hy fun e2 => e2.2 e).alloc _
      have HZ1 : Hid (w.heap.size ≤ w1.heap.size) := Nat.le_trans HR.out.but.size hb2.size
      have HS1r : Hid ((w1.alloc (.cells #[.int .i64 (m : Int)] 3)).ownsRow w.heap.size 3 1 (.slice adp k capp) k (plV ((ls.take k).map (posN (visitL o (ls.take k)))))) := by
        have h := HS1.out
        unfold Stk at h
        rw [HJL.out] at h; exact h
      clear hc2 hb2 hm d0
      go_wp2_with (at_builtin; go_must (refine wpList_append_where _ rfl _ _ 29 rfl w.heap.size 3 iI zI 1 8 Try.underlying29 HII.out.1 HII.out.2.1 HII.out.2.2.1 HII.out.2.2.2.1 HII.out.2.2.2.2 (by decide) (.slice adp k capp) k (plV ((ls.take k).map (posN (visitL o (ls.take k))))) rfl HS1r.out ⟨w1.heap.size, 0, none⟩ 1 1 [.int .i64 (m : Int)] rfl rfl (news1i w1 _) (by simp [Value.oneCell']) (by unfold maxLen; omega) (by omega) (by rw [Deep.nblk_alloc]; have := HZ1.out; omega) (by omega) ?_); go_must (intro v' w3 hown hg3 hw3); go_must (have HO3 := mkHid hown); go_must (have HG3 := mkHid hg3); go_must (have HW3 := mkHid hw3); clear hown hg3 hw3)
      have HR3 : Hid (FaRel C M lo g fv o i ls U w (k + 1) v' w3) := HR.out.push HX.out hxl hlo HC2.out HB2.out (by rw [← HM.out]; exact wsnoc HJL.out HO3.out) HG3.out HW3.out
      go_roundw
      case rel => first | exact ⟨k + 1, by omega, by go_num, HR3.out⟩ | ((repeat apply Exists.intro); exact ⟨⟨k + 1, by omega, by go_num, HR3.out⟩, rfl⟩)
      case measure => simp [intOf]; omega
    · have hke : k = ls.length := by omega
      have HV : Hid (FwdAll C M lo g fv o i ls U w (.returned (.slice adp k capp)) wr) := by
        have h := HR.out
        rw [hke] at h ⊢
        obtain ⟨h1, ⟨gv1, ov1, h2⟩, h3, h4⟩ := h
        rw [List.take_length] at h1 h2
        exact ⟨_, gv1, ov1, rfl, h1, h2, h3⟩
      clear hke
      go_wp2_with fail
      go_ret
      exact HV.out
end Go.Proofs.Ytjpjikfmdaejeab
