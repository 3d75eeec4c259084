/-
  THE PROGRAM's forwardAll: the places of the copies of cells, in a new row.
-/
import Derived.Test.YtiipcgnkfhjpeaaGreatDoorMgExactEvalRun36
import Derived.Test.YtiipcgnkfhjpeaaGreatDoorMgExactEvalRun10
import Derived.Test.YtiipcgnkfhjpeaaGreatDoorMgExactEvalRun11
namespace Go.Proofs.YtiipcgnkfhjpeaaGreatDoor
set_option linter.unusedVariables false
set_option linter.unusedSimpArgs false
open Go.RowKit Go.Maps

theorem CopW.next {C M lo : Nat} {g : List Ce} {fv : Value} {o : List Nat} {i : Nat} {U V : Nat → Prop} {gv ov : Value} {w w' : World} (h : CopW C M lo g fv o i U gv ov w) (hV : ∀ k, U k → k < w.heap.size → V k) (hb : ∀ k, U k → k < w.heap.size → w'.heap[k]? = w.heap[k]?) (hl : ∀ k, k < lo → w'.heap[k]? = w.heap[k]?) : CopW C M lo g fv o i V gv ov w' := by
  obtain ⟨xs, hx⟩ := h.cells.row
  have hgl : ∀ k, some k = gv.ownBlock → k < w.heap.size := fun k e => (own_some hx k e.symm).2
  have hol : ∀ k, some k = ov.ownBlock → k < w.heap.size := fun k e => (own_some h.order k e.symm).2
  refine ⟨(hb C h.cU h.lt).trans h.box, h.cells.next (fun k hk hkl => ⟨hV k hk.1 hkl, hk.2⟩) (fun k e hk => hb k (h.gU k e) hk) (fun k D hS hk _ => hb k hS.1 hk) hl, ?_, h.map.of_block (hb M h.mU h.map.lt), fun k e => hV k (h.gU k e) (hgl k e), fun k e => hV k (h.oU k e) (hol k e), hV C h.cU h.lt, hV M h.mU h.map.lt, h.cl, h.ml, h.src.mono (fun _ h => h) fun k hk => hl k hk⟩
  refine ⟨h.order.1, ?_⟩
  rcases h.order.2 with h' | ⟨b, cap, cur, e, hg, hh, r⟩
  · exact Or.inl h'
  · exact Or.inr ⟨b, cap, cur, e, hg, (hb b (h.oU b (by rw [e]; rfl)) (Array.getElem?_eq_some_iff.1 hh).1).trans hh, r⟩
theorem cl_pre {g : List Ce} {o o' : List Nat} {i : Nat} (hp : o <+: o') (hi : i ≤ o.length) (hcl : ∀ j, j < i → ∀ k ∈ kidsN g (o.getD j 0), k ∈ o) : ∀ j, j < i → ∀ k ∈ kidsN g (o'.getD j 0), k ∈ o' := by
  intro j hj k hk
  rw [getD_pre hp (by omega)] at hk
  exact hp.subset (hcl j hj k hk)
theorem Stk.only {w w' : World} {lo : Nat} {ws : List Nat} {v : Value} (h : Stk w lo ws v) (hb : ∀ k, some k = v.ownBlock → k < w.heap.size → w'.heap[k]? = w.heap[k]?) : Stk w' lo ws v := by
  refine ⟨h.1, ?_⟩
  rcases h.2 with h' | ⟨b, cap, cur, e, hg, hh, r⟩
  · exact Or.inl h'
  · exact Or.inr ⟨b, cap, cur, e, hg, (hb b (by rw [e]; rfl) (Array.getElem?_eq_some_iff.1 hh).1).trans hh, r⟩
/-- what forwardAll hands back -/
def FwdAll (C M lo : Nat) (g : List Ce) (fv : Value) (o : List Nat) (i : Nat) (ls : List Nat) (U : Nat → Prop) (w : World) (e : Ending) (w' : World) : Prop :=
  ∃ pv gv' ov', e = .returned pv ∧ Stk w' w.heap.size (ls.map (posN (visitL o ls))) pv ∧ CopW C M lo g fv (visitL o ls) i (fun k => (U k ∨ w.heap.size ≤ k) ∧ some k ≠ pv.ownBlock) gv' ov' w' ∧ ButP U w w'
/-- what holds behind k places -/
structure FaRel (C M lo : Nat) (g : List Ce) (fv : Value) (o : List Nat) (i : Nat) (ls : List Nat) (U : Nat → Prop) (w : World) (k : Nat) (pv : Value) (wr : World) : Prop where
  places : Stk wr w.heap.size ((ls.take k).map (posN (visitL o (ls.take k)))) pv
  cop : ∃ gv ov, CopW C M lo g fv (visitL o (ls.take k)) i (fun k => (U k ∨ w.heap.size ≤ k) ∧ some k ≠ pv.ownBlock) gv ov wr
  but : ButP U w wr
  cs : Cs g.length (visitL o (ls.take k))
theorem FaRel.push {C M lo : Nat} {g : List Ce} {fv : Value} {o : List Nat} {i : Nat} {ls : List Nat} {U : Nat → Prop} {w : World} {k x : Nat} {pv pv' : Value} {wr w1 w5 : World} {obj : Obj} {gv1 ov1 : Value} (h : FaRel C M lo g fv o i ls U w k pv wr) (hx : ls[k]? = some x) (hxl : x < g.length) (hlo : lo ≤ w.heap.size)
    (h1 : CopW C M lo g fv (visit (visitL o (ls.take k)) x) i (fun y => ((U y ∨ w.heap.size ≤ y) ∧ some y ≠ pv.ownBlock) ∨ wr.heap.size ≤ y) gv1 ov1 w1) (hb1 : ButP (fun y => (U y ∨ w.heap.size ≤ y) ∧ some y ≠ pv.ownBlock) wr w1)
    (hst : Stk w5 w.heap.size ((ls.take k).map (posN (visitL o (ls.take k))) ++ [posN (visit (visitL o (ls.take k)) x) x]) pv') (hg : (w1.alloc obj).grownBy w5 pv.ownBlock) (hw : pv'.ownBlock = pv.ownBlock ∨ ∃ q, pv'.ownBlock = some q ∧ (w1.alloc obj).heap.size ≤ q) : FaRel C M lo g fv o i ls U w (k + 1) pv' w5 := by
  have hs1 := hb1.size
  have hsr := h.but.size
  have hs5 := hg.size
  rw [Deep.nblk_alloc] at hs5 hw
  have hvl : visitL o (ls.take (k + 1)) = visit (visitL o (ls.take k)) x := by rw [take_snoc hx, visitL_snoc]
  have hpv : ∀ y, some y = pv.ownBlock → w.heap.size ≤ y ∧ y < wr.heap.size := fun y e => own_some h.places y e.symm
  have k5 : ∀ y, y < w1.heap.size → some y ≠ pv.ownBlock → w5.heap[y]? = w1.heap[y]? := fun y hy hn => (hg.block y (by rw [Deep.nblk_alloc]; omega) hn).trans (Deep.blk_alloc_lt _ _ _ hy)
  have hpv' : ∀ y, some y = pv'.ownBlock → some y = pv.ownBlock ∨ w1.heap.size < y := by
    intro y hy
    rcases hw with e | ⟨q, e, hq⟩
    · rw [e] at hy; exact Or.inl hy
    · rw [e] at hy; simp only [Option.some.injEq] at hy; exact Or.inr (by omega)
  refine ⟨?_, ⟨gv1, ov1, ?_⟩, ?_, ?_⟩
  · rw [hvl, take_snoc hx, List.map_append, List.map_singleton]
    have e : (ls.take k).map (posN (visit (visitL o (ls.take k)) x)) = (ls.take k).map (posN (visitL o (ls.take k))) := List.map_congr_left fun y hy => posN_pre (visit_pre _ _) (visitL_mem _ _ _ hy)
    rw [e]; exact hst
  · rw [hvl]
    refine h1.next (fun y hy hyl => ⟨?_, fun e => ?_⟩) (fun y hy hyl => k5 y hyl fun e => ?_) fun y hy => k5 y (by omega) fun e => by have := (hpv y e).1; omega
    · rcases hy with hy | hy
      · exact hy.1
      · exact Or.inr (by omega)
    · rcases hpv' y e with e | e
      · rcases hy with hy | hy
        · exact hy.2 e
        · have := (hpv y e).2; omega
      · omega
    · rcases hy with hy | hy
      · exact hy.2 e
      · have := (hpv y e).2; omega
  · refine ⟨?_, ?_, ?_, by omega, fun y hy hn => ?_⟩
    · exact (hg.os.trans hb1.os).trans h.but.os
    · exact (hg.tape.trans hb1.tape).trans h.but.tape
    · exact (hg.output.trans hb1.output).trans h.but.output
    · refine ((k5 y (by omega) fun e => by have := (hpv y e).1; omega).trans (hb1.block y (by omega) fun e => ?_)).trans (h.but.block y hy hn)
      rcases e.1 with e | e
      · exact hn e
      · omega
  · rw [hvl]; exact h.cs.visit hxl
theorem wsnoc {w : World} {lo n q : Nat} {ws : List Nat} {v : Value} (hl : ws.length = q) (h : w.ownsRow lo 3 1 v (q + 1) (plV ws ++ [.int .i64 (n : Int)])) : Stk w lo (ws ++ [n]) v := by
  subst hl; exact stk_snoc2 h

set_option maxRecDepth 100000 in
set_option maxHeartbeats 1600000 in
theorem forwardAll_calls (C M lo : Nat) (g : List Ce) (fv : Value) (o : List Nat) (i : Nat) (ls : List Nat) (lv : Value) (U : Nat → Prop) (gv ov : Value) (w : World) (h : CopW C M lo g fv o i U gv ov w) (hlo : lo ≤ w.heap.size) (hg : graphB g 6 = true) (hcs : Cs g.length o) (hi : i ≤ o.length) (hcl : ∀ j, j < i → ∀ k ∈ kidsN g (o.getD j 0), k ∈ o) (hll : ∀ x ∈ ls, x < g.length) (hz : ls.length ≤ 1048576) (hU : ∀ k, U k → lo ≤ k) (hlv : IntsOn w (Lt lo) (plI ls) lv) :
    Calls Tryz.prog 120 #[.pointer (some ⟨C, 0, none⟩), lv] w (FwdAll C M lo g fv o i ls U w) := by
  have HG := mkHid hg
  have HCL := mkHid hcl
  have HLL := mkHid hll
  have HLV := mkHid hlv
  have HU := mkHid hU
  have HI := mkHid hi
  have HST : Hid (FaRel C M lo g fv o i ls U w 0 (.slice none 0 0) w) := ⟨World.ownsRow_nil _ _ _ _, ⟨gv, ov, h.next (fun k hk _ => ⟨Or.inl hk, by simp [Value.ownBlock]⟩) (fun _ _ _ => rfl) fun _ _ => rfl⟩, ButP.refl _ _, hcs⟩
  obtain ⟨adl, capl, rfl, hlc, hlm⟩ := pl_form (hlv.mono (S' := Lt w.heap.size) (fun k (hk : k < lo) => Nat.lt_of_lt_of_le hk hlo) fun _ _ => rfl)
  unfold maxLen at hlm
  clear h hg hcl hll hlv hU hcs
  go_enter Tryz.func120, Tryz.ntmps120
  go_wp2_with fail
  go_loopw [5, 10] (fun pv z wr => ∃ k : Nat, k ≤ ls.length ∧ z = .int .i64 k ∧ FaRel C M lo g fv o i ls U w k pv wr) (fun _ z _ => ls.length - (intOf z).toNat)
  case atStart => exact ⟨0, Nat.zero_le _, rfl, HST.out⟩
  case round =>
    obtain ⟨k, hk, rfl, hr⟩ := hrel
    have HR := mkHid hr
    have hjl : ((ls.take k).map (posN (visitL o (ls.take k)))).length = k := by rw [List.length_map, List.length_take]; omega
    have HJL := mkHid hjl
    obtain ⟨adp, capp, rfl⟩ : ∃ ad cap, u5 = .slice ad k cap := by obtain ⟨x, y, e⟩ := hr.places.len; rw [hjl] at e; exact ⟨x, y, e⟩
    clear hr hjl
    by_cases hlt : k < ls.length
    · obtain ⟨bl, off, x, rfl, hbl, hx, hxm, d0w⟩ := pl_at (HLV.out.mono (S' := Lt w.heap.size) (fun k (hk : k < lo) => Nat.lt_of_lt_of_le hk hlo) fun _ _ => rfl) k hlt
      have hbll : bl < lo := by
        obtain ⟨bl', off', e, hb, -⟩ := HLV.out.atS k (by rw [plI_length]; exact hlt)
        cases e; exact hb
      have hxl := HLL.out x hxm
      have HX := mkHid hx
      have d0 := (World.cell?_of_block (a := ⟨bl, off + k, none⟩) (HR.out.but.block bl hbl fun e => by have := HU.out bl e; omega)).trans d0w
      obtain ⟨gv1, ov1, hc⟩ := HR.out.cop
      have HC := mkHid hc
      obtain ⟨o', ho'⟩ : ∃ o', o' = visitL o (ls.take k) := ⟨_, rfl⟩
      have HO' := mkHid ho'
      have HCALL : Hid (Calls Tryz.prog 128 #[.pointer (some ⟨C, 0, none⟩), .int .i64 (x : Int)] wr (Fwd C M lo g fv (visitL o (ls.take k)) i x (fun y => (U y ∨ w.heap.size ≤ y) ∧ some y ≠ (Value.slice adp k capp).ownBlock) wr)) :=
        forward_calls C M lo g fv _ i x _ gv1 ov1 wr hc (Nat.le_trans hlo HR.out.but.size) HG.out HR.out.cs (Nat.le_trans HI.out (visitL_pre _ _).length_le) (cl_pre (visitL_pre _ _) HI.out HCL.out) hxl
      obtain ⟨iI, zI, hII⟩ := infoI1
      have HII : Hid (Tryz.prog.info? 3 = some iI ∧ iI.zero = some zI ∧ iI.size = 1 ∧ iI.bytes = 8 ∧ zI.cells.size = 1) := hII
      clear hII hc d0w hx hxm ho'
      go_wp2_with fail
      refine HCALL.out.mono ?_
      rintro e w1 ⟨rfl, gv2, ov2, hc2, hb2⟩
      have HC2 := mkHid hc2
      have HB2 := mkHid hb2
      obtain ⟨m, hm⟩ : ∃ m, m = posN (visit (visitL o (ls.take k)) x) x := ⟨_, rfl⟩
      have HM := mkHid hm
      rw [← hm]
      have HS1 : Hid (Stk (w1.alloc (.cells #[.int .i64 (m : Int)] 3)) w.heap.size ((ls.take k).map (posN (visitL o (ls.take k)))) (.slice adp k capp)) := (HR.out.places.only fun y e hy => hb2.block y hy fun e2 => e2.2 e).alloc _
      have HZ1 : Hid (w.heap.size ≤ w1.heap.size) := Nat.le_trans HR.out.but.size hb2.size
      have HS1r : Hid ((w1.alloc (.cells #[.int .i64 (m : Int)] 3)).ownsRow w.heap.size 3 1 (.slice adp k capp) k (plV ((ls.take k).map (posN (visitL o (ls.take k)))))) := by
        have h := HS1.out
        unfold Stk at h
        rw [HJL.out] at h; exact h
      clear hc2 hb2 hm d0
      go_wp2_with (at_builtin; go_must (refine wpList_append_where _ rfl _ _ 88 rfl w.heap.size 3 iI zI 1 8 Tryz.underlying88 HII.out.1 HII.out.2.1 HII.out.2.2.1 HII.out.2.2.2.1 HII.out.2.2.2.2 (by decide) (.slice adp k capp) k (plV ((ls.take k).map (posN (visitL o (ls.take k))))) rfl HS1r.out ⟨w1.heap.size, 0, none⟩ 1 1 [.int .i64 (m : Int)] rfl rfl (news1i w1 _) (by simp [Value.oneCell']) (by unfold maxLen; omega) (by omega) (by rw [Deep.nblk_alloc]; have := HZ1.out; omega) (by omega) ?_); go_must (intro v' w3 hown hg3 hw3); go_must (have HO3 := mkHid hown); go_must (have HG3 := mkHid hg3); go_must (have HW3 := mkHid hw3); clear hown hg3 hw3)
      have HR3 : Hid (FaRel C M lo g fv o i ls U w (k + 1) v' w3) := HR.out.push HX.out hxl hlo HC2.out HB2.out (by rw [← HM.out]; exact wsnoc HJL.out HO3.out) HG3.out HW3.out
      go_roundw
      case rel => first | exact ⟨k + 1, by omega, by go_num, HR3.out⟩ | ((repeat apply Exists.intro); exact ⟨⟨k + 1, by omega, by go_num, HR3.out⟩, rfl⟩)
      case measure => simp [intOf]; omega
    · have hke : k = ls.length := by omega
      have HV : Hid (FwdAll C M lo g fv o i ls U w (.returned (.slice adp k capp)) wr) := by
        have h := HR.out
        rw [hke] at h ⊢
        obtain ⟨h1, ⟨gv1, ov1, h2⟩, h3, h4⟩ := h
        rw [List.take_length] at h1 h2
        exact ⟨_, gv1, ov1, rfl, h1, h2, h3⟩
      clear hke
      go_wp2_with fail
      go_ret
      exact HV.out
end Go.Proofs.YtiipcgnkfhjpeaaGreatDoor
/-
  THE PROGRAM's copyFrom: what can be reached from some cells, copied.
-/
namespace Go.Proofs.YtiipcgnkfhjpeaaGreatDoor
set_option linter.unusedVariables false
set_option linter.unusedSimpArgs false
open Go.RowKit Go.Maps

/-- the operands of copy i, which is not scanned -/
theorem CpG.kid {w : World} {lo : Nat} {S : Nat → Prop} {g : List Ce} {o : List Nat} {i : Nat} {v : Value} (h : CpG w lo S g o i v) (j : Nat) (hj : j < o.length) : ∃ b cap kv, v = .slice (some ⟨b, 0, none⟩) o.length cap ∧ lo ≤ b ∧ o.length ≤ cap ∧ cap ≤ maxLen ∧ b < w.heap.size ∧
    w.cell? ⟨b, j * 3 + 2, none⟩ = some kv ∧ w.frozen? ⟨b, j * 3 + 2, none⟩ = false ∧ w.cell? ⟨b, j * 3, none⟩ = some (.int .i64 (opAt g (o.getD j 0))) ∧ (¬ j < i → IntsOn w (Lt lo) (plI (kidsN g (o.getD j 0))) kv) := by
  obtain ⟨xs, kb, h1, h2, -⟩ := h
  obtain ⟨-, -, kv, e0, -, e2, e3⟩ := h2 j hj
  have hlen := h1.1
  rcases h1.2 with ⟨-, h0⟩ | ⟨b, cap, cur, rfl, hg, hh, hn, hc, hs, htk⟩
  · omega
  · have get : ∀ m u, m < o.length * 3 → xs[m]? = some u → cur[m]? = some u := by
      intro m u hm hu
      rw [← htk, List.getElem?_take_of_lt hm] at hu
      simpa using hu
    exact ⟨b, cap, kv, rfl, hg, hn, hc, (Array.getElem?_eq_some_iff.1 hh).1, cell_of_blk hh _ _ (get _ _ (by omega) e2), frz_of_blk hh _, cell_of_blk hh _ _ (get _ _ (by omega) e0), e3.2⟩
/-- a copy is scanned -/
theorem CopW.scan {C M lo lo' : Nat} {g : List Ce} {fv : Value} {o : List Nat} {i b cap : Nat} {U V : Nat → Prop} {ov pv : Value} {w : World} (h : CopW C M lo g fv o i U (.slice (some ⟨b, 0, none⟩) o.length cap) ov w) (hi : i < o.length)
    (hst : Stk w lo' ((kidsN g (o.getD i 0)).map (posN o)) pv) (hn : ∀ k, some k = pv.ownBlock → ¬ U k) (hV : ∀ k, U k ∨ some k = pv.ownBlock → k < w.heap.size → V k) : CopW C M lo g fv o (i + 1) V (.slice (some ⟨b, 0, none⟩) o.length cap) ov (w.setCell ⟨b, i * 3 + 2, none⟩ pv) := by
  obtain ⟨xs, hx⟩ := h.cells.row
  have hbl : lo ≤ b := own_block hx rfl
  have hbc : ∃ D, w.heap[b]? = some (.cells D 93 (0, 0)) := by
    rcases hx.2 with ⟨e, -⟩ | ⟨b2, cap2, cur, e, -, hh, -⟩
    · cases e
    · cases e; exact ⟨_, hh⟩
  obtain ⟨D, hD⟩ := hbc
  have hbs : b < w.heap.size := (Array.getElem?_eq_some_iff.1 hD).1
  have keep : ∀ k, k ≠ b → (w.setCell ⟨b, i * 3 + 2, none⟩ pv).heap[k]? = w.heap[k]? := fun k hk => Below.heap_setCell _ _ _ _ hk
  have hbC : C ≠ b := fun e => by
    have hb := h.box
    rw [e, hD] at hb
    simp only [Option.some.injEq, Obj.cells.injEq] at hb
    exact copier_ne_cell hb.2.1.symm
  have hV0 : ∀ k, U k → k < w.heap.size → V k := fun k hk hkl => hV k (Or.inl hk) hkl
  have hz : (w.setCell ⟨b, i * 3 + 2, none⟩ pv).heap.size = w.heap.size := size_setCell _ _ _
  refine ⟨(keep C hbC).trans h.box, ?_, ?_, h.map.of_block (keep M (fun e => h.map.ne_row hD e.symm)), fun k e => hV0 k (h.gU k e) (own_some hx k e.symm).2, fun k e => hV0 k (h.oU k e) (own_some h.order k e.symm).2, hV0 C h.cU h.lt, hV0 M h.mU h.map.lt, h.cl, h.ml, h.src.mono (fun _ h => h) fun k (hk : k < lo) => keep k (by omega)⟩
  · obtain ⟨blk, hb1, hb2⟩ : ∃ blk, (¬ ((U blk ∧ some blk ≠ ov.ownBlock) ∧ blk < w.heap.size)) ∧ (KRowS w (fun x => x = blk) ((kidsN g (o.getD i 0)).map fun k => (posN o k : Int)) blk pv ∧ (blk < w.heap.size → some blk = pv.ownBlock)) := by
      obtain ⟨blk, h1, h2⟩ := stk_krow hst
      rw [List.map_map] at h2
      by_cases he : (kidsN g (o.getD i 0)).map (posN o) = []
      · obtain ⟨ad, cap, e, l1, l2, -⟩ := h2
        exact ⟨w.heap.size, fun h => by have := h.2; omega, ⟨ad, cap, e, l1, l2, Or.inl (by simpa using he)⟩, fun h => by omega⟩
      · exact ⟨blk, fun h => hn blk (h1 he).symm h.1.1, h2, fun _ => (h1 he).symm⟩
    have hs := (h.cells.next (S' := fun k => (U k ∧ some k ≠ ov.ownBlock) ∧ k < w.heap.size) (fun k hk hkl => ⟨hk, hkl⟩) (fun _ _ _ => rfl) (fun _ _ _ _ _ => rfl) (fun _ _ => rfl)).scan hi hb2.1 hb1
    refine hs.next (fun k hk hkl => ?_) (fun _ _ _ => rfl) (fun _ _ _ _ _ => rfl) (fun _ _ => rfl)
    rw [hz] at hkl
    rcases hk with hk | rfl
    · exact ⟨hV k (Or.inl hk.1.1) hkl, hk.1.2⟩
    · have e := hb2.2 hkl
      exact ⟨hV k (Or.inr e) hkl, fun e2 => hn k e (h.oU k e2)⟩
  · exact h.order.only fun k e hk => keep k fun e2 => own_ne_cells (CC := []) h.order hD (by decide) (e2 ▸ e)

/-- what copyFrom leaves: the copies, their order, and the places of the roots, in rows of their own -/
def CopyDone (g : List Ce) (rs : List Nat) (w : World) (e : Ending) (w' : World) : Prop :=
  ∃ (C M : Nat) (fv gv ov tv : Value) (S : Nat → Prop), e = .returned (.tuple #[.pointer (some ⟨C, 0, none⟩), tv]) ∧ w.heap.size ≤ C ∧ w'.heap[C]? = some (.cells #[fv, gv, .map (some M), ov] 170) ∧
    OwnC w' w.heap.size S (copyG g rs) gv ∧ (∀ k, S k → w.heap.size ≤ k ∧ some k ≠ tv.ownBlock) ∧ Stk w' w.heap.size (orderG g rs) ov ∧ Stk w' w.heap.size (topsG g rs) tv ∧ Below w.heap.size w w'
/-- what holds when i copies have been scanned -/
structure CfRel (C M : Nat) (g : List Ce) (rs : List Nat) (fv tv : Value) (w : World) (i : Nat) (o : List Nat) (gv ov : Value) (wr : World) : Prop where
  ord : OrdRel g rs i o
  pre : visitL [] rs <+: o
  cop : CopW C M w.heap.size g fv o i (fun k => w.heap.size ≤ k ∧ some k ≠ tv.ownBlock) gv ov wr
  tops : Stk wr w.heap.size (rs.map (posN (visitL [] rs))) tv
  bel : Below w.heap.size w wr

set_option maxRecDepth 100000 in
set_option maxHeartbeats 3200000 in
theorem copyFrom_calls (g : List Ce) (rs : List Nat) (fv rv : Value) (w : World) (hk : CIn w g fv) (hr : IIn w (plI rs) rv) (hg : graphB g 6 = true) (hlt : ∀ x ∈ rs, x < g.length) (h20 : rs.length ≤ 20) :
    Calls Tryz.prog 115 #[fv, rv] w (CopyDone g rs w) := by
  have HG := mkHid hg
  have HLT := mkHid hlt
  have h400 : g.length ≤ 400 := graphB_len hg
  have HR := mkHid hr
  have hmm := @run_makeMap Tryz.prog
  obtain ⟨adf, capf, rfl, -, -, -⟩ := id hk
  obtain ⟨w1, hw1⟩ : ∃ w1 : World, w1 = (w.alloc (.map #[] 0)).alloc (.cells #[.slice adf g.length capf, .slice none 0 0, .map (some w.heap.size), .slice none 0 0] 170) := ⟨_, rfl⟩
  have HW1 := mkHid hw1
  have hz1 : w1.heap.size = w.heap.size + 2 := by rw [hw1, Deep.nblk_alloc, Deep.nblk_alloc]
  have hb1 : Below w.heap.size w w1 := by rw [hw1]; exact ((Below.refl _ _).alloc (Nat.le_refl _) _).alloc (by simp) _
  have HB1 := mkHid hb1
  have HCW : Hid (CopW (w.heap.size + 1) w.heap.size w.heap.size g (.slice adf g.length capf) [] 0 (fun k => w.heap.size ≤ k) (.slice none 0 0) (.slice none 0 0) w1) := by
    refine ⟨?_, CpG.nil _ _ _ _, World.ownsRow_nil _ _ _ _, ?_, fun k e => by simp [Value.ownBlock] at e, fun k e => by simp [Value.ownBlock] at e, by omega, Nat.le_refl _, by omega, Nat.le_refl _, hk.mono (fun _ h => h) fun k hk => hb1.block k hk⟩
    · have h := Deep.blk_alloc_new (w.alloc (.map #[] 0)) (.cells #[.slice adf g.length capf, .slice none 0 0, .map (some w.heap.size), .slice none 0 0] 170)
      rw [Deep.nblk_alloc] at h
      rw [hw1]; exact h
    · rw [hw1]; exact (MapN.made w).of_block (Deep.blk_alloc_lt _ _ _ (by rw [Deep.nblk_alloc]; omega))
  have HRL : Hid (IntsOn w1 (Lt w.heap.size) (plI rs) rv) := hr.mono (fun _ h => h) fun k hk => hb1.block k hk
  clear hk hr hg hlt hw1 hb1
  go_enter Tryz.func115, Tryz.ntmps115
  go_wp2_with fail
  rw [← HW1.out]
  refine (forwardAll_calls (w.heap.size + 1) w.heap.size w.heap.size g (.slice adf g.length capf) [] 0 rs rv (fun k => w.heap.size ≤ k) _ _ w1 HCW.out (by omega) HG.out (Cs.nil _) (Nat.zero_le _) (fun j hj => absurd hj (by omega)) HLT.out (by omega) (fun _ h => h) HRL.out).mono ?_
  rintro e w2 ⟨tv, gv2, ov2, rfl, hst2, hc2, hb2⟩
  have HST : Hid (CfRel (w.heap.size + 1) w.heap.size g rs (.slice adf g.length capf) tv w 0 (visitL [] rs) gv2 ov2 w2) :=
    ⟨OrdRel.start HLT.out, List.prefix_refl _, hc2.next (fun k hk _ => ⟨by rcases hk.1 with h | h; exact h; omega, hk.2⟩) (fun _ _ _ => rfl) (fun _ _ => rfl), hst2.lower (by omega), HB1.out.trans (hb2.below (fun _ h => h) (by omega))⟩
  clear hst2 hc2 hb2
  go_wp2_with fail
  go_loopw [8] (fun z wr => ∃ (i : Nat) (o : List Nat) (gv ov : Value), z = .int .i64 i ∧ CfRel (w.heap.size + 1) w.heap.size g rs (.slice adf g.length capf) tv w i o gv ov wr) (fun z _ => g.length - (intOf z).toNat)
  case atStart => exact ⟨0, _, _, _, rfl, HST.out⟩
  case round =>
    obtain ⟨i, o, gv, ov, rfl, hr⟩ := hrel
    have HR := mkHid hr
    have hol := hr.ord.cs.len
    have hile := hr.ord.le
    have c1 := cell_of_blk hr.cop.box 1 _ rfl
    have hzr := hr.bel.size
    by_cases hlt : i < o.length
    · obtain ⟨b, cap, kv, rfl, hbl, -, -, hbs, k2, -, -, hkv⟩ := hr.cop.cells.kid i hlt
      have hkv := hkv (by omega)
      obtain ⟨a, ha⟩ : ∃ a, a = o.getD i 0 := ⟨_, rfl⟩
      have HA := mkHid ha
      have hal : a < g.length := by rw [ha, getD_at _ _ _ hlt]; exact hr.ord.lt _ (List.getElem_mem hlt)
      rw [← ha] at hkv
      obtain ⟨adk, capk, rfl, -, -⟩ := pl_form (hkv.mono (S' := Lt wr.heap.size) (fun k (hk : k < w.heap.size) => Nat.lt_of_lt_of_le hk hzr) fun _ _ => rfl)
      have hk3 := kidsN_len HG.out a hal
      have HCALL : Hid (Calls Tryz.prog 120 #[.pointer (some ⟨w.heap.size + 1, 0, none⟩), .slice adk (kidsN g a).length capk] wr (FwdAll (w.heap.size + 1) w.heap.size w.heap.size g (.slice adf g.length capf) o i (kidsN g a) (fun k => w.heap.size ≤ k ∧ some k ≠ tv.ownBlock) wr)) :=
        forwardAll_calls (w.heap.size + 1) w.heap.size w.heap.size g (.slice adf g.length capf) o i (kidsN g a) _ _ _ _ wr hr.cop hzr HG.out hr.ord.cs hr.ord.le hr.ord.cl (fun x hx => kidsN_lt HG.out a hal x hx) (by omega) (fun k hk => hk.1) hkv
      clear hr hkv ha
      go_wp2_with fail
      refine HCALL.out.mono ?_
      rintro e w3 ⟨pv, gv3, ov3, rfl, hst3, hc3, hb3⟩
      have hlt3 : i < (visitL o (kidsN g a)).length := Nat.lt_of_lt_of_le hlt (visitL_pre _ _).length_le
      obtain ⟨b3, cap3, kv3, rfl, hbl3, hcl3, hcm3, hbs3, k23, kf3, -, -⟩ := hc3.cells.kid i hlt3
      have d1 := cell_of_blk hc3.box 1 _ rfl
      have hgd : (visitL o (kidsN g a)).getD i 0 = a := by rw [getD_pre (visitL_pre _ _) hlt]; exact HA.out.symm
      have hzw3 := hb3.size
      have HNX : Hid (CfRel (w.heap.size + 1) w.heap.size g rs (.slice adf g.length capf) tv w (i + 1) (visitL o (kidsN g a)) (.slice (some ⟨b3, 0, none⟩) (visitL o (kidsN g a)).length cap3) ov3 (w3.setCell ⟨b3, i * 3 + 2, none⟩ pv)) := by
        have htl : ∀ k, some k = tv.ownBlock → k < wr.heap.size := fun k e => (own_some HR.out.tops k e.symm).2
        have hpl : ∀ k, some k = pv.ownBlock → wr.heap.size ≤ k := fun k e => (own_some hst3 k e.symm).1
        refine ⟨?_, HR.out.pre.trans (visitL_pre _ _), ?_, ?_, ?_⟩
        · have h := HR.out.ord.step HG.out hlt
          rw [← HA.out] at h; exact h
        · refine hc3.scan hlt3 (by rw [hgd]; exact hst3) (fun k e h => h.2 e) (fun k hk hkl => ?_)
          rcases hk with hk | hk
          · rcases hk.1 with h | h
            · exact h
            · exact ⟨by omega, fun e => by have := htl k e; omega⟩
          · exact ⟨by have := hpl k hk; omega, fun e => by have := htl k e; have := hpl k hk; omega⟩
        · refine HR.out.tops.only fun k e hk => ?_
          rw [Below.heap_setCell _ _ _ _ (by
            intro e2
            have h2 := hc3.gU b3 rfl
            have h3 : b3 = k := e2.symm
            subst h3
            have := htl _ e
            rcases h2.1 with h2 | h2
            · exact h2.2 e
            · omega)]
          exact hb3.block k hk fun h => h.2 e
        · exact (HR.out.bel.trans (hb3.below (fun k hk => hk.1) hzr)).setCell hbl3 _
      obtain ⟨adp, capp, rfl⟩ : ∃ ad cap, pv = .slice ad (kidsN g a).length cap := by
        obtain ⟨x, y, e⟩ := hst3.len
        rw [List.length_map] at e; exact ⟨x, y, e⟩
      have HB3 := mkHid hb3
      clear hst3 hc3 hb3 hgd k2
      go_wp2_with fail
      go_roundw
      case rel => exact ⟨i + 1, _, _, _, by go_num, HNX.out⟩
      case measure => simp [intOf]; omega
    · obtain ⟨adg, capg, rfl⟩ := hr.cop.cells.form
      have HV : Hid (CopyDone g rs w (.returned (.tuple #[.pointer (some ⟨w.heap.size + 1, 0, none⟩), tv])) wr) := by
        have hf := hr.ord.fin hlt
        refine ⟨_, _, _, _, ov, tv, fun k => (w.heap.size ≤ k ∧ some k ≠ tv.ownBlock) ∧ some k ≠ ov.ownBlock, rfl, by omega, hr.cop.box, ?_, fun k hk => hk.1, ?_, ?_, hr.bel⟩
        · have h := hr.cop.cells.done (by omega)
          unfold copyG
          rw [← hf]; exact h
        · rw [← hf]; exact hr.cop.order
        · unfold topsG
          have e : rs.map (posN (orderG g rs)) = rs.map (posN (visitL [] rs)) := List.map_congr_left fun x hx => by
            rw [← hf]; exact posN_pre hr.pre (visitL_mem _ _ _ hx)
          rw [e]; exact hr.tops
      clear hr
      go_wp2_with fail
      go_ret2
      exact HV.out
end Go.Proofs.YtiipcgnkfhjpeaaGreatDoor
/-
  ONE ROW OF NUMBERS OF ITS OWN; a graph that keeps its rows while it is marked.
-/
namespace Go.Proofs.YtiipcgnkfhjpeaaGreatDoor
set_option linter.unusedVariables false
set_option linter.unusedSimpArgs false
open Go.RowKit

/-- numbers in the row b -/
def OneRow (w : World) (b : Nat) (X : List Int) (v : Value) : Prop := KRow w [b] X b v
theorem OneRow.keep {w w' : World} {b : Nat} {X : List Int} {v : Value} (h : OneRow w b X v) (hb : ∀ k, k = b → k < w.heap.size → w'.heap[k]? = w.heap[k]?) : OneRow w' b X v := by
  unfold OneRow at h ⊢
  refine h.keep (fun _ h => h) fun hx hm => ?_
  obtain ⟨_, _, _, _, _, h5⟩ := h
  rcases h5 with h5 | ⟨f5, -, -, h6, -⟩
  · exact absurd h5 hx
  · exact hb _ rfl h6.lt
theorem OneRow.next {w w' : World} {b : Nat} {X : List Int} {v : Value} (h : OneRow w b X v) (hb : Below w.heap.size w w') : OneRow w' b X v := h.keep fun k _ hk => hb.block k hk
theorem OneRow.form {w : World} {b : Nat} {X : List Int} {v : Value} (h : OneRow w b X v) : ∃ ad cap, v = .slice ad X.length cap := by
  obtain ⟨ad, cap, e, -⟩ := h; exact ⟨ad, cap, e⟩
theorem OneRow.inn {w : World} {b : Nat} {X : List Int} {v : Value} (h : OneRow w b X v) : IIn w X v := by
  obtain ⟨ad, cap, e, l1, l2, h⟩ := h
  refine ⟨ad, cap, e, l1, l2, h.imp id ?_⟩
  rintro ⟨f, rfl, -, hr, hf⟩
  exact ⟨b, 0, rfl, hr.lt, fun i hi => by rw [Nat.zero_add, hr.cell (by omega), hf i hi]⟩
theorem OneRow.nil (w : World) (b : Nat) (ad : Option Addr) (cap : Nat) (h : cap ≤ maxLen) : OneRow w b [] (.slice ad 0 cap) := ⟨ad, cap, rfl, Nat.zero_le _, h, Or.inl rfl⟩
theorem one_of_row {w : World} {lo : Nat} {X : List Int} {v : Value} (h : IntRow w lo X v) (d : Nat) : ∃ b, OneRow w b X v ∧ ((X ≠ [] ∧ lo ≤ b ∧ b < w.heap.size ∧ v.ownBlock = some b) ∨ b = d) := by
  obtain ⟨ad, cap, e, l1, l2, h⟩ := h
  by_cases hx : X = []
  · exact ⟨d, ⟨ad, cap, e, l1, l2, Or.inl hx⟩, Or.inr rfl⟩
  · rcases h with h | ⟨g, f, rfl, hg, hr, hf⟩
    · exact absurd h hx
    · exact ⟨g, ⟨_, cap, e, l1, l2, Or.inr ⟨f, rfl, by simp, hr, hf⟩⟩, Or.inl ⟨hx, hg, hr.lt, by rw [e]; rfl⟩⟩
theorem labC_half2 (g : List Ce) (k : Int) : HalfC g k g.length (labC g k) := ⟨labC_length g k, fun i hi hm => by rw [if_pos hi, labC_get g k i hi]⟩
theorem gmarkG_calls (g : List Ce) (fp : List Nat) (v : Value) (k : Int) (w : World) (h : GOwn w fp g v) (h0 : 0 ≤ k) (h1 : k ≤ 1048576) (hs : g.length + sumK g ≤ 1048576) :
    Calls Tryz.prog 41 #[v, .int .i64 k] w fun e w' => e = .returned (.int .i64 (k + 2 * (g.length : Int) + (sumK g : Int))) ∧ GOwn w' fp (labC g k) v ∧ ButL fp w w' := by
  obtain ⟨hi, ad, cap, rfl, l1, l2, hr⟩ := h
  rcases hr with rfl | ⟨b, kb, rfl, hb, hr, hd⟩
  · refine (markCells_calls [] fp (.slice ad 0 cap) k w ⟨ad, cap, rfl, l1, l2, Or.inl rfl⟩ h0 (by omega) (by simp [sumN'])).mono ?_
    rintro e w' ⟨rfl, hb⟩
    refine ⟨ret_int (by simp [sumK, sumN']), ⟨fun i hi' => absurd hi' (by simp [labC]), ad, cap, rfl, l1, l2, Or.inl rfl⟩, hb⟩
  · refine (gmark_calls g fp b cap kb k w hr hb hd l1 l2 h0 (by omega) hs).mono ?_
    rintro e w' ⟨rfl, h5, h6⟩
    refine ⟨rfl, ⟨fun i hi' => ?_, some ⟨b, 0, none⟩, cap, by rw [labC_length], by rw [labC_length]; exact l1, l2, Or.inr ⟨b, kb, rfl, hb, h5, (labC_half2 g k).dist hd⟩⟩, h6⟩
    have hl := labC_length g k
    rw [labC_get g k i (by omega) hi']
    have := cLab_le g k i (by omega)
    unfold markedC I64
    simp only
    omega
/-- the rows of a graph that a call has built, but for one block -/
theorem OwnC.ownBut {w : World} {lo : Nat} {S : Nat → Prop} {g : List Ce} {v : Value} (h : OwnC w lo S g v) (b : Nat) (hS : ∀ k, S k → k < w.heap.size → lo ≤ k ∧ k ≠ b) (hv : some b ≠ v.ownBlock) : GOwn w ((List.range' lo (w.heap.size - lo)).filter fun k => k != b) g v := by
  obtain ⟨hi0, xs, kb, h1, h2, h3⟩ := h
  refine ⟨hi0, ?_⟩
  rcases h1.2 with ⟨rfl, h0⟩ | ⟨c, cap, cur, rfl, hg, hh2, hn, hc, hs, htk⟩
  · obtain rfl : g = [] := List.eq_nil_of_length_eq_zero h0
    exact ⟨none, 0, rfl, Nat.le_refl _, by simp [maxLen], Or.inl rfl⟩
  · have hbl : c < w.heap.size := (Array.getElem?_eq_some_iff.1 hh2).1
    have hcb : c ≠ b := fun e => hv (by simp [Value.ownBlock, e])
    refine ⟨_, cap, rfl, hn, hc, Or.inr ⟨c, kb, rfl, by rw [List.mem_filter, List.mem_range'_1]; exact ⟨by omega, by simpa using hcb⟩, ⟨fun i => cur.getD i undef, ⟨cur, hh2, hs, fun i hi => by simp [Array.getD, show i < cur.size by omega]⟩, fun i hi => ?_⟩, h3⟩⟩
    obtain ⟨kv, e0, e1, e2, e3⟩ := h2 i hi
    have get : ∀ m u, m < g.length * 3 → xs[m]? = some u → cur.getD m undef = u := by
      intro m u hm hu
      rw [← htk, List.getElem?_take_of_lt hm] at hu
      have hmc : m < cur.size := by omega
      simp [hmc] at hu
      simp [Array.getD, hmc, hu]
    refine ⟨get _ _ (by omega) e0, get _ _ (by omega) e1, ?_⟩
    simp only []
    rw [get _ _ (by omega) e2]
    obtain ⟨ad2, cap2, e4, l1, l2, h5⟩ := e3
    refine ⟨ad2, cap2, e4, l1, l2, h5.imp id ?_⟩
    rintro ⟨f, rfl, h6, h8, h9⟩
    have h10 := hS _ h6 h8.lt
    exact ⟨f, rfl, by rw [List.mem_filter, List.mem_range'_1]; have := h8.lt; exact ⟨by omega, by simpa using h10.2⟩, h8, h9⟩
/-- what a call hands back: a graph and numbers, in rows of their own -/
def GIRes (G : List Ce) (X : List Int) (gv tv : Value) (w w' : World) : Prop :=
  ∃ fG bL, GOwn w' fG G gv ∧ (∀ k ∈ fG, w.heap.size ≤ k ∧ k < w'.heap.size) ∧ OneRow w' bL X tv ∧ w.heap.size ≤ bL ∧ bL ∉ fG
theorem GIRes.inn {G : List Ce} {X : List Int} {gv tv : Value} {w w' : World} (h : GIRes G X gv tv w w') : CIn w' G gv ∧ IIn w' X tv := by
  obtain ⟨fG, bL, h1, -, h3, -⟩ := h
  exact ⟨h1.inn, h3.inn⟩
theorem gi_res {w w' : World} {lo : Nat} {S : Nat → Prop} {g : List Ce} {gv tv : Value} {X : List Int} (hg : OwnC w' lo S g gv) (hS : ∀ k, S k → lo ≤ k ∧ some k ≠ tv.ownBlock) (ht : IntRow w' lo X tv) (hl : w.heap.size ≤ lo) (hs : lo ≤ w'.heap.size) : GIRes g X gv tv w w' := by
  obtain ⟨b, h1, h2⟩ := one_of_row ht w'.heap.size
  obtain ⟨xs, hx⟩ := hg.row
  have hfp : ∀ k ∈ (List.range' lo (w'.heap.size - lo)).filter (fun k => k != b), w.heap.size ≤ k ∧ k < w'.heap.size := fun k hk => by
    have := (List.mem_filter.1 hk).1
    rw [List.mem_range'_1] at this
    omega
  refine ⟨_, b, hg.ownBut b (fun k hk hkl => ⟨(hS k hk).1, fun e => ?_⟩) (fun e => ?_), hfp, h1, ?_, fun hm => by simpa using (List.mem_filter.1 hm).2⟩
  · rcases h2 with h2 | h2
    · exact (hS k hk).2 (by rw [h2.2.2.2, e])
    · omega
  · rcases h2 with h2 | h2
    · obtain ⟨hne, hlb, hlt, hvb⟩ := h2
      rcases hx.2 with ⟨rfl, -⟩ | ⟨c, cap, cur, rfl, -, hh, -⟩
      · simp [Value.ownBlock] at e
      · simp only [Value.ownBlock, Option.some.injEq] at e
        subst e
        obtain ⟨ad, cap2, e2, -, -, h5⟩ := ht
        rcases h5 with h5 | ⟨g5, f5, rfl, -, ⟨C, hC, -⟩, -⟩
        · exact hne h5
        · rw [e2] at hvb
          simp only [Value.ownBlock, Option.some.injEq] at hvb
          subst hvb
          rw [hh] at hC
          simp only [Option.some.injEq, Obj.cells.injEq] at hC
          exact absurd hC.2.1 (by decide)
    · rcases hx.2 with ⟨rfl, -⟩ | ⟨c, cap, cur, rfl, -, hh, -⟩
      · simp [Value.ownBlock] at e
      · simp only [Value.ownBlock, Option.some.injEq] at e
        have := (Array.getElem?_eq_some_iff.1 hh).1
        omega
  · rcases h2 with h2 | h2 <;> omega
theorem GIRes.lower {G : List Ce} {X : List Int} {gv tv : Value} {w w1 w' : World} (h : GIRes G X gv tv w1 w') (hl : w.heap.size ≤ w1.heap.size) : GIRes G X gv tv w w' := by
  obtain ⟨fG, bL, h1, h2, h3, h4, h5⟩ := h
  exact ⟨fG, bL, h1, fun k hk => ⟨Nat.le_trans hl (h2 k hk).1, (h2 k hk).2⟩, h3, Nat.le_trans hl h4, h5⟩
end Go.Proofs.YtiipcgnkfhjpeaaGreatDoor
