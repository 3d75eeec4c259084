/-
  THE PROGRAM's forward: the place of a cell's copy, which is made only once.
-/
import Derived.Test.YtjpjikfmdaejeabCopW
import Derived.Deep.DeepCutAuto
namespace Go.Proofs.Ytjpjikfmdaejeab
set_option linter.unusedVariables false
set_option linter.unusedSimpArgs false
open Go.RowKit Go.Maps

/-- the look-up of a place -/
theorem wpList_lookN {ops : Array Oper} {rest : List Oper} {o1 : Oper} {a : Act} {Q : Exit → Act → World → Prop} (w : World) (hg : o1.guard = none) (m x : Operand) (hop : o1.op = Op.lookup 68 m x true) (M : Nat) (o : List Nat) (hM : MapN w M o) (hm : a.eval m = .map (some M)) (q : Nat) (hq : q ≤ 1048576)
    (hx : a.eval x = .int .i64 (q : Int)) (b : Bool) (c : Int) (hb : memB o q = b) (hc : b = true → (posN o q : Int) = c) (hc0 : b = false → c = 0) (hK : wpList Try.prog ops Q rest (a.put o1.dst (.tuple #[.int .i64 c, .bool b])) w) : wpList Try.prog ops Q (o1 :: rest) a w := by
  obtain ⟨n, D, hown, hn, hs⟩ := hM
  refine wpList_lookup_own_ok_int w hg m x 68 hop 3 3 .i64 keyedI Try.underlying68 Try.underlying3 (zeroI w) M n D hm hown (.int .i64 (q : Int)) (.int .i64 (q : Int)) hx (keyOf_int_mk Try.underlying3 (litI_wf q hq)) ?_
  intro c' hat hwc
  obtain ⟨h1, h2⟩ := hs q hq
  rw [h1, hb]
  have e : c' = c := by
    cases b with
    | true =>
      have hm : q ∈ o := by simpa [memB] using hb
      rw [h2 hm] at hat
      rw [← hc rfl]
      simp only [DataW.lit.injEq, Lit.int.injEq, true_and] at hat
      exact hat.symm
    | false =>
      rw [atKey_of_not_has (h1.trans hb)] at hat
      rw [hc0 rfl]
      simp only [DataW.lit.injEq, Lit.int.injEq, true_and] at hat
      exact hat.symm
  rw [e]; exact hK
/-- the place of one more -/
theorem wpList_putN {ops : Array Oper} {rest : List Oper} {o1 : Oper} {a : Act} {Q : Exit → Act → World → Prop} (w : World) (hg : o1.guard = none) (m x v : Operand) (hop : o1.op = Op.mapUpdate 68 m x v) (M : Nat) (o : List Nat) (hM : MapN w M o) (hm : a.eval m = .map (some M)) (q : Nat) (hq : q ≤ 1048576)
    (hx : a.eval x = .int .i64 (q : Int)) (hv : a.eval v = .int .i64 (o.length : Int)) (hl : o.length ≤ 1048576) (hqo : q ∉ o) (hK : ∀ w', MapN w' M (o ++ [q]) → w.grownBy w' (some M) → wpList Try.prog ops Q rest (a.put o1.dst undef) w') : wpList Try.prog ops Q (o1 :: rest) a w := by
  obtain ⟨n, D, hown, hn, hs⟩ := hM
  refine wpList_mapUpdate_own w hg m x v 68 hop 3 3 keyedI Try.underlying68 _ M n D hm hown (by unfold maxLen; omega) (.int .i64 (q : Int)) (.int .i64 (o.length : Int)) (.int .i64 (q : Int)) hx hv (keyOf_int_mk Try.underlying3 (litI_wf q hq)) (.lit (.int .i64 (o.length : Int))) [] (plainElem_int Try.underlying3 (litI_wf _ hl)) ?_
  intro w' h1 h2
  exact hK w' (mapN_put h1 hown.isMap hn hs hqo) h2

theorem box_grownM {w w2 : World} {M b : Nat} {o : List Nat} {C : Array Value} {T : TypeId} (h : w.heap[b]? = some (.cells C T)) (hM : MapN w M o) (hg : w.grownBy w2 (some M)) : w2.heap[b]? = some (.cells C T) :=
  (hg.block b (Array.getElem?_eq_some_iff.1 h).1 (by have := hM.ne_row h; simpa using this)).trans h
theorem Stk.grownM {w w2 : World} {M lo : Nat} {o ws : List Nat} {v : Value} (h : Stk w lo ws v) (hM : MapN w M o) (hg : w.grownBy w2 (some M)) : Stk w2 lo ws v := by
  refine ⟨h.1, ?_⟩
  rcases h.2 with h' | ⟨b, cap, cur, e, hb, hh, r⟩
  · exact Or.inl h'
  · exact Or.inr ⟨b, cap, cur, e, hb, box_grownM hh hM hg, r⟩
theorem Stk.butC {w w1 : World} {C lo n : Nat} {ws : List Nat} {v gv : Value} {A : Array Value} {xs : List Value} (h : Stk w lo ws v) (hC : w.heap[C]? = some (.cells A 70)) (hx : w.ownsRow lo 60 3 gv n xs) (hb : ButP (fun k => k = C ∨ some k = gv.ownBlock) w w1) : Stk w1 lo ws v := by
  refine ⟨h.1, ?_⟩
  rcases h.2 with h' | ⟨b, cap, cur, e, hl, hh, r⟩
  · exact Or.inl h'
  · refine Or.inr ⟨b, cap, cur, e, hl, (hb.block b (Array.getElem?_eq_some_iff.1 hh).1 fun e2 => ?_).trans hh, r⟩
    rcases e2 with e2 | e2
    · subst e2
      rw [hh] at hC
      simp only [Option.some.injEq, Obj.cells.injEq] at hC
      exact copier_ne_int hC.2.1.symm
    · exact own_ne_cells (CC := []) hx hh (by decide) e2
/-- what forward hands back -/
def Fwd (C M lo : Nat) (g : List Ce) (fv : Value) (o : List Nat) (i a : Nat) (U : Nat → Prop) (w : World) (e : Ending) (w' : World) : Prop :=
  e = .returned (.int .i64 (posN (visit o a) a : Int)) ∧ ∃ gv' ov', CopW C M lo g fv (visit o a) i (fun k => U k ∨ w.heap.size ≤ k) gv' ov' w' ∧ ButP U w w'
theorem news1i (w : World) (n : Nat) : ∀ j u, [Value.int .i64 (n : Int)][j]? = some u → (w.alloc (.cells #[.int .i64 (n : Int)] 3)).cell? ((⟨w.heap.size, 0, none⟩ : Addr).add j) = some u := by
  intro j u hu
  have hj : j = 0 := by
    rcases Nat.lt_or_ge j 1 with h | h
    · omega
    · rw [List.getElem?_eq_none (by simpa using h)] at hu; cases hu
  subst hj
  simp only [List.getElem?_cons_zero, Option.some.injEq] at hu
  subst hu
  rw [WideShapes.add_plain]
  exact box_cell w #[.int .i64 (n : Int)] 3 0 _ rfl
theorem stk_snoc2 {w : World} {lo n : Nat} {ws : List Nat} {v : Value} (h : w.ownsRow lo 3 1 v (ws.length + 1) (plV ws ++ [.int .i64 (n : Int)])) : Stk w lo (ws ++ [n]) v := by
  unfold Stk
  rw [show plV (ws ++ [n]) = plV ws ++ [.int .i64 (n : Int)] by simp [plV], List.length_append]
  exact h

set_option maxRecDepth 100000 in
set_option maxHeartbeats 3200000 in
theorem forward_calls (C M lo : Nat) (g : List Ce) (fv : Value) (o : List Nat) (i a : Nat) (U : Nat → Prop) (gv ov : Value) (w : World) (h : CopW C M lo g fv o i U gv ov w) (hlo : lo ≤ w.heap.size) (hg : graphB g 6 = true) (hcs : Cs g.length o) (hi : i ≤ o.length) (hcl : ∀ j, j < i → ∀ k ∈ kidsN g (o.getD j 0), k ∈ o) (ha : a < g.length) :
    Calls Try.prog 81 #[.pointer (some ⟨C, 0, none⟩), .int .i64 (a : Int)] w (Fwd C M lo g fv o i a U w) := by
  have H := mkHid h
  have HG := mkHid hg
  have HCL := mkHid hcl
  have h400 : g.length ≤ 400 := graphB_len hg
  have hol := hcs.len
  obtain ⟨adf, capf, rfl⟩ : ∃ ad cap, fv = .slice ad g.length cap := by obtain ⟨ad, cap, e, -⟩ := h.src; exact ⟨ad, cap, e⟩
  obtain ⟨ado, capo, rfl⟩ := h.order.len
  have p0 := cell_of_blk h.box 0 _ rfl
  have p2 := cell_of_blk h.box 2 _ rfl
  have hCl := h.lt
  have HM := mkHid h.map
  clear h hg hcl
  cases hm : memB o a with
  | true =>
    have HV : Hid (Fwd C M lo g (.slice adf g.length capf) o i a U w (.returned (.int .i64 (posN o a : Int))) w) := by
      have e := memB_yes hm
      have h2 := H.out
      refine ⟨by rw [e], gv, .slice ado o.length capo, ?_, ButP.refl _ _⟩
      rw [e]
      exact ⟨h2.box, h2.cells.next (fun k hk _ => ⟨Or.inl hk.1, hk.2⟩) (fun _ _ _ => rfl) (fun _ _ _ _ _ => rfl) (fun _ _ => rfl), h2.order, h2.map, fun k e => Or.inl (h2.gU k e), fun k e => Or.inl (h2.oU k e), Or.inl h2.cU, Or.inl h2.mU, h2.cl, h2.ml, h2.src⟩
    obtain ⟨c, hc⟩ : ∃ c : Int, c = (posN o a : Int) := ⟨_, rfl⟩
    have HC := mkHid hc
    have HMB := mkHid hm
    clear hm hc
    go_enter Try.func81, Try.ntmps81
    go_wp2_with (first | (at_lookup; refine wpList_lookN _ rfl _ _ rfl M o HM.out rfl a (by omega) rfl true c HMB.out (fun _ => HC.out.symm) (fun e => Bool.noConfusion e) ?_) | go_in)
    go_ret
    rw [HC.out]
    exact HV.out
  | false =>
    have hao : a ∉ o := by simpa [memB] using hm
    have HAO := mkHid hao
    have HMB := mkHid hm
    have HVI : Hid (visit o a = o ++ [a]) := memB_no hm
    obtain ⟨bl, off, r2, e, hbl, c0, c1, c2, io, iN, hkk⟩ := H.out.src.atS a ha
    cases e
    have hbl2 : bl < lo := hbl
    have HKK : Hid (IntsOn w (Lt lo) (plI (kidsN g a)) r2) := by rw [kids_back HG.out a ha] at hkk; exact hkk
    obtain ⟨adk, capk, rfl, -, -, -⟩ := id hkk
    have HOP : Hid (opAt g a = g[a].op ∧ numAt g a = g[a].num) := by
      unfold opAt numAt
      rw [getD_at _ _ _ ha]
      exact ⟨rfl, rfl⟩
    have H64 : Hid (I64 (opAt g a) ∧ I64 (numAt g a)) := by rw [HOP.out.1, HOP.out.2]; exact ⟨io, iN⟩
    rw [← HOP.out.1] at c0
    rw [← HOP.out.2] at c1
    obtain ⟨op, hop⟩ : ∃ op, op = opAt g a := ⟨_, rfl⟩
    obtain ⟨num, hnum⟩ : ∃ num, num = numAt g a := ⟨_, rfl⟩
    have HON := mkHid (And.intro hop hnum)
    rw [← hop] at c0
    rw [← hnum] at c1
    obtain ⟨xs, hx⟩ := H.out.cells.row
    have HX := mkHid hx
    have hblw : bl < w.heap.size := by omega
    have HLOW : Hid (∀ w1, ButP (fun k => k = C ∨ some k = gv.ownBlock) w w1 → w1.heap[bl]? = w.heap[bl]?) := fun w1 hb => hb.block bl (by omega) fun e => by
      rcases e with e | e
      · have := H.out.cl; omega
      · have := own_block HX.out e; omega
    clear hm hao hkk io iN hop hnum hx hbl
    go_enter Try.func81, Try.ntmps81
    go_wp2_with (first | (at_lookup; refine wpList_lookN _ rfl _ _ rfl M o HM.out rfl a (by omega) rfl false 0 HMB.out (fun e => Bool.noConfusion e) (fun _ => rfl) ?_) | go_in)
    go_region_held3 (fun w' => w'.cell? ⟨C, 0, none⟩ = some (.slice (some ⟨bl, off, none⟩) g.length capf) ∧ w'.cell? ⟨bl, off + a * 3, none⟩ = some (.int .i64 op) ∧ w'.cell? ⟨bl, off + a * 3 + 1, none⟩ = some (.int .i64 num) ∧ w'.cell? ⟨bl, off + a * 3 + 2, none⟩ = some (.slice adk g[a].kids.length capk))
      (first
        | go_keep
        | exact ⟨s0, s1, s2, s3⟩
        | exact ⟨p0, c0, c1, c2⟩)
      (first
        | (go_at_call 95; refine (addP_calls C 1 70 #[.slice (some ⟨bl, off, none⟩) g.length capf, gv, .map (some M), .slice ado o.length capo] copier_ne_cell lo o.length op num gv adk g[a].kids.length capk xs w.drew H.out.box rfl HX.out hlo (by omega)).mono ?_; intro e w1 he; rw [HON.out.1, HON.out.2] at he; obtain ⟨rfl, gv', hC1, hG1, hv1, hB1⟩ := H.out.add hi HCL.out H64.out HKK.out HX.out he hlo; have hlw := HLOW.out w1 hB1; have s0 := cell_of_blk hC1 0 _ rfl; have s1 := (World.cell?_of_block (a := ⟨bl, off + a * 3, none⟩) hlw).trans c0; have s2 := (World.cell?_of_block (a := ⟨bl, off + a * 3 + 1, none⟩) hlw).trans c1; have s3 := (World.cell?_of_block (a := ⟨bl, off + a * 3 + 2, none⟩) hlw).trans c2; have HC1 := mkHid hC1; have HG1 := mkHid hG1; have HV1 := mkHid hv1; have HB1 := mkHid hB1; clear he hC1 hG1 hv1 hB1 hlw))
    have HM1 : Hid (MapN w1 M o) := HM.out.of_block (HB1.out.block M HM.out.lt fun e => by
      rcases e with e | e
      · exact H.out.ne e.symm
      · exact own_ne_map HX.out HM.out e)
    have q2 := cell_of_blk HC1.out 2 _ rfl
    clear s0 s1 s2 s3 p0 p2 c0 c1 c2
    obtain ⟨iI, zI, hII⟩ := infoI1
    have HII : Hid (Try.prog.info? 3 = some iI ∧ iI.zero = some zI ∧ iI.size = 1 ∧ iI.bytes = 8 ∧ zI.cells.size = 1) := hII
    have HO1 : Hid (Stk w1 lo o (.slice ado o.length capo)) := H.out.order.butC H.out.box HX.out HB1.out
    clear hII
    go_wp2_with (first
      | (at_mapUpdate; refine wpList_putN _ rfl _ _ _ rfl M o HM1.out rfl a (by omega) rfl rfl (by omega) HAO.out ?_; intro w2 hM2 hg2; go_must (have HM2 := mkHid hM2); go_must (have HG2 := mkHid hg2); go_must (have HS2 : Hid (w1.heap.size ≤ w2.heap.size) := hg2.size); go_must (have hC2 := box_grownM HC1.out HM1.out hg2); go_must (have HC2 := mkHid hC2); go_must (have q3 := cell_of_blk hC2 3 _ rfl); go_must (have q3a := old_cell q3 (.cells #[.int .i64 (a : Int)] 3)); go_must (have HO2 : Hid (Stk w2 lo o (.slice ado o.length capo)) := HO1.out.grownM HM1.out hg2); go_must (have HO2a : Hid (Stk (w2.alloc (.cells #[.int .i64 (a : Int)] 3)) lo o (.slice ado o.length capo)) := HO2.out.alloc _); clear hM2 hg2 hC2 q2)
      | (at_builtin; go_must (refine wpList_append_where _ rfl _ _ 29 rfl lo 3 iI zI 1 8 Try.underlying29 HII.out.1 HII.out.2.1 HII.out.2.2.1 HII.out.2.2.2.1 HII.out.2.2.2.2 (by decide) (.slice ado o.length capo) o.length (plV o) rfl HO2a.out ⟨w2.heap.size, 0, none⟩ 1 1 [.int .i64 (a : Int)] rfl rfl (news1i w2 _) (by simp [Value.oneCell']) (by unfold maxLen; omega) (by omega) (by rw [Deep.nblk_alloc]; have := HB1.out.size; have := HS2.out; omega) (by omega) ?_); go_must (intro v' w3 hown hg3 hw3); go_must (have HO3 : Hid (Stk w3 lo (o ++ [a]) v') := stk_snoc2 hown); go_must (have HG3 := mkHid hg3); go_must (have HW3 := mkHid hw3); go_must (have hC3 := (hg3.block C (by rw [Deep.nblk_alloc]; have := (Array.getElem?_eq_some_iff.1 HC2.out).1; omega) (own_ne_cells (CC := []) HO2.out HC2.out copier_ne_int)).trans ((Deep.blk_alloc_lt _ _ _ (Array.getElem?_eq_some_iff.1 HC2.out).1).trans HC2.out)); go_must (obtain ⟨adz, capz, rfl⟩ := stk_form HO3.out rfl); go_must (have r3 := cell_of_blk hC3 3 _ rfl); go_must (have rf := frz_of_blk hC3 3); clear hown hg3 hw3 hC3 q3 q3a)
      | go_in)
    go_ret
    obtain ⟨z1, z2⟩ := H.out.fin hlo HC1.out HG1.out HV1.out HB1.out HM1.out HM2.out HG2.out HO2.out HO3.out HG3.out HW3.out
    refine ⟨?_, gv', .slice adz (o.length + 1) capz, ?_, z2⟩
    · rw [HVI.out, posN_snoc o a HAO.out]; rfl
    · rw [HVI.out]; exact z1
end Go.Proofs.Ytjpjikfmdaejeab
