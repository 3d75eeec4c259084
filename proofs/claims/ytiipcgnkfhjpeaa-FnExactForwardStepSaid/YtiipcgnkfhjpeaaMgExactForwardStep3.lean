/-
  THE MODEL's l7Forward AND l7Scan.
-/
import Derived.Test.YtiipcgnkfhjpeaaMgExactForwardStep1
import Derived.Test.YtiipcgnkfhjpeaaMgExactForwardStep2
import Derived.IntWalk
import Derived.WalkSpells
import Derived.Test.YtiipcgnkfhjpeaaProg
import Derived.Deep.RegionWith
import Derived.Deep.DeepMust
import Derived.Deep.QuietTactic
import Derived.BigQuiet
namespace Go.Proofs.Ytiipcgnkfhjpeaa
set_option linter.unusedVariables false
set_option linter.unusedSimpArgs false
open Go.RowKit


/-- two heaps of words in rows of a call's own: the old one in the block fb below m, the new one from m on -/
structure FTm (w : World) (lo m fb n capf : Nat) (F T : List Int) (tv : Value) : Prop where
  old : StkI w lo F (.slice (some ⟨fb, 0, none⟩) n capf)
  new : StkI w m T tv
  fbm : fb < m
  sz : m ≤ w.heap.size
/-- nothing below m but the block fb is written -/
structure KeepM (m fb : Nat) (w w' : World) : Prop where
  os : w'.os = w.os
  tape : w'.tape = w.tape
  output : w'.output = w.output
  size : w.heap.size ≤ w'.heap.size
  block : ∀ k, k < m → k ≠ fb → w'.heap[k]? = w.heap[k]?
theorem KeepM.refl (m fb : Nat) (w : World) : KeepM m fb w w := ⟨rfl, rfl, rfl, Nat.le_refl _, fun _ _ _ => rfl⟩
theorem KeepM.trans {m fb : Nat} {a b c : World} (h : KeepM m fb a b) (k : KeepM m fb b c) : KeepM m fb a c := ⟨k.os.trans h.os, k.tape.trans h.tape, k.output.trans h.output, Nat.le_trans h.size k.size, fun i h1 h2 => (k.block i h1 h2).trans (h.block i h1 h2)⟩
theorem stki_drewN {w : World} {lo : Nat} {xs : List Int} {v : Value} (h : StkI w lo xs v) (k : Nat) : StkI (w.drewN k) lo xs v := h.keep fun _ _ _ => rfl
theorem FTm.drewN {w : World} {lo m fb n capf : Nat} {F T : List Int} {tv : Value} (h : FTm w lo m fb n capf F T tv) (k : Nat) : FTm (w.drewN k) lo m fb n capf F T tv := ⟨stki_drewN h.old k, stki_drewN h.new k, h.fbm, h.sz⟩
theorem KeepM.drewN (m fb : Nat) (w : World) (k : Nat) : KeepM m fb w (w.drewN k) := ⟨rfl, rfl, rfl, Nat.le_refl _, fun _ _ _ => rfl⟩
theorem FTm.cell {w : World} {lo m fb n capf : Nat} {F T : List Int} {tv : Value} (h : FTm w lo m fb n capf F T tv) {a : Nat} (ha : a < F.length) : w.cell? ⟨fb, a, none⟩ = some (.int .i64 (opW F a)) := by
  obtain ⟨g, cp, cur, he, -, -, hc⟩ := stki_at h.old a ha
  simp only [Value.slice.injEq, Option.some.injEq, Addr.mk.injEq, and_true] at he
  obtain ⟨rfl, -, -⟩ := he
  rw [opW_at ha]; exact hc
theorem FTm.seg {w : World} {lo m fb n capf : Nat} {F T : List Int} {tv : Value} (h : FTm w lo m fb n capf F T tv) {a : Nat} (hw : WholeAt F a) : IIn w (segW F a) (.slice (some ⟨fb, a, none⟩) (wLen (opW F a)) (capf - a)) := by
  have hl := segW_len hw
  have hn := h.old.eq_len
  obtain ⟨_, cap2, he, h1, h2, -⟩ := h.old.row
  simp only [Value.slice.injEq] at he
  obtain ⟨-, -, rfl⟩ := he
  have hfit := hw.2
  refine ⟨_, _, by rw [hl], by rw [hl]; omega, by unfold maxLen at *; omega, Or.inr ⟨fb, a, rfl, Nat.lt_of_lt_of_le h.fbm h.sz, fun i hi => ?_⟩⟩
  rw [hl] at hi
  rw [h.cell (by omega)]
  congr 2
  unfold segW opW
  rw [List.getD_eq_getElem?_getD, List.getElem?_eq_getElem (by omega)]
  simp
theorem FTm.block {w : World} {lo m fb n capf : Nat} {F T : List Int} {tv : Value} (h : FTm w lo m fb n capf F T tv) : ∃ cur, w.heap[fb]? = some (.cells cur 3) := by
  rcases h.old.2 with ⟨h', _⟩ | ⟨g, cap, cur, h', hb, hg, -⟩
  · simp at h'
  · simp only [Value.slice.injEq, Option.some.injEq, Addr.mk.injEq, and_true] at h'
    obtain ⟨rfl, -⟩ := h'
    exact ⟨cur, hg⟩
theorem stki_cell {w : World} {lo fb n cap : Nat} {F : List Int} (h : StkI w lo F (.slice (some ⟨fb, 0, none⟩) n cap)) {a : Nat} (ha : a < F.length) : w.cell? ⟨fb, a, none⟩ = some (.int .i64 (opW F a)) ∧ ∃ cur, w.heap[fb]? = some (.cells cur 3) := by
  obtain ⟨g, cp, cur, he, -, hh, hc⟩ := stki_at h a ha
  simp only [Value.slice.injEq, Option.some.injEq, Addr.mk.injEq, and_true] at he
  obtain ⟨rfl, -, -⟩ := he
  rw [opW_at ha]; exact ⟨hc, cur, hh⟩
theorem stki_blk {w w' : World} {lo fb n cap : Nat} {xs : List Int} (h : StkI w lo xs (.slice (some ⟨fb, 0, none⟩) n cap)) (hb : w'.heap[fb]? = w.heap[fb]?) : StkI w' lo xs (.slice (some ⟨fb, 0, none⟩) n cap) := by
  refine ⟨h.1, ?_⟩
  rcases h.2 with ⟨h', _⟩ | ⟨g, cap', cur, h', hg, hh, r⟩
  · simp at h'
  · simp only [Value.slice.injEq, Option.some.injEq, Addr.mk.injEq, and_true] at h'
    obtain ⟨rfl, h2⟩ := h'
    exact Or.inr ⟨fb, cap', cur, by rw [h2.1, h2.2], hg, hb.trans hh, r⟩
set_option maxRecDepth 100000 in
set_option maxHeartbeats 800000 in
theorem l7Forward_calls (F T : List Int) (x lo m fb n capf : Nat) (tv : Value) (w : World) (h : FTm w lo m fb n capf F T tv) (hc : CanF F (x : Int)) (hF : F.length ≤ 800000) (hT : T.length ≤ 800000) :
    Calls Try.prog 43 #[.slice (some ⟨fb, 0, none⟩) n capf, tv, .int .i64 (x : Int)] w fun e w' => ∃ tv', e = .returned (.tuple #[tv', .int .i64 (fwd F T x).2.2]) ∧ FTm w' lo m fb n capf (fwd F T x).1 (fwd F T x).2.1 tv' ∧ KeepM m fb w w' := by
  have H := mkHid h
  obtain rfl := h.old.eq_len
  obtain ⟨-, hlt, hcc⟩ := hc
  rw [Int.toNat_natCast] at hcc
  have hxl : x < F.length := by omega
  have d0 := h.cell hxl
  obtain ⟨adt, nt, capt, rfl⟩ := h.new.form
  have hnt := h.new.eq_len
  obtain ⟨_, _, he9, hcp1, hcp2, -⟩ := h.old.row
  simp only [Value.slice.injEq] at he9
  obtain ⟨-, -, rfl⟩ := he9
  unfold maxLen at hcp2
  obtain ⟨op, hop⟩ : ∃ op, op = opW F x := ⟨_, rfl⟩
  have HOP := mkHid hop
  rw [← hop] at d0 hcc
  by_cases hn : op < 0
  · have HV := mkHid (fwd_old (F := F) (T := T) (a := x) (by rw [← hop]; exact hn))
    have hlo : -1000000 ≤ op := by
      rcases hcc with hcc | hcc
      · exact hcc.2
      · exact absurd (wLen_neg (by rw [← hop]; exact hn)) hcc.1
    rw [HV.out, ← HOP.out]
    clear h hop hcc hnt
    go_enter Try.func43, Try.ntmps43
    go_wp2_with fail
    go_quiet (fail)
    go_wp2_with fail
    refine bodyPost_ret (v := .tuple #[.slice adt nt capt, .int .i64 (-op - 1)]) (by simp [results, Try.results43, go_sem]) rfl ?_
    exact ⟨_, rfl, H.out.drewN _, KeepM.drewN _ _ _ _⟩
  · have hw : WholeAt F x := by
      rcases hcc with hcc | hcc
      · exact absurd hcc.1 hn
      · exact hcc
    have HV := mkHid (fwd_new (F := F) (T := T) (a := x) (by rw [← hop]; exact hn))
    have HSG := mkHid (h.seg hw)
    have hsl := segW_len hw
    have hfit := hw.2
    have h4 := wLen_le op
    have h2 := wLen_pos hw.1
    rw [← hop] at hfit hsl h2 HSG
    obtain ⟨k, hk⟩ : ∃ k : Nat, k = wLen op := ⟨_, rfl⟩
    have HKK := mkHid hk
    rw [← hk] at hfit hsl h4 h2 HSG
    have HSL := mkHid hsl
    rw [HV.out]
    have hsz := h.sz
    subst hnt
    have hop0 : ¬ op < 0 := hn
    clear h hop hcc hw hk hsl
    go_enter Try.func43, Try.ntmps43
    go_wp2_with fail
    refine (l7Length_calls op w).mono ?_
    rintro e w1 ⟨rfl, rfl⟩
    rw [← HKK.out]
    have HSG2 : Hid (IIn w (segW F x) (.slice (some ⟨fb, x, none⟩) (x + k - x) (capf - x))) := by rw [Nat.add_sub_cancel_left]; exact HSG.out
    go_wp2_with (at_builtin; go_must (refine wpList_pushI rfl _ _ rfl _ m T (segW F x) (.slice adt T.length capt) (.slice (some ⟨fb, x, none⟩) (x + k - x) (capf - x)) rfl H.out.new rfl HSG2.out hsz (by rw [HSL.out]; omega) ?_); go_must (intro v1 w5 hst5 hg5); go_must (have HT5 := mkHid hst5); go_must (have HG5 := mkHid hg5); go_must (obtain ⟨ad5, n5, cap5, rfl⟩ := hst5.form); go_must (have HO5 : Hid (StkI w5 lo F (.slice (some ⟨fb, 0, none⟩) F.length capf)) := stki_blk H.out.old (StkI.far H.out.new hg5 (by have := H.out.fbm; have := H.out.sz; omega) H.out.fbm)); go_must (have c5 := (stki_cell HO5.out hxl).1); go_must (have f5 := (stki_cell HO5.out hxl).2.elim fun cur h => frz_of_blk h x); clear hst5 hg5)
    have HFIN : Hid (FTm (w5.setCell ⟨fb, x, none⟩ (.int .i64 (-(T.length : Int) - 1))) lo m fb F.length capf (F.set x (-(T.length : Int) - 1)) (T ++ segW F x) (.slice ad5 n5 cap5) ∧ KeepM m fb w (w5.setCell ⟨fb, x, none⟩ (.int .i64 (-(T.length : Int) - 1)))) := by
      have hg := HG5.out
      have hm := H.out.sz
      have hfb := H.out.fbm
      refine ⟨⟨stki_set HO5.out, HT5.out.keep fun j hj _ => Below.heap_setCell _ _ _ _ (by show j ≠ fb; omega), hfb, by rw [size_setCell]; exact Nat.le_trans hm hg.size⟩, ⟨hg.os, hg.tape, hg.output, by rw [size_setCell]; exact hg.size, fun k h1 h2 => ?_⟩⟩
      exact (Below.heap_setCell _ _ _ _ h2).trans (StkI.far H.out.new hg (by omega) h1)
    refine bodyPost_ret (v := .tuple #[.slice ad5 n5 cap5, .int .i64 (T.length : Int)]) (by simp [results, Try.results43, go_sem]) rfl ?_
    exact ⟨_, rfl, HFIN.out.1, HFIN.out.2⟩

theorem stki_cellAt {w : World} {lo : Nat} {xs : List Int} {v : Value} (h : StkI w lo xs v) {a : Nat} (ha : a < xs.length) : ∃ g cap cur, v = .slice (some ⟨g, 0, none⟩) xs.length cap ∧ lo ≤ g ∧ w.cell? ⟨g, a, none⟩ = some (.int .i64 (opW xs a)) ∧ w.heap[g]? = some (.cells cur 3) ∧ xs.length ≤ cap ∧ cap ≤ 9223372036854775807 := by
  obtain ⟨g, cap, cur, he, h1, h2, h3⟩ := stki_at h a ha
  obtain ⟨_, cap2, he2, h4, h5, -⟩ := h.row
  rw [he] at he2
  simp only [Value.slice.injEq] at he2
  obtain ⟨-, -, rfl⟩ := he2
  exact ⟨g, cap, cur, he, h1, by rw [opW_at ha]; exact h3, h2, h4, by unfold maxLen at h5; omega⟩
set_option maxRecDepth 100000 in
set_option maxHeartbeats 800000 in
theorem l7Scan_calls (F T : List Int) (scan lo m fb n capf : Nat) (tv : Value) (w : World) (h : FTm w lo m fb n capf F T tv) (hw : WholeAt T scan) (hf : FitsF F T scan (kidsN7 (opW T scan) + 1)) (hF : F.length ≤ 700000) (hT : T.length ≤ 700000) :
    Calls Try.prog 44 #[.slice (some ⟨fb, 0, none⟩) n capf, tv, .int .i64 (scan : Int)] w fun e w' => ∃ tv', e = .returned (.tuple #[tv', .int .i64 ((scan + wLen (opW T scan) : Nat) : Int)]) ∧ FTm w' lo m fb n capf (scanC F T scan).1 (scanC F T scan).2 tv' ∧ KeepM m fb w w' := by
  have H := mkHid h
  have h2 := wLen_pos hw.1
  have h4 := wLen_le (opW T scan)
  have hfit := hw.2
  obtain ⟨g, capt, cur, rfl, -, d0, -, hc1, hc2⟩ := stki_cellAt h.new (show scan < T.length by omega)
  have HSC : Hid (scanC F T scan = scanN F T scan (kidsN7 (opW T scan))) := rfl
  rw [HSC.out]
  obtain ⟨op, hop⟩ : ∃ op, op = opW T scan := ⟨_, rfl⟩
  rw [← hop] at d0 h2 h4 hfit hf ⊢
  obtain ⟨k, hk⟩ : ∃ k : Nat, k = wLen op := ⟨_, rfl⟩
  have HK := mkHid hk
  rw [← hk] at h2 h4 hfit ⊢
  clear h hw hop
  go_enter Try.func44, Try.ntmps44
  go_wp2_with fail
  refine (l7Length_calls op w).mono ?_
  rintro e w1 ⟨rfl, rfl⟩
  rw [← HK.out]
  cases hnum : isNumOp op with
  | true =>
    have HN : Hid (kidsN7 op = 0) := by unfold kidsN7; rw [if_pos hnum]; rfl
    have hop : op = 2 ∨ op = 3 := by unfold isNumOp at hnum; simpa using hnum
    clear hk hnum d0 hf
    rcases hop with rfl | rfl
    · go_wp2_with fail
      refine bodyPost_ret (v := .tuple #[.slice (some ⟨g, 0, none⟩) T.length capt, .int .i64 ((scan + k : Nat) : Int)]) (by simp [results, Try.results44, go_sem]) rfl ?_
      rw [HN.out]
      exact ⟨_, rfl, H.out, KeepM.refl _ _ _⟩
    · go_wp2_with fail
      refine bodyPost_ret (v := .tuple #[.slice (some ⟨g, 0, none⟩) T.length capt, .int .i64 ((scan + k : Nat) : Int)]) (by simp [results, Try.results44, go_sem]) rfl ?_
      rw [HN.out]
      exact ⟨_, rfl, H.out, KeepM.refl _ _ _⟩
  | false =>
    have HN : Hid (kidsN7 op = k - 1) := by unfold kidsN7; rw [if_neg (by rw [hnum]; simp), hk]; rfl
    have hop2 : (op == 2) = false := by unfold isNumOp at hnum; simp at hnum; simp; omega
    have hop3 : (op == 3) = false := by unfold isNumOp at hnum; simp at hnum; simp; omega
    have HF : Hid (FitsF F T scan k) := by have h := hf; rw [HN.out] at h; rw [show k = k - 1 + 1 by omega]; exact h
    have HI : Hid (∀ j, j < k → ScanI F T scan k j (scanN F T scan j)) := fun j hj => scanN_inv HF.out h4 hfit (by omega) j hj
    clear hk hnum d0 hf
    go_wp2_with fail
    go_loopw [1, 10] (fun o i wr => ∃ j : Nat, 1 ≤ j ∧ j ≤ k ∧ i = .int .i64 j ∧ FTm wr lo m fb n capf (scanN F T scan (j - 1)).1 (scanN F T scan (j - 1)).2 o ∧ KeepM m fb w wr) (fun _ i _ => k - (intOf i).toNat)
    case atStart => exact ⟨1, Nat.le_refl _, by omega, rfl, H.out, KeepM.refl _ _ _⟩
    case round =>
      obtain ⟨j, hj1, hj2, rfl, hft, hkm⟩ := hrel
      obtain ⟨wo, rfl⟩ : ∃ wo : World, wo = wr := ⟨_, rfl⟩
      have hi := HI.out (j - 1) (by omega)
      have hlF := hi.lenF
      have hlT := hi.lenT
      have HKM := mkHid hkm
      by_cases hlt : j < k
      · have hcan := hi.can (HF.out j hj1 hlt)
        rw [← hi.rest j (by omega) hlt] at hcan
        have HST : Hid (scanN F T scan (j + 1 - 1) = scanS scan j (scanN F T scan (j - 1))) := by
          rw [Hid, show j + 1 - 1 = (j - 1) + 1 by omega, scanN, show j - 1 + 1 = j by omega]
        unfold scanS at HST
        obtain ⟨Fi, hFi⟩ : ∃ Fi, Fi = (scanN F T scan (j - 1)).1 := ⟨_, rfl⟩
        obtain ⟨Ti, hTi⟩ : ∃ Ti, Ti = (scanN F T scan (j - 1)).2 := ⟨_, rfl⟩
        rw [← hFi] at hft hcan HST hlF
        rw [← hTi] at hft hcan HST hlT
        obtain ⟨g1, c1, cur1, rfl, hg1, e1, -, hc11, hc12⟩ := stki_cellAt hft.new (show scan + j < Ti.length by omega)
        obtain ⟨x, hx⟩ : ∃ x : Nat, opW Ti (scan + j) = (x : Int) := ⟨(opW Ti (scan + j)).toNat, by have := hcan.1; omega⟩
        rw [hx] at e1 hcan HST
        rw [Int.toNat_natCast] at HST
        have HFT := mkHid hft
        have HCAN := mkHid hcan
        have hlTl := fwd_lenT (T := Ti) hcan
        rw [Int.toNat_natCast] at hlTl
        have HLN : Hid (Fi.length ≤ 800000 ∧ Ti.length ≤ 800000) := ⟨by omega, by omega⟩
        have hsj : scan + j < Ti.length := by omega
        clear hi hft hkm hx hFi hTi hcan
        go_wp2_with fail
        refine (l7Forward_calls Fi Ti x lo m fb n capf _ wo HFT.out HCAN.out HLN.out.1 HLN.out.2).mono ?_
        rintro e w5 ⟨tv5, rfl, hft5, hkm5⟩
        obtain ⟨R, hR⟩ : ∃ R, R = fwd Fi Ti x := ⟨_, rfl⟩
        rw [← hR] at hft5 HST hlTl ⊢
        obtain ⟨g5, c5, cur5, rfl, hg5, e5, hb5, hc51, hc52⟩ := stki_cellAt hft5.new (show scan + j < R.2.1.length by omega)
        have f5 := frz_of_blk hb5
        have hsj5 : scan + j < R.2.1.length := by omega
        have HFT5 := mkHid hft5
        have HKM5 : Hid (KeepM m fb w w5) := HKM.out.trans hkm5
        have HG5 := mkHid hg5
        obtain ⟨pl, hpl⟩ : ∃ pl, pl = R.2.2 := ⟨_, rfl⟩
        rw [← hpl] at HST ⊢
        clear hft5 hkm5 e1 hR hg5 hb5 hpl
        go_wp2_with fail
        go_roundw
        case rel =>
          have hgf := HFT5.out.fbm
          have hgg := HG5.out
          have hfin : FTm (w5.setCell ⟨g5, scan + j, none⟩ (.int .i64 pl)) lo m fb n capf (scanN F T scan (j + 1 - 1)).1 (scanN F T scan (j + 1 - 1)).2 (.slice (some ⟨g5, 0, none⟩) R.2.1.length c5) := by
            rw [HST.out]
            exact ⟨stki_blk HFT5.out.old (Below.heap_setCell _ _ _ _ (by show fb ≠ g5; omega)), stki_set HFT5.out.new, hgf, by rw [size_setCell]; exact HFT5.out.sz⟩
          have hkp : KeepM m fb w (w5.setCell ⟨g5, scan + j, none⟩ (.int .i64 pl)) := HKM5.out.trans ⟨rfl, rfl, rfl, by rw [size_setCell]; exact Nat.le_refl _, fun k h1 _ => Below.heap_setCell _ _ _ _ (by show k ≠ g5; omega)⟩
          first
          | exact ⟨j + 1, by omega, by omega, by go_num, hfin, hkp⟩
          | ((repeat apply Exists.intro); exact ⟨⟨j + 1, by omega, by omega, by go_num, hfin, hkp⟩, rfl⟩)
        case measure => simp [intOf]; omega
      · have hje : j = k := by omega
        obtain ⟨ado, no, capo, rfl⟩ := hft.new.form
        have HFT : Hid (FTm wo lo m fb n capf (scanN F T scan (k - 1)).1 (scanN F T scan (k - 1)).2 (.slice ado no capo)) := by rw [← hje]; exact hft
        clear hi hlF hlT hft hkm hje
        go_wp2_with fail
        refine bodyPost_ret (v := .tuple #[.slice ado no capo, .int .i64 ((scan + k : Nat) : Int)]) (by simp [results, Try.results44, go_sem]) rfl ?_
        rw [HN.out]
        exact ⟨_, rfl, HFT.out, HKM.out⟩
end Go.Proofs.Ytiipcgnkfhjpeaa
/-
  THE MODEL's l7Half, l7Fits AND ForwardStep.
-/
namespace Go.Proofs.Ytiipcgnkfhjpeaa
set_option linter.unusedVariables false
set_option linter.unusedSimpArgs false
open Go.RowKit


set_option maxHeartbeats 800000 in
theorem l7Half_calls (F T : List Int) (x : Int) (fv tv : Value) (w : World) (hf : IIn w F fv) (ht : IIn w T tv) (hF : F.length ≤ 1048576) (hT : T.length ≤ 1048576) :
    Calls Try.prog 54 #[fv, tv, .int .i64 x] w fun e w' => e = .returned (.bool (halfB F T x)) ∧ Below w.heap.size w w' := by
  have HT := mkHid ht
  obtain ⟨adf, capf, rfl, -, -, -⟩ := hf
  obtain ⟨adt, capt, rfl, -, -, -⟩ := ht
  go_enter Try.func54, Try.ntmps54
  by_cases h1 : (1600 : Int) < (F.length : Int)
  · have HV := mkHid (halfB_no (F := F) (T := T) (x := x) (by omega))
    go_wp2_with fail
    go_ret
    exact ⟨by rw [HV.out]; rfl, Below.refl _ _⟩
  by_cases h2 : (1600 : Int) < (T.length : Int)
  · have HV := mkHid (halfB_no (F := F) (T := T) (x := x) (by omega))
    go_wp2_with fail
    go_ret
    exact ⟨by rw [HV.out]; rfl, Below.refl _ _⟩
  have HV := mkHid (halfB_at (F := F) (T := T) (x := x) ⟨by omega, by omega⟩)
  have HCELL : Hid (atB T x = true → 0 ≤ x ∧ x < (T.length : Int)) := fun h => by
    obtain ⟨a, e, h1, -⟩ := atB_cell h
    omega
  by_cases h3 : x < 0
  · have HN : Hid (atB T x = false) := by
      cases h : atB T x with
      | false => rfl
      | true => have := HCELL.out h; omega
    go_wp2_with fail
    go_ret
    exact ⟨by rw [HV.out, HN.out]; rfl, Below.refl _ _⟩
  by_cases h4 : (T.length : Int) ≤ x
  · have HN : Hid (atB T x = false) := by
      cases h : atB T x with
      | false => rfl
      | true => have := HCELL.out h; omega
    go_wp2_with fail
    go_ret
    exact ⟨by rw [HV.out, HN.out]; rfl, Below.refl _ _⟩
  go_wp2_with fail
  refine (l7Starts_calls T _ w HT.out hT).mono ?_
  rintro e w1 ⟨t, rfl, ht1, hb1⟩
  have HB1 := mkHid hb1
  have HT1 := mkHid ht1
  obtain ⟨bs, hbs⟩ : ∃ bs, bs = (startsW T 0).isSome := ⟨_, rfl⟩
  rw [← hbs]
  clear hb1
  cases hst : startsW T 0 with
  | none =>
    have HN := mkHid (atB_none (x := x) hst)
    obtain rfl : bs = false := by rw [hbs, hst]; rfl
    obtain ⟨ad1, cap1, rfl, -, -, -⟩ := id ht1
    clear ht1 hst hbs
    go_wp2_with fail
    go_ret
    exact ⟨by rw [HV.out, HN.out]; rfl, HB1.out⟩
  | some st =>
    have HN := mkHid (atB_some (x := x) hst)
    obtain rfl : bs = true := by rw [hbs, hst]; rfl
    have HSO := mkHid (starts_sorted hst)
    have hsm := starts_small hst
    rw [hst] at HT1 ht1
    have HS1 : Hid (IIn w1 st t) := (show IntRow w1 w.heap.size st t from HT1.out).inn
    obtain ⟨ad1, cap1, rfl, -, -, -⟩ := id HS1.out
    clear ht1 hst hbs
    go_wp2_with fail
    refine (l7Index_calls st x _ w1 HS1.out HSO.out (by omega)).mono ?_
    rintro e w2 ⟨rfl, rfl⟩
    obtain ⟨iv, hiv⟩ : ∃ iv, iv = idxI st x := ⟨_, rfl⟩
    have HD : Hid (decide (x ∈ st) = decide (0 ≤ iv)) := by rw [hiv]; exact decide_eq_decide.2 idxI_mem.symm
    rw [← hiv]
    clear hiv
    go_wp2_with fail
    go_ret
    exact ⟨by rw [HV.out, HN.out, HD.out]; rfl, HB1.out⟩
set_option maxRecDepth 100000 in
set_option maxHeartbeats 800000 in
theorem l7Fits_calls (F T : List Int) (scan : Nat) (fv tv : Value) (w : World) (hf : IIn w F fv) (ht : IIn w T tv) (hw : WholeAt T scan) (hF : F.length ≤ 1600) (hT : T.length ≤ 1600) :
    Calls Try.prog 55 #[fv, tv, .int .i64 (scan : Int)] w fun e w' => e = .returned (.bool (fitsTo F T scan (kidsN7 (opW T scan)))) ∧ w = w' := by
  have HT := mkHid ht
  have HF := mkHid hf
  obtain ⟨adf, capf, rfl, hfc1, hfc2, -⟩ := hf
  obtain ⟨adt, capt, rfl, htc1, htc2, -⟩ := ht
  unfold maxLen at hfc2 htc2
  have h2 := wLen_pos hw.1
  have h4 := wLen_le (opW T scan)
  have hfit := hw.2
  obtain ⟨gt, ot, rfl, d0⟩ := HT.out.at scan (by omega)
  rw [← opW_at (show scan < T.length by omega)] at d0
  have HTC : Hid (∀ a, a < T.length → w.cell? ⟨gt, ot + a, none⟩ = some (.int .i64 (opW T a))) := fun a ha => by
    obtain ⟨b, o, e, d⟩ := HT.out.at a ha
    simp only [Option.some.injEq, Addr.mk.injEq, and_true] at e
    obtain ⟨rfl, rfl⟩ := e
    rw [opW_at ha]; exact d
  have HFC : Hid (∀ a, a < F.length → ∃ gf of, adf = some ⟨gf, of, none⟩ ∧ w.cell? ⟨gf, of + a, none⟩ = some (.int .i64 (opW F a))) := fun a ha => by
    obtain ⟨b, o, e, d⟩ := HF.out.at a ha
    exact ⟨b, o, e, by rw [opW_at ha]; exact d⟩
  obtain ⟨op, hop⟩ : ∃ op, op = opW T scan := ⟨_, rfl⟩
  rw [← hop] at d0 h2 h4 hfit ⊢
  obtain ⟨k, hk⟩ : ∃ k : Nat, k = wLen op := ⟨_, rfl⟩
  have HK := mkHid hk
  rw [← hk] at h2 h4 hfit
  clear hw hop
  go_enter Try.func55, Try.ntmps55
  go_wp2_with fail
  cases hnum : isNumOp op with
  | true =>
    have HN : Hid (kidsN7 op = 0) := by unfold kidsN7; rw [if_pos hnum]; rfl
    have hop : op = 2 ∨ op = 3 := by unfold isNumOp at hnum; simpa using hnum
    have hk2 : k = 2 := by rw [hk]; exact wLen_num hnum
    subst hk2
    clear hk hnum
    rcases hop with rfl | rfl
    all_goals
      go_loopw [8] (fun i wr => i = .int .i64 1 ∧ wr = w) (fun _ _ => 0)
      case atStart => exact ⟨rfl, rfl⟩
      case round =>
        obtain ⟨rfl, rfl⟩ := hrel
        go_wp2_with fail
        refine (l7Length_calls _ wr).mono ?_
        rintro e w1 ⟨rfl, rfl⟩
        rw [← HK.out]
        go_wp2_with fail
        go_ret
        exact ⟨by rw [HN.out]; rfl, rfl⟩
  | false =>
    have HN : Hid (kidsN7 op = k - 1) := by unfold kidsN7; rw [if_neg (by rw [hnum]; simp), hk]; rfl
    have hop2 : (op != 2) = true := by unfold isNumOp at hnum; simp at hnum; simp; omega
    have hop3 : (op != 3) = true := by unfold isNumOp at hnum; simp at hnum; simp; omega
    clear hk hnum
    go_loopw [8] (fun i wr => ∃ j : Nat, 1 ≤ j ∧ j ≤ k ∧ i = .int .i64 j ∧ fitsTo F T scan (j - 1) = true ∧ wr = w) (fun i _ => k - (intOf i).toNat)
    case atStart => exact ⟨1, Nat.le_refl _, by omega, rfl, fitsTo_zero _ _ _, rfl⟩
    case round =>
      obtain ⟨j, hj1, hj2, rfl, hall, rfl⟩ := hrel
      have HAL := mkHid hall
      clear hall
      go_wp2_with fail
      refine (l7Length_calls op wr).mono ?_
      rintro e w1 ⟨rfl, rfl⟩
      rw [← HK.out]
      by_cases hlt : j < k
      · have dT := HTC.out (scan + j) (by omega)
        obtain ⟨x, hx⟩ : ∃ x, x = opW T (scan + j) := ⟨_, rfl⟩
        have HNO : Hid (okW F T.length x = false → fitsTo F T scan (k - 1) = false) := fun h => fitsTo_no (q := j - 1) (by omega) (by rw [show j - 1 + 1 = j by omega, ← hx]; exact h)
        have HYES : Hid (okW F T.length x = true → fitsTo F T scan (j + 1 - 1) = true) := fun h => by
          rw [show j + 1 - 1 = (j - 1) + 1 by omega, fitsTo_succ, HAL.out, show j - 1 + 1 = j by omega, ← hx, h]; rfl
        rw [← hx] at dT
        clear hx
        by_cases hx0 : x < 0
        · have HX := mkHid (HNO.out (okW_lo hx0))
          go_wp2_with fail
          go_ret
          exact ⟨by rw [HN.out, HX.out]; rfl, rfl⟩
        by_cases hx1 : (F.length : Int) ≤ x
        · have HX := mkHid (HNO.out (okW_hi hx1))
          go_wp2_with fail
          go_ret
          exact ⟨by rw [HN.out, HX.out]; rfl, rfl⟩
        obtain ⟨a, rfl⟩ : ∃ a : Nat, x = (a : Int) := ⟨x.toNat, by omega⟩
        have hal : a < F.length := by omega
        obtain ⟨gf, of, rfl, dF⟩ := HFC.out a hal
        obtain ⟨fo, hfo⟩ : ∃ fo, fo = opW F a := ⟨_, rfl⟩
        have HFO := mkHid hfo
        rw [← hfo] at dF
        have hfn4 := wLen_le fo
        by_cases hneg : fo < 0
        · by_cases hlo : -(T.length : Int) ≤ fo
          · have HX := mkHid (HYES.out (okW_old hal (by rw [← hfo]; exact hneg) (by rw [← hfo]; exact hlo)))
            clear hfo
            go_wp2_with fail
            go_roundw
            case rel => exact ⟨j + 1, by omega, by omega, by go_num, HX.out, by first | rfl | trivial⟩
            case measure => simp [intOf]; omega
          · have HX := mkHid (HNO.out (by
              rw [okW_else hal (by rw [← hfo]; omega)]
              exact decide_eq_false fun h => h.1 (wLen_neg (by rw [← hfo]; exact hneg))))
            have HW0 : Hid (wLen fo = 0) := wLen_neg hneg
            have hlo' : ¬ -(T.length : Int) ≤ fo := hlo
            clear hfo
            go_wp2_with fail
            refine (l7Length_calls fo wr).mono ?_
            rintro e w1 ⟨rfl, rfl⟩
            rw [HW0.out]
            go_wp2_with fail
            go_ret
            exact ⟨by rw [HN.out, HX.out]; rfl, rfl⟩
        · have HE := okW_else (s := T.length) hal (by rw [← hfo]; omega)
          obtain ⟨q, hq⟩ : ∃ q : Nat, q = wLen fo := ⟨_, rfl⟩
          have HQ := mkHid hq
          have HWE : WholeAt F a ↔ (q ≠ 0 ∧ a + q ≤ F.length) := by unfold WholeAt; rw [← hfo, ← hq]
          by_cases hq0 : q = 0
          · have HX := mkHid (HNO.out (by rw [HE]; exact decide_eq_false fun h => (HWE.1 h).1 hq0))
            clear hfo HE HWE hq
            subst hq0
            go_wp2_with fail
            refine (l7Length_calls fo wr).mono ?_
            rintro e w1 ⟨rfl, rfl⟩
            rw [← HQ.out]
            go_wp2_with fail
            go_ret
            exact ⟨by rw [HN.out, HX.out]; rfl, rfl⟩
          · have hq0' : ((q : Int) == 0) = false := by simpa using hq0
            by_cases hbig : F.length < a + q
            · have HX := mkHid (HNO.out (by rw [HE]; exact decide_eq_false fun h => by have := (HWE.1 h).2; omega))
              have hbI : (F.length : Int) < (a : Int) + (q : Int) := by omega
              rw [← hq] at hfn4
              clear hfo HE HWE hq
              go_wp2_with (first
                | (go_at_call 59; refine (l7Length_calls fo wr).mono ?_; rintro e w1 ⟨rfl, rfl⟩; rw [← HQ.out]))
              go_ret
              exact ⟨by rw [HN.out, HX.out]; rfl, rfl⟩
            · have HX := mkHid (HYES.out (by rw [HE]; exact decide_eq_true (HWE.2 ⟨hq0, by omega⟩)))
              have hbI : ¬ (F.length : Int) < (a : Int) + (q : Int) := by omega
              rw [← hq] at hfn4
              clear hfo HE HWE hq
              go_wp2_with (first
                | (go_at_call 59; refine (l7Length_calls fo wr).mono ?_; rintro e w1 ⟨rfl, rfl⟩; rw [← HQ.out]))
              go_roundw
              case rel => exact ⟨j + 1, by omega, by omega, by go_num, HX.out, by first | rfl | trivial⟩
              case measure => simp [intOf]; omega
      · have hje : j = k := by omega
        have HX : Hid (fitsTo F T scan (k - 1) = true) := by rw [← hje]; exact HAL.out
        clear hje
        go_wp2_with fail
        go_ret
        exact ⟨by rw [HN.out, HX.out]; rfl, rfl⟩
end Go.Proofs.Ytiipcgnkfhjpeaa
/-
  AN APPEND TO A SLICE THAT IS NOT nil: the answer is not nil.
-/
namespace Go.Proofs.Ytiipcgnkfhjpeaa
set_option linter.unusedVariables false
set_option linter.unusedSimpArgs false
open Go.RowKit

theorem stki_some {w : World} {lo : Nat} {xs : List Int} {v : Value} (h : StkI w lo xs v) (hv : v ≠ .slice none 0 0) : ∃ g cap, v = .slice (some ⟨g, 0, none⟩) xs.length cap ∧ lo ≤ g ∧ g < w.heap.size := by
  rcases h.2 with ⟨h', _⟩ | ⟨g, cap, cur, h', hg, hh, -⟩
  · exact absurd h' hv
  · exact ⟨g, cap, h', hg, (Array.getElem?_eq_some_iff.1 hh).1⟩
theorem run_pushS (w : World) (lo : Nat) (xs news : List Int) (v x : Value) (ty : TypeId) (hst : StkI w lo xs v) (hx : IIn w news x) (hlo : lo ≤ w.heap.size) (hb : xs.length + news.length ≤ 1048576) (hv : v ≠ .slice none 0 0) :
    ∃ v' w', (Builtin.append_ #[24, 24] ty #[v, x]).run Try.prog w = .ok v' w' ∧ StkI w' lo (xs ++ news) v' ∧ w.grownBy w' v.ownBlock ∧ v' ≠ .slice none 0 0 := by
  obtain ⟨i, z, hi, hz, hs, hby, hzs⟩ := infoI1
  have hx2 := hx
  obtain ⟨ad, cap, rfl, -, -, hr⟩ := hx2
  rcases ad with _ | ad
  · have hnil : news = [] := by
      rcases hr with h | ⟨_, _, h, -⟩
      · exact h
      · simp at h
    subst hnil
    refine ⟨v, w, ?_, by simpa using hst, ⟨rfl, rfl, rfl, Nat.le_refl _, fun _ _ _ => rfl⟩, hv⟩
    rcases hst.2 with ⟨rfl, h0⟩ | ⟨g, cap, cur, rfl, _, _, hnc, _⟩
    · simp [Builtin.append_, run_underlying Try.underlying24, sizeOf, typeInfo, hi, Builtin.lenOf, Builtin.firstCells]
    · simp [Builtin.append_, run_underlying Try.underlying24, sizeOf, typeInfo, hi, Builtin.lenOf, Builtin.firstCells, hnc, storeCells]
  · obtain ⟨v', w', hrun, hown, hg, hn⟩ := run_append_own (P := Try.prog) w lo 24 ty 3 i z 1 8 Try.underlying24 hi hz hs hby hzs (by decide) v xs.length (inV xs) hst ad news.length cap (inV news) (by rw [inV_length, Nat.mul_one]) (ints_newsI hx) (inV_one _) (by unfold maxLen; omega) (by omega) hlo
    refine ⟨v', w', hrun, ?_, hg, fun e => hv (hn.1 e).1⟩
    unfold StkI
    rw [inV_append, List.length_append]
    exact hown
theorem wpList_pushS {ops : Array Oper} {rest : List Oper} {o : Oper} {a : Act} {Q : Exit → Act → World → Prop} (hgd : o.guard = none) (s x : Operand)
    (ho : o.op = .call { callee := .builtin .append, args := #[s, x], argTypes := #[24, 24] })
    (w : World) (lo : Nat) (xs news : List Int) (v xv : Value) (hs : a.eval s = v) (hst : StkI w lo xs v) (hxe : a.eval x = xv) (hx : IIn w news xv) (hlo : lo ≤ w.heap.size) (hb : xs.length + news.length ≤ 1048576) (hv : v ≠ .slice none 0 0)
    (h : ∀ v' w', StkI w' lo (xs ++ news) v' → w.grownBy w' v.ownBlock → v' ≠ .slice none 0 0 → wpList Try.prog ops Q rest (a.put o.dst v') w') : wpList Try.prog ops Q (o :: rest) a w := by
  refine wpList_plain hgd fun K hK => ?_
  obtain ⟨v', w', hrun, h2, h3, h4⟩ := run_pushS w lo xs news v xv o.type hst hx hlo hb hv
  unfold Oper.wp
  simp [execOp, ho, resolve, invoke, builtin, hs, hxe, hrun, Result.andThen]
  exact hK _ _ (h v' w' h2 h3 h4)
end Go.Proofs.Ytiipcgnkfhjpeaa
/-
  THE MODEL's ForwardStep.
-/
namespace Go.Proofs.Ytiipcgnkfhjpeaa
set_option linter.unusedVariables false
set_option linter.unusedSimpArgs false
open Go.RowKit


/-- two heaps, an address, and whether -/
def GotStep (r : List Int × List Int × Int × Bool) (w : World) (e : Ending) (w' : World) : Prop := ∃ a t, e = .returned (.tuple #[a, t, .int .i64 r.2.2.1, .bool r.2.2.2]) ∧ IIn w' r.1 a ∧ IIn w' r.2.1 t ∧ Below w.heap.size w w'
theorem lt_allocW (w : World) (o : Obj) : w.heap.size < (w.alloc o).heap.size := by rw [Deep.nblk_alloc]; exact Nat.lt_succ_self _
set_option maxRecDepth 100000 in
set_option maxHeartbeats 800000 in
theorem specStepW_calls (F T : List Int) (x : Int) (fv tv : Value) (w : World) (hf : IIn w F fv) (ht : IIn w T tv) (hF : F.length ≤ 1048576) (hT : T.length ≤ 1048576) :
    Calls Try.prog 31 #[fv, tv, .int .i64 x] w (GotStep (stepO F T x) w) := by
  have HF := mkHid hf
  have HT := mkHid ht
  obtain ⟨adf, capf, rfl, -, -, -⟩ := hf
  obtain ⟨adt, capt, rfl, -, -, -⟩ := ht
  have HNIL : Hid (∀ W, Below w.heap.size w W → stepB F T x = false → GotStep (stepO F T x) w (.returned (.tuple #[.slice (some ⟨W.heap.size, 0, none⟩) 0 0, .slice (some ⟨W.heap.size + 1, 0, none⟩) 0 0, .int .i64 0, .bool false])) ((W.alloc (.cells #[] 3)).alloc (.cells #[] 3))) := fun W hb h => by
    rw [stepO_no h]
    exact ⟨_, _, rfl, (no_ints _ 0 _ _ (by simp [maxLen])).inn, (no_ints _ 0 _ _ (by simp [maxLen])).inn, (hb.alloc hb.size _).alloc (by rw [Deep.nblk_alloc]; have := hb.size; omega) _⟩
  go_enter Try.func31, Try.ntmps31
  go_wp2_with fail
  refine (l7Half_calls F T x _ _ w HF.out HT.out hF hT).mono ?_
  rintro e w1 ⟨rfl, hb1⟩
  have HB1 := mkHid hb1
  clear hb1
  cases hh : halfB F T x with
  | false =>
    have HS : Hid (stepB F T x = false) := by unfold stepB; rw [hh]; rfl
    clear hh
    go_wp2_with fail
    refine bodyPost_ret (v := .tuple #[.slice (some ⟨w1.heap.size, 0, none⟩) 0 0, .slice (some ⟨w1.heap.size + 1, 0, none⟩) 0 0, .int .i64 0, .bool false]) (by simp [results, Try.results31, go_sem]) rfl ?_
    exact HNIL.out w1 HB1.out HS.out
  | true =>
    obtain ⟨hF6, hT6, hat⟩ := halfB_cell hh
    obtain ⟨scan, rfl, hsl, hwh⟩ := atB_cell hat
    have HH := mkHid hh
    have HWH := mkHid hwh
    clear hh hat hwh
    go_wp2_with fail
    refine (l7Fits_calls F T scan _ _ w1 (HF.out.next HB1.out) (HT.out.next HB1.out) HWH.out hF6 hT6).mono ?_
    rintro e w2 ⟨rfl, rfl⟩
    cases hft : fitsTo F T scan (kidsN7 (opW T scan)) with
    | false =>
      have HS : Hid (stepB F T (scan : Int) = false) := by unfold Hid stepB; rw [Int.toNat_natCast, hft]; simp
      clear hft
      go_wp2_with fail
      refine bodyPost_ret (v := .tuple #[.slice (some ⟨w1.heap.size, 0, none⟩) 0 0, .slice (some ⟨w1.heap.size + 1, 0, none⟩) 0 0, .int .i64 0, .bool false]) (by simp [results, Try.results31, go_sem]) rfl ?_
      exact HNIL.out w1 HB1.out HS.out
    | true =>
      have HFT := mkHid hft
      have HFF := mkHid (fits_F hft (by omega))
      clear hft
      have A1 : Hid (StkI (w1.alloc (.cells #[] 3)) w1.heap.size [] (.slice (some ⟨w1.heap.size, 0, none⟩) 0 0)) := StkI.nil _ _ (Nat.le_refl _)
      have K1 : Hid (IIn (w1.alloc (.cells #[] 3)) F (.slice adf F.length capf)) := (HF.out.next HB1.out).next (box_below _ _)
      have L1 : Hid (w1.heap.size ≤ (w1.alloc (.cells #[] 3)).heap.size) := by rw [Hid, Deep.nblk_alloc]; omega
      have HB1A : Hid (Below w.heap.size w (w1.alloc (.cells #[] 3))) := HB1.out.alloc HB1.out.size _
      go_wp2_with (first
        | (have tk := A5; clear tk; at_builtin; go_must (refine wpList_pushS rfl _ _ rfl _ w5.heap.size [] T (.slice (some ⟨w5.heap.size, 0, none⟩) 0 0) (.slice adt T.length capt) rfl A5.out rfl K5.out L5.out (by simp; omega) (by simp) ?_); go_must (intro v7 w7 hst7 hg7 hv7); go_must (have HT7 : Hid (StkI w7 w5.heap.size T v7) := hst7); go_must (have HO7 : Hid (StkI w7 w1.heap.size F (.slice (some ⟨fb, 0, none⟩) F.length cpf)) := stki_blk HO5.out ((StkI.far A5.out hg7 (by rw [Deep.nblk_alloc]; have := HFB.out; omega) HFB.out).trans (Deep.blk_alloc_lt _ _ _ HFB.out))); go_must (have HB7 : Hid (Below w.heap.size w w7) := ⟨hg7.os.trans HB5.out.os, hg7.tape.trans HB5.out.tape, hg7.output.trans HB5.out.output, Nat.le_trans HB5.out.size (Nat.le_trans (Nat.le_of_lt (lt_allocW w5 _)) hg7.size), fun k hk => (StkI.far A5.out hg7 (by rw [Deep.nblk_alloc]; have := HB5.out.size; omega) (by have := HB5.out.size; omega)).trans ((Deep.blk_alloc_lt _ _ _ (by have := HB5.out.size; omega)).trans (HB5.out.block k hk))⟩); go_must (have HZ7 : Hid (w5.heap.size ≤ w7.heap.size) := Nat.le_trans (Nat.le_of_lt (lt_allocW w5 _)) hg7.size); go_must (obtain ⟨gt7, cpt, rfl, -, -⟩ := stki_some hst7 hv7); clear hst7 hg7 hv7)
        | (have tk := A1; clear tk; at_builtin; go_must (refine wpList_pushS rfl _ _ rfl _ w1.heap.size [] F (.slice (some ⟨w1.heap.size, 0, none⟩) 0 0) (.slice adf F.length capf) rfl A1.out rfl K1.out L1.out (by simp; omega) (by simp) ?_); go_must (intro v5 w5 hst5 hg5 hv5); go_must (have HB5 : Hid (Below w.heap.size w w5) := ⟨hg5.os.trans HB1.out.os, hg5.tape.trans HB1.out.tape, hg5.output.trans HB1.out.output, Nat.le_trans HB1.out.size (Nat.le_trans (Nat.le_of_lt (lt_allocW w1 _)) hg5.size), fun k hk => (StkI.far A1.out hg5 (by rw [Deep.nblk_alloc]; have := HB1.out.size; omega) (by have := HB1.out.size; omega)).trans ((Deep.blk_alloc_lt _ _ _ (by have := HB1.out.size; omega)).trans (HB1.out.block k hk))⟩); go_must (obtain ⟨fb, cpf, rfl, hfb1, hfb2⟩ := stki_some hst5 hv5); go_must (have HO5 : Hid (StkI w5 w1.heap.size F (.slice (some ⟨fb, 0, none⟩) F.length cpf)) := hst5); go_must (have HFB : Hid (fb < w5.heap.size) := hfb2); go_must (have HFB1 : Hid (w1.heap.size ≤ fb) := hfb1); go_must (have A5 : Hid (StkI (w5.alloc (.cells #[] 3)) w5.heap.size [] (.slice (some ⟨w5.heap.size, 0, none⟩) 0 0)) := StkI.nil _ _ (Nat.le_refl _)); go_must (have K5 : Hid (IIn (w5.alloc (.cells #[] 3)) T (.slice adt T.length capt)) := (HT.out.next HB5.out).next (box_below _ _)); go_must (have L5 : Hid (w5.heap.size ≤ (w5.alloc (.cells #[] 3)).heap.size) := by rw [Hid, Deep.nblk_alloc]; omega); clear hst5 hg5 hv5 hfb1 hfb2))
      refine (l7Scan_calls F T scan w1.heap.size w5.heap.size fb F.length cpf _ w7 ⟨HO7.out, HT7.out, HFB.out, HZ7.out⟩ HWH.out HFF.out (by omega) (by omega)).mono ?_
      rintro e w8 ⟨tv8, rfl, hft8, hkm8⟩
      have HFT8 := mkHid hft8
      have HKM8 := mkHid hkm8
      obtain ⟨ad8, cap8, rfl⟩ := hft8.new.len
      obtain ⟨R, hR⟩ : ∃ R, R = scanC F T scan := ⟨_, rfl⟩
      have HRE := mkHid hR
      rw [← hR] at HFT8 ⊢
      have hRl : R.2.length ≤ 1000000 := by
        rw [hR]
        have h := (scanN_inv (F := F) (T := T) (scan := scan) (n := kidsN7 (opW T scan) + 1) HFF.out (by have := kidsN7_lt HWH.out.1; omega) (by have := kidsN7_lt HWH.out.1; have := HWH.out.2; omega) (by omega) (kidsN7 (opW T scan)) (by omega)).lenT
        have := kidsN7_lt HWH.out.1
        unfold scanC
        omega
      have HB8 : Hid (Below w.heap.size w w8) := by
        have h1 := HB7.out
        have h2 := HKM8.out
        have h3 := HFB1.out
        have h4 := HB1.out.size
        have h5 := HB5.out.size
        exact ⟨h2.os.trans h1.os, h2.tape.trans h1.tape, h2.output.trans h1.output, Nat.le_trans h1.size h2.size, fun k hk => (h2.block k (by omega) (by omega)).trans (h1.block k hk)⟩
      clear hft8 hkm8 hR
      by_cases hbig : (1600 : Int) < (R.2.length : Int)
      · have HS : Hid (stepB F T (scan : Int) = false) := by
          unfold Hid stepB
          rw [Int.toNat_natCast, ← HRE.out, decide_eq_false (by omega)]; simp
        go_wp2_with fail
        refine bodyPost_ret (v := .tuple #[.slice (some ⟨w8.heap.size, 0, none⟩) 0 0, .slice (some ⟨w8.heap.size + 1, 0, none⟩) 0 0, .int .i64 0, .bool false]) (by simp [results, Try.results31, go_sem]) rfl ?_
        exact HNIL.out w8 HB8.out HS.out
      · have HS : Hid (stepO F T (scan : Int) = (R.1, R.2, (scan : Int) + wLen (opW T scan), true)) := by
          have h : stepB F T (scan : Int) = true := by
            unfold stepB
            rw [Int.toNat_natCast, ← HRE.out, decide_eq_true (by omega), HFT.out, HH.out]; rfl
          rw [Hid, stepO_yes h, Int.toNat_natCast, ← HRE.out]
        go_wp2_with fail
        refine bodyPost_ret (v := .tuple #[.slice (some ⟨fb, 0, none⟩) F.length cpf, .slice ad8 R.2.length cap8, .int .i64 ((scan + wLen (opW T scan) : Nat) : Int), .bool true]) (by simp [results, Try.results31, go_sem]) rfl ?_
        rw [HS.out]
        exact ⟨_, _, by push_cast; rfl, HFT8.out.old.row.inn, HFT8.out.new.row.inn, HB8.out⟩
end Go.Proofs.Ytiipcgnkfhjpeaa
/-
  PLAIN FACTS ON COPYING WORDS: how long a heap is behind a scan. No program is named here.
-/
namespace Go.Proofs.Ytiipcgnkfhjpeaa
set_option linter.unusedVariables false
set_option linter.unusedSimpArgs false

/-- how many words the operands at the first places add -/
def addW (F xs : List Int) : Nat → Nat
  | 0 => 0
  | q + 1 => addW F xs q + (if opW F (opW xs q).toNat < 0 ∨ opW xs q ∈ xs.take q then 0 else wLen (opW F (opW xs q).toNat))
theorem addW_le (F xs : List Int) : ∀ q, addW F xs q ≤ 4 * q
  | 0 => Nat.le_refl _
  | q + 1 => by
    have h := addW_le F xs q
    have := wLen_le (opW F (opW xs q).toNat)
    unfold addW; split <;> omega
theorem addW_old {F xs : List Int} {q : Nat} (h : opW F (opW xs q).toNat < 0) : addW F xs (q + 1) = addW F xs q := by
  show addW F xs q + _ = _
  rw [if_pos (Or.inl h), Nat.add_zero]
theorem addW_twice {F xs : List Int} {q : Nat} (h : opW xs q ∈ xs.take q) : addW F xs (q + 1) = addW F xs q := by
  show addW F xs q + _ = _
  rw [if_pos (Or.inr h), Nat.add_zero]
theorem addW_new {F xs : List Int} {q : Nat} (h : ¬ opW F (opW xs q).toNat < 0) (h2 : opW xs q ∉ xs.take q) : addW F xs (q + 1) = addW F xs q + wLen (opW F (opW xs q).toNat) := by
  show addW F xs q + _ = _
  rw [if_neg (fun h3 => h3.elim h h2)]
/-- what is asked of the operands -/
def okL (F : List Int) (size : Nat) (xs : List Int) : Bool := xs.all (okW F size)
theorem okL_snoc {F xs : List Int} {size q : Nat} (h : q < xs.length) (hx : okW F size xs[q] = true) (ht : okL F size (xs.take q) = true) : okL F size (xs.take (q + 1)) = true := by
  unfold okL at ht ⊢
  rw [List.take_succ_eq_append_getElem h, List.all_append, ht]
  simp [hx]
theorem okL_no {F xs : List Int} {size q : Nat} (h : q < xs.length) (hx : okW F size xs[q] = false) : okL F size xs = false := by
  unfold okL
  rw [List.all_eq_false]
  exact ⟨xs[q], List.getElem_mem h, by rw [hx]; simp⟩
/-- a list is what stands behind a place -/
def KidsAt (T : List Int) (scan n : Nat) (xs : List Int) : Prop := xs.length = n ∧ ∀ i, i < n → opW xs i = opW T (scan + (i + 1))
theorem fits_okL {F T xs : List Int} {scan n size : Nat} (h : KidsAt T scan n xs) : okL F T.length xs = fitsTo F T scan n := by
  obtain ⟨hl, hx⟩ := h
  have key : ∀ q, q ≤ n → okL F T.length (xs.take q) = fitsTo F T scan q := by
    intro q
    induction q with
    | zero => intro _; rfl
    | succ q ih =>
      intro hq
      have hlt : q < xs.length := by omega
      have h1 := hx q (by omega)
      rw [opW_at hlt] at h1
      rw [fitsTo_succ, ← ih (by omega), ← h1]
      unfold okL
      rw [List.take_succ_eq_append_getElem hlt, List.all_append]
      simp
  have := key n (Nat.le_refl _)
  rw [← hl, List.take_length] at this
  rw [this, hl]
theorem scan_size {F T xs : List Int} {scan n : Nat} (hf : FitsF F T scan (n + 1)) (hn : n + 1 ≤ 4) (hs : scan + (n + 1) ≤ T.length) (hT : T.length ≤ 800000) (hk : KidsAt T scan n xs) :
    ∀ k, k ≤ n → (scanN F T scan k).2.length = T.length + addW F xs k ∧ ∀ y : Nat, y < F.length → (opW (scanN F T scan k).1 y < 0 ↔ opW F y < 0 ∨ (y : Int) ∈ xs.take k) := by
  obtain ⟨hl, hx⟩ := hk
  intro k
  induction k with
  | zero => intro _; exact ⟨rfl, fun y _ => by simp [scanN]⟩
  | succ k ih =>
    intro hkn
    obtain ⟨i1, i2⟩ := ih (by omega)
    have hi := scanN_inv hf hn hs hT k (by omega)
    have hca := hi.can (hf (k + 1) (by omega) (by omega))
    have hre := hi.rest (k + 1) (by omega) (by omega)
    have hc0 := hf (k + 1) (by omega) (by omega)
    have hxk := hx k (by omega)
    have hlt : k < xs.length := by omega
    have htk : xs.take (k + 1) = xs.take k ++ [opW xs k] := by rw [List.take_succ_eq_append_getElem hlt, opW_at hlt]
    show (scanS scan (k + 1) (scanN F T scan k)).2.length = _ ∧ ∀ y : Nat, y < F.length → (opW (scanS scan (k + 1) (scanN F T scan k)).1 y < 0 ↔ _)
    have hold := hi.old
    have hlF := hi.lenF
    generalize scanN F T scan k = s at *
    obtain ⟨F1, T1⟩ := s
    simp only at hre hold hlF i1 i2 hca
    unfold scanS
    simp only [hre, List.length_set]
    rw [← hxk] at hca hc0 ⊢
    obtain ⟨a, ha⟩ : ∃ a : Nat, opW xs k = (a : Int) := ⟨(opW xs k).toNat, by have := hca.1; omega⟩
    have haF : a < F.length := by have := hc0.2.1; rw [ha] at this; omega
    have h2 := i2 a haF
    rw [← ha] at h2
    rw [htk]
    rw [show (opW xs k).toNat = a by rw [ha]; rfl]
    by_cases hneg : opW F1 a < 0
    · rw [fwd_old hneg]
      have hz : addW F xs (k + 1) = addW F xs k := by
        rcases h2.1 hneg with h | h
        · exact addW_old (by rw [ha]; exact h)
        · exact addW_twice h
      refine ⟨by rw [hz]; exact i1, fun y hy => ?_⟩
      show opW F1 y < 0 ↔ _
      rw [i2 y hy, List.mem_append, List.mem_singleton]
      constructor
      · rintro (h | h)
        · exact Or.inl h
        · exact Or.inr (Or.inl h)
      · rintro (h | h | h)
        · exact Or.inl h
        · exact Or.inr h
        · rw [ha] at h
          obtain rfl : y = a := by omega
          exact (i2 y hy).1 hneg
    · rw [fwd_new hneg]
      have hno := mt h2.2 hneg
      have e1 : opW F1 a = opW F a := by rcases hold a with h | h; exact h; exact absurd h.1 hneg
      have hw : WholeAt F1 a := by
        rcases hca.2.2 with h | h
        · rw [ha] at h; exact absurd h.1 hneg
        · rw [ha] at h; exact h
      have hz : addW F xs (k + 1) = addW F xs k + wLen (opW F a) := by
        have h := addW_new (F := F) (xs := xs) (q := k) (by rw [ha]; exact fun h => hno (Or.inl h)) (fun h => hno (Or.inr h))
        rw [h, ha]; rfl
      refine ⟨?_, fun y hy => ?_⟩
      · show (T1 ++ segW F1 a).length = _
        rw [List.length_append, segW_len hw, e1, hz, i1]; omega
      · show opW (F1.set a (-(T1.length : Int) - 1)) y < 0 ↔ _
        rw [opW_set, List.mem_append, List.mem_singleton]
        by_cases hay : a = y
        · subst hay
          rw [if_pos ⟨rfl, by rw [hlF]; exact haF⟩]
          exact ⟨fun _ => Or.inr (Or.inr ha.symm), fun _ => by omega⟩
        · rw [if_neg (fun h => hay h.1), i2 y hy]
          constructor
          · rintro (h | h)
            · exact Or.inl h
            · exact Or.inr (Or.inl h)
          · rintro (h | h | h)
            · exact Or.inl h
            · exact Or.inr h
            · rw [ha] at h; exact absurd (by omega) hay
theorem kidsAt_cell {T : List Int} {a : Nat} (hw : WholeAt T a) : KidsAt T a (kidsN7 (opW T a)) (cellW T a).kids := by
  unfold kidsN7
  cases hn : isNumOp (opW T a) with
  | true => rw [cellW_num hn]; exact ⟨rfl, fun i h => absurd h (by simp)⟩
  | false =>
    rw [cellW_kid hn, if_neg (by simp)]
    refine ⟨kidsW_len hw.2 hw.1, fun i hi => ?_⟩
    have h := kidsW_get (q := i) hw.2 hi
    show List.getD _ i 0 = _
    rw [List.getD_eq_getElem?_getD, h, Option.getD_some, show a + (i + 1) = a + 1 + i by omega]
/-- the test for a step, as the program makes it -/
theorem stepB_size {F T : List Int} {a : Nat} (hh : halfB F T (a : Int) = true) (hw : WholeAt T a) (hT : T.length ≤ 1600) :
    stepB F T (a : Int) = (okL F T.length (cellW T a).kids && decide (T.length + addW F (cellW T a).kids (cellW T a).kids.length ≤ 1600)) := by
  have hk := kidsAt_cell hw
  have hn := kidsN7_lt hw.1
  unfold stepB
  rw [hh, Bool.true_and, Int.toNat_natCast, fits_okL (size := 0) hk]
  cases hfit : fitsTo F T a (kidsN7 (opW T a)) with
  | false => rfl
  | true =>
    rw [Bool.true_and, Bool.true_and]
    have h := (scan_size (fits_F hfit (by omega)) (by omega) (by have := hw.2; omega) (by omega) hk _ (Nat.le_refl _)).1
    unfold scanC
    rw [h, hk.1]
end Go.Proofs.Ytiipcgnkfhjpeaa
/-
  slices.BinarySearch AND slices.Clone, of ints.
-/
namespace Go.Proofs.Ytiipcgnkfhjpeaa
set_option linter.unusedVariables false
set_option linter.unusedSimpArgs false
open Go.RowKit


theorem clone_belowI {wr w1 : World} {o : Obj} (h : (wr.alloc o).grownBy w1 (Value.slice (some ⟨wr.heap.size, 0, none⟩) 0 0).ownBlock) : Below wr.heap.size wr w1 :=
  ⟨h.os, h.tape, h.output, by have h1 : (wr.alloc o).heap.size ≤ w1.heap.size := h.size; rw [Deep.nblk_alloc] at h1; omega, fun k hk => (h.block k (by show k < (wr.alloc o).heap.size; rw [Deep.nblk_alloc]; omega) (by simp only [Value.ownBlock, ne_eq, Option.some.injEq]; omega)).trans (Deep.blk_alloc_lt _ _ _ hk)⟩
/-- a copy, in a row of its own -/
def CloneW (xs : List Int) (w : World) (e : Ending) (w' : World) : Prop := ∃ v, e = .returned v ∧ StkI w' w.heap.size xs v ∧ Below w.heap.size w w'
set_option maxRecDepth 100000 in
set_option maxHeartbeats 800000 in
theorem cloneW_calls (xs : List Int) (v : Value) (w : World) (hk : IIn w xs v) (hl : xs.length ≤ 1048576) : Calls Try.prog 47 #[v] w (CloneW xs w) := by
  have HK : Hid (IIn w xs v) := hk
  obtain ⟨ad, cap, rfl, hlc, hm, hr⟩ := hk
  unfold maxLen at hm
  rcases ad with _ | ad
  · have hnil : xs = [] := by
      rcases hr with h | ⟨_, _, h, -⟩
      · exact h
      · simp at h
    subst hnil
    clear hr HK
    have q : (binOp .eql 24 (.slice none 0 cap) (.slice none 0 0)).run Try.prog w = .ok (.bool true) w := Lib.run_eql_slice_nil w _ _ none 0 cap 0 0 Try.underlying24
    go_enter Try.func47, Try.ntmps47
    go_wp2_with fail
    go_ret
    exact ⟨_, rfl, StkI.none _ _, Below.refl _ _⟩
  · clear hr
    have q : (binOp .eql 24 (.slice (some ad) xs.length cap) (.slice none 0 0)).run Try.prog w = .ok (.bool false) w := Lib.run_eql_slice_nil w _ _ (some ad) xs.length cap 0 0 Try.underlying24
    go_enter Try.func47, Try.ntmps47
    go_wp2_with (at_builtin; go_must (refine wpList_pushI rfl _ _ rfl _ w.heap.size [] xs (.slice (some ⟨w.heap.size, 0, none⟩) 0 0) (.slice (some ad) xs.length cap) rfl (StkI.nil w _ (Nat.le_refl _)) rfl (HK.out.next (box_below w _)) (by rw [Deep.nblk_alloc]; omega) (by simp only [List.length_nil]; omega) ?_); go_must (intro v1 w1 hst1 hg1); go_must (have HST1 : Hid (StkI w1 w.heap.size xs v1) := hst1); go_must (have HB1 : Hid (Below w.heap.size w w1) := clone_belowI hg1); clear hst1 hg1)
    go_ret
    exact ⟨_, rfl, HST1.out, HB1.out⟩
end Go.Proofs.Ytiipcgnkfhjpeaa
/-
  THE PROGRAM's ExprValid (opOf, nodeOf, the four kinds' fits, nodesLeft, ExprValid): which trees it takes for valid; nothing that was there is changed.
-/
namespace Go.Proofs.Ytiipcgnkfhjpeaa
set_option linter.unusedVariables false
set_option linter.unusedSimpArgs false
open Go.RowKit

/-- how nodes of a kind with operands are written -/
def opKids (op : Int) : Int := if op = 4 then 2 else if op = 5 then 2 else if op = 6 then 1 else if op = 7 then 1 else if op = 8 then 2 else if op = 9 then 2 else if op = 10 then 3 else 0
def opMarks (op : Int) : ByteArray := if op = 4 then ⟨#[40, 32, 41]⟩ else if op = 5 then ⟨#[60, 44, 62]⟩ else if op = 6 then ⟨#[126]⟩ else if op = 7 then ⟨#[94]⟩ else if op = 8 then ⟨#[40, 43, 41]⟩ else if op = 9 then ⟨#[40, 45, 41]⟩ else if op = 10 then ⟨#[91, 63, 58, 93]⟩ else ⟨#[]⟩
def opOk (op : Int) : Bool := decide (4 ≤ op ∧ op ≤ 10)

/-- opOf has handed back the row of a kind -/
def OpRow (op : Int) (w : World) (e : Ending) (w' : World) : Prop := e = .returned (.tuple #[.agg #[.int .i64 (opKids op), .string (opMarks op)], .bool (opOk op)]) ∧ Below w.heap.size w w'

theorem opRow_4 {op : Int} (h : (op == 4) = true) : opKids op = 2 ∧ opMarks op = ⟨#[40, 32, 41]⟩ ∧ opOk op = true := by
  have e : op = 4 := by simpa using h
  subst e
  exact ⟨rfl, rfl, rfl⟩
theorem opRow_5 {op : Int} (h : (op == 5) = true) : opKids op = 2 ∧ opMarks op = ⟨#[60, 44, 62]⟩ ∧ opOk op = true := by
  have e : op = 5 := by simpa using h
  subst e
  exact ⟨rfl, rfl, rfl⟩
theorem opRow_6 {op : Int} (h : (op == 6) = true) : opKids op = 1 ∧ opMarks op = ⟨#[126]⟩ ∧ opOk op = true := by
  have e : op = 6 := by simpa using h
  subst e
  exact ⟨rfl, rfl, rfl⟩
theorem opRow_7 {op : Int} (h : (op == 7) = true) : opKids op = 1 ∧ opMarks op = ⟨#[94]⟩ ∧ opOk op = true := by
  have e : op = 7 := by simpa using h
  subst e
  exact ⟨rfl, rfl, rfl⟩
theorem opRow_8 {op : Int} (h : (op == 8) = true) : opKids op = 2 ∧ opMarks op = ⟨#[40, 43, 41]⟩ ∧ opOk op = true := by
  have e : op = 8 := by simpa using h
  subst e
  exact ⟨rfl, rfl, rfl⟩
theorem opRow_9 {op : Int} (h : (op == 9) = true) : opKids op = 2 ∧ opMarks op = ⟨#[40, 45, 41]⟩ ∧ opOk op = true := by
  have e : op = 9 := by simpa using h
  subst e
  exact ⟨rfl, rfl, rfl⟩
theorem opRow_10 {op : Int} (h : (op == 10) = true) : opKids op = 3 ∧ opMarks op = ⟨#[91, 63, 58, 93]⟩ ∧ opOk op = true := by
  have e : op = 10 := by simpa using h
  subst e
  exact ⟨rfl, rfl, rfl⟩
theorem opRow_no {op : Int} (h4 : (op == 4) = false) (h5 : (op == 5) = false) (h6 : (op == 6) = false) (h7 : (op == 7) = false) (h8 : (op == 8) = false) (h9 : (op == 9) = false) (h10 : (op == 10) = false) : opKids op = 0 ∧ opMarks op = ⟨#[]⟩ ∧ opOk op = false := by
  simp only [beq_eq_false_iff_ne] at *
  refine ⟨?_, ?_, ?_⟩
  · unfold opKids; rw [if_neg h4, if_neg h5, if_neg h6, if_neg h7, if_neg h8, if_neg h9, if_neg h10]
  · unfold opMarks; rw [if_neg h4, if_neg h5, if_neg h6, if_neg h7, if_neg h8, if_neg h9, if_neg h10]
  · unfold opOk; rw [decide_eq_false]; omega

set_option maxHeartbeats 400000 in
theorem opOf_calls (op : Int) (w : World) : Calls Try.prog 62 #[.int .i64 op] w (OpRow op w) := by
  go_enter Try.func62, Try.ntmps62
  go_wp2_with fail
  all_goals first
    | (rename (op == 4) = true => ht; obtain ⟨e1, e2, e3⟩ := opRow_4 ht; refine bodyPost_ret (v := .tuple #[.agg #[.int .i64 2, .string ⟨#[40, 32, 41]⟩], .bool true]) (by simp [results, Try.results62, go_sem]) rfl ⟨by rw [e1, e2, e3], box_below _ _⟩)
    | (rename (op == 5) = true => ht; obtain ⟨e1, e2, e3⟩ := opRow_5 ht; refine bodyPost_ret (v := .tuple #[.agg #[.int .i64 2, .string ⟨#[60, 44, 62]⟩], .bool true]) (by simp [results, Try.results62, go_sem]) rfl ⟨by rw [e1, e2, e3], box_below _ _⟩)
    | (rename (op == 6) = true => ht; obtain ⟨e1, e2, e3⟩ := opRow_6 ht; refine bodyPost_ret (v := .tuple #[.agg #[.int .i64 1, .string ⟨#[126]⟩], .bool true]) (by simp [results, Try.results62, go_sem]) rfl ⟨by rw [e1, e2, e3], box_below _ _⟩)
    | (rename (op == 7) = true => ht; obtain ⟨e1, e2, e3⟩ := opRow_7 ht; refine bodyPost_ret (v := .tuple #[.agg #[.int .i64 1, .string ⟨#[94]⟩], .bool true]) (by simp [results, Try.results62, go_sem]) rfl ⟨by rw [e1, e2, e3], box_below _ _⟩)
    | (rename (op == 8) = true => ht; obtain ⟨e1, e2, e3⟩ := opRow_8 ht; refine bodyPost_ret (v := .tuple #[.agg #[.int .i64 2, .string ⟨#[40, 43, 41]⟩], .bool true]) (by simp [results, Try.results62, go_sem]) rfl ⟨by rw [e1, e2, e3], box_below _ _⟩)
    | (rename (op == 9) = true => ht; obtain ⟨e1, e2, e3⟩ := opRow_9 ht; refine bodyPost_ret (v := .tuple #[.agg #[.int .i64 2, .string ⟨#[40, 45, 41]⟩], .bool true]) (by simp [results, Try.results62, go_sem]) rfl ⟨by rw [e1, e2, e3], box_below _ _⟩)
    | (rename (op == 10) = true => ht; obtain ⟨e1, e2, e3⟩ := opRow_10 ht; refine bodyPost_ret (v := .tuple #[.agg #[.int .i64 3, .string ⟨#[91, 63, 58, 93]⟩], .bool true]) (by simp [results, Try.results62, go_sem]) rfl ⟨by rw [e1, e2, e3], box_below _ _⟩)
    | (rename (op == 4) = false => h4; rename (op == 5) = false => h5; rename (op == 6) = false => h6; rename (op == 7) = false => h7; rename (op == 8) = false => h8; rename (op == 9) = false => h9; rename (op == 10) = false => h10; obtain ⟨e1, e2, e3⟩ := opRow_no h4 h5 h6 h7 h8 h9 h10; refine bodyPost_ret (v := .tuple #[.agg #[.int .i64 0, .string ⟨#[]⟩], .bool false]) (by simp [results, Try.results62, go_sem]) rfl ⟨by rw [e1, e2, e3], box_below _ _⟩)

end Go.Proofs.Ytiipcgnkfhjpeaa
/-
  THE PROGRAM's hasNumber AND sizeOfKind.
-/
namespace Go.Proofs.Ytiipcgnkfhjpeaa
set_option linter.unusedVariables false
set_option linter.unusedSimpArgs false
open Go.RowKit


theorem hasNumber_calls (op : Int) (w : World) : Calls Try.prog 39 #[.int .i64 op] w fun e w' => e = .returned (.bool (isNumOp op)) ∧ w = w' := by
  by_cases h2 : op = 2
  · subst h2
    go_enter Try.func39, Try.ntmps39
    go_wp2_with fail
    go_ret
    exact ⟨rfl, rfl⟩
  by_cases h3 : op = 3
  · subst h3
    go_enter Try.func39, Try.ntmps39
    go_wp2_with fail
    go_ret
    exact ⟨rfl, rfl⟩
  have hv : isNumOp op = false := by unfold isNumOp; simp; omega
  have h2' : (op == 2) = false := by simpa using h2
  have h3' : (op == 3) = false := by simpa using h3
  rw [hv]
  clear h2 h3 hv
  go_enter Try.func39, Try.ntmps39
  go_wp2_with fail
  go_ret
  exact ⟨rfl, rfl⟩

/-- what sizeOfKind answers as a size -/
def sizeV (op : Int) : Int := if wLen op = 0 then 1 else wLen op
theorem sizeV_ok {op : Int} (h : wLen op ≠ 0) : sizeV op = (wLen op : Int) := by unfold sizeV; rw [if_neg h]
def sizeOk (op : Int) : Bool := decide (wLen op ≠ 0)
theorem sizeV_op {op : Int} (h2 : op ≠ 2) (h3 : op ≠ 3) (h11 : op ≠ 11) : opOk op = sizeOk op ∧ 1 + opKids op = sizeV op := by
  unfold sizeOk opOk sizeV opKids wLen
  repeat' split
  all_goals (try omega)
  all_goals (refine ⟨?_, ?_⟩ <;> simp at * <;> omega)

set_option maxHeartbeats 400000 in
theorem sizeOfKind_calls (op : Int) (w : World) : Calls Try.prog 38 #[.int .i64 op] w fun e w' => e = .returned (.tuple #[.int .i64 (sizeV op), .bool (sizeOk op)]) ∧ Below w.heap.size w w' := by
  by_cases h2 : op = 2
  · subst h2
    go_enter Try.func38, Try.ntmps38
    go_wp2_with fail
    go_ret2
    exact ⟨rfl, Below.refl _ _⟩
  by_cases h3 : op = 3
  · subst h3
    go_enter Try.func38, Try.ntmps38
    go_wp2_with fail
    go_ret2
    exact ⟨rfl, Below.refl _ _⟩
  by_cases h11 : op = 11
  · subst h11
    go_enter Try.func38, Try.ntmps38
    go_wp2_with fail
    go_ret2
    exact ⟨rfl, Below.refl _ _⟩
  obtain ⟨e1, e2⟩ := sizeV_op h2 h3 h11
  have h2' : (op == 2) = false := by simpa using h2
  have h3' : (op == 3) = false := by simpa using h3
  have h11' : (op == 11) = false := by simpa using h11
  have HV := mkHid (And.intro e1 e2)
  have hkb : 0 ≤ opKids op ∧ opKids op ≤ 3 := by unfold opKids; repeat' split
                                                 all_goals omega
  clear h2 h3 h11 e1 e2
  go_enter Try.func38, Try.ntmps38
  go_wp2_with fail
  refine (opOf_calls op _).mono ?_
  rintro e w1 ⟨rfl, hb1⟩
  have HB1 := mkHid hb1
  obtain ⟨k, hk⟩ : ∃ k, k = opKids op := ⟨_, rfl⟩
  have HKE := mkHid hk
  rw [← hk] at hkb ⊢
  clear hb1 hk
  go_wp2_with fail
  refine bodyPost_ret (v := .tuple #[.int .i64 (1 + k), .bool (opOk op)]) (by simp [results, Try.results38, go_sem]) rfl ?_
  exact ⟨by rw [HV.out.1, HKE.out, HV.out.2], HB1.out.alloc HB1.out.size _⟩
end Go.Proofs.Ytiipcgnkfhjpeaa
