/-
  THE PROGRAM's wordsAt, addressesIn, startsOf, placesIn.
-/
import Derived.Test.YtiipcgnkfhjpeaaMgExactForwardStep3
import Derived.Test.YtiipcgnkfhjpeaaMgExactForwardStep2
import Derived.Deep.RegionHeld3
import Derived.Test.YtiipcgnkfhjpeaaMgExactForwardStep1
import Derived.Laws.CopyRow
import Derived.Laws.IdiomCopy
import Derived.Deep.RegionLaw
import Derived.BigQuiet
import Derived.IntWalk
namespace Go.Proofs.Ytiipcgnkfhjpeaa
set_option linter.unusedVariables false
set_option linter.unusedSimpArgs false
open Go.RowKit


set_option maxHeartbeats 800000 in
theorem wordsAt_no (ws : List Int) (a : Nat) (v : Value) (w : World) (hk : IIn w ws v) (ha : a < ws.length) (hn : ¬ WholeAt ws a) (hl : ws.length ≤ 1048576) :
    Calls Try.prog 52 #[v, .int .i64 (a : Int)] w fun e w' => e = .returned (.tuple #[.slice none 0 0, .bool false]) ∧ Below w.heap.size w w' := by
  have HK := mkHid hk
  obtain ⟨ad, cap, rfl, hlc, hm, -⟩ := hk
  unfold maxLen at hm
  obtain ⟨bl, off, rfl, d0⟩ := HK.out.at a ha
  obtain ⟨op, hop⟩ : ∃ op, op = ws[a] := ⟨_, rfl⟩
  have hn' : ¬ (wLen op ≠ 0 ∧ a + wLen op ≤ ws.length) := by rw [hop, ← opW_at ha]; exact hn
  rw [← hop] at d0
  clear hop
  go_enter Try.func52, Try.ntmps52
  go_wp2_with fail
  refine (sizeOfKind_calls op w).mono ?_
  rintro e w1 ⟨rfl, hb1⟩
  have HB1 := mkHid hb1
  clear hb1 d0
  by_cases h0 : wLen op = 0
  · have hs : sizeOk op = false := by unfold sizeOk; simp [h0]
    rw [hs]
    go_wp2_with fail
    refine bodyPost_ret (v := .tuple #[.slice none 0 0, .bool false]) (by simp [results, Try.results52, go_sem]) rfl ?_
    exact ⟨rfl, HB1.out⟩
  · have hs : sizeOk op = true := by unfold sizeOk; simp [h0]
    rw [hs, sizeV_ok h0]
    obtain ⟨n, hnn⟩ : ∃ n : Nat, n = wLen op := ⟨_, rfl⟩
    have h4 := wLen_le op
    rw [← hnn] at hn' h0 h4 ⊢
    have hbig : (ws.length : Int) - (a : Int) < (n : Int) := by omega
    clear hnn hs
    go_wp2_with fail
    refine bodyPost_ret (v := .tuple #[.slice none 0 0, .bool false]) (by simp [results, Try.results52, go_sem]) rfl ?_
    exact ⟨rfl, HB1.out⟩
set_option maxHeartbeats 800000 in
theorem wordsAt_yes (ws : List Int) (a : Nat) (bl off cap : Nat) (w : World) (hk : IIn w ws (.slice (some ⟨bl, off, none⟩) ws.length cap)) (ha : a < ws.length) (hn : WholeAt ws a) (hl : ws.length ≤ 1048576) :
    Calls Try.prog 52 #[.slice (some ⟨bl, off, none⟩) ws.length cap, .int .i64 (a : Int)] w fun e w' => e = .returned (.tuple #[.slice (some ⟨bl, off + a, none⟩) (wLen (opW ws a)) (cap - a), .bool true]) ∧ Below w.heap.size w w' := by
  have HK := mkHid hk
  obtain ⟨_, _, he1, hlc, hm, -⟩ := hk
  simp only [Value.slice.injEq, true_and] at he1
  obtain ⟨-, rfl⟩ := he1
  unfold maxLen at hm
  obtain ⟨b1, o1, he, d0⟩ := HK.out.at a ha
  simp only [Option.some.injEq, Addr.mk.injEq, and_true] at he
  obtain ⟨rfl, rfl⟩ := he
  obtain ⟨h0, hfit⟩ := hn
  rw [opW_at ha] at h0 hfit ⊢
  obtain ⟨op, hop⟩ : ∃ op, op = ws[a] := ⟨_, rfl⟩
  rw [← hop] at d0 h0 hfit ⊢
  clear hop
  have hs : sizeOk op = true := by unfold sizeOk; simp [h0]
  have hsv := sizeV_ok h0
  have HSV := mkHid (And.intro hs hsv)
  obtain ⟨n, hnn⟩ : ∃ n : Nat, n = wLen op := ⟨_, rfl⟩
  have HN := mkHid hnn
  have h4 := wLen_le op
  rw [← hnn] at h0 hfit h4 ⊢
  have hbig : ¬ (ws.length : Int) - (a : Int) < (n : Int) := by omega
  clear hnn hs hsv
  go_enter Try.func52, Try.ntmps52
  go_wp2_with fail
  refine (sizeOfKind_calls op w).mono ?_
  rintro e w1 ⟨rfl, hb1⟩
  have HB1 := mkHid hb1
  rw [HSV.out.1, HSV.out.2, ← HN.out]
  clear hb1 d0
  go_wp2_with fail
  refine bodyPost_ret (v := .tuple #[.slice (some ⟨bl, off + a, none⟩) n (cap - a), .bool true]) (by simp [results, Try.results52, go_sem]) rfl ?_
  exact ⟨rfl, HB1.out⟩
set_option maxHeartbeats 800000 in
theorem addr_num (ws : List Int) (a : Nat) (bl off cap : Nat) (w : World) (d0 : w.cell? ⟨bl, off, none⟩ = some (.int .i64 (opW ws a))) (n : Nat) (hn : 0 < n) (hnc : n ≤ cap) (hc : cap ≤ 9223372036854775807) (h : isNumOp (opW ws a) = true) :
    Calls Try.prog 68 #[.slice (some ⟨bl, off, none⟩) n cap] w fun e w' => e = .returned (.slice none 0 0) ∧ w = w' := by
  have d0' : w.cell? ⟨bl, off + 0, none⟩ = some (.int .i64 (opW ws a)) := d0
  go_enter Try.func68, Try.ntmps68
  go_wp2_with fail
  refine (hasNumber_calls _ w).mono ?_
  rintro e w1 ⟨rfl, rfl⟩
  rw [h]
  go_wp2_with fail
  go_ret
  exact ⟨rfl, rfl⟩
set_option maxHeartbeats 800000 in
theorem addr_kids (ws : List Int) (a : Nat) (bl off cap : Nat) (w : World) (d0 : w.cell? ⟨bl, off, none⟩ = some (.int .i64 (opW ws a))) (n : Nat) (hn : 2 ≤ n) (hnc : n ≤ cap) (hc : cap ≤ 9223372036854775807) (h : isNumOp (opW ws a) = false) :
    Calls Try.prog 68 #[.slice (some ⟨bl, off, none⟩) n cap] w fun e w' => e = .returned (.slice (some ⟨bl, off + 1, none⟩) (n - 1) (cap - 1)) ∧ w = w' := by
  have hne : ¬ cap = 1 := by omega
  have hn0 : 0 < n := by omega
  have d0' : w.cell? ⟨bl, off + 0, none⟩ = some (.int .i64 (opW ws a)) := d0
  go_enter Try.func68, Try.ntmps68
  go_wp2_with fail
  refine (hasNumber_calls _ w).mono ?_
  rintro e w1 ⟨rfl, rfl⟩
  rw [h]
  go_wp2_with fail
  go_ret
  exact ⟨rfl, rfl⟩
set_option maxHeartbeats 800000 in
theorem startsOf_calls (ws : List Int) (v : Value) (w : World) (hk : IIn w ws v) (hl : ws.length ≤ 1048576) :
    Calls Try.prog 64 #[v] w fun e w' => ∃ t, e = .returned (.tuple #[t, .bool (startsW ws 0).isSome]) ∧ StkI w' w.heap.size ((startsW ws 0).getD []) t ∧ Below w.heap.size w w' := by
  have HK := mkHid hk
  obtain ⟨ad, cap, rfl, hlc, hm, -⟩ := hk
  unfold maxLen at hm
  go_enter Try.func64, Try.ntmps64
  go_wp2_with fail
  go_loopw [4, 5] (fun o a wr => ∃ (p : Nat) (acc : List Int), a = .int .i64 p ∧ p ≤ ws.length ∧ acc.length ≤ p ∧ startsW ws 0 = (startsW ws p).map (acc ++ ·) ∧ StkI wr w.heap.size acc o ∧ Below w.heap.size w wr) (fun _ a _ => ws.length - (intOf a).toNat)
  case atStart => exact ⟨0, [], rfl, Nat.zero_le _, Nat.le_refl _, by simp, StkI.none _ _, Below.refl _ _⟩
  case round =>
    obtain ⟨p, acc, rfl, hp, hal, heq, hst, hb⟩ := hrel
    obtain ⟨wo, rfl⟩ : ∃ wo : World, wo = wr := ⟨_, rfl⟩
    obtain ⟨ado, no, capo, rfl⟩ := hst.form
    have HS := mkHid hst
    have HB := mkHid hb
    have HEQ := mkHid heq
    have HAL := mkHid hal
    by_cases hlt : p < ws.length
    · obtain ⟨bl, off, rfl, -⟩ := HK.out.at p hlt
      clear hst hb heq hal
      by_cases hwh : WholeAt ws p
      · have hw2 := hwh.2
        have h4 := wLen_le (opW ws p)
        have h02 := wLen_pos hwh.1
        have HNE : Hid (startsW ws 0 = (startsW ws (p + wLen (opW ws p))).map ((acc ++ [(p : Int)]) ++ ·)) := by
          have h1 := hwh.1
          rw [Hid, HEQ.out, startsW_go hlt (by rw [← opW_at hlt]; omega), ← opW_at hlt, Option.map_map]
          congr 1
          funext x
          simp
        have HWH := mkHid hwh
        clear hwh
        go_wp2_with fail
        refine (wordsAt_yes ws p bl off cap wo (HK.out.next HB.out) hlt HWH.out hl).mono ?_
        rintro e w5 ⟨rfl, hb5⟩
        have HB5 : Hid (Below w.heap.size w w5) := HB.out.trans (hb5.mono HB.out.size)
        have HS5 := mkHid (StkI.next HS.out hb5)
        obtain ⟨n, hn⟩ : ∃ n : Nat, n = wLen (opW ws p) := ⟨_, rfl⟩
        rw [← hn] at hw2 h4 h02 HNE ⊢
        clear hb5 hn
        have A1 : Hid (StkI (w5.alloc (.cells #[.int .i64 (p : Int)] 3)) w.heap.size (acc) (.slice ado no capo)) := StkI.alloc HS5.out _
        have K1 : Hid (IIn (w5.alloc (.cells #[.int .i64 (p : Int)] 3)) [(p : Int)] (.slice (some ⟨w5.heap.size, 0, none⟩) 1 1)) := oneI_in w5 (p : Int)
        have L1 : Hid (w.heap.size ≤ (w5.alloc (.cells #[.int .i64 (p : Int)] 3)).heap.size) := by rw [Hid, Deep.nblk_alloc]; have := HB5.out.size; omega
        go_wp2_with (have tk := A1; clear tk; at_builtin; go_must (refine wpList_pushI rfl _ _ rfl _ w.heap.size (acc) [(p : Int)] (.slice ado no capo) (.slice (some ⟨w5.heap.size, 0, none⟩) 1 1) rfl A1.out rfl K1.out L1.out (by have := HAL.out; simp; omega) ?_); go_must (intro v1 w7 hst1 hg1); go_must (have HB7 : Hid (Below w.heap.size w w7) := StkI.grown A1.out rfl (HB5.out.alloc HB5.out.size _) hg1); go_must (have HS7 : Hid (StkI w7 w.heap.size (acc ++ [(p : Int)]) v1) := by exact hst1); go_must (obtain ⟨ad1, n1, cap1, rfl⟩ := hst1.form); clear hst1 hg1)
        go_roundw
        case rel => first | exact ⟨p + n, acc ++ [(p : Int)], by go_num, by omega, by have := HAL.out; simp; omega, HNE.out, HS7.out, HB7.out⟩ | ((repeat apply Exists.intro); exact ⟨⟨p + n, acc ++ [(p : Int)], by go_num, by omega, by have := HAL.out; simp; omega, HNE.out, HS7.out, HB7.out⟩, rfl⟩)
        case measure => simp [intOf]; omega
      · have HV : Hid (startsW ws 0 = none) := by
          rw [Hid, HEQ.out, startsW_bad hlt (by unfold WholeAt at hwh; rw [opW_at hlt] at hwh; omega)]; rfl
        have HWH := mkHid hwh
        clear hwh
        go_wp2_with fail
        refine (wordsAt_no ws p _ wo (HK.out.next HB.out) hlt HWH.out hl).mono ?_
        rintro e w5 ⟨rfl, hb5⟩
        have HB5 : Hid (Below w.heap.size w w5) := HB.out.trans (hb5.mono HB.out.size)
        clear hb5
        go_wp2_with fail
        refine bodyPost_ret (v := .tuple #[.slice none 0 0, .bool false]) (by simp [results, Try.results64, go_sem]) rfl ?_
        rw [HV.out]
        exact ⟨_, rfl, StkI.none _ _, HB5.out⟩
    · have HV : Hid (startsW ws 0 = some acc) := by rw [Hid, HEQ.out, startsW_end (by omega)]; simp
      clear hst hb heq hal
      go_wp2_with fail
      refine bodyPost_ret (v := .tuple #[.slice ado no capo, .bool true]) (by simp [results, Try.results64, go_sem]) rfl ?_
      rw [HV.out]
      exact ⟨_, rfl, HS.out, HB.out⟩

end Go.Proofs.Ytiipcgnkfhjpeaa
/-
  THE MODEL's l7Cell.
-/
namespace Go.Proofs.Ytiipcgnkfhjpeaa
set_option linter.unusedVariables false
set_option linter.unusedSimpArgs false
open Go.RowKit


end Go.Proofs.Ytiipcgnkfhjpeaa
/-
  THE PROGRAM's cellOf.
-/
namespace Go.Proofs.Ytiipcgnkfhjpeaa
set_option linter.unusedVariables false
set_option linter.unusedSimpArgs false
open Go.RowKit


/-- the words of a cell, in place -/
structure CellIn (ws : List Int) (a n : Nat) (bl off cap : Nat) (w : World) : Prop where
  len : n = wLen (opW ws a)
  pos : 2 ≤ n
  cap1 : n ≤ cap
  cap2 : cap ≤ 9223372036854775807
  cell : ∀ q, q < n → w.cell? ⟨bl, off + q, none⟩ = some (.int .i64 (opW ws (a + q)))
  fit : a + n ≤ ws.length
theorem CellIn.next {ws : List Int} {a n bl off cap : Nat} {w w' : World} (h : CellIn ws a n bl off cap w) (hb : Below w.heap.size w w') : CellIn ws a n bl off cap w' :=
  ⟨h.len, h.pos, h.cap1, h.cap2, fun q hq => (hb.cell (p := ⟨bl, off + q, none⟩) (cell_lt (h.cell q hq))).trans (h.cell q hq), h.fit⟩
/-- where the operands' addresses lie -/
def kidSl (ws : List Int) (a n bl off cap : Nat) : Value := if isNumOp (opW ws a) = true then .slice none 0 0 else .slice (some ⟨bl, off + 1, none⟩) (n - 1) (cap - 1)
theorem kidSl_in {ws : List Int} {a n bl off cap : Nat} {w : World} (h : CellIn ws a n bl off cap w) : IIn w (cellW ws a).kids (kidSl ws a n bl off cap) := by
  unfold kidSl
  cases hn : isNumOp (opW ws a) with
  | true =>
    rw [cellW_num hn, if_pos rfl]
    exact ⟨none, 0, rfl, Nat.le_refl _, by simp [maxLen], Or.inl rfl⟩
  | false =>
    rw [cellW_kid hn, if_neg (by simp), ← h.len]
    have h1 := h.fit
    have h2 := h.pos
    have h3 := h.cap1
    have h4 := h.cap2
    have hl : ((ws.drop (a + 1)).take (n - 1)).length = n - 1 := by rw [List.length_take, List.length_drop]; omega
    refine ⟨_, cap - 1, by rw [hl], by rw [hl]; omega, by unfold maxLen; omega, Or.inr ⟨bl, off + 1, rfl, ?_, fun i hi => ?_⟩⟩
    · exact cell_lt (h.cell 0 (by omega))
    · rw [hl] at hi
      have h5 := h.cell (1 + i) (by omega)
      have e1 : off + 1 + i = off + (1 + i) := by omega
      rw [e1, h5]
      have h6 := kidsW_get (ws := ws) (a := a) (q := i) (by rw [← h.len]; exact h1) (by rw [← h.len]; exact hi)
      rw [← h.len, List.getElem?_eq_getElem (by rw [hl]; exact hi)] at h6
      simp only [Option.some.injEq] at h6
      rw [h6]
      have e2 : a + 1 + i = a + (1 + i) := by omega
      rw [e2]
theorem addr_calls (ws : List Int) (a n bl off cap : Nat) (w : World) (h : CellIn ws a n bl off cap w) : Calls Try.prog 68 #[.slice (some ⟨bl, off, none⟩) n cap] w fun e w' => e = .returned (kidSl ws a n bl off cap) ∧ w = w' := by
  unfold kidSl
  cases hn : isNumOp (opW ws a) with
  | true => rw [if_pos rfl]; exact addr_num ws a bl off cap w (h.cell 0 (by have := h.pos; omega)) n (by have := h.pos; omega) h.cap1 h.cap2 hn
  | false => rw [if_neg (by simp)]; exact addr_kids ws a bl off cap w (h.cell 0 (by have := h.pos; omega)) n h.pos h.cap1 h.cap2 hn

end Go.Proofs.Ytiipcgnkfhjpeaa
/-
  THE PROGRAM's slices.Index, slices.Contains AND sizeAfter.
-/
namespace Go.Proofs.Ytiipcgnkfhjpeaa
set_option linter.unusedVariables false
set_option linter.unusedSimpArgs false
open Go.RowKit


theorem idxI_first {xs : List Int} {a : Int} {q : Nat} (h : q < xs.length) (hx : xs[q] = a) (hn : a ∉ xs.take q) : idxI xs a = (q : Int) := by
  have hi : xs.idxOf a = q := by
    unfold List.idxOf
    rw [List.findIdx_eq h]
    refine ⟨by simp [hx], fun j hj => ?_⟩
    rw [beq_eq_false_iff_ne]
    intro e
    apply hn
    rw [← e]
    exact List.mem_take_iff_getElem.2 ⟨j, by omega, rfl⟩
  unfold idxI
  rw [hi, if_pos h]
theorem take_not {xs : List Int} {a : Int} {q : Nat} (h : q < xs.length) (hx : ¬ a = xs[q]) (hn : a ∉ xs.take q) : a ∉ xs.take (q + 1) := by
  rw [List.take_succ_eq_append_getElem h, List.mem_append, List.mem_singleton]
  rintro (h2 | h2)
  · exact hn h2
  · exact hx h2
set_option maxRecDepth 100000 in
theorem index_calls (xs : List Int) (x : Int) (v : Value) (w : World) (hk : IIn w xs v) (hl : xs.length ≤ 1048576) :
    Calls Try.prog 77 #[v, .int .i64 x] w fun e w' => e = .returned (.int .i64 (idxI xs x)) ∧ w = w' := by
  have HK := mkHid hk
  obtain ⟨ad, cap, rfl, hlc, hm, -⟩ := hk
  unfold maxLen at hm
  go_enter Try.func77, Try.ntmps77
  go_wp2_with fail
  go_loopw [8] (fun a wr => ∃ q : Nat, a = .int .i64 q ∧ q ≤ xs.length ∧ x ∉ xs.take q ∧ w = wr) (fun a _ => xs.length - (intOf a).toNat)
  case atStart => exact ⟨0, rfl, Nat.zero_le _, by simp, rfl⟩
  case round =>
    obtain ⟨q, rfl, hq, hno, rfl⟩ := hrel
    have HNO := mkHid hno
    by_cases hlt : q < xs.length
    · obtain ⟨bl, off, rfl, d0⟩ := HK.out.at q hlt
      by_cases hx : x = xs[q]
      · have HV : Hid (idxI xs x = (q : Int)) := idxI_first hlt hx.symm hno
        rw [← hx] at d0
        clear hno hx
        go_wp2_with fail
        go_ret
        rw [HV.out]
        exact ⟨rfl, rfl⟩
      · have HV := mkHid (take_not hlt hx hno)
        obtain ⟨y, hy⟩ : ∃ y, y = xs[q] := ⟨_, rfl⟩
        rw [← hy] at d0 hx
        clear hno hy
        go_wp2_with fail
        go_roundw
        case rel => first | exact ⟨q + 1, by go_num, by omega, HV.out, trivial⟩ | exact ⟨q + 1, by go_num, by omega, HV.out, rfl⟩
        case measure => simp [intOf]; omega
    · have hqe : q = xs.length := by omega
      have HV : Hid (idxI xs x = -1) := by
        have h := hno
        rw [hqe, List.take_length] at h
        exact idxI_none fun i hi e => h (by rw [← e]; exact List.getElem_mem hi)
      clear hno hqe
      go_wp2_with fail
      go_ret
      rw [HV.out]
      exact ⟨rfl, rfl⟩
set_option maxRecDepth 100000 in
theorem contains_calls (xs : List Int) (x : Int) (v : Value) (w : World) (hk : IIn w xs v) (hl : xs.length ≤ 1048576) :
    Calls Try.prog 69 #[v, .int .i64 x] w fun e w' => e = .returned (.bool (decide (x ∈ xs))) ∧ w = w' := by
  have HK := mkHid hk
  clear hk
  go_enter Try.func69, Try.ntmps69
  go_wp2_with fail
  refine (index_calls xs x v w HK.out hl).mono ?_
  rintro e w1 ⟨rfl, rfl⟩
  have HV : Hid (decide (x ∈ xs) = decide (0 ≤ idxI xs x)) := by
    by_cases h : x ∈ xs
    · rw [Hid, decide_eq_true h, decide_eq_true (idxI_mem.2 h)]
    · rw [Hid, decide_eq_false h, decide_eq_false (fun h2 => h (idxI_mem.1 h2))]
  by_cases h0 : 0 ≤ idxI xs x
  · go_wp2_with fail
    go_ret
    rw [HV.out]
    exact ⟨by simp [h0], rfl⟩
  · go_wp2_with fail
    go_ret
    rw [HV.out]
    exact ⟨by simp [h0], rfl⟩
theorem IIn.take {w : World} {xs : List Int} {ad : Option Addr} {cap q : Nat} (h : IIn w xs (.slice ad xs.length cap)) (hq : q ≤ xs.length) (hq0 : 0 < xs.length) : IIn w (xs.take q) (.slice ad q cap) := by
  obtain ⟨ad2, cap2, he, hlc, hm, hr⟩ := h
  simp only [Value.slice.injEq, true_and] at he
  obtain ⟨rfl, rfl⟩ := he
  have hl : (xs.take q).length = q := by rw [List.length_take]; omega
  refine ⟨ad, cap, by rw [hl], by rw [hl]; omega, hm, ?_⟩
  rcases hr with hr | ⟨bl, off, rfl, hlt, hc⟩
  · rw [hr] at hq0; exact absurd hq0 (by simp)
  · refine Or.inr ⟨bl, off, rfl, hlt, fun i hi => ?_⟩
    rw [hl] at hi
    rw [hc i (by omega)]
    simp
set_option maxRecDepth 100000 in
set_option maxHeartbeats 1600000 in
theorem sizeAfter_calls (F xs : List Int) (size : Nat) (fv xv : Value) (w : World) (hf : IIn w F fv) (hx : IIn w xs xv) (hs : size ≤ 1600) (hl : F.length ≤ 1048576) (hl2 : xs.length ≤ 1048576) :
    Calls Try.prog 70 #[fv, .int .i64 (size : Int), xv] w fun e w' => ∃ n : Nat, e = .returned (.tuple #[.int .i64 (n : Int), .bool (okL F size xs)]) ∧ (okL F size xs = true → n = size + addW F xs xs.length) ∧ Below w.heap.size w w' := by
  have HF := mkHid hf
  have HX := mkHid hx
  obtain ⟨adf, capf, rfl, hlcf, hmf, -⟩ := hf
  obtain ⟨ad, cap, rfl, hlc, hm, -⟩ := hx
  unfold maxLen at hm hmf
  go_enter Try.func70, Try.ntmps70
  go_wp2_with fail
  go_loopw [8, 16] (fun o a wr => ∃ q : Nat, a = .int .i64 q ∧ o = .int .i64 ((size + addW F xs q : Nat) : Int) ∧ q ≤ xs.length ∧ okL F size (xs.take q) = true ∧ Below w.heap.size w wr) (fun _ a _ => xs.length - (intOf a).toNat)
  case atStart => exact ⟨0, rfl, rfl, Nat.zero_le _, rfl, Below.refl _ _⟩
  case round =>
    obtain ⟨q, rfl, rfl, hq, hall, hb⟩ := hrel
    obtain ⟨wo, rfl⟩ : ∃ wo : World, wo = wr := ⟨_, rfl⟩
    have HB := mkHid hb
    have HAL := mkHid hall
    have HAW : Hid (addW F xs q ≤ 4 * 1048576) := by have := addW_le F xs q; unfold Hid; omega
    by_cases hlt : q < xs.length
    · obtain ⟨bl, off, rfl, d0w⟩ := HX.out.at q hlt
      have d0 := (hb.cell (p := ⟨bl, off + q, none⟩) (cell_lt d0w)).trans d0w
      have HXW : Hid (IIn wo xs (.slice (some ⟨bl, off, none⟩) xs.length cap)) := HX.out.next hb
      obtain ⟨x, hxx⟩ : ∃ x, x = xs[q] := ⟨_, rfl⟩
      have HXX := mkHid hxx
      have HNO : Hid (okW F size x = false → okL F size xs = false) := fun h => okL_no hlt (by rw [← hxx]; exact h)
      have HYE : Hid (okW F size x = true → okL F size (xs.take (q + 1)) = true) := fun h => okL_snoc hlt (by rw [← hxx]; exact h) HAL.out
      have HOP : Hid (opW xs q = x) := by rw [Hid, opW_at hlt, hxx]
      rw [← hxx] at d0
      obtain ⟨aw, haw⟩ : ∃ aw : Nat, aw = size + addW F xs q := ⟨_, rfl⟩
      have HAW2 := mkHid haw
      have hawb : aw ≤ 4200000 := by have := HAW.out; omega
      rw [← haw]
      clear hb hall d0w hxx haw
      by_cases c1 : x < 0
      · have HV := mkHid (HNO.out (okW_lo c1))
        go_wp2_with fail
        refine bodyPost_ret (v := .tuple #[.int .i64 0, .bool false]) (by simp [results, Try.results70, go_sem]) rfl ?_
        exact ⟨0, by rw [HV.out] <;> rfl, fun h => absurd h (by rw [HV.out]; simp), HB.out⟩
      by_cases c2 : (F.length : Int) ≤ x
      · have HV := mkHid (HNO.out (okW_hi c2))
        go_wp2_with fail
        refine bodyPost_ret (v := .tuple #[.int .i64 0, .bool false]) (by simp [results, Try.results70, go_sem]) rfl ?_
        exact ⟨0, by rw [HV.out] <;> rfl, fun h => absurd h (by rw [HV.out]; simp), HB.out⟩
      obtain ⟨a, rfl⟩ : ∃ a : Nat, x = (a : Int) := ⟨x.toNat, by omega⟩
      have haF : a < F.length := by omega
      obtain ⟨blf, offf, rfl, e0w⟩ := HF.out.at a haF
      have HFW : Hid (IIn wo F (.slice (some ⟨blf, offf, none⟩) F.length capf)) := HF.out.next HB.out
      have e0 := (HB.out.cell (p := ⟨blf, offf + a, none⟩) (cell_lt e0w)).trans e0w
      rw [← opW_at haF] at e0
      obtain ⟨op, hop⟩ : ∃ op, op = opW F a := ⟨_, rfl⟩
      have HOF := mkHid hop
      rw [← hop] at e0
      clear e0w hop
      by_cases c3 : op < -(size : Int)
      · have HV : Hid (okL F size xs = false) := HNO.out (by
          have h3 : opW F a < 0 := by rw [← HOF.out]; omega
          rw [okW_else haF (by rw [← HOF.out]; omega), decide_eq_false]
          intro h; exact h.1 (wLen_neg h3))
        go_wp2_with fail
        refine bodyPost_ret (v := .tuple #[.int .i64 0, .bool false]) (by simp [results, Try.results70, go_sem]) rfl ?_
        exact ⟨0, by rw [HV.out] <;> rfl, fun h => absurd h (by rw [HV.out]; simp), HB.out⟩
      by_cases c4 : op < 0
      · have HV : Hid (okL F size (xs.take (q + 1)) = true) := HYE.out (okW_old haF (by rw [← HOF.out]; exact c4) (by rw [← HOF.out]; omega))
        have HA : Hid (size + addW F xs (q + 1) = aw) := by
          rw [Hid, HAW2.out, addW_old (by rw [HOP.out, Int.toNat_natCast, ← HOF.out]; exact c4)]
        go_wp2_with fail
        go_roundw
        case rel => first | exact ⟨q + 1, by go_num, by rw [HA.out], by omega, HV.out, HB.out⟩ | ((repeat apply Exists.intro); exact ⟨⟨q + 1, by go_num, by rw [HA.out], by omega, HV.out, HB.out⟩, rfl⟩)
        case measure => simp [intOf]; omega
      by_cases c5 : WholeAt F a
      · have HV : Hid (okL F size (xs.take (q + 1)) = true) := HYE.out (by rw [okW_else haF (by rw [← HOF.out]; omega), decide_eq_true c5])
        have HC5 := mkHid c5
        obtain ⟨k, hk⟩ : ∃ k : Nat, k = wLen op := ⟨_, rfl⟩
        have hk4 : k ≤ 4 := by rw [hk]; exact wLen_le _
        have HKK := mkHid hk
        have hqc : q ≤ cap := by omega
        clear c5 hk
        go_wp2_with fail
        refine (wordsAt_yes F a blf offf capf wo HFW.out haF HC5.out hl).mono ?_
        rintro e w5 ⟨rfl, hb5⟩
        rw [← HOF.out, ← HKK.out]
        have HX5 : Hid (IIn w5 (xs.take q) (.slice (some ⟨bl, off, none⟩) q cap)) := (HXW.out.next hb5).take hq (by omega)
        have HB5 : Hid (Below w.heap.size w w5) := ⟨hb5.os.trans HB.out.os, hb5.tape.trans HB.out.tape, hb5.output.trans HB.out.output, Nat.le_trans HB.out.size hb5.size, fun j hj => (hb5.block j (Nat.lt_of_lt_of_le hj HB.out.size)).trans (HB.out.block j hj)⟩
        clear hb5 d0 e0
        go_wp2_with fail
        refine (contains_calls (xs.take q) (a : Int) _ w5 HX5.out (by rw [List.length_take]; omega)).mono ?_
        rintro e w6 ⟨rfl, rfl⟩
        by_cases c6 : (a : Int) ∈ xs.take q
        · have hd : decide ((a : Int) ∈ xs.take q) = true := decide_eq_true c6
          have HA : Hid (size + addW F xs (q + 1) = aw) := by
            rw [Hid, HAW2.out, addW_twice (by rw [HOP.out]; exact c6)]
          rw [hd]
          clear hd c6
          go_wp2_with fail
          go_roundw
          case rel => first | exact ⟨q + 1, by go_num, by rw [HA.out], by omega, HV.out, HB5.out⟩ | ((repeat apply Exists.intro); exact ⟨⟨q + 1, by go_num, by rw [HA.out], by omega, HV.out, HB5.out⟩, rfl⟩)
          case measure => simp [intOf]; omega
        · have hd : decide ((a : Int) ∈ xs.take q) = false := decide_eq_false c6
          have HA : Hid (size + addW F xs (q + 1) = aw + k) := by
            rw [Hid, addW_new (by rw [HOP.out, Int.toNat_natCast, ← HOF.out]; omega) (by rw [HOP.out]; exact c6), HOP.out, Int.toNat_natCast, ← HOF.out, ← HKK.out, HAW2.out]; omega
          rw [hd]
          clear hd c6
          go_wp2_with fail
          go_roundw
          case rel => first | exact ⟨q + 1, by go_num, by rw [HA.out]; go_num, by omega, HV.out, HB5.out⟩ | ((repeat apply Exists.intro); exact ⟨⟨q + 1, by go_num, by rw [HA.out]; go_num, by omega, HV.out, HB5.out⟩, rfl⟩)
          case measure => simp [intOf]; omega
      · have HV : Hid (okL F size xs = false) := HNO.out (by rw [okW_else haF (by rw [← HOF.out]; omega), decide_eq_false c5])
        have HC5 := mkHid c5
        clear c5
        go_wp2_with fail
        refine (wordsAt_no F a _ wo HFW.out haF HC5.out hl).mono ?_
        rintro e w5 ⟨rfl, hb5⟩
        have HB5 : Hid (Below w.heap.size w w5) := ⟨hb5.os.trans HB.out.os, hb5.tape.trans HB.out.tape, hb5.output.trans HB.out.output, Nat.le_trans HB.out.size hb5.size, fun j hj => (hb5.block j (Nat.lt_of_lt_of_le hj HB.out.size)).trans (HB.out.block j hj)⟩
        clear hb5
        go_wp2_with fail
        refine bodyPost_ret (v := .tuple #[.int .i64 0, .bool false]) (by simp [results, Try.results70, go_sem]) rfl ?_
        exact ⟨0, by rw [HV.out] <;> rfl, fun h => absurd h (by rw [HV.out]; simp), HB5.out⟩
    · obtain rfl : q = xs.length := by omega
      have HV : Hid (okL F size xs = true) := by have h := HAL.out; rw [List.take_length] at h; exact h
      obtain ⟨aw, haw⟩ : ∃ aw : Nat, aw = size + addW F xs xs.length := ⟨_, rfl⟩
      have HAW2 := mkHid haw
      rw [← haw]
      clear hb hall haw
      go_wp2_with fail
      refine bodyPost_ret (v := .tuple #[.int .i64 (aw : Int), .bool true]) (by simp [results, Try.results70, go_sem]) rfl ?_
      exact ⟨aw, by rw [HV.out], fun _ => HAW2.out, HB.out⟩
end Go.Proofs.Ytiipcgnkfhjpeaa
/-
  THE PROGRAM's canScan.
-/
namespace Go.Proofs.Ytiipcgnkfhjpeaa
set_option linter.unusedVariables false
set_option linter.unusedSimpArgs false
open Go.RowKit


theorem below_step {w w2 w3 : World} (h : Below w.heap.size w w2) (k : Below w2.heap.size w2 w3) : Below w.heap.size w w3 := ⟨k.os.trans h.os, k.tape.trans h.tape, k.output.trans h.output, Nat.le_trans h.size k.size, fun j hj => (k.block j (Nat.lt_of_lt_of_le hj h.size)).trans (h.block j hj)⟩
theorem stepB_half {F T : List Int} {x : Int} (h : halfB F T x = false) : stepB F T x = false := by unfold stepB; rw [h]; rfl
set_option maxRecDepth 100000 in
set_option maxHeartbeats 1600000 in
theorem canScan_calls (F T : List Int) (x : Int) (fv tv : Value) (w : World) (hf : IIn w F fv) (ht : IIn w T tv) (hl : F.length ≤ 1048576) (hl2 : T.length ≤ 1048576) :
    Calls Try.prog 56 #[fv, tv, .int .i64 x] w fun e w' => e = .returned (.bool (stepB F T x)) ∧ Below w.heap.size w w' := by
  have HF := mkHid hf
  have HT := mkHid ht
  obtain ⟨adf, capf, rfl, hlcf, hmf, -⟩ := hf
  obtain ⟨ad, cap, rfl, hlc, hm, htr⟩ := ht
  have HTR := mkHid htr
  unfold maxLen at hm hmf
  clear htr
  go_enter Try.func56, Try.ntmps56
  by_cases h1 : F.length ≤ 1600
  case neg =>
    have HV : Hid (stepB F T x = false) := stepB_half (halfB_no fun h => h1 h.1)
    have hb : (1600 : Int) < (F.length : Int) := by omega
    clear h1
    go_wp2_with fail
    refine bodyPost_ret (v := .bool false) (by simp [results, Try.results56, go_sem]) rfl ?_
    exact ⟨by rw [HV.out], Below.refl _ _⟩
  by_cases h2 : T.length ≤ 1600
  case neg =>
    have HV : Hid (stepB F T x = false) := stepB_half (halfB_no fun h => h2 h.2)
    have hb : (1600 : Int) < (T.length : Int) := by omega
    clear h2
    go_wp2_with fail
    refine bodyPost_ret (v := .bool false) (by simp [results, Try.results56, go_sem]) rfl ?_
    exact ⟨by rw [HV.out], Below.refl _ _⟩
  have HH : Hid (halfB F T x = atB T x) := halfB_at ⟨h1, h2⟩
  go_wp2_with fail
  refine (startsOf_calls T _ w HT.out hl2).mono ?_
  rintro e w2 ⟨sv, rfl, hsv, hb2⟩
  have HB2 := mkHid hb2
  have HSV := mkHid hsv
  clear hsv hb2
  obtain ⟨bs, hbs⟩ : ∃ bs, bs = (startsW T 0).isSome := ⟨_, rfl⟩
  rw [← hbs]
  cases hst : startsW T 0 with
  | none =>
    have HV : Hid (stepB F T x = false) := stepB_half (by rw [HH.out]; exact atB_none hst)
    obtain rfl : bs = false := by rw [hbs, hst]; rfl
    clear hst hbs
    go_wp2_with fail
    refine bodyPost_ret (v := .bool false) (by simp [results, Try.results56, go_sem]) rfl ?_
    exact ⟨by rw [HV.out], HB2.out⟩
  | some st =>
    rw [hst] at HSV
    obtain rfl : bs = true := by rw [hbs, hst]; rfl
    clear hbs
    have HAT : Hid (atB T x = decide (x ∈ st)) := atB_some hst
    have hsm := starts_small hst
    clear hst
    have HSR : Hid (IntRow w2 w.heap.size st sv) := (show StkI w2 w.heap.size st sv from HSV.out).row
    have HSI : Hid (IIn w2 st sv) := HSR.out.inn
    obtain ⟨ads, caps, rfl, -, -, -⟩ := id HSI.out
    go_wp2_with fail
    refine (contains_calls st x _ w2 HSI.out (by omega)).mono ?_
    rintro e w3 ⟨rfl, rfl⟩
    by_cases hx : x ∈ st
    case neg =>
      have hd : decide (x ∈ st) = false := decide_eq_false hx
      have HV : Hid (stepB F T x = false) := stepB_half (by rw [HH.out, HAT.out, hd])
      rw [hd]
      clear hd
      go_wp2_with fail
      refine bodyPost_ret (v := .bool false) (by simp [results, Try.results56, go_sem]) rfl ?_
      exact ⟨by rw [HV.out], HB2.out⟩
    have hd : decide (x ∈ st) = true := decide_eq_true hx
    have HHB : Hid (halfB F T x = true) := by rw [Hid, HH.out, HAT.out, hd]
    obtain ⟨a, rfl, ha, hw⟩ := atB_cell (T := T) (x := x) (by rw [HAT.out, hd])
    rw [hd]
    clear hd hx
    have HW := mkHid hw
    have HSB := mkHid (stepB_size HHB.out hw h2)
    obtain ⟨k, hk⟩ : ∃ k, k = wLen (opW T a) := ⟨_, rfl⟩
    have HK := mkHid hk
    have HKB : Hid (2 ≤ k ∧ a + k ≤ T.length ∧ k ≤ 4) := by
      rw [hk]; exact ⟨wLen_pos hw.1, hw.2, wLen_le _⟩
    have HTB : Hid (∃ (bl off : Nat), ad = some ⟨bl, off, none⟩ ∧ bl < w.heap.size ∧ ∀ i (hi : i < T.length), w.cell? ⟨bl, off + i, none⟩ = some (.int .i64 T[i])) := by
      rcases HTR.out with h | h
      · rw [h] at ha; exact absurd ha (by simp)
      · exact h
    obtain ⟨bl, off, rfl, -, htc⟩ := HTB.out
    have HTC := mkHid htc
    clear hk hw htc HTB
    go_wp2_with fail
    refine (wordsAt_yes T a bl off cap _ (HT.out.next HB2.out) ha HW.out hl2).mono ?_
    rintro e w4 ⟨rfl, hb4⟩
    rw [← HK.out]
    have HB4 : Hid (Below w.heap.size w w4) := below_step HB2.out hb4
    have HCI : Hid (CellIn T a k bl (off + a) (cap - a) w4) := by
      have h1 := HKB.out
      refine ⟨HK.out, h1.1, by omega, by omega, fun q hq => ?_, h1.2.1⟩
      have hi : a + q < T.length := by omega
      have h := HTC.out (a + q) hi
      rw [Nat.add_assoc, opW_at hi]
      exact (HB4.out.cell (p := ⟨bl, off + (a + q), none⟩) (cell_lt h)).trans h
    clear hb4
    go_wp2_with fail
    refine (addr_calls T a k bl (off + a) (cap - a) w4 HCI.out).mono ?_
    rintro e w5 ⟨rfl, rfl⟩
    have HKI := mkHid (kidSl_in HCI.out)
    obtain ⟨xs, hxs⟩ : ∃ xs, xs = (cellW T a).kids := ⟨_, rfl⟩
    have HXL : Hid (xs.length ≤ 1048576) := by
      rw [hxs, Hid]
      have h1 := HKB.out
      cases hn : isNumOp (opW T a) with
      | true => rw [cellW_num hn]; simp
      | false => rw [cellW_kid hn, List.length_take]; have := wLen_le (opW T a); omega
    rw [← hxs] at HKI HSB
    obtain ⟨kv, hkv⟩ : ∃ kv, kv = kidSl T a k bl (off + a) (cap - a) := ⟨_, rfl⟩
    rw [← hkv] at HKI ⊢
    have HAW : Hid (T.length + addW F xs xs.length ≤ 8000000) := by have := addW_le F xs xs.length; have := HXL.out; unfold Hid; omega
    clear hxs hkv
    go_wp2_with fail
    refine (sizeAfter_calls F xs T.length _ kv w4 (HF.out.next HB4.out) HKI.out h2 hl HXL.out).mono ?_
    rintro e w6 ⟨n, rfl, hn, hb6⟩
    have HB6 : Hid (Below w.heap.size w w6) := below_step HB4.out hb6
    cases hok : okL F T.length xs with
    | false =>
      have HV : Hid (stepB F T (a : Int) = false) := by rw [Hid, HSB.out, hok]; rfl
      clear hok hn hb6
      go_wp2_with fail
      refine bodyPost_ret (v := .bool false) (by simp [results, Try.results56, go_sem]) rfl ?_
      exact ⟨by rw [HV.out], HB6.out⟩
    | true =>
      obtain rfl := hn hok
      by_cases hle : T.length + addW F xs xs.length ≤ 1600
      · have HV : Hid (stepB F T (a : Int) = true) := by rw [Hid, HSB.out, hok, decide_eq_true hle, Bool.and_self]
        obtain ⟨nn, hnn⟩ : ∃ nn : Nat, nn = T.length + addW F xs xs.length := ⟨_, rfl⟩
        rw [← hnn] at hle ⊢
        have hle2 : (nn : Int) ≤ 1600 := by omega
        clear hok hn hb6 hnn hle
        go_wp2_with fail
        refine bodyPost_ret (v := .bool true) (by simp [results, Try.results56, go_sem, hle2]) rfl ?_
        exact ⟨by rw [HV.out], HB6.out⟩
      · have HV : Hid (stepB F T (a : Int) = false) := by rw [Hid, HSB.out, hok, decide_eq_false hle, Bool.and_false]
        obtain ⟨nn, hnn⟩ : ∃ nn : Nat, nn = T.length + addW F xs xs.length := ⟨_, rfl⟩
        rw [← hnn] at hle ⊢
        have hle2 : 1600 < (nn : Int) := by omega
        clear hok hn hb6 hnn hle
        go_wp2_with fail
        refine bodyPost_ret (v := .bool false) (by simp [results, Try.results56, go_sem, hle2]) rfl ?_
        exact ⟨by rw [HV.out], HB6.out⟩
end Go.Proofs.Ytiipcgnkfhjpeaa
/-
  THE PROGRAM's SPACES OF WORDS: add, inUse, spaceOf.
-/
namespace Go.Proofs.Ytiipcgnkfhjpeaa
set_option linter.unusedVariables false
set_option linter.unusedSimpArgs false
open Go.RowKit


/-- a space of words in the block B: its words in use, its scan -/
structure Spc (w : World) (B : Nat) (F : List Int) (scan : Int) : Prop where
  len : F.length ≤ 1600
  mem : ∃ cur : Array Value, w.heap[B]? = some (.cells cur 72) ∧ cur.size = 1602 ∧ (∀ i (h : i < F.length), cur[i]? = some (.int .i64 F[i])) ∧ cur[1600]? = some (.int .i64 scan) ∧ cur[1601]? = some (.int .i64 (F.length : Int))
theorem Spc.keep {w w' : World} {B : Nat} {F : List Int} {scan : Int} (h : Spc w B F scan) (hb : w'.heap[B]? = w.heap[B]?) : Spc w' B F scan := by
  obtain ⟨h1, cur, h2, h3⟩ := h
  exact ⟨h1, cur, hb.trans h2, h3⟩
theorem Spc.lt {w : World} {B : Nat} {F : List Int} {scan : Int} (h : Spc w B F scan) : B < w.heap.size := by
  obtain ⟨-, cur, h2, -⟩ := h; exact (Array.getElem?_eq_some_iff.1 h2).1
theorem Spc.word {w : World} {B : Nat} {F : List Int} {scan : Int} (h : Spc w B F scan) {a : Nat} (ha : a < F.length) : w.cell? ⟨B, a, none⟩ = some (.int .i64 (opW F a)) := by
  obtain ⟨-, cur, h2, -, h4, -⟩ := h
  rw [opW_at ha]; exact cell_of_blk h2 a _ (h4 a ha)
theorem Spc.scanC {w : World} {B : Nat} {F : List Int} {scan : Int} (h : Spc w B F scan) : w.cell? ⟨B, 1600, none⟩ = some (.int .i64 scan) := by
  obtain ⟨-, cur, h2, -, -, h4, -⟩ := h; exact cell_of_blk h2 _ _ h4
theorem Spc.freeC {w : World} {B : Nat} {F : List Int} {scan : Int} (h : Spc w B F scan) : w.cell? ⟨B, 1601, none⟩ = some (.int .i64 (F.length : Int)) := by
  obtain ⟨-, cur, h2, -, -, -, h4⟩ := h; exact cell_of_blk h2 _ _ h4
theorem Spc.frz {w : World} {B : Nat} {F : List Int} {scan : Int} (h : Spc w B F scan) (i : Nat) : w.frozen? ⟨B, i, none⟩ = false := by
  obtain ⟨-, cur, h2, -⟩ := h; exact frz_of_blk h2 i
theorem Spc.inn {w : World} {B : Nat} {F : List Int} {scan : Int} (h : Spc w B F scan) : IIn w F (.slice (some ⟨B, 0, none⟩) F.length 1600) :=
  ⟨_, _, rfl, h.len, by simp [maxLen], Or.inr ⟨B, 0, rfl, h.lt, fun i hi => by rw [Nat.zero_add, h.word hi, opW_at hi]⟩⟩
theorem Spc.setWord {w : World} {B : Nat} {F : List Int} {scan : Int} (h : Spc w B F scan) {a : Nat} (ha : a < F.length) (v : Int) : Spc (w.setCell ⟨B, a, none⟩ (.int .i64 v)) B (F.set a v) scan := by
  obtain ⟨h1, cur, h2, h3, h4, h5, h6⟩ := h
  refine ⟨by rw [List.length_set]; exact h1, cur.setIfInBounds a (.int .i64 v), ?_, by simpa using h3, fun i hi => ?_, ?_, ?_⟩
  · simp [World.setCell, Array.getElem?_modify, h2]
  · rw [List.length_set] at hi
    rw [Array.getElem?_setIfInBounds, List.getElem_set]
    by_cases e : a = i
    · subst e; rw [if_pos rfl, if_pos (by omega), if_pos rfl]
    · rw [if_neg e, if_neg e]; exact h4 i hi
  · rw [Array.getElem?_setIfInBounds, if_neg (by omega)]; exact h5
  · rw [Array.getElem?_setIfInBounds, if_neg (by omega), List.length_set]; exact h6
theorem Spc.setScan {w : World} {B : Nat} {F : List Int} {scan : Int} (h : Spc w B F scan) (v : Int) : Spc (w.setCell ⟨B, 1600, none⟩ (.int .i64 v)) B F v := by
  obtain ⟨h1, cur, h2, h3, h4, h5, h6⟩ := h
  refine ⟨h1, cur.setIfInBounds 1600 (.int .i64 v), ?_, by simpa using h3, fun i hi => ?_, ?_, ?_⟩
  · simp [World.setCell, Array.getElem?_modify, h2]
  · rw [Array.getElem?_setIfInBounds, if_neg (by omega)]; exact h4 i hi
  · rw [Array.getElem?_setIfInBounds, if_pos rfl, if_pos (by omega)]
  · rw [Array.getElem?_setIfInBounds, if_neg (by omega)]; exact h6
/-- words behind those in use, and the count -/
theorem Spc.push {w : World} {B : Nat} {F seg : List Int} {scan : Int} {cur : Array Value} (h : Spc w B F scan) (hc : w.heap[B]? = some (.cells cur 72)) (hl : F.length + seg.length ≤ 1600) :
    Spc ((w.setRow B (cur.toList.take F.length ++ inV seg ++ cur.toList.drop (F.length + seg.length)).toArray).setCell ⟨B, 1601, none⟩ (.int .i64 ((F.length : Int) + (seg.length : Int)))) B (F ++ seg) scan := by
  obtain ⟨h1, cur2, h2, h3, h4, h5, h6⟩ := h
  obtain rfl : cur = cur2 := by rw [hc] at h2; simpa using h2
  have hz : (cur.toList.take F.length ++ inV seg ++ cur.toList.drop (F.length + seg.length)).length = 1602 := by
    simp [inV_length]; omega
  obtain ⟨L, hL⟩ : ∃ L, L = cur.toList.take F.length ++ inV seg ++ cur.toList.drop (F.length + seg.length) := ⟨_, rfl⟩
  rw [← hL] at hz ⊢
  have hr := setRow_heap w B cur L.toArray _ _ hc
  have g1 : ∀ i, i < F.length → L[i]? = cur[i]? := fun i hi => by
    rw [hL, List.append_assoc, List.getElem?_append_left (by simp; omega), List.getElem?_take_of_lt hi, Array.getElem?_toList]
  have g2 : ∀ i, F.length ≤ i → i < F.length + seg.length → L[i]? = (inV seg)[i - F.length]? := fun i h1 h2 => by
    rw [hL, List.append_assoc, List.getElem?_append_right (by simp; omega), List.getElem?_append_left (by simp [inV_length]; omega)]
    simp
    congr 1
    omega
  have g3 : ∀ i, F.length + seg.length ≤ i → i < 1602 → L[i]? = cur[i]? := fun i h1 h2 => by
    rw [hL, List.getElem?_append_right (by simp [inV_length]; omega), List.getElem?_drop, Array.getElem?_toList]
    congr 1
    simp [inV_length]
    omega
  refine ⟨by rw [List.length_append]; exact hl, L.toArray.setIfInBounds 1601 (.int .i64 ((F.length : Int) + (seg.length : Int))), ?_, by simpa using hz, fun i hi => ?_, ?_, ?_⟩
  · simp [World.setCell, Array.getElem?_modify, hr]
  · rw [List.length_append] at hi
    rw [Array.getElem?_setIfInBounds, if_neg (by omega), List.getElem?_toArray]
    by_cases e : i < F.length
    · rw [g1 i e, h4 i e, List.getElem_append_left e]
    · rw [g2 i (by omega) hi, List.getElem_append_right (by omega)]
      simp [inV, show i - F.length < seg.length by omega]
  · rw [Array.getElem?_setIfInBounds, if_neg (by omega), List.getElem?_toArray, g3 1600 hl (by omega)]; exact h5
  · rw [Array.getElem?_setIfInBounds, if_pos rfl, if_pos (by simp; omega), List.length_append]; push_cast; rfl
/-- copy of numbers into a space, as one step of a region that draws its order -/
theorem step_copyW {ops : Array Oper} {o : Oper} {a : Act} {w : World} {K : Act → World → Prop} {Q : Exit → Act → World → Prop} {E : Prop} (hgd : o.guard = none) (d s : Operand)
    (ho : o.op = .call { callee := .builtin .copy, args := #[d, s], argTypes := #[24, 24] })
    (B off dl dc : Nat) (sv : Value) (seg : List Int) (cur : Array Value) (hd : a.eval d = .slice (some ⟨B, off, none⟩) dl dc) (hs : a.eval s = sv) (hsv : IIn w seg sv) (hB : w.heap[B]? = some (.cells cur 72)) (hlen : seg.length ≤ dl) (hfit : off + seg.length ≤ cur.size) (L : Array Value) (hL : L = (cur.toList.take off ++ inV seg ++ cur.toList.drop (off + seg.length)).toArray)
    (h : K (a.put o.dst (.int .i64 (seg.length : Int))) (w.setRow B L)) : if Region.wanted o (yielded ops a.tmps) = true then Oper.wp Try.prog o a w K Q else E := by
  have hw : Region.wanted o (yielded ops a.tmps) = true := by simp [Region.wanted, hgd]
  rw [if_pos hw]
  obtain ⟨i, z, hi, hz, hsz, hby, hzs⟩ := infoI1
  have hs1 : (Try.prog.info? 3).map (·.size) = some 1 := by rw [hi]; simp [hsz]
  have hrun : ∃ v, (Builtin.copy_ #[24, 24] o.type #[.slice (some ⟨B, off, none⟩) dl dc, sv]).run Try.prog w = .ok v (w.setRow B L) ∧ v = .int .i64 (seg.length : Int) := by
    rw [hL]
    obtain ⟨ad, cap, rfl, -, -, hr⟩ := id hsv
    rcases ad with _ | ad
    · have hnil : seg = [] := by
        rcases hr with h | ⟨_, _, h, -⟩
        · exact h
        · simp at h
      subst hnil
      have e9 : (cur.toList.take off ++ inV [] ++ cur.toList.drop (off + ([] : List Int).length)).toArray = cur := by
        show (cur.toList.take off ++ [] ++ cur.toList.drop (off + 0)).toArray = cur
        rw [List.append_nil, Nat.add_zero, List.take_append_drop]
      refine ⟨.int .i64 0, ?_, rfl⟩
      rw [e9, setRow_self w B cur _ _ hB]
      exact run_copy_none (P := Try.prog) w _ _ _ 3 _ _ _ _ _ _ Try.underlying24 hs1 (Nat.zero_min _)
    · refine ⟨_, run_copy_row Try.prog w _ _ _ 3 B off dl dc ad seg.length cap cur _ (inV seg) Try.underlying24 hs1 hB (by rw [inV_length]; exact (Nat.min_eq_left hlen).symm) (ints_newsI hsv) (by rw [inV_length]; exact hfit) (inV_one _) |>.trans ?_, rfl⟩
      rw [inV_length]
      rfl
  obtain ⟨v, hrun, rfl⟩ := hrun
  unfold Oper.wp
  simp [execOp, ho, resolve, invoke, builtin, hd, hs, hrun, Result.andThen]
  exact h
/-- a part of the array of a space -/
theorem sliceW_hi (B n : Nat) (hn : n ≤ 1600) (w : World) : (Instr.sliceAt 70 (.pointer (some ⟨B, 0, none⟩)) none (some (.int .i64 (n : Int))) none).run Try.prog w = .ok (.slice (some ⟨B, 0, none⟩) n 1600) w := by
  obtain ⟨i, z, hi, hz, hsz, hby, hzs⟩ := infoI1
  have h1 : (0 : Int) ≤ (n : Int) := by omega
  have h2 : (n : Int) ≤ ((1600 : Nat) : Int) := by omega
  simp [Instr.sliceAt, run_underlying Try.underlying70, Instr.sureAddr, Instr.sliceBounds, run_sliceBound, sizeOf, typeInfo, hi, hsz, Addr.add, hn]
  rw [run_sliceBound w _ _ _ _ h1 h2]
  simp
theorem sliceW_lo (B n : Nat) (hn : n ≤ 1600) (w : World) : (Instr.sliceAt 70 (.pointer (some ⟨B, 0, none⟩)) (some (.int .i64 (n : Int))) none none).run Try.prog w = .ok (.slice (some ⟨B, if n = 1600 then 0 else n, none⟩) (1600 - n) (1600 - n)) w := by
  obtain ⟨i, z, hi, hz, hsz, hby, hzs⟩ := infoI1
  have h1 : (0 : Int) ≤ (n : Int) := by omega
  have h2 : (n : Int) ≤ ((1600 : Nat) : Int) := by omega
  by_cases e : n = 1600
  · subst e
    simp [Instr.sliceAt, run_underlying Try.underlying70, Instr.sureAddr, Instr.sliceBounds, run_sliceBound, sizeOf, typeInfo, hi, hsz, Addr.add]
  · simp [Instr.sliceAt, run_underlying Try.underlying70, Instr.sureAddr, Instr.sliceBounds, run_sliceBound, sizeOf, typeInfo, hi, hsz, Addr.add, hn, e, Ne.symm e]
    rw [run_sliceBound w _ _ _ _ h1 h2]
    simp [Ne.symm e, e]
    intro h0
    omega
/-- nothing but the block B is written -/
structure OnlyB (B : Nat) (w w' : World) : Prop where
  os : w'.os = w.os
  tape : w'.tape = w.tape
  output : w'.output = w.output
  size : w'.heap.size = w.heap.size
  block : ∀ k, k ≠ B → w'.heap[k]? = w.heap[k]?
theorem forwarding_calls (x : Int) (w : World) (h0 : -1000000 ≤ x) (h1 : x ≤ 1000000) : Calls Try.prog 76 #[.int .i64 x] w fun e w' => e = .returned (.int .i64 (-x - 1)) ∧ w = w' := by
  go_enter Try.func76, Try.ntmps76
  go_wp2_with fail
  go_ret
  exact ⟨rfl, rfl⟩
set_option maxHeartbeats 800000 in
theorem inUse_calls (B : Nat) (F : List Int) (scan : Int) (w : World) (h : Spc w B F scan) : Calls Try.prog 50 #[.pointer (some ⟨B, 0, none⟩)] w fun e w' => e = .returned (.slice (some ⟨B, 0, none⟩) F.length 1600) ∧ Below w.heap.size w w' := by
  have H := mkHid h
  have hl := h.len
  have d1 := h.freeC
  have hbl := h.lt
  have hsl := sliceW_hi B F.length hl
  clear h
  go_enter Try.func50, Try.ntmps50
  go_wp2_with fail
  go_region
  all_goals
    go_wp2_with fail
    go_ret
    exact ⟨rfl, (Below.refl _ _).drew⟩
set_option maxHeartbeats 800000 in
theorem add_calls (B : Nat) (F seg : List Int) (scan : Int) (sv : Value) (w : World) (h : Spc w B F scan) (hs : IIn w seg sv) (hl : F.length + seg.length ≤ 1600) :
    Calls Try.prog 66 #[.pointer (some ⟨B, 0, none⟩), sv] w fun e w' => e = .returned (.int .i64 (F.length : Int)) ∧ Spc w' B (F ++ seg) scan ∧ OnlyB B w w' := by
  have H := mkHid h
  have HS := mkHid hs
  have hF := h.len
  have d1 := h.freeC
  have f1 := h.frz 1601
  obtain ⟨cur, hB, hcs, hc4, hc5, hc6⟩ := id h.mem
  have HBK := mkHid hB
  have hbl := h.lt
  obtain ⟨adv, capv, rfl, -, -, -⟩ := hs
  have hsl := sliceW_lo B F.length hF
  obtain ⟨off, hoff⟩ : ∃ off : Nat, off = if F.length = 1600 then 0 else F.length := ⟨_, rfl⟩
  obtain ⟨dl, hdle⟩ : ∃ dl : Nat, dl = 1600 - F.length := ⟨_, rfl⟩
  rw [← hoff, ← hdle] at hsl
  have HOFF : Hid (cur.toList.take off ++ inV seg ++ cur.toList.drop (off + seg.length) = cur.toList.take F.length ++ inV seg ++ cur.toList.drop (F.length + seg.length)) := by
    by_cases e : F.length = 1600
    · have e2 : seg = [] := List.eq_nil_of_length_eq_zero (by omega)
      subst e2
      simp [Hid, inV]
    · rw [hoff, if_neg e]; rfl
  have hfit : off + seg.length ≤ cur.size := by rw [hoff]; split <;> omega
  have hdl : seg.length ≤ dl := by omega
  obtain ⟨L, hL⟩ : ∃ L : Array Value, L = (cur.toList.take off ++ inV seg ++ cur.toList.drop (off + seg.length)).toArray := ⟨_, rfl⟩
  have HL := mkHid hL
  have HPU : Hid (Spc ((w.drew.setRow B L).setCell ⟨B, 1601, none⟩ (.int .i64 ((F.length : Int) + (seg.length : Int)))) B (F ++ seg) scan) := by
    have hp := Spc.push (w := w.drew) (h.keep rfl) hB hl
    rw [hL, HOFF.out]; exact hp
  have hrow : (w.drew.setRow B L).heap[B]? = some (.cells L 72) := setRow_heap w.drew B cur _ _ _ hB
  have r1 : (w.drew.setRow B L).cell? ⟨B, 1601, none⟩ = some (.int .i64 (F.length : Int)) := by
    refine cell_of_blk hrow 1601 _ ?_
    rw [hL, List.getElem?_toArray, HOFF.out, List.getElem?_append_right (by simp [inV_length]; omega), List.getElem?_drop, Array.getElem?_toList]
    have e : F.length + seg.length + (1601 - (cur.toList.take F.length ++ inV seg).length) = 1601 := by simp [inV_length]; omega
    rw [e]; exact hc6
  have rf : (w.drew.setRow B L).frozen? ⟨B, 1601, none⟩ = false := frz_of_blk hrow 1601
  have hwr : IntKind.i64.wrap ((F.length : Int) + (seg.length : Int)) = (F.length : Int) + (seg.length : Int) := IntWalk.i64_in _ (by omega)
  clear h hc4 hc5 hc6 hcs hB hoff hL hrow hdle
  go_enter Try.func66, Try.ntmps66
  go_wp2_with fail
  go_region_law (first
    | (refine step_copyW (by rfl) (.tmp 18) (.tmp 19) (by rfl) B off dl dl (.slice adv seg.length capv) seg cur (by simp [Act.eval, Act.put]) (by simp [Act.eval, Act.put]) (IntsOn.drew HS.out) HBK.out hdl hfit L HL.out ?_))
  all_goals
    go_wp2_with fail
    go_ret
    exact ⟨rfl, HPU.out, ⟨rfl, rfl, rfl, by rw [size_setCell, setRow_size]; rfl, fun k hk => (Below.heap_setCell _ _ _ _ hk).trans (setRow_other w.drew B k _ hk)⟩⟩
theorem zero_size : Try.zeroCells72.size = 1602 := by kernel_rfl
theorem zero_a : Try.zeroCells72[1600]? = some (.int .i64 0) := by kernel_rfl
theorem zero_b : Try.zeroCells72[1601]? = some (.int .i64 (([] : List Int).length : Int)) := by kernel_rfl
theorem OnlyB.trans {B : Nat} {a b c : World} (h : OnlyB B a b) (k : OnlyB B b c) : OnlyB B a c := ⟨k.os.trans h.os, k.tape.trans h.tape, k.output.trans h.output, k.size.trans h.size, fun i hi => (k.block i hi).trans (h.block i hi)⟩
set_option maxHeartbeats 800000 in
theorem spaceOf_calls (ws : List Int) (v : Value) (w : World) (hk : IIn w ws v) (hl : ws.length ≤ 1600) :
    Calls Try.prog 46 #[v] w fun e w' => e = .returned (.pointer (some ⟨w.heap.size, 0, none⟩)) ∧ Spc w' w.heap.size ws 0 ∧ Below w.heap.size w w' ∧ w'.heap.size = w.heap.size + 1 := by
  have HK := mkHid hk
  obtain ⟨ad, cap, rfl, -, -, -⟩ := hk
  go_enter Try.func46, Try.ntmps46
  have HZ : Hid (Spc (w.alloc (.cells Try.zeroCells72 72)) w.heap.size [] 0) :=
    ⟨by simp, _, Deep.blk_alloc_new _ _, zero_size, fun i hi => absurd hi (by simp), zero_a, zero_b⟩
  go_wp2_with fail
  refine (add_calls w.heap.size [] ws 0 _ _ HZ.out (HK.out.next (box_below _ _)) (by simpa using hl)).mono ?_
  rintro e w1 ⟨rfl, hs, ho⟩
  have HS : Hid (Spc w1 w.heap.size ws 0) := hs
  have HB : Hid (Below w.heap.size w w1) := ⟨ho.os, ho.tape, ho.output, by rw [ho.size, Deep.nblk_alloc]; omega, fun k hk => (ho.block k (by omega)).trans (Deep.blk_alloc_lt _ _ _ hk)⟩
  have HN : Hid (w1.heap.size = w.heap.size + 1) := by rw [Hid, ho.size, Deep.nblk_alloc]
  clear hs ho
  go_wp2_with fail
  go_ret
  exact ⟨rfl, HS.out, HB.out, HN.out⟩
end Go.Proofs.Ytiipcgnkfhjpeaa
/-
  THE PROGRAM's wordMover: forward AND forwardAll.
-/
namespace Go.Proofs.Ytiipcgnkfhjpeaa
set_option linter.unusedVariables false
set_option linter.unusedSimpArgs false
open Go.RowKit


theorem scanN_lenT {F T : List Int} {scan n : Nat} (hf : FitsF F T scan n) (hn : n ≤ 4) (hs : scan + n ≤ T.length) (hT : T.length ≤ 800000) (k : Nat) (hk : k + 1 < n) : (scanN F T scan k).2.length ≤ (scanN F T scan (k + 1)).2.length := by
  have hi := scanN_inv hf hn hs hT k (by omega)
  have hc := hi.can (hf (k + 1) (by omega) hk)
  rw [← hi.rest (k + 1) (by omega) hk] at hc
  have h := (fwd_lenT (T := (scanN F T scan k).2) hc).1
  show _ ≤ (scanS scan (k + 1) (scanN F T scan k)).2.length
  unfold scanS
  simp only [List.length_set]
  exact h
theorem scanN_mono {F T : List Int} {scan n : Nat} (hf : FitsF F T scan n) (hn : n ≤ 4) (hs : scan + n ≤ T.length) (hT : T.length ≤ 800000) (k : Nat) : ∀ d, k + d < n → (scanN F T scan k).2.length ≤ (scanN F T scan (k + d)).2.length
  | 0, _ => Nat.le_refl _
  | d + 1, h => Nat.le_trans (scanN_mono hf hn hs hT k d (by omega)) (scanN_lenT hf hn hs hT (k + d) (by omega))
/-- a mover in the block M, its spaces in Q and S -/
structure MvW (w : World) (M Q S : Nat) (F T : List Int) (fs ts : Int) : Prop where
  box : w.heap[M]? = some (.cells #[.pointer (some ⟨Q, 0, none⟩), .pointer (some ⟨S, 0, none⟩)] 68)
  old : Spc w Q F fs
  new : Spc w S T ts
  ne : Q ≠ S
/-- nothing that was there but the blocks Q and S is written -/
structure KeepQ (Q S : Nat) (w w' : World) : Prop where
  os : w'.os = w.os
  tape : w'.tape = w.tape
  output : w'.output = w.output
  size : w.heap.size ≤ w'.heap.size
  block : ∀ k, k < w.heap.size → k ≠ Q → k ≠ S → w'.heap[k]? = w.heap[k]?
theorem KeepQ.refl (Q S : Nat) (w : World) : KeepQ Q S w w := ⟨rfl, rfl, rfl, Nat.le_refl _, fun _ _ _ _ => rfl⟩
theorem KeepQ.trans {Q S : Nat} {a b c : World} (h : KeepQ Q S a b) (k : KeepQ Q S b c) : KeepQ Q S a c := ⟨k.os.trans h.os, k.tape.trans h.tape, k.output.trans h.output, Nat.le_trans h.size k.size, fun i h0 h1 h2 => (k.block i (Nat.lt_of_lt_of_le h0 h.size) h1 h2).trans (h.block i h0 h1 h2)⟩
theorem KeepQ.below {Q S : Nat} {a b : World} (h : Below a.heap.size a b) : KeepQ Q S a b := ⟨h.os, h.tape, h.output, h.size, fun k h0 _ _ => h.block k h0⟩
theorem KeepQ.onlyS {Q S : Nat} {a b : World} (h : OnlyB S a b) : KeepQ Q S a b := ⟨h.os, h.tape, h.output, by rw [h.size]; exact Nat.le_refl _, fun k _ _ h2 => h.block k h2⟩
theorem KeepQ.setQ (Q S : Nat) (w : World) (i : Nat) (v : Value) : KeepQ Q S w (w.setCell ⟨Q, i, none⟩ v) := ⟨rfl, rfl, rfl, by rw [size_setCell]; exact Nat.le_refl _, fun k _ h1 _ => Below.heap_setCell _ _ _ _ h1⟩
theorem KeepQ.setS (Q S : Nat) (w : World) (i : Nat) (v : Value) : KeepQ Q S w (w.setCell ⟨S, i, none⟩ v) := ⟨rfl, rfl, rfl, by rw [size_setCell]; exact Nat.le_refl _, fun k _ _ h2 => Below.heap_setCell _ _ _ _ h2⟩
theorem MvW.neM {w : World} {M Q S : Nat} {F T : List Int} {fs ts : Int} (h : MvW w M Q S F T fs ts) : M ≠ Q ∧ M ≠ S := by
  obtain ⟨-, cq, hq, -⟩ := h.old
  obtain ⟨-, cs, hs, -⟩ := h.new
  have hb := h.box
  refine ⟨fun e => ?_, fun e => ?_⟩
  · rw [e, hq] at hb; simp at hb
  · rw [e, hs] at hb; simp at hb
theorem MvW.below {w w' : World} {M Q S : Nat} {F T : List Int} {fs ts : Int} (h : MvW w M Q S F T fs ts) (hb : Below w.heap.size w w') : MvW w' M Q S F T fs ts :=
  ⟨(hb.block _ (Array.getElem?_eq_some_iff.1 h.box).1).trans h.box, h.old.keep (hb.block _ h.old.lt), h.new.keep (hb.block _ h.new.lt), h.ne⟩
theorem MvW.push {w w' : World} {M Q S : Nat} {F T T' : List Int} {fs ts : Int} (h : MvW w M Q S F T fs ts) (hs : Spc w' S T' ts) (ho : OnlyB S w w') : MvW w' M Q S F T' fs ts :=
  ⟨(ho.block _ h.neM.2).trans h.box, h.old.keep (ho.block _ h.ne), hs, h.ne⟩
theorem MvW.setQ {w : World} {M Q S : Nat} {F T : List Int} {fs ts : Int} (h : MvW w M Q S F T fs ts) {a : Nat} (ha : a < F.length) (v : Int) : MvW (w.setCell ⟨Q, a, none⟩ (.int .i64 v)) M Q S (F.set a v) T fs ts :=
  ⟨(Below.heap_setCell _ _ _ _ h.neM.1).trans h.box, h.old.setWord ha v, h.new.keep (Below.heap_setCell _ _ _ _ h.ne.symm), h.ne⟩
theorem MvW.setS {w : World} {M Q S : Nat} {F T : List Int} {fs ts : Int} (h : MvW w M Q S F T fs ts) {a : Nat} (ha : a < T.length) (v : Int) : MvW (w.setCell ⟨S, a, none⟩ (.int .i64 v)) M Q S F (T.set a v) fs ts :=
  ⟨(Below.heap_setCell _ _ _ _ h.neM.2).trans h.box, h.old.keep (Below.heap_setCell _ _ _ _ h.ne), h.new.setWord ha v, h.ne⟩
theorem MvW.setScan {w : World} {M Q S : Nat} {F T : List Int} {fs ts : Int} (h : MvW w M Q S F T fs ts) (v : Int) : MvW (w.setCell ⟨S, 1600, none⟩ (.int .i64 v)) M Q S F T fs v :=
  ⟨(Below.heap_setCell _ _ _ _ h.neM.2).trans h.box, h.old.keep (Below.heap_setCell _ _ _ _ h.ne), h.new.setScan v, h.ne⟩
theorem Spc.seg {w : World} {B : Nat} {F : List Int} {scan : Int} (h : Spc w B F scan) {a : Nat} (hw : WholeAt F a) : IIn w (segW F a) (.slice (some ⟨B, a, none⟩) (wLen (opW F a)) (1600 - a)) := by
  have hl := segW_len hw
  have hfit := hw.2
  have hF := h.len
  refine ⟨_, _, by rw [hl], by rw [hl]; omega, by unfold maxLen; omega, Or.inr ⟨B, a, rfl, h.lt, fun i hi => ?_⟩⟩
  rw [hl] at hi
  rw [h.word (by omega)]
  congr 2
  unfold segW opW
  rw [List.getD_eq_getElem?_getD, List.getElem?_eq_getElem (by omega)]
  simp
set_option maxRecDepth 100000 in
set_option maxHeartbeats 800000 in
theorem forward_calls (M Q S x : Nat) (F T : List Int) (fs ts : Int) (w : World) (h : MvW w M Q S F T fs ts) (hc : CanF F (x : Int)) (hl : (fwd F T x).2.1.length ≤ 1600) :
    Calls Try.prog 67 #[.pointer (some ⟨M, 0, none⟩), .int .i64 (x : Int)] w fun e w' => e = .returned (.int .i64 (fwd F T x).2.2) ∧ MvW w' M Q S (fwd F T x).1 (fwd F T x).2.1 fs ts ∧ KeepQ Q S w w' := by
  have H := mkHid h
  obtain ⟨-, hlt, hcc⟩ := hc
  rw [Int.toNat_natCast] at hcc
  have hxl : x < F.length := by omega
  have hF := h.old.len
  have hx16 : x < 1600 := by omega
  have hT := h.new.len
  obtain ⟨op, hop⟩ : ∃ op, op = opW F x := ⟨_, rfl⟩
  have HOP := mkHid hop
  have m0 := cell_of_blk h.box 0 _ rfl
  have d0 := h.old.word hxl
  rw [← hop] at d0 hcc
  by_cases hn : op < 0
  · have HV := mkHid (fwd_old (F := F) (T := T) (a := x) (by rw [← hop]; exact hn))
    have hlo : -1000000 ≤ op := by
      rcases hcc with hcc | hcc
      · exact hcc.2
      · exact absurd (wLen_neg (by rw [← hop]; exact hn)) hcc.1
    rw [HV.out, ← HOP.out]
    clear h hop hcc hl
    go_enter Try.func67, Try.ntmps67
    go_wp2_with fail
    refine (forwarding_calls op w hlo (by omega)).mono ?_
    rintro e w1 ⟨rfl, rfl⟩
    go_wp2_with fail
    go_ret
    exact ⟨rfl, H.out, KeepQ.refl _ _ _⟩
  · have hw : WholeAt F x := by
      rcases hcc with hcc | hcc
      · exact absurd hcc.1 hn
      · exact hcc
    have HW := mkHid hw
    have HV := mkHid (fwd_new (F := F) (T := T) (a := x) (by rw [← hop]; exact hn))
    rw [HV.out] at hl ⊢
    have hl2 : (T ++ segW F x).length ≤ 1600 := hl
    rw [List.length_append] at hl2
    have hop0 : ¬ op < 0 := hn
    have m1 := cell_of_blk h.box 1 _ rfl
    have HN := mkHid h.ne
    clear h hop hcc hl hw
    go_enter Try.func67, Try.ntmps67
    go_wp2_with fail
    refine (inUse_calls Q F fs w H.out.old).mono ?_
    rintro e w1 ⟨rfl, hb1⟩
    have H1 := mkHid (H.out.below hb1)
    have HB1 := mkHid hb1
    clear hb1 m0 m1 d0
    go_wp2_with fail
    refine (wordsAt_yes F x Q 0 1600 w1 H1.out.old.inn hxl HW.out (by omega)).mono ?_
    rintro e w2 ⟨rfl, hb2⟩
    rw [Nat.zero_add]
    have H2 := mkHid (H1.out.below hb2)
    have HB2 : Hid (Below w.heap.size w w2) := HB1.out.trans (hb2.mono HB1.out.size)
    have m1 := cell_of_blk H2.out.box 1 _ rfl
    obtain ⟨k, hk⟩ : ∃ k : Nat, k = wLen (opW F x) := ⟨_, rfl⟩
    have HSG := mkHid (H2.out.old.seg HW.out)
    rw [← hk] at HSG ⊢
    clear hb2 hk
    go_wp2_with fail
    refine (add_calls S T (segW F x) ts _ w2 H2.out.new HSG.out hl2).mono ?_
    rintro e w3 ⟨rfl, hs3, ho3⟩
    have H3 := mkHid (H2.out.push hs3 ho3)
    have HK3 : Hid (KeepQ Q S w w3) := (KeepQ.below HB2.out).trans (KeepQ.onlyS ho3)
    have c3 := H3.out.old.word hxl
    have f3 := H3.out.old.frz x
    clear hs3 ho3 m1
    go_wp2_with fail
    refine (forwarding_calls (T.length : Int) w3 (by omega) (by omega)).mono ?_
    rintro e w4 ⟨rfl, rfl⟩
    go_wp2_with fail
    refine (forwarding_calls (-(T.length : Int) - 1) _ (by omega) (by omega)).mono ?_
    rintro e w5 ⟨rfl, rfl⟩
    have he : -(-(T.length : Int) - 1) - 1 = (T.length : Int) := by omega
    rw [he]
    go_wp2_with fail
    go_ret
    exact ⟨rfl, H3.out.setQ hxl _, HK3.out.trans (KeepQ.setQ _ _ _ _ _)⟩
end Go.Proofs.Ytiipcgnkfhjpeaa
