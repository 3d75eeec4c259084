/-
  THE PROGRAM's wordsAt, addressesIn, startsOf, placesIn.
-/
import Derived.Test.YtiipcgnkfhjpeaaMgExactWordAt4
import Derived.Test.YtiipcgnkfhjpeaaMgExactWordAt2
import Derived.Test.YtiipcgnkfhjpeaaMgExactWordAt3
import Derived.Deep.RegionHeld3
namespace Go.Proofs.Ytiipcgnkfhjpeaa
set_option linter.unusedVariables false
set_option linter.unusedSimpArgs false
open Go.RowKit


/-- a whole cell at a place? -/
def WholeAt (ws : List Int) (a : Nat) : Prop := wLen (opW ws a) ≠ 0 ∧ a + wLen (opW ws a) ≤ ws.length
set_option maxHeartbeats 800000 in
theorem wordsAt_no (ws : List Int) (a : Nat) (v : Value) (w : World) (hk : IIn w ws v) (ha : a < ws.length) (hn : ¬ WholeAt ws a) (hl : ws.length ≤ 1048576) :
    Calls Try.prog 52 #[v, .int .i64 (a : Int)] w fun e w' => e = .returned (.tuple #[.slice none 0 0, .bool false]) ∧ Below w.heap.size w w' := by
  have HK := mkHid hk
  obtain ⟨ad, cap, rfl, hlc, hm, -⟩ := hk
  unfold maxLen at hm
  obtain ⟨bl, off, rfl, d0⟩ := HK.out.at a ha
  obtain ⟨op, hop⟩ : ∃ op, op = ws[a] := ⟨_, rfl⟩
  have hn' : ¬ (wLen op ≠ 0 ∧ a + wLen op ≤ ws.length) := by rw [hop, ← opW_at ha]; exact hn
  rw [← hop] at d0
  clear hop
  go_enter Try.func52, Try.ntmps52
  go_wp2_with fail
  refine (sizeOfKind_calls op w).mono ?_
  rintro e w1 ⟨rfl, hb1⟩
  have HB1 := mkHid hb1
  clear hb1 d0
  by_cases h0 : wLen op = 0
  · have hs : sizeOk op = false := by unfold sizeOk; simp [h0]
    rw [hs]
    go_wp2_with fail
    refine bodyPost_ret (v := .tuple #[.slice none 0 0, .bool false]) (by simp [results, Try.results52, go_sem]) rfl ?_
    exact ⟨rfl, HB1.out⟩
  · have hs : sizeOk op = true := by unfold sizeOk; simp [h0]
    rw [hs, sizeV_ok h0]
    obtain ⟨n, hnn⟩ : ∃ n : Nat, n = wLen op := ⟨_, rfl⟩
    have h4 := wLen_le op
    rw [← hnn] at hn' h0 h4 ⊢
    have hbig : (ws.length : Int) - (a : Int) < (n : Int) := by omega
    clear hnn hs
    go_wp2_with fail
    refine bodyPost_ret (v := .tuple #[.slice none 0 0, .bool false]) (by simp [results, Try.results52, go_sem]) rfl ?_
    exact ⟨rfl, HB1.out⟩
set_option maxHeartbeats 800000 in
theorem wordsAt_yes (ws : List Int) (a : Nat) (bl off cap : Nat) (w : World) (hk : IIn w ws (.slice (some ⟨bl, off, none⟩) ws.length cap)) (ha : a < ws.length) (hn : WholeAt ws a) (hl : ws.length ≤ 1048576) :
    Calls Try.prog 52 #[.slice (some ⟨bl, off, none⟩) ws.length cap, .int .i64 (a : Int)] w fun e w' => e = .returned (.tuple #[.slice (some ⟨bl, off + a, none⟩) (wLen (opW ws a)) (cap - a), .bool true]) ∧ Below w.heap.size w w' := by
  have HK := mkHid hk
  obtain ⟨_, _, he1, hlc, hm, -⟩ := hk
  simp only [Value.slice.injEq, true_and] at he1
  obtain ⟨-, rfl⟩ := he1
  unfold maxLen at hm
  obtain ⟨b1, o1, he, d0⟩ := HK.out.at a ha
  simp only [Option.some.injEq, Addr.mk.injEq, and_true] at he
  obtain ⟨rfl, rfl⟩ := he
  obtain ⟨h0, hfit⟩ := hn
  rw [opW_at ha] at h0 hfit ⊢
  obtain ⟨op, hop⟩ : ∃ op, op = ws[a] := ⟨_, rfl⟩
  rw [← hop] at d0 h0 hfit ⊢
  clear hop
  have hs : sizeOk op = true := by unfold sizeOk; simp [h0]
  have hsv := sizeV_ok h0
  have HSV := mkHid (And.intro hs hsv)
  obtain ⟨n, hnn⟩ : ∃ n : Nat, n = wLen op := ⟨_, rfl⟩
  have HN := mkHid hnn
  have h4 := wLen_le op
  rw [← hnn] at h0 hfit h4 ⊢
  have hbig : ¬ (ws.length : Int) - (a : Int) < (n : Int) := by omega
  clear hnn hs hsv
  go_enter Try.func52, Try.ntmps52
  go_wp2_with fail
  refine (sizeOfKind_calls op w).mono ?_
  rintro e w1 ⟨rfl, hb1⟩
  have HB1 := mkHid hb1
  rw [HSV.out.1, HSV.out.2, ← HN.out]
  clear hb1 d0
  go_wp2_with fail
  refine bodyPost_ret (v := .tuple #[.slice (some ⟨bl, off + a, none⟩) n (cap - a), .bool true]) (by simp [results, Try.results52, go_sem]) rfl ?_
  exact ⟨rfl, HB1.out⟩
set_option maxHeartbeats 800000 in
theorem addr_num (ws : List Int) (a : Nat) (bl off cap : Nat) (w : World) (d0 : w.cell? ⟨bl, off, none⟩ = some (.int .i64 (opW ws a))) (n : Nat) (hn : 0 < n) (hnc : n ≤ cap) (hc : cap ≤ 9223372036854775807) (h : isNumOp (opW ws a) = true) :
    Calls Try.prog 68 #[.slice (some ⟨bl, off, none⟩) n cap] w fun e w' => e = .returned (.slice none 0 0) ∧ w = w' := by
  have d0' : w.cell? ⟨bl, off + 0, none⟩ = some (.int .i64 (opW ws a)) := d0
  go_enter Try.func68, Try.ntmps68
  go_wp2_with fail
  refine (hasNumber_calls _ w).mono ?_
  rintro e w1 ⟨rfl, rfl⟩
  rw [h]
  go_wp2_with fail
  go_ret
  exact ⟨rfl, rfl⟩
set_option maxHeartbeats 800000 in
theorem addr_kids (ws : List Int) (a : Nat) (bl off cap : Nat) (w : World) (d0 : w.cell? ⟨bl, off, none⟩ = some (.int .i64 (opW ws a))) (n : Nat) (hn : 2 ≤ n) (hnc : n ≤ cap) (hc : cap ≤ 9223372036854775807) (h : isNumOp (opW ws a) = false) :
    Calls Try.prog 68 #[.slice (some ⟨bl, off, none⟩) n cap] w fun e w' => e = .returned (.slice (some ⟨bl, off + 1, none⟩) (n - 1) (cap - 1)) ∧ w = w' := by
  have hne : ¬ cap = 1 := by omega
  have hn0 : 0 < n := by omega
  have d0' : w.cell? ⟨bl, off + 0, none⟩ = some (.int .i64 (opW ws a)) := d0
  go_enter Try.func68, Try.ntmps68
  go_wp2_with fail
  refine (hasNumber_calls _ w).mono ?_
  rintro e w1 ⟨rfl, rfl⟩
  rw [h]
  go_wp2_with fail
  go_ret
  exact ⟨rfl, rfl⟩
set_option maxHeartbeats 800000 in
theorem startsOf_calls (ws : List Int) (v : Value) (w : World) (hk : IIn w ws v) (hl : ws.length ≤ 1048576) :
    Calls Try.prog 64 #[v] w fun e w' => ∃ t, e = .returned (.tuple #[t, .bool (startsW ws 0).isSome]) ∧ StkI w' w.heap.size ((startsW ws 0).getD []) t ∧ Below w.heap.size w w' := by
  have HK := mkHid hk
  obtain ⟨ad, cap, rfl, hlc, hm, -⟩ := hk
  unfold maxLen at hm
  go_enter Try.func64, Try.ntmps64
  go_wp2_with fail
  go_loopw [4, 5] (fun o a wr => ∃ (p : Nat) (acc : List Int), a = .int .i64 p ∧ p ≤ ws.length ∧ acc.length ≤ p ∧ startsW ws 0 = (startsW ws p).map (acc ++ ·) ∧ StkI wr w.heap.size acc o ∧ Below w.heap.size w wr) (fun _ a _ => ws.length - (intOf a).toNat)
  case atStart => exact ⟨0, [], rfl, Nat.zero_le _, Nat.le_refl _, by simp, StkI.none _ _, Below.refl _ _⟩
  case round =>
    obtain ⟨p, acc, rfl, hp, hal, heq, hst, hb⟩ := hrel
    obtain ⟨wo, rfl⟩ : ∃ wo : World, wo = wr := ⟨_, rfl⟩
    obtain ⟨ado, no, capo, rfl⟩ := hst.form
    have HS := mkHid hst
    have HB := mkHid hb
    have HEQ := mkHid heq
    have HAL := mkHid hal
    by_cases hlt : p < ws.length
    · obtain ⟨bl, off, rfl, -⟩ := HK.out.at p hlt
      clear hst hb heq hal
      by_cases hwh : WholeAt ws p
      · have hw2 := hwh.2
        have h4 := wLen_le (opW ws p)
        have h02 := wLen_pos hwh.1
        have HNE : Hid (startsW ws 0 = (startsW ws (p + wLen (opW ws p))).map ((acc ++ [(p : Int)]) ++ ·)) := by
          have h1 := hwh.1
          rw [Hid, HEQ.out, startsW_go hlt (by rw [← opW_at hlt]; omega), ← opW_at hlt, Option.map_map]
          congr 1
          funext x
          simp
        have HWH := mkHid hwh
        clear hwh
        go_wp2_with fail
        refine (wordsAt_yes ws p bl off cap wo (HK.out.next HB.out) hlt HWH.out hl).mono ?_
        rintro e w5 ⟨rfl, hb5⟩
        have HB5 : Hid (Below w.heap.size w w5) := HB.out.trans (hb5.mono HB.out.size)
        have HS5 := mkHid (StkI.next HS.out hb5)
        obtain ⟨n, hn⟩ : ∃ n : Nat, n = wLen (opW ws p) := ⟨_, rfl⟩
        rw [← hn] at hw2 h4 h02 HNE ⊢
        clear hb5 hn
        have A1 : Hid (StkI (w5.alloc (.cells #[.int .i64 (p : Int)] 3)) w.heap.size (acc) (.slice ado no capo)) := StkI.alloc HS5.out _
        have K1 : Hid (IIn (w5.alloc (.cells #[.int .i64 (p : Int)] 3)) [(p : Int)] (.slice (some ⟨w5.heap.size, 0, none⟩) 1 1)) := oneI_in w5 (p : Int)
        have L1 : Hid (w.heap.size ≤ (w5.alloc (.cells #[.int .i64 (p : Int)] 3)).heap.size) := by rw [Hid, Deep.nblk_alloc]; have := HB5.out.size; omega
        go_wp2_with (have tk := A1; clear tk; at_builtin; go_must (refine wpList_pushI rfl _ _ rfl _ w.heap.size (acc) [(p : Int)] (.slice ado no capo) (.slice (some ⟨w5.heap.size, 0, none⟩) 1 1) rfl A1.out rfl K1.out L1.out (by have := HAL.out; simp; omega) ?_); go_must (intro v1 w7 hst1 hg1); go_must (have HB7 : Hid (Below w.heap.size w w7) := StkI.grown A1.out rfl (HB5.out.alloc HB5.out.size _) hg1); go_must (have HS7 : Hid (StkI w7 w.heap.size (acc ++ [(p : Int)]) v1) := by exact hst1); go_must (obtain ⟨ad1, n1, cap1, rfl⟩ := hst1.form); clear hst1 hg1)
        go_roundw
        case rel => first | exact ⟨p + n, acc ++ [(p : Int)], by go_num, by omega, by have := HAL.out; simp; omega, HNE.out, HS7.out, HB7.out⟩ | ((repeat apply Exists.intro); exact ⟨⟨p + n, acc ++ [(p : Int)], by go_num, by omega, by have := HAL.out; simp; omega, HNE.out, HS7.out, HB7.out⟩, rfl⟩)
        case measure => simp [intOf]; omega
      · have HV : Hid (startsW ws 0 = none) := by
          rw [Hid, HEQ.out, startsW_bad hlt (by unfold WholeAt at hwh; rw [opW_at hlt] at hwh; omega)]; rfl
        have HWH := mkHid hwh
        clear hwh
        go_wp2_with fail
        refine (wordsAt_no ws p _ wo (HK.out.next HB.out) hlt HWH.out hl).mono ?_
        rintro e w5 ⟨rfl, hb5⟩
        have HB5 : Hid (Below w.heap.size w w5) := HB.out.trans (hb5.mono HB.out.size)
        clear hb5
        go_wp2_with fail
        refine bodyPost_ret (v := .tuple #[.slice none 0 0, .bool false]) (by simp [results, Try.results64, go_sem]) rfl ?_
        rw [HV.out]
        exact ⟨_, rfl, StkI.none _ _, HB5.out⟩
    · have HV : Hid (startsW ws 0 = some acc) := by rw [Hid, HEQ.out, startsW_end (by omega)]; simp
      clear hst hb heq hal
      go_wp2_with fail
      refine bodyPost_ret (v := .tuple #[.slice ado no capo, .bool true]) (by simp [results, Try.results64, go_sem]) rfl ?_
      rw [HV.out]
      exact ⟨_, rfl, HS.out, HB.out⟩

/-- are all of these addresses there? -/
def plcB (st xs : List Int) : Bool := xs.all fun x => decide (0 ≤ idxI st x)
/-- their places, or none -/
def plcL (st xs : List Int) : List Int := if plcB st xs = true then xs.map (idxI st) else []
theorem plcL_yes {st xs : List Int} (h : plcB st xs = true) : plcL st xs = xs.map (idxI st) := by unfold plcL; rw [if_pos h]
theorem plcL_no {st xs : List Int} (h : plcB st xs = false) : plcL st xs = [] := by unfold plcL; rw [if_neg (by rw [h]; simp)]
theorem plcB_no {st xs : List Int} {q : Nat} (h : q < xs.length) (hi : ¬ 0 ≤ idxI st xs[q]) : plcB st xs = false := by
  unfold plcB; rw [List.all_eq_false]; exact ⟨xs[q], List.getElem_mem h, by simpa using hi⟩
theorem plcB_snoc {st xs : List Int} {q : Nat} (h : q < xs.length) (hi : 0 ≤ idxI st xs[q]) (ht : plcB st (xs.take q) = true) : plcB st (xs.take (q + 1)) = true := by
  unfold plcB at ht ⊢
  rw [List.take_succ_eq_append_getElem h, List.all_append, ht]; simpa using hi
set_option maxHeartbeats 800000 in
theorem placesIn_calls (st xs : List Int) (sv xv : Value) (w : World) (hs : IIn w st sv) (hx : IIn w xs xv) (ho : st.Pairwise (· < ·)) (hl : st.length ≤ 1048576) (hl2 : xs.length ≤ 1048576) :
    Calls Try.prog 65 #[sv, xv] w fun e w' => ∃ t, e = .returned (.tuple #[t, .bool (plcB st xs)]) ∧ StkI w' w.heap.size (plcL st xs) t ∧ Below w.heap.size w w' := by
  have HST := mkHid hs
  have HXS := mkHid hx
  have HO := mkHid ho
  obtain ⟨ads, caps, rfl, -, -, -⟩ := hs
  obtain ⟨ad, cap, rfl, hlc, hm, -⟩ := hx
  unfold maxLen at hm
  clear ho
  go_enter Try.func65, Try.ntmps65
  go_wp2_with fail
  go_loopw [6, 13] (fun o a wr => ∃ q : Nat, a = .int .i64 q ∧ q ≤ xs.length ∧ plcB st (xs.take q) = true ∧ StkI wr w.heap.size ((xs.take q).map (idxI st)) o ∧ Below w.heap.size w wr) (fun _ a _ => xs.length - (intOf a).toNat)
  case atStart => exact ⟨0, rfl, Nat.zero_le _, by simp [plcB], StkI.none _ _, Below.refl _ _⟩
  case round =>
    obtain ⟨q, rfl, hq, hall, hst, hb⟩ := hrel
    obtain ⟨wo, rfl⟩ : ∃ wo : World, wo = wr := ⟨_, rfl⟩
    obtain ⟨ado, no, capo, rfl⟩ := hst.form
    have HS := mkHid hst
    have HB := mkHid hb
    have HAL := mkHid hall
    by_cases hlt : q < xs.length
    · obtain ⟨bl, off, rfl, d0w⟩ := HXS.out.at q hlt
      have d0 := (hb.cell (p := ⟨bl, off + q, none⟩) (cell_lt d0w)).trans d0w
      obtain ⟨ys, hys⟩ : ∃ ys, ys = (xs.take q).map (idxI st) := ⟨_, rfl⟩
      have HYL : Hid (ys.length ≤ 1048575) := by rw [hys, Hid]; simp; omega
      obtain ⟨x, hx⟩ : ∃ x, x = xs[q] := ⟨_, rfl⟩
      have HN : Hid ((xs.take (q + 1)).map (idxI st) = ys ++ [idxI st x]) := by
        rw [Hid, List.take_succ_eq_append_getElem hlt, List.map_append, ← hys, hx]; rfl
      have HNX : Hid (¬ 0 ≤ idxI st x → plcB st xs = false) := fun h => plcB_no hlt (by rw [← hx]; exact h)
      have HYX : Hid (0 ≤ idxI st x → plcB st (xs.take (q + 1)) = true) := fun h => plcB_snoc hlt (by rw [← hx]; exact h) HAL.out
      rw [← hys] at HS
      rw [← hx] at d0
      clear hst hb hall d0w hys hx
      go_wp2_with fail
      refine (search_calls st x _ wo (HST.out.next HB.out) HO.out hl).mono ?_
      rintro e w5 ⟨i, rfl, hi, rfl⟩
      by_cases h0 : 0 ≤ idxI st x
      · have hd : decide (0 ≤ idxI st x) = true := by simpa using h0
        obtain rfl := hi h0
        rw [hd]
        have HP := mkHid (HYX.out h0)
        clear hi h0 hd d0
        have A1 : Hid (StkI (wo.alloc (.cells #[.int .i64 (idxI st x)] 3)) w.heap.size (ys) (.slice ado no capo)) := StkI.alloc HS.out _
        have K1 : Hid (IIn (wo.alloc (.cells #[.int .i64 (idxI st x)] 3)) [(idxI st x)] (.slice (some ⟨wo.heap.size, 0, none⟩) 1 1)) := oneI_in wo (idxI st x)
        have L1 : Hid (w.heap.size ≤ (wo.alloc (.cells #[.int .i64 (idxI st x)] 3)).heap.size) := by rw [Hid, Deep.nblk_alloc]; have := HB.out.size; omega
        go_wp2_with (have tk := A1; clear tk; at_builtin; go_must (refine wpList_pushI rfl _ _ rfl _ w.heap.size (ys) [(idxI st x)] (.slice ado no capo) (.slice (some ⟨wo.heap.size, 0, none⟩) 1 1) rfl A1.out rfl K1.out L1.out (by have := HYL.out; simp; omega) ?_); go_must (intro v1 w7 hst1 hg1); go_must (have HB7 : Hid (Below w.heap.size w w7) := StkI.grown A1.out rfl (HB.out.alloc HB.out.size _) hg1); go_must (have HS7 : Hid (StkI w7 w.heap.size ((xs.take (q + 1)).map (idxI st)) v1) := by rw [HN.out]; exact hst1); go_must (obtain ⟨ad1, n1, cap1, rfl⟩ := hst1.form); clear hst1 hg1)
        go_roundw
        case rel => first | exact ⟨q + 1, by go_num, by omega, HP.out, HS7.out, HB7.out⟩ | ((repeat apply Exists.intro); exact ⟨⟨q + 1, by go_num, by omega, HP.out, HS7.out, HB7.out⟩, rfl⟩)
        case measure => simp [intOf]; omega
      · have hd : decide (0 ≤ idxI st x) = false := by simpa using h0
        rw [hd]
        have HP := mkHid (HNX.out (by omega))
        clear hi h0 hd d0
        go_wp2_with fail
        refine bodyPost_ret (v := .tuple #[.slice none 0 0, .bool false]) (by simp [results, Try.results65, go_sem]) rfl ?_
        rw [HP.out, plcL_no HP.out]
        exact ⟨_, rfl, StkI.none _ _, HB.out⟩
    · have hqe : q = xs.length := by omega
      have HV : Hid (plcB st xs = true) := by have h := HAL.out; rw [hqe, List.take_length] at h; exact h
      have HS2 : Hid (StkI wo w.heap.size (xs.map (idxI st)) (.slice ado no capo)) := by have h := HS.out; rw [hqe, List.take_length] at h; exact h
      clear hst hb hall hqe
      go_wp2_with fail
      refine bodyPost_ret (v := .tuple #[.slice ado no capo, .bool true]) (by simp [results, Try.results65, go_sem]) rfl ?_
      rw [HV.out, plcL_yes HV.out]
      exact ⟨_, rfl, HS2.out, HB.out⟩
end Go.Proofs.Ytiipcgnkfhjpeaa
/-
  THE PROGRAM's cellOf.
-/
namespace Go.Proofs.Ytiipcgnkfhjpeaa
set_option linter.unusedVariables false
set_option linter.unusedSimpArgs false
open Go.RowKit


/-- the words of a cell, in place -/
structure CellIn (ws : List Int) (a n : Nat) (bl off cap : Nat) (w : World) : Prop where
  len : n = wLen (opW ws a)
  pos : 2 ≤ n
  cap1 : n ≤ cap
  cap2 : cap ≤ 9223372036854775807
  cell : ∀ q, q < n → w.cell? ⟨bl, off + q, none⟩ = some (.int .i64 (opW ws (a + q)))
  fit : a + n ≤ ws.length
theorem CellIn.next {ws : List Int} {a n bl off cap : Nat} {w w' : World} (h : CellIn ws a n bl off cap w) (hb : Below w.heap.size w w') : CellIn ws a n bl off cap w' :=
  ⟨h.len, h.pos, h.cap1, h.cap2, fun q hq => (hb.cell (p := ⟨bl, off + q, none⟩) (cell_lt (h.cell q hq))).trans (h.cell q hq), h.fit⟩
/-- where the operands' addresses lie -/
def kidSl (ws : List Int) (a n bl off cap : Nat) : Value := if isNumOp (opW ws a) = true then .slice none 0 0 else .slice (some ⟨bl, off + 1, none⟩) (n - 1) (cap - 1)
theorem kidSl_in {ws : List Int} {a n bl off cap : Nat} {w : World} (h : CellIn ws a n bl off cap w) : IIn w (cellW ws a).kids (kidSl ws a n bl off cap) := by
  unfold kidSl
  cases hn : isNumOp (opW ws a) with
  | true =>
    rw [cellW_num hn, if_pos rfl]
    exact ⟨none, 0, rfl, Nat.le_refl _, by simp [maxLen], Or.inl rfl⟩
  | false =>
    rw [cellW_kid hn, if_neg (by simp), ← h.len]
    have h1 := h.fit
    have h2 := h.pos
    have h3 := h.cap1
    have h4 := h.cap2
    have hl : ((ws.drop (a + 1)).take (n - 1)).length = n - 1 := by rw [List.length_take, List.length_drop]; omega
    refine ⟨_, cap - 1, by rw [hl], by rw [hl]; omega, by unfold maxLen; omega, Or.inr ⟨bl, off + 1, rfl, ?_, fun i hi => ?_⟩⟩
    · exact cell_lt (h.cell 0 (by omega))
    · rw [hl] at hi
      have h5 := h.cell (1 + i) (by omega)
      have e1 : off + 1 + i = off + (1 + i) := by omega
      rw [e1, h5]
      have h6 := kidsW_get (ws := ws) (a := a) (q := i) (by rw [← h.len]; exact h1) (by rw [← h.len]; exact hi)
      rw [← h.len, List.getElem?_eq_getElem (by rw [hl]; exact hi)] at h6
      simp only [Option.some.injEq] at h6
      rw [h6]
      have e2 : a + 1 + i = a + (1 + i) := by omega
      rw [e2]
theorem addr_calls (ws : List Int) (a n bl off cap : Nat) (w : World) (h : CellIn ws a n bl off cap w) : Calls Try.prog 68 #[.slice (some ⟨bl, off, none⟩) n cap] w fun e w' => e = .returned (kidSl ws a n bl off cap) ∧ w = w' := by
  unfold kidSl
  cases hn : isNumOp (opW ws a) with
  | true => rw [if_pos rfl]; exact addr_num ws a bl off cap w (h.cell 0 (by have := h.pos; omega)) n (by have := h.pos; omega) h.cap1 h.cap2 hn
  | false => rw [if_neg (by simp)]; exact addr_kids ws a bl off cap w (h.cell 0 (by have := h.pos; omega)) n h.pos h.cap1 h.cap2 hn

/-- a row of ints is no box -/
theorem stk_off {w w' : World} {lo lo' B : Nat} {xs : List Int} {v : Value} {cs : Array Value} (h : StkI w lo xs v) (hl : lo' ≤ lo) (hw : ∀ k, lo' ≤ k → k < w.heap.size → (k = B → w.heap[B]? ≠ some (.cells cs 40)) → w'.heap[k]? = w.heap[k]?) : StkI w' lo' xs v := by
  refine ⟨h.1, ?_⟩
  rcases h.2 with h | ⟨g, cap, cur, rfl, hg, hh, r⟩
  · exact Or.inl h
  · refine Or.inr ⟨g, cap, cur, rfl, Nat.le_trans hl hg, (hw g (Nat.le_trans hl hg) (Array.getElem?_eq_some_iff.1 hh).1 fun e h2 => ?_).trans hh, r⟩
    subst e
    rw [hh] at h2
    simp at h2
theorem s3_cell {w : World} {B bl off : Nat} {b0 b1 b2 v : Value} (hk : bl ≠ B) (h : w.cell? ⟨bl, off, none⟩ = some v) : (((w.setCell ⟨B, 0, none⟩ b0).setCell ⟨B, 1, none⟩ b1).setCell ⟨B, 2, none⟩ b2).cell? ⟨bl, off, none⟩ = some v :=
  (World.cell?_of_block (a := ⟨bl, off, none⟩) (s3_far hk)).trans h
set_option maxRecDepth 100000 in
set_option maxHeartbeats 800000 in
theorem cellOf_calls (ws : List Int) (a n bl off cap : Nat) (w : World) (h : CellIn ws a n bl off cap w) (hl : ws.length ≤ 1048576) :
    Calls Try.prog 53 #[.slice (some ⟨bl, off, none⟩) n cap] w (NewCellW (cellW ws a) w) := by
  have HC := mkHid h
  obtain ⟨sl, hsl⟩ : ∃ sl, sl = kidSl ws a n bl off cap := ⟨_, rfl⟩
  have HADR : Hid (∀ W, Below w.heap.size w W → Calls Try.prog 68 #[.slice (some ⟨bl, off, none⟩) n cap] W fun e w' => e = .returned sl ∧ W = w') := fun W hW => by rw [hsl]; exact addr_calls ws a n bl off cap W (HC.out.next hW)
  obtain ⟨ks, hks⟩ : ∃ ks, ks = (cellW ws a).kids := ⟨_, rfl⟩
  have HKI : Hid (∀ W, Below w.heap.size w W → IIn W ks sl) := fun W hW => by rw [hsl, hks]; exact kidSl_in (HC.out.next hW)
  have HKL : Hid (ks.length ≤ 1048576) := by
    rw [hks, Hid]
    have h1 := HC.out.fit
    cases hn : isNumOp (opW ws a) with
    | true => rw [cellW_num hn]; simp
    | false => rw [cellW_kid hn, List.length_take]; have := wLen_le (opW ws a); omega
  have HCL : Hid (∀ W, Below w.heap.size w W → Calls Try.prog 47 #[sl] W (CloneW ks W)) := fun W hW => cloneW_calls ks sl W (HKI.out W hW) HKL.out
  obtain ⟨op, hop⟩ : ∃ op, op = opW ws a := ⟨_, rfl⟩
  have HOP := mkHid hop
  have hn0 : 0 < n := by have := h.pos; omega
  have hnI : (0 : Int) < (n : Int) := by omega
  have hcap1 := h.cap1
  have hcap2 := h.cap2
  have d0w : w.cell? ⟨bl, off, none⟩ = some (.int .i64 op) := by rw [hop]; exact h.cell 0 hn0
  have hbl := cell_lt d0w
  have HBL : Hid (bl < w.heap.size) := hbl
  obtain ⟨W, hW⟩ : ∃ W, W = w.alloc (.cells #[.int .i64 0, .int .i64 0, .slice none 0 0] 40) := ⟨_, rfl⟩
  have HB : Hid (Below w.heap.size w W) := by rw [hW]; exact box_below _ _
  have HX : Hid (W.heap[w.heap.size]? = some (.cells #[.int .i64 0, .int .i64 0, .slice none 0 0] 40)) := by rw [hW]; exact Deep.blk_alloc_new _ _
  have HL : Hid (W.heap.size = w.heap.size + 1) := by rw [hW, Hid, Deep.nblk_alloc]
  have HD0 := mkHid d0w
  obtain ⟨adk, nk, capk, hslv⟩ : ∃ ad n cap, sl = .slice ad n cap := by rw [hsl]; unfold kidSl; split; exact ⟨_, _, _, rfl⟩; exact ⟨_, _, _, rfl⟩
  subst hslv
  have HKS := mkHid hks
  clear h hsl hop hks hbl
  go_enter Try.func53, Try.ntmps53
  go_wp2_with fail
  rw [← hW]
  clear hW d0w
  have d0 := (HB.out.cell (p := ⟨bl, off, none⟩) HBL.out).trans HD0.out
  have HNB : Hid (bl ≠ W.heap.size) := by have := HL.out; have := HBL.out; unfold Hid; omega
  go_region_held3 (fun w' => w'.cell? ⟨bl, off, none⟩ = some (.int .i64 op))
    (first
      | go_keep
      | with_reducible exact d0
      | with_reducible exact m0
      | with_reducible exact old_cell d0 _
      | with_reducible exact old_cell m0 _
      | with_reducible exact s3_cell HNB.out m0)
    (first
      | (go_at_call 68; refine (HADR.out _ ?_).mono ?_; (first | exact HB.out.drew | exact (HB.out.alloc HB.out.size _).drew); rintro e w3 ⟨rfl, rfl⟩)
      | (go_at_call 47; refine (HCL.out _ ?_).mono ?_; (first | exact HB.out.drew | exact (HB.out.alloc HB.out.size _).drew); rintro e w4 ⟨v4, rfl, hst4, hb4⟩; have HST4 := mkHid hst4; have HB4 := mkHid hb4; obtain ⟨ad4, n4, cap4, rfl⟩ := hst4.form; have hsz4 : w.heap.size + 1 ≤ w4.heap.size := (Nat.le_trans (by first | (show w.heap.size + 1 ≤ W.heap.size; rw [HL.out]; omega) | (show w.heap.size + 1 ≤ (W.alloc _).heap.size; rw [Deep.nblk_alloc, HL.out]; omega)) hb4.size); have HFAR4 : Hid (∀ k, k < w.heap.size + 1 → w4.heap[k]? = W.heap[k]?) := (fun k hk => (hb4.block k (Nat.lt_of_lt_of_le hk (by first | (show w.heap.size + 1 ≤ W.heap.size; rw [HL.out]; omega) | (show w.heap.size + 1 ≤ (W.alloc _).heap.size; rw [Deep.nblk_alloc, HL.out]; omega)))).trans (by first | rfl | exact Deep.blk_alloc_lt _ _ _ (by rw [HL.out]; exact hk))); have HSZ4 := mkHid hsz4; have m0 := (World.cell?_of_block (a := ⟨bl, off, none⟩) (HFAR4.out bl (by have := HBL.out; omega))).trans d0; (try (have HBX4 : Hid (w4.heap[W.heap.size]? = some (.cells #[.int .i64 0, .int .i64 0, .slice none 0 0] 40)) := (hb4.block W.heap.size (by show _ < (W.alloc _).heap.size; rw [Deep.nblk_alloc]; omega)).trans (Deep.blk_alloc_new _ _); have z0 := cell_of_blk HBX4.out 0 _ rfl; have z1 := cell_of_blk HBX4.out 1 _ rfl; have z2 := cell_of_blk HBX4.out 2 _ rfl; have fz := frz_of_blk HBX4.out)); have HBW4 : Hid (Below w.heap.size w w4) := ⟨hb4.os.trans HB.out.os, hb4.tape.trans HB.out.tape, hb4.output.trans HB.out.output, Nat.le_trans (Nat.le_succ _) hsz4, fun k hk => (HFAR4.out k (Nat.lt_succ_of_lt hk)).trans (HB.out.block k hk)⟩; have HSU4 : Hid (∀ w', (∀ k, w.heap.size + 1 ≤ k → k < w4.heap.size → (k = W.heap.size → w4.heap[W.heap.size]? ≠ some (.cells #[.int .i64 0, .int .i64 0, .slice none 0 0] 40)) → w'.heap[k]? = w4.heap[k]?) → StkI w' (w.heap.size + 1) ks (.slice ad4 n4 cap4)) := (fun w' hw' => stk_off HST4.out (by first | (show w.heap.size + 1 ≤ W.heap.size; rw [HL.out]; omega) | (show w.heap.size + 1 ≤ (W.alloc _).heap.size; rw [Deep.nblk_alloc, HL.out]; omega)) hw'); clear hsz4; clear hst4 hb4))
  all_goals
    first
    | (obtain ⟨wz, hwz⟩ : ∃ wz : World, wz = w4.alloc (.cells #[.int .i64 op, .int .i64 0, .slice ad4 n4 cap4] 40) := ⟨_, rfl⟩
       rw [← hwz]
       obtain ⟨b, hb⟩ : ∃ b : Nat, b = w4.heap.size := ⟨_, rfl⟩
       rw [← hb]
       have HZB : Hid (wz.heap[b]? = some (.cells #[.int .i64 op, .int .i64 0, .slice ad4 n4 cap4] 40)) := by rw [hwz, hb]; exact Deep.blk_alloc_new _ _
       have HZX : Hid (wz.heap[w.heap.size]? = some (.cells #[.int .i64 0, .int .i64 0, .slice none 0 0] 40)) := by rw [hwz]; exact (Deep.blk_alloc_lt _ _ _ (by have := HSZ4.out; omega)).trans ((HFAR4.out _ (Nat.lt_succ_self _)).trans HX.out)
       have HZS : Hid (StkI wz (w.heap.size + 1) ks (.slice ad4 n4 cap4)) := by rw [hwz]; exact HSU4.out _ fun k _ hk _ => Deep.blk_alloc_lt _ _ _ hk
       have HZW : Hid (Below w.heap.size w wz) := by rw [hwz]; exact HBW4.out.alloc HBW4.out.size _
       have HNE : Hid (w.heap.size < b) := by rw [hb]; exact HSZ4.out
       clear hwz hb)
    | (obtain ⟨wz, hwz⟩ : ∃ wz : World, wz = (((w4.setCell ⟨W.heap.size, 0, none⟩ (.int .i64 op)).setCell ⟨W.heap.size, 1, none⟩ (.int .i64 0)).setCell ⟨W.heap.size, 2, none⟩ (.slice ad4 n4 cap4)) := ⟨_, rfl⟩
       rw [← hwz]
       obtain ⟨b, hb⟩ : ∃ b : Nat, b = W.heap.size := ⟨_, rfl⟩
       rw [← hb]
       have HZB : Hid (wz.heap[b]? = some (.cells #[.int .i64 op, .int .i64 0, .slice ad4 n4 cap4] 40)) := by rw [hwz, hb]; exact s3_blk HBX4.out
       have HZX : Hid (wz.heap[w.heap.size]? = some (.cells #[.int .i64 0, .int .i64 0, .slice none 0 0] 40)) := by rw [hwz]; exact (s3_far (by have := HL.out; omega)).trans ((HFAR4.out _ (Nat.lt_succ_self _)).trans HX.out)
       have HZS : Hid (StkI wz (w.heap.size + 1) ks (.slice ad4 n4 cap4)) := by rw [hwz]; exact HSU4.out _ fun k _ _ hne => s3_far fun e => hne e HBX4.out
       have HZW : Hid (Below w.heap.size w wz) := by rw [hwz]; exact s3_below HBW4.out HB.out.size
       have HNE : Hid (w.heap.size < b) := by rw [hb, HL.out]; exact Nat.lt_succ_self _
       clear hwz hb)
    clear m0 d0
    try clear z0 z1 z2 fz HBX4
    clear HSU4 HFAR4 HST4 HB4 HBW4
    have y0 := cell_of_blk HZB.out 0 _ rfl
    go_wp2_with fail
    refine (hasNumber_calls op wz).mono ?_
    rintro e w7 ⟨rfl, rfl⟩
    have x0 := cell_of_blk HZX.out 0 _ rfl
    have x1 := cell_of_blk HZX.out 1 _ rfl
    have x2 := cell_of_blk HZX.out 2 _ rfl
    have fx := frz_of_blk HZX.out
    cases hnum : isNumOp op with
    | true =>
      have hn2 : 1 < n := by have := HC.out.pos; omega
      have hn2I : (1 : Int) < (n : Int) := by omega
      have d1 := (HC.out.next HZW.out).cell 1 hn2
      obtain ⟨m, hm⟩ : ∃ m, m = opW ws (a + 1) := ⟨_, rfl⟩
      rw [← hm] at d1
      have HV : Hid (cellW ws a = ⟨op, m, ks⟩) := by
        have h := cellW_num (ws := ws) (a := a) (by rw [← HOP.out]; exact hnum)
        have h2 : ks = [] := by rw [HKS.out, h]
        rw [Hid, h, ← HOP.out, h2, hm]
      have fy := frz_of_blk HZB.out
      have HBX : Hid ((wz.setCell ⟨b, 1, none⟩ (.int .i64 m)).heap[b]? = some (.cells #[.int .i64 op, .int .i64 m, .slice ad4 n4 cap4] 40)) := c1_blk HZB.out
      have HZX2 : Hid ((wz.setCell ⟨b, 1, none⟩ (.int .i64 m)).heap[w.heap.size]? = some (.cells #[.int .i64 0, .int .i64 0, .slice none 0 0] 40)) := (Below.heap_setCell _ _ _ _ (by show w.heap.size ≠ b; have := HNE.out; omega)).trans HZX.out
      have HNB2 : Hid (b ≠ w.heap.size) := by have := HNE.out; unfold Hid; omega
      clear hm y0 x0 x1 x2 fx
      have y0 := cell_of_blk HZB.out 0 _ rfl
      have y1 := cell_of_blk HZB.out 1 _ rfl
      have y2 := cell_of_blk HZB.out 2 _ rfl
      obtain ⟨wy, hwy⟩ : ∃ wy : World, wy = wz.setCell ⟨b, 1, none⟩ (.int .i64 m) := ⟨_, rfl⟩
      rw [← hwy] at HBX HZX2
      have q0 := cell_of_blk HBX.out 0 _ rfl
      have q1 := cell_of_blk HBX.out 1 _ rfl
      have q2 := cell_of_blk HBX.out 2 _ rfl
      have x0 := cell_of_blk HZX2.out 0 _ rfl
      have x1 := cell_of_blk HZX2.out 1 _ rfl
      have x2 := cell_of_blk HZX2.out 2 _ rfl
      have fx := frz_of_blk HZX2.out
      rw [hwy] at q0 q1 q2 x0 x1 x2 fx
      go_wp2_with fail
      rw [← hwy]
      have hb := s3_blk (b0 := .int .i64 op) (b1 := .int .i64 m) (b2 := .slice ad4 n4 cap4) HZX2.out
      refine bodyPost_ret (v := .agg #[.int .i64 op, .int .i64 m, .slice ad4 n4 cap4]) (by simp [results, Try.results53, go_sem, cell_of_blk hb 0 _ rfl, cell_of_blk hb 1 _ rfl, cell_of_blk hb 2 _ rfl]) rfl ?_
      rw [HV.out]
      refine ⟨_, rfl, ?_, s3_below (by rw [hwy]; exact HZW.out.setCell (Nat.le_of_lt HNE.out) _) (Nat.le_refl _)⟩
      have hz := stk_off (w' := wy) (B := b) HZS.out (Nat.le_refl _) fun k _ _ hne => by rw [hwy]; exact Below.heap_setCell _ _ _ _ (fun e => hne e HZB.out)
      exact (hz.keep fun j hj _ => s3_far (by omega)).lower (Nat.le_succ _)
    | false =>
      have HV : Hid (cellW ws a = ⟨op, 0, ks⟩) := by
        have h := cellW_kid (ws := ws) (a := a) (by rw [← HOP.out]; exact hnum)
        rw [Hid, HKS.out, h, ← HOP.out]
      have y1 := cell_of_blk HZB.out 1 _ rfl
      have y2 := cell_of_blk HZB.out 2 _ rfl
      go_wp2_with fail
      have hb := s3_blk (b0 := .int .i64 op) (b1 := .int .i64 0) (b2 := .slice ad4 n4 cap4) HZX.out
      refine bodyPost_ret (v := .agg #[.int .i64 op, .int .i64 0, .slice ad4 n4 cap4]) (by simp [results, Try.results53, go_sem, cell_of_blk hb 0 _ rfl, cell_of_blk hb 1 _ rfl, cell_of_blk hb 2 _ rfl]) rfl ?_
      rw [HV.out]
      refine ⟨_, rfl, ?_, s3_below HZW.out (Nat.le_refl _)⟩
      exact (HZS.out.keep fun j hj _ => s3_far (by omega)).lower (Nat.le_succ _)
end Go.Proofs.Ytiipcgnkfhjpeaa
/-
  A NODE OF THE PROGRAM: nodeOf's answer, the method fits that it leads to, and that one's answer.
-/
namespace Go.Proofs.Ytiipcgnkfhjpeaa
set_option linter.unusedVariables false
set_option linter.unusedSimpArgs false
open Go.RowKit

/-- is a node right at its top? -/
def topC (op num : Int) (n : Nat) (vars defs : Int) : Bool := decide ((n : Int) = arity op) && ownB op num vars defs
/-- what is known of the node at a tree's top: nodeOf's answer, the method that it leads to, and that one's answer -/
structure NodeAt (vars defs op num : Int) (n : Nat) (T : TypeId) (x : Value) (K : FuncId) (ok fit : Bool) : Prop where
  node : ∀ (w : World), Calls Try.prog 73 #[.int .i64 op, .int .i64 num, .int .i64 (n : Int)] w fun e w' => e = .returned (.tuple #[.iface T x, .bool ok]) ∧ Below w.heap.size w w'
  meth : ∀ w : World, (method 222 T x "loop.example/graphreducer/impl.fits").run Try.prog w = .ok (K, x) w
  enters : ∀ (args : Array Value) (w : World), (callFunc K args).run Try.prog w = .ok (.enter K args) w
  fits : ok = true → ∀ w : World, Calls Try.prog K #[x, .int .i64 vars, .int .i64 defs] w fun e w' => e = .returned (.bool fit) ∧ Below w.heap.size w w'
  top : (ok && fit) = topC op num n vars defs

set_option maxHeartbeats 400000 in
theorem fits_1 (n vars defs : Int) (w : World) : Calls Try.prog 97 #[.int .i64 n, .int .i64 vars, .int .i64 defs] w fun e w' => e = .returned (.bool (ownB 1 n vars defs)) ∧ Below w.heap.size w w' := by
  by_cases h0 : 0 ≤ n
  · go_enter Try.func97, Try.ntmps97
    go_wp2_with fail
    go_ret
    exact ⟨ret_bool (by simp [ownB, h0]), Below.refl _ _⟩
  · have h1 : decide (0 ≤ n) = false := by simpa using h0
    go_enter Try.func97, Try.ntmps97
    go_wp2_with fail
    go_ret
    exact ⟨ret_bool (by simp [ownB]; omega), Below.refl _ _⟩
theorem meth_1 (n : Int) (w : World) : (method 222 99 (.int .i64 n) "loop.example/graphreducer/impl.fits").run Try.prog w = .ok (97, .int .i64 n) w := by kernel_rfl
theorem enters_1 (args : Array Value) (w : World) : (callFunc 97 args).run Try.prog w = .ok (.enter 97 args) w := by kernel_rfl
theorem nodeAt_1 (vars defs op num : Int) (n : Nat) (h : op = 1) : NodeAt vars defs op num n 99 (.int .i64 num) 97 ((n : Int) == 0) (ownB op num vars defs) where
  node w := by rw [h]; exact nodeOf_1 num n w
  meth w := meth_1 _ w
  enters := enters_1
  fits _ w := by rw [h]; exact fits_1 _ _ _ w
  top := by unfold topC; rw [h, show arity 1 = 0 from rfl]; rfl

set_option maxHeartbeats 400000 in
theorem fits_2 (n vars defs : Int) (w : World) : Calls Try.prog 99 #[.int .i64 n, .int .i64 vars, .int .i64 defs] w fun e w' => e = .returned (.bool (ownB 2 n vars defs)) ∧ Below w.heap.size w w' := by
  by_cases h0 : 0 ≤ n
  · go_enter Try.func99, Try.ntmps99
    go_wp2_with fail
    go_ret
    exact ⟨ret_bool (by simp [ownB, h0]), Below.refl _ _⟩
  · have h1 : decide (0 ≤ n) = false := by simpa using h0
    go_enter Try.func99, Try.ntmps99
    go_wp2_with fail
    go_ret
    exact ⟨ret_bool (by simp [ownB]; omega), Below.refl _ _⟩
theorem meth_2 (n : Int) (w : World) : (method 222 100 (.int .i64 n) "loop.example/graphreducer/impl.fits").run Try.prog w = .ok (99, .int .i64 n) w := by kernel_rfl
theorem enters_2 (args : Array Value) (w : World) : (callFunc 99 args).run Try.prog w = .ok (.enter 99 args) w := by kernel_rfl
theorem nodeAt_2 (vars defs op num : Int) (n : Nat) (h : op = 2) : NodeAt vars defs op num n 100 (.int .i64 num) 99 ((n : Int) == 0) (ownB op num vars defs) where
  node w := by rw [h]; exact nodeOf_2 num n w
  meth w := meth_2 _ w
  enters := enters_2
  fits _ w := by rw [h]; exact fits_2 _ _ _ w
  top := by unfold topC; rw [h, show arity 2 = 0 from rfl]; rfl

set_option maxHeartbeats 400000 in
theorem fits_3 (n vars defs : Int) (w : World) : Calls Try.prog 101 #[.int .i64 n, .int .i64 vars, .int .i64 defs] w fun e w' => e = .returned (.bool (ownB 3 n vars defs)) ∧ Below w.heap.size w w' := by
  by_cases h0 : 0 ≤ n
  · go_enter Try.func101, Try.ntmps101
    go_wp2_with fail
    go_ret
    exact ⟨ret_bool (by simp [ownB, h0]), Below.refl _ _⟩
  · have h1 : decide (0 ≤ n) = false := by simpa using h0
    go_enter Try.func101, Try.ntmps101
    go_wp2_with fail
    go_ret
    exact ⟨ret_bool (by simp [ownB]; omega), Below.refl _ _⟩
theorem meth_3 (n : Int) (w : World) : (method 222 101 (.int .i64 n) "loop.example/graphreducer/impl.fits").run Try.prog w = .ok (101, .int .i64 n) w := by kernel_rfl
theorem enters_3 (args : Array Value) (w : World) : (callFunc 101 args).run Try.prog w = .ok (.enter 101 args) w := by kernel_rfl
theorem nodeAt_3 (vars defs op num : Int) (n : Nat) (h : op = 3) : NodeAt vars defs op num n 101 (.int .i64 num) 101 ((n : Int) == 0) (ownB op num vars defs) where
  node w := by rw [h]; exact nodeOf_3 num n w
  meth w := meth_3 _ w
  enters := enters_3
  fits _ w := by rw [h]; exact fits_3 _ _ _ w
  top := by unfold topC; rw [h, show arity 3 = 0 from rfl]; rfl

set_option maxHeartbeats 400000 in
theorem fits_o (k : Int) (m : ByteArray) (vars defs : Int) (w : World) : Calls Try.prog 96 #[.agg #[.int .i64 k, .string m], .int .i64 vars, .int .i64 defs] w fun e w' => e = .returned (.bool true) ∧ Below w.heap.size w w' := by
  go_enter Try.func96, Try.ntmps96
  go_wp2_with fail
  go_ret
  exact ⟨rfl, box_below _ _⟩
theorem meth_o (k : Int) (m : ByteArray) (w : World) : (method 222 82 (.agg #[.int .i64 k, .string m]) "loop.example/graphreducer/impl.fits").run Try.prog w = .ok (96, .agg #[.int .i64 k, .string m]) w := by kernel_rfl
theorem enters_o (args : Array Value) (w : World) : (callFunc 96 args).run Try.prog w = .ok (.enter 96 args) w := by kernel_rfl
theorem nodeAt_o (vars defs op num : Int) (n : Nat) (h1 : op ≠ 1) (h2 : op ≠ 2) (h3 : op ≠ 3) : NodeAt vars defs op num n 82 (.agg #[.int .i64 (opKids op), .string (opMarks op)]) 96 (opOk op && ((num == 0) && ((n : Int) == opKids op))) true where
  node w := nodeOf_op op num n w (by simpa using h1) (by simpa using h2) (by simpa using h3)
  meth w := meth_o _ _ w
  enters := enters_o
  fits _ w := fits_o _ _ _ _ w
  top := by
    unfold topC ownB
    rw [if_neg h1, if_neg h2, if_neg h3, Bool.and_true]
    by_cases hr : 4 ≤ op ∧ op ≤ 10
    · have e : opKids op = arity op := by
        have : op = 4 ∨ op = 5 ∨ op = 6 ∨ op = 7 ∨ op = 8 ∨ op = 9 ∨ op = 10 := by omega
        rcases this with h | h | h | h | h | h | h <;> rw [h] <;> rfl
      have e2 : opOk op = true := by unfold opOk; rw [decide_eq_true hr]
      rw [e, e2, Bool.true_and, Bool.and_comm]
      rfl
    · have e2 : opOk op = false := by unfold opOk; rw [decide_eq_false hr]
      have e3 : arity op = -1 := by
        unfold arity
        rw [if_neg (by omega), if_neg (by omega), if_neg (by omega), if_neg (by omega)]
      rw [e2, e3, Bool.false_and, decide_eq_false (by omega), Bool.false_and]
end Go.Proofs.Ytiipcgnkfhjpeaa
/-
  THE PROGRAM's GraphValid (cellFits, isCell, areCells); nothing that was there is changed.
-/
namespace Go.Proofs.Ytiipcgnkfhjpeaa
set_option linter.unusedVariables false
set_option linter.unusedSimpArgs false
open Go.RowKit

set_option maxHeartbeats 400000 in
theorem isCell_calls (n cap : Nat) (ad : Option Addr) (a : Int) (w : World) (hn : n ≤ 9223372036854775807) :
    Calls Try.prog 74 #[.slice ad n cap, .int .i64 a] w fun e w' => e = .returned (.bool (isAt n a)) ∧ Below w.heap.size w w' := by
  by_cases h0 : 0 ≤ a
  · by_cases h1 : a < (n : Int)
    · have HV : Hid (isAt n a = true) := isAt_in h0 h1
      go_enter Try.func74, Try.ntmps74
      go_wp2_with fail
      go_ret
      exact ⟨ret_bool HV.out.symm, Below.refl _ _⟩
    · have HV : Hid (isAt n a = false) := isAt_hi h1
      go_enter Try.func74, Try.ntmps74
      go_wp2_with fail
      go_ret
      exact ⟨ret_bool HV.out.symm, Below.refl _ _⟩
  · have HV : Hid (isAt n a = false) := isAt_lo (by omega)
    go_enter Try.func74, Try.ntmps74
    go_wp2_with fail
    go_ret
    exact ⟨ret_bool HV.out.symm, Below.refl _ _⟩

set_option maxHeartbeats 800000 in
theorem areCells_calls (n cap : Nat) (ad : Option Addr) (xs : List Int) (v : Value) (w : World) (hn : n ≤ 9223372036854775807) (hk : IIn w xs v) :
    Calls Try.prog 61 #[.slice ad n cap, v] w fun e w' => e = .returned (.bool (xs.all (isAt n))) ∧ Below w.heap.size w w' := by
  have HK : Hid (IIn w xs v) := hk
  obtain ⟨ad2, cap2, rfl, hl, hm, -⟩ := hk
  unfold maxLen at hm
  go_enter Try.func61, Try.ntmps61
  go_wp2_with fail
  go_loopw [9] (fun i wr => ∃ k : Nat, k ≤ xs.length ∧ i = .int .i64 k ∧ (xs.take k).all (isAt n) = true ∧ Below w.heap.size w wr) (fun i _ => xs.length - (intOf i).toNat)
  case atStart => exact ⟨0, Nat.zero_le _, rfl, by simp, Below.refl _ _⟩
  case round =>
    obtain ⟨k, hk, rfl, hall, hb⟩ := hrel
    have HA : Hid ((xs.take k).all (isAt n) = true) := hall
    have HB : Hid (Below w.heap.size w wr) := hb
    clear hall hb
    by_cases hlt : k < xs.length
    · obtain ⟨bl, off, rfl, d0⟩ := (HK.out.next HB.out).at k hlt
      go_wp2_with fail
      refine (isCell_calls n cap ad xs[k] _ hn).mono ?_
      rintro e w1 ⟨rfl, hb1⟩
      have HB1 : Hid (Below w.heap.size w w1) := HB.out.trans (hb1.mono HB.out.size)
      clear hb1 d0
      cases hc : isAt n xs[k] with
      | false =>
        have HV : Hid (xs.all (isAt n) = false) := allI_false_of _ _ k hlt hc
        clear hc
        go_wp2_with fail
        go_ret
        exact ⟨ret_bool HV.out.symm, HB1.out⟩
      | true =>
        have HA2 : Hid ((xs.take (k + 1)).all (isAt n) = true) := by rw [Hid, allI_take_succ _ _ _ hlt, HA.out, hc]; rfl
        clear hc
        go_wp2_with fail
        go_roundw
        case rel => exact ⟨k + 1, by omega, by go_num, HA2.out, HB1.out⟩
        case measure => simp [intOf]; omega
    · have hke : xs.length = k := by omega
      have HV : Hid (xs.all (isAt n) = true) := all_end HA.out hke
      clear hke
      go_wp2_with fail
      go_ret
      exact ⟨ret_bool HV.out.symm, HB.out⟩

/-- cellFits, for a kind with a node -/
theorem fits_node {defs op num : Int} {n : Nat} (h : op ≠ 11) : topC op num n 0 defs = (decide ((n : Int) = cArity op) && ownB op num 0 defs) := by
  unfold topC cArity; rw [if_neg h]

set_option maxRecDepth 100000 in
set_option maxHeartbeats 800000 in
theorem cellFits_node (op num defs : Int) (n cap : Nat) (ad : Option Addr) (T : TypeId) (x : Value) (K : FuncId) (ok fit : Bool) (hn : NodeAt 0 defs op num n T x K ok fit) (h11 : op ≠ 11) (hm : n ≤ 9223372036854775807) (w : World) :
    Calls Try.prog 60 #[.agg #[.int .i64 op, .int .i64 num, .slice ad n cap], .int .i64 defs] w fun e w' => e = .returned (.bool (topC op num n 0 defs)) ∧ Below w.heap.size w w' := by
  have HN : Hid (NodeAt 0 defs op num n T x K ok fit) := hn
  have HBX : Hid (Below w.heap.size w (w.alloc (.cells #[.int .i64 op, .int .i64 num, .slice ad n cap] 40))) := box_below _ _
  have hme := hn.meth
  have hen := hn.enters
  have HT : Hid ((ok && fit) = topC op num n 0 defs) := hn.top
  have t11 : (op == 11) = false := by simpa using h11
  clear hn h11
  cases hok : ok with
  | false =>
    subst hok
    have HV : Hid (topC op num n 0 defs = false) := by have := HT.out; rw [Bool.false_and] at this; exact this.symm
    clear hme hen
    go_enter Try.func60, Try.ntmps60
    go_wp2_with fail
    refine (HN.out.node _).mono ?_
    rintro e w1 ⟨rfl, hb⟩
    have HB : Hid (Below w.heap.size w w1) := HBX.out.trans (hb.mono HBX.out.size)
    clear hb
    go_wp2_with fail
    go_ret
    exact ⟨ret_bool HV.out.symm, HB.out⟩
  | true =>
    subst hok
    have HV : Hid (topC op num n 0 defs = fit) := by have := HT.out; rw [Bool.true_and] at this; exact this.symm
    go_enter Try.func60, Try.ntmps60
    go_wp2_with fail
    refine (HN.out.node _).mono ?_
    rintro e w1 ⟨rfl, hb⟩
    have HB : Hid (Below w.heap.size w w1) := HBX.out.trans (hb.mono HBX.out.size)
    clear hb
    go_wp2_with fail
    refine (HN.out.fits rfl _).mono ?_
    rintro e w2 ⟨rfl, hb⟩
    have HB2 : Hid (Below w.heap.size w w2) := HB.out.trans (hb.mono HB.out.size)
    clear hb
    go_wp2_with fail
    go_ret
    exact ⟨ret_bool HV.out.symm, HB2.out⟩

set_option maxHeartbeats 800000 in
theorem cellFits_ind (num defs : Int) (n cap : Nat) (ad : Option Addr) (hm : n ≤ 9223372036854775807) (w : World) :
    Calls Try.prog 60 #[.agg #[.int .i64 11, .int .i64 num, .slice ad n cap], .int .i64 defs] w fun e w' => e = .returned (.bool ((num == 0) && ((n : Int) == 1))) ∧ Below w.heap.size w w' := by
  have HBX : Hid (Below w.heap.size w (w.alloc (.cells #[.int .i64 11, .int .i64 num, .slice ad n cap] 40))) := box_below _ _
  cases hnum : (num == 0) with
  | false =>
    go_enter Try.func60, Try.ntmps60
    go_wp2_with fail
    go_ret
    exact ⟨rfl, HBX.out⟩
  | true =>
    go_enter Try.func60, Try.ntmps60
    go_wp2_with fail
    go_ret
    exact ⟨rfl, HBX.out⟩

theorem cellFits_calls (c : Ce) (defs : Int) (v : Value) (w : World) (hk : IIn w c.kids v) :
    Calls Try.prog 60 #[.agg #[.int .i64 c.op, .int .i64 c.num, v], .int .i64 defs] w fun e w' => e = .returned (.bool (fitsB defs c)) ∧ Below w.heap.size w w' := by
  obtain ⟨ad, cap, rfl, hl, hm, -⟩ := hk
  have hm' : c.kids.length ≤ 9223372036854775807 := by unfold maxLen at hm; omega
  by_cases h11 : c.op = 11
  · have hv : fitsB defs c = ((c.num == 0) && ((c.kids.length : Int) == 1)) := by
      unfold fitsB cArity ownB
      rw [h11, if_pos rfl, if_neg (by omega), if_neg (by omega), if_neg (by omega), Bool.and_comm]
      rfl
    rw [hv, h11]
    exact cellFits_ind _ _ _ _ _ hm' w
  have hv : fitsB defs c = topC c.op c.num c.kids.length 0 defs := (fits_node h11).symm
  rw [hv]
  by_cases e1 : c.op = 1
  · exact cellFits_node _ _ _ _ _ _ _ _ _ _ _ (nodeAt_1 0 defs c.op c.num c.kids.length e1) h11 hm' w
  by_cases e2 : c.op = 2
  · exact cellFits_node _ _ _ _ _ _ _ _ _ _ _ (nodeAt_2 0 defs c.op c.num c.kids.length e2) h11 hm' w
  by_cases e3 : c.op = 3
  · exact cellFits_node _ _ _ _ _ _ _ _ _ _ _ (nodeAt_3 0 defs c.op c.num c.kids.length e3) h11 hm' w
  exact cellFits_node _ _ _ _ _ _ _ _ _ _ _ (nodeAt_o 0 defs c.op c.num c.kids.length e1 e2 e3) h11 hm' w

theorem cellB_fits {cells defs : Int} {c : Ce} (h : fitsB defs c = false) : cellB cells defs c = false := by unfold cellB; rw [h]; rfl
theorem cellB_kids {cells defs : Int} {c : Ce} (h : fitsB defs c = true) : cellB cells defs c = c.kids.all (isAt cells) := by unfold cellB; rw [h]; rfl

set_option maxHeartbeats 800000 in
theorem implGraph_calls (g : List Ce) (defs : Int) (v : Value) (w : World) (hk : CIn w g v) :
    Calls Try.prog 37 #[v, .int .i64 defs] w fun e w' => e = .returned (.bool (graphB g defs)) ∧ Below w.heap.size w w' := by
  have HK : Hid (CIn w g v) := hk
  obtain ⟨ad, cap, rfl, hl, hm, -⟩ := hk
  unfold maxLen at hm
  by_cases hlim : (g.length : Int) ≤ 400 ∧ 0 ≤ defs ∧ defs ≤ 6
  · have HLM : Hid ((g.length : Int) ≤ 400 ∧ 0 ≤ defs ∧ defs ≤ 6) := hlim
    obtain ⟨l1, l2, l3⟩ := hlim
    go_enter Try.func37, Try.ntmps37
    go_wp2_with fail
    go_loopw [20] (fun i wr => ∃ k : Nat, k ≤ g.length ∧ i = .int .i64 k ∧ (g.take k).all (cellB g.length defs) = true ∧ Below w.heap.size w wr) (fun i _ => g.length - (intOf i).toNat)
    case atStart => exact ⟨0, Nat.zero_le _, rfl, by simp, Below.refl _ _⟩
    case round =>
      obtain ⟨k, hk, rfl, hall, hb⟩ := hrel
      have HA : Hid ((g.take k).all (cellB g.length defs) = true) := hall
      have HB : Hid (Below w.heap.size w wr) := hb
      clear hall hb
      by_cases hlt : k < g.length
      · obtain ⟨bl, off, r, rfl, c0, c1, c2, -, -, hkk⟩ := (HK.out.next HB.out).at k hlt
        obtain ⟨ad2, cap2, rfl, -, -, -⟩ := id hkk
        have HKK : Hid (IIn wr g[k].kids (.slice ad2 g[k].kids.length cap2)) := hkk
        clear hkk
        go_wp2_with fail
        refine (cellFits_calls g[k] defs _ _ (HKK.out.next (box_below _ _))).mono ?_
        rintro e w1 ⟨rfl, hb1⟩
        have HB0 : Hid (Below wr.heap.size wr w1) := (box_below _ _).trans (hb1.mono (by rw [Deep.nblk_alloc]; omega))
        have HB1 : Hid (Below w.heap.size w w1) := HB.out.trans (HB0.out.mono HB.out.size)
        have b2 := (hb1.cell (p := ⟨wr.heap.size, 2, none⟩) (by rw [Deep.nblk_alloc]; exact Nat.lt_succ_self _)).trans (box_cell wr #[.int .i64 g[k].op, .int .i64 g[k].num, .slice ad2 g[k].kids.length cap2] 40 2 _ rfl)
        clear hb1 c0 c1 c2
        cases hc : fitsB defs g[k] with
        | false =>
          have HV : Hid (graphB g defs = false) := graphB_cellNo k hlt (cellB_fits hc)
          clear hc
          go_wp2_with fail
          go_ret
          exact ⟨ret_bool HV.out.symm, HB1.out⟩
        | true =>
          have HC : Hid (cellB (g.length : Int) defs g[k] = g[k].kids.all (isAt g.length)) := cellB_kids hc
          clear hc
          go_wp2_with fail
          refine (areCells_calls g.length cap _ g[k].kids _ _ (by omega) (HKK.out.next HB0.out)).mono ?_
          rintro e w2 ⟨rfl, hb2⟩
          have HB2 : Hid (Below w.heap.size w w2) := HB1.out.trans (hb2.mono HB1.out.size)
          clear hb2 b2
          cases hc2 : g[k].kids.all (isAt (g.length : Int)) with
          | false =>
            have HV : Hid (graphB g defs = false) := graphB_cellNo k hlt (by rw [HC.out, hc2])
            clear hc2
            go_wp2_with fail
            go_ret
            exact ⟨ret_bool HV.out.symm, HB2.out⟩
          | true =>
            have HA2 : Hid ((g.take (k + 1)).all (cellB g.length defs) = true) := by rw [Hid, allI_take_succ _ _ _ hlt, HA.out, HC.out, hc2]; rfl
            clear hc2
            go_wp2_with fail
            go_roundw
            case rel => exact ⟨k + 1, by omega, by go_num, HA2.out, HB2.out⟩
            case measure => simp [intOf]; omega
      · have hke : g.length = k := by omega
        have HV : Hid (graphB g defs = true) := graphB_yes HLM.out (all_end HA.out hke)
        clear hke
        go_wp2_with fail
        go_ret
        exact ⟨ret_bool HV.out.symm, HB.out⟩
  · have HV : Hid (graphB g defs = false) := graphB_no hlim
    by_cases l1 : (g.length : Int) ≤ 400
    · by_cases l2 : 0 ≤ defs
      · have l3 : ¬ defs ≤ 6 := fun h => hlim ⟨l1, l2, h⟩
        clear hlim
        go_enter Try.func37, Try.ntmps37
        go_wp2_with fail
        go_ret
        exact ⟨ret_bool HV.out.symm, Below.refl _ _⟩
      · clear hlim
        go_enter Try.func37, Try.ntmps37
        go_wp2_with fail
        go_ret
        exact ⟨ret_bool HV.out.symm, Below.refl _ _⟩
    · clear hlim
      go_enter Try.func37, Try.ntmps37
      go_wp2_with fail
      go_ret
      exact ⟨ret_bool HV.out.symm, Below.refl _ _⟩
end Go.Proofs.Ytiipcgnkfhjpeaa
