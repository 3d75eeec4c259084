/-
  THE PROGRAM's PackGraph.
-/
import Derived.Test.YtiipcgnkfhjpeaaWordT
import Derived.Test.YtiipcgnkfhjpeaaStkI
import Derived.Test.YtiipcgnkfhjpeaaImplSz
import Derived.Test.YtiipcgnkfhjpeaaImplGraph
import Derived.Test.YtiipcgnkfhjpeaaOneRow
import Derived.IntWalk
namespace Go.Proofs.Ytiipcgnkfhjpeaa
set_option linter.unusedVariables false
set_option linter.unusedSimpArgs false
open Go.RowKit


/-- two lists of numbers in rows of their own -/
def TwoRows (X Y : List Int) (t s : Value) (w w' : World) : Prop := ∃ b0 b1, (OneRow w' b0 X t ∧ OneRow w' b1 Y s) ∧ (w.heap.size ≤ b0 ∧ w.heap.size ≤ b1) ∧ b0 ≠ b1
theorem two_rows {w w1 w' : World} {X Y : List Int} {t s : Value} (hs : IntRow w1 w.heap.size Y s) (hb : Below w1.heap.size w1 w') (ht : IntRow w' w1.heap.size X t) (hl : w.heap.size ≤ w1.heap.size) : TwoRows X Y t s w w' := by
  obtain ⟨b0, h0, c0⟩ := one_of_row ht w'.heap.size
  have hb0 : w1.heap.size ≤ b0 := by have := hb.size; rcases c0 with c0 | c0 <;> omega
  obtain ⟨ad, cap, rfl, l1, l2, h⟩ := hs
  rcases h with rfl | ⟨g, f, rfl, hg, hr, hf⟩
  · exact ⟨b0, b0 + 1, ⟨h0, OneRow.nil _ _ _ _ l2⟩, ⟨by omega, by omega⟩, by omega⟩
  · have h1 : OneRow w1 g Y (.slice (some ⟨g, 0, none⟩) Y.length cap) := ⟨_, cap, rfl, l1, l2, Or.inr ⟨f, rfl, by simp, hr, hf⟩⟩
    exact ⟨b0, g, ⟨h0, h1.next hb⟩, ⟨by omega, hg⟩, by have := hr.lt; omega⟩
theorem two_nil (w w' : World) : TwoRows [] [] (.slice none 0 0) (.slice none 0 0) w w' :=
  ⟨w.heap.size, w.heap.size + 1, ⟨OneRow.nil _ _ _ _ (by simp [maxLen]), OneRow.nil _ _ _ _ (by simp [maxLen])⟩, ⟨Nat.le_refl _, by omega⟩, by omega⟩
/-- the answer of PackGraph -/
def OwnPack (r : List Int × List Int × Bool) (w : World) (e : Ending) (w' : World) : Prop := ∃ t s, e = .returned (.tuple #[t, s, .bool r.2.2]) ∧ TwoRows r.1 r.2.1 t s w w' ∧ Below w.heap.size w w'

set_option maxRecDepth 100000 in
set_option maxHeartbeats 1600000 in
theorem implPack_calls (g : List Ce) (v : Value) (w : World) (hk : CIn w g v) :
    Calls Try.prog 12 #[v] w (OwnPack (packO g) w) := by
  have HK := mkHid hk
  obtain ⟨ad, cap, rfl, hl, hm, -⟩ := hk
  unfold maxLen at hm
  go_enter Try.func12, Try.ntmps12
  go_wp2_with fail
  refine (implGraph_calls g 6 _ _ HK.out).mono ?_
  rintro e w1 ⟨rfl, hb1⟩
  have HB1 := mkHid hb1
  clear hb1
  cases hg : graphB g 6 with
  | false =>
    have HV := mkHid (packO_no hg)
    clear hg
    go_wp2_with fail
    refine bodyPost_ret (v := .tuple #[.slice none 0 0, .slice none 0 0, .bool false]) (by simp [results, Try.results12, go_sem]) rfl ?_
    rw [HV.out]
    exact ⟨_, _, rfl, two_nil _ _, HB1.out⟩
  | true =>
  have HV := mkHid (packO_yes hg)
  have HG := mkHid hg
  have hlen := graphB_len hg
  have HKB : Hid (∀ c ∈ g, c.kids.length ≤ 3) := fun c hc => by
    obtain ⟨j, hj, rfl⟩ := List.getElem_of_mem hc
    exact (graph_cell HG.out j hj).2.2.2.2
  clear hg
  go_wp2_with fail
  go_loopw [5, 6, 21] (fun o a i wr => ∃ j : Nat, j ≤ g.length ∧ i = .int .i64 j ∧ a = .int .i64 (endG (g.take j) : Nat) ∧ StkI wr w.heap.size (startsG (g.take j) 0) o ∧ Below w.heap.size w wr) (fun _ _ i _ => g.length - (intOf i).toNat)
  case atStart => exact ⟨0, Nat.zero_le _, rfl, rfl, StkI.none _ _, HB1.out⟩
  case round =>
    obtain ⟨j, hj, rfl, rfl, hst, hb⟩ := hrel
    obtain ⟨wo, rfl⟩ : ∃ wo : World, wo = wr := ⟨_, rfl⟩
    obtain ⟨ado, no, capo, rfl⟩ := hst.form
    have HS := mkHid hst
    have HB := mkHid hb
    have HSL : Hid ((startsG (g.take j) 0).length ≤ 400) := by rw [Hid, startsG_length, List.length_take]; omega
    obtain ⟨xs, hxs⟩ : ∃ xs, xs = startsG (g.take j) 0 := ⟨_, rfl⟩
    have HXS := mkHid hxs
    rw [← hxs] at HS HSL
    obtain ⟨p, hp⟩ : ∃ p : Nat, p = endG (g.take j) := ⟨_, rfl⟩
    have hpb : p ≤ 4 * g.length := by rw [hp]; exact endG_take_le g j
    have HP := mkHid hp
    rw [← hp]
    by_cases hlt : j < g.length
    · have HN : Hid (startsG (g.take (j + 1)) 0 = xs ++ [(p : Int)]) := by rw [Hid, startsG_snoc hlt, ← HXS.out, ← HP.out]
      have HE : Hid (endG (g.take (j + 1)) = p + wLen g[j].op) := by rw [Hid, endG_snoc hlt, ← HP.out]
      obtain ⟨bl, off, r2, rfl, c0w, c1w, c2w, -, -, hkk⟩ := HK.out.at j hlt
      obtain ⟨adk, capk, rfl, -, -, -⟩ := id hkk
      have HKK : Hid (IIn w g[j].kids (.slice adk g[j].kids.length capk)) := hkk
      have c0 := hb.cell (p := ⟨bl, off + j * 3, none⟩) (cell_lt c0w) |>.trans c0w
      have c1 := hb.cell (p := ⟨bl, off + j * 3 + 1, none⟩) (cell_lt c1w) |>.trans c1w
      have c2 := hb.cell (p := ⟨bl, off + j * 3 + 2, none⟩) (cell_lt c2w) |>.trans c2w
      have hop := (graph_cell HG.out j hlt).2.2.1
      have hwl := wLen_le g[j].op
      have HSV := mkHid (sizeV_ok hop)
      obtain ⟨w4, hw4⟩ : ∃ w4 : World, w4 = wo.alloc (.cells #[.int .i64 g[j].op, .int .i64 g[j].num, .slice adk g[j].kids.length capk] 40) := ⟨_, rfl⟩
      have HB4 : Hid (Below w.heap.size w w4) := by rw [hw4]; exact hb.alloc hb.size _
      have HX4 : Hid (w4.heap[wo.heap.size]? = some (.cells #[.int .i64 g[j].op, .int .i64 g[j].num, .slice adk g[j].kids.length capk] 40)) := by rw [hw4]; exact Deep.blk_alloc_new _ _
      have HS4 : Hid (StkI w4 w.heap.size xs (.slice ado no capo)) := by rw [hw4]; exact StkI.alloc HS.out _
      clear c0w c1w c2w hkk hst hb hxs hp hop
      go_wp2_with fail
      rw [← hw4]
      clear hw4 c0 c1 c2
      have x0 := cell_of_blk HX4.out 0 _ rfl
      go_wp2_with fail
      refine (sizeOfKind_calls g[j].op w4).mono ?_
      rintro e w5 ⟨rfl, hb5⟩
      rw [HSV.out]
      obtain ⟨n, hn⟩ : ∃ n : Nat, n = wLen g[j].op := ⟨_, rfl⟩
      rw [← hn] at hwl HE ⊢
      have HB5 : Hid (Below w.heap.size w w5) := HB4.out.trans (hb5.mono HB4.out.size)
      have HS5 : Hid (StkI w5 w.heap.size xs (.slice ado no capo)) := StkI.next HS4.out hb5
      clear hn x0 hb5
      have A1 : Hid (StkI (w5.alloc (.cells #[.int .i64 (p : Int)] 3)) w.heap.size (xs) (.slice ado no capo)) := StkI.alloc HS5.out _
      have K1 : Hid (IIn (w5.alloc (.cells #[.int .i64 (p : Int)] 3)) [(p : Int)] (.slice (some ⟨w5.heap.size, 0, none⟩) 1 1)) := oneI_in w5 (p : Int)
      have L1 : Hid (w.heap.size ≤ (w5.alloc (.cells #[.int .i64 (p : Int)] 3)).heap.size) := by rw [Hid, Deep.nblk_alloc]; have := HB5.out.size; omega
      go_wp2_with (have tk := A1; clear tk; at_builtin; go_must (refine wpList_pushI rfl _ _ rfl _ w.heap.size (xs) [(p : Int)] (.slice ado no capo) (.slice (some ⟨w5.heap.size, 0, none⟩) 1 1) rfl A1.out rfl K1.out L1.out (by have := HSL.out; simp; omega) ?_); go_must (intro v1 w6 hst1 hg1); go_must (have HB6 : Hid (Below w.heap.size w w6) := StkI.grown A1.out rfl (HB5.out.alloc HB5.out.size _) hg1); go_must (have HS6 : Hid (StkI w6 w.heap.size (startsG (g.take (j + 1)) 0) v1) := by rw [HN.out]; exact hst1); go_must (obtain ⟨ad1, n1, cap1, rfl⟩ := hst1.form); clear hst1 hg1)
      go_roundw
      case rel => first | exact ⟨j + 1, by omega, by go_num, by rw [HE.out]; go_num, HS6.out, HB6.out⟩ | ((repeat apply Exists.intro); exact ⟨⟨j + 1, by omega, by go_num, by rw [HE.out]; go_num, HS6.out, HB6.out⟩, rfl⟩)
      case measure => simp [intOf]; omega
    · have hje : j = g.length := by omega
      have HXG : Hid (xs = startsG g 0) := by rw [Hid, HXS.out, hje, List.take_length]
      obtain rfl : no = xs.length := HS.out.eq_len
      have HS1 : Hid (IntRow wo w.heap.size xs (.slice ado xs.length capo)) := HS.out.row
      have HXL : Hid (xs.length = g.length) := by rw [HXG.out, Hid, startsG_length]
      clear hst hb hje hp hxs hpb
      go_wp2_with fail
      go_loopw [11, 41] (fun o i wr => ∃ j : Nat, j ≤ g.length ∧ i = .int .i64 j ∧ StkI wr wo.heap.size (wordsTo g j) o ∧ Below wo.heap.size wo wr) (fun _ i _ => g.length - (intOf i).toNat)
      case atStart => exact ⟨0, Nat.zero_le _, rfl, by rw [wordsTo_zero]; exact StkI.none _ _, Below.refl _ _⟩
      case round =>
        obtain ⟨j, hj, rfl, hst, hb⟩ := hrel
        obtain ⟨wp, rfl⟩ : ∃ wp : World, wp = wr := ⟨_, rfl⟩
        obtain ⟨adp, np, capp, rfl⟩ := hst.form
        have HT := mkHid hst
        have HC := mkHid hb
        have HTL : Hid ((wordsTo g j).length ≤ 2000) := by have := wordsTo_len HKB.out j; unfold Hid; omega
        by_cases hlt : j < g.length
        · obtain ⟨ys, hys⟩ : ∃ ys, ys = wordsTo g j := ⟨_, rfl⟩
          have HYS := mkHid hys
          rw [← hys] at HT HTL
          obtain ⟨bl, off, r2, rfl, c0w, c1w, c2w, -, -, hkk⟩ := HK.out.at j hlt
          obtain ⟨adk, capk, rfl, -, -, -⟩ := id hkk
          have HKK : Hid (IIn w g[j].kids (.slice adk g[j].kids.length capk)) := hkk
          have HBW : Hid (∀ wx, Below wo.heap.size wo wx → Below w.heap.size w wx) := fun wx hx => HB.out.trans (hx.mono HB.out.size)
          have c0 := (HBW.out wp hb).cell (p := ⟨bl, off + j * 3, none⟩) (cell_lt c0w) |>.trans c0w
          have c1 := (HBW.out wp hb).cell (p := ⟨bl, off + j * 3 + 1, none⟩) (cell_lt c1w) |>.trans c1w
          have c2 := (HBW.out wp hb).cell (p := ⟨bl, off + j * 3 + 2, none⟩) (cell_lt c2w) |>.trans c2w
          have hk3 : g[j].kids.length ≤ 3 := (graph_cell HG.out j hlt).2.2.2.2
          have HC4 : Hid (Below wo.heap.size wo (wp.alloc (.cells #[.int .i64 g[j].op, .int .i64 g[j].num, .slice adk g[j].kids.length capk] 40))) := hb.alloc hb.size _
          have HX4 : Hid ((wp.alloc (.cells #[.int .i64 g[j].op, .int .i64 g[j].num, .slice adk g[j].kids.length capk] 40)).heap[wp.heap.size]? = some (.cells #[.int .i64 g[j].op, .int .i64 g[j].num, .slice adk g[j].kids.length capk] 40)) := Deep.blk_alloc_new _ _
          have HT4 : Hid (StkI (wp.alloc (.cells #[.int .i64 g[j].op, .int .i64 g[j].num, .slice adk g[j].kids.length capk] 40)) wo.heap.size ys (.slice adp np capp)) := StkI.alloc HT.out _
          have HLP : Hid (wo.heap.size ≤ wp.heap.size) := hb.size
          clear c0w c1w c2w hkk hst hb hys
          have x0 := cell_of_blk HX4.out 0 _ rfl
          have d0 := old_cell x0 (.cells #[.int .i64 g[j].op] 3)
          have A1 : Hid (StkI ((wp.alloc (.cells #[.int .i64 g[j].op, .int .i64 g[j].num, .slice adk g[j].kids.length capk] 40)).alloc (.cells #[.int .i64 g[j].op] 3)) wo.heap.size (ys) (.slice adp np capp)) := StkI.alloc HT4.out _
          have K1 : Hid (IIn ((wp.alloc (.cells #[.int .i64 g[j].op, .int .i64 g[j].num, .slice adk g[j].kids.length capk] 40)).alloc (.cells #[.int .i64 g[j].op] 3)) [g[j].op] (.slice (some ⟨wp.heap.size + 1, 0, none⟩) 1 1)) := by have h := oneI_in (wp.alloc (.cells #[.int .i64 g[j].op, .int .i64 g[j].num, .slice adk g[j].kids.length capk] 40)) g[j].op; rw [Deep.nblk_alloc] at h; exact h
          have L1 : Hid (wo.heap.size ≤ ((wp.alloc (.cells #[.int .i64 g[j].op, .int .i64 g[j].num, .slice adk g[j].kids.length capk] 40)).alloc (.cells #[.int .i64 g[j].op] 3)).heap.size) := by rw [Hid, Deep.nblk_alloc]; have := HC4.out.size; omega
          go_wp2_with (have tk := A1; clear tk; at_builtin; go_must (refine wpList_pushI rfl _ _ rfl _ wo.heap.size (ys) [g[j].op] (.slice adp np capp) (.slice (some ⟨wp.heap.size + 1, 0, none⟩) 1 1) rfl A1.out rfl K1.out L1.out (by have := HTL.out; simp; omega) ?_); go_must (intro v1 w5 hst1 hg1); go_must (have HC5 : Hid (Below wo.heap.size wo w5) := StkI.grown A1.out rfl (HC4.out.alloc HC4.out.size _) hg1); go_must (have HT5 : Hid (StkI w5 wo.heap.size (ys ++ [g[j].op]) v1) := by exact hst1); go_must (obtain ⟨ad1, n1, cap1, rfl⟩ := hst1.form); go_must (have HX5 : Hid (w5.heap[wp.heap.size]? = some (.cells #[.int .i64 g[j].op, .int .i64 g[j].num, .slice adk g[j].kids.length capk] 40)) := StkI.box A1.out ((Deep.blk_alloc_lt _ _ _ (Array.getElem?_eq_some_iff.1 HX4.out).1).trans HX4.out) (by decide) hg1); go_must (have z0 := cell_of_blk HX5.out 0 _ rfl); clear x0 d0 c0 c1 c2; clear hst1 hg1)
          refine (hasNumber_calls g[j].op w5).mono ?_
          rintro e w6 ⟨rfl, rfl⟩
          clear z0
          cases hnum : isNumOp g[j].op with
          | true =>
            have hnil : g[j].kids = [] := (graph_cell HG.out j hlt).1.2 hnum
            have HN1 : Hid (wordsTo g (j + 1) = ys ++ [g[j].op] ++ [g[j].num]) := by
              rw [Hid, wordsTo_snoc hlt, ← HYS.out, wordsC, if_pos hnil, hnil]
              simp
            have hnil0 : g[j].kids.length = 0 := by rw [hnil]; rfl
            have HX5' : Hid (w5.heap[wp.heap.size]? = some (.cells #[.int .i64 g[j].op, .int .i64 g[j].num, .slice adk 0 capk] 40)) := by have h := HX5.out; rw [hnil0] at h; exact h
            have x1 := cell_of_blk HX5'.out 1 _ rfl
            have d1 := old_cell x1 (.cells #[.int .i64 g[j].num] 3)
            clear hnum hnil hnil0 hk3
            have A2 : Hid (StkI (w5.alloc (.cells #[.int .i64 g[j].num] 3)) wo.heap.size (ys ++ [g[j].op]) (.slice ad1 n1 cap1)) := StkI.alloc HT5.out _
            have K2 : Hid (IIn (w5.alloc (.cells #[.int .i64 g[j].num] 3)) [g[j].num] (.slice (some ⟨w5.heap.size, 0, none⟩) 1 1)) := oneI_in w5 g[j].num
            have L2 : Hid (wo.heap.size ≤ (w5.alloc (.cells #[.int .i64 g[j].num] 3)).heap.size) := by rw [Hid, Deep.nblk_alloc]; have := HC5.out.size; omega
            go_wp2_with (have tk := A2; clear tk; at_builtin; go_must (refine wpList_pushI rfl _ _ rfl _ wo.heap.size (ys ++ [g[j].op]) [g[j].num] (.slice ad1 n1 cap1) (.slice (some ⟨w5.heap.size, 0, none⟩) 1 1) rfl A2.out rfl K2.out L2.out (by have := HTL.out; simp; omega) ?_); go_must (intro v2 w7 hst2 hg2); go_must (have HC7 : Hid (Below wo.heap.size wo w7) := StkI.grown A2.out rfl (HC5.out.alloc HC5.out.size _) hg2); go_must (have HT7 : Hid (StkI w7 wo.heap.size (ys ++ [g[j].op] ++ [g[j].num]) v2) := by exact hst2); go_must (obtain ⟨ad2, n2, cap2, rfl⟩ := hst2.form); go_must (have HX7 : Hid (w7.heap[wp.heap.size]? = some (.cells #[.int .i64 g[j].op, .int .i64 g[j].num, .slice adk 0 capk] 40)) := StkI.box A2.out ((Deep.blk_alloc_lt _ _ _ (Array.getElem?_eq_some_iff.1 HX5'.out).1).trans HX5'.out) (by decide) hg2); go_must (have y2 := cell_of_blk HX7.out 2 _ rfl); clear x1 d1; clear hst2 hg2)
            go_loopw [11, 61] (fun o i wr => i = .int .i64 0 ∧ StkI wr wo.heap.size (ys ++ [g[j].op] ++ [g[j].num]) o ∧ Below wo.heap.size wo wr) (fun _ i _ => 0)
            case atStart => exact ⟨rfl, HT7.out, HC7.out⟩
            case round =>
              obtain ⟨rfl, hst, hb⟩ := hrel
              obtain ⟨adq, nq, capq, rfl⟩ := hst.form
              have HQ := mkHid hst
              have HD := mkHid hb
              clear hst hb
              go_wp2_with fail
              go_roundw
              case rel => first | exact ⟨j + 1, by omega, by go_num, by rw [HN1.out]; exact HQ.out, HD.out⟩ | ((repeat apply Exists.intro); exact ⟨⟨j + 1, by omega, by go_num, by rw [HN1.out]; exact HQ.out, HD.out⟩, rfl⟩)
              case measure => simp [intOf]; omega
          | false =>
            have hne : ¬ g[j].kids = [] := fun h => by rw [(graph_cell HG.out j hlt).1.1 h] at hnum; cases hnum
            have HN1 : Hid (wordsTo g (j + 1) = ys ++ ([g[j].op] ++ g[j].kids.map (kidW xs))) := by
              unfold Hid
              rw [wordsTo_snoc hlt, ← HYS.out, wordsC, ← HXG.out, if_neg hne]
              simp
            have y2 := cell_of_blk HX5.out 2 _ rfl
            clear hnum hne
            go_wp2_with fail
            clear y2
            go_loopw [11, 61] (fun o i wr => ∃ q : Nat, q ≤ g[j].kids.length ∧ i = .int .i64 q ∧ StkI wr wo.heap.size (ys ++ ([g[j].op] ++ (g[j].kids.take q).map (kidW xs))) o ∧ Below wo.heap.size wo wr) (fun _ i _ => g[j].kids.length - (intOf i).toNat)
            case atStart => exact ⟨0, Nat.zero_le _, rfl, by simpa using HT5.out, HC5.out⟩
            case round =>
              obtain ⟨q, hq, rfl, hst, hb⟩ := hrel
              obtain ⟨wq, rfl⟩ : ∃ wq : World, wq = wr := ⟨_, rfl⟩
              obtain ⟨adq, nq, capq, rfl⟩ := hst.form
              have HQ := mkHid hst
              have HD := mkHid hb
              by_cases hqt : q < g[j].kids.length
              · obtain ⟨kk, hk1, hk2⟩ := graph_kid HG.out j hlt q hqt
                obtain ⟨bl3, off3, rfl, d0w⟩ := HKK.out.at q hqt
                rw [hk1] at d0w
                have d1 := ((HBW.out wq hb).cell (p := ⟨bl3, off3 + q, none⟩) (cell_lt d0w)).trans d0w
                have hkx : kk < xs.length := by rw [HXL.out]; exact hk2
                obtain ⟨bl4, off4, rfl, d4w⟩ := HS1.out.inn.at kk hkx
                have d2 := (hb.cell (p := ⟨bl4, off4 + kk, none⟩) (cell_lt d4w)).trans d4w
                obtain ⟨zs, hzs⟩ : ∃ zs, zs = ys ++ ([g[j].op] ++ (g[j].kids.take q).map (kidW xs)) := ⟨_, rfl⟩
                have HN : Hid (ys ++ ([g[j].op] ++ (g[j].kids.take (q + 1)).map (kidW xs)) = zs ++ [xs[kk]]) := by
                  rw [Hid, hzs, List.take_succ_eq_append_getElem hqt, List.map_append, List.map_cons, List.map_nil, hk1, kidW_at hkx]
                  simp
                have HZL : Hid (zs.length ≤ 2100) := by rw [hzs, Hid]; have := HTL.out; simp; omega
                rw [← hzs] at HQ
                clear hk1 d0w d4w hst hb hzs
                have A3 : Hid (StkI (wq.alloc (.cells #[.int .i64 xs[kk]] 3)) wo.heap.size (zs) (.slice adq nq capq)) := StkI.alloc HQ.out _
                have K3 : Hid (IIn (wq.alloc (.cells #[.int .i64 xs[kk]] 3)) [xs[kk]] (.slice (some ⟨wq.heap.size, 0, none⟩) 1 1)) := oneI_in wq xs[kk]
                have L3 : Hid (wo.heap.size ≤ (wq.alloc (.cells #[.int .i64 xs[kk]] 3)).heap.size) := by rw [Hid, Deep.nblk_alloc]; have := HD.out.size; omega
                go_wp2_with (have tk := A3; clear tk; at_builtin; go_must (refine wpList_pushI rfl _ _ rfl _ wo.heap.size (zs) [xs[kk]] (.slice adq nq capq) (.slice (some ⟨wq.heap.size, 0, none⟩) 1 1) rfl A3.out rfl K3.out L3.out (by have := HZL.out; simp; omega) ?_); go_must (intro v3 w7 hst3 hg3); go_must (have HD5 : Hid (Below wo.heap.size wo w7) := StkI.grown A3.out rfl (HD.out.alloc HD.out.size _) hg3); go_must (have HQ5 : Hid (StkI w7 wo.heap.size (ys ++ ([g[j].op] ++ (g[j].kids.take (q + 1)).map (kidW xs))) v3) := by rw [HN.out]; exact hst3); go_must (obtain ⟨ad3, n3, cap3, rfl⟩ := hst3.form); clear hst3 hg3)
                go_roundw
                case rel => first | exact ⟨q + 1, by omega, by go_num, HQ5.out, HD5.out⟩ | ((repeat apply Exists.intro); exact ⟨⟨q + 1, by omega, by go_num, HQ5.out, HD5.out⟩, rfl⟩)
                case measure => simp [intOf]; omega
              · have hqe : q = g[j].kids.length := by omega
                have HNW : Hid (StkI wq wo.heap.size (wordsTo g (j + 1)) (.slice adq nq capq)) := by
                  have h := HQ.out
                  rw [hqe, List.take_length] at h
                  unfold Hid
                  rw [HN1.out]
                  exact h
                clear hst hb hqe
                go_wp2_with fail
                go_roundw
                case rel => first | exact ⟨j + 1, by omega, by go_num, HNW.out, HD.out⟩ | ((repeat apply Exists.intro); exact ⟨⟨j + 1, by omega, by go_num, HNW.out, HD.out⟩, rfl⟩)
                case measure => simp [intOf]; omega
        · have hje : j = g.length := by omega
          have HW : Hid (IntRow wp wo.heap.size (wordsG g) (.slice adp np capp)) := by
            have h := HT.out.row
            rw [hje, wordsTo_all] at h
            exact h
          have HS2 : Hid (IntRow wo w.heap.size (startsG g 0) (.slice ado xs.length capo)) := by
            rw [← HXG.out]
            exact HS1.out
          have HBZ : Hid (Below w.heap.size w wp) := HB.out.trans (hb.mono HB.out.size)
          clear hst hb hje
          go_wp2_with fail
          refine bodyPost_ret (v := .tuple #[.slice adp np capp, .slice ado xs.length capo, .bool true]) (by simp [results, Try.results12, go_sem]) rfl ?_
          rw [HV.out]
          exact ⟨_, _, rfl, two_rows HS2.out HC.out HW.out HB.out.size, HBZ.out⟩
        end Go.Proofs.Ytiipcgnkfhjpeaa
