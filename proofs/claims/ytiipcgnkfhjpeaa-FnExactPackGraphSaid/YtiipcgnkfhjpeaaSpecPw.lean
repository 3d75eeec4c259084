/-
  THE MODEL's l7Length, l7Pack, PackGraph.
-/
import Derived.Test.YtiipcgnkfhjpeaaWordT
import Derived.Test.YtiipcgnkfhjpeaaStkI
import Derived.Test.YtiipcgnkfhjpeaaSpecOwn
import Derived.Test.YtiipcgnkfhjpeaaSpecGraph
import Derived.IntWalk
namespace Go.Proofs.Ytiipcgnkfhjpeaa
set_option linter.unusedVariables false
set_option linter.unusedSimpArgs false
open Go.RowKit


theorem l7Length_calls (op : Int) (w : World) : Calls Try.prog 59 #[.int .i64 op] w fun e w' => e = .returned (.int .i64 (wLen op : Int)) ∧ w = w' := by
  by_cases h11 : op = 11
  · subst h11
    go_enter Try.func59, Try.ntmps59
    go_wp2_with fail
    go_ret
    exact ⟨rfl, rfl⟩
  obtain ⟨k, hk⟩ : ∃ k, k = arity op := ⟨_, rfl⟩
  obtain ⟨n, hn⟩ : ∃ n : Int, n = (wLen op : Int) := ⟨_, rfl⟩
  have hkn : (op = 1 → n = 0) ∧ (k < 0 → n = 0) ∧ (op ≠ 1 → k = 0 → n = 2) ∧ (op ≠ 1 → 0 < k → n = k + 1) ∧ k ≤ 3 := by
    rw [hk, hn]
    unfold arity wLen
    clear hk hn
    repeat' split
    all_goals omega
  obtain ⟨n1, n2, n3, n4, n5⟩ := hkn
  have HK := mkHid hk
  rw [← hn]
  have h11' : (op == 11) = false := by simpa using h11
  clear h11
  go_enter Try.func59, Try.ntmps59
  go_wp2_with fail
  refine (l1Kids_calls op w).mono ?_
  rintro e w1 ⟨rfl, rfl⟩
  rw [← HK.out]
  clear hk hn
  by_cases h1 : op = 1
  · obtain rfl := n1 h1
    have h1' : (op == 1) = true := by simpa using h1
    clear h1 n2 n3 n4 n1
    go_wp2_with fail
    go_ret
    exact ⟨rfl, rfl⟩
  have h1' : (op == 1) = false := by simpa using h1
  replace n3 := n3 h1
  replace n4 := n4 h1
  by_cases hk0 : k < 0
  · obtain rfl := n2 hk0
    clear n1 n2 n3 n4
    go_wp2_with fail
    go_ret
    exact ⟨rfl, rfl⟩
  by_cases hk1 : k = 0
  · obtain rfl := n3 hk1
    have hk1' : (k == 0) = true := by simpa using hk1
    clear n1 n2 n3 n4 hk1
    go_wp2_with fail
    go_ret
    exact ⟨rfl, rfl⟩
  have hk1' : (k == 0) = false := by simpa using hk1
  obtain rfl := n4 (by omega)
  clear n1 n2 n3 n4 hk1
  go_wp2_with fail
  go_ret
  exact ⟨rfl, rfl⟩

/-- two lists of numbers in new memory -/
def NewTwo (xs ys : List Int) (w : World) (e : Ending) (w' : World) : Prop := ∃ t s, e = .returned (.tuple #[t, s]) ∧ IntRow w' w.heap.size xs t ∧ IntRow w' w.heap.size ys s ∧ Below w.heap.size w w'

set_option maxRecDepth 100000 in
set_option maxHeartbeats 1600000 in
theorem l7Pack_calls (g : List Ce) (v : Value) (w : World) (hk : CIn w g v) (hg : graphB g 6 = true) :
    Calls Try.prog 35 #[v] w (NewTwo (wordsG g) (startsG g 0) w) := by
  have HK := mkHid hk
  have HG := mkHid hg
  have hlen := graphB_len hg
  have HKB : Hid (∀ c ∈ g, c.kids.length ≤ 3) := fun c hc => by
    obtain ⟨j, hj, rfl⟩ := List.getElem_of_mem hc
    exact (graph_cell HG.out j hj).2.2.2.2
  obtain ⟨ad, cap, rfl, hl, hm, -⟩ := hk
  unfold maxLen at hm
  clear hg
  go_enter Try.func35, Try.ntmps35
  go_wp2_with fail
  go_loopw [4, 5, 6] (fun o a i wr => ∃ j : Nat, j ≤ g.length ∧ i = .int .i64 j ∧ a = .int .i64 (endG (g.take j) : Nat) ∧ StkI wr w.heap.size (startsG (g.take j) 0) o ∧ Below w.heap.size w wr) (fun _ _ i _ => g.length - (intOf i).toNat)
  case atStart => exact ⟨0, Nat.zero_le _, rfl, rfl, StkI.nil _ _ (Nat.le_refl _), box_below _ _⟩
  case round =>
    obtain ⟨j, hj, rfl, rfl, hst, hb⟩ := hrel
    obtain ⟨wo, rfl⟩ : ∃ wo : World, wo = wr := ⟨_, rfl⟩
    obtain ⟨ado, capo, rfl⟩ := hst.len
    have HS := mkHid hst
    have HB := mkHid hb
    have HSL : Hid ((startsG (g.take j) 0).length ≤ 400) := by rw [Hid, startsG_length, List.length_take]; omega
    obtain ⟨xs, hxs⟩ : ∃ xs, xs = startsG (g.take j) 0 := ⟨_, rfl⟩
    have HXS := mkHid hxs
    rw [← hxs] at HS HSL
    obtain ⟨p, hp⟩ : ∃ p : Nat, p = endG (g.take j) := ⟨_, rfl⟩
    have hpb : p ≤ 4 * g.length := by rw [hp]; exact endG_take_le g j
    have HP := mkHid hp
    rw [← hp, ← hxs]
    by_cases hlt : j < g.length
    · skip
      have HN : Hid (startsG (g.take (j + 1)) 0 = xs ++ [(p : Int)]) := by rw [Hid, startsG_snoc hlt, ← HXS.out, ← HP.out]
      have HE : Hid (endG (g.take (j + 1)) = p + wLen g[j].op) := by rw [Hid, endG_snoc hlt, ← HP.out]
      obtain ⟨bl, off, r2, rfl, c0w, c1w, c2w, -, -, hkk⟩ := HK.out.at j hlt
      have C0 : Hid (∀ wx, Below w.heap.size w wx → wx.cell? ⟨bl, off + j * 3, none⟩ = some (.int .i64 g[j].op)) := fun wx hx => (hx.cell (p := ⟨bl, off + j * 3, none⟩) (cell_lt c0w)).trans c0w
      have hwl := wLen_le g[j].op
      clear c0w c1w c2w hkk hst hb hxs hp
      have A1 : Hid (StkI (wo.alloc (.cells #[.int .i64 (p : Int)] 3)) w.heap.size (xs) (.slice ado xs.length capo)) := StkI.alloc HS.out _
      have K1 : Hid (IIn (wo.alloc (.cells #[.int .i64 (p : Int)] 3)) [(p : Int)] (.slice (some ⟨wo.heap.size, 0, none⟩) 1 1)) := oneI_in wo (p : Int)
      have L1 : Hid (w.heap.size ≤ (wo.alloc (.cells #[.int .i64 (p : Int)] 3)).heap.size) := by rw [Hid, Deep.nblk_alloc]; have := HB.out.size; omega
      go_wp2_with (have tk := A1; clear tk; at_builtin; go_must (refine wpList_pushI rfl _ _ rfl _ w.heap.size (xs) [(p : Int)] (.slice ado xs.length capo) (.slice (some ⟨wo.heap.size, 0, none⟩) 1 1) rfl A1.out rfl K1.out L1.out (by have := HSL.out; simp; omega) ?_); go_must (intro v1 w5 hst1 hg1); go_must (have HB5 : Hid (Below w.heap.size w w5) := StkI.grown A1.out rfl (HB.out.alloc HB.out.size _) hg1); go_must (have HS5 : Hid (StkI w5 w.heap.size (startsG (g.take (j + 1)) 0) v1) := by rw [HN.out]; exact hst1); go_must (obtain ⟨ad1, n1, cap1, rfl⟩ := hst1.form); go_must (have c0 := C0.out w5 HB5.out); clear hst1 hg1)
      refine (l7Length_calls g[j].op w5).mono ?_
      rintro e w6 ⟨rfl, rfl⟩
      obtain ⟨n, hn⟩ : ∃ n : Nat, n = wLen g[j].op := ⟨_, rfl⟩
      rw [← hn] at hwl HE ⊢
      clear hn
      clear c0
      go_wp2_with fail
      go_roundw
      case rel => exact ⟨j + 1, by omega, by go_num, by rw [HE.out]; go_num, HS5.out, HB5.out⟩
      case measure => simp [intOf]; omega
    · have hje : j = g.length := by omega
      have HXG : Hid (xs = startsG g 0) := by rw [Hid, HXS.out, hje, List.take_length]
      have HS1 : Hid (IntRow wo w.heap.size xs (.slice ado xs.length capo)) := HS.out.row
      have HXL : Hid (xs.length = g.length) := by rw [HXG.out, Hid, startsG_length]
      clear hst hb hje hp hxs hpb
      go_wp2_with fail
      go_loopw [7, 8] (fun o i wr => ∃ j : Nat, j ≤ g.length ∧ i = .int .i64 j ∧ StkI wr wo.heap.size (wordsTo g j) o ∧ Below wo.heap.size wo wr) (fun _ i _ => g.length - (intOf i).toNat)
      case atStart => exact ⟨0, Nat.zero_le _, rfl, by rw [wordsTo_zero]; exact StkI.nil _ _ (Nat.le_refl _), box_below _ _⟩
      case round =>
        obtain ⟨j, hj, rfl, hst, hb⟩ := hrel
        obtain ⟨wp, rfl⟩ : ∃ wp : World, wp = wr := ⟨_, rfl⟩
        obtain ⟨adp, np, capp, rfl⟩ := hst.form
        have HT := mkHid hst
        have HC := mkHid hb
        have HTL : Hid ((wordsTo g j).length ≤ 2000) := by have := wordsTo_len HKB.out j; unfold Hid; omega
        by_cases hlt : j < g.length
        · obtain ⟨ys, hys⟩ : ∃ ys, ys = wordsTo g j := ⟨_, rfl⟩
          have HYS := mkHid hys
          rw [← hys] at HT HTL
          obtain ⟨bl, off, r2, rfl, c0w, c1w, c2w, -, -, hkk⟩ := HK.out.at j hlt
          have HBW : Hid (∀ wx, Below wo.heap.size wo wx → Below w.heap.size w wx) := fun wx hx => HB.out.trans (hx.mono HB.out.size)
          obtain ⟨adk, capk, rfl, -, -, -⟩ := id hkk
          have HKK : Hid (IIn w g[j].kids (.slice adk g[j].kids.length capk)) := hkk
          have C0 : Hid (∀ wx, Below wo.heap.size wo wx → wx.cell? ⟨bl, off + j * 3, none⟩ = some (.int .i64 g[j].op)) := fun wx hx => ((HBW.out wx hx).cell (p := ⟨bl, off + j * 3, none⟩) (cell_lt c0w)).trans c0w
          have C1 : Hid (∀ wx, Below wo.heap.size wo wx → wx.cell? ⟨bl, off + j * 3 + 1, none⟩ = some (.int .i64 g[j].num)) := fun wx hx => ((HBW.out wx hx).cell (p := ⟨bl, off + j * 3 + 1, none⟩) (cell_lt c1w)).trans c1w
          have C2 : Hid (∀ wx, Below wo.heap.size wo wx → wx.cell? ⟨bl, off + j * 3 + 2, none⟩ = some (.slice adk g[j].kids.length capk)) := fun wx hx => ((HBW.out wx hx).cell (p := ⟨bl, off + j * 3 + 2, none⟩) (cell_lt c2w)).trans c2w
          have c0 := C0.out wp hb
          have HLB : Hid (bl < wp.heap.size) := cell_lt c0
          have hk3 : g[j].kids.length ≤ 3 := (graph_cell HG.out j hlt).2.2.2.2
          have d0 := old_cell c0 (.cells #[.int .i64 g[j].op] 3)
          clear c0w c1w c2w hkk hst hb hys
          have A1 : Hid (StkI (wp.alloc (.cells #[.int .i64 g[j].op] 3)) wo.heap.size (ys) (.slice adp np capp)) := StkI.alloc HT.out _
          have K1 : Hid (IIn (wp.alloc (.cells #[.int .i64 g[j].op] 3)) [g[j].op] (.slice (some ⟨wp.heap.size, 0, none⟩) 1 1)) := oneI_in wp g[j].op
          have L1 : Hid (wo.heap.size ≤ (wp.alloc (.cells #[.int .i64 g[j].op] 3)).heap.size) := by rw [Hid, Deep.nblk_alloc]; have := HC.out.size; omega
          by_cases hnil : g[j].kids.length = 0
          · go_wp2_with (first | (have tk := A2; clear tk; at_builtin; go_must (refine wpList_pushI rfl _ _ rfl _ wo.heap.size (ys ++ [g[j].op]) [g[j].num] (.slice ad1 n1 cap1) (.slice (some ⟨w5.heap.size, 0, none⟩) 1 1) rfl A2.out rfl K2.out L2.out (by have := HTL.out; simp; omega) ?_); go_must (intro v2 w6 hst2 hg2); go_must (have HC6 : Hid (Below wo.heap.size wo w6) := StkI.grown A2.out rfl (HC5.out.alloc HC5.out.size _) hg2); go_must (have HT6 : Hid (StkI w6 wo.heap.size (ys ++ [g[j].op] ++ [g[j].num]) v2) := by exact hst2); go_must (obtain ⟨ad2, n2, cap2, rfl⟩ := hst2.form); clear hst2 hg2) | (have tk := A1; clear tk; at_builtin; go_must (refine wpList_pushI rfl _ _ rfl _ wo.heap.size (ys) [g[j].op] (.slice adp np capp) (.slice (some ⟨wp.heap.size, 0, none⟩) 1 1) rfl A1.out rfl K1.out L1.out (by have := HTL.out; simp; omega) ?_); go_must (intro v1 w5 hst1 hg1); go_must (have HC5 : Hid (Below wo.heap.size wo w5) := StkI.grown A1.out rfl (HC.out.alloc HC.out.size _) hg1); go_must (have HT5 : Hid (StkI w5 wo.heap.size (ys ++ [g[j].op]) v1) := by exact hst1); go_must (obtain ⟨ad1, n1, cap1, rfl⟩ := hst1.form); go_must (have c1 := C1.out w5 HC5.out); go_must (have c2 := C2.out w5 HC5.out); go_must (rw [hnil] at c2); go_must (have HLB5 : Hid (bl < w5.heap.size) := cell_lt c1); go_must (have d1 := old_cell c1 (.cells #[.int .i64 g[j].num] 3)); go_must (have A2 : Hid (StkI (w5.alloc (.cells #[.int .i64 g[j].num] 3)) wo.heap.size (ys ++ [g[j].op]) (.slice ad1 n1 cap1)) := StkI.alloc HT5.out _); go_must (have K2 : Hid (IIn (w5.alloc (.cells #[.int .i64 g[j].num] 3)) [g[j].num] (.slice (some ⟨w5.heap.size, 0, none⟩) 1 1)) := oneI_in w5 g[j].num); go_must (have L2 : Hid (wo.heap.size ≤ (w5.alloc (.cells #[.int .i64 g[j].num] 3)).heap.size) := by rw [Hid, Deep.nblk_alloc]; have := HC5.out.size; omega); clear hst1 hg1))
            have HN1 : Hid (wordsTo g (j + 1) = ys ++ [g[j].op] ++ [g[j].num]) := by
              have hn : g[j].kids = [] := List.length_eq_zero_iff.1 hnil
              rw [Hid, wordsTo_snoc hlt, ← HYS.out, wordsC, if_pos hn, hn]
              simp
            have C3 : Hid (∀ wx, Below wo.heap.size wo wx → wx.cell? ⟨bl, off + j * 3 + 2, none⟩ = some (.slice adk 0 capk)) := by rw [← hnil]; exact C2.out
            clear hnil c2
            go_loopw [7, 9] (fun o i wr => i = .int .i64 0 ∧ StkI wr wo.heap.size (ys ++ [g[j].op] ++ [g[j].num]) o ∧ Below wo.heap.size wo wr) (fun _ i _ => 0)
            case atStart => exact ⟨rfl, HT6.out, HC6.out⟩
            case round =>
              obtain ⟨rfl, hst, hb⟩ := hrel
              obtain ⟨adq, nq, capq, rfl⟩ := hst.form
              have HQ := mkHid hst
              have HD := mkHid hb
              have c2 := C3.out _ hb
              clear hst hb
              go_wp2_with fail
              go_roundw
              case rel => first | exact ⟨j + 1, by omega, by go_num, by rw [HN1.out]; exact HQ.out, HD.out⟩ | ((repeat apply Exists.intro); exact ⟨⟨j + 1, by omega, by go_num, by rw [HN1.out]; exact HQ.out, HD.out⟩, rfl⟩)
              case measure => simp [intOf]; omega
          · have hnil' : ((g[j].kids.length : Int) == 0) = false := by simpa using hnil
            go_wp2_with (have tk := A1; clear tk; at_builtin; go_must (refine wpList_pushI rfl _ _ rfl _ wo.heap.size (ys) [g[j].op] (.slice adp np capp) (.slice (some ⟨wp.heap.size, 0, none⟩) 1 1) rfl A1.out rfl K1.out L1.out (by have := HTL.out; simp; omega) ?_); go_must (intro v1 w5 hst1 hg1); go_must (have HC5 : Hid (Below wo.heap.size wo w5) := StkI.grown A1.out rfl (HC.out.alloc HC.out.size _) hg1); go_must (have HT5 : Hid (StkI w5 wo.heap.size (ys ++ [g[j].op]) v1) := by exact hst1); go_must (obtain ⟨ad1, n1, cap1, rfl⟩ := hst1.form); go_must (have c2 := C2.out w5 HC5.out); clear hst1 hg1)
            clear c2
            go_loopw [7, 9] (fun o i wr => ∃ q : Nat, q ≤ g[j].kids.length ∧ i = .int .i64 q ∧ StkI wr wo.heap.size (ys ++ ([g[j].op] ++ (g[j].kids.take q).map (kidW xs))) o ∧ Below wo.heap.size wo wr) (fun _ i _ => g[j].kids.length - (intOf i).toNat)
            case atStart => exact ⟨0, Nat.zero_le _, rfl, by simpa using HT5.out, HC5.out⟩
            case round =>
              obtain ⟨q, hq, rfl, hst, hb⟩ := hrel
              obtain ⟨wq, rfl⟩ : ∃ wq : World, wq = wr := ⟨_, rfl⟩
              obtain ⟨adq, nq, capq, rfl⟩ := hst.form
              have HQ := mkHid hst
              have HD := mkHid hb
              have c2 := C2.out wq hb
              by_cases hqt : q < g[j].kids.length
              · obtain ⟨kk, hk1, hk2⟩ := graph_kid HG.out j hlt q hqt
                obtain ⟨bl3, off3, rfl, d0w⟩ := HKK.out.at q hqt
                rw [hk1] at d0w
                have d1 := ((HBW.out wq hb).cell (p := ⟨bl3, off3 + q, none⟩) (cell_lt d0w)).trans d0w
                have hkx : kk < xs.length := by rw [HXL.out]; exact hk2
                obtain ⟨bl4, off4, rfl, d4w⟩ := HS1.out.inn.at kk hkx
                have d2 := (hb.cell (p := ⟨bl4, off4 + kk, none⟩) (cell_lt d4w)).trans d4w
                obtain ⟨zs, hzs⟩ : ∃ zs, zs = ys ++ ([g[j].op] ++ (g[j].kids.take q).map (kidW xs)) := ⟨_, rfl⟩
                have HN : Hid (ys ++ ([g[j].op] ++ (g[j].kids.take (q + 1)).map (kidW xs)) = zs ++ [xs[kk]]) := by
                  rw [Hid, hzs, List.take_succ_eq_append_getElem hqt, List.map_append, List.map_cons, List.map_nil, hk1, kidW_at hkx]
                  simp
                have HZL : Hid (zs.length ≤ 2100) := by rw [hzs, Hid]; have := HTL.out; simp; omega
                rw [← hzs] at HQ
                clear hk1 d0w d4w hst hb hzs
                have A3 : Hid (StkI (wq.alloc (.cells #[.int .i64 xs[kk]] 3)) wo.heap.size (zs) (.slice adq nq capq)) := StkI.alloc HQ.out _
                have K3 : Hid (IIn (wq.alloc (.cells #[.int .i64 xs[kk]] 3)) [xs[kk]] (.slice (some ⟨wq.heap.size, 0, none⟩) 1 1)) := oneI_in wq xs[kk]
                have L3 : Hid (wo.heap.size ≤ (wq.alloc (.cells #[.int .i64 xs[kk]] 3)).heap.size) := by rw [Hid, Deep.nblk_alloc]; have := HD.out.size; omega
                go_wp2_with (have tk := A3; clear tk; at_builtin; go_must (refine wpList_pushI rfl _ _ rfl _ wo.heap.size (zs) [xs[kk]] (.slice adq nq capq) (.slice (some ⟨wq.heap.size, 0, none⟩) 1 1) rfl A3.out rfl K3.out L3.out (by have := HZL.out; simp; omega) ?_); go_must (intro v3 w7 hst3 hg3); go_must (have HD5 : Hid (Below wo.heap.size wo w7) := StkI.grown A3.out rfl (HD.out.alloc HD.out.size _) hg3); go_must (have HQ5 : Hid (StkI w7 wo.heap.size (ys ++ ([g[j].op] ++ (g[j].kids.take (q + 1)).map (kidW xs))) v3) := by rw [HN.out]; exact hst3); go_must (obtain ⟨ad3, n3, cap3, rfl⟩ := hst3.form); clear hst3 hg3)
                go_roundw
                case rel => exact ⟨q + 1, by omega, by go_num, HQ5.out, HD5.out⟩
                case measure => simp [intOf]; omega
              · have hqe : q = g[j].kids.length := by omega
                have HNW : Hid (StkI wq wo.heap.size (wordsTo g (j + 1)) (.slice adq nq capq)) := by
                  unfold Hid
                  have h := HQ.out
                  rw [hqe, List.take_length] at h
                  rw [wordsTo_snoc hlt, ← HYS.out, wordsC, ← HXG.out]
                  have hn : ¬ g[j].kids = [] := fun h => hnil (by rw [h]; rfl)
                  rw [if_neg hn]
                  simpa using h
                clear hst hb hqe
                go_wp2_with fail
                go_roundw
                case rel => first | exact ⟨j + 1, by omega, by go_num, HNW.out, HD.out⟩ | ((repeat apply Exists.intro); exact ⟨⟨j + 1, by omega, by go_num, HNW.out, HD.out⟩, rfl⟩)
                case measure => simp [intOf]; omega
        · have hje : j = g.length := by omega
          have HW : Hid (IntRow wp w.heap.size (wordsG g) (.slice adp np capp)) := by
            have h := HT.out.row
            rw [hje, wordsTo_all] at h
            exact h.keep HB.out.size fun _ _ _ => rfl
          have HS2 : Hid (IntRow wp w.heap.size (startsG g 0) (.slice ado xs.length capo)) := by
            rw [← HXG.out]
            exact (HS1.out.keep (Nat.le_refl _) fun k _ hk => hb.block k hk)
          have HBZ : Hid (Below w.heap.size w wp) := HB.out.trans (hb.mono HB.out.size)
          clear hst hb hje
          go_wp2_with fail
          refine bodyPost_ret (v := .tuple #[.slice adp np capp, .slice ado xs.length capo]) (by simp [results, Try.results35, go_sem]) rfl ?_
          exact ⟨_, _, rfl, HW.out, HS2.out, HBZ.out⟩

/-- the answer of PackGraph -/
def NewPack (r : List Int × List Int × Bool) (w : World) (e : Ending) (w' : World) : Prop := ∃ t s, e = .returned (.tuple #[t, s, .bool r.2.2]) ∧ IntRow w' w.heap.size r.1 t ∧ IntRow w' w.heap.size r.2.1 s ∧ Below w.heap.size w w'

set_option maxHeartbeats 400000 in
theorem specPack_calls (g : List Ce) (v : Value) (w : World) (hk : CIn w g v) :
    Calls Try.prog 10 #[v] w (NewPack (packO g) w) := by
  have HK := mkHid hk
  obtain ⟨ad, cap, rfl, -, -, -⟩ := hk
  go_enter Try.func10, Try.ntmps10
  go_wp2_with fail
  refine (specGraph_calls g 6 _ _ HK.out).mono ?_
  rintro e w1 ⟨rfl, hb1⟩
  have HB1 := mkHid hb1
  clear hb1
  cases hg : graphB g 6 with
  | false =>
    have HV := mkHid (packO_no hg)
    clear hg
    go_wp2_with fail
    refine bodyPost_ret (v := .tuple #[.slice (some ⟨w1.heap.size, 0, none⟩) 0 0, .slice (some ⟨w1.heap.size + 1, 0, none⟩) 0 0, .bool false]) (by simp [results, Try.results10, go_sem]) rfl ?_
    rw [HV.out]
    exact ⟨_, _, rfl, no_ints _ _ _ _ (by simp [maxLen]), no_ints _ _ _ _ (by simp [maxLen]), (HB1.out.alloc HB1.out.size _).alloc (by rw [Deep.nblk_alloc]; have := HB1.out.size; omega) _⟩
  | true =>
    have HV := mkHid (packO_yes hg)
    have HG := mkHid hg
    clear hg
    go_wp2_with fail
    refine (l7Pack_calls g _ w1 (HK.out.next HB1.out) HG.out).mono ?_
    rintro e w2 ⟨t, s, rfl, ht, hs, hb2⟩
    have H2 := mkHid (And.intro ht (And.intro hs hb2))
    clear ht hs hb2
    go_wp2_with fail
    refine bodyPost_ret (v := .tuple #[t, s, .bool true]) (by simp [results, Try.results10, go_sem]) rfl ?_
    rw [HV.out]
    exact ⟨_, _, rfl, H2.out.1.keep HB1.out.size fun _ _ _ => rfl, H2.out.2.1.keep HB1.out.size fun _ _ _ => rfl, HB1.out.trans (H2.out.2.2.mono HB1.out.size)⟩
end Go.Proofs.Ytiipcgnkfhjpeaa
