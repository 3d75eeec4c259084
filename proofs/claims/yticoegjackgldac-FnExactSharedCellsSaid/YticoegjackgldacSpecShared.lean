/-
  THE MODEL's SharedCells.
-/
import Derived.Test.YticoegjackgldacSpecReach
import Derived.Test.YticoegjackgldacCounts
import Derived.IntWalk
namespace Go.Proofs.Yticoegjackgldac
set_option linter.unusedVariables false
set_option linter.unusedSimpArgs false
open Go.RowKit

set_option maxRecDepth 100000 in
set_option maxHeartbeats 3200000 in
theorem specShared_calls (g : List Ce) (root : Int) (v : Value) (w : World) (fl : Nat → Bool) (hfl : ∀ a, fl a = true ↔ Reach g root.toNat a) (hk : CIn w g v) :
    Calls Try.prog 5 #[v, .int .i64 root] w (NewInts (shareB g root fl) w) := by
  have HK : Hid (CIn w g v) := hk
  have HFL : Hid (∀ a, fl a = true ↔ Reach g root.toNat a) := hfl
  obtain ⟨ad, cap, rfl, hl, hm, -⟩ := hk
  unfold maxLen at hm
  clear hfl
  go_enter Try.func5, Try.ntmps5
  go_wp2_with fail
  refine (specGraph_calls g 6 _ _ HK.out).mono ?_
  rintro e w1 ⟨rfl, hb1⟩
  have HB1 : Hid (Below w.heap.size w w1) := hb1
  clear hb1
  cases hg : graphB g 6 with
  | false =>
    have HV : Hid (shareB g root fl = []) := shareB_no (by rw [hg]; simp)
    clear hg
    go_wp2_with fail
    go_ret
    exact ⟨_, rfl, by rw [HV.out]; exact no_ints _ _ _ _ (by simp [maxLen]), HB1.out.alloc HB1.out.size _⟩
  | true =>
    have HG : Hid (graphB g 6 = true) := hg
    clear hg
    by_cases h0 : root < 0
    · have HV : Hid (shareB g root fl = []) := shareB_no (by rw [isAt_lo h0]; simp)
      go_wp2_with fail
      go_ret
      exact ⟨_, rfl, by rw [HV.out]; exact no_ints _ _ _ _ (by simp [maxLen]), HB1.out.alloc HB1.out.size _⟩
    by_cases h1 : (g.length : Int) ≤ root
    · have HV : Hid (shareB g root fl = []) := shareB_no (by rw [isAt_hi (by omega)]; simp)
      go_wp2_with fail
      go_ret
      exact ⟨_, rfl, by rw [HV.out]; exact no_ints _ _ _ _ (by simp [maxLen]), HB1.out.alloc HB1.out.size _⟩
    obtain ⟨n, rfl⟩ : ∃ n : Nat, root = (n : Int) := ⟨root.toNat, by omega⟩
    have hn : n < g.length := by omega
    have h400 : g.length ≤ 400 := graphB_len HG.out
    have HV : Hid (shareB g (n : Int) fl = numsTo (manyF (useAt g (numsN fl g.length))) g.length) := shareB_yes ⟨HG.out, isAt_in (by omega) (by omega)⟩
    go_wp2_with fail
    refine (l3From_calls g n _ _ fl (HK.out.next HB1.out) HG.out hn HFL.out).mono ?_
    rintro e w2 ⟨b, rfl, hbl, hmk, hb2⟩
    have HM : Hid (Marks w2 b g.length fl) := hmk
    have hbl2 : b < w2.heap.size := hmk.lt
    have HBL : Hid (b < w2.heap.size) := hmk.lt
    have HB2 : Hid (Below w.heap.size w w2) := HB1.out.trans (hb2.mono HB1.out.size)
    have hmi := make_ints g.length (by omega)
    have HZ0 : Hid (Counts (w2.alloc (.cells (madeCells #[.int .i64 0] g.length) 3)) w2.heap.size g.length (fun _ => 0)) := zero_row w2 g.length
    clear hmk hb2
    go_wp2_with fail
    go_loopw [7] (fun i wr => ∃ j : Nat, j ≤ g.length ∧ i = .int .i64 j ∧ Counts wr w2.heap.size g.length (useAt g (numsN fl j)) ∧ Below w2.heap.size w2 wr) (fun i _ => g.length - (intOf i).toNat)
    case atStart => exact ⟨0, Nat.zero_le _, rfl, HZ0.out, (Below.refl _ _).alloc (Nat.le_refl _) _⟩
    case round =>
      obtain ⟨j, hj, rfl, hct, hb⟩ := hrel
      obtain ⟨wo, rfl⟩ : ∃ wo : World, wo = wr := ⟨_, rfl⟩
      have HC : Hid (Counts wo w2.heap.size g.length (useAt g (numsN fl j))) := hct
      have HB : Hid (Below w2.heap.size w2 wo) := hb
      by_cases hlt : j < g.length
      · obtain ⟨bl, off, r2, rfl, c0w, c1w, c2w, -, -, hkk⟩ := HK.out.at j hlt
        have hbl3 : bl < w.heap.size := cell_lt c0w
        obtain ⟨ad3, cap3, rfl, -, -, -⟩ := id hkk
        have HKK : Hid (IIn w g[j].kids (.slice ad3 g[j].kids.length cap3)) := hkk
        have hw2 : w.heap.size ≤ w2.heap.size := HB2.out.size
        have C2 : Hid (∀ wx, Below w2.heap.size w2 wx → wx.cell? ⟨bl, off + j * 3 + 2, none⟩ = some (.slice ad3 g[j].kids.length cap3)) := fun wx hx => (hx.cell (p := ⟨bl, off + j * 3 + 2, none⟩) (by show bl < _; omega)).trans ((HB2.out.cell (p := ⟨bl, off + j * 3 + 2, none⟩) hbl3).trans c2w)
        have CM : Hid (∀ wx, Below w2.heap.size w2 wx → wx.cell? ⟨b, j, none⟩ = some (.bool (fl j))) := fun wx hx => (hx.cell (p := ⟨b, j, none⟩) HBL.out).trans (HM.out.cell hlt)
        have hk3 : g[j].kids.length ≤ 3 := (kids_graph HG.out j hlt).1
        have HKN : Hid ((kidsN g j).length = g[j].kids.length) := by rw [Hid, kidsN_at j hlt]; simp
        clear c0w c1w c2w hkk hct hb hbl3 hw2
        cases hf : fl j with
        | false =>
          have HN : Hid (numsN fl (j + 1) = numsN fl j) := numsN_no hf
          have CM0 : Hid (∀ wx, Below w2.heap.size w2 wx → wx.cell? ⟨b, j, none⟩ = some (.bool false)) := by rw [← hf]; exact CM.out
          clear hf
          go_wp2_with fail
          go_loopw [8] (fun k wr => k = .int .i64 0 ∧ wr = wo) (fun _ _ => 0)
          case atStart => exact ⟨rfl, rfl⟩
          case round =>
            obtain ⟨rfl, rfl⟩ := hrel
            have c2 := C2.out _ HB.out
            have cm := CM0.out _ HB.out
            by_cases hnk : g[j].kids.length = 0
            · rw [hnk] at c2
              go_wp2_with fail
              go_roundw
              case rel => exact ⟨j + 1, by omega, by go_num, by rw [HN.out]; exact HC.out, HB.out⟩
              case measure => simp [intOf]; omega
            · have hnk2 : 0 < g[j].kids.length := by omega
              clear hnk
              go_wp2_with fail
              go_roundw
              case rel => exact ⟨j + 1, by omega, by go_num, by rw [HN.out]; exact HC.out, HB.out⟩
              case measure => simp [intOf]; omega
        | true =>
          have HN : Hid (numsN fl (j + 1) = numsN fl j ++ [j]) := numsN_yes hf
          have CM1 : Hid (∀ wx, Below w2.heap.size w2 wx → wx.cell? ⟨b, j, none⟩ = some (.bool true)) := by rw [← hf]; exact CM.out
          clear hf
          go_wp2_with fail
          go_loopw [8] (fun k wr => ∃ q : Nat, q ≤ g[j].kids.length ∧ k = .int .i64 q ∧ Counts wr w2.heap.size g.length (fun x => useAt g (numsN fl j) x + cntN ((kidsN g j).take q) x) ∧ Below w2.heap.size w2 wr) (fun k _ => g[j].kids.length - (intOf k).toNat)
          case atStart => exact ⟨0, Nat.zero_le _, rfl, by simpa [cntN_nil] using HC.out, HB.out⟩
          case round =>
            obtain ⟨q, hq, rfl, hct, hb⟩ := hrel
            have HC2 : Hid (Counts wr w2.heap.size g.length (fun x => useAt g (numsN fl j) x + cntN ((kidsN g j).take q) x)) := hct
            have HB2' : Hid (Below w2.heap.size w2 wr) := hb
            have c2 := C2.out _ hb
            have cm := CM1.out _ hb
            by_cases hqt : q < g[j].kids.length
            · obtain ⟨k, hk1, hk2, hk4⟩ := kidsN_get HG.out j hlt q hqt
              obtain ⟨bl3, off3, rfl, d0w⟩ := HKK.out.at q hqt
              have hb3 : bl3 < w.heap.size := cell_lt d0w
              have hw2 : w.heap.size ≤ w2.heap.size := HB2.out.size
              have d0 := (hb.cell (p := ⟨bl3, off3 + q, none⟩) (by show bl3 < _; omega)).trans ((HB2.out.cell (p := ⟨bl3, off3 + q, none⟩) hb3).trans d0w)
              rw [hk1] at d0
              have cn : wr.cell? ⟨w2.heap.size, k, none⟩ = some (.int .i64 ((useAt g (numsN fl j) k + cntN ((kidsN g j).take q) k : Nat) : Int)) := hct.cell (i := k) hk2
              have fn := hct.frozen k
              have hub : useAt g (numsN fl j) k + cntN ((kidsN g j).take q) k ≤ 1203 := by
                have h1 := useAt_le HG.out (numsN fl j) k fun a ha => by have := numsN_lt fl j a ha; omega
                have h2 := numsN_len fl j
                have h3 := cntN_le ((kidsN g j).take q) k
                have h4 : ((kidsN g j).take q).length ≤ 3 := by rw [List.length_take, HKN.out]; omega
                omega
              have HC3 : Hid (Counts (wr.setCell ⟨w2.heap.size, k, none⟩ (.int .i64 (((useAt g (numsN fl j) k + cntN ((kidsN g j).take q) k : Nat) : Int) + 1))) w2.heap.size g.length (fun x => useAt g (numsN fl j) x + cntN ((kidsN g j).take (q + 1)) x)) := by
                refine Counts.up hct k _ fun x => ?_
                rw [take_snoc hk4, cntN_append, cntN_one]
                omega
              have HB3 : Hid (Below w2.heap.size w2 (wr.setCell ⟨w2.heap.size, k, none⟩ (.int .i64 (((useAt g (numsN fl j) k + cntN ((kidsN g j).take q) k : Nat) : Int) + 1)))) := hb.setCell (Nat.le_refl _) _
              obtain ⟨u, hu⟩ : ∃ u : Nat, u = useAt g (numsN fl j) k + cntN ((kidsN g j).take q) k := ⟨_, rfl⟩
              rw [← hu] at cn hub HC3 HB3
              clear hk1 hk4 d0w hct hb hb3 hw2 hu
              go_wp2_with fail
              have hwr : IntKind.i64.wrap ((u : Int) + 1) = (u : Int) + 1 := by
                exact IntWalk.i64_in _ (by omega)
              go_region_with (fail)
              all_goals
                go_wp2_with fail
                go_roundw
                case rel => exact ⟨q + 1, by omega, by go_num, HC3.out.of_block rfl, HB3.out.drew⟩
                case measure => simp [intOf]; omega
            · have hqe : q = g[j].kids.length := by omega
              have HC4 : Hid (Counts wr w2.heap.size g.length (useAt g (numsN fl (j + 1)))) := by
                rw [HN.out]
                refine World.rowIs.congr HC2.out fun x _ => ?_
                rw [useAt_append, useAt_one, hqe, ← HKN.out, List.take_length]
              clear hct hb hqe
              go_wp2_with fail
              go_roundw
              case rel => exact ⟨j + 1, by omega, by go_num, HC4.out, HB2'.out⟩
              case measure => simp [intOf]; omega
      · have hje : j = g.length := by omega
        have HU : Hid (Counts wo w2.heap.size g.length (useAt g (numsN fl g.length))) := by have h := HC.out; rw [hje] at h; exact h
        have hmk := make_bools g.length (by omega)
        obtain ⟨w3, hw3⟩ : ∃ w3 : World, w3 = wo.alloc (.cells (madeCells #[.bool false] g.length) 4) := ⟨_, rfl⟩
        have HW3 : Hid (w3 = wo.alloc (.cells (madeCells #[.bool false] g.length) 4)) := hw3
        have HM3 : Hid (Marks w3 wo.heap.size g.length (fun _ => false)) := by rw [Hid, hw3]; exact no_marks wo g.length
        have HB3 : Hid (Below wo.heap.size wo w3) := by rw [Hid, hw3]; exact box_below _ _
        have HLC : Hid (w2.heap.size < wo.heap.size) := hct.lt
        clear hct hb hje hw3
        go_wp2_with fail
        rw [← HW3.out]
        go_loopw [10] (fun i wr => ∃ j : Nat, j ≤ g.length ∧ i = .int .i64 j ∧ Marks wr wo.heap.size g.length (fun x => decide (x < j) && manyF (useAt g (numsN fl g.length)) x) ∧ Below wo.heap.size wo wr) (fun i _ => g.length - (intOf i).toNat)
        case atStart => exact ⟨0, Nat.zero_le _, rfl, World.rowIs.congr HM3.out fun i _ => by simp, HB3.out⟩
        case round =>
          obtain ⟨j, hj, rfl, hmm, hb⟩ := hrel
          have HM4 : Hid (Marks wr wo.heap.size g.length (fun x => decide (x < j) && manyF (useAt g (numsN fl g.length)) x)) := hmm
          have HB4 : Hid (Below wo.heap.size wo wr) := hb
          by_cases hlt : j < g.length
          · have cu : wr.cell? ⟨w2.heap.size, j, none⟩ = some (.int .i64 ((useAt g (numsN fl g.length) j : Nat) : Int)) := (hb.cell (p := ⟨w2.heap.size, j, none⟩) HLC.out).trans (HU.out.cell hlt)
            have cm := hmm.cell (i := j) hlt
            have fm := hmm.frozen j
            have HM5 : Hid (Marks (wr.setCell ⟨wo.heap.size, j, none⟩ (.bool (decide ((1 : Int) < ((useAt g (numsN fl g.length) j : Nat) : Int))))) wo.heap.size g.length (fun x => decide (x < j + 1) && manyF (useAt g (numsN fl g.length)) x)) := by
              refine World.rowIs.congr (hmm.set j _) fun x _ => ?_
              by_cases e : x = j
              · subst e; simp [manyF]; omega
              · have : decide (x < j + 1) = decide (x < j) := decide_eq_decide.2 (by omega)
                simp [e, this]
            have HB5 : Hid (Below wo.heap.size wo (wr.setCell ⟨wo.heap.size, j, none⟩ (.bool (decide ((1 : Int) < ((useAt g (numsN fl g.length) j : Nat) : Int)))))) := hb.setCell (Nat.le_refl _) _
            clear hmm hb
            go_wp2_with fail
            go_roundw
            case rel => exact ⟨j + 1, by omega, by go_num, HM5.out, HB5.out⟩
            case measure => simp [intOf]; omega
          · have hje : j = g.length := by omega
            have HM6 : Hid (Marks wr wo.heap.size g.length (fun x => decide (x < g.length) && manyF (useAt g (numsN fl g.length)) x)) := by have h := HM4.out; rw [hje] at h; exact h
            have HBW : Hid (Below w.heap.size w wr) := HB2.out.trans ((HB.out.trans (HB4.out.mono HB.out.size)).mono HB2.out.size)
            clear hmm hb hje
            go_wp2_with fail
            refine (l3Numbers_calls g.length _ _ _ HM6.out (graphB_len HG.out)).mono ?_
            rintro e w5 ⟨v5, rfl, hi5, hb5⟩
            have HI : Hid (IntRow w5 w.heap.size (numsTo (manyF (useAt g (numsN fl g.length))) g.length) v5) := by
              have e : numsTo (fun x => decide (x < g.length) && manyF (useAt g (numsN fl g.length)) x) g.length = numsTo (manyF (useAt g (numsN fl g.length))) g.length := by
                unfold numsTo
                rw [numsN_congr (f := fun x => decide (x < g.length) && manyF (useAt g (numsN fl g.length)) x) (f' := manyF (useAt g (numsN fl g.length))) g.length (fun a ha => by simp [ha])]
              rw [e] at hi5
              exact hi5.keep HBW.out.size fun _ _ _ => rfl
            have HB6 : Hid (Below w.heap.size w w5) := HBW.out.trans (hb5.mono HBW.out.size)
            clear hi5 hb5
            go_wp2_with fail
            go_ret
            exact ⟨_, rfl, by rw [HV.out]; exact HI.out, HB6.out⟩
end Go.Proofs.Yticoegjackgldac
