/-
  THE PROGRAM's reachable AND CellsFrom: what can be reached.
-/
import Derived.Test.YticoegjackgldacSpecReach
import Derived.Test.YticoegjackgldacHasCell
namespace Go.Proofs.Yticoegjackgldac
set_option linter.unusedVariables false
set_option linter.unusedSimpArgs false
open Go.RowKit

set_option maxRecDepth 100000 in
set_option maxHeartbeats 3200000 in
theorem reachable_calls (g : List Ce) (r : Nat) (v : Value) (w : World) (fl : Nat → Bool) (hk : CIn w g v) (hg : graphB g 6 = true) (hr : r < g.length) (hfl : ∀ a, fl a = true ↔ Reach g r a) :
    Calls Try.prog 24 #[v, .int .i64 (r : Int)] w (NewMarks g.length fl w) := by
  have HK : Hid (CIn w g v) := hk
  obtain ⟨ad, cap, rfl, hl, hm, -⟩ := hk
  have HG : Hid (graphB g 6 = true) := hg
  have HFL : Hid (∀ a, fl a = true ↔ Reach g r a) := hfl
  have h400 : g.length ≤ 400 := graphB_len hg
  have hmk := make_bools g.length (by omega)
  obtain ⟨w1, hw1⟩ : ∃ w1 : World, w1 = w.alloc (.cells (madeCells #[.bool false] g.length) 4) := ⟨_, rfl⟩
  have hmk' : ∀ (w' : World), w' = w → (Instr.makeSlice 37 (.int .i64 (g.length : Int)) (.int .i64 (g.length : Int))).run Try.prog w' = .ok (.slice (some ⟨w.heap.size, 0, none⟩) g.length g.length) w1 := by
    intro w' e; subst e; rw [hw1]; exact hmk _
  have hmk2 := hmk' w rfl
  have hm0 : Marks w1 w.heap.size g.length (fun _ => false) := by rw [hw1]; exact no_marks w g.length
  have hz1 : w1.heap.size = w.heap.size + 1 := by rw [hw1]; exact Deep.nblk_alloc _ _
  have HZ1 : Hid (w1.heap.size = w.heap.size + 1) := hz1
  have cm := hm0.cell (i := r) hr
  have fm := hm0.frozen r
  have HM0 : Hid (Marks (w1.setCell ⟨w.heap.size, r, none⟩ (.bool true)) w.heap.size g.length (setF (fun _ => false) r)) := hm0.mark r
  have HB0 : Hid (Below w.heap.size w (w1.setCell ⟨w.heap.size, r, none⟩ (.bool true))) := by
    have h : Below w.heap.size w w1 := by rw [hw1]; exact box_below _ _
    exact h.setCell (Nat.le_refl _) _
  have HZ2 : Hid ((w1.setCell ⟨w.heap.size, r, none⟩ (.bool true)).heap.size = w.heap.size + 1) := by rw [Hid, size_setCell]; exact hz1
  clear hg hfl hl hm hmk hmk' hw1 hz1 hm0
  go_enter Try.func24, Try.ntmps24
  go_wp2_with fail
  go_loopg [6] (2 * g.length + 2) (fun k wk wr => ∃ (f : Nat → Bool) (ws : List Nat), Stk wr (w.heap.size + 1) ws wk ∧ Marks wr w.heap.size g.length f ∧ IInv g r f ws ∧ 2 * unset f g.length + ws.length < k ∧ 2 * unset f g.length + ws.length ≤ 2 * g.length + 1 ∧ Below w.heap.size w wr)
  case atStart =>
    have h0 := unset_le (setF (fun _ => false) r) g.length
    refine ⟨setF (fun _ => false) r, [r], ?_, ?_, IInv.start g r hr, ?_, ?_, ?_⟩
    · have h := Stk.one (w1.setCell ⟨w.heap.size, r, none⟩ (.bool true)) (w.heap.size + 1) r (by rw [HZ2.out]; exact Nat.le_refl _)
      first | exact h | (rw [HZ2.out] at h; exact h) | (simpa using h)
    · exact HM0.out.of_block (Deep.blk_alloc_lt _ _ _ (by rw [HZ2.out]; exact Nat.lt_succ_self _))
    · simp; omega
    · simp; omega
    · exact HB0.out.alloc HB0.out.size _
  case round =>
    obtain ⟨f, ws, hst, hmk3, hinv, hms, hwl, hb⟩ := hrel
    have HB : Hid (Below w.heap.size w wr) := hb
    have HMK : Hid (Marks wr w.heap.size g.length f) := hmk3
    have HS : Hid (Stk wr (w.heap.size + 1) ws _) := hst
    have HI : Hid (IInv g r f ws) := hinv
    by_cases h0 : ws.length = 0
    · obtain rfl : ws = [] := List.eq_nil_of_length_eq_zero h0
      obtain ⟨ad2, cap2, rfl⟩ := hst.len
      have HV : Hid (Marks wr w.heap.size g.length fl) := by
        have := marks_eq (f := f) (f' := fl) (g := g) (r := r) hinv.done HFL.out
        rw [← this]; exact HMK.out
      clear hst hmk3 hinv hb hmk2 cm fm
      go_wp2_with fail
      go_ret
      exact ⟨_, rfl, Nat.le_refl _, HV.out, HB.out⟩
    · obtain ⟨rest, a, rfl⟩ := split_last ws (by omega)
      obtain ⟨gb, capw, rfl, hgb, hgl, hcl, hcm, ct, hst2⟩ := hst.top
      have HS2 : Hid (Stk wr (w.heap.size + 1) rest (.slice (some ⟨gb, 0, none⟩) rest.length capw)) := hst2
      have ha := hinv.wk a (List.mem_append_right _ (by simp))
      have hal : a < g.length := (hinv.fl a ha).2
      have HP : Hid (MInv g r f rest a 0) := hinv.pop
      unfold maxLen at hcm
      simp only [List.length_append, List.length_cons, List.length_nil, Nat.zero_add] at hms hwl h0
      obtain ⟨bl, off, r2, rfl, c0w, c1w, c2w, -, -, hkk⟩ := HK.out.at a hal
      have hbl : bl < w.heap.size := cell_lt c0w
      have c2 := (hb.cell (p := ⟨bl, off + a * 3 + 2, none⟩) hbl).trans c2w
      obtain ⟨ad3, cap3, rfl, -, -, -⟩ := id hkk
      have HKK : Hid (IIn w g[a].kids (.slice ad3 g[a].kids.length cap3)) := hkk
      have hk3 : g[a].kids.length ≤ 3 := (kids_graph HG.out a hal).1
      have HKN : Hid ((kidsN g a).length = g[a].kids.length) := by rw [Hid, kidsN_at a hal]; simp
      clear hst hst2 hmk3 hinv hb ha c0w c1w c2w hkk hmk2 cm fm
      go_wp2_with fail
      clear c2 ct
      obtain ⟨wo, hwo⟩ : ∃ wo : World, wo = wr := ⟨_, rfl⟩
      go_loopw [6, 38] (fun wk j wr => ∃ (f2 : Nat → Bool) (ws2 : List Nat) (j2 : Nat), j2 ≤ g[a].kids.length ∧ j = .int .i64 j2 ∧ Stk wr (w.heap.size + 1) ws2 wk ∧ Marks wr w.heap.size g.length f2 ∧ MInv g r f2 ws2 a j2 ∧ 2 * unset f2 g.length + ws2.length ≤ 2 * unset f g.length + rest.length ∧ Below w.heap.size w wr) (fun _ j _ => g[a].kids.length - (intOf j).toNat)
      case atStart => exact ⟨f, rest, 0, Nat.zero_le _, rfl, HS2.out, HMK.out, HP.out, Nat.le_refl _, HB.out⟩
      case round =>
        obtain ⟨f2, ws2, j2, hj2, rfl, hst, hmk4, hinv, hsum, hb⟩ := hrel
        have HB2 : Hid (Below w.heap.size w wr) := hb
        have HMK2 : Hid (Marks wr w.heap.size g.length f2) := hmk4
        obtain ⟨adw, capw2, rfl⟩ := hst.len
        have HS4 : Hid (Stk wr (w.heap.size + 1) ws2 (.slice adw ws2.length capw2)) := hst
        have HI2 : Hid (MInv g r f2 ws2 a j2) := hinv
        clear hst hinv
        by_cases hlt : j2 < g[a].kids.length
        · obtain ⟨k, hk1, hk2, hk4⟩ := kidsN_get HG.out a hal j2 hlt
          obtain ⟨bl3, off3, rfl, d0w⟩ := HKK.out.at j2 hlt
          have d0 := (hb.cell (p := ⟨bl3, off3 + j2, none⟩) (cell_lt d0w)).trans d0w
          rw [hk1] at d0
          have HKA : Hid ((kidsN g a)[j2]? = some k) := hk4
          have cm := hmk4.cell (i := k) hk2
          have fm := hmk4.frozen k
          clear hk1 hk4 d0w hmk4 hb
          cases hf : f2 k with
          | true =>
            rw [hf] at cm
            have HI3 : Hid (MInv g r f2 ws2 a (j2 + 1)) := HI2.out.old HKA.out hf
            clear hf
            go_wp2_with fail
            go_roundw
            case rel => exact ⟨f2, ws2, j2 + 1, by omega, by go_num, HS4.out, HMK2.out, HI3.out, hsum, HB2.out⟩
            case measure => simp [intOf]; omega
          | false =>
            rw [hf] at cm
            have HI3 : Hid (MInv g r (setF f2 k) (ws2 ++ [k]) a (j2 + 1)) := HI2.out.new HKA.out hk2
            have hun := unset_set f2 k hf g.length hk2
            have hne : ∀ j, j ≠ w.heap.size → (wr.setCell ⟨w.heap.size, k, none⟩ (.bool true)).heap[j]? = wr.heap[j]? := fun j hk => Below.heap_setCell _ _ _ _ (fun e => hk e)
            have HZS : Hid ((wr.setCell ⟨w.heap.size, k, none⟩ (.bool true)).heap.size = wr.heap.size) := size_setCell _ _ _
            have hbs := HB2.out.size
            have hlt5 : w.heap.size < wr.heap.size := HMK2.out.lt
            have HLT5 : Hid (w.heap.size < wr.heap.size) := hlt5
            have HS5 : Hid (Stk ((wr.setCell ⟨w.heap.size, k, none⟩ (.bool true)).alloc (.cells #[.int .i64 (k : Int)] 3)) (w.heap.size + 1) ws2 (.slice adw ws2.length capw2)) := (HS4.out.keep fun j hk _ => hne j (by omega)).alloc _
            have HMK5 : Hid (Marks ((wr.setCell ⟨w.heap.size, k, none⟩ (.bool true)).alloc (.cells #[.int .i64 (k : Int)] 3)) w.heap.size g.length (setF f2 k)) := (HMK2.out.mark k).of_block (Deep.blk_alloc_lt _ _ _ (by rw [HZS.out]; exact hlt5))
            have HB5 : Hid (Below w.heap.size w ((wr.setCell ⟨w.heap.size, k, none⟩ (.bool true)).alloc (.cells #[.int .i64 (k : Int)] 3))) := (HB2.out.setCell (Nat.le_refl _) _).alloc (by rw [HZS.out]; exact hbs) _
            have HK5 : Hid (IIn ((wr.setCell ⟨w.heap.size, k, none⟩ (.bool true)).alloc (.cells #[.int .i64 (k : Int)] 3)) [(k : Int)] (.slice (some ⟨wr.heap.size, 0, none⟩) 1 1)) := by
              have h := one_in (wr.setCell ⟨w.heap.size, k, none⟩ (.bool true)) k
              rw [HZS.out] at h; exact h
            have HL5 : Hid (((wr.setCell ⟨w.heap.size, k, none⟩ (.bool true)).alloc (.cells #[.int .i64 (k : Int)] 3)).heap.size = wr.heap.size + 1) := by rw [Hid, Deep.nblk_alloc, HZS.out]
            have HOB : Hid (∀ j, (Value.slice adw ws2.length capw2).ownBlock = some j → w.heap.size + 1 ≤ j) := fun j hj => own_lo HS4.out hj.symm
            clear hf hne hbs hlt5
            go_wp2_with (at_builtin; go_must (refine wpList_push rfl _ _ rfl _ (w.heap.size + 1) ws2 [k] (.slice adw ws2.length capw2) (.slice (some ⟨wr.heap.size, 0, none⟩) 1 1) rfl HS5.out rfl HK5.out rfl (by rw [HL5.out]; have := HLT5.out; omega) (by simp; omega) ?_); go_must (intro v' w5 hst5 hg5); go_must (have HS6 : Hid (Stk w5 (w.heap.size + 1) (ws2 ++ [k]) v') := hst5); go_must (have hne5 : ∀ j, j < w.heap.size + 1 → w5.heap[j]? = ((wr.setCell ⟨w.heap.size, k, none⟩ (.bool true)).alloc (.cells #[.int .i64 (k : Int)] 3)).heap[j]? := fun j hj => hg5.block j (by rw [HL5.out]; have := HLT5.out; omega) (fun e => by have := HOB.out j e.symm; omega)); go_must (have HMK6 : Hid (Marks w5 w.heap.size g.length (setF f2 k)) := HMK5.out.of_block (hne5 _ (Nat.lt_succ_self _))); go_must (have HB6 : Hid (Below w.heap.size w w5) := by have hb3 := HB5.out; exact ⟨by rw [hg5.os]; exact hb3.os, by rw [hg5.tape]; exact hb3.tape, by rw [hg5.output]; exact hb3.output, Nat.le_trans hb3.size hg5.size, fun j hj => (hne5 j (by omega)).trans (hb3.block j hj)⟩); clear hst5 hg5 hne5 d0 cm fm)
            go_roundw
            case rel => first | exact ⟨setF f2 k, ws2 ++ [k], j2 + 1, by omega, by go_num, HS6.out, HMK6.out, HI3.out, by rw [List.length_append]; simp; omega, HB6.out⟩ | ((repeat apply Exists.intro); exact ⟨⟨setF f2 k, ws2 ++ [k], j2 + 1, by omega, by go_num, HS6.out, HMK6.out, HI3.out, by rw [List.length_append]; simp; omega, HB6.out⟩, rfl⟩)
            case measure => simp [intOf]; omega
        · have HD : Hid (IInv g r f2 ws2) := HI2.out.done (by rw [HKN.out]; omega)
          clear hmk4 hb
          go_wp2_with fail
          go_roundg (2 * unset f2 g.length + ws2.length + 1)
          case measure => omega
          case rel => exact ⟨f2, ws2, HS4.out, HMK2.out, HD.out, by omega, by omega, HB2.out⟩

set_option maxRecDepth 100000 in
set_option maxHeartbeats 1600000 in
theorem implFrom_calls (g : List Ce) (root : Int) (v : Value) (w : World) (fl : Nat → Bool) (hfl : ∀ a, fl a = true ↔ Reach g root.toNat a) (hk : CIn w g v) :
    Calls Try.prog 18 #[v, .int .i64 root] w (NewInts (fromB g root fl) w) := by
  have HK : Hid (CIn w g v) := hk
  have HFL : Hid (∀ a, fl a = true ↔ Reach g root.toNat a) := hfl
  obtain ⟨ad, cap, rfl, hl, hm, -⟩ := hk
  unfold maxLen at hm
  clear hfl
  go_enter Try.func18, Try.ntmps18
  go_wp2_with fail
  refine (hasCell_calls g root _ _ HK.out).mono ?_
  rintro e w1 ⟨rfl, hb1⟩
  have HB1 : Hid (Below w.heap.size w w1) := hb1
  clear hb1
  cases hh : (graphB g 6 && isAt g.length root) with
  | false =>
    have HV : Hid (fromB g root fl = []) := fromB_no (by rw [← Bool.and_eq_true, hh]; simp)
    clear hh
    go_wp2_with fail
    go_ret
    exact ⟨_, rfl, by rw [HV.out]; exact no_ints _ _ _ _ (by simp [maxLen]), HB1.out⟩
  | true =>
    rw [Bool.and_eq_true, isAt_iff] at hh
    have HG : Hid (graphB g 6 = true ∧ 0 ≤ root ∧ root < g.length) := hh
    clear hh
    obtain ⟨n, rfl⟩ : ∃ n : Nat, root = (n : Int) := ⟨root.toNat, by have := HG.out.2.1; omega⟩
    have hn : n < g.length := by have := HG.out.2.2; omega
    have h400 : g.length ≤ 400 := graphB_len HG.out.1
    have HV : Hid (fromB g (n : Int) fl = numsTo fl g.length) := fromB_yes ⟨HG.out.1, isAt_iff.2 HG.out.2⟩
    go_wp2_with fail
    refine (reachable_calls g n _ _ fl (HK.out.next HB1.out) HG.out.1 hn HFL.out).mono ?_
    rintro e w2 ⟨b, rfl, hbl, hmk, hb2⟩
    have HM : Hid (Marks w2 b g.length fl) := hmk
    have HBL : Hid (b < w2.heap.size) := hmk.lt
    have HB2 : Hid (Below w.heap.size w w2) := HB1.out.trans (hb2.mono HB1.out.size)
    clear hmk hb2
    go_wp2_with fail
    go_loopw [5, 16] (fun o i wr => ∃ k : Nat, k ≤ g.length ∧ i = .int .i64 k ∧ Stk wr w2.heap.size (numsN fl k) o ∧ Below w2.heap.size w2 wr) (fun _ i _ => g.length - (intOf i).toNat)
    case atStart => exact ⟨0, Nat.zero_le _, rfl, World.ownsRow_nil _ _ _ _, Below.refl _ _⟩
    case round =>
      obtain ⟨k, hk, rfl, hst, hb⟩ := hrel
      have HS : Hid (Stk wr w2.heap.size (numsN fl k) _) := hst
      have HB : Hid (Below w2.heap.size w2 wr) := hb
      have hnl := numsN_len fl k
      obtain ⟨ad, cap, rfl⟩ := hst.len
      have cm := (hb.cell (p := ⟨b, k, none⟩) HBL.out)
      clear hst hb
      by_cases hlt : k < g.length
      · have cm2 := cm.trans (HM.out.cell hlt)
        clear cm
        cases hf : fl k with
        | true =>
          rw [hf] at cm2
          have HN : Hid (numsN fl (k + 1) = numsN fl k ++ [k]) := numsN_yes hf
          have HS3 : Hid (Stk (wr.alloc (.cells #[.int .i64 (k : Int)] 3)) w2.heap.size (numsN fl k) (.slice ad (numsN fl k).length cap)) := HS.out.alloc _
          have HK3 : Hid (IIn (wr.alloc (.cells #[.int .i64 (k : Int)] 3)) [(k : Int)] (.slice (some ⟨wr.heap.size, 0, none⟩) 1 1)) := one_in wr k
          have HLO : Hid (w2.heap.size ≤ (wr.alloc (.cells #[.int .i64 (k : Int)] 3)).heap.size) := by rw [Hid, Deep.nblk_alloc]; have := HB.out.size; omega
          have HOB : Hid (∀ j, (Value.slice ad (numsN fl k).length cap).ownBlock = some j → w2.heap.size ≤ j) := fun j hj => own_lo HS.out hj.symm
          clear hf
          go_wp2_with (at_builtin; go_must (refine wpList_push rfl _ _ rfl _ w2.heap.size (numsN fl k) [k] (.slice ad (numsN fl k).length cap) (.slice (some ⟨wr.heap.size, 0, none⟩) 1 1) rfl HS3.out rfl HK3.out rfl HLO.out (by simp; omega) ?_); go_must (intro v' w5 hst5 hg5); go_must (have HS5 : Hid (Stk w5 w2.heap.size (numsN fl (k + 1)) v') := by rw [HN.out]; exact hst5); go_must (have HB5 : Hid (Below w2.heap.size w2 w5) := by have hb3 : Below w2.heap.size w2 (wr.alloc (.cells #[.int .i64 (k : Int)] 3)) := HB.out.alloc HB.out.size _; exact ⟨by rw [hg5.os]; exact hb3.os, by rw [hg5.tape]; exact hb3.tape, by rw [hg5.output]; exact hb3.output, Nat.le_trans hb3.size hg5.size, fun j hj => (hg5.block j (by have := hb3.size; omega) (fun e => by have := HOB.out j e.symm; omega)).trans (hb3.block j hj)⟩); clear hst5 hg5 cm2)
          go_roundw
          case rel => first | exact ⟨k + 1, by omega, by go_num, HS5.out, HB5.out⟩ | ((repeat apply Exists.intro); exact ⟨⟨k + 1, by omega, by go_num, HS5.out, HB5.out⟩, rfl⟩)
          case measure => simp [intOf]; omega
        | false =>
          rw [hf] at cm2
          have HN : Hid (numsN fl (k + 1) = numsN fl k) := numsN_no hf
          clear hf
          go_wp2_with fail
          go_roundw
          case rel => exact ⟨k + 1, by omega, by go_num, by rw [HN.out]; exact HS.out, HB.out⟩
          case measure => simp [intOf]; omega
      · have hke : k = g.length := by omega
        have HW : Hid (NewInts (fromB g (n : Int) fl) w (.returned (.slice ad (numsN fl k).length cap)) wr) := by
          rw [HV.out]
          subst hke; exact ⟨_, rfl, HS.out.row.keep HB2.out.size fun _ _ _ => rfl, HB2.out.trans (HB.out.mono HB2.out.size)⟩
        clear cm hke
        go_wp2_with fail
        go_ret
        exact HW.out
end Go.Proofs.Yticoegjackgldac
