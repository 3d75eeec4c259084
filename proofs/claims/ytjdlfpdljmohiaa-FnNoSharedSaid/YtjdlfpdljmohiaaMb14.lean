/-
  THE PROGRAM's reachable AND CellsFrom: what can be reached.
-/
import Derived.Test.YtjdlfpdljmohiaaMb13
import Derived.Test.YtjdlfpdljmohiaaMb9
import Derived.Test.YtjdlfpdljmohiaaMb3
import Derived.Test.YtjdlfpdljmohiaaMb1
import Derived.Deep.LoopGhost
import Derived.Deep.QuietTactic
import Derived.BigQuiet
import Derived.WalkSmall
import Derived.Test.YtjdlfpdljmohiaaMb7
import Derived.OpenShut
namespace Go.Proofs.Ytjdlfpdljmohiaa
set_option linter.unusedVariables false
set_option linter.unusedSimpArgs false
open Go.RowKit

set_option maxRecDepth 100000 in
set_option maxHeartbeats 3200000 in
theorem reachable_calls (g : List Ce) (r : Nat) (v : Value) (w : World) (fl : Nat → Bool) (hk : CIn w g v) (hg : graphB g 6 = true) (hr : r < g.length) (hfl : ∀ a, fl a = true ↔ Reach g r a) :
    Calls Try.prog 47 #[v, .int .i64 (r : Int)] w (NewMarks g.length fl w) := by
  have HK : Hid (CIn w g v) := hk
  obtain ⟨ad, cap, rfl, hl, hm, -⟩ := hk
  have HG : Hid (graphB g 6 = true) := hg
  have HFL : Hid (∀ a, fl a = true ↔ Reach g r a) := hfl
  have h400 : g.length ≤ 400 := graphB_len hg
  have hmk := make_bools g.length (by omega)
  obtain ⟨w1, hw1⟩ : ∃ w1 : World, w1 = w.alloc (.cells (madeCells #[.bool false] g.length) 4) := ⟨_, rfl⟩
  have hmk' : ∀ (w' : World), w' = w → (Instr.makeSlice 65 (.int .i64 (g.length : Int)) (.int .i64 (g.length : Int))).run Try.prog w' = .ok (.slice (some ⟨w.heap.size, 0, none⟩) g.length g.length) w1 := by
    intro w' e; subst e; rw [hw1]; exact hmk _
  have hmk2 := hmk' w rfl
  have hm0 : Marks w1 w.heap.size g.length (fun _ => false) := by rw [hw1]; exact no_marks w g.length
  have hz1 : w1.heap.size = w.heap.size + 1 := by rw [hw1]; exact Deep.nblk_alloc _ _
  have HZ1 : Hid (w1.heap.size = w.heap.size + 1) := hz1
  have cm := hm0.cell (i := r) hr
  have fm := hm0.frozen r
  have HM0 : Hid (Marks (w1.setCell ⟨w.heap.size, r, none⟩ (.bool true)) w.heap.size g.length (setF (fun _ => false) r)) := hm0.mark r
  have HB0 : Hid (Below w.heap.size w (w1.setCell ⟨w.heap.size, r, none⟩ (.bool true))) := by
    have h : Below w.heap.size w w1 := by rw [hw1]; exact box_below _ _
    exact h.setCell (Nat.le_refl _) _
  have HZ2 : Hid ((w1.setCell ⟨w.heap.size, r, none⟩ (.bool true)).heap.size = w.heap.size + 1) := by rw [Hid, size_setCell]; exact hz1
  clear hg hfl hl hm hmk hmk' hw1 hz1 hm0
  go_enter Try.func47, Try.ntmps47
  go_wp2_with fail
  go_loopg [6] (2 * g.length + 2) (fun k wk wr => ∃ (f : Nat → Bool) (ws : List Nat), Stk wr (w.heap.size + 1) ws wk ∧ Marks wr w.heap.size g.length f ∧ IInv g r f ws ∧ 2 * unset f g.length + ws.length < k ∧ 2 * unset f g.length + ws.length ≤ 2 * g.length + 1 ∧ Below w.heap.size w wr)
  case atStart =>
    have h0 := unset_le (setF (fun _ => false) r) g.length
    refine ⟨setF (fun _ => false) r, [r], ?_, ?_, IInv.start g r hr, ?_, ?_, ?_⟩
    · have h := Stk.one (w1.setCell ⟨w.heap.size, r, none⟩ (.bool true)) (w.heap.size + 1) r (by rw [HZ2.out]; exact Nat.le_refl _)
      first | exact h | (rw [HZ2.out] at h; exact h) | (simpa using h)
    · exact HM0.out.of_block (Deep.blk_alloc_lt _ _ _ (by rw [HZ2.out]; exact Nat.lt_succ_self _))
    · simp; omega
    · simp; omega
    · exact HB0.out.alloc HB0.out.size _
  case round =>
    obtain ⟨f, ws, hst, hmk3, hinv, hms, hwl, hb⟩ := hrel
    have HB : Hid (Below w.heap.size w wr) := hb
    have HMK : Hid (Marks wr w.heap.size g.length f) := hmk3
    have HS : Hid (Stk wr (w.heap.size + 1) ws _) := hst
    have HI : Hid (IInv g r f ws) := hinv
    by_cases h0 : ws.length = 0
    · obtain rfl : ws = [] := List.eq_nil_of_length_eq_zero h0
      obtain ⟨ad2, cap2, rfl⟩ := hst.len
      have HV : Hid (Marks wr w.heap.size g.length fl) := by
        have := marks_eq (f := f) (f' := fl) (g := g) (r := r) hinv.done HFL.out
        rw [← this]; exact HMK.out
      clear hst hmk3 hinv hb hmk2 cm fm
      go_wp2_with fail
      go_ret
      exact ⟨_, rfl, Nat.le_refl _, HV.out, HB.out⟩
    · obtain ⟨rest, a, rfl⟩ := split_last ws (by omega)
      obtain ⟨gb, capw, rfl, hgb, hgl, hcl, hcm, ct, hst2⟩ := hst.top
      have HS2 : Hid (Stk wr (w.heap.size + 1) rest (.slice (some ⟨gb, 0, none⟩) rest.length capw)) := hst2
      have ha := hinv.wk a (List.mem_append_right _ (by simp))
      have hal : a < g.length := (hinv.fl a ha).2
      have HP : Hid (MInv g r f rest a 0) := hinv.pop
      unfold maxLen at hcm
      simp only [List.length_append, List.length_cons, List.length_nil, Nat.zero_add] at hms hwl h0
      obtain ⟨bl, off, r2, rfl, c0w, c1w, c2w, -, -, hkk⟩ := HK.out.at a hal
      have hbl : bl < w.heap.size := cell_lt c0w
      have c2 := (hb.cell (p := ⟨bl, off + a * 3 + 2, none⟩) hbl).trans c2w
      obtain ⟨ad3, cap3, rfl, -, -, -⟩ := id hkk
      have HKK : Hid (IIn w g[a].kids (.slice ad3 g[a].kids.length cap3)) := hkk
      have hk3 : g[a].kids.length ≤ 3 := (kids_graph HG.out a hal).1
      have HKN : Hid ((kidsN g a).length = g[a].kids.length) := by rw [Hid, kidsN_at a hal]; simp
      clear hst hst2 hmk3 hinv hb ha c0w c1w c2w hkk hmk2 cm fm
      go_wp2_with fail
      clear c2 ct
      obtain ⟨wo, hwo⟩ : ∃ wo : World, wo = wr := ⟨_, rfl⟩
      go_loopw [6, 38] (fun wk j wr => ∃ (f2 : Nat → Bool) (ws2 : List Nat) (j2 : Nat), j2 ≤ g[a].kids.length ∧ j = .int .i64 j2 ∧ Stk wr (w.heap.size + 1) ws2 wk ∧ Marks wr w.heap.size g.length f2 ∧ MInv g r f2 ws2 a j2 ∧ 2 * unset f2 g.length + ws2.length ≤ 2 * unset f g.length + rest.length ∧ Below w.heap.size w wr) (fun _ j _ => g[a].kids.length - (intOf j).toNat)
      case atStart => exact ⟨f, rest, 0, Nat.zero_le _, rfl, HS2.out, HMK.out, HP.out, Nat.le_refl _, HB.out⟩
      case round =>
        obtain ⟨f2, ws2, j2, hj2, rfl, hst, hmk4, hinv, hsum, hb⟩ := hrel
        have HB2 : Hid (Below w.heap.size w wr) := hb
        have HMK2 : Hid (Marks wr w.heap.size g.length f2) := hmk4
        obtain ⟨adw, capw2, rfl⟩ := hst.len
        have HS4 : Hid (Stk wr (w.heap.size + 1) ws2 (.slice adw ws2.length capw2)) := hst
        have HI2 : Hid (MInv g r f2 ws2 a j2) := hinv
        clear hst hinv
        by_cases hlt : j2 < g[a].kids.length
        · obtain ⟨k, hk1, hk2, hk4⟩ := kidsN_get HG.out a hal j2 hlt
          obtain ⟨bl3, off3, rfl, d0w⟩ := HKK.out.at j2 hlt
          have d0 := (hb.cell (p := ⟨bl3, off3 + j2, none⟩) (cell_lt d0w)).trans d0w
          rw [hk1] at d0
          have HKA : Hid ((kidsN g a)[j2]? = some k) := hk4
          have cm := hmk4.cell (i := k) hk2
          have fm := hmk4.frozen k
          clear hk1 hk4 d0w hmk4 hb
          cases hf : f2 k with
          | true =>
            rw [hf] at cm
            have HI3 : Hid (MInv g r f2 ws2 a (j2 + 1)) := HI2.out.old HKA.out hf
            clear hf
            go_wp2_with fail
            go_roundw
            case rel => exact ⟨f2, ws2, j2 + 1, by omega, by go_num, HS4.out, HMK2.out, HI3.out, hsum, HB2.out⟩
            case measure => simp [intOf]; omega
          | false =>
            rw [hf] at cm
            have HI3 : Hid (MInv g r (setF f2 k) (ws2 ++ [k]) a (j2 + 1)) := HI2.out.new HKA.out hk2
            have hun := unset_set f2 k hf g.length hk2
            have hne : ∀ j, j ≠ w.heap.size → (wr.setCell ⟨w.heap.size, k, none⟩ (.bool true)).heap[j]? = wr.heap[j]? := fun j hk => Below.heap_setCell _ _ _ _ (fun e => hk e)
            have HZS : Hid ((wr.setCell ⟨w.heap.size, k, none⟩ (.bool true)).heap.size = wr.heap.size) := size_setCell _ _ _
            have hbs := HB2.out.size
            have hlt5 : w.heap.size < wr.heap.size := HMK2.out.lt
            have HLT5 : Hid (w.heap.size < wr.heap.size) := hlt5
            have HS5 : Hid (Stk ((wr.setCell ⟨w.heap.size, k, none⟩ (.bool true)).alloc (.cells #[.int .i64 (k : Int)] 3)) (w.heap.size + 1) ws2 (.slice adw ws2.length capw2)) := (HS4.out.keep fun j hk _ => hne j (by omega)).alloc _
            have HMK5 : Hid (Marks ((wr.setCell ⟨w.heap.size, k, none⟩ (.bool true)).alloc (.cells #[.int .i64 (k : Int)] 3)) w.heap.size g.length (setF f2 k)) := (HMK2.out.mark k).of_block (Deep.blk_alloc_lt _ _ _ (by rw [HZS.out]; exact hlt5))
            have HB5 : Hid (Below w.heap.size w ((wr.setCell ⟨w.heap.size, k, none⟩ (.bool true)).alloc (.cells #[.int .i64 (k : Int)] 3))) := (HB2.out.setCell (Nat.le_refl _) _).alloc (by rw [HZS.out]; exact hbs) _
            have HK5 : Hid (IIn ((wr.setCell ⟨w.heap.size, k, none⟩ (.bool true)).alloc (.cells #[.int .i64 (k : Int)] 3)) [(k : Int)] (.slice (some ⟨wr.heap.size, 0, none⟩) 1 1)) := by
              have h := one_in (wr.setCell ⟨w.heap.size, k, none⟩ (.bool true)) k
              rw [HZS.out] at h; exact h
            have HL5 : Hid (((wr.setCell ⟨w.heap.size, k, none⟩ (.bool true)).alloc (.cells #[.int .i64 (k : Int)] 3)).heap.size = wr.heap.size + 1) := by rw [Hid, Deep.nblk_alloc, HZS.out]
            have HOB : Hid (∀ j, (Value.slice adw ws2.length capw2).ownBlock = some j → w.heap.size + 1 ≤ j) := fun j hj => own_lo HS4.out hj.symm
            clear hf hne hbs hlt5
            go_wp2_with (at_builtin; go_must (refine wpList_push rfl _ _ rfl _ (w.heap.size + 1) ws2 [k] (.slice adw ws2.length capw2) (.slice (some ⟨wr.heap.size, 0, none⟩) 1 1) rfl HS5.out rfl HK5.out rfl (by rw [HL5.out]; have := HLT5.out; omega) (by simp; omega) ?_); go_must (intro v' w5 hst5 hg5); go_must (have HS6 : Hid (Stk w5 (w.heap.size + 1) (ws2 ++ [k]) v') := hst5); go_must (have hne5 : ∀ j, j < w.heap.size + 1 → w5.heap[j]? = ((wr.setCell ⟨w.heap.size, k, none⟩ (.bool true)).alloc (.cells #[.int .i64 (k : Int)] 3)).heap[j]? := fun j hj => hg5.block j (by rw [HL5.out]; have := HLT5.out; omega) (fun e => by have := HOB.out j e.symm; omega)); go_must (have HMK6 : Hid (Marks w5 w.heap.size g.length (setF f2 k)) := HMK5.out.of_block (hne5 _ (Nat.lt_succ_self _))); go_must (have HB6 : Hid (Below w.heap.size w w5) := by have hb3 := HB5.out; exact ⟨by rw [hg5.os]; exact hb3.os, by rw [hg5.tape]; exact hb3.tape, by rw [hg5.output]; exact hb3.output, Nat.le_trans hb3.size hg5.size, fun j hj => (hne5 j (by omega)).trans (hb3.block j hj)⟩); clear hst5 hg5 hne5 d0 cm fm)
            go_roundw
            case rel => first | exact ⟨setF f2 k, ws2 ++ [k], j2 + 1, by omega, by go_num, HS6.out, HMK6.out, HI3.out, by rw [List.length_append]; simp; omega, HB6.out⟩ | ((repeat apply Exists.intro); exact ⟨⟨setF f2 k, ws2 ++ [k], j2 + 1, by omega, by go_num, HS6.out, HMK6.out, HI3.out, by rw [List.length_append]; simp; omega, HB6.out⟩, rfl⟩)
            case measure => simp [intOf]; omega
        · have HD : Hid (IInv g r f2 ws2) := HI2.out.done (by rw [HKN.out]; omega)
          clear hmk4 hb
          go_wp2_with fail
          go_roundg (2 * unset f2 g.length + ws2.length + 1)
          case measure => omega
          case rel => exact ⟨f2, ws2, HS4.out, HMK2.out, HD.out, by omega, by omega, HB2.out⟩

set_option maxRecDepth 100000 in
set_option maxHeartbeats 1600000 in
theorem implFrom_calls (g : List Ce) (root : Int) (v : Value) (w : World) (fl : Nat → Bool) (hfl : ∀ a, fl a = true ↔ Reach g root.toNat a) (hk : CIn w g v) :
    Calls Try.prog 19 #[v, .int .i64 root] w (NewInts (fromB g root fl) w) := by
  have HK : Hid (CIn w g v) := hk
  have HFL : Hid (∀ a, fl a = true ↔ Reach g root.toNat a) := hfl
  obtain ⟨ad, cap, rfl, hl, hm, -⟩ := hk
  unfold maxLen at hm
  clear hfl
  go_enter Try.func19, Try.ntmps19
  go_wp2_with fail
  refine (hasCell_calls g root _ _ HK.out).mono ?_
  rintro e w1 ⟨rfl, hb1⟩
  have HB1 : Hid (Below w.heap.size w w1) := hb1
  clear hb1
  cases hh : (graphB g 6 && isAt g.length root) with
  | false =>
    have HV : Hid (fromB g root fl = []) := fromB_no (by rw [← Bool.and_eq_true, hh]; simp)
    clear hh
    go_wp2_with fail
    go_ret
    exact ⟨_, rfl, by rw [HV.out]; exact no_ints _ _ _ _ (by simp [maxLen]), HB1.out⟩
  | true =>
    rw [Bool.and_eq_true, isAt_iff] at hh
    have HG : Hid (graphB g 6 = true ∧ 0 ≤ root ∧ root < g.length) := hh
    clear hh
    obtain ⟨n, rfl⟩ : ∃ n : Nat, root = (n : Int) := ⟨root.toNat, by have := HG.out.2.1; omega⟩
    have hn : n < g.length := by have := HG.out.2.2; omega
    have h400 : g.length ≤ 400 := graphB_len HG.out.1
    have HV : Hid (fromB g (n : Int) fl = numsTo fl g.length) := fromB_yes ⟨HG.out.1, isAt_iff.2 HG.out.2⟩
    go_wp2_with fail
    refine (reachable_calls g n _ _ fl (HK.out.next HB1.out) HG.out.1 hn HFL.out).mono ?_
    rintro e w2 ⟨b, rfl, hbl, hmk, hb2⟩
    have HM : Hid (Marks w2 b g.length fl) := hmk
    have HBL : Hid (b < w2.heap.size) := hmk.lt
    have HB2 : Hid (Below w.heap.size w w2) := HB1.out.trans (hb2.mono HB1.out.size)
    clear hmk hb2
    go_wp2_with fail
    go_loopw [5, 16] (fun o i wr => ∃ k : Nat, k ≤ g.length ∧ i = .int .i64 k ∧ Stk wr w2.heap.size (numsN fl k) o ∧ Below w2.heap.size w2 wr) (fun _ i _ => g.length - (intOf i).toNat)
    case atStart => exact ⟨0, Nat.zero_le _, rfl, World.ownsRow_nil _ _ _ _, Below.refl _ _⟩
    case round =>
      obtain ⟨k, hk, rfl, hst, hb⟩ := hrel
      have HS : Hid (Stk wr w2.heap.size (numsN fl k) _) := hst
      have HB : Hid (Below w2.heap.size w2 wr) := hb
      have hnl := numsN_len fl k
      obtain ⟨ad, cap, rfl⟩ := hst.len
      have cm := (hb.cell (p := ⟨b, k, none⟩) HBL.out)
      clear hst hb
      by_cases hlt : k < g.length
      · have cm2 := cm.trans (HM.out.cell hlt)
        clear cm
        cases hf : fl k with
        | true =>
          rw [hf] at cm2
          have HN : Hid (numsN fl (k + 1) = numsN fl k ++ [k]) := numsN_yes hf
          have HS3 : Hid (Stk (wr.alloc (.cells #[.int .i64 (k : Int)] 3)) w2.heap.size (numsN fl k) (.slice ad (numsN fl k).length cap)) := HS.out.alloc _
          have HK3 : Hid (IIn (wr.alloc (.cells #[.int .i64 (k : Int)] 3)) [(k : Int)] (.slice (some ⟨wr.heap.size, 0, none⟩) 1 1)) := one_in wr k
          have HLO : Hid (w2.heap.size ≤ (wr.alloc (.cells #[.int .i64 (k : Int)] 3)).heap.size) := by rw [Hid, Deep.nblk_alloc]; have := HB.out.size; omega
          have HOB : Hid (∀ j, (Value.slice ad (numsN fl k).length cap).ownBlock = some j → w2.heap.size ≤ j) := fun j hj => own_lo HS.out hj.symm
          clear hf
          go_wp2_with (at_builtin; go_must (refine wpList_push rfl _ _ rfl _ w2.heap.size (numsN fl k) [k] (.slice ad (numsN fl k).length cap) (.slice (some ⟨wr.heap.size, 0, none⟩) 1 1) rfl HS3.out rfl HK3.out rfl HLO.out (by simp; omega) ?_); go_must (intro v' w5 hst5 hg5); go_must (have HS5 : Hid (Stk w5 w2.heap.size (numsN fl (k + 1)) v') := by rw [HN.out]; exact hst5); go_must (have HB5 : Hid (Below w2.heap.size w2 w5) := by have hb3 : Below w2.heap.size w2 (wr.alloc (.cells #[.int .i64 (k : Int)] 3)) := HB.out.alloc HB.out.size _; exact ⟨by rw [hg5.os]; exact hb3.os, by rw [hg5.tape]; exact hb3.tape, by rw [hg5.output]; exact hb3.output, Nat.le_trans hb3.size hg5.size, fun j hj => (hg5.block j (by have := hb3.size; omega) (fun e => by have := HOB.out j e.symm; omega)).trans (hb3.block j hj)⟩); clear hst5 hg5 cm2)
          go_roundw
          case rel => first | exact ⟨k + 1, by omega, by go_num, HS5.out, HB5.out⟩ | ((repeat apply Exists.intro); exact ⟨⟨k + 1, by omega, by go_num, HS5.out, HB5.out⟩, rfl⟩)
          case measure => simp [intOf]; omega
        | false =>
          rw [hf] at cm2
          have HN : Hid (numsN fl (k + 1) = numsN fl k) := numsN_no hf
          clear hf
          go_wp2_with fail
          go_roundw
          case rel => exact ⟨k + 1, by omega, by go_num, by rw [HN.out]; exact HS.out, HB.out⟩
          case measure => simp [intOf]; omega
      · have hke : k = g.length := by omega
        have HW : Hid (NewInts (fromB g (n : Int) fl) w (.returned (.slice ad (numsN fl k).length cap)) wr) := by
          rw [HV.out]
          subst hke; exact ⟨_, rfl, HS.out.row.keep HB2.out.size fun _ _ _ => rfl, HB2.out.trans (HB.out.mono HB2.out.size)⟩
        clear cm hke
        go_wp2_with fail
        go_ret
        exact HW.out
end Go.Proofs.Ytjdlfpdljmohiaa
/-
  PAIRS OF POINTERS AS KEYS OF A MAP; pointers compared.
-/
namespace Go.Proofs.Ytjdlfpdljmohiaa
set_option linter.unusedVariables false
set_option linter.unusedSimpArgs false
open Go.RowKit

def emb2 (k : Addr × Addr) : Value := .agg #[.pointer (some k.1), .pointer (some k.2)]
def ok2 (w : World) (k : Addr × Addr) : Prop := PlainAt w k.1 ∧ PlainAt w k.2

theorem infoE_ptr : ∃ j, Try.prog.info? 30 = some j ∧ j.size ≠ 0 := by
  obtain ⟨i, z, hi, -, hs, -⟩ := infoE3
  exact ⟨i, hi, by omega⟩
theorem eq_exprPtr (w : World) (x y : Addr) (hx : PlainAt w x) (hy : PlainAt w y) (d : Nat) :
    (Op.equalIn (d + 1) 61 (.pointer (some x)) (.pointer (some y))).run Try.prog w = .ok (decide (x = y)) w := by
  obtain ⟨j, hj, hs⟩ := infoE_ptr
  exact eq_ptr Try.underlying61 hj hs w x y hx hy d
/-- 'p != q' -/
theorem neq_exprPtr (w : World) (x y : Addr) (hx : PlainAt w x) (hy : PlainAt w y) :
    (binOp .neq 61 (.pointer (some x)) (.pointer (some y))).run Try.prog w = .ok (.bool (!decide (x = y))) w := by
  simp only [binOp]
  simp [Op.equal, Op.maxDepth, eq_exprPtr w x y hx hy 9999]

theorem eq_pair (w : World) (x y : Addr × Addr) (hx : ok2 w x) (hy : ok2 w y) (d : Nat) :
    (Op.equalIn (d + 2) 63 (emb2 x) (emb2 y)).run Try.prog w = .ok (decide (x = y)) w := by
  unfold emb2
  have hf : Try.prog.fieldsOf 63 = #[{ name := "a", type := 61, offset := 0, embedded := false, tag := "", pkgPath := "loop.example/graphreducer/impl", byteOffset := 0 }, { name := "b", type := 61, offset := 1, embedded := false, tag := "", pkgPath := "loop.example/graphreducer/impl", byteOffset := 8 }] := by
    unfold Program.fieldsOf
    rw [Try.underlying63]
  rw [run_equalIn_struct w _ _ _ _ (by rw [hf]; exact Try.underlying63) (by kernel_rfl), hf]
  have p0 : ∀ a b : Value, (part 61 #[a, b] 0).run Try.prog w = .ok a w := fun a b => by kernel_rfl
  have p1 : ∀ a b : Value, (part 61 #[a, b] 1).run Try.prog w = .ok b w := fun a b => by kernel_rfl
  simp only [Op.eqFields, ne_eq, show ¬ ("a" = "_") from by decide, show ¬ ("b" = "_") from by decide, not_false_eq_true, if_true, Sem.run_bind, p0, p1, Result.andThen_ok, eq_exprPtr w _ _ hx.1 hy.1, eq_exprPtr w _ _ hx.2 hy.2]
  obtain ⟨x1, x2⟩ := x
  obtain ⟨y1, y2⟩ := y
  have e2 := eq_exprPtr w x2 y2 hx.2 hy.2 d
  by_cases h1 : x1 = y1
  · by_cases h2 : x2 = y2
    · subst h1; subst h2; simp [p1, e2, Result.andThen]
    · simp [h1, h2, p1, e2, Result.andThen]
  · simp [h1]

theorem pairK : PKey Try.prog 63 emb2 ok2 where
  check w e x := by cases e <;> kernel_rfl
  under := ⟨_, Try.underlying63, fun x y => by simp [emb2, Instr.sameNow]⟩
  eq w x y hx hy := by
    unfold Op.equal Op.maxDepth
    exact eq_pair w x y hx hy 9998
  stays x := by simp [emb2, Instr.sameBits]
theorem zeroBl (w : World) : (zeroValue 4).run Try.prog w = .ok (.bool false) w := by kernel_rfl
theorem infoPair : ∃ i z, Try.prog.info? 63 = some i ∧ i.zero = some z ∧ i.size = 2 ∧ i.bytes = 16 ∧ z.cells.size = 2 := by
  have h : (Try.prog.info? 63).map (fun i => (i.zero, i.size, i.bytes)) = some (some (.agg #[.pointer none, .pointer none]), 2, 16) := by kernel_rfl
  obtain ⟨i, hi, hzz⟩ := Option.map_eq_some_iff.1 h
  simp only [Prod.mk.injEq] at hzz
  obtain ⟨hz, hs, hb⟩ := hzz
  exact ⟨i, _, hi, hz, hs, hb, rfl⟩
end Go.Proofs.Ytjdlfpdljmohiaa
/-
  THE PROGRAM's ExprSame: are two trees equal? Nothing that was there is changed.
-/
namespace Go.Proofs.Ytjdlfpdljmohiaa
set_option linter.unusedVariables false
set_option linter.unusedSimpArgs false
open Go.RowKit

theorem cellsOf_lt' {w : World} {b : Nat} {o : Obj} (h : w.heap[b]? = some o) : b < w.heap.size := (Array.getElem?_eq_some_iff.1 h).1
/-- what holds at the head of the search -/
def SRel (wx : World) (B : Nat) (a b : Tr) (n : Nat) (v : Value) (wr : World) : Prop :=
  ∃ (l : List Wk) (M : Mp), n = wkSz l ∧ wr.ownsRow (B + 3) 63 2 v l.length (wkCells l) ∧ (∃ g cap, v = .slice (some ⟨g, 0, none⟩) l.length cap) ∧ PMap emb2 wr (B + 2) (Pair2 wx (Pl wx)) M ∧ (∀ k u, M k = some u → u = .bool true) ∧
    (∀ e ∈ l, WkOk wx (Pl wx) (a = b) e) ∧ wkSz l ≤ 1 + szT a ∧ Inv wx (Pl wx) (⟨B, 0, none⟩, ⟨B + 1, 0, none⟩) M l none ∧ Below wx.heap.size wx wr

/-- what holds of the operands' loop -/
def IRel (wx : World) (B XB : Nat) (a b : Tr) (l' : List Wk) (e : Wk) (k : Nat) (v : Value) (ws : World) : Prop :=
  ∃ (l2 : List Wk) (M2 : Mp), ws.ownsRow (B + 3) 63 2 v l2.length (wkCells l2) ∧ (∃ g cap, v = .slice (some ⟨g, 0, none⟩) l2.length cap) ∧ v.ownBlock ≠ some XB ∧ ws.heap[XB]? = some (.cells #[.pointer (some e.x), .pointer (some e.y)] 63) ∧
    PMap emb2 ws (B + 2) (Pair2 wx (Pl wx)) M2 ∧ (∀ k u, M2 k = some u → u = .bool true) ∧ (∀ d ∈ l2, WkOk wx (Pl wx) (a = b) d) ∧ wkSz l2 ≤ wkSz l' + szL (e.s.kids.take k) ∧
    Inv wx (Pl wx) (⟨B, 0, none⟩, ⟨B + 1, 0, none⟩) M2 l2 (some e.key) ∧ KidsSeen wx M2 e.key k ∧ Below wx.heap.size wx ws

theorem iRel_push {wx w1 w3 : World} {B XB k g2 cp2 : Nat} {a b : Tr} {l' l2 : List Wk} {e : Wk} {M2 : Mp} {z z' : Addr} {v' : Value} {o : Obj} (hb : Below wx.heap.size wx w1) (hbox : w1.heap[XB]? = some (.cells #[.pointer (some e.x), .pointer (some e.y)] 63))
    (hp : PMap emb2 w1 (B + 2) (Pair2 wx (Pl wx)) (pput M2 (z, z') (.bool true))) (hM : ∀ k u, M2 k = some u → u = .bool true) (hl : ∀ d ∈ l2, WkOk wx (Pl wx) (a = b) d) (hsz : wkSz l2 ≤ wkSz l' + szL (e.s.kids.take k))
    (hI : Inv wx (Pl wx) (⟨B, 0, none⟩, ⟨B + 1, 0, none⟩) M2 l2 (some e.key)) (hks : KidsSeen wx M2 e.key k) (hax : KidAt wx e.x k z) (hay : KidAt wx e.y k z') {hk : k < e.s.kids.length} {hk' : k < e.t.kids.length} (hlx : LiesAt wx (Pl wx) z e.s.kids[k]) (hly : LiesAt wx (Pl wx) z' e.t.kids[k])
    (hxy : a = b → e.s = e.t) (hk2 : k < e.s.kids.length) (hnb : (Value.slice (some ⟨g2, 0, none⟩) l2.length cp2).ownBlock ≠ some XB)
    (hown : w3.ownsRow (B + 3) 63 2 v' (l2.length + 1) (wkCells l2 ++ [.pointer (some z), .pointer (some z')])) (hg : (w1.alloc o).grownBy w3 (Value.slice (some ⟨g2, 0, none⟩) l2.length cp2).ownBlock)
    (hw : v'.ownBlock = (Value.slice (some ⟨g2, 0, none⟩) l2.length cp2).ownBlock ∨ ∃ g, v'.ownBlock = some g ∧ (w1.alloc o).heap.size ≤ g) (hXB : XB < w1.heap.size) (hg2 : B + 2 < w1.heap.size) (hB : wx.heap.size = B + 2) (hgl : B + 3 ≤ g2) :
    IRel wx B XB a b l' e (k + 1) v' w3 := by
  have hal := Deep.nblk_alloc w1 o
  have hob : ∀ j, j < w1.heap.size → j ≠ g2 → w3.heap[j]? = w1.heap[j]? := fun j hj hne => (hg.block j (by rw [hal]; omega) (by simp only [Value.ownBlock, ne_eq, Option.some.injEq]; exact hne)).trans (Deep.blk_alloc_lt _ _ _ hj)
  have hnb' : g2 ≠ XB := by simpa [Value.ownBlock] using hnb
  obtain ⟨g3, c3, rfl, -, -, -⟩ := own_form hown (by omega)
  refine ⟨l2 ++ [⟨z, z', e.s.kids[k], e.t.kids[k]⟩], pput M2 (z, z') (.bool true), ?_, ⟨g3, c3, by simp⟩, ?_, (hob _ hXB (Ne.symm hnb')).trans hbox, hp.keep (hob _ hg2 (by omega)), ?_, ?_, ?_, ?_, (hks.put).succ hax hay (Or.inr (by rw [pput_same]; rfl)), ?_⟩
  · rw [wkCells_snoc]; simpa using hown
  · rcases hw with hw | ⟨g, hw, hge⟩
    · rw [hw]; exact hnb
    · rw [hw]; intro h; simp only [Option.some.injEq] at h; rw [hal] at hge; omega
  · intro y u hy
    by_cases hyk : y = (z, z')
    · subst hyk; rw [pput_same] at hy; cases hy; rfl
    · rw [pput_other _ _ hyk] at hy; exact hM _ _ hy
  · intro d hd
    rw [List.mem_append] at hd
    rcases hd with hd | hd
    · exact hl d hd
    · rw [List.mem_singleton] at hd
      subst hd
      refine ⟨hlx, hly, fun h => ?_⟩
      have := hxy h
      simp only [this]
  · rw [wkSz_snoc, szL_take_succ _ _ hk]
    simp only
    omega
  · have := hI.push ⟨z, z', e.s.kids[k], e.t.kids[k]⟩ (.bool true)
    exact this
  · exact ⟨by rw [hg.os]; exact hb.os, by rw [hg.tape]; exact hb.tape, by rw [hg.output]; exact hb.output, Nat.le_trans hb.size (by have := hg.size; rw [hal] at this; omega), fun j hj => (hob j (by have := hb.size; omega) (by omega)).trans (hb.block j hj)⟩

set_option maxRecDepth 100000 in
set_option maxHeartbeats 3200000 in
theorem implSame_calls (a b : Tr) (c d : Value) (w : World) (hc : InP w a.kids c) (hd : InP w b.kids d) (ha : I64 a.op ∧ I64 a.num) (hb : I64 b.op ∧ I64 b.num) (hz : szT a ≤ 1099511627776) :
    Calls Try.prog 17 #[.agg #[.int .i64 a.op, .int .i64 a.num, c], .agg #[.int .i64 b.op, .int .i64 b.num, d]] w fun e w' => (∃ v : Bool, e = .returned (.bool v) ∧ (v = true ↔ a = b)) ∧ Below w.heap.size w w' := by
  have HC : Hid (InP w a.kids c) := hc
  have HD : Hid (InP w b.kids d) := hd
  have hmm := @run_makeMap Try.prog
  obtain ⟨ad, cap, rfl, -, -, -⟩ := hc
  obtain ⟨ad', cap', rfl, -, -, -⟩ := hd
  obtain ⟨wx, hwx⟩ : ∃ wx : World, wx = (w.alloc (.cells #[.int .i64 a.op, .int .i64 a.num, .slice ad a.kids.length cap] 30)).alloc (.cells #[.int .i64 b.op, .int .i64 b.num, .slice ad' b.kids.length cap'] 30) := ⟨_, rfl⟩
  have hxs : wx.heap.size = w.heap.size + 2 := by rw [hwx, Deep.nblk_alloc, Deep.nblk_alloc]
  have HX : Hid (wx = (w.alloc (.cells #[.int .i64 a.op, .int .i64 a.num, .slice ad a.kids.length cap] 30)).alloc (.cells #[.int .i64 b.op, .int .i64 b.num, .slice ad' b.kids.length cap'] 30)) := hwx
  have HXS : Hid (wx.heap.size = w.heap.size + 2) := hxs
  have hbx : Below w.heap.size w wx := by rw [hwx]; exact (box_below w _).trans ((box_below _ _).mono (by simp))
  have HBX : Hid (Below w.heap.size w wx) := hbx
  have hla : LiesAt wx (Pl wx) ⟨w.heap.size, 0, none⟩ a := by
    refine ⟨w.heap.size, 0, .int .i64 a.op, .int .i64 a.num, .slice ad a.kids.length cap, rfl, ⟨by omega, #[.int .i64 a.op, .int .i64 a.num, .slice ad a.kids.length cap], 30, ?_⟩, ?_, ?_, ?_, trOn_iff.2 ⟨rfl, rfl, ha.1, ha.2, HC.out.nextP hbx⟩⟩
    · rw [hwx, Deep.blk_alloc_lt _ _ _ (by simp)]; exact Deep.blk_alloc_new _ _
    · rw [hwx]; exact old_cell (box_cell w _ _ 0 _ rfl) _
    · rw [hwx]; exact old_cell (box_cell w _ _ 1 _ rfl) _
    · rw [hwx]; exact old_cell (box_cell w _ _ 2 _ rfl) _
  have hlb : LiesAt wx (Pl wx) ⟨w.heap.size + 1, 0, none⟩ b := by
    have bc := fun i v h => box_cell (w.alloc (.cells #[.int .i64 a.op, .int .i64 a.num, .slice ad a.kids.length cap] 30)) #[.int .i64 b.op, .int .i64 b.num, .slice ad' b.kids.length cap'] 30 i v h
    rw [Deep.nblk_alloc, ← hwx] at bc
    refine ⟨w.heap.size + 1, 0, .int .i64 b.op, .int .i64 b.num, .slice ad' b.kids.length cap', rfl, ⟨by omega, #[.int .i64 b.op, .int .i64 b.num, .slice ad' b.kids.length cap'], 30, ?_⟩, bc 0 _ rfl, bc 1 _ rfl, bc 2 _ rfl, trOn_iff.2 ⟨rfl, rfl, hb.1, hb.2, HD.out.nextP hbx⟩⟩
    have := Deep.blk_alloc_new (w.alloc (.cells #[.int .i64 a.op, .int .i64 a.num, .slice ad a.kids.length cap] 30)) (.cells #[.int .i64 b.op, .int .i64 b.num, .slice ad' b.kids.length cap'] 30)
    rw [Deep.nblk_alloc, ← hwx] at this
    exact this
  have HLA : Hid (LiesAt wx (Pl wx) ⟨w.heap.size, 0, none⟩ a) := hla
  have HLB : Hid (LiesAt wx (Pl wx) ⟨w.heap.size + 1, 0, none⟩ b) := hlb
  clear ha hb hwx hxs hbx hla hlb
  go_enter Try.func17, Try.ntmps17
  go_wp2_with fail
  clear hmm
  obtain ⟨iE, zE, hiE, hzE, hsE, hbE, hcE⟩ := infoPair
  have HE : Hid (Try.prog.info? 63 = some iE ∧ iE.zero = some zE ∧ iE.size = 2 ∧ iE.bytes = 16 ∧ zE.cells.size = 2) := ⟨hiE, hzE, hsE, hbE, hcE⟩
  clear hiE hzE hsE hbE hcE
  go_loopg [6] (1 + szT a) (fun n v wr => SRel wx w.heap.size a b n v wr)
  case atStart =>
    refine ⟨[⟨⟨w.heap.size, 0, none⟩, ⟨w.heap.size + 1, 0, none⟩, a, b⟩], fun _ => none, by simp [wkSz], ?_, ⟨_, _, rfl⟩, ?_, fun k u h => by simp at h, ?_, by simp [wkSz], Inv.start _ _ ⟨⟨w.heap.size, 0, none⟩, ⟨w.heap.size + 1, 0, none⟩, a, b⟩, ?_⟩
    · rw [← HX.out]
      have h := Deep.blk_alloc_new (wx.alloc (.map #[] 0)) (.cells #[.pointer (some ⟨w.heap.size, 0, none⟩), .pointer (some ⟨w.heap.size + 1, 0, none⟩)] 63)
      rw [Deep.nblk_alloc, HXS.out] at h
      exact ⟨rfl, Or.inr ⟨_, 1, _, rfl, Nat.le_refl _, h, Nat.le_refl _, by unfold maxLen; omega, rfl, rfl⟩⟩
    · rw [← HX.out]
      have h := PMap.made (emb := emb2) wx (Pair2 wx (Pl wx))
      rw [HXS.out] at h
      exact h.keep (Deep.blk_alloc_lt _ _ _ (by simp [HXS.out]))
    · intro e he
      rw [List.mem_singleton] at he
      subst he
      exact ⟨HLA.out, HLB.out, id⟩
    · rw [← HX.out]
      exact (box_below wx _).trans ((box_below _ _).mono (by simp))
  case round =>
    obtain ⟨wo, rfl⟩ : ∃ wo : World, wo = wr := ⟨_, rfl⟩
    obtain ⟨l, M, rfl, hown, ⟨g, cp, rfl⟩, hmap, hM, hl, hsz, hinv, hb⟩ := hrel
    have HM : Hid (∀ k u, M k = some u → u = .bool true) := hM
    have HP : Hid (PMap emb2 wo (w.heap.size + 2) (Pair2 wx (Pl wx)) M) := hmap
    have HI : Hid (Inv wx (Pl wx) (⟨w.heap.size, 0, none⟩, ⟨w.heap.size + 1, 0, none⟩) M l none) := hinv
    have HL : Hid (∀ e ∈ l, WkOk wx (Pl wx) (a = b) e) := hl
    have HB : Hid (Below wx.heap.size wx wo) := hb
    have HO : Hid (wo.ownsRow (w.heap.size + 3) 63 2 (.slice (some ⟨g, 0, none⟩) l.length cp) l.length (wkCells l)) := hown
    clear hM hmap hinv hl hb hown
    have hln := wkSz_len l
    rcases List.eq_nil_or_concat l with hnil | ⟨l', e, he⟩
    · have hl0 : l.length = 0 := by rw [hnil]; rfl
      have HT : Hid (a = b) := by
        subst hnil
        exact HI.out.done (szT a) _ a b (Nat.le_refl _) (Or.inl rfl) HLA.out HLB.out
      clear hnil
      rw [hl0]
      go_wp2_with fail
      go_ret
      exact ⟨⟨true, rfl, by simpa using HT.out⟩, HBX.out.trans (HB.out.mono (by have := HXS.out; omega))⟩
    · subst he
      rw [List.concat_eq_append] at *
      have hll : (l' ++ [e]).length = l'.length + 1 := by simp
      have HLL : Hid ((l' ++ [e]).length = l'.length + 1) := hll
      rw [hll]
      have hlen : l'.length + 1 ≤ 1099511627777 := by omega
      have HSZ : Hid (wkSz (l' ++ [e]) ≤ 1 + szT a) := hsz
      have hcp : l'.length + 1 ≤ cp ∧ cp ≤ maxLen := by
        obtain ⟨g2, c2, e2, -, -, h1, h2⟩ := own_form HO.out (by rw [hll]; omega)
        cases e2
        exact ⟨by rw [hll] at h1; exact h1, h2⟩
      obtain ⟨hcp, hcm⟩ := hcp
      unfold maxLen at hcm
      clear hln hsz
      obtain ⟨hx, hy, hxy⟩ := HL.out e (by simp)
      have HXY : Hid (a = b → e.s = e.t) := hxy
      clear hxy
      have HEx : Hid (LiesAt wx (Pl wx) e.x e.s) := hx
      have HEy : Hid (LiesAt wx (Pl wx) e.y e.t) := hy
      obtain ⟨xb, xo, x0, x1, x2, hxe, hxp, cx0, cx1, cx2, htx⟩ := hx
      obtain ⟨yb, yo, y0, y1, y2, hye, hyp, cy0, cy1, cy2, hty⟩ := hy
      obtain ⟨rfl, rfl, iox, inx, hkx⟩ := trOn_iff.1 htx
      obtain ⟨rfl, rfl, ioy, iny, hky⟩ := trOn_iff.1 hty
      have HKX : Hid (KidsOn wx (Pl wx) e.s.kids x2) := hkx
      have HKY : Hid (KidsOn wx (Pl wx) e.t.kids y2) := hky
      obtain ⟨adx, capx, rfl, -, hmx, -⟩ := hkx
      obtain ⟨ady, capy, rfl, -, hmy, -⟩ := hky
      unfold maxLen at hmx hmy
      have p0 : wo.cell? ⟨g, l'.length * 2, none⟩ = some (.pointer (some ⟨xb, xo, none⟩)) := by
        rw [← hxe]; exact own_at HO.out _ _ (by rw [wkCells_snoc, List.getElem?_append_right (by rw [wkCells_length]; omega), wkCells_length]; simp)
      have p1 : wo.cell? ⟨g, l'.length * 2 + 1, none⟩ = some (.pointer (some ⟨yb, yo, none⟩)) := by
        rw [← hye]; exact own_at HO.out _ _ (by rw [wkCells_snoc, List.getElem?_append_right (by rw [wkCells_length]; omega), wkCells_length]; simp)
      have q0 := (HB.out.cell (p := ⟨xb, xo, none⟩) hxp.1).trans cx0
      have q1 := (HB.out.cell (p := ⟨xb, xo + 1, none⟩) hxp.1).trans cx1
      have q2 := (HB.out.cell (p := ⟨xb, xo + 2, none⟩) hxp.1).trans cx2
      have r0 := (HB.out.cell (p := ⟨yb, yo, none⟩) hyp.1).trans cy0
      have r1 := (HB.out.cell (p := ⟨yb, yo + 1, none⟩) hyp.1).trans cy1
      have r2 := (HB.out.cell (p := ⟨yb, yo + 2, none⟩) hyp.1).trans cy2
      have HCX : Hid (wx.cell? ⟨xb, xo + 2, none⟩ = some (.slice adx e.s.kids.length capx)) := cx2
      have HCY : Hid (wx.cell? ⟨yb, yo + 2, none⟩ = some (.slice ady e.t.kids.length capy)) := cy2
      have HPX : Hid (xb < wx.heap.size ∧ yb < wx.heap.size) := ⟨hxp.1, hyp.1⟩
      have HXE : Hid (e.x = ⟨xb, xo, none⟩ ∧ e.y = ⟨yb, yo, none⟩) := ⟨hxe, hye⟩
      have hxl : xb < wo.heap.size := Nat.lt_of_lt_of_le hxp.1 HB.out.size
      have hyl : yb < wo.heap.size := Nat.lt_of_lt_of_le hyp.1 HB.out.size
      clear hxe hye cx0 cx1 cx2 cy0 cy1 cy2 htx hty hxp hyp hll
      have HF : ∀ o : Obj, Below w.heap.size w (wo.alloc o) := fun o => HBX.out.trans ((HB.out.trans ((box_below wo o).mono HB.out.size)).mono (by have := HXS.out; omega))
      have HF : Hid (∀ o : Obj, Below w.heap.size w (wo.alloc o)) := HF
      by_cases ho : e.s.op = e.t.op
      · by_cases hn : e.s.num = e.t.num
        · by_cases hkl : e.s.kids.length = e.t.kids.length
          · have t1 : (e.s.op != e.t.op) = false := by simpa using ho
            have t2 : (e.s.num != e.t.num) = false := by simpa using hn
            have t3 : ((e.s.kids.length : Int) != e.t.kids.length) = false := by simp [hkl]
            have HS : Hid (e.s.op = e.t.op ∧ e.s.num = e.t.num ∧ e.s.kids.length = e.t.kids.length) := ⟨ho, hn, hkl⟩
            have hxL : e.s.kids.length ≤ 1099511627776 := by
              have h1 := HSZ.out
              rw [wkSz_snoc, szT_eq, szL_sum] at h1
              omega
            clear ho hn hkl
            go_wp2_with fail
            go_quiet (fail)
            go_wp2_with fail
            go_loopw [6, 72] (fun v i wr => ∃ k : Nat, k ≤ e.s.kids.length ∧ i = .int .i64 k ∧ IRel wx w.heap.size wo.heap.size a b l' e k v wr) (fun _ i _ => e.s.kids.length - (intOf i).toNat)
            case atStart =>
              refine ⟨0, Nat.zero_le _, rfl, l', M, ?_, ⟨_, _, rfl⟩, ?_, ?_, ?_, HM.out, fun d hd => HL.out d (by simp [hd]), by simp [szL], HI.out.pop, KidsSeen.zero _ _ _, ?_⟩
              · have h1 := HO.out
                rw [HLL.out, wkCells_snoc] at h1
                exact own_keep (own_cut h1 (wkCells_length l') (by omega)) (fun k _ hk => Deep.blk_alloc_lt _ _ k hk)
              · intro h
                have h2 := own_form HO.out (by rw [HLL.out]; omega)
                obtain ⟨g2, c2, e2, -, hg2, -⟩ := h2
                cases e2
                simp only [Value.ownBlock, Option.some.injEq] at h
                omega
              · have := Deep.blk_alloc_new wo (.cells #[.pointer (some ⟨xb, xo, none⟩), .pointer (some ⟨yb, yo, none⟩)] 63)
                rw [HXE.out.1, HXE.out.2]
                exact this
              · exact HP.out.keep (Deep.blk_alloc_lt _ _ _ HP.out.lt)
              · exact below_drewN (HB.out.trans ((box_below wo _).mono HB.out.size)) _
            case round =>
              obtain ⟨k, hk, rfl, l2, M2, hown, ⟨g2, cp2, rfl⟩, hnb, hbox, hmap, hM, hl, hsz2, hinv, hks, hb⟩ := hrel
              have HM2 : Hid (∀ k u, M2 k = some u → u = .bool true) := hM
              have HP2 : Hid (PMap emb2 wr (w.heap.size + 2) (Pair2 wx (Pl wx)) M2) := hmap
              have HI2 : Hid (Inv wx (Pl wx) (⟨w.heap.size, 0, none⟩, ⟨w.heap.size + 1, 0, none⟩) M2 l2 (some e.key)) := hinv
              have HL2 : Hid (∀ d ∈ l2, WkOk wx (Pl wx) (a = b) d) := hl
              have HB2 : Hid (Below wx.heap.size wx wr) := hb
              have HO2 : Hid (wr.ownsRow (w.heap.size + 3) 63 2 (.slice (some ⟨g2, 0, none⟩) l2.length cp2) l2.length (wkCells l2)) := hown
              have HNB : Hid ((Value.slice (some ⟨g2, 0, none⟩) l2.length cp2).ownBlock ≠ some wo.heap.size) := hnb
              have HKS : Hid (KidsSeen wx M2 e.key k) := hks
              have HSZ2 : Hid (wkSz l2 ≤ wkSz l' + szL (e.s.kids.take k)) := hsz2
              have HBOX : Hid (wr.heap[wo.heap.size]? = some (.cells #[.pointer (some e.x), .pointer (some e.y)] 63)) := hbox
              have c0 := cell_of_blk hbox 0 _ rfl
              have c1 := cell_of_blk hbox 1 _ rfl
              rw [HXE.out.1] at c0
              rw [HXE.out.2] at c1
              have s2 := (HB2.out.cell (p := ⟨xb, xo + 2, none⟩) HPX.out.1).trans HCX.out
              have u2 := (HB2.out.cell (p := ⟨yb, yo + 2, none⟩) HPX.out.2).trans HCY.out
              have hg2 : Hid (w.heap.size + 3 ≤ g2) := own_block HO2.out rfl
              have hob : wo.heap.size < wr.heap.size := cellsOf_lt' hbox
              have hxl2 : xb < wr.heap.size := Nat.lt_of_lt_of_le HPX.out.1 HB2.out.size
              have hyl2 : yb < wr.heap.size := Nat.lt_of_lt_of_le HPX.out.2 HB2.out.size
              clear hM hmap hinv hl hb hown hnb hks hsz2 hbox hxl hyl
              by_cases hlt : k < e.s.kids.length
              · have hlt' : k < e.t.kids.length := by have := HS.out.2.2; omega
                obtain ⟨_, _, he, -, -, hr⟩ := HKX.out
                cases he
                rcases hr with hnil | ⟨xkb, xko, rfl, hxk, hrx⟩
                · rw [hnil] at hlt; simp at hlt
                obtain ⟨_, _, he, -, -, hr⟩ := HKY.out
                cases he
                rcases hr with hnil | ⟨ykb, yko, rfl, hyk, hry⟩
                · rw [hnil] at hlt'; simp at hlt'
                have HLX : Hid (LiesAt wx (Pl wx) ⟨xkb, xko + k * 3, none⟩ e.s.kids[k]) := RowOn.liesAt hlt hxk hrx
                have HLY : Hid (LiesAt wx (Pl wx) ⟨ykb, yko + k * 3, none⟩ e.t.kids[k]) := RowOn.liesAt hlt' hyk hry
                have HAX : Hid (KidAt wx e.x k ⟨xkb, xko + k * 3, none⟩) := ⟨xb, xo, xkb, xko, _, _, HXE.out.1, HCX.out, rfl⟩
                have HAY : Hid (KidAt wx e.y k ⟨ykb, yko + k * 3, none⟩) := ⟨yb, yo, ykb, yko, _, _, HXE.out.2, HCY.out, rfl⟩
                clear hrx hry hxk hyk
                go_wp2_with fail
                go_region
                go_step
                go_step
                obtain ⟨wk, hwk⟩ : ∃ wk : World, wk = (wr.alloc (.cells #[.pointer (some ⟨xkb, xko + k * 3, none⟩), .pointer (some ⟨ykb, yko + k * 3, none⟩)] 63)).drew := ⟨_, rfl⟩
                rw [← hwk]
                have hX : ∀ j, j < wr.heap.size → wk.heap[j]? = wr.heap[j]? := fun j hj => by rw [hwk]; exact Deep.blk_alloc_lt _ _ j hj
                have hkk : wk.heap[wr.heap.size]? = some (.cells #[.pointer (some ⟨xkb, xko + k * 3, none⟩), .pointer (some ⟨ykb, yko + k * 3, none⟩)] 63) := by rw [hwk]; exact Deep.blk_alloc_new _ _
                have hks : wk.heap.size = wr.heap.size + 1 := by rw [hwk]; exact Deep.nblk_alloc _ _
                have HBk : Hid (Below wx.heap.size wx wk) := by rw [hwk]; exact HB2.out.trans ((box_below wr _).drew.mono HB2.out.size)
                have HOk : Hid (wk.ownsRow (w.heap.size + 3) 63 2 (.slice (some ⟨g2, 0, none⟩) l2.length cp2) l2.length (wkCells l2)) := own_keep HO2.out (fun j _ hj => hX j hj)
                have HPk : Hid (PMap emb2 wk (w.heap.size + 2) (Pair2 wx (Pl wx)) M2) := HP2.out.keep (hX _ HP2.out.lt)
                have HXk : Hid (wk.heap[wo.heap.size]? = some (.cells #[.pointer (some e.x), .pointer (some e.y)] 63)) := (hX _ hob).trans HBOX.out
                have hpx : PlainAt wk ⟨xkb, xko + k * 3, none⟩ := HLX.out.plain HBk.out
                have hpy : PlainAt wk ⟨ykb, yko + k * 3, none⟩ := HLY.out.plain HBk.out
                have hne := neq_exprPtr wk _ _ hpx hpy
                have hK2 : ∀ y, Pair2 wx (Pl wx) y → ok2 wk y := fun y hy => by obtain ⟨s, t, h1, h2⟩ := hy; exact ⟨h1.plain HBk.out, h2.plain HBk.out⟩
                have hlook := (HPk.out.look pairK Try.underlying60 hK2 (zeroBl wk) (⟨xkb, xko + k * 3, none⟩, ⟨ykb, yko + k * 3, none⟩) ⟨hpx, hpy⟩).1
                simp only [emb2] at hlook
                have k0 := cell_of_blk hkk 0 _ rfl
                have k1 := cell_of_blk hkk 1 _ rfl
                have HK2 : Hid (∀ y, Pair2 wx (Pl wx) y → ok2 wk y) := hK2
                have HPP : Hid (PlainAt wk ⟨xkb, xko + k * 3, none⟩ ∧ PlainAt wk ⟨ykb, yko + k * 3, none⟩) := ⟨hpx, hpy⟩
                have HSK : ∀ (hs : (⟨xkb, xko + k * 3, none⟩ : Addr) = ⟨ykb, yko + k * 3, none⟩ ∨ (M2 (⟨xkb, xko + k * 3, none⟩, ⟨ykb, yko + k * 3, none⟩)).isSome = true), IRel wx w.heap.size wo.heap.size a b l' e (k + 1) (.slice (some ⟨g2, 0, none⟩) l2.length cp2) wk := fun hs =>
                  ⟨l2, M2, HOk.out, ⟨_, _, rfl⟩, HNB.out, HXk.out, HPk.out, HM2.out, HL2.out, by have h1 := HSZ2.out; rw [szL_take_succ _ _ hlt]; omega, HI2.out, HKS.out.succ HAX.out HAY.out hs, HBk.out⟩
                have HSK : Hid _ := HSK
                have HWK : Hid (wk.heap.size = wr.heap.size + 1 ∧ ∀ j, j < wr.heap.size → wk.heap[j]? = wr.heap[j]?) := ⟨hks, hX⟩
                have hwks : wr.heap.size < wk.heap.size := by omega
                clear hpx hpy hK2 hwk hX hkk hks c0 c1 s2 u2
                by_cases hzz : (⟨xkb, xko + k * 3, none⟩ : Addr) = ⟨ykb, yko + k * 3, none⟩
                · rw [decide_eq_true hzz] at hne
                  have HR := HSK.out (Or.inl hzz)
                  have HR : Hid _ := HR
                  clear hzz hlook
                  go_wp2_with fail
                  go_roundw
                  case rel => exact ⟨k + 1, by omega, by go_num, HR.out⟩
                  case measure => simp [intOf]; omega
                · rw [decide_eq_false hzz] at hne
                  cases hMk : M2 (⟨xkb, xko + k * 3, none⟩, ⟨ykb, yko + k * 3, none⟩) with
                  | some u =>
                    have HR := HSK.out (Or.inr (by rw [hMk]; rfl))
                    have HR : Hid _ := HR
                    obtain rfl := HM2.out _ _ hMk
                    rw [hMk] at hlook
                    simp only [Option.getD_some] at hlook
                    clear hzz hMk
                    go_wp2_with fail
                    go_roundw
                    case rel => exact ⟨k + 1, by omega, by go_num, HR.out⟩
                    case measure => simp [intOf]; omega
                  | none =>
                    rw [hMk] at hlook
                    simp only [Option.getD_none] at hlook
                    clear hzz hMk
                    have hl2 : l2.length ≤ 1099511627777 := by
                      have h1 := HSZ2.out
                      have h2 := HSZ.out
                      have h3 := szL_take_le e.s.kids k
                      have h4 := wkSz_len l2
                      rw [wkSz_snoc, szT_eq] at h2
                      omega
                    have hgb : w.heap.size + 2 < wk.heap.size := HPk.out.lt
                    go_wp2_with (first
                      | (at_mapUpdate; refine wpList_store_p _ rfl _ _ _ 60 rfl 63 4 pairK Try.underlying60 (w.heap.size + 2) _ M2 rfl HPk.out HK2.out (⟨xkb, xko + k * 3, none⟩, ⟨ykb, yko + k * 3, none⟩) rfl HPP.out ⟨_, _, HLX.out, HLY.out⟩ (.bool true) rfl ?_; intro o' hp; obtain ⟨w1, hw1⟩ : ∃ w1, w1 = ({ wk with heap := wk.heap.setIfInBounds (w.heap.size + 2) o' } : World) := ⟨_, rfl⟩; rw [← hw1] at hp ⊢; have hX1 : ∀ j, j ≠ w.heap.size + 2 → w1.heap[j]? = wk.heap[j]? := (by intro j hj; rw [hw1]; exact set_other_block wk _ o' hj); have hz1 : w1.heap.size = wk.heap.size := (by rw [hw1]; exact set_size wk _ o'); have HP1 : Hid (PMap emb2 w1 (w.heap.size + 2) (Pair2 wx (Pl wx)) (pput M2 (⟨xkb, xko + k * 3, none⟩, ⟨ykb, yko + k * 3, none⟩) (.bool true))) := hp; have HB1 : Hid (Below wx.heap.size wx w1) := (by rw [hw1]; exact HBk.out.trans (set_below wk _ o' (by have := HXS.out; omega))); have k0' := (World.cell?_of_block (a := ⟨wr.heap.size, 0, none⟩) (hX1 _ (by have := HP2.out.lt; show wr.heap.size ≠ _; omega))).trans k0; have k1' := (World.cell?_of_block (a := ⟨wr.heap.size, 1, none⟩) (hX1 _ (by have := HP2.out.lt; show wr.heap.size ≠ _; omega))).trans k1; have HO1 : Hid (w1.ownsRow (w.heap.size + 3) 63 2 (.slice (some ⟨g2, 0, none⟩) l2.length cp2) l2.length (wkCells l2)) := own_keep HOk.out (fun j hj _ => hX1 j (by omega)); have HX1 : Hid (w1.heap[wo.heap.size]? = some (.cells #[.pointer (some e.x), .pointer (some e.y)] 63)) := (hX1 _ (by have := HP.out.lt; omega)).trans HXk.out; have HZ1 : Hid (w1.heap.size = wk.heap.size) := hz1; have hgb1 : w.heap.size + 2 < w1.heap.size := (by omega); clear hX1 hw1 hp k0 k1 hz1 hgb hlook hne)
                      | (at_builtin; refine wpList_append_where _ rfl _ _ 64 rfl (w.heap.size + 3) 63 iE zE 2 16 Try.underlying64 HE.out.1 HE.out.2.1 HE.out.2.2.1 HE.out.2.2.2.1 HE.out.2.2.2.2 (by decide) _ _ _ rfl (own_keep HO1.out (fun j _ hj => Deep.blk_alloc_lt _ _ j hj)) ⟨w1.heap.size, 0, none⟩ 1 1 [.pointer (some ⟨xkb, xko + k * 3, none⟩), .pointer (some ⟨ykb, yko + k * 3, none⟩)] rfl rfl (fun j u hu => box2_cell w1 _ _ j u (by simpa using hu)) (by simp [Value.oneCell']) (by unfold maxLen; omega) (by omega) (by rw [Deep.nblk_alloc]; omega) (by omega) ?_; intro v' w3 hown' hgrow hwh; have HW3 : Hid (IRel wx w.heap.size wo.heap.size a b l' e (k + 1) v' w3) := iRel_push HB1.out HX1.out HP1.out HM2.out HL2.out HSZ2.out HI2.out HKS.out HAX.out HAY.out HLX.out HLY.out HXY.out hlt HNB.out hown' hgrow hwh (by have := HZ1.out; have := HWK.out.1; omega) (by omega) HXS.out hg2.out; obtain ⟨g3, c3, rfl, -⟩ := own_form hown' (by omega); clear hown' hgrow hwh k0' k1'))
                    go_roundw
                    case rel => exact ⟨k + 1, by omega, by go_num, HW3.out⟩
                    case measure => simp [intOf]; omega
              · have hke : k = e.s.kids.length := by omega
                have HF2 : Hid (SRel wx w.heap.size a b (wkSz l2) (.slice (some ⟨g2, 0, none⟩) l2.length cp2) wr ∧ wkSz l2 < wkSz (l' ++ [e])) := by
                  have h1 := HSZ2.out
                  have h2 := HSZ.out
                  have h3 := HKS.out
                  rw [hke] at h1 h3
                  rw [List.take_length] at h1
                  rw [wkSz_snoc, szT_eq] at h2
                  refine ⟨⟨l2, M2, rfl, HO2.out, ⟨_, _, rfl⟩, HP2.out, HM2.out, HL2.out, by omega, HI2.out.close (Done.of (HL.out e (by simp)) HS.out.1 HS.out.2.1 HS.out.2.2 h3), HB2.out⟩, ?_⟩
                  rw [wkSz_snoc, szT_eq]
                  omega
                clear hke
                go_wp2_with fail
                go_roundg (wkSz l2)
                case rel => exact HF2.out.1
                case measure => exact HF2.out.2
          · have t1 : (e.s.op != e.t.op) = false := by simpa using ho
            have t2 : (e.s.num != e.t.num) = false := by simpa using hn
            have t3 : ((e.s.kids.length : Int) != e.t.kids.length) = true := by simp; omega
            have HN : Hid (¬ a = b) := fun h => hkl (by rw [HXY.out h])
            clear ho hn hkl
            go_wp2_with fail
            go_quiet (fail)
            go_wp2_with fail
            go_ret
            exact ⟨⟨false, rfl, by simpa using HN.out⟩, below_drewN (HF.out _) _⟩
        · have t1 : (e.s.op != e.t.op) = false := by simpa using ho
          have t2 : (e.s.num != e.t.num) = true := by simpa using hn
          have HN : Hid (¬ a = b) := fun h => hn (by rw [HXY.out h])
          clear ho hn
          go_wp2_with fail
          go_quiet (fail)
          go_wp2_with fail
          go_ret
          exact ⟨⟨false, rfl, by simpa using HN.out⟩, below_drewN (HF.out _) _⟩
      · have t1 : (e.s.op != e.t.op) = true := by simpa using ho
        have HN : Hid (¬ a = b) := fun h => ho (by rw [HXY.out h])
        clear ho
        go_wp2_with fail
        go_quiet (fail)
        go_wp2_with fail
        go_ret
        exact ⟨⟨false, rfl, by simpa using HN.out⟩, below_drewN (HF.out _) _⟩
end Go.Proofs.Ytjdlfpdljmohiaa
/-
  WHAT THE READING OF AN ARGUMENT GIVES: a slice of bytes.
-/
namespace Go.Proofs.Ytjdlfpdljmohiaa
open Go.RowKit
set_option linter.unusedVariables false
set_option linter.unusedSimpArgs false
section
variable {H : Type} {enc : TypeId × Value → H} {w : World} {base : Nat} {spare : Nat → Bool} {held : Bool}

theorem trod_bytes (fuel : Nat) (v : Value) (x : DataW H × List MemPlace) (h : DataW.trod enc Try.prog w base spare held fuel 22 [v] = some x) : ∃ len, BytesOn w (Lt w.heap.size) len v := by
  have hC : Try.prog.cellsOf 5 = 1 := by kernel_rfl
  rcases DataW.trod_slice Try.underlying22 h with ⟨h0', _⟩ | ⟨a, len, cap, elems, rest, n, hfu, hv, _, hb, hl, hm, hlen, hel, _, _⟩
  · simp only [List.cons.injEq, and_true] at h0'
    exact ⟨0, none, 0, h0', by simp, by simp [maxLen], Or.inl rfl⟩
  · simp only [List.cons.injEq, and_true] at hv
    have key : ∀ i, i < len → ∃ z : Int, w.cell? (a.add (i * 1)) = some (.int .u8 z) ∧ 0 ≤ z ∧ z ≤ 255 := by
      intro i hi
      have hh := hel i hi
      rw [hC] at hh
      obtain ⟨cs, hcs, hd⟩ := Option.bind_eq_some_iff.1 (hh.trans (List.getElem?_eq_getElem (by omega)))
      obtain ⟨_, hl1, hcell⟩ := World.cells?_some hcs
      obtain ⟨p, rfl⟩ : ∃ p, cs = [p] := by
        match cs, hl1 with
        | [p], _ => exact ⟨p, rfl⟩
      obtain ⟨z, e0, _, w0⟩ := DataW.trod_int Try.underlying5 hd
      simp only [List.cons.injEq, and_true] at e0
      have g0 := hcell 0 (by omega)
      exact ⟨z, by rw [← e0]; simpa [Addr.add] using g0, bounds_u8 w0⟩
    subst hv
    refine ⟨len, some a, cap, rfl, hl, hm, ?_⟩
    by_cases hz : len = 0
    · left; exact hz
    right
    obtain ⟨bl, off, spot⟩ := a
    obtain ⟨z0, g0, -⟩ := key 0 (by omega)
    have hspot : spot = none := by simpa [Addr.add] using World.cell?_spot g0
    subst hspot
    refine ⟨bl, off, rfl, by have := cell_lt g0; simpa [Addr.add, Lt] using this, fun i hi => ?_⟩
    obtain ⟨z, g, hz'⟩ := key i hi
    rw [WideShapes.add_plain, Nat.mul_one] at g
    exact ⟨z, g, hz'⟩
end
end Go.Proofs.Ytjdlfpdljmohiaa
