/-
  THE MODEL's l3From, l3Numbers: what can be reached.
-/
import Derived.Test.YticoegjackgldacStk
import Derived.Test.YticoegjackgldacSpecGraph
import Derived.Deep.LoopGhost
namespace Go.Proofs.Yticoegjackgldac
set_option linter.unusedVariables false
set_option linter.unusedSimpArgs false
open Go.RowKit

/-- marks in a new row -/
def NewMarks (n : Nat) (fl : Nat → Bool) (w : World) (e : Ending) (w' : World) : Prop :=
  ∃ b, e = .returned (.slice (some ⟨b, 0, none⟩) n n) ∧ w.heap.size ≤ b ∧ Marks w' b n fl ∧ Below w.heap.size w w'

set_option maxRecDepth 100000 in
set_option maxHeartbeats 1600000 in
theorem l3From_calls (g : List Ce) (r : Nat) (v : Value) (w : World) (fl : Nat → Bool) (hk : CIn w g v) (hg : graphB g 6 = true) (hr : r < g.length) (hfl : ∀ a, fl a = true ↔ Reach g r a) :
    Calls Try.prog 15 #[v, .int .i64 (r : Int)] w (NewMarks g.length fl w) := by
  have HK : Hid (CIn w g v) := hk
  obtain ⟨ad, cap, rfl, hl, hm, -⟩ := hk
  have HG : Hid (graphB g 6 = true) := hg
  have HFL : Hid (∀ a, fl a = true ↔ Reach g r a) := hfl
  have h400 : g.length ≤ 400 := graphB_len hg
  have hmk := make_bools g.length (by omega)
  obtain ⟨iI, zI, hIE⟩ := infoI1
  have HE : Hid (Try.prog.info? 3 = some iI ∧ iI.zero = some zI ∧ iI.size = 1 ∧ iI.bytes = 8 ∧ zI.cells.size = 1) := hIE
  have HM0 : Hid (Marks (w.alloc (.cells (madeCells #[.bool false] g.length) 4)) w.heap.size g.length (fun _ => false)) := no_marks w g.length
  obtain ⟨w1, hw1⟩ : ∃ w1 : World, w1 = w.alloc (.cells (madeCells #[.bool false] g.length) 4) := ⟨_, rfl⟩
  have HW1 : Hid (w1 = w.alloc (.cells (madeCells #[.bool false] g.length) 4)) := hw1
  have hz1 : w1.heap.size = w.heap.size + 1 := by rw [hw1]; exact Deep.nblk_alloc _ _
  have HZ1 : Hid (w1.heap.size = w.heap.size + 1) := hz1
  clear hg hfl hl hm hIE hw1 hz1
  go_enter Try.func15, Try.ntmps15
  go_wp2_with fail
  go_loopg [6] (4 * g.length + 2) (fun k wk wr => ∃ (f : Nat → Bool) (ws : List Nat), Stk wr (w.heap.size + 1) ws wk ∧ Marks wr w.heap.size g.length f ∧ SInv g r f ws ∧ 4 * unset f g.length + ws.length < k ∧ 4 * unset f g.length + ws.length ≤ 4 * g.length + 1 ∧ Below w.heap.size w wr)
  case atStart =>
    have h0 := unset_le (fun _ => false) g.length
    refine ⟨fun _ => false, [r], ?_, ?_, SInv.start g r hr, ?_, ?_, ?_⟩
    · have h := Stk.one (w.alloc (.cells (madeCells #[.bool false] g.length) 4)) (w.heap.size + 1) r (by rw [Deep.nblk_alloc]; exact Nat.le_refl _)
      rw [Deep.nblk_alloc] at h
      exact h
    · exact HM0.out.of_block (Deep.blk_alloc_lt _ _ _ (by simp))
    · simp; omega
    · simp; omega
    · exact ((Below.refl _ _).alloc (Nat.le_refl _) _).alloc (by simp) _
  case round =>
    obtain ⟨f, ws, hst, hmk2, hinv, hms, hwl, hb⟩ := hrel
    have HB : Hid (Below w.heap.size w wr) := hb
    have HMK : Hid (Marks wr w.heap.size g.length f) := hmk2
    have HS : Hid (Stk wr (w.heap.size + 1) ws _) := hst
    have HI : Hid (SInv g r f ws) := hinv
    by_cases h0 : ws.length = 0
    · obtain rfl : ws = [] := List.eq_nil_of_length_eq_zero h0
      obtain ⟨ad2, cap2, rfl⟩ := hst.len
      have HV : Hid (Marks wr w.heap.size g.length fl) := by
        have := marks_eq (f := f) (f' := fl) (g := g) (r := r) hinv.done HFL.out
        rw [← this]; exact HMK.out
      clear hst hmk2 hinv hb
      go_wp2_with fail
      go_ret
      exact ⟨_, rfl, Nat.le_refl _, HV.out, HB.out⟩
    · obtain ⟨rest, a, rfl⟩ := split_last ws (by omega)
      obtain ⟨gb, capw, rfl, hgb, hgl, hcl, hcm, ct, hst2⟩ := hst.top
      have HS2 : Hid (Stk wr (w.heap.size + 1) rest (.slice (some ⟨gb, 0, none⟩) rest.length capw)) := hst2
      have ha := hinv.wk a (List.mem_append_right _ (by simp))
      have hal : a < g.length := ha.2
      have cm := hmk2.cell (i := a) hal
      have fm := hmk2.frozen a
      have hgb2 : gb ≠ w.heap.size := by omega
      unfold maxLen at hcm
      simp only [List.length_append, List.length_cons, List.length_nil, Nat.zero_add] at hms hwl h0
      obtain ⟨bl, off, r2, rfl, c0w, c1w, c2w, -, -, hkk⟩ := HK.out.at a hal
      have hbl : bl < w.heap.size := cell_lt c0w
      have c2 := (hb.cell (p := ⟨bl, off + a * 3 + 2, none⟩) hbl).trans c2w
      have HKK : Hid (IIn w g[a].kids r2) := hkk
      clear c0w c1w c2w
      clear hst hst2 hmk2 hinv hb ha
      cases hf : f a with
      | true =>
        rw [hf] at cm
        have HI2 : Hid (SInv g r f rest) := HI.out.old hf
        go_wp2_with fail
        go_roundg (4 * unset f g.length + rest.length + 1)
        case measure => omega
        case rel => exact ⟨f, rest, HS2.out, HMK.out, HI2.out, by omega, by omega, HB.out⟩
      | false =>
        rw [hf] at cm
        obtain ⟨ad3, cap3, rfl, -, -, -⟩ := id hkk
        have hun := unset_set f a hf g.length hal
        have hkl := kidsN_len HG.out a hal
        have HI2 : Hid (SInv g r (setF f a) (rest ++ kidsN g a)) := HI.out.new HG.out
        have hne : ∀ k, k ≠ w.heap.size → (wr.setCell ⟨w.heap.size, a, none⟩ (.bool true)).heap[k]? = wr.heap[k]? := fun k hk => Below.heap_setCell _ _ _ _ (fun e => hk e)
        have hsz3 : (wr.setCell ⟨w.heap.size, a, none⟩ (.bool true)).heap.size = wr.heap.size := size_setCell _ _ _
        have HS3 : Hid (Stk (wr.setCell ⟨w.heap.size, a, none⟩ (.bool true)) (w.heap.size + 1) rest (.slice (some ⟨gb, 0, none⟩) rest.length capw)) := HS2.out.keep fun k hk _ => hne k (by omega)
        have HMK3 : Hid (Marks (wr.setCell ⟨w.heap.size, a, none⟩ (.bool true)) w.heap.size g.length (setF f a)) := HMK.out.mark a
        have HB3 : Hid (Below w.heap.size w (wr.setCell ⟨w.heap.size, a, none⟩ (.bool true))) := HB.out.setCell (Nat.le_refl _) _
        have d2 : (wr.setCell ⟨w.heap.size, a, none⟩ (.bool true)).cell? ⟨bl, off + a * 3 + 2, none⟩ = some (.slice ad3 g[a].kids.length cap3) := (World.cell?_of_block (hne bl (by omega))).trans c2
        have HLO : Hid (w.heap.size + 1 ≤ (wr.setCell ⟨w.heap.size, a, none⟩ (.bool true)).heap.size) := by unfold Hid; omega
        have HK3 : Hid (IIn (wr.setCell ⟨w.heap.size, a, none⟩ (.bool true)) g[a].kids (.slice ad3 g[a].kids.length cap3)) := HKK.out.next HB3.out
        clear hne hsz3 c2 hkk
        go_wp2_with (at_builtin; go_must (refine wpList_push rfl _ _ rfl _ (w.heap.size + 1) rest (kidsN g a) (.slice (some ⟨gb, 0, none⟩) rest.length capw) (.slice ad3 g[a].kids.length cap3) rfl HS3.out rfl HK3.out (kids_back HG.out a hal) HLO.out (by omega) ?_); go_must (intro v' w5 hst5 hg5); go_must (have HS5 : Hid (Stk w5 (w.heap.size + 1) (rest ++ kidsN g a) v') := hst5); go_must (have hmk5 : Marks w5 w.heap.size g.length (setF f a) := HMK3.out.of_block (hg5.block _ (by have := HLO.out; omega) (by intro e; simp [Value.ownBlock] at e; omega))); go_must (have HMK5 : Hid (Marks w5 w.heap.size g.length (setF f a)) := hmk5); go_must (have HB5 : Hid (Below w.heap.size w w5) := by have hb3 := HB3.out; exact ⟨by rw [hg5.os]; exact hb3.os, by rw [hg5.tape]; exact hb3.tape, by rw [hg5.output]; exact hb3.output, Nat.le_trans hb3.size hg5.size, fun k hk => (hg5.block k (by have := hb3.size; omega) (by intro e; simp [Value.ownBlock] at e; omega)).trans (hb3.block k hk)⟩); clear hst5 hg5 hmk5 d2 cm fm ct)
        go_roundg (4 * unset (setF f a) g.length + (rest.length + (kidsN g a).length) + 1)
        case measure => omega
        case rel => exact ⟨setF f a, rest ++ kidsN g a, HS5.out, HMK5.out, HI2.out, by rw [List.length_append]; omega, by rw [List.length_append]; omega, HB5.out⟩

set_option maxRecDepth 100000 in
set_option maxHeartbeats 1600000 in
theorem l3Numbers_calls (n b : Nat) (fl : Nat → Bool) (w : World) (hm : Marks w b n fl) (hn : n ≤ 400) :
    Calls Try.prog 16 #[.slice (some ⟨b, 0, none⟩) n n] w (NewInts (numsTo fl n) w) := by
  have HM : Hid (Marks w b n fl) := hm
  have hbl : b < w.heap.size := hm.lt
  obtain ⟨iI, zI, hIE⟩ := infoI1
  have HE : Hid (Try.prog.info? 3 = some iI ∧ iI.zero = some zI ∧ iI.size = 1 ∧ iI.bytes = 8 ∧ zI.cells.size = 1) := hIE
  have h0 : ∀ C t, Stk (w.alloc (.cells C t)) w.heap.size [] (.slice none 0 0) := fun C t => World.ownsRow_nil _ _ _ _
  have H0 : Hid (Stk (w.alloc (.cells #[] 3)) w.heap.size [] (.slice (some ⟨w.heap.size, 0, none⟩) 0 0)) := ⟨rfl, Or.inr ⟨_, 0, _, rfl, Nat.le_refl _, Deep.blk_alloc_new _ _, Nat.le_refl _, by simp [maxLen], rfl, rfl⟩⟩
  clear hm hIE h0
  go_enter Try.func16, Try.ntmps16
  go_wp2_with fail
  go_loopw [3, 4] (fun o i wr => ∃ k : Nat, k ≤ n ∧ i = .int .i64 k ∧ Stk wr w.heap.size (numsN fl k) o ∧ Below w.heap.size w wr) (fun _ i _ => n - (intOf i).toNat)
  case atStart => exact ⟨0, Nat.zero_le _, rfl, H0.out, (Below.refl _ _).alloc (Nat.le_refl _) _⟩
  case round =>
    obtain ⟨k, hk, rfl, hst, hb⟩ := hrel
    have HS : Hid (Stk wr w.heap.size (numsN fl k) _) := hst
    have HB : Hid (Below w.heap.size w wr) := hb
    have hnl := numsN_len fl k
    obtain ⟨ad, cap, rfl⟩ := hst.len
    have cm := (hb.cell (p := ⟨b, k, none⟩) hbl)
    clear hst hb
    by_cases hlt : k < n
    · have cm2 := cm.trans (HM.out.cell hlt)
      clear cm
      cases hf : fl k with
      | true =>
        rw [hf] at cm2
        have HN : Hid (numsN fl (k + 1) = numsN fl k ++ [k]) := numsN_yes hf
        have HS3 : Hid (Stk (wr.alloc (.cells #[.int .i64 (k : Int)] 3)) w.heap.size (numsN fl k) (.slice ad (numsN fl k).length cap)) := HS.out.alloc _
        have HK3 : Hid (IIn (wr.alloc (.cells #[.int .i64 (k : Int)] 3)) [(k : Int)] (.slice (some ⟨wr.heap.size, 0, none⟩) 1 1)) := one_in wr k
        have HLO : Hid (w.heap.size ≤ (wr.alloc (.cells #[.int .i64 (k : Int)] 3)).heap.size) := by rw [Hid, Deep.nblk_alloc]; have := HB.out.size; omega
        have hob : ∀ j, (Value.slice ad (numsN fl k).length cap).ownBlock = some j → w.heap.size ≤ j := fun j hj => own_lo HS.out hj.symm
        have HOB : Hid (∀ j, (Value.slice ad (numsN fl k).length cap).ownBlock = some j → w.heap.size ≤ j) := hob
        clear hf hob
        go_wp2_with (at_builtin; go_must (refine wpList_push rfl _ _ rfl _ w.heap.size (numsN fl k) [k] (.slice ad (numsN fl k).length cap) (.slice (some ⟨wr.heap.size, 0, none⟩) 1 1) rfl HS3.out rfl HK3.out rfl HLO.out (by simp; omega) ?_); go_must (intro v' w5 hst5 hg5); go_must (have HS5 : Hid (Stk w5 w.heap.size (numsN fl (k + 1)) v') := by rw [HN.out]; exact hst5); go_must (have HB5 : Hid (Below w.heap.size w w5) := by have hb3 : Below w.heap.size w (wr.alloc (.cells #[.int .i64 (k : Int)] 3)) := HB.out.alloc HB.out.size _; exact ⟨by rw [hg5.os]; exact hb3.os, by rw [hg5.tape]; exact hb3.tape, by rw [hg5.output]; exact hb3.output, Nat.le_trans hb3.size hg5.size, fun j hj => (hg5.block j (by have := hb3.size; omega) (fun e => by have := HOB.out j e.symm; omega)).trans (hb3.block j hj)⟩); clear hst5 hg5 cm2)
        go_roundw
        case rel => first | exact ⟨k + 1, by omega, by go_num, HS5.out, HB5.out⟩ | ((repeat apply Exists.intro); exact ⟨⟨k + 1, by omega, by go_num, HS5.out, HB5.out⟩, rfl⟩)
        case measure => simp [intOf]; omega
      | false =>
        rw [hf] at cm2
        have HN : Hid (numsN fl (k + 1) = numsN fl k) := numsN_no hf
        clear hf
        go_wp2_with fail
        go_roundw
        case rel => exact ⟨k + 1, by omega, by go_num, by rw [HN.out]; exact HS.out, HB.out⟩
        case measure => simp [intOf]; omega
    · have hke : k = n := by omega
      have HV : Hid (NewInts (numsTo fl n) w (.returned (.slice ad (numsN fl k).length cap)) wr) := by
        subst hke; exact ⟨_, rfl, HS.out.row, HB.out⟩
      clear cm hke
      go_wp2_with fail
      go_ret
      exact HV.out

/-- no numbers, in whatever block -/
theorem no_ints (w : World) (lo : Nat) (ad : Option Addr) (cap : Nat) (h : cap ≤ maxLen) : IntRow w lo [] (.slice ad 0 cap) := ⟨ad, cap, rfl, Nat.zero_le _, h, Or.inl rfl⟩
end Go.Proofs.Yticoegjackgldac
