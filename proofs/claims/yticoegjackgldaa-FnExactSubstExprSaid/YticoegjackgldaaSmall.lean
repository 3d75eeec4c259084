/-
  THE MODEL's l1Small: has the result of a replacement not too many nodes?
-/
import Derived.Test.YticoegjackgldaaSpecVars
import Derived.Test.YticoegjackgldaaSpecValid
import Derived.Test.YticoegjackgldaaSubT
import Derived.IntWalk
namespace Go.Proofs.Yticoegjackgldaa
set_option linter.unusedVariables false
set_option linter.unusedSimpArgs false
open Go.RowKit

theorem valid_is (t : Tr) (vars defs : Int) (h : 0 ≤ vars ∧ vars ≤ 4 ∧ 0 ≤ defs ∧ defs ≤ 6) : validB t vars defs = isB t vars defs := by
  unfold validB isB
  rw [decide_eq_true h, Bool.true_and]
  congr 1
  exact decide_eq_decide.2 (by omega)
theorem valid_big (t : Tr) (vars defs : Int) (h : 4 < vars) : validB t vars defs = false := by
  unfold validB
  rw [decide_eq_false (by omega), Bool.false_and]
theorem valid_sz {t : Tr} {vars defs : Int} (h : validB t vars defs = true) : 1 + szT t ≤ 60 := by
  unfold validB at h
  simp only [Bool.and_eq_true, decide_eq_true_eq] at h
  exact h.2.2

theorem isV_isVar : isV = isVar := rfl
/-- what the first arguments add -/
def gainK (args : List Tr) (u : Nat → Nat) (k : Nat) : Nat := ((List.range k).map fun i => u i * szT (args.getD i default)).sum
theorem gainK_zero (args : List Tr) (u : Nat → Nat) : gainK args u 0 = 0 := rfl
theorem gainK_succ (args : List Tr) (u : Nat → Nat) (k : Nat) (h : k < args.length) : gainK args u (k + 1) = gainK args u k + u k * szT args[k] := by
  unfold gainK
  rw [List.range_succ, List.map_append, List.sum_append]
  simp [h]
theorem gainK_le (args : List Tr) (u : Nat → Nat) (hu : ∀ i, u i ≤ 60) (hs : ∀ i (h : i < args.length), szT args[i] ≤ 60) : ∀ k, k ≤ args.length → gainK args u k ≤ 3600 * k
  | 0, _ => by simp [gainK_zero]
  | k + 1, h => by
    have := gainK_le args u hu hs k (by omega)
    rw [gainK_succ args u k (by omega)]
    have h1 : u k * szT args[k] ≤ 60 * 60 := Nat.mul_le_mul (hu k) (hs k (by omega))
    omega

set_option maxRecDepth 100000 in
set_option maxHeartbeats 1600000 in
theorem small_calls (args : List Tr) (av : Value) (e : Tr) (c : Value) (w : World) (ha : In w args av) (hk : In w e.kids c) (hal : args.length ≤ 4) (hz : 1 + szT e ≤ 60) (hs : ∀ i (h : i < args.length), 1 + szT args[i] ≤ 60) (hv : AllT (VarOk args.length) e) :
    Calls Try.prog 58 #[.agg #[.int .i64 e.op, .int .i64 e.num, c], av] w fun en w' => en = .returned (.bool (decide (1 + szT (sbT args e) ≤ 60))) ∧ Below w.heap.size w w' := by
  have HA : Hid (In w args av) := ha
  have HK : Hid (In w e.kids c) := hk
  have HSZ : Hid (∀ i (h : i < args.length), 1 + szT args[i] ≤ 60) := hs
  have HU : Hid (∀ i, cntT (isVar i) e ≤ 60) := fun i => by have := cntT_le (isVar i) e; omega
  have HSB : Hid (szT (sbT args e) = szT e + gainK args (fun i => cntT (isVar i) e) args.length) := sz_sbT args e hv
  obtain ⟨ad, cap, rfl, -, -, -⟩ := hk
  obtain ⟨ada, capa, rfl, -, hma, -⟩ := ha
  unfold maxLen at hma
  obtain ⟨q, hq⟩ : ∃ q : Nat, q = 1 + szT e := ⟨_, rfl⟩
  have HQ : Hid (q = 1 + szT e) := hq
  have hq60 : q ≤ 60 := by omega
  have HCE : Hid (cntOut e 60 = (q : Int)) := by
    show cntOut e 60 = (q : Int)
    unfold cntOut
    rw [if_pos (by omega)]
    omega
  have hbx := box_below w (.cells #[.int .i64 e.op, .int .i64 e.num, .slice ad e.kids.length cap] 29)
  have HB0 : Hid _ := hbx
  have hmk : ∀ w : World, (Instr.makeSlice 54 (.int .i64 4) (.int .i64 4)).run Try.prog w = .ok (.slice (some ⟨w.heap.size, 0, none⟩) 4 4) (w.alloc (.cells (madeCells #[.int .i64 0] 4) 3)) := fun w => make_ints 4 (by omega) w
  have HZ2 : Hid (szT e ≤ 60) := by unfold Hid; omega
  clear hs hv hz hq hbx
  go_enter Try.func58, Try.ntmps58
  go_wp2_with fail
  refine (cnt_calls e _ 60 _ (HK.out.next HB0.out) (by omega) (by omega)).mono ?_
  rw [HCE.out]
  rintro en w1 ⟨rfl, hb1⟩
  obtain ⟨a0, a1, a2, hz1, HB1⟩ := box_after hb1
  have HB1 : Hid (Below w.heap.size w w1) := HB1
  clear hb1
  go_wp2_with fail
  have hrow := zero_row w1 4
  have HROW : Hid _ := hrow
  have HK1 : Hid (In w1 e.kids (.slice ad e.kids.length cap)) := HK.out.next HB1.out
  have hb2 := box_below w1 (.cells (madeCells #[.int .i64 0] 4) 3)
  have HB2 : Hid _ := hb2
  clear hrow hb2
  go_region_with ((go_at_call 66; go_must (refine (uses_calls e w1.heap.size 4 (fun _ => 0) _ _ _ _ ?_ (by omega) (fun i _ => by have := HZ2.out; omega) ?_ rfl rfl).mono ?_); go_must (exact HROW.out); go_must (exact HK1.out.mono (fun k hk => ⟨Nat.ne_of_lt hk, Nat.lt_of_lt_of_le hk HB2.out.size⟩) (fun k hk => HB2.out.block k hk)); go_must (rintro en w3 ⟨rfl, hr3, hb3⟩); go_must (have HR3 : Hid (w3.rowIs w1.heap.size 3 4 (fun i => .int .i64 ((0 + cntT (isV i) e : Nat) : Int))) := hr3); go_must (have HB3 : Hid (Below w1.heap.size w1 w3) := HB2.out.trans (((Below.refl _ _).drew.trans (hb3.below (B := w1.heap.size) (by simp) HB2.out.size)))); clear hr3 hb3))
  all_goals
    clear hmk
    go_wp2_with fail
    have HB4 : Hid (Below w.heap.size w w3) := HB1.out.trans (HB3.out.mono HB1.out.size)
    have hg3 : w1.heap.size < w3.heap.size := HR3.out.lt
    go_loopw [5, 7] (fun n i wr => ∃ k : Nat, k ≤ args.length ∧ i = .int .i64 k ∧ n = .int .i64 ((q + gainK args (fun i => cntT (isVar i) e) k : Nat) : Int) ∧ Below w3.heap.size w3 wr) (fun _ i _ => args.length - (intOf i).toNat)
    case atStart => exact ⟨0, Nat.zero_le _, rfl, by simp [gainK_zero], Below.refl _ _⟩
    case round =>
      obtain ⟨k, hk, rfl, rfl, hb⟩ := hrel
      have HB : Hid (Below w3.heap.size w3 wr) := hb
      have HBA : Hid (Below w.heap.size w wr) := HB4.out.trans (hb.mono HB4.out.size)
      have hgl := gainK_le args (fun i => cntT (isVar i) e) HU.out (fun i h => by have := HSZ.out i h; omega) k hk
      by_cases hlt : k < args.length
      · obtain ⟨_, _, he, -, -, hr⟩ := HA.out.next HBA.out
        cases he
        rcases hr with hnil | ⟨bl, off, rfl, hbl, hr⟩
        · rw [hnil] at hlt; simp at hlt
        obtain ⟨p', q', r, e0, e1, e2, ht⟩ := RowOn.at args off k hlt hr
        obtain ⟨rfl, rfl, io, iN, hkk⟩ := trOn_iff.1 ht
        have HKK : Hid (In wr args[k].kids r) := hkk
        have hbl' : bl < wr.heap.size := hbl
        obtain ⟨adk, capk, rfl, -, -, -⟩ := hkk
        obtain ⟨x, hx⟩ : ∃ x : Nat, x = cntT (isVar k) e := ⟨_, rfl⟩
        obtain ⟨y, hy⟩ : ∃ y : Nat, y = szT args[k] := ⟨_, rfl⟩
        obtain ⟨z, hz⟩ : ∃ z : Nat, z = x * y := ⟨_, rfl⟩
        have hx60 : x ≤ 60 := by rw [hx]; exact HU.out k
        have hy60 : y ≤ 60 := by rw [hy]; have := HSZ.out k hlt; omega
        have hz36 : z ≤ 3600 := by rw [hz]; exact Nat.mul_le_mul hx60 hy60
        have c0 : wr.cell? ⟨w1.heap.size, k, none⟩ = some (.int .i64 (x : Int)) := by
          have h := (HR3.out.of_block (HB.out.block _ hg3)).cell (i := k) (by omega)
          rw [h, hx, Nat.zero_add]
          rfl
        have HCK : Hid (cntOut args[k] 60 = 1 + (y : Int)) := by
          show cntOut args[k] 60 = 1 + (y : Int)
          unfold cntOut
          have := HSZ.out k hlt
          rw [if_pos (by omega), hy]
        obtain ⟨n, hn⟩ : ∃ n : Nat, n = q + gainK args (fun i => cntT (isVar i) e) k := ⟨_, rfl⟩
        have hnb : n ≤ 20000 := by omega
        have HN : Hid (q + gainK args (fun i => cntT (isVar i) e) (k + 1) = n + z) := by
          show q + gainK args (fun i => cntT (isVar i) e) (k + 1) = n + z
          rw [gainK_succ _ _ _ hlt, hn, hz, hx, hy, Nat.add_assoc]
        rw [← hn]
        have w1' : IntKind.i64.wrap (1 + (y : Int) - 1) = (y : Int) := by rw [IntWalk.i64_in _ (by omega)]; omega
        have w2' : IntKind.i64.wrap ((x : Int) * (y : Int)) = (z : Int) := by
          have e3 : (x : Int) * (y : Int) = (z : Int) := by rw [hz]; push_cast; rfl
          rw [e3, IntWalk.i64_in _ (by omega)]
        have w3' : IntKind.i64.wrap ((n : Int) + (z : Int)) = ((n + z : Nat) : Int) := by rw [IntWalk.i64_in _ (by omega)]; push_cast; rfl
        have hgw : w1.heap.size < wr.heap.size := by have := HB.out.size; omega
        clear ht hr io iN hbl hb hx hy hz hn hgl
        go_wp2_with fail
        go_region_with ((go_at_call 73; go_must (refine (cnt_calls args[k] _ 60 _ ?_ (by omega) (by omega)).mono ?_); go_must (exact HKK.out.drew); go_must (rw [HCK.out]); go_must (rintro en w4 ⟨rfl, hb4⟩); go_must (have c1 := (hb4.cell (p := ⟨w1.heap.size, k, none⟩) hgw).trans c0); go_must (have HB5 : Hid (Below w3.heap.size w3 w4) := HB.out.trans (((Below.refl _ _).drew.trans hb4).mono HB.out.size)); clear hb4))
        all_goals
          clear w1' w2' w3'
          go_wp2_with fail
          go_roundw
          case rel => exact ⟨k + 1, by omega, by go_num, congrArg (Value.int .i64) (by rw [HN.out]; push_cast; rfl), HB5.out⟩
          case measure => simp [intOf]; omega
      · have hke : k = args.length := by omega
        obtain ⟨n, hn⟩ : ∃ n : Nat, n = q + gainK args (fun i => cntT (isVar i) e) k := ⟨_, rfl⟩
        have HN : Hid (1 + szT (sbT args e) = n) := by
          show 1 + szT (sbT args e) = n
          rw [HSB.out, hn, hke, HQ.out]
          omega
        rw [← hn]
        clear hke hn hgl hb
        have HD : Hid (decide ((n : Int) ≤ 60) = decide (1 + szT (sbT args e) ≤ 60)) := by
          show decide ((n : Int) ≤ 60) = decide (1 + szT (sbT args e) ≤ 60)
          rw [HN.out]
          exact decide_eq_decide.2 (by omega)
        go_wp2_with fail
        go_ret
        exact ⟨ret_bool HD.out, HBA.out⟩
end Go.Proofs.Yticoegjackgldaa
