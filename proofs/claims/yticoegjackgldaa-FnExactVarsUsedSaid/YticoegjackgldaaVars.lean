/-
  VarsUsed, the program's and the model's: how often each variable stands in a tree, in new memory; nothing that was there is changed.
-/
import Derived.Test.YticoegjackgldaaSpecVars
import Derived.Test.YticoegjackgldaaInts
import Derived.Test.YticoegjackgldaaCountVar
namespace Go.Proofs.Yticoegjackgldaa
set_option linter.unusedVariables false
set_option linter.unusedSimpArgs false
open Go.RowKit

def varsB (vars : Int) (t : Tr) : List Int := if 0 ≤ vars ∧ vars ≤ 4 then varsOf vars.toNat t else []
/-- a call has handed back these numbers in new memory -/

theorem row_done {w : World} {g n lo : Nat} {t : Tr} (h : w.rowIs g 3 n (fun i => .int .i64 ((0 + cntT (isV i) t : Nat) : Int))) (hg : lo ≤ g) (hn : n ≤ 1048576) : IntRow w lo (varsOf n t) (.slice (some ⟨g, 0, none⟩) n n) := by
  refine ⟨_, _, by rw [varsOf_length], by rw [varsOf_length]; exact Nat.le_refl _, by unfold maxLen; omega, Or.inr ⟨g, _, rfl, hg, h, fun i hi => ?_⟩⟩
  rw [varsOf_get, Nat.zero_add]

set_option maxRecDepth 100000 in
set_option maxHeartbeats 800000 in
theorem specVars_calls (t : Tr) (c : Value) (vars : Int) (w : World) (hk : In w t.kids c) (hz : szT t ≤ 1048576) (hv : I64 vars) :
    Calls Try.prog 38 #[.agg #[.int .i64 t.op, .int .i64 t.num, c], .int .i64 vars] w (NewInts (varsB vars t) w) := by
  have HK : Hid (In w t.kids c) := hk
  obtain ⟨ad, cap, rfl, -, -, -⟩ := hk
  by_cases h0 : vars < 0
  · have hvb : varsB vars t = [] := by unfold varsB; rw [if_neg (by omega)]
    rw [hvb]
    clear hvb
    go_enter Try.func38, Try.ntmps38
    go_wp2_with fail
    go_ret
    exact ⟨_, rfl, ⟨_, _, rfl, Nat.le_refl _, by simp [maxLen], Or.inl rfl⟩, (box_below _ _).trans ((box_below _ _).mono (by simp))⟩
  by_cases h4 : 4 < vars
  · have hvb : varsB vars t = [] := by unfold varsB; rw [if_neg (by omega)]
    rw [hvb]
    clear hvb
    go_enter Try.func38, Try.ntmps38
    go_wp2_with fail
    go_ret
    exact ⟨_, rfl, ⟨_, _, rfl, Nat.le_refl _, by simp [maxLen], Or.inl rfl⟩, (box_below _ _).trans ((box_below _ _).mono (by simp))⟩
  obtain ⟨n, rfl⟩ : ∃ n : Nat, vars = n := ⟨vars.toNat, by omega⟩
  have hvb : varsB (n : Int) t = varsOf n t := by unfold varsB; rw [if_pos (by omega)]; rfl
  rw [hvb]
  have hmk := make_ints n (by omega)
  clear hvb
  have hb1 := box_below w (.cells #[.int .i64 t.op, .int .i64 t.num, .slice ad t.kids.length cap] 29)
  have hb2 := box_below (w.alloc (.cells #[.int .i64 t.op, .int .i64 t.num, .slice ad t.kids.length cap] 29)) (.cells (madeCells #[.int .i64 0] n) 3)
  have hrow := zero_row (w.alloc (.cells #[.int .i64 t.op, .int .i64 t.num, .slice ad t.kids.length cap] 29)) n
  rw [Deep.nblk_alloc] at hb2 hrow
  have HROW : Hid _ := hrow
  have HBB : Hid (Below w.heap.size w ((w.alloc (.cells #[.int .i64 t.op, .int .i64 t.num, .slice ad t.kids.length cap] 29)).alloc (.cells (madeCells #[.int .i64 0] n) 3))) := hb1.trans (hb2.mono (by omega))
  clear hb1 hb2 hrow
  go_enter Try.func38, Try.ntmps38
  go_wp2_with fail
  go_region_with ((go_at_call 66; go_must (refine (uses_calls t (w.heap.size + 1) n (fun _ => 0) _ _ _ _ ?_ (by omega) (fun i _ => by omega) ?_ rfl rfl).mono ?_); go_must (exact HROW.out); go_must (exact HK.out.mono (fun k hk => ⟨by have : k < w.heap.size := hk; omega, Nat.lt_of_lt_of_le hk HBB.out.size⟩) (fun k hk => HBB.out.block k hk)); go_must (rintro e w3 ⟨rfl, hr3, hb3⟩); go_must (have HR3 : Hid (IntRow w3 w.heap.size (varsOf n t) (.slice (some ⟨w.heap.size + 1, 0, none⟩) n n)) := row_done hr3 (by omega) (by omega)); go_must (have HB3 : Hid (Below w.heap.size w w3) := HBB.out.trans ((Below.refl _ _).drew.trans (hb3.below (by simp) (by have := HBB.out.size; exact this)))); clear hr3 hb3))
  all_goals
    go_wp2_with fail
    go_ret
    exact ⟨_, rfl, HR3.out, HB3.out⟩

set_option maxRecDepth 100000 in
set_option maxHeartbeats 800000 in
/-- the closure of VarsUsed -/
theorem want_var (w0 : World) (vb n : Nat) (hv : w0.cell? ⟨vb, 0, none⟩ = some (.int .i64 (n : Int))) : cntVar.WantSaid w0 vb (isV n) := by
  intro t c W hb hk
  have hvb := (hb.cell (p := ⟨vb, 0, none⟩) (cell_lt hv)).trans hv
  have hvl := cell_lt hvb
  simp only at hvl
  obtain ⟨ad, cap, rfl, -, -, -⟩ := hk
  clear hb hv
  by_cases h1 : t.op = 1
  · have t1 : (t.op == 1) = true := by simpa using h1
    cases h2 : (t.num == (n : Int)) with
    | true =>
      have hx : isV n t = true := by simp [isV, h1, h2]
      rw [hx]
      clear h1 hx
      go_enter Try.func67, Try.ntmps67
      go_wp2_with fail
      go_ret
      exact ⟨rfl, box_below _ _⟩
    | false =>
      have hx : isV n t = false := by simp [isV, h1, h2]
      rw [hx]
      clear h1 hx
      go_enter Try.func67, Try.ntmps67
      go_wp2_with fail
      go_ret
      exact ⟨rfl, box_below _ _⟩
  · have t1 : (t.op == 1) = false := by simpa using h1
    have hx : isV n t = false := by simp [isV, h1]
    rw [hx]
    clear h1 hx
    go_enter Try.func67, Try.ntmps67
    go_wp2_with fail
    go_ret
    exact ⟨rfl, box_below _ _⟩

set_option maxRecDepth 100000 in
set_option maxHeartbeats 1600000 in
theorem implVars_calls (t : Tr) (c : Value) (vars : Int) (w : World) (hk : InP w t.kids c) (ht : I64 t.op ∧ I64 t.num) (hz : szT t ≤ 1048576) (hv : I64 vars) :
    Calls Try.prog 39 #[.agg #[.int .i64 t.op, .int .i64 t.num, c], .int .i64 vars] w (NewInts (varsB vars t) w) := by
  have HK : Hid (InP w t.kids c) := hk
  have HT : Hid (I64 t.op ∧ I64 t.num) := ht
  obtain ⟨ad, cap, rfl, -, -, -⟩ := hk
  clear ht
  by_cases h0 : vars < 0
  · have hvb : varsB vars t = [] := by unfold varsB; rw [if_neg (by omega)]
    rw [hvb]
    clear hvb
    go_enter Try.func39, Try.ntmps39
    go_wp2_with fail
    go_ret
    exact ⟨_, rfl, IntRow.none _ _, box_below _ _⟩
  by_cases h4 : 4 < vars
  · have hvb : varsB vars t = [] := by unfold varsB; rw [if_neg (by omega)]
    rw [hvb]
    clear hvb
    go_enter Try.func39, Try.ntmps39
    go_wp2_with fail
    go_ret
    exact ⟨_, rfl, IntRow.none _ _, box_below _ _⟩
  obtain ⟨n, rfl⟩ : ∃ n : Nat, vars = n := ⟨vars.toNat, by omega⟩
  have hvb : varsB (n : Int) t = varsOf n t := by unfold varsB; rw [if_pos (by omega)]; rfl
  rw [hvb]
  have hmk := make_ints n (by omega)
  have hmf : ∀ (fn : Fn) (first cap : Array Value) (w : World), (Instr.makeFunc fn first cap).run Try.prog w = .ok (.func fn first cap) w := fun _ _ _ _ => rfl
  clear hvb
  obtain ⟨wb, hwb⟩ : ∃ wb : World, wb = w.alloc (.cells #[.int .i64 t.op, .int .i64 t.num, .slice ad t.kids.length cap] 29) := ⟨_, rfl⟩
  have hbs : wb.heap.size = w.heap.size + 1 := by rw [hwb]; exact Deep.nblk_alloc _ _
  have HBS : Hid (wb.heap.size = w.heap.size + 1) := hbs
  have HWB : Hid (wb = w.alloc (.cells #[.int .i64 t.op, .int .i64 t.num, .slice ad t.kids.length cap] 29)) := hwb
  have HB0 : Hid (Below w.heap.size w wb) := by rw [hwb]; exact box_below _ _
  have b0 : wb.cell? ⟨w.heap.size, 0, none⟩ = some (.int .i64 t.op) := by rw [hwb]; exact box_cell w _ _ 0 _ rfl
  have b1 : wb.cell? ⟨w.heap.size, 1, none⟩ = some (.int .i64 t.num) := by rw [hwb]; exact box_cell w _ _ 1 _ rfl
  have b2 : wb.cell? ⟨w.heap.size, 2, none⟩ = some (.slice ad t.kids.length cap) := by rw [hwb]; exact box_cell w _ _ 2 _ rfl
  have HCB : Hid (wb.cell? ⟨w.heap.size, 0, none⟩ = some (.int .i64 t.op) ∧ wb.cell? ⟨w.heap.size, 1, none⟩ = some (.int .i64 t.num) ∧ wb.cell? ⟨w.heap.size, 2, none⟩ = some (.slice ad t.kids.length cap)) := ⟨b0, b1, b2⟩
  have hrow := zero_row wb n
  rw [hbs] at hrow
  have HROW : Hid _ := hrow
  clear hwb hbs b0 b1 b2 hrow
  go_enter Try.func39, Try.ntmps39
  go_wp2_with fail
  go_loopw [17] (fun i wr => ∃ k : Nat, k ≤ n ∧ i = .int .i64 k ∧ wr.rowIs (w.heap.size + 1) 3 n (fun i => .int .i64 ((if i < k then cntT (isV i) t else 0 : Nat) : Int)) ∧ Below wb.heap.size wb wr) (fun i _ => n - (intOf i).toNat)
  case atStart =>
    rw [← HWB.out]
    exact ⟨0, Nat.zero_le _, rfl, World.rowIs.congr HROW.out fun i hi => by simp, box_below wb _⟩
  case round =>
    obtain ⟨k, hk, rfl, hrow, hb⟩ := hrel
    have HR : Hid (wr.rowIs (w.heap.size + 1) 3 n (fun i => .int .i64 ((if i < k then cntT (isV i) t else 0 : Nat) : Int))) := hrow
    have HB : Hid (Below wb.heap.size wb wr) := hb
    have hrl : w.heap.size + 1 < wr.heap.size := hrow.lt
    have hl1 : w.heap.size < wr.heap.size := by omega
    by_cases hlt : k < n
    · have hl0 : w.heap.size < wb.heap.size := by have := HBS.out; omega
      have c0 := (hb.cell (p := ⟨w.heap.size, 0, none⟩) hl0).trans HCB.out.1
      have c1 := (hb.cell (p := ⟨w.heap.size, 1, none⟩) hl0).trans HCB.out.2.1
      have c2 := (hb.cell (p := ⟨w.heap.size, 2, none⟩) hl0).trans HCB.out.2.2
      have HKW : Hid (InP wr t.kids (.slice ad t.kids.length cap)) := HK.out.nextP (HB0.out.trans (hb.mono HB0.out.size))
      clear hrow hb
      go_wp2_with fail
      go_region_with ((go_at_call 64; go_must (refine (cntVar.implCount_calls wr.heap.size (isV k) t _ _ (want_var _ _ k ?_) ?_ HT.out (by omega)).mono ?_); go_must (exact box_cell wr #[.int .i64 (k : Int)] 3 0 _ rfl); go_must (exact (HKW.out.nextP (box_below wr _)).nextP ((Below.refl _ _).drew)); go_must (rintro e w2 ⟨rfl, hb2⟩); go_must (have HB2 : Hid (Below wr.heap.size wr w2) := (box_below wr (.cells #[.int .i64 (k : Int)] 3)).trans (((Below.refl _ _).drew.trans hb2).mono (by have h := (box_below wr (.cells #[.int .i64 (k : Int)] 3)).size; exact h))); go_must (have hr2 := HR.out.of_block (HB2.out.block _ hrl)); go_must (have HR2 : Hid (w2.rowIs (w.heap.size + 1) 3 n (fun i => .int .i64 ((if i < k then cntT (isV i) t else 0 : Nat) : Int))) := hr2); go_must (have d0 := hr2.cell (i := k) hlt); go_must (have z0 := hr2.frozen k); go_must (have v0 : w2.cell? ⟨wr.heap.size, 0, none⟩ = some (.int .i64 (k : Int)) := (hb2.cell (p := ⟨wr.heap.size, 0, none⟩) (by show wr.heap.size < (wr.alloc _).heap.size; rw [Deep.nblk_alloc]; omega)).trans (box_cell wr #[.int .i64 (k : Int)] 3 0 _ rfl)); clear hb2 hr2))
      all_goals
        have HV : Hid ((w2.setCell ⟨w.heap.size + 1, k, none⟩ (.int .i64 (cntT (isV k) t : Int))).rowIs (w.heap.size + 1) 3 n (fun i => .int .i64 ((if i < k + 1 then cntT (isV i) t else 0 : Nat) : Int)) ∧ Below wb.heap.size wb (w2.setCell ⟨w.heap.size + 1, k, none⟩ (.int .i64 (cntT (isV k) t : Int)))) := by
          refine ⟨World.rowIs.congr (HR2.out.set k _) fun i hi => ?_, Below.setCell (HB.out.trans (HB2.out.mono HB.out.size)) (by have := HBS.out; show wb.heap.size ≤ w.heap.size + 1; omega) _⟩
          by_cases hik : i = k
          · subst hik; simp
          · by_cases hik2 : i < k
            · simp [hik, hik2, show i < k + 1 from by omega]
            · simp [hik, hik2, show ¬ i < k + 1 from by omega]
        clear d0 z0 v0 c0 c1 c2
        go_wp2_with fail
        go_roundw
        case rel => exact ⟨k + 1, by omega, by go_num, HV.out⟩
        case measure => simp [intOf]; omega
    · have hke : k = n := by omega
      have HV : Hid (IntRow wr w.heap.size (varsOf n t) (.slice (some ⟨w.heap.size + 1, 0, none⟩) n n) ∧ Below w.heap.size w wr) := by
        refine ⟨row_done (World.rowIs.congr HR.out fun i hi => ?_) (by omega) (by omega), HB0.out.trans (HB.out.mono HB0.out.size)⟩
        rw [if_pos (by omega), Nat.zero_add]
      clear hke hrow hb
      go_wp2_with fail
      go_ret
      exact ⟨_, rfl, HV.out⟩
end Go.Proofs.Yticoegjackgldaa
