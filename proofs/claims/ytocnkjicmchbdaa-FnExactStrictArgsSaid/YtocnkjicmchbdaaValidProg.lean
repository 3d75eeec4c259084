/-
  THE MODEL's AND THE PROGRAM's ProgramValid: which programs they take for valid; nothing that was there is changed.
-/
import Derived.Test.YtocnkjicmchbdaaDefs
import Derived.Test.YtocnkjicmchbdaaSpecValid
import Derived.Test.YtocnkjicmchbdaaNodesLeft
namespace Go.Proofs.Ytocnkjicmchbdaa
set_option linter.unusedVariables false
set_option linter.unusedSimpArgs false
open Go.RowKit

/-- a valid program -/
def progB (ds : List Df) : Bool := decide (ds.length ≤ 6) && ds.all fun d => validB d.2 d.1 ds.length

theorem progB_long (ds : List Df) (h : 6 < ds.length) : progB ds = false := by unfold progB; rw [decide_eq_false (by omega), Bool.false_and]
theorem progB_bad (ds : List Df) (k : Nat) (hk : k < ds.length) (h : validB ds[k].2 ds[k].1 ds.length = false) : progB ds = false := by
  unfold progB
  rw [Bool.and_eq_false_iff]
  right
  rw [List.all_eq_false]
  exact ⟨ds[k], List.getElem_mem hk, by simp [h]⟩
theorem progB_end (ds : List Df) (h : ds.length ≤ 6) (ha : (ds.take ds.length).all (fun d => validB d.2 d.1 ds.length) = true) : progB ds = true := by
  rw [List.take_length] at ha
  unfold progB
  rw [ha, decide_eq_true h]; rfl
theorem all_take_succ' {α : Type} (p : α → Bool) (l : List α) (i : Nat) (h : i < l.length) : (l.take (i + 1)).all p = ((l.take i).all p && p l[i]) := by
  rw [List.take_succ_eq_append_getElem h, List.all_append]; simp
theorem validB_is (t : Tr) (v d : Int) (h : 0 ≤ v ∧ v ≤ 4 ∧ 0 ≤ d ∧ d ≤ 6) : validB t v d = isB t v d := by
  simp only [validB, isB]
  rw [decide_eq_true h, Bool.true_and]
  congr 1
  rw [decide_eq_decide]
  omega
theorem validB_no (t : Tr) (v d : Int) (h : ¬ (0 ≤ v ∧ v ≤ 4 ∧ 0 ≤ d ∧ d ≤ 6)) : validB t v d = false := by
  simp only [validB]; rw [decide_eq_false h, Bool.false_and]

theorem is_val (b : Bool) (t : Tr) (vars defs : Int) (c : Value) (W : World) (hk : In W t.kids c) (h : isB t vars defs = b) : Calls Try.prog 98 #[.agg #[.int .i64 t.op, .int .i64 t.num, c], .int .i64 vars, .int .i64 defs] W fun e w' => e = .returned (.bool b) ∧ Below W.heap.size W w' := by
  have := l1Is_calls t vars defs c W hk; rwa [h] at this

theorem is_quiet (b : Bool) (t : Tr) (vars defs : Int) (c : Value) (wr : World) (hk : In wr t.kids c) (h : isB t vars defs = b) (dq : Nat) (osq : Array Obj) :
    Calls Try.prog 98 #[.agg #[.int .i64 t.op, .int .i64 t.num, c], .int .i64 vars, .int .i64 defs] (Sort.grow (redrawn wr dq) osq) fun e w'' => e = .returned (.bool b) ∧ ∃ p : Regrown, w'' = Sort.grow (redrawn wr p.d) p.os :=
  quietB (fun W hW => is_val b t vars defs c W (hk.next hW) h) dq osq

set_option maxRecDepth 100000 in
set_option maxHeartbeats 800000 in
theorem specProg_calls (ds : List Df) (c : Value) (w : World) (hk : DIn w ds c) : Calls Try.prog 60 #[c] w fun e w' => e = .returned (.bool (progB ds)) ∧ Below w.heap.size w w' := by
  have HK : Hid (DIn w ds c) := hk
  obtain ⟨ad, cap, rfl, hl, hm, -⟩ := hk
  unfold maxLen at hm
  go_enter Try.func60, Try.ntmps60
  go_wp2_with fail
  go_loopw [3] (fun i wr => ∃ k : Nat, k ≤ ds.length ∧ i = .int .i64 k ∧ (ds.take k).all (fun d => validB d.2 d.1 ds.length || decide (6 < ds.length)) = true ∧ Below w.heap.size w wr) (fun i _ => ds.length - (intOf i).toNat)
  case atStart => exact ⟨0, Nat.zero_le _, rfl, by simp, Below.refl _ _⟩
  case round =>
    obtain ⟨k, hk, rfl, hall, hb⟩ := hrel
    have HA : Hid ((ds.take k).all (fun d => validB d.2 d.1 ds.length || decide (6 < ds.length)) = true) := hall
    have HBW : Hid (Below w.heap.size w wr) := hb
    clear hall
    by_cases hlt : k < ds.length
    · by_cases h6 : (k : Int) ≤ 6
      · obtain ⟨bl, off, r, rfl, c0, c1, c2, c3, -, -, -, hkk⟩ := (HK.out.next hb).at k hlt
        have HKK : Hid (In wr ds[k].2.kids r) := hkk
        clear hkk hb
        have k0 := cell_regrown c0
        have k1 := cell_regrown c1
        have k2 := cell_regrown c2
        have k3 := cell_regrown c3
        by_cases ha0 : ds[k].1 < 0
        · have hd0 : decide (ds[k].1 < 0) = true := by simpa using ha0
          have HV : Hid (progB ds = false) := progB_bad ds k hlt (validB_no _ _ _ (by omega))
          go_wp2_with fail
          refine wp_region_quiet_below (by kernel_rfl) (by kernel_rfl) ?_
          repeat (any_goals (first | go_big_quiet_step (fail) | quiet_step (fail)))
          refine wpQuiet_nil ?_
          intro _ hw'
          obtain ⟨⟨dq, osq⟩, hw''⟩ := hw'
          subst hw''
          clear k0 k1 k2 k3
          go_wp2_with fail
          go_ret
          exact ⟨ret_bool HV.out.symm, HBW.out.trans ((below_regrown _ _ _).mono HBW.out.size)⟩
        · have hd0 : decide (ds[k].1 < 0) = false := by simpa using ha0
          by_cases ha4 : 4 < ds[k].1
          · have hd4 : decide (4 < ds[k].1) = true := by simpa using ha4
            have HV : Hid (progB ds = false) := progB_bad ds k hlt (validB_no _ _ _ (by omega))
            go_wp2_with fail
            refine wp_region_quiet_below (by kernel_rfl) (by kernel_rfl) ?_
            repeat (any_goals (first | go_big_quiet_step (fail) | quiet_step (fail)))
            refine wpQuiet_nil ?_
            intro _ hw'
            obtain ⟨⟨dq, osq⟩, hw''⟩ := hw'
            subst hw''
            clear k0 k1 k2 k3
            go_wp2_with fail
            go_ret
            exact ⟨ret_bool HV.out.symm, HBW.out.trans ((below_regrown _ _ _).mono HBW.out.size)⟩
          · have hd4 : decide (4 < ds[k].1) = false := by simpa using ha4
            cases hib : isB ds[k].2 ds[k].1 ds.length with
            | false =>
              have HC : Hid (∀ (dq : Nat) (osq : Array Obj), Calls Try.prog 98 #[.agg #[.int .i64 ds[k].2.op, .int .i64 ds[k].2.num, r], .int .i64 ds[k].1, .int .i64 (ds.length : Int)] (Sort.grow (redrawn wr dq) osq) fun e w'' => e = .returned (.bool false) ∧ ∃ p : Regrown, w'' = Sort.grow (redrawn wr p.d) p.os) :=
                fun dq osq => is_quiet false ds[k].2 ds[k].1 ds.length r wr HKK.out hib dq osq
              have HV : Hid (progB ds = false) := by
                by_cases hl6 : 6 < ds.length
                · exact progB_long ds hl6
                · exact progB_bad ds k hlt (by rw [validB_is _ _ _ (by omega)]; exact hib)
              go_wp2_with fail
              refine wp_region_quiet_below (by kernel_rfl) (by kernel_rfl) ?_
              repeat (any_goals (first | go_big_quiet_step ((go_at_call 98; go_must (exact HC.out _ _))) | quiet_step ((go_at_call 98; go_must (exact HC.out _ _)))))
              refine wpQuiet_nil ?_
              intro _ hw'
              obtain ⟨⟨dq, osq⟩, hw''⟩ := hw'
              subst hw''
              clear k0 k1 k2 k3
              go_wp2_with fail
              go_ret
              exact ⟨ret_bool HV.out.symm, HBW.out.trans ((below_regrown _ _ _).mono HBW.out.size)⟩
            | true =>
              have HC : Hid (∀ (dq : Nat) (osq : Array Obj), Calls Try.prog 98 #[.agg #[.int .i64 ds[k].2.op, .int .i64 ds[k].2.num, r], .int .i64 ds[k].1, .int .i64 (ds.length : Int)] (Sort.grow (redrawn wr dq) osq) fun e w'' => e = .returned (.bool true) ∧ ∃ p : Regrown, w'' = Sort.grow (redrawn wr p.d) p.os) :=
                fun dq osq => is_quiet true ds[k].2 ds[k].1 ds.length r wr HKK.out hib dq osq
              have HV : Hid ((ds.take (k + 1)).all (fun d => validB d.2 d.1 ds.length || decide (6 < ds.length)) = true) := by
                rw [Hid, all_take_succ' _ _ _ hlt, HA.out, Bool.true_and]
                by_cases hl6 : 6 < ds.length
                · simp [hl6]
                · rw [validB_is _ _ _ (by omega), hib, Bool.true_or]
              go_wp2_with fail
              refine wp_region_quiet_below (by kernel_rfl) (by kernel_rfl) ?_
              repeat (any_goals (first | go_big_quiet_step ((go_at_call 98; go_must (exact HC.out _ _))) | quiet_step ((go_at_call 98; go_must (exact HC.out _ _)))))
              refine wpQuiet_nil ?_
              intro _ hw'
              obtain ⟨⟨dq, osq⟩, hw''⟩ := hw'
              subst hw''
              clear k0 k1 k2 k3
              have HB2 : Hid (Below w.heap.size w (Sort.grow (redrawn wr dq) osq)) := HBW.out.trans ((below_regrown _ _ _).mono HBW.out.size)
              clear hib
              go_wp2_with fail
              go_roundw
              case rel => exact ⟨k + 1, by omega, by go_num, HV.out, HB2.out⟩
              case measure => simp [intOf]; omega
      · have HV : Hid (progB ds = decide (ds.length ≤ 6)) := by
          rw [Hid, progB_long ds (by omega), decide_eq_false (by omega)]
        have hd6 : decide ((k : Int) ≤ 6) = false := by simpa using h6
        clear hb
        go_wp2_with fail
        go_ret
        exact ⟨ret_bool (by rw [HV.out, decide_eq_decide]; omega), HBW.out⟩
    · have HV : Hid (progB ds = decide (ds.length ≤ 6)) := by
        have hke : ds.length = k := by omega
        by_cases hl6 : 6 < ds.length
        · rw [Hid, progB_long ds hl6, decide_eq_false (by omega)]
        · rw [Hid, progB_end ds (by omega) _, decide_eq_true (by omega)]
          have h2 := HA.out
          rw [← hke] at h2
          simpa [hl6] using h2
      clear hb
      go_wp2_with fail
      go_ret
      exact ⟨ret_bool (by rw [HV.out, decide_eq_decide]; omega), HBW.out⟩

set_option maxRecDepth 100000 in
set_option maxHeartbeats 1600000 in
theorem implProg_calls (ds : List Df) (c : Value) (w : World) (hk : DIn w ds c) : Calls Try.prog 63 #[c] w fun e w' => e = .returned (.bool (progB ds)) ∧ Below w.heap.size w w' := by
  have HK : Hid (DIn w ds c) := hk
  obtain ⟨ad, cap, rfl, hl, hm, -⟩ := hk
  unfold maxLen at hm
  by_cases h6 : 6 < ds.length
  · have HV : Hid (progB ds = false) := progB_long ds h6
    go_enter Try.func63, Try.ntmps63
    go_wp2_with fail
    go_ret
    exact ⟨ret_bool HV.out.symm, Below.refl _ _⟩
  have h6' : ¬ (6 < (ds.length : Int)) := by omega
  go_enter Try.func63, Try.ntmps63
  go_wp2_with fail
  go_loopw [10] (fun i wr => ∃ k : Nat, k ≤ ds.length ∧ i = .int .i64 k ∧ (ds.take k).all (fun d => validB d.2 d.1 ds.length) = true ∧ Below w.heap.size w wr) (fun i _ => ds.length - (intOf i).toNat)
  case atStart => exact ⟨0, Nat.zero_le _, rfl, by simp, Below.refl _ _⟩
  case round =>
    obtain ⟨k, hk, rfl, hall, hb⟩ := hrel
    have HA : Hid ((ds.take k).all (fun d => validB d.2 d.1 ds.length) = true) := hall
    have HBW : Hid (Below w.heap.size w wr) := hb
    clear hall
    by_cases hlt : k < ds.length
    · obtain ⟨bl, off, r, rfl, c0, c1, c2, c3, -, -, -, hkk⟩ := (HK.out.next hb).at k hlt
      obtain ⟨ad2, cap2, rfl, -, -, -⟩ := id hkk
      have HKK : Hid (In wr ds[k].2.kids (.slice ad2 ds[k].2.kids.length cap2)) := hkk
      clear hkk hb
      go_wp2_with fail
      refine (implValid_calls ds[k].2 _ _ (.slice ad2 ds[k].2.kids.length cap2) _ ?_).mono ?_
      · exact HKK.out.next (box_below _ _)
      rintro e w1 ⟨rfl, hb1⟩
      have HB1 : Hid (Below w.heap.size w w1) := HBW.out.trans (((box_below _ _).trans (hb1.mono (by rw [Deep.nblk_alloc]; omega))).mono HBW.out.size)
      clear hb1
      cases hib : validB ds[k].2 ds[k].1 ds.length with
      | false =>
        have HV : Hid (progB ds = false) := progB_bad ds k hlt hib
        clear hib
        go_wp2_with fail
        go_ret
        exact ⟨ret_bool HV.out.symm, HB1.out⟩
      | true =>
        have HV : Hid ((ds.take (k + 1)).all (fun d => validB d.2 d.1 ds.length) = true) := by
          rw [Hid, all_take_succ' _ _ _ hlt, HA.out, hib]; rfl
        clear hib
        go_wp2_with fail
        go_roundw
        case rel => exact ⟨k + 1, by omega, by go_num, HV.out, HB1.out⟩
        case measure => simp [intOf]; omega
    · have HV : Hid (progB ds = true) := by
        have hke : ds.length = k := by omega
        have h2 := HA.out
        rw [← hke] at h2
        exact progB_end ds (by omega) h2
      clear hb
      go_wp2_with fail
      go_ret
      exact ⟨ret_bool HV.out.symm, HBW.out⟩
end Go.Proofs.Ytocnkjicmchbdaa
