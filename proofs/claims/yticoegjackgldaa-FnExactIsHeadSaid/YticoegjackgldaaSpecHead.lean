/-
  THE MODEL's l2Head, l2Closed, IsHead: which closed expressions are values; nothing that was there is changed.
-/
import Derived.Test.YticoegjackgldaaArgs
import Derived.Test.YticoegjackgldaaHead
namespace Go.Proofs.Yticoegjackgldaa
set_option linter.unusedVariables false
set_option linter.unusedSimpArgs false
open Go.RowKit

set_option maxRecDepth 100000 in
set_option maxHeartbeats 800000 in
theorem l2Head_calls (ds : List Df) (p : Value) (a : Tr) (c : Value) (w : World) (hp : DIn w ds p) (hk : In w a.kids c) (ha : I64 a.op ∧ I64 a.num) (hz : szT a ≤ 1099511627776) (hcl : Closed ds a) :
    Calls Try.prog 69 #[p, .agg #[.int .i64 a.op, .int .i64 a.num, c]] w fun e w' => e = .returned (.bool (valueB ds a)) ∧ Below w.heap.size w w' := by
  have HK : Hid (In w a.kids c) := hk
  have HP : Hid (DIn w ds p) := hp
  obtain ⟨ad, cap, rfl, -, -, -⟩ := hk
  obtain ⟨adp, capp, rfl, -, -, -⟩ := hp
  by_cases h2 : a.op = 2
  · have t1 : (a.op == 2) = true := by simpa using h2
    have hv : valueB ds a = true := by simp [valueB, h2]
    rw [hv]
    clear hv h2
    go_enter Try.func69, Try.ntmps69
    go_wp2_with fail
    go_ret
    exact ⟨rfl, box_below _ _⟩
  have t1 : (a.op == 2) = false := by simpa using h2
  by_cases h5 : a.op = 5
  · have t2 : (a.op == 5) = true := by simpa using h5
    have hv : valueB ds a = true := by simp [valueB, h5]
    rw [hv]
    clear hv h5 h2
    go_enter Try.func69, Try.ntmps69
    go_wp2_with fail
    go_ret
    exact ⟨rfl, box_below _ _⟩
  have t2 : (a.op == 5) = false := by simpa using h5
  have HV : Hid (valueB ds a = (decide ((unwT a []).1.op = 3) && decide (((unwT a []).2.length : Int) < arityAt ds (unwT a []).1.num))) := by simp [Hid, valueB, h2, h5]
  have HCl : Hid (Closed ds a) := hcl
  have HBx : Hid (Below w.heap.size w (w.alloc (.cells #[.int .i64 a.op, .int .i64 a.num, .slice ad a.kids.length cap] 29))) := box_below _ _
  clear h2 h5 hcl
  obtain ⟨F, hF⟩ : ∃ F, F = (unwT a []).1 := ⟨_, rfl⟩
  obtain ⟨N, hN⟩ : ∃ N, N = (unwT a []).2.length := ⟨_, rfl⟩
  have hcF : Closed ds F := by rw [hF]; exact unwT_closed ds _ a [] (Nat.le_refl _) HCl.out
  by_cases h3 : F.op = 3
  · have t3 : (F.op == 3) = true := by simpa using h3
    obtain ⟨hn0, hn1⟩ := hcF.fun h3
    obtain ⟨k, hk⟩ : ∃ k : Nat, F.num = k := ⟨F.num.toNat, by omega⟩
    have hkl : k < ds.length := by omega
    obtain ⟨bl, off, cb, rfl, hc0, -⟩ := HP.out.at k hkl
    have hc1 := cell_lt hc0
    have hv : (decide ((N : Int) < ds[k].1)) = valueB ds a := by
      rw [HV.out, ← hF, ← hN, decide_eq_true h3, Bool.true_and, hk]
      unfold arityAt
      simp [hkl]
    rw [← hv]
    have HF : Hid (F = (unwT a []).1) := hF
    have HN : Hid (N = (unwT a []).2.length) := hN
    clear h3 hn0 hn1 hcF hv HV hF hN
    go_enter Try.func69, Try.ntmps69
    go_wp2_with (go_at_call 86; refine (l2Args_calls a _ _ (HK.out.next HBx.out) ha hz).mono ?_; rintro e w1 ⟨f, cf, l, v, rfl, hu, hs, hcd, hb1⟩; obtain ⟨hkf, hof, hnf, hl, -⟩ := hu.on (HK.out.next HBx.out) ha; obtain ⟨adf, capf, rfl, -, -, -⟩ := id hkf; obtain rfl : f = F := (by rw [HF.out, hu.value hs]); have hLen : l.reverse.length = N := (by rw [HN.out, hu.value hs]; simp); obtain ⟨av, cv, rfl⟩ := hcd.form; rw [hLen]; rw [hk];  have HB1 : Hid (Below w.heap.size w w1) := HBx.out.trans (hb1.mono HBx.out.size); clear hu hcd hkf hl hs hb1; have pc : ∀ o, (w1.alloc o).cell? ⟨bl, off + k * 4, none⟩ = some (.int .i64 ds[k].1) := (fun o => old_cell ((HB1.out.cell (p := ⟨bl, off + k * 4, none⟩) hc1).trans hc0) o))
    go_ret
    exact ⟨rfl, HB1.out.trans ((box_below _ _).mono HB1.out.size)⟩
  · have t3 : (F.op == 3) = false := by simpa using h3
    have hv : false = valueB ds a := by
      rw [HV.out, ← hF, decide_eq_false h3, Bool.false_and]
    rw [← hv]
    have HF : Hid (F = (unwT a []).1) := hF
    have HN : Hid (N = (unwT a []).2.length) := hN
    clear h3 hcF hv HV hF hN
    go_enter Try.func69, Try.ntmps69
    go_wp2_with (go_at_call 86; refine (l2Args_calls a _ _ (HK.out.next HBx.out) ha hz).mono ?_; rintro e w1 ⟨f, cf, l, v, rfl, hu, hs, hcd, hb1⟩; obtain ⟨hkf, hof, hnf, hl, -⟩ := hu.on (HK.out.next HBx.out) ha; obtain ⟨adf, capf, rfl, -, -, -⟩ := id hkf; obtain rfl : f = F := (by rw [HF.out, hu.value hs]); have hLen : l.reverse.length = N := (by rw [HN.out, hu.value hs]; simp); obtain ⟨av, cv, rfl⟩ := hcd.form; rw [hLen]; have HB1 : Hid (Below w.heap.size w w1) := HBx.out.trans (hb1.mono HBx.out.size); clear hu hcd hkf hl hs hb1)
    go_ret
    exact ⟨rfl, HB1.out.trans ((box_below _ _).mono HB1.out.size)⟩

set_option maxRecDepth 100000 in
set_option maxHeartbeats 800000 in
theorem l2Closed_calls (ds : List Df) (p : Value) (a : Tr) (c : Value) (w : World) (hp : DIn w ds p) (hk : In w a.kids c) :
    Calls Try.prog 68 #[p, .agg #[.int .i64 a.op, .int .i64 a.num, c]] w fun e w' => e = .returned (.bool (closedB ds a)) ∧ Below w.heap.size w w' := by
  have HK : Hid (In w a.kids c) := hk
  have HP : Hid (DIn w ds p) := hp
  obtain ⟨ad, cap, rfl, -, -, -⟩ := hk
  obtain ⟨adp, capp, rfl, -, -, -⟩ := hp
  unfold closedB
  cases hpb : progB ds with
  | false =>
    have hq : ∀ W, DIn W ds (.slice adp ds.length capp) → Calls Try.prog 18 #[.slice adp ds.length capp] W fun e w' => e = .returned (.bool false) ∧ Below W.heap.size W w' := fun W h => by have := specProg_calls ds _ W h; rwa [hpb] at this
    clear hpb
    go_enter Try.func68, Try.ntmps68
    go_wp2_with (go_at_call 18; refine (hq _ ?_).mono ?_; exact HP.out.next (box_below _ _); rintro e w1 ⟨rfl, hb1⟩; obtain ⟨q0, q1, q2, q3, HB1⟩ := box_after hb1; have HB1 : Hid _ := HB1; clear hb1)
    go_ret
    exact ⟨rfl, HB1.out⟩
  | true =>
    have hv : ∀ W, In W a.kids (.slice ad a.kids.length cap) → Calls Try.prog 45 #[.agg #[.int .i64 a.op, .int .i64 a.num, .slice ad a.kids.length cap], .int .i64 0, .int .i64 ds.length] W fun e w' => e = .returned (.bool (true && validB a 0 ds.length)) ∧ Below W.heap.size W w' := fun W h => by
      have h6 : ds.length ≤ 6 := by
        unfold progB at hpb
        simp only [Bool.and_eq_true, decide_eq_true_eq] at hpb
        exact hpb.1
      have := l1Is_calls a 0 ds.length _ W h
      rw [← validB_is a 0 ds.length (by omega)] at this
      rw [Bool.true_and]
      exact this
    have hq : ∀ W, DIn W ds (.slice adp ds.length capp) → Calls Try.prog 18 #[.slice adp ds.length capp] W fun e w' => e = .returned (.bool true) ∧ Below W.heap.size W w' := fun W h => by have := specProg_calls ds _ W h; rwa [hpb] at this
    clear hpb
    go_enter Try.func68, Try.ntmps68
    go_wp2_with (first
      | (go_at_call 18; refine (hq _ ?_).mono ?_; exact HP.out.next (box_below _ _); rintro e w1 ⟨rfl, hb1⟩; obtain ⟨q0, q1, q2, q3, HB1⟩ := box_after hb1; have HB1 : Hid _ := HB1; clear hb1)
      | (go_at_call 45; refine (hv _ (HK.out.next HB1.out)).mono ?_; rintro e w2 ⟨rfl, hb2⟩; have HB2 : Hid (Below w.heap.size w w2) := HB1.out.trans (hb2.mono HB1.out.size); clear hb2))
    go_ret
    exact ⟨rfl, HB2.out⟩

end Go.Proofs.Yticoegjackgldaa
