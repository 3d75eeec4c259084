/-
  THE PROGRAM's isValue: which closed expressions are values; nothing that was there is changed.
-/
import Derived.Test.YtjpjikfmdaejeaaDoorMgExactNumberNeed48
import Derived.Test.YtjpjikfmdaejeaaDoorMgExactNumberNeed13
import Derived.Test.YtjpjikfmdaejeaaDoorMgExactNumberNeed49
import Derived.Test.YtjpjikfmdaejeaaDoorMgExactNumberNeed22
namespace Go.Proofs.YtjpjikfmdaejeaaDoor
set_option linter.unusedVariables false
set_option linter.unusedSimpArgs false
open Go.RowKit

/-- the arity of a function of a program -/
def arityAt (ds : List Df) (n : Int) : Int := ((ds.map (·.1))[n.toNat]?).getD 0
/-- is a closed expression a value? -/
def valueB (ds : List Df) (t : Tr) : Bool := decide (t.op = 2) || (decide (t.op = 5) || (decide ((unwT t []).1.op = 3) && decide (((unwT t []).2.length : Int) < arityAt ds (unwT t []).1.num)))
/-- closed for so many functions, down to some depth -/
def Closed (ds : List Df) (t : Tr) : Prop := ∃ d, shB 0 ds.length d t = true

theorem closed_of_valid {ds : List Df} {t : Tr} (h : validB t 0 ds.length = true) : Closed ds t := by
  unfold validB at h
  simp only [Bool.and_eq_true] at h
  exact ⟨16, h.2.1⟩
theorem Closed.kid {ds : List Df} {t : Tr} (h : Closed ds t) {k : Tr} (hk : k ∈ t.kids) : Closed ds k := by
  obtain ⟨d, h⟩ := h
  cases d with
  | zero => simp [shB] at h
  | succ d =>
    unfold shB at h
    simp only [Bool.and_eq_true, List.all_eq_true] at h
    exact ⟨d, h.2 k hk⟩
theorem Closed.fun {ds : List Df} {t : Tr} (h : Closed ds t) (ho : t.op = 3) : 0 ≤ t.num ∧ t.num < ds.length := by
  obtain ⟨d, h⟩ := h
  cases d with
  | zero => simp [shB] at h
  | succ d =>
    unfold shB at h
    simp only [Bool.and_eq_true] at h
    have h2 := h.1.2
    unfold ownB at h2
    rw [if_neg (by omega), if_neg (by omega), if_pos ho] at h2
    simpa using h2
theorem Unw.closed {w : World} {a t : Tr} {c ct : Value} {l : List Cd} (h : Unw w a c t ct l) {ds : List Df} (ha : Closed ds a) : Closed ds t := by
  induction h with
  | here => exact ha
  | down h ho hk _ _ _ _ _ ih => exact ih.kid (by rw [hk]; simp)
theorem Unw.value {w : World} {a t : Tr} {c ct : Value} {l : List Cd} (h : Unw w a c t ct l) (hs : ¬ (t.op = 4 ∧ t.kids.length = 2)) : unwT a [] = (t, (l.map (·.1)).reverse) := by
  rw [h.unw, unwT_stop hs]

theorem unwT_closed (ds : List Df) : ∀ (n : Nat) (t : Tr) (acc : List Tr), szT t ≤ n → Closed ds t → Closed ds (unwT t acc).1 := by
  intro n
  induction n with
  | zero =>
    intro t acc hz hc
    rw [unwT_stop]
    · exact hc
    · rintro ⟨-, hl⟩
      rw [szT_eq, szL_sum] at hz
      omega
  | succ n ih =>
    intro t acc hz hc
    by_cases h : t.op = 4 ∧ t.kids.length = 2
    · obtain ⟨f, x, hk⟩ : ∃ f x, t.kids = [f, x] := by
        match hks : t.kids, h.2 with
        | [f, x], _ => exact ⟨f, x, rfl⟩
      rw [unwT_app h.1 hk]
      refine ih f _ ?_ (hc.kid (by rw [hk]; simp))
      rw [szT_eq, hk] at hz
      simp only [szL] at hz
      omega
    · rw [unwT_stop h]; exact hc
theorem CdRow.form {w : World} {lo : Nat} {l : List Cd} {v : Value} (h : CdRow w lo l v) : ∃ ad cap, v = .slice ad l.length cap := by
  rcases h with ⟨rfl, rfl⟩ | ⟨g, cap, f, rfl, -⟩
  · exact ⟨_, _, rfl⟩
  · exact ⟨_, _, rfl⟩

set_option maxRecDepth 100000 in
set_option maxHeartbeats 800000 in
theorem isValue_calls (ds : List Df) (p : Value) (a : Tr) (c : Value) (w : World) (hp : DIn w ds p) (hk : InP w a.kids c) (ha : I64 a.op ∧ I64 a.num) (hz : szT a ≤ 1099511627776) (hcl : Closed ds a) :
    Calls Tryd.prog 47 #[p, .agg #[.int .i64 a.op, .int .i64 a.num, c]] w fun e w' => e = .returned (.bool (valueB ds a)) ∧ Below w.heap.size w w' := by
  have HK : Hid (InP w a.kids c) := hk
  have HP : Hid (DIn w ds p) := hp
  obtain ⟨ad, cap, rfl, -, -, -⟩ := hk
  obtain ⟨adp, capp, rfl, -, -, -⟩ := hp
  by_cases h2 : a.op = 2
  · have t1 : (a.op == 2) = true := by simpa using h2
    have hv : valueB ds a = true := by simp [valueB, h2]
    rw [hv]
    clear hv h2
    go_enter Tryd.func47, Tryd.ntmps47
    go_wp2_with fail
    go_ret
    exact ⟨rfl, box_below _ _⟩
  have t1 : (a.op == 2) = false := by simpa using h2
  by_cases h5 : a.op = 5
  · have t2 : (a.op == 5) = true := by simpa using h5
    have hv : valueB ds a = true := by simp [valueB, h5]
    rw [hv]
    clear hv h5 h2
    go_enter Tryd.func47, Tryd.ntmps47
    go_wp2_with fail
    go_ret
    exact ⟨rfl, box_below _ _⟩
  have t2 : (a.op == 5) = false := by simpa using h5
  have HV : Hid (valueB ds a = (decide ((unwT a []).1.op = 3) && decide (((unwT a []).2.length : Int) < arityAt ds (unwT a []).1.num))) := by simp [Hid, valueB, h2, h5]
  have HCl : Hid (Closed ds a) := hcl
  have HBx : Hid (Below w.heap.size w (w.alloc (.cells #[.int .i64 a.op, .int .i64 a.num, .slice ad a.kids.length cap] 34))) := box_below _ _
  clear h2 h5 hcl
  obtain ⟨F, hF⟩ : ∃ F, F = (unwT a []).1 := ⟨_, rfl⟩
  obtain ⟨N, hN⟩ : ∃ N, N = (unwT a []).2.length := ⟨_, rfl⟩
  have hcF : Closed ds F := by rw [hF]; exact unwT_closed ds _ a [] (Nat.le_refl _) HCl.out
  by_cases h3 : F.op = 3
  · have t3 : (F.op == 3) = true := by simpa using h3
    obtain ⟨hn0, hn1⟩ := hcF.fun h3
    obtain ⟨k, hk⟩ : ∃ k : Nat, F.num = k := ⟨F.num.toNat, by omega⟩
    have hkl : k < ds.length := by omega
    obtain ⟨bl, off, cb, rfl, hc0, -⟩ := HP.out.at k hkl
    have hc1 := cell_lt hc0
    have hv : (decide ((N : Int) < ds[k].1)) = valueB ds a := by
      rw [HV.out, ← hF, ← hN, decide_eq_true h3, Bool.true_and, hk]
      unfold arityAt
      simp [hkl]
    rw [← hv]
    have HF : Hid (F = (unwT a []).1) := hF
    have HN : Hid (N = (unwT a []).2.length) := hN
    clear h3 hn0 hn1 hcF hv HV hF hN
    go_enter Tryd.func47, Tryd.ntmps47
    go_wp2_with (go_at_call 69; refine (unwind_calls a _ _ (HK.out.nextP HBx.out) ha hz).mono ?_; rintro e w1 ⟨f, cf, l, v, rfl, hu, hs, hcd, hb1⟩; obtain ⟨hkf, hof, hnf, hl, -⟩ := hu.on (HK.out.nextP HBx.out) ha; obtain ⟨adf, capf, rfl, -, -, -⟩ := id hkf; obtain rfl : f = F := (by rw [HF.out, hu.value hs]); have hLen : l.reverse.length = N := (by rw [HN.out, hu.value hs]; simp); obtain ⟨av, cv, rfl⟩ := hcd.form; rw [hLen]; rw [hk];  have HB1 : Hid (Below w.heap.size w w1) := HBx.out.trans (hb1.mono HBx.out.size); clear hu hcd hkf hl hs hb1; have pc : ∀ o, (w1.alloc o).cell? ⟨bl, off + k * 4, none⟩ = some (.int .i64 ds[k].1) := (fun o => old_cell ((HB1.out.cell (p := ⟨bl, off + k * 4, none⟩) hc1).trans hc0) o))
    go_ret
    exact ⟨rfl, HB1.out.trans ((box_below _ _).mono HB1.out.size)⟩
  · have t3 : (F.op == 3) = false := by simpa using h3
    have hv : false = valueB ds a := by
      rw [HV.out, ← hF, decide_eq_false h3, Bool.false_and]
    rw [← hv]
    have HF : Hid (F = (unwT a []).1) := hF
    have HN : Hid (N = (unwT a []).2.length) := hN
    clear h3 hcF hv HV hF hN
    go_enter Tryd.func47, Tryd.ntmps47
    go_wp2_with (go_at_call 69; refine (unwind_calls a _ _ (HK.out.nextP HBx.out) ha hz).mono ?_; rintro e w1 ⟨f, cf, l, v, rfl, hu, hs, hcd, hb1⟩; obtain ⟨hkf, hof, hnf, hl, -⟩ := hu.on (HK.out.nextP HBx.out) ha; obtain ⟨adf, capf, rfl, -, -, -⟩ := id hkf; obtain rfl : f = F := (by rw [HF.out, hu.value hs]); have hLen : l.reverse.length = N := (by rw [HN.out, hu.value hs]; simp); obtain ⟨av, cv, rfl⟩ := hcd.form; rw [hLen]; have HB1 : Hid (Below w.heap.size w w1) := HBx.out.trans (hb1.mono HBx.out.size); clear hu hcd hkf hl hs hb1)
    go_ret
    exact ⟨rfl, HB1.out.trans ((box_below _ _).mono HB1.out.size)⟩

/-- a valid program and a closed expression -/
def closedB (ds : List Df) (t : Tr) : Bool := progB ds && validB t 0 ds.length
/-- .. that is a value -/
def headB (ds : List Df) (t : Tr) : Bool := closedB ds t && valueB ds t

set_option maxRecDepth 100000 in
set_option maxHeartbeats 800000 in
theorem isClosed_calls (ds : List Df) (p : Value) (a : Tr) (c : Value) (w : World) (hp : DIn w ds p) (hk : In w a.kids c) :
    Calls Tryd.prog 46 #[p, .agg #[.int .i64 a.op, .int .i64 a.num, c]] w fun e w' => e = .returned (.bool (closedB ds a)) ∧ Below w.heap.size w w' := by
  have HK : Hid (In w a.kids c) := hk
  have HP : Hid (DIn w ds p) := hp
  obtain ⟨ad, cap, rfl, -, -, -⟩ := hk
  obtain ⟨adp, capp, rfl, -, -, -⟩ := hp
  unfold closedB
  cases hpb : progB ds with
  | false =>
    have hq : ∀ W, DIn W ds (.slice adp ds.length capp) → Calls Tryd.prog 67 #[.slice adp ds.length capp] W fun e w' => e = .returned (.bool false) ∧ Below W.heap.size W w' := fun W h => by have := implProg_calls ds _ W h; rwa [hpb] at this
    clear hpb
    go_enter Tryd.func46, Tryd.ntmps46
    go_wp2_with (go_at_call 67; refine (hq _ ?_).mono ?_; exact HP.out.next (box_below _ _); rintro e w1 ⟨rfl, hb1⟩; obtain ⟨q0, q1, q2, q3, HB1⟩ := box_after hb1; have HB1 : Hid _ := HB1; clear hb1)
    go_ret
    exact ⟨rfl, HB1.out⟩
  | true =>
    have hq : ∀ W, DIn W ds (.slice adp ds.length capp) → Calls Tryd.prog 67 #[.slice adp ds.length capp] W fun e w' => e = .returned (.bool true) ∧ Below W.heap.size W w' := fun W h => by have := implProg_calls ds _ W h; rwa [hpb] at this
    clear hpb
    go_enter Tryd.func46, Tryd.ntmps46
    go_wp2_with (first
      | (go_at_call 67; refine (hq _ ?_).mono ?_; exact HP.out.next (box_below _ _); rintro e w1 ⟨rfl, hb1⟩; obtain ⟨q0, q1, q2, q3, HB1⟩ := box_after hb1; have HB1 : Hid _ := HB1; clear hb1)
      | (go_at_call 68; refine (implValid_calls a 0 _ _ _ (HK.out.next HB1.out)).mono ?_; rintro e w2 ⟨rfl, hb2⟩; have HB2 : Hid (Below w.heap.size w w2) := HB1.out.trans (hb2.mono HB1.out.size); clear hb2))
    go_ret
    exact ⟨rfl, HB2.out⟩

end Go.Proofs.YtjpjikfmdaejeaaDoor
/-
  THE MODEL's l2Head, l2Closed, IsHead: which closed expressions are values; nothing that was there is changed.
-/
namespace Go.Proofs.YtjpjikfmdaejeaaDoor
set_option linter.unusedVariables false
set_option linter.unusedSimpArgs false
open Go.RowKit

set_option maxRecDepth 100000 in
set_option maxHeartbeats 800000 in
theorem l2Head_calls (ds : List Df) (p : Value) (a : Tr) (c : Value) (w : World) (hp : DIn w ds p) (hk : In w a.kids c) (ha : I64 a.op ∧ I64 a.num) (hz : szT a ≤ 1099511627776) (hcl : Closed ds a) :
    Calls Tryd.prog 43 #[p, .agg #[.int .i64 a.op, .int .i64 a.num, c]] w fun e w' => e = .returned (.bool (valueB ds a)) ∧ Below w.heap.size w w' := by
  have HK : Hid (In w a.kids c) := hk
  have HP : Hid (DIn w ds p) := hp
  obtain ⟨ad, cap, rfl, -, -, -⟩ := hk
  obtain ⟨adp, capp, rfl, -, -, -⟩ := hp
  by_cases h2 : a.op = 2
  · have t1 : (a.op == 2) = true := by simpa using h2
    have hv : valueB ds a = true := by simp [valueB, h2]
    rw [hv]
    clear hv h2
    go_enter Tryd.func43, Tryd.ntmps43
    go_wp2_with fail
    go_ret
    exact ⟨rfl, box_below _ _⟩
  have t1 : (a.op == 2) = false := by simpa using h2
  by_cases h5 : a.op = 5
  · have t2 : (a.op == 5) = true := by simpa using h5
    have hv : valueB ds a = true := by simp [valueB, h5]
    rw [hv]
    clear hv h5 h2
    go_enter Tryd.func43, Tryd.ntmps43
    go_wp2_with fail
    go_ret
    exact ⟨rfl, box_below _ _⟩
  have t2 : (a.op == 5) = false := by simpa using h5
  have HV : Hid (valueB ds a = (decide ((unwT a []).1.op = 3) && decide (((unwT a []).2.length : Int) < arityAt ds (unwT a []).1.num))) := by simp [Hid, valueB, h2, h5]
  have HCl : Hid (Closed ds a) := hcl
  have HBx : Hid (Below w.heap.size w (w.alloc (.cells #[.int .i64 a.op, .int .i64 a.num, .slice ad a.kids.length cap] 34))) := box_below _ _
  clear h2 h5 hcl
  obtain ⟨F, hF⟩ : ∃ F, F = (unwT a []).1 := ⟨_, rfl⟩
  obtain ⟨N, hN⟩ : ∃ N, N = (unwT a []).2.length := ⟨_, rfl⟩
  have hcF : Closed ds F := by rw [hF]; exact unwT_closed ds _ a [] (Nat.le_refl _) HCl.out
  by_cases h3 : F.op = 3
  · have t3 : (F.op == 3) = true := by simpa using h3
    obtain ⟨hn0, hn1⟩ := hcF.fun h3
    obtain ⟨k, hk⟩ : ∃ k : Nat, F.num = k := ⟨F.num.toNat, by omega⟩
    have hkl : k < ds.length := by omega
    obtain ⟨bl, off, cb, rfl, hc0, -⟩ := HP.out.at k hkl
    have hc1 := cell_lt hc0
    have hv : (decide ((N : Int) < ds[k].1)) = valueB ds a := by
      rw [HV.out, ← hF, ← hN, decide_eq_true h3, Bool.true_and, hk]
      unfold arityAt
      simp [hkl]
    rw [← hv]
    have HF : Hid (F = (unwT a []).1) := hF
    have HN : Hid (N = (unwT a []).2.length) := hN
    clear h3 hn0 hn1 hcF hv HV hF hN
    go_enter Tryd.func43, Tryd.ntmps43
    go_wp2_with (go_at_call 62; refine (l2Args_calls a _ _ (HK.out.next HBx.out) ha hz).mono ?_; rintro e w1 ⟨f, cf, l, v, rfl, hu, hs, hcd, hb1⟩; obtain ⟨hkf, hof, hnf, hl, -⟩ := hu.on (HK.out.next HBx.out) ha; obtain ⟨adf, capf, rfl, -, -, -⟩ := id hkf; obtain rfl : f = F := (by rw [HF.out, hu.value hs]); have hLen : l.reverse.length = N := (by rw [HN.out, hu.value hs]; simp); obtain ⟨av, cv, rfl⟩ := hcd.form; rw [hLen]; rw [hk];  have HB1 : Hid (Below w.heap.size w w1) := HBx.out.trans (hb1.mono HBx.out.size); clear hu hcd hkf hl hs hb1; have pc : ∀ o, (w1.alloc o).cell? ⟨bl, off + k * 4, none⟩ = some (.int .i64 ds[k].1) := (fun o => old_cell ((HB1.out.cell (p := ⟨bl, off + k * 4, none⟩) hc1).trans hc0) o))
    go_ret
    exact ⟨rfl, HB1.out.trans ((box_below _ _).mono HB1.out.size)⟩
  · have t3 : (F.op == 3) = false := by simpa using h3
    have hv : false = valueB ds a := by
      rw [HV.out, ← hF, decide_eq_false h3, Bool.false_and]
    rw [← hv]
    have HF : Hid (F = (unwT a []).1) := hF
    have HN : Hid (N = (unwT a []).2.length) := hN
    clear h3 hcF hv HV hF hN
    go_enter Tryd.func43, Tryd.ntmps43
    go_wp2_with (go_at_call 62; refine (l2Args_calls a _ _ (HK.out.next HBx.out) ha hz).mono ?_; rintro e w1 ⟨f, cf, l, v, rfl, hu, hs, hcd, hb1⟩; obtain ⟨hkf, hof, hnf, hl, -⟩ := hu.on (HK.out.next HBx.out) ha; obtain ⟨adf, capf, rfl, -, -, -⟩ := id hkf; obtain rfl : f = F := (by rw [HF.out, hu.value hs]); have hLen : l.reverse.length = N := (by rw [HN.out, hu.value hs]; simp); obtain ⟨av, cv, rfl⟩ := hcd.form; rw [hLen]; have HB1 : Hid (Below w.heap.size w w1) := HBx.out.trans (hb1.mono HBx.out.size); clear hu hcd hkf hl hs hb1)
    go_ret
    exact ⟨rfl, HB1.out.trans ((box_below _ _).mono HB1.out.size)⟩

set_option maxRecDepth 100000 in
set_option maxHeartbeats 800000 in
theorem l2Closed_calls (ds : List Df) (p : Value) (a : Tr) (c : Value) (w : World) (hp : DIn w ds p) (hk : In w a.kids c) :
    Calls Tryd.prog 42 #[p, .agg #[.int .i64 a.op, .int .i64 a.num, c]] w fun e w' => e = .returned (.bool (closedB ds a)) ∧ Below w.heap.size w w' := by
  have HK : Hid (In w a.kids c) := hk
  have HP : Hid (DIn w ds p) := hp
  obtain ⟨ad, cap, rfl, -, -, -⟩ := hk
  obtain ⟨adp, capp, rfl, -, -, -⟩ := hp
  unfold closedB
  cases hpb : progB ds with
  | false =>
    have hq : ∀ W, DIn W ds (.slice adp ds.length capp) → Calls Tryd.prog 60 #[.slice adp ds.length capp] W fun e w' => e = .returned (.bool false) ∧ Below W.heap.size W w' := fun W h => by have := specProg_calls ds _ W h; rwa [hpb] at this
    clear hpb
    go_enter Tryd.func42, Tryd.ntmps42
    go_wp2_with (go_at_call 60; refine (hq _ ?_).mono ?_; exact HP.out.next (box_below _ _); rintro e w1 ⟨rfl, hb1⟩; obtain ⟨q0, q1, q2, q3, HB1⟩ := box_after hb1; have HB1 : Hid _ := HB1; clear hb1)
    go_ret
    exact ⟨rfl, HB1.out⟩
  | true =>
    have hv : ∀ W, In W a.kids (.slice ad a.kids.length cap) → Calls Tryd.prog 61 #[.agg #[.int .i64 a.op, .int .i64 a.num, .slice ad a.kids.length cap], .int .i64 0, .int .i64 ds.length] W fun e w' => e = .returned (.bool (true && validB a 0 ds.length)) ∧ Below W.heap.size W w' := fun W h => by
      have h6 : ds.length ≤ 6 := by
        unfold progB at hpb
        simp only [Bool.and_eq_true, decide_eq_true_eq] at hpb
        exact hpb.1
      have := l1Is_calls a 0 ds.length _ W h
      rw [← validB_is a 0 ds.length (by omega)] at this
      rw [Bool.true_and]
      exact this
    have hq : ∀ W, DIn W ds (.slice adp ds.length capp) → Calls Tryd.prog 60 #[.slice adp ds.length capp] W fun e w' => e = .returned (.bool true) ∧ Below W.heap.size W w' := fun W h => by have := specProg_calls ds _ W h; rwa [hpb] at this
    clear hpb
    go_enter Tryd.func42, Tryd.ntmps42
    go_wp2_with (first
      | (go_at_call 60; refine (hq _ ?_).mono ?_; exact HP.out.next (box_below _ _); rintro e w1 ⟨rfl, hb1⟩; obtain ⟨q0, q1, q2, q3, HB1⟩ := box_after hb1; have HB1 : Hid _ := HB1; clear hb1)
      | (go_at_call 61; refine (hv _ (HK.out.next HB1.out)).mono ?_; rintro e w2 ⟨rfl, hb2⟩; have HB2 : Hid (Below w.heap.size w w2) := HB1.out.trans (hb2.mono HB1.out.size); clear hb2))
    go_ret
    exact ⟨rfl, HB2.out⟩

end Go.Proofs.YtjpjikfmdaejeaaDoor
/-
  PLAIN: what NumberNeed answers. No program is named here.
-/
namespace Go.Proofs.YtjpjikfmdaejeaaDoor
set_option linter.unusedVariables false
set_option linter.unusedSimpArgs false

/-- the cell for which a value stands, as a number -/
def numR (a : Nat) (r : List Ce × Nat × Nat) : Int × Nat × Nat := if r.2.1 ≠ 0 then (0, r.2.1, r.2.2) else if opAt r.1 (folAt r.1 a) = 2 then (numAt r.1 (folAt r.1 a), 0, r.2.2) else (0, 2, r.2.2)
/-- what NumberNeed answers -/
def nnO (ds : List Df) (t : Tr) (f : Int) : Int × Nat × Nat := if closedB ds t = true ∧ 0 ≤ f ∧ f ≤ 300 then numR (addT [] t []).2 (evalG ds (addT [] t []).2 f.toNat (addT [] t []).1) else (0, 4, 0)
theorem nnO_no {ds : List Df} {t : Tr} {f : Int} (h : ¬ (closedB ds t = true ∧ 0 ≤ f ∧ f ≤ 300)) : nnO ds t f = (0, 4, 0) := by unfold nnO; rw [if_neg h]
theorem nnO_yes {ds : List Df} {t : Tr} {f : Nat} (h : closedB ds t = true) (hf : f ≤ 300) : nnO ds t (f : Int) = numR (addT [] t []).2 (evalG ds (addT [] t []).2 f (addT [] t []).1) := by
  unfold nnO; rw [if_pos ⟨h, by omega, by omega⟩, Int.toNat_natCast]
theorem numR_err {a : Nat} {r : List Ce × Nat × Nat} (h : r.2.1 ≠ 0) : numR a r = (0, r.2.1, r.2.2) := by unfold numR; rw [if_pos h]
theorem numR_num {a : Nat} {r : List Ce × Nat × Nat} (h : r.2.1 = 0) (h2 : opAt r.1 (folAt r.1 a) = 2) : numR a r = (numAt r.1 (folAt r.1 a), 0, r.2.2) := by unfold numR; rw [if_neg (by omega), if_pos h2]
theorem numR_not {a : Nat} {r : List Ce × Nat × Nat} (h : r.2.1 = 0) (h2 : opAt r.1 (folAt r.1 a) ≠ 2) : numR a r = (0, 2, r.2.2) := by unfold numR; rw [if_neg (by omega), if_neg h2]
/-- an evaluation that ends well ends at a value -/
theorem evalG_done {ds : List Df} {a : Nat} : ∀ (n : Nat) (g : List Ce), (evalG ds a n g).2.1 = 0 → valB (arsOf ds) (evalG ds a n g).1 a = true
  | 0, g, h => by
    unfold evalG at h ⊢
    split at h
    · rename_i hv; rw [if_pos hv]; exact hv
    · simp at h
  | n + 1, g, h => by
    unfold evalG at h ⊢
    split at h
    · rename_i hv; rw [if_pos hv]; exact hv
    · rename_i hv
      rw [if_neg hv]
      split at h
      · rename_i hs
        rw [if_pos hs]
        exact evalG_done n _ h
      · rename_i hs
        exact absurd h hs
/-- a value stands for a cell -/
theorem val_stands {ars : List Int} {g : List Ce} {a : Nat} (h : valB ars g a = true) : ∃ b, followN g g.length a = some b := by
  cases hf : followN g g.length a with
  | some b => exact ⟨b, rfl⟩
  | none =>
    have hs : spine g a = none := by unfold spine spineN; rw [hf]
    rw [valB_none hs] at h
    cases h
/-- the graph of a closed expression -/
theorem start_ok {ds : List Df} {t : Tr} (h : closedB ds t = true) : progB ds = true ∧ graphB (addT [] t []).1 ds.length = true ∧ (addT [] t []).2 < (addT [] t []).1.length ∧ AllT (VarOk 0) t ∧ 1 + szT t ≤ 60 := by
  unfold closedB validB at h
  simp only [Bool.and_eq_true, decide_eq_true_eq] at h
  obtain ⟨hp, ⟨hd, hs, hz⟩⟩ := h
  have h0 : GOk (ds.length : Int) ([] : List Ce).length [] := (graphB_iff.1 (by unfold graphB; simp; omega : graphB [] (ds.length : Int) = true)).2
  have hok := addT_ok (defs := ds.length) (args := []) 16 t [] h0 (fun x hx => by simp at hx) hs
  have hsz := (addT_size [] t []).2.1
  refine ⟨hp, graphB_iff.2 ⟨⟨by simp only [List.length_nil] at hsz; omega, by omega⟩, hok.1⟩, hok.2, varOk_of_sh 0 _ 16 t hs, hz⟩
end Go.Proofs.YtjpjikfmdaejeaaDoor
