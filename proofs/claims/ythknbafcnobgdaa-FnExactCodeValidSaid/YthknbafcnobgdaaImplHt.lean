/-
  THE PROGRAM's operands, heightAfter AND StackOf.
-/
import Derived.Test.YthknbafcnobgdaaInsOn
import Derived.Test.YthknbafcnobgdaaImplValid
namespace Go.Proofs.Ythknbafcnobgdaa
set_option linter.unusedVariables false
set_option linter.unusedSimpArgs false
open Go.RowKit

theorem opKids_ar {op : Int} (h1 : op ≠ 1) (h2 : op ≠ 2) (h3 : op ≠ 3) : opKids op = (arN op : Int) ∧ opOk op = decide (0 ≤ arity op) := by
  unfold opOk opKids arN arity
  rw [if_neg (by omega : ¬ (op = 1 ∨ op = 2 ∨ op = 3))]
  by_cases e4 : op = 4
  · subst e4; simp
  by_cases e5 : op = 5
  · subst e5; simp
  by_cases e6 : op = 6
  · subst e6; simp
  by_cases e7 : op = 7
  · subst e7; simp
  by_cases e8 : op = 8
  · subst e8; simp
  by_cases e9 : op = 9
  · subst e9; simp
  by_cases e10 : op = 10
  · subst e10; simp
  simp only [e4, e5, e6, e7, e8, e9, e10, or_self, if_false, ↓reduceIte]
  refine ⟨by simp, ?_⟩
  simp
  omega

set_option maxHeartbeats 400000 in
theorem operands_calls (o n : Int) (w : World) : Calls Try.prog 87 #[.agg #[.int .i64 o, .int .i64 n]] w fun e w' => e = .returned (.tuple #[.int .i64 (arN o : Int), .bool (decide (0 ≤ arity o))]) ∧ Below w.heap.size w w' := by
  by_cases h1 : o = 1
  · subst h1
    go_enter Try.func87, Try.ntmps87
    go_wp2_with fail
    go_ret2
    exact ⟨rfl, box_below _ _⟩
  by_cases h2 : o = 2
  · subst h2
    go_enter Try.func87, Try.ntmps87
    go_wp2_with fail
    go_ret2
    exact ⟨rfl, box_below _ _⟩
  by_cases h3 : o = 3
  · subst h3
    go_enter Try.func87, Try.ntmps87
    go_wp2_with fail
    go_ret2
    exact ⟨rfl, box_below _ _⟩
  obtain ⟨e1, e2⟩ := opKids_ar h1 h2 h3
  have HE : Hid (opKids o = (arN o : Int) ∧ opOk o = decide (0 ≤ arity o)) := ⟨e1, e2⟩
  have h1' : (o == 1) = false := by simpa using h1
  have h2' : (o == 2) = false := by simpa using h2
  have h3' : (o == 3) = false := by simpa using h3
  clear h1 h2 h3 e1 e2
  go_enter Try.func87, Try.ntmps87
  go_wp2_with fail
  refine (opOf_calls o _).mono ?_
  rintro e w1 ⟨rfl, hb⟩
  have HB : Hid (Below w.heap.size w w1) := (box_below _ _).trans (hb.mono (by rw [Deep.nblk_alloc]; omega))
  clear hb
  go_wp2_with fail
  go_ret2
  rw [HE.out.1, HE.out.2]
  exact ⟨rfl, HB.out.trans ((box_below _ _).mono HB.out.size)⟩

set_option maxHeartbeats 400000 in
theorem height_ok (o n : Int) (h : Nat) (w : World) (h1 : 0 ≤ arity o) (h2 : arN o ≤ h) (hm : h ≤ 4611686018427387904) : Calls Try.prog 71 #[.agg #[.int .i64 o, .int .i64 n], .int .i64 (h : Int)] w fun e w' => e = .returned (.tuple #[.int .i64 ((h - arN o + 1 : Nat) : Int), .bool true]) ∧ Below w.heap.size w w' := by
  have HV : Hid (((h - arN o + 1 : Nat) : Int) = (h : Int) - arN o + 1) := by unfold Hid; omega
  have hd : decide (0 ≤ arity o) = true := decide_eq_true h1
  have ha : arN o ≤ 3 := by rcases arity_cases o with e | ⟨-, -, e⟩ <;> omega
  have hq := operands_calls o n (w.alloc (.cells #[.int .i64 o, .int .i64 n] 66))
  rw [hd] at hq
  have hle : (arN o : Int) ≤ h := by omega
  clear hd h1
  go_enter Try.func71, Try.ntmps71
  go_wp2_with fail
  refine hq.mono ?_
  rintro e w1 ⟨rfl, hb⟩
  have HB : Hid (Below w.heap.size w w1) := (box_below _ _).trans (hb.mono (by rw [Deep.nblk_alloc]; omega))
  clear hb
  go_wp2_with fail
  go_ret2
  rw [HV.out]
  exact ⟨rfl, HB.out⟩
set_option maxHeartbeats 400000 in
theorem height_no (o n : Int) (h : Nat) (w : World) (h1 : ¬ (0 ≤ arity o ∧ arN o ≤ h)) (hm : h ≤ 4611686018427387904) : Calls Try.prog 71 #[.agg #[.int .i64 o, .int .i64 n], .int .i64 (h : Int)] w fun e w' => (∃ z : Int, e = .returned (.tuple #[.int .i64 z, .bool false])) ∧ Below w.heap.size w w' := by
  have ha : arN o ≤ 3 := by
    rcases arity_cases o with e | ⟨-, -, e⟩
    · unfold arN; rw [e]; decide
    · exact e
  have hq := operands_calls o n (w.alloc (.cells #[.int .i64 o, .int .i64 n] 66))
  by_cases h2 : 0 ≤ arity o
  · have hd : decide (0 ≤ arity o) = true := decide_eq_true h2
    rw [hd] at hq
    have HLE : Hid (decide (arN o ≤ h) = false) := decide_eq_false (by omega)
    clear hd h1 h2
    go_enter Try.func71, Try.ntmps71
    go_wp2_with fail
    refine hq.mono ?_
    rintro e w1 ⟨rfl, hb⟩
    have HB : Hid (Below w.heap.size w w1) := (box_below _ _).trans (hb.mono (by rw [Deep.nblk_alloc]; omega))
    clear hb
    go_wp2_with fail
    go_ret2
    exact ⟨⟨(h : Int) - (arN o : Int) + 1, by rw [HLE.out]; rfl⟩, HB.out⟩
  · have hd : decide (0 ≤ arity o) = false := decide_eq_false h2
    rw [hd] at hq
    clear hd h1 h2
    go_enter Try.func71, Try.ntmps71
    go_wp2_with fail
    refine hq.mono ?_
    rintro e w1 ⟨rfl, hb⟩
    have HB : Hid (Below w.heap.size w w1) := (box_below _ _).trans (hb.mono (by rw [Deep.nblk_alloc]; omega))
    clear hb
    go_wp2_with fail
    go_ret2
    exact ⟨⟨_, rfl⟩, HB.out⟩

theorem dsC_take {cs : List Ins} {ds : List Nat} {k : Nat} (h : dsC [] (cs.take k) = some ds) (hk : k ≤ cs.length) : topH ds ≤ k ∧ ds.length = k := by
  have h1 := height_le h
  have h2 := dsC_len h
  rw [List.length_take, Nat.min_eq_left hk] at h1 h2
  simp [topH] at h1 h2 ⊢
  omega
theorem dsC_some {cs : List Ins} {ds : List Nat} {k : Nat} (h : dsC [] (cs.take k) = some ds) (hk : k < cs.length) (h1 : 0 ≤ arity cs[k].op) (h2 : arN cs[k].op ≤ topH ds) : dsC [] (cs.take (k + 1)) = some (ds ++ [topH ds - arN cs[k].op + 1]) := by
  rw [dsC_succ _ _ _ hk, h]
  simp [dstp, hstp, h1, h2]
theorem dsC_no {cs : List Ins} {ds : List Nat} {k : Nat} (h : dsC [] (cs.take k) = some ds) (hk : k < cs.length) (h1 : ¬ (0 ≤ arity cs[k].op ∧ arN cs[k].op ≤ topH ds)) : dsC [] cs = none := by
  refine dsC_stop (k := k + 1) ?_
  rw [dsC_succ _ _ _ hk, h]
  simp [dstp, hstp, h1]

set_option maxRecDepth 100000 in
set_option maxHeartbeats 1600000 in
theorem implStack_calls (cs : List Ins) (c : Value) (w : World) (hk : InsIn w cs c) (hl : cs.length ≤ 1048576) : Calls Try.prog 36 #[c] w fun e w' => e = .returned (.int .i64 (stackO cs : Int)) ∧ Below w.heap.size w w' := by
  have HK : Hid (InsIn w cs c) := hk
  obtain ⟨ad, cap, rfl, -, -, -⟩ := hk
  go_enter Try.func36, Try.ntmps36
  go_wp2_with fail
  go_loopw [3, 4, 10] (fun h m i wr => ∃ (k : Nat) (ds : List Nat), k ≤ cs.length ∧ i = .int .i64 k ∧ Hid (dsC [] (cs.take k) = some ds) ∧ h = .int .i64 (topH ds : Int) ∧ m = .int .i64 (mxL ds : Int) ∧ Below w.heap.size w wr) (fun _ _ i _ => cs.length - (intOf i).toNat)
  case atStart => exact ⟨0, [], Nat.zero_le _, rfl, rfl, rfl, rfl, Below.refl _ _⟩
  case round =>
    obtain ⟨k, ds, hk, rfl, HD, rfl, rfl, hb⟩ := hrel
    have htk := (dsC_take HD.out hk).1
    by_cases hlt : k < cs.length
    · obtain ⟨bl, off, rfl, -, c0, c1⟩ := (HK.out.next hb).at k hlt
      have HB : Hid (Below w.heap.size w wr) := hb
      clear hb
      by_cases hok : 0 ≤ arity cs[k].op ∧ arN cs[k].op ≤ topH ds
      · have HN := mkHid (dsC_some HD.out hlt hok.1 hok.2)
        obtain ⟨hok1, hok2⟩ := hok
        have hq := height_ok cs[k].op cs[k].num (topH ds) (wr.alloc (.cells #[.int .i64 cs[k].op, .int .i64 cs[k].num] 66)) hok1 hok2 (by omega)
        have HM := mkHid (mxL_snoc ds (topH ds - arN cs[k].op + 1))
        have HT := mkHid (topH_snoc ds (topH ds - arN cs[k].op + 1))
        clear hok1 hok2
        obtain ⟨h', hh'⟩ : ∃ h' : Nat, h' = topH ds - arN cs[k].op + 1 := ⟨_, rfl⟩
        rw [← hh'] at hq HN HM HT
        clear hh'
        go_wp2_with fail
        refine hq.mono ?_
        rintro e w1 ⟨rfl, hb1⟩
        have HB1 : Hid (Below w.heap.size w w1) := HB.out.trans (((box_below _ _).trans (hb1.mono (by rw [Deep.nblk_alloc]; omega))).mono HB.out.size)
        clear hb1
        go_wp2_with fail
        go_roundw
        case rel => exact ⟨k + 1, _, by omega, by go_num, HN, by rw [HT.out], congrArg (Value.int .i64) (by rw [HM.out]; split <;> omega), HB1.out⟩
        case measure => simp [intOf]; omega
      · have hq := height_no cs[k].op cs[k].num (topH ds) (wr.alloc (.cells #[.int .i64 cs[k].op, .int .i64 cs[k].num] 66)) hok (by omega)
        have HV : Hid (stackO cs = 0) := by unfold Hid stackO; rw [dsC_no HD.out hlt hok]
        clear hok
        go_wp2_with fail
        refine hq.mono ?_
        rintro e w1 ⟨⟨z, rfl⟩, hb1⟩
        have HB1 : Hid (Below w.heap.size w w1) := HB.out.trans (((box_below _ _).trans (hb1.mono (by rw [Deep.nblk_alloc]; omega))).mono HB.out.size)
        clear hb1
        go_wp2_with fail
        go_ret
        rw [HV.out]
        exact ⟨rfl, HB1.out⟩
    · have hke : k = cs.length := by omega
      have HV : Hid (stackO cs = mxL ds) := by
        have := HD.out
        rw [hke, List.take_length] at this
        unfold Hid stackO; rw [this]
      have HB : Hid (Below w.heap.size w wr) := hb
      clear hke hb
      go_wp2_with fail
      go_ret
      rw [HV.out]
      exact ⟨rfl, HB.out⟩
end Go.Proofs.Ythknbafcnobgdaa
