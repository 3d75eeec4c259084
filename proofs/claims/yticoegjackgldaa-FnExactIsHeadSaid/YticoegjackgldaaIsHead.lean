/-
  IsHead of the program.
-/
import Derived.Test.YticoegjackgldaaHead
namespace Go.Proofs.Yticoegjackgldaa
set_option linter.unusedVariables false
set_option linter.unusedSimpArgs false
open Go.RowKit

set_option maxRecDepth 100000 in
set_option maxHeartbeats 800000 in
theorem isHead_calls (ds : List Df) (p : Value) (a : Tr) (c : Value) (w : World) (hp : DIn w ds p) (hk : InP w a.kids c) (ha : I64 a.op ∧ I64 a.num) (hz : szT a ≤ 1099511627776) :
    Calls Try.prog 44 #[p, .agg #[.int .i64 a.op, .int .i64 a.num, c]] w fun e w' => e = .returned (.bool (headB ds a)) ∧ Below w.heap.size w w' := by
  have HK : Hid (InP w a.kids c) := hk
  have HP : Hid (DIn w ds p) := hp
  obtain ⟨ad, cap, rfl, -, -, -⟩ := hk
  obtain ⟨adp, capp, rfl, -, -, -⟩ := hp
  unfold headB
  cases hpb : closedB ds a with
  | false =>
    have hq : ∀ W, DIn W ds (.slice adp ds.length capp) → In W a.kids (.slice ad a.kids.length cap) → Calls Try.prog 70 #[.slice adp ds.length capp, .agg #[.int .i64 a.op, .int .i64 a.num, .slice ad a.kids.length cap]] W fun e w' => e = .returned (.bool false) ∧ Below W.heap.size W w' := fun W h h' => by have := isClosed_calls ds _ a _ W h h'; rwa [hpb] at this
    clear hpb
    go_enter Try.func44, Try.ntmps44
    go_wp2_with (go_at_call 70; refine (hq _ ?_ ?_).mono ?_; exact HP.out.next (box_below _ _); exact HK.out.inP.next (box_below _ _); rintro e w1 ⟨rfl, hb1⟩; obtain ⟨q0, q1, q2, q3, HB1⟩ := box_after hb1; have HB1 : Hid _ := HB1; clear hb1)
    go_ret
    exact ⟨rfl, HB1.out⟩
  | true =>
    have hcl : Closed ds a := by
      unfold closedB at hpb
      simp only [Bool.and_eq_true] at hpb
      exact closed_of_valid hpb.2
    have hq : ∀ W, DIn W ds (.slice adp ds.length capp) → In W a.kids (.slice ad a.kids.length cap) → Calls Try.prog 70 #[.slice adp ds.length capp, .agg #[.int .i64 a.op, .int .i64 a.num, .slice ad a.kids.length cap]] W fun e w' => e = .returned (.bool true) ∧ Below W.heap.size W w' := fun W h h' => by have := isClosed_calls ds _ a _ W h h'; rwa [hpb] at this
    have HC : Hid (Closed ds a) := hcl
    clear hpb hcl
    go_enter Try.func44, Try.ntmps44
    go_wp2_with (first
      | (go_at_call 70; refine (hq _ ?_ ?_).mono ?_; exact HP.out.next (box_below _ _); exact HK.out.inP.next (box_below _ _); rintro e w1 ⟨rfl, hb1⟩; obtain ⟨q0, q1, q2, q3, HB1⟩ := box_after hb1; have HB1 : Hid _ := HB1; clear hb1)
      | (go_at_call 71; refine (isValue_calls ds _ a _ _ (HP.out.next HB1.out) (HK.out.nextP HB1.out) ha hz HC.out).mono ?_; rintro e w2 ⟨rfl, hb2⟩; have HB2 : Hid (Below w.heap.size w w2) := HB1.out.trans (hb2.mono HB1.out.size); clear hb2))
    go_ret
    exact ⟨rfl, HB2.out⟩
end Go.Proofs.Yticoegjackgldaa
