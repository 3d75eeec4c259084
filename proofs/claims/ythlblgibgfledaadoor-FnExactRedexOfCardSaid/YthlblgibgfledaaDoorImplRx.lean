/-
  THE PROGRAM's RedexOf.
-/
import Derived.Test.YthlblgibgfledaaDoorImplRedex
namespace Go.Proofs.YthlblgibgfledaaDoor
set_option linter.unusedVariables false
set_option linter.unusedSimpArgs false
open Go.RowKit

theorem rdC_le (o : Option Nat) : rdC o ≤ 3 := by cases o <;> simp [rdC]
set_option maxHeartbeats 1600000 in
theorem implRx_calls (aF aS aL : Addr) (ds : List Df) (g : List Ce) (a : Int) (c v : Value) (w : World) (hE : Errs aF aS aL w) (hd : DIn w ds c) (hk : CIn w g v) :
    Calls Tryd.prog 14 #[c, v, .int .i64 a] w fun e w' => e = .returned (.tuple #[.int .i64 (rxI ds g a), .int .i64 (rxC ds g a)]) ∧ Below w.heap.size w w' := by
  have HD : Hid (DIn w ds c) := hd
  have HK : Hid (CIn w g v) := hk
  have HE := mkHid hE
  clear hd hk hE
  go_enter Tryd.func14, Tryd.ntmps14
  go_wp2_with fail
  refine (canReduce_calls ds g a _ _ _ HD.out HK.out).mono ?_
  rintro e w1 ⟨rfl, hb1⟩
  have HB1 : Hid (Below w.heap.size w w1) := hb1
  clear hb1
  cases hr : rightB ds g a with
  | false =>
    have HV := mkHid (rx_no hr)
    clear hr
    go_wp2_with fail
    go_ret2
    exact ⟨ret_ii' HV.out.1.symm HV.out.2.symm, HB1.out⟩
  | true =>
    have HR := mkHid (right_parts hr)
    have HRT := mkHid hr
    obtain ⟨n, rfl⟩ : ∃ n : Nat, a = (n : Int) := ⟨a.toNat, by have := HR.out.2.2.1; omega⟩
    have hn : n < g.length := by have := HR.out.2.2.2; omega
    clear hr
    go_wp2_with fail
    refine (isValueCell_calls ds g n _ _ _ (HD.out.next HB1.out) (HK.out.next HB1.out) HR.out.2.1 hn).mono ?_
    rintro e w2 ⟨rfl, hb2⟩
    have HB2 : Hid (Below w.heap.size w w2) := HB1.out.trans (hb2.mono HB1.out.size)
    clear hb2
    cases hv : valB (arsOf ds) g n with
    | true =>
      have HV := mkHid (rx_val HRT.out hv)
      clear hv
      go_wp2_with fail
      go_ret2
      exact ⟨ret_ii' HV.out.1.symm HV.out.2.symm, HB2.out⟩
    | false =>
      have HV := mkHid (rx_red HRT.out hv)
      have HVF := mkHid hv
      clear hv
      go_wp2_with fail
      refine (redexFrom_calls aF aS aL ds g n _ _ w2 (HE.out.next HB2.out) (HD.out.next HB2.out) (HK.out.next HB2.out) HR.out.2.1 HR.out.1 hn HVF.out).mono ?_
      rintro e w3 ⟨rfl, hb3⟩
      have HB3 : Hid (Below w.heap.size w w3) := HB2.out.trans (hb3.mono HB2.out.size)
      clear hb3
      obtain ⟨k, hk⟩ : ∃ k, k = rdC (redex (arsOf ds) g n) := ⟨_, rfl⟩
      rw [← hk]
      rw [← hk] at HV
      have hk3 : k ≤ 3 := by rw [hk]; exact rdC_le _
      clear hk
      generalize hev : errV aF aS aL k = ev
      have HEV := mkHid hev
      clear hev
      have HC : Hid (∀ W : World, Below w3.heap.size w3 W → Calls Tryd.prog 46 #[ev] W fun e w' => e = .returned (.int .i64 (k : Int)) ∧ W = w') := fun W hW => by
        rw [← HEV.out]
        exact (codeOf_calls aF aS aL k hk3 W ((HE.out.next HB3.out).next hW)).mono fun _ _ h => ⟨h.1, h.2.symm⟩
      go_wp2_with fail
      refine (HC.out _ (Below.refl _ _)).mono ?_
      rintro e w4 ⟨rfl, rfl⟩
      go_wp2_with fail
      go_ret2
      exact ⟨ret_ii' HV.out.1.symm HV.out.2.symm, HB3.out⟩
end Go.Proofs.YthlblgibgfledaaDoor
