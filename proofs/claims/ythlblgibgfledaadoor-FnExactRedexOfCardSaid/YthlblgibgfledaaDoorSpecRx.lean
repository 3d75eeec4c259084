/-
  THE MODEL's RedexOf.
-/
import Derived.Test.YthlblgibgfledaaDoorSpecRedex
namespace Go.Proofs.YthlblgibgfledaaDoor
set_option linter.unusedVariables false
set_option linter.unusedSimpArgs false
open Go.RowKit

set_option maxHeartbeats 1600000 in
theorem specRx_calls (ds : List Df) (g : List Ce) (a : Int) (c v : Value) (w : World) (hd : DIn w ds c) (hk : CIn w g v) :
    Calls Tryd.prog 11 #[c, v, .int .i64 a] w fun e w' => e = .returned (.tuple #[.int .i64 (rxI ds g a), .int .i64 (rxC ds g a)]) ∧ Below w.heap.size w w' := by
  have HD : Hid (DIn w ds c) := hd
  have HK : Hid (CIn w g v) := hk
  clear hd hk
  go_enter Tryd.func11, Tryd.ntmps11
  go_wp2_with fail
  refine (l4Right_calls ds g a _ _ _ HD.out HK.out).mono ?_
  rintro e w1 ⟨rfl, hb1⟩
  have HB1 : Hid (Below w.heap.size w w1) := hb1
  clear hb1
  cases hr : rightB ds g a with
  | false =>
    have HV := mkHid (rx_no hr)
    clear hr
    go_wp2_with fail
    go_ret2
    exact ⟨ret_ii HV.out.1.symm HV.out.2.symm, HB1.out⟩
  | true =>
    have HR := mkHid (right_parts hr)
    have HRT := mkHid hr
    obtain ⟨n, rfl⟩ : ∃ n : Nat, a = (n : Int) := ⟨a.toNat, by have := HR.out.2.2.1; omega⟩
    have hn : n < g.length := by have := HR.out.2.2.2; omega
    clear hr
    go_wp2_with fail
    refine (l4Value_calls ds g n _ _ _ (HD.out.next HB1.out) (HK.out.next HB1.out) HR.out.2.1 hn).mono ?_
    rintro e w2 ⟨rfl, hb2⟩
    have HB2 : Hid (Below w.heap.size w w2) := HB1.out.trans (hb2.mono HB1.out.size)
    clear hb2
    cases hv : valB (arsOf ds) g n with
    | true =>
      have HV := mkHid (rx_val HRT.out hv)
      clear hv
      go_wp2_with fail
      go_ret2
      exact ⟨ret_ii HV.out.1.symm HV.out.2.symm, HB2.out⟩
    | false =>
      have HV := mkHid (rx_red HRT.out hv)
      have HVF := mkHid hv
      clear hv
      go_wp2_with fail
      have hcall := l4R_all ds g HR.out.2.1 HR.out.1 (g.length + 1) 0 n _ _ w2 (HD.out.next HB2.out) (HK.out.next HB2.out) hn (by omega) HVF.out
      refine hcall.mono ?_
      rintro e w3 ⟨rfl, hb3⟩
      have HB3 : Hid (Below w.heap.size w w3) := HB2.out.trans (hb3.mono HB2.out.size)
      clear hb3 hcall
      go_wp2_with fail
      go_ret2
      exact ⟨ret_ii HV.out.1.symm HV.out.2.symm, HB3.out⟩
end Go.Proofs.YthlblgibgfledaaDoor
