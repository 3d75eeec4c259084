/-
  THE PROGRAM's StrictArgs: the greatest needs that hold, in new memory.
-/
import Derived.Test.YtocnkjicmchbdaaImplStl
import Derived.Test.YtocnkjicmchbdaaOfTop
import Derived.Deep.LoopGhost
namespace Go.Proofs.Ytocnkjicmchbdaa
set_option linter.unusedVariables false
set_option linter.unusedSimpArgs false
open Go.RowKit

set_option maxHeartbeats 400000 in
theorem top1_calls (i v : Int) (w : World) : Calls Try.prog 65 #[.int .i64 i, .int .i64 v] w fun e w' => e = .returned (.bool true) ∧ Below w.heap.size w w' := by
  go_enter Try.func65, Try.ntmps65
  go_wp2_with fail
  go_ret
  exact ⟨rfl, Below.refl _ _⟩

set_option maxRecDepth 100000 in
set_option maxHeartbeats 1600000 in
theorem implStrictArgs_calls (ds : List Df) (p : Value) (w : World) (hp : DInP w ds p) (hz : szL (bodies ds) ≤ 1048576) :
    Calls Try.prog 20 #[p] w (NewN (strictA ds) w) := by
  have HP : Hid (DInP w ds p) := hp
  have HPV := mkHid (implProg_calls ds _ w hp.inP)
  obtain ⟨adp, capp, rfl, -, -, -⟩ := hp
  cases hpr : progB ds with
  | false =>
    rw [hpr] at HPV
    rw [strictA_no hpr]
    clear hpr
    go_enter Try.func20, Try.ntmps20
    go_wp2_with fail
    refine HPV.out.mono ?_
    rintro e w1 ⟨rfl, hb1⟩
    have HB1 := mkHid hb1
    clear hb1
    go_wp2_with fail
    go_ret
    exact ⟨_, rfl, NOwn.nil _ _, HB1.out⟩
  | true =>
    rw [hpr] at HPV
    have HPR := mkHid hpr
    have HZ := mkHid hz
    have HAR := mkHid (progB_ar hpr)
    obtain ⟨M, hM⟩ : ∃ M, M = cntG ds (bitN (topN ds)) := ⟨_, rfl⟩
    have HM := mkHid hM
    have H6 := mkHid (progB_len hpr)
    clear hpr hz hM
    go_enter Try.func20, Try.ntmps20
    go_wp2_with fail
    refine HPV.out.mono ?_
    rintro e w1 ⟨rfl, hb1⟩
    have HB1 := mkHid hb1
    clear hb1
    go_wp2_with fail
    refine (ofTop_calls ds (fun _ _ => true) _ w1 (HP.out.inP.next HB1.out) H6.out HAR.out fun W i v _ _ _ => top1_calls _ _ W).mono ?_
    rintro e w2 ⟨v, rfl, hv, hb2⟩
    rw [← topN_grid] at hv
    have HV2 : Hid (NOwn w2 w.heap.size (topN ds) v) := hv.down HB1.out.size
    have HB2 : Hid (Below w.heap.size w w2) := HB1.out.trans (hb2.mono HB1.out.size)
    clear hv hb2
    go_wp2_with fail
    go_loopg [3] M (fun m nv wr => ∃ need : List (List Bool), Hid (m = cntG ds (bitN need)) ∧ NOwn wr w.heap.size need nv ∧ FitN ds need ∧ (∀ k, HoldN ds k → LeN k need) ∧ Below w.heap.size w wr)
    case atStart => exact ⟨topN ds, HM.out, HV2.out, topN_fit fun d hd => (HAR.out d hd).1, topN_great fun d hd => (HAR.out d hd).1, HB2.out⟩
    case round =>
      obtain ⟨need, hm, hown, hfit, hup, hb⟩ := hrel
      have HMM := mkHid hm
      have HO := mkHid hown
      have HF := mkHid hfit
      have HU := mkHid hup
      have HB := mkHid hb
      clear hm hown hfit hup hb
      go_wp2_with fail
      refine (still_calls ds need _ _ wr (DefsOn.nextP HP.out HB.out) HO.out.nin HPR.out HZ.out HF.out).mono ?_
      rintro e w4 ⟨v4, rfl, hv4, hb4⟩
      have HV4 : Hid (NOwn w4 w.heap.size (gridN ds (stillF ds need)) v4) := hv4.down HB.out.size
      have HO4 : Hid (NOwn w4 w.heap.size need u3) := HO.out.next hb4
      have HB4 : Hid (Below w.heap.size w w4) := HB.out.trans (hb4.mono HB.out.size)
      clear hv4 hb4
      go_wp2_with fail
      refine (sameNeed_calls _ need v4 u3 w4 HV4.out.nin HO4.out.nin).mono ?_
      rintro e w5 ⟨rfl, hb5⟩
      have HV5 : Hid (NOwn w5 w.heap.size (gridN ds (stillF ds need)) v4) := HV4.out.next hb5
      have HO5 : Hid (NOwn w5 w.heap.size need u3) := HO4.out.next hb5
      have HB5 : Hid (Below w.heap.size w w5) := HB4.out.trans (hb5.mono HB4.out.size)
      clear hb5
      by_cases he : gridN ds (stillF ds need) = need
      · have HG : Hid (strictA ds = need) := strictA_of HPR.out ⟨still_holds HF.out he, HU.out⟩
        rw [decide_eq_true he]
        clear he
        go_wp2_with fail
        go_ret
        exact ⟨_, rfl, by rw [HG.out]; exact HO5.out, HB5.out⟩
      · have HLT := mkHid (still_less HF.out he)
        rw [decide_eq_false he]
        clear he
        go_wp2_with fail
        go_roundg (cntG ds (bitN (gridN ds (stillF ds need))))
        case rel => exact ⟨_, rfl, HV5.out, grid_fit HAR.out _, still_great HF.out HU.out, HB5.out⟩
        case measure => rw [cntG_grid]; have := HLT.out; have := HMM.out.out; omega
end Go.Proofs.Ytocnkjicmchbdaa
