/-
  THE PROGRAM's stillNeeded AND NeedHolds.
-/
import Derived.Test.YtocnkjicmchbdaaStillT
import Derived.Test.YtocnkjicmchbdaaOfStill
import Derived.Test.YtocnkjicmchbdaaImplIn
import Derived.Test.YtocnkjicmchbdaaNeedEq
import Derived.Test.YtocnkjicmchbdaaDefsP
namespace Go.Proofs.Ytocnkjicmchbdaa
set_option linter.unusedVariables false
set_option linter.unusedSimpArgs false
open Go.RowKit

/-- a body in plain blocks, and what needs says of it -/
theorem body_inP {ds : List Df} {need : List (List Bool)} {adp : Option Addr} {capp : Nat} {q : Value} {w : World} (hp : DInP w ds (.slice adp ds.length capp)) (hn : NIn w need q) (hpr : progB ds = true) (hz : szL (bodies ds) ≤ 1048576) (i : Nat) (hi : i < ds.length) :
    ∃ bl off adk capk, adp = some ⟨bl, off, none⟩ ∧ w.cell? ⟨bl, off + i * 4, none⟩ = some (.int .i64 ds[i].1) ∧ w.cell? ⟨bl, off + i * 4 + 1, none⟩ = some (.int .i64 ds[i].2.op) ∧ w.cell? ⟨bl, off + i * 4 + 2, none⟩ = some (.int .i64 ds[i].2.num) ∧ w.cell? ⟨bl, off + i * 4 + 3, none⟩ = some (.slice adk ds[i].2.kids.length capk) ∧
      ∀ (W : World) (v : Int), Below w.heap.size w W → Calls Try.prog 57 #[.agg #[.int .i64 ds[i].2.op, .int .i64 ds[i].2.num, .slice adk ds[i].2.kids.length capk], .int .i64 v, q] W fun e w' => e = .returned (.bool (needB need v ds[i].2)) ∧ Below W.heap.size W w' := by
  obtain ⟨bl, off, c, rfl, c0, c1, c2, c3, -, i1, i2, hk⟩ := hp.inP.at i hi
  obtain ⟨bl', off', c', he, c4, hkP⟩ := hp.atP i hi
  simp only [Option.some.injEq, Addr.mk.injEq, and_true] at he
  obtain ⟨rfl, rfl⟩ := he
  rw [c3] at c4
  simp only [Option.some.injEq] at c4
  subst c4
  obtain ⟨adk, capk, rfl, -, -, -⟩ := id hk
  refine ⟨bl, off, adk, capk, rfl, c0, c1, c2, c3, fun W v hW => needs_calls need v _ (progB_body hpr i hi) ?_ _ _ W (hkP.nextP hW) (hn.next hW) ⟨i1, i2⟩⟩
  have := szT_lt_szL (bodies ds) i (by rw [bodies_length]; exact hi)
  have e : (bodies ds)[i]'(by rw [bodies_length]; exact hi) = ds[i].2 := by simp [bodies]
  rw [e] at this
  omega

set_option maxRecDepth 100000 in
set_option maxHeartbeats 1600000 in
theorem still1_calls (ds : List Df) (need : List (List Bool)) (p q : Value) (nb pb : Nat) (w : World) (hp : DInP w ds p) (hn : NIn w need q) (hpr : progB ds = true) (hz : szL (bodies ds) ≤ 1048576) (hf : FitN ds need)
    (hcn : w.cell? ⟨nb, 0, none⟩ = some q) (hcp : w.cell? ⟨pb, 0, none⟩ = some p) (i v : Nat) (hi : i < ds.length) (hv : v < arN ds i) :
    Calls Try.prog 102 #[.int .i64 (i : Int), .int .i64 (v : Int), .pointer (some ⟨nb, 0, none⟩), .pointer (some ⟨pb, 0, none⟩)] w fun e w' => e = .returned (.bool (stillF ds need i v)) ∧ Below w.heap.size w w' := by
  have hi2 : i < need.length := by rw [hf.1]; exact hi
  have hv2 : v < need[i].length := by rw [← fit_arN hf hi hi2]; exact hv
  obtain ⟨adp, capp, rfl, hpl, hpm, -⟩ := id hp
  obtain ⟨adn, capn, rfl, hnl, hnm, -⟩ := id hn
  unfold maxLen at hpm hnm
  obtain ⟨bl, off, adk, capk, rfl, c0, c1, c2, c3, hc⟩ := body_inP hp hn hpr hz i hi
  obtain ⟨nb', noff, rv, rfl, hnb, n0, hrw⟩ := hn.at i hi2
  obtain ⟨adr, capr, rfl, hrl, hrm, -⟩ := id hrw
  unfold maxLen at hrm
  obtain ⟨rb, roff, rfl, hrb, r0⟩ := hrw.at v hv2
  have HV : Hid (stillF ds need i v = (need[i][v] && needB need (v : Int) ds[i].2)) := by unfold Hid stillF; rw [bitN_at hi2 hv2, bodyN_at hi]
  rw [HV.out]
  obtain ⟨b, hb⟩ : ∃ b, b = need[i][v] := ⟨_, rfl⟩
  obtain ⟨x, hx⟩ : ∃ x, x = needB need (v : Int) ds[i].2 := ⟨_, rfl⟩
  obtain ⟨o, ho⟩ : ∃ o, o = ds[i].2.op := ⟨_, rfl⟩
  obtain ⟨m, hm⟩ : ∃ m, m = ds[i].2.num := ⟨_, rfl⟩
  obtain ⟨z, hz9⟩ : ∃ z, z = ds[i].2.kids.length := ⟨_, rfl⟩
  obtain ⟨rl, hrl9⟩ : ∃ rl, rl = need[i].length := ⟨_, rfl⟩
  have hcv := fun W h => hc W (v : Int) h
  rw [← hb] at r0
  rw [← hx, ← ho, ← hm, ← hz9] at hcv
  rw [← ho] at c1
  rw [← hm] at c2
  rw [← hz9] at c3
  rw [← hrl9] at n0 hv2
  rw [← hb, ← hx]
  have HC := mkHid hcv
  have hiI : (i : Int) < (ds.length : Int) := by omega
  have hi2I : (i : Int) < (need.length : Int) := by omega
  have hvI : (v : Int) < (rl : Int) := by omega
  have k0 := cell_regrown hcn
  have k1 := cell_regrown hcp
  have k2 := cell_regrown n0
  have k3 := cell_regrown r0
  have k4 := cell_regrown c1
  have k5 := cell_regrown c2
  have k6 := cell_regrown c3
  clear hp hn hpr hz hf hc hb hx ho hm hz9 HV hcv hrw hnb hrb c0 hrl9 hrl
  cases b with
  | false =>
    clear k4 k5 k6 c1 c2 c3
    go_enter Try.func102, Try.ntmps102
    go_wp2_with fail
    refine wp_region_quiet_below (by kernel_rfl) (by kernel_rfl) ?_
    repeat (any_goals (first | go_big_quiet_step (fail) | quiet_step (fail)))
    refine wpQuiet_nil ?_
    intro _ hw'
    obtain ⟨⟨dq, osq⟩, hw''⟩ := hw'
    subst hw''
    clear k0 k1 k2 k3
    go_wp2_with fail
    go_ret
    exact ⟨rfl, below_regrown _ _ _⟩
  | true =>
    rw [Bool.true_and]
    go_enter Try.func102, Try.ntmps102
    go_wp2_with fail
    refine wp_region_quiet_below (by kernel_rfl) (by kernel_rfl) ?_
    repeat (any_goals (first | go_big_quiet_step (exact quietB (fun W h => HC.out W h) _ _) | quiet_step (exact quietB (fun W h => HC.out W h) _ _)))
    refine wpQuiet_nil ?_
    intro _ hw'
    obtain ⟨⟨dq, osq⟩, hw''⟩ := hw'
    subst hw''
    clear k0 k1 k2 k3 k4 k5 k6
    go_wp2_with fail
    go_ret
    exact ⟨rfl, below_regrown _ _ _⟩

set_option maxRecDepth 100000 in
set_option maxHeartbeats 1600000 in
theorem still_calls (ds : List Df) (need : List (List Bool)) (p q : Value) (w : World) (hp : DInP w ds p) (hn : NIn w need q) (hpr : progB ds = true) (hz : szL (bodies ds) ≤ 1048576) (hf : FitN ds need) :
    Calls Try.prog 66 #[p, q] w (NewN (gridN ds (stillF ds need)) w) := by
  obtain ⟨adp, capp, rfl, -, -, -⟩ := id hp
  obtain ⟨adn, capn, rfl, -, -, -⟩ := id hn
  obtain ⟨W, hW⟩ : ∃ W, W = (w.alloc (.cells #[.slice adp ds.length capp] 40)).alloc (.cells #[.slice adn need.length capn] 25) := ⟨_, rfl⟩
  have HB : Hid (Below w.heap.size w W) := by rw [hW]; exact ((Below.refl _ _).alloc (Nat.le_refl _) _).alloc (by simp) _
  have hz1 : W.heap.size = w.heap.size + 2 := by rw [hW, Deep.nblk_alloc, Deep.nblk_alloc]
  have b0 : W.heap[w.heap.size]? = some (.cells #[.slice adp ds.length capp] 40) := by rw [hW, Deep.blk_alloc_lt _ _ _ (by rw [Deep.nblk_alloc]; omega)]; exact Deep.blk_alloc_new _ _
  have b1 : W.heap[w.heap.size + 1]? = some (.cells #[.slice adn need.length capn] 25) := by
    rw [hW]
    have h := Deep.blk_alloc_new (w.alloc (.cells #[.slice adp ds.length capp] 40)) (.cells #[.slice adn need.length capn] 25)
    rw [Deep.nblk_alloc] at h
    exact h
  have HO := mkHid (ofStill_calls ds (stillF ds need) _ (w.heap.size + 1) w.heap.size W (hp.inP.next HB.out) (progB_len hpr) (progB_ar hpr) fun W2 i v hb hi hv =>
    still1_calls ds need _ _ (w.heap.size + 1) w.heap.size W2 ((hp.nextP HB.out).nextP hb) ((hn.next HB.out).next hb) hpr hz hf (cell_of_blk ((hb.block _ (by omega)).trans b1) 0 _ rfl) (cell_of_blk ((hb.block _ (by omega)).trans b0) 0 _ rfl) i v hi hv)
  have HW := mkHid hW
  have HZ1 := mkHid hz1
  clear hp hn hpr hz hf hW b0 b1 hz1
  go_enter Try.func66, Try.ntmps66
  go_wp2_with fail
  rw [← HW.out]
  refine HO.out.mono ?_
  rintro e w1 ⟨v, rfl, hv, hb⟩
  have HV1 : Hid (NOwn w1 W.heap.size (gridN ds (stillF ds need)) v) := hv
  have HB1 : Hid (Below w.heap.size w w1) := HB.out.trans (hb.mono HB.out.size)
  have HLO : Hid (w.heap.size ≤ W.heap.size) := HB.out.size
  clear hv hb
  go_wp2_with fail
  go_ret
  exact ⟨_, rfl, HV1.out.down HLO.out, HB1.out⟩

set_option maxRecDepth 100000 in
set_option maxHeartbeats 800000 in
theorem implNeedHolds_calls (ds : List Df) (need : List (List Bool)) (p q : Value) (w : World) (hp : DInP w ds p) (hn : NIn w need q) (hz : szL (bodies ds) ≤ 1048576) :
    Calls Try.prog 26 #[p, q] w fun e w' => e = .returned (.bool (holdsO ds need)) ∧ Below w.heap.size w w' := by
  have HP : Hid (DInP w ds p) := hp
  have HN := mkHid hn
  have HZ := mkHid hz
  obtain ⟨adp, capp, rfl, -, -, -⟩ := hp
  obtain ⟨adn, capn, rfl, -, -, -⟩ := hn
  obtain ⟨r, hr⟩ : ∃ r, r = holdsO ds need := ⟨_, rfl⟩
  rw [← hr]
  have HR := mkHid hr
  clear hr hz
  have HPV := mkHid (implProg_calls ds _ w HP.out.inP)
  cases hpr : progB ds with
  | false =>
    have HV : Hid (r = false) := HR.out.trans (holdsO_prog hpr)
    rw [hpr] at HPV
    clear hpr
    go_enter Try.func26, Try.ntmps26
    go_wp2_with fail
    refine HPV.out.mono ?_
    rintro e w1 ⟨rfl, hb1⟩
    have HB1 := mkHid hb1
    clear hb1
    go_wp2_with fail
    go_ret
    exact ⟨ret_bool HV.out.symm, HB1.out⟩
  | true =>
    have HPR := mkHid hpr
    rw [hpr] at HPV
    clear hpr
    have HEQ := mkHid fun W h => eqFuncA_calls ds need _ _ W (HP.out.inP.next h) (HN.out.next h)
    cases hfi : fitO ds need with
    | false =>
      have HV : Hid (r = false) := HR.out.trans (holdsO_fit fun h => by rw [fitO_yes h] at hfi; cases hfi)
      rw [hfi] at HEQ
      clear hfi
      go_enter Try.func26, Try.ntmps26
      go_wp2_with fail
      refine HPV.out.mono ?_
      rintro e w1 ⟨rfl, hb1⟩
      have HB1 := mkHid hb1
      clear hb1
      go_wp2_with fail
      refine (HEQ.out _ HB1.out).mono ?_
      rintro e w2 ⟨rfl, hb2⟩
      have HB2 : Hid (Below w.heap.size w w2) := HB1.out.trans (hb2.mono HB1.out.size)
      clear hb2
      go_wp2_with fail
      go_ret
      exact ⟨ret_bool HV.out.symm, HB2.out⟩
    | true =>
      have HF := mkHid (fitO_iff hfi)
      rw [hfi] at HEQ
      have HV := mkHid (HR.out.trans (holdsO_still HPR.out HF.out))
      clear hfi
      go_enter Try.func26, Try.ntmps26
      go_wp2_with fail
      refine HPV.out.mono ?_
      rintro e w1 ⟨rfl, hb1⟩
      have HB1 := mkHid hb1
      clear hb1
      go_wp2_with fail
      refine (HEQ.out _ HB1.out).mono ?_
      rintro e w2 ⟨rfl, hb2⟩
      have HB2 : Hid (Below w.heap.size w w2) := HB1.out.trans (hb2.mono HB1.out.size)
      clear hb2
      go_wp2_with fail
      refine (still_calls ds need _ _ w2 (DefsOn.nextP HP.out HB2.out) (HN.out.next HB2.out) HPR.out HZ.out HF.out).mono ?_
      rintro e w3 ⟨v3, rfl, hv3, hb3⟩
      have HB3 : Hid (Below w.heap.size w w3) := HB2.out.trans (hb3.mono HB2.out.size)
      have HQ := mkHid (sameNeed_calls _ need v3 _ w3 hv3.nin (HN.out.next HB3.out))
      clear hb3 hv3
      go_wp2_with fail
      refine HQ.out.mono ?_
      rintro e w4 ⟨rfl, hb4⟩
      have HB4 : Hid (Below w.heap.size w w4) := HB3.out.trans (hb4.mono HB3.out.size)
      clear hb4
      obtain ⟨y, hy⟩ : ∃ y, y = decide (gridN ds (stillF ds need) = need) := ⟨_, rfl⟩
      have HV2 := mkHid (HV.out.trans hy.symm)
      rw [← hy]
      clear hy
      go_wp2_with fail
      go_ret
      exact ⟨ret_bool HV2.out.symm, HB4.out⟩
end Go.Proofs.Ytocnkjicmchbdaa
