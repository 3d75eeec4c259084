/-
  THE PROGRAM's runner: advance and tick.
-/
import Derived.Test.YtiipcgnkfhjpeaaGreatDoorMgExactEvalRun46
import Derived.Deep.LoopGhost
import Derived.BigQuiet
import Derived.Test.YtiipcgnkfhjpeaaGreatDoorMgExactEvalRun31
import Derived.Test.YtiipcgnkfhjpeaaGreatDoorMgExactEvalRun28
import Derived.Test.YtiipcgnkfhjpeaaGreatDoorMgExactEvalRun34
namespace Go.Proofs.YtiipcgnkfhjpeaaGreatDoor
set_option linter.unusedVariables false
set_option linter.unusedSimpArgs false
open Go.RowKit

/-- a part of a tick is over: the error and the run -/
def AdvD (aF aS aL : Addr) (Q S A lo : Nat) (c : Value) (tidy : Bool) (r : Rn × Nat) (w : World) (e : Ending) (w' : World) : Prop :=
  e = .returned (errV aF aS aL r.2) ∧ RunW Q S A lo c tidy r.1 w' ∧ Below lo w w'
set_option maxRecDepth 100000 in
set_option maxHeartbeats 1600000 in
theorem advance_calls (aF aS aL : Addr) (ds : List Df) (Q S A lo : Nat) (c : Value) (tidy : Bool) (x : Rn) (w : World) (hE : Errs aF aS aL w) (h : RunW Q S A lo c tidy x w) (hlo : lo ≤ w.heap.size) (hd : DefsOn w (fun k => k < lo ∧ Pl w k) ds c) (ho : x.Ok ds) (hp : progB ds = true) (hv : x.val ds = false) (hb : x.Bd 900000000) :
    Calls Tryz.prog 60 #[.pointer (some ⟨Q, 0, none⟩)] w (AdvD aF aS aL Q S A lo c tidy (x.adv ds) w) := by
  have hm : ∀ w : World, (Go.method 353 121 (.pointer (some ⟨S, 0, none⟩)) "loop.example/graphreducer/impl.step").run Tryz.prog w = .ok (147, .pointer (some ⟨S, 0, none⟩)) w := fun _ => by kernel_rfl
  have hm2 : ∀ w : World, (Go.method 353 121 (.pointer (some ⟨S, 0, none⟩)) "loop.example/graphreducer/impl.graph").run Tryz.prog w = .ok (144, .pointer (some ⟨S, 0, none⟩)) w := fun _ => by kernel_rfl
  have HST : Hid (∀ W : World, Below w.heap.size w W → Calls Tryz.prog 147 #[.pointer (some ⟨S, 0, none⟩), .int .i64 (x.root : Int)] W (StepD aF aS aL S A lo c (semi tidy) 0 (stepG ds x.g x.root) W)) := fun W hb =>
    step_calls call_said aF aS aL ds x.g S A lo x.root c (semi tidy) 0 W (hE.next hb) (h.red.next hb) (Nat.le_trans hlo hb.size) (hd.mono (fun k hk => ⟨hk.1, hk.2.next hb⟩) (fun k hk => hb.block k hk.2.1)) ho.1 hp ho.2 hv
  have HW := mkHid h
  have HLO := mkHid hlo
  have HBD := mkHid hb
  have HOK := mkHid (ho.step hp hv)
  have q0 : w.cell? ⟨Q, 0, none⟩ = some (.iface 121 (.pointer (some ⟨S, 0, none⟩))) := cell_of_blk h.box 0 _ rfl
  have q6 : w.cell? ⟨Q, 6, none⟩ = some (.int .i64 (x.root : Int)) := cell_of_blk h.box 6 _ rfl
  clear h ho hlo hb hE hd hp hv
  by_cases hc : x.code ds = 0
  · have HR : Hid (x.adv ds = (x.step ds, 0)) := by unfold Hid Rn.adv; rw [if_pos hc]
    have HC0 : Hid (errV aF aS aL (stepG ds x.g x.root).2 = .nilIface) := by
      have h0 : (stepG ds x.g x.root).2 = 0 := hc
      rw [Hid, h0]; rfl
    clear hc
    go_enter Tryz.func60, Tryz.ntmps60
    go_wp2_with fail
    go_region_held3 (fun w' => w'.cell? ⟨Q, 0, none⟩ = some (.iface 121 (.pointer (some ⟨S, 0, none⟩))) ∧ w'.cell? ⟨Q, 6, none⟩ = some (.int .i64 (x.root : Int)))
      (first
        | go_keep
        | exact ⟨m0, m1⟩
        | exact ⟨q0, q6⟩)
      (first
        | (go_at_call 147; refine (HST.out w.drew ((Below.refl _ _).drew)).mono ?_; rintro e w1 ⟨rfl, hr1, hb1, hk1⟩; rw [HC0.out]; have HW1 := mkHid ((HW.out.next ((Below.refl _ _).drew)).of hk1 hr1); have HB1 : Hid (Below lo w w1) := ((Below.refl lo w).drew).trans hb1; have m0 : w1.cell? ⟨Q, 0, none⟩ = some (.iface 121 (.pointer (some ⟨S, 0, none⟩))) := cell_of_blk HW1.out.box 0 _ rfl; have m1 : w1.cell? ⟨Q, 6, none⟩ = some (.int .i64 (x.root : Int)) := cell_of_blk HW1.out.box 6 _ rfl; clear hr1 hb1 hk1))
    clear q0 q6 m1
    obtain ⟨ad, cap, hA, hC⟩ := HW1.out.red.inn
    have HA := mkHid hA
    have h400 : ((stepG ds x.g x.root).1.length : Int) ≤ 400 := Int.ofNat_le.2 HOK.out.len
    have HG : Hid (∀ W : World, Below w1.heap.size w1 W → Calls Tryz.prog 144 #[.pointer (some ⟨S, 0, none⟩)] W fun e w' => e = .returned (.slice ad (stepG ds x.g x.root).1.length cap) ∧ Below W.heap.size W w') := fun W hb => semiGraph_calls S A lo c (semi tidy) 0 (stepG ds x.g x.root).1 _ W (HW1.out.red.next hb) ((hb.block _ HW1.out.red.ltA).trans HA.out)
    have HC : Hid (∀ W : World, Below w1.heap.size w1 W → Calls Tryz.prog 83 #[.pointer (some ⟨Q, 1, none⟩), .int .i64 ((stepG ds x.g x.root).1.length : Int)] W fun e w' => e = .returned (.tuple #[]) ∧ RunW Q S A lo c tidy (x.step ds) w' ∧ Below lo W w') := fun W hb => countStep_calls Q S A lo c tidy _ _ W (HW1.out.next hb) ⟨(HBD.out.mono (by omega)).1, (HBD.out.mono (by omega)).2, (HBD.out.mono (by omega)).3, (HBD.out.mono (by omega)).4, (HBD.out.mono (by omega)).5⟩ ⟨Int.natCast_nonneg _, h400⟩
    have HSL : Hid (lo ≤ w1.heap.size) := Nat.le_trans HLO.out HB1.out.size
    clear hA hC h400
    go_wp2_with fail
    go_region_held3 (fun w' => w'.cell? ⟨Q, 0, none⟩ = some (.iface 121 (.pointer (some ⟨S, 0, none⟩))))
      (first
        | go_keep
        | exact m3
        | exact m2
        | exact m0)
      (first
        | (go_at_call 144; refine (HG.out w1.drew ((Below.refl _ _).drew)).mono ?_; rintro e w3 ⟨rfl, hb3⟩; have HB3 : Hid (Below w1.heap.size w1 w3) := ((Below.refl _ _).drew).trans hb3; have m2 : w3.cell? ⟨Q, 0, none⟩ = some (.iface 121 (.pointer (some ⟨S, 0, none⟩))) := cell_of_blk (HW1.out.next HB3.out).box 0 _ rfl; clear hb3)
        | (go_at_call 83; refine (HC.out w3 HB3.out).mono ?_; rintro e w4 ⟨rfl, hw4, hb4⟩; have HW4 := mkHid hw4; have HB4 : Hid (Below lo w w4) := (HB1.out.trans (HB3.out.mono HSL.out)).trans hb4; have m3 : w4.cell? ⟨Q, 0, none⟩ = some (.iface 121 (.pointer (some ⟨S, 0, none⟩))) := cell_of_blk HW4.out.box 0 _ rfl; clear hw4 hb4))
    go_wp2_with fail
    go_ret
    rw [HR.out]
    exact ⟨rfl, HW4.out, HB4.out⟩
  · have HR : Hid (x.adv ds = (x, x.code ds)) := by unfold Hid Rn.adv; rw [if_neg hc]
    obtain ⟨X, hX⟩ := errV_iface aF aS aL (k := (stepG ds x.g x.root).2) hc
    have HX := mkHid hX
    have HSY : Hid ((stepG ds x.g x.root).1 = x.g) := stepG_stay hc
    clear hc hX
    go_enter Tryz.func60, Tryz.ntmps60
    go_wp2_with fail
    go_region_held3 (fun w' => w'.cell? ⟨Q, 0, none⟩ = some (.iface 121 (.pointer (some ⟨S, 0, none⟩))) ∧ w'.cell? ⟨Q, 6, none⟩ = some (.int .i64 (x.root : Int)))
      (first
        | go_keep
        | exact ⟨m0, m1⟩
        | exact ⟨q0, q6⟩)
      (first
        | (go_at_call 147; refine (HST.out w.drew ((Below.refl _ _).drew)).mono ?_; rintro e w1 ⟨rfl, hr1, hb1, hk1⟩; rw [HX.out]; rw [HSY.out] at hr1; have HW1 := mkHid ((HW.out.next ((Below.refl _ _).drew)).of hk1 hr1); have HB1 : Hid (Below lo w w1) := ((Below.refl lo w).drew).trans hb1; have m0 : w1.cell? ⟨Q, 0, none⟩ = some (.iface 121 (.pointer (some ⟨S, 0, none⟩))) := cell_of_blk HW1.out.box 0 _ rfl; have m1 : w1.cell? ⟨Q, 6, none⟩ = some (.int .i64 (x.root : Int)) := cell_of_blk HW1.out.box 6 _ rfl; clear hr1 hb1 hk1))
    clear q0 q6 m0 m1
    go_wp2_with fail
    go_ret
    rw [HR.out]
    exact ⟨by show Ending.returned _ = Ending.returned (errV aF aS aL (stepG ds x.g x.root).2); rw [HX.out]; rfl, HW1.out, HB1.out⟩

/-! ### From a world on -/
/-- sentinels and a program that lie below a world -/
structure Env (aF aS aL : Addr) (ds : List Df) (c : Value) (w0 : World) : Prop where
  errs : Errs aF aS aL w0
  defs : DInP w0 ds c
  prog : progB ds = true
/-- what came before the world w0 stays -/
def Sn (w0 w : World) : Prop := Below w0.heap.size w0 w
theorem Env.on {aF aS aL : Addr} {ds : List Df} {c : Value} {w0 w : World} (h : Env aF aS aL ds c w0) (hs : Sn w0 w) : DefsOn w (fun k => k < w0.heap.size ∧ Pl w k) ds c :=
  h.defs.mono (fun k hk => ⟨hk.1, hk.next hs⟩) (fun k hk => hs.block k hk.1)
theorem Env.inn {aF aS aL : Addr} {ds : List Df} {c : Value} {w0 w : World} (h : Env aF aS aL ds c w0) (hs : Sn w0 w) : DIn w ds c := h.defs.inP.next hs
theorem Sn.next {w0 w w' : World} (h : Sn w0 w) (hb : Below w.heap.size w w') : Sn w0 w' := Below.trans h (hb.mono h.size)
theorem Sn.to {w0 w w' : World} (h : Sn w0 w) (hb : Below w0.heap.size w w') : Sn w0 w' := Below.trans h hb
theorem done_env {aF aS aL : Addr} {ds : List Df} {Q S A : Nat} {c : Value} {tidy : Bool} {x : Rn} {w0 w : World} (he : Env aF aS aL ds c w0) (hs : Sn w0 w) (h : RunW Q S A w0.heap.size c tidy x w) (ho : x.Ok ds) :
    Calls Tryz.prog 34 #[.pointer (some ⟨Q, 0, none⟩)] w fun e w' => e = .returned (.bool (x.val ds)) ∧ RunW Q S A w0.heap.size c tidy x w' ∧ Sn w0 w' :=
  (done_calls ds Q S A _ c tidy x w h (he.inn hs) ho).mono fun e w' hh => ⟨hh.1, h.next hh.2, hs.next hh.2⟩
theorem collect_env {aF aS aL : Addr} {ds : List Df} {Q S A : Nat} {c : Value} {tidy : Bool} {x : Rn} {w0 w : World} (he : Env aF aS aL ds c w0) (hs : Sn w0 w) (h : RunW Q S A w0.heap.size c tidy x w) (ho : x.Ok ds) (hb : x.Bd 900000000) :
    Calls Tryz.prog 59 #[.pointer (some ⟨Q, 0, none⟩)] w fun e w' => e = .returned (.tuple #[]) ∧ RunW Q S A w0.heap.size c tidy (x.col tidy) w' ∧ Sn w0 w' :=
  (collect_calls ds Q S A _ c tidy x w h hs.size ho hb).mono fun e w' hh => ⟨hh.1, hh.2.1, hs.to hh.2.2⟩
theorem advance_env {aF aS aL : Addr} {ds : List Df} {Q S A : Nat} {c : Value} {tidy : Bool} {x : Rn} {w0 w : World} (he : Env aF aS aL ds c w0) (hs : Sn w0 w) (h : RunW Q S A w0.heap.size c tidy x w) (ho : x.Ok ds) (hv : x.val ds = false) (hb : x.Bd 900000000) :
    Calls Tryz.prog 60 #[.pointer (some ⟨Q, 0, none⟩)] w fun e w' => e = .returned (errV aF aS aL (x.code ds)) ∧ RunW Q S A w0.heap.size c tidy (x.adv ds).1 w' ∧ Sn w0 w' :=
  (advance_calls aF aS aL ds Q S A _ c tidy x w (he.errs.next hs) h hs.size (he.on hs) ho he.prog hv hb).mono fun e w' hh => ⟨by rw [← Rn.adv_code]; exact hh.1, hh.2.1, hs.to hh.2.2⟩
theorem graph_env {Q S A : Nat} {c : Value} {tidy : Bool} {x : Rn} {w0 w : World} (hs : Sn w0 w) (h : RunW Q S A w0.heap.size c tidy x w) :
    ∃ ad cap, ∀ W, Below w.heap.size w W → Calls Tryz.prog 144 #[.pointer (some ⟨S, 0, none⟩)] W fun e w' => e = .returned (.slice ad x.g.length cap) ∧ RunW Q S A w0.heap.size c tidy x w' ∧ Sn w0 w' ∧ Below w.heap.size w w' := by
  obtain ⟨ad, cap, hA, -⟩ := h.red.inn
  exact ⟨ad, cap, fun W hb => (semiGraph_calls S A _ c (semi tidy) 0 x.g _ W (h.red.next hb) ((hb.block _ h.red.ltA).trans hA)).mono fun e w' hh => ⟨hh.1, (h.next hb).next hh.2, (hs.next hb).next hh.2, hb.trans (hh.2.mono hb.size)⟩⟩
theorem Rn.code_le {ds : List Df} (x : Rn) : x.code ds ≤ 3 := by
  unfold Rn.code stepG
  split
  · exact Nat.le_succ 2
  · unfold changeG
    split
    · unfold callG
      split
      · exact Nat.zero_le _
      · exact Nat.le_refl _
    · exact Nat.zero_le _
end Go.Proofs.YtiipcgnkfhjpeaaGreatDoor
/-
  THE PROGRAM's runner: tick.
-/
namespace Go.Proofs.YtiipcgnkfhjpeaaGreatDoor
set_option linter.unusedVariables false
set_option linter.unusedSimpArgs false
open Go.RowKit

set_option maxRecDepth 100000 in
set_option maxHeartbeats 3200000 in
theorem tick_env {aF aS aL : Addr} {ds : List Df} {Q S A : Nat} {c : Value} {tidy : Bool} {x : Rn} {w0 w : World} (limit : Int) (he : Env aF aS aL ds c w0) (hs : Sn w0 w) (h : RunW Q S A w0.heap.size c tidy x w) (ho : x.Ok ds) (hv : x.val ds = false) (hb : x.Bd 800000000) :
    Calls Tryz.prog 36 #[.pointer (some ⟨Q, 0, none⟩), .int .i64 limit] w fun e w' => e = .returned (errV aF aS aL (x.tick ds limit tidy).2) ∧ RunW Q S A w0.heap.size c tidy (x.tick ds limit tidy).1 w' ∧ Sn w0 w' := by
  have hm2 : ∀ w : World, (Go.method 353 121 (.pointer (some ⟨S, 0, none⟩)) "loop.example/graphreducer/impl.graph").run Tryz.prog w = .ok (144, .pointer (some ⟨S, 0, none⟩)) w := fun _ => by kernel_rfl
  obtain ⟨ad, cap, hG⟩ := graph_env hs h
  have HG := mkHid hG
  have HE := mkHid he
  have HOO := mkHid ho
  have HVV := mkHid hv
  have HBB := mkHid hb
  have q0 : w.cell? ⟨Q, 0, none⟩ = some (.iface 121 (.pointer (some ⟨S, 0, none⟩))) := cell_of_blk h.box 0 _ rfl
  clear h hs he ho hv hb hG
  go_enter Tryz.func36, Tryz.ntmps36
  go_wp2_with fail
  refine (HG.out w (Below.refl _ _)).mono ?_
  rintro e w1 ⟨rfl, hw1, hs1, -⟩
  have HW1 := mkHid hw1
  have HS1 := mkHid hs1
  clear q0 hw1 hs1
  by_cases hl : limit < (x.g.length : Int)
  · have HLM : Hid (x.lim limit tidy = x.col tidy) := by unfold Hid Rn.lim; rw [if_pos hl]
    go_wp2_with fail
    clear hl
    refine (collect_env HE.out HS1.out HW1.out HOO.out (HBB.out.mono (by omega))).mono ?_
    rintro e w1a ⟨rfl, hw1a, hs1a⟩
    have HW1a := mkHid hw1a
    have HS1a := mkHid hs1a
    clear hw1a hs1a
    go_wp2_with fail
    refine (done_env HE.out HS1a.out HW1a.out (HOO.out.col tidy)).mono ?_
    rintro e w1b ⟨rfl, hw1b, hs1b⟩
    have HWx := mkHid hw1b
    have HSx := mkHid hs1b
    clear hw1b hs1b
    cases hvv : (x.col tidy).val ds with
    | true =>
      have HVx := mkHid hvv
      clear hvv
      go_wp2_with fail
      go_ret
      rw [show x.tick ds limit tidy = (x.col tidy, 0) by unfold Rn.tick; rw [HLM.out, if_pos HVx.out]]
      exact ⟨rfl, HWx.out, HSx.out⟩
    | false =>
      have HVx := mkHid hvv
      have HOx := mkHid (HOO.out.col tidy)
      have HBx : Hid ((x.col tidy).Bd 900000000) := (HBB.out.col HOO.out tidy).mono (by omega)
      have HBy : Hid (((x.col tidy).col tidy).Bd 900000000) := ((HBB.out.col HOO.out tidy).col HOx.out tidy).mono (by omega)
      have HTK : Hid (x.tick ds limit tidy = Rn.tic2 ds tidy (x.col tidy)) := by unfold Hid Rn.tick; rw [HLM.out, if_neg (by rw [HVx.out]; simp)]
      clear hvv
      go_wp2_with fail
      refine (advance_env HE.out HSx.out HWx.out HOx.out HVx.out HBx.out).mono ?_
      rintro e w2 ⟨rfl, hw2, hs2⟩
      have HW2 := mkHid hw2
      have HS2 := mkHid hs2
      have cL := (HE.out.errs.next hs2).cL
      have HIS := mkHid (isLarge_calls aF aS aL ((x.col tidy).code ds) (Rn.code_le _) w2 (HE.out.errs.next hs2))
      obtain ⟨ev, hev⟩ : ∃ ev, ev = errV aF aS aL ((x.col tidy).code ds) := ⟨_, rfl⟩
      have HEV := mkHid hev
      rw [← hev] at HIS ⊢
      clear hev hw2 hs2
      go_wp2_with fail
      refine HIS.out.mono ?_
      rintro e w3 ⟨rfl, rfl⟩
      clear cL
      by_cases h3 : (x.col tidy).code ds = 3
      · have td : decide ((x.col tidy).code ds = 3) = true := by rw [decide_eq_true_eq]; exact h3
        have HSA : Hid (((x.col tidy).adv ds).1 = (x.col tidy)) := by unfold Hid Rn.adv; rw [if_neg (by omega)]
        have HT3 := mkHid h3
        have HW3 : Hid (RunW Q S A w0.heap.size c tidy (x.col tidy) w3) := by have h := HW2.out; rw [HSA.out] at h; exact h
        rw [td]
        clear td h3
        go_wp2_with fail
        refine (collect_env HE.out HS2.out HW3.out HOx.out HBx.out).mono ?_
        rintro e w4 ⟨rfl, hw4, hs4⟩
        have HW4 := mkHid hw4
        have HS4 := mkHid hs4
        clear hw4 hs4
        go_wp2_with fail
        refine (done_env HE.out HS4.out HW4.out (HOx.out.col tidy)).mono ?_
        rintro e w5 ⟨rfl, hw5, hs5⟩
        have HW5 := mkHid hw5
        have HS5 := mkHid hs5
        clear hw5 hs5
        cases hd : ((x.col tidy).col tidy).val ds with
        | true =>
          have HD := mkHid hd
          clear hd
          go_wp2_with fail
          go_ret
          rw [HTK.out, show Rn.tic2 ds tidy (x.col tidy) = ((x.col tidy).col tidy, 0) by unfold Rn.tic2; rw [if_pos HT3.out, if_pos HD.out]]
          exact ⟨rfl, HW5.out, HS5.out⟩
        | false =>
          have HD := mkHid hd
          clear hd
          go_wp2_with fail
          refine (advance_env HE.out HS5.out HW5.out (HOx.out.col tidy) HD.out HBy.out).mono ?_
          rintro e w6 ⟨rfl, hw6, hs6⟩
          have HW6 := mkHid hw6
          have HS6 := mkHid hs6
          clear hw6 hs6
          have HTT : Hid (Rn.tic2 ds tidy (x.col tidy) = ((x.col tidy).col tidy).adv ds) := by unfold Hid Rn.tic2; rw [if_pos HT3.out, if_neg (by rw [HD.out]; simp)]
          obtain ⟨ev2, hev2⟩ : ∃ ev2, ev2 = errV aF aS aL (((x.col tidy).col tidy).code ds) := ⟨_, rfl⟩
          have HEV2 := mkHid hev2
          rw [← hev2]
          clear hev2
          go_wp2_with fail
          go_ret
          rw [HTK.out, HTT.out]
          exact ⟨by rw [Rn.adv_code, ← HEV2.out]; rfl, HW6.out, HS6.out⟩
      · have td : decide ((x.col tidy).code ds = 3) = false := by rw [decide_eq_false_iff_not]; exact h3
        have HTT : Hid (Rn.tic2 ds tidy (x.col tidy) = (x.col tidy).adv ds) := by unfold Hid Rn.tic2; rw [if_neg h3]
        rw [td]
        clear td h3
        go_wp2_with fail
        go_ret
        rw [HTK.out, HTT.out]
        exact ⟨by rw [Rn.adv_code, ← HEV.out]; rfl, HW2.out, HS2.out⟩
  · have HLM : Hid (x.lim limit tidy = x) := by unfold Hid Rn.lim; rw [if_neg hl]
    have HWx := HW1
    have HSx := HS1
    have HVx := HVV
    have HOx := HOO
    have HBx : Hid (x.Bd 900000000) := HBB.out.mono (by omega)
    have HBy : Hid ((x.col tidy).Bd 900000000) := (HBB.out.col HOO.out tidy).mono (by omega)
    have HTK : Hid (x.tick ds limit tidy = Rn.tic2 ds tidy x) := by unfold Hid Rn.tick; rw [HLM.out, if_neg (by rw [HVx.out]; simp)]
    go_wp2_with fail
    clear hl
    refine (advance_env HE.out HSx.out HWx.out HOx.out HVx.out HBx.out).mono ?_
    rintro e w2 ⟨rfl, hw2, hs2⟩
    have HW2 := mkHid hw2
    have HS2 := mkHid hs2
    have cL := (HE.out.errs.next hs2).cL
    have HIS := mkHid (isLarge_calls aF aS aL (x.code ds) (Rn.code_le _) w2 (HE.out.errs.next hs2))
    obtain ⟨ev, hev⟩ : ∃ ev, ev = errV aF aS aL (x.code ds) := ⟨_, rfl⟩
    have HEV := mkHid hev
    rw [← hev] at HIS ⊢
    clear hev hw2 hs2
    go_wp2_with fail
    refine HIS.out.mono ?_
    rintro e w3 ⟨rfl, rfl⟩
    clear cL
    by_cases h3 : x.code ds = 3
    · have td : decide (x.code ds = 3) = true := by rw [decide_eq_true_eq]; exact h3
      have HSA : Hid ((x.adv ds).1 = x) := by unfold Hid Rn.adv; rw [if_neg (by omega)]
      have HT3 := mkHid h3
      have HW3 : Hid (RunW Q S A w0.heap.size c tidy x w3) := by have h := HW2.out; rw [HSA.out] at h; exact h
      rw [td]
      clear td h3
      go_wp2_with fail
      refine (collect_env HE.out HS2.out HW3.out HOx.out HBx.out).mono ?_
      rintro e w4 ⟨rfl, hw4, hs4⟩
      have HW4 := mkHid hw4
      have HS4 := mkHid hs4
      clear hw4 hs4
      go_wp2_with fail
      refine (done_env HE.out HS4.out HW4.out (HOx.out.col tidy)).mono ?_
      rintro e w5 ⟨rfl, hw5, hs5⟩
      have HW5 := mkHid hw5
      have HS5 := mkHid hs5
      clear hw5 hs5
      cases hd : (x.col tidy).val ds with
      | true =>
        have HD := mkHid hd
        clear hd
        go_wp2_with fail
        go_ret
        rw [HTK.out, show Rn.tic2 ds tidy x = (x.col tidy, 0) by unfold Rn.tic2; rw [if_pos HT3.out, if_pos HD.out]]
        exact ⟨rfl, HW5.out, HS5.out⟩
      | false =>
        have HD := mkHid hd
        clear hd
        go_wp2_with fail
        refine (advance_env HE.out HS5.out HW5.out (HOx.out.col tidy) HD.out HBy.out).mono ?_
        rintro e w6 ⟨rfl, hw6, hs6⟩
        have HW6 := mkHid hw6
        have HS6 := mkHid hs6
        clear hw6 hs6
        have HTT : Hid (Rn.tic2 ds tidy x = (x.col tidy).adv ds) := by unfold Hid Rn.tic2; rw [if_pos HT3.out, if_neg (by rw [HD.out]; simp)]
        obtain ⟨ev2, hev2⟩ : ∃ ev2, ev2 = errV aF aS aL ((x.col tidy).code ds) := ⟨_, rfl⟩
        have HEV2 := mkHid hev2
        rw [← hev2]
        clear hev2
        go_wp2_with fail
        go_ret
        rw [HTK.out, HTT.out]
        exact ⟨by rw [Rn.adv_code, ← HEV2.out]; rfl, HW6.out, HS6.out⟩
    · have td : decide (x.code ds = 3) = false := by rw [decide_eq_false_iff_not]; exact h3
      have HTT : Hid (Rn.tic2 ds tidy x = x.adv ds) := by unfold Hid Rn.tic2; rw [if_neg h3]
      rw [td]
      clear td h3
      go_wp2_with fail
      go_ret
      rw [HTK.out, HTT.out]
      exact ⟨by rw [Rn.adv_code, ← HEV.out]; rfl, HW2.out, HS2.out⟩
end Go.Proofs.YtiipcgnkfhjpeaaGreatDoor
/-
  THE PROGRAM's runner: greatest.
-/
namespace Go.Proofs.YtiipcgnkfhjpeaaGreatDoor
set_option linter.unusedVariables false
set_option linter.unusedSimpArgs false
open Go.RowKit

end Go.Proofs.YtiipcgnkfhjpeaaGreatDoor
/-
  THE PROGRAM's EvalGraph.
-/
namespace Go.Proofs.YtiipcgnkfhjpeaaGreatDoor
set_option linter.unusedVariables false
set_option linter.unusedSimpArgs false
open Go.RowKit

def fuelB (f : Int) : Bool := decide (0 ≤ f ∧ f ≤ 300)
set_option maxHeartbeats 400000 in
theorem fuelFits_calls (f : Int) (w : World) : Calls Tryz.prog 68 #[.int .i64 f] w fun e w' => e = .returned (.bool (fuelB f)) ∧ w = w' := by
  by_cases h0 : 0 ≤ f
  · by_cases h1 : f ≤ 300
    · have HV : Hid (fuelB f = true) := by rw [Hid, fuelB, decide_eq_true_eq]; exact ⟨h0, h1⟩
      go_enter Tryz.func68, Tryz.ntmps68
      go_wp2_with fail
      go_ret
      exact ⟨ret_bool HV.out.symm, rfl⟩
    · have HV : Hid (fuelB f = false) := by rw [Hid, fuelB, decide_eq_false_iff_not]; rintro ⟨-, h⟩; exact h1 h
      have h1' : decide (f ≤ 300) = false := by simpa using h1
      have h2' : 300 < f := by omega
      go_enter Tryz.func68, Tryz.ntmps68
      go_wp2_with fail
      go_ret
      exact ⟨ret_bool HV.out.symm, rfl⟩
  · have HV : Hid (fuelB f = false) := by rw [Hid, fuelB, decide_eq_false_iff_not]; rintro ⟨h, -⟩; exact h0 h
    have h2' : f < 0 := by omega
    go_enter Tryz.func68, Tryz.ntmps68
    go_wp2_with fail
    go_ret
    exact ⟨ret_bool HV.out.symm, rfl⟩
end Go.Proofs.YtiipcgnkfhjpeaaGreatDoor
/-
  THE PROGRAM's startRunner AND PeakCells.
-/
namespace Go.Proofs.YtiipcgnkfhjpeaaGreatDoor
set_option linter.unusedVariables false
set_option linter.unusedSimpArgs false
open Go.RowKit

/-- a runner at the beginning of a closed expression, or none -/
def SrD (ds : List Df) (t : Tr) (c : Value) (f : Int) (tidy : Bool) (w : World) (e : Ending) (w' : World) : Prop :=
  (closedB ds t = true ∧ fuelB f = true ∧ ∃ Q S A, e = .returned (.tuple #[.pointer (some ⟨Q, 0, none⟩), .bool true]) ∧ RunW Q S A w.heap.size c tidy (startX (addT [] t []).1 (addT [] t []).2) w' ∧ Below w.heap.size w w') ∨
  (¬ (closedB ds t = true ∧ fuelB f = true) ∧ e = .returned (.tuple #[.pointer none, .bool false]) ∧ Below w.heap.size w w')
theorem RunW.low {Q S A lo lo' : Nat} {c : Value} {tidy : Bool} {x : Rn} {w : World} (h : RunW Q S A lo c tidy x w) (hl : lo' ≤ lo) : RunW Q S A lo' c tidy x w := ⟨h.box, h.red.low hl, Nat.le_trans hl h.loQ⟩
set_option maxRecDepth 100000 in
set_option maxHeartbeats 1600000 in
theorem startRunner_calls (ds : List Df) (t : Tr) (p c : Value) (f : Int) (tidy : Bool) (w : World) (hp : DIn w ds p) (hk : In w t.kids c) (ht : I64 t.op ∧ I64 t.num) :
    Calls Tryz.prog 47 #[p, .agg #[.int .i64 t.op, .int .i64 t.num, c], .int .i64 f, .bool tidy] w (SrD ds t p f tidy w) := by
  have HK : Hid (In w t.kids c) := hk
  have HP : Hid (DIn w ds p) := hp
  have HT := mkHid ht
  obtain ⟨ad, cap, rfl, -, -, -⟩ := hk
  obtain ⟨adp, capp, rfl, -, -, -⟩ := hp
  have HBX : Hid (Below w.heap.size w (w.alloc (.cells #[.int .i64 t.op, .int .i64 t.num, .slice ad t.kids.length cap] 48))) := box_below _ _
  clear ht
  go_enter Tryz.func47, Tryz.ntmps47
  go_wp2_with fail
  refine (implStart_calls ds t _ _ _ (HP.out.next HBX.out) (HK.out.next HBX.out) HT.out).mono ?_
  rintro e w1 ⟨gv, rfl, ho, hb1⟩
  have HB1 : Hid (Below w.heap.size w w1) := HBX.out.trans (hb1.mono HBX.out.size)
  have hs1 := HB1.out.size
  have hk1 := (ho.own fun k h _ => h).inn
  clear hb1 ho
  cases hr : closedB ds t with
  | false =>
    have hsx : sxO ds t = (rnZ, false) := by unfold sxO; rw [if_neg (by rw [hr]; simp)]
    rw [hsx] at hk1 ⊢
    have HR := mkHid hr
    obtain ⟨adz, capz, rfl, -, -, -⟩ := id hk1
    clear hsx hr hk1
    unfold rnC
    go_wp2_with fail
    go_ret2
    exact Or.inr ⟨by rw [HR.out]; simp, rfl, HB1.out.alloc hs1 _⟩
  | true =>
    have hsx : sxO ds t = (startX (addT [] t []).1 (addT [] t []).2, true) := by unfold sxO; rw [if_pos hr]
    have HSO := mkHid (start_run hr)
    have HCL := mkHid hr
    rw [hsx] at hk1 ⊢
    obtain ⟨x, hx⟩ : ∃ x, x = startX (addT [] t []).1 (addT [] t []).2 := ⟨_, rfl⟩
    have HXE := mkHid hx
    have HXO : Hid (x.Ok ds) := by rw [hx]; exact HSO.out
    dsimp only at hk1 ⊢
    rw [← hx] at hk1 ⊢
    obtain ⟨adz, capz, rfl, -, -, -⟩ := id hk1
    have HK1 := mkHid hk1
    clear hsx hr hk1 hx
    unfold rnC
    go_wp2_with fail
    refine (fuelFits_calls f _).mono ?_
    rintro e w2 ⟨rfl, rfl⟩
    cases hf : fuelB f with
    | false =>
      have HF := mkHid hf
      clear hf
      go_wp2_with fail
      go_ret2
      exact Or.inr ⟨by rw [HF.out]; simp, rfl, HB1.out.alloc hs1 _⟩
    | true =>
      have HF := mkHid hf
      have HBA : Hid (Below w.heap.size w (w1.alloc (.cells #[.slice adz x.g.length capz, .int .i64 (x.root : Int), .int .i64 x.steps, .int .i64 x.moved, .int .i64 x.peak, .int .i64 x.ticks, .int .i64 x.rounds] 30))) := HB1.out.alloc hs1 _
      clear hf
      go_wp2_with fail
      refine (runnerOf_calls ds _ (.slice adz x.g.length capz) tidy x _ (HP.out.next HBA.out) (HK1.out.next (box_below _ _)) HXO.out).mono ?_
      rintro e w3 ⟨Q, S, A, rfl, hrw, hb3⟩
      have HW := mkHid hrw
      have HB3 : Hid (Below w.heap.size w w3) := HBA.out.trans (hb3.mono HBA.out.size)
      clear hrw hb3
      go_wp2_with fail
      go_ret2
      exact Or.inl ⟨HCL.out, HF.out, Q, S, A, rfl, by rw [← HXE.out]; exact HW.out.low HBA.out.size, HB3.out⟩
end Go.Proofs.YtiipcgnkfhjpeaaGreatDoor
/-
  THE PROGRAM's runner: evaluate.
-/
namespace Go.Proofs.YtiipcgnkfhjpeaaGreatDoor
set_option linter.unusedVariables false
set_option linter.unusedSimpArgs false
open Go.RowKit

set_option maxRecDepth 100000 in
set_option maxHeartbeats 3200000 in
theorem evaluate_env {aF aS aL : Addr} {ds : List Df} {Q S A : Nat} {c : Value} {tidy : Bool} {x : Rn} {w0 w : World} (fuel : Nat) (limit : Int) (he : Env aF aS aL ds c w0) (hs : Sn w0 w) (h : RunW Q S A w0.heap.size c tidy x w) (hf : fuel ≤ 300) (hr : RunRel ds limit tidy x fuel 0 x) :
    Calls Tryz.prog 48 #[.pointer (some ⟨Q, 0, none⟩), .int .i64 (fuel : Int), .int .i64 limit] w fun e w' => e = .returned (errV aF aS aL (runE ds limit tidy fuel x).2) ∧ RunW Q S A w0.heap.size c tidy (runE ds limit tidy fuel x).1 w' ∧ Sn w0 w' := by
  have HE := mkHid he
  have HS := mkHid hs
  have HW := mkHid h
  have HR := mkHid hr
  clear h hs he hr
  go_enter Tryz.func48, Tryz.ntmps48
  go_wp2_with fail
  go_loopg [] (fuel + 1) (fun k wr => ∃ (n : Nat) (y : Rn), k = fuel + 1 - n ∧ RunRel ds limit tidy x fuel n y ∧ RunW Q S A w0.heap.size c tidy y wr ∧ Sn w0 wr)
  case atStart => exact ⟨0, x, rfl, HR.out, HW.out, HS.out⟩
  case round =>
    obtain ⟨n, y, rfl, hrel, hrw, hsn⟩ := hrel
    have HRL := mkHid hrel
    have HRW := mkHid hrw
    have HSN := mkHid hsn
    have hnf := hrel.le
    clear hrel hrw hsn
    go_wp2_with fail
    refine (done_env HE.out HSN.out HRW.out HRL.out.ok).mono ?_
    rintro e w1 ⟨rfl, hw1, hs1⟩
    have HW1 := mkHid hw1
    have HS1 := mkHid hs1
    clear hw1 hs1
    cases hv : y.val ds with
    | true =>
      have HV := mkHid (HRL.out.val hv)
      clear hv
      go_wp2_with fail
      go_ret
      exact ⟨by rw [HV.out]; rfl, by rw [HV.out]; exact HW1.out, HS1.out⟩
    | false =>
      have HVF := mkHid hv
      have q4 : w1.cell? ⟨Q, 4, none⟩ = some (.int .i64 (n : Int)) := by rw [← HRL.out.ticks]; exact cell_of_blk HW1.out.box 4 _ rfl
      have fq := frz_of_blk HW1.out.box
      clear hv
      by_cases hnn : n = fuel
      · subst hnn
        have HV := mkHid (HRL.out.fuel HVF.out)
        have cF := (HE.out.errs.next HS1.out).cF
        go_wp2_with fail
        go_ret
        exact ⟨by rw [HV.out]; rfl, by rw [HV.out]; exact HW1.out, HS1.out⟩
      have hnlt : n < fuel := by omega
      have tn : ((n : Int) == (fuel : Int)) = false := by rw [beq_eq_false_iff_ne]; omega
      clear hnn
      go_wp2_with fail
      have HW2 : Hid (RunW Q S A w0.heap.size c tidy (y.tk (y.ticks + 1)) (w1.setCell ⟨Q, 4, none⟩ (.int .i64 ((n : Int) + 1)))) := by
        have h := HW1.out.set4 (y.ticks + 1)
        rw [HRL.out.ticks] at h
        rw [HRL.out.ticks]
        exact h
      have HS2 : Hid (Sn w0 (w1.setCell ⟨Q, 4, none⟩ (.int .i64 ((n : Int) + 1)))) := Below.setCell HS1.out HW1.out.loQ _
      have HB2 : Hid ((y.tk (y.ticks + 1)).Bd 800000000) := by
        have h := HRL.out.bd
        have ht := HRL.out.ticks
        refine ⟨⟨h.1.1, Int.le_trans h.1.2 (by omega)⟩, ⟨h.2.1, Int.le_trans h.2.2 (by omega)⟩, ⟨h.3.1, Int.le_trans h.3.2 (by omega)⟩, ⟨?_, ?_⟩, ⟨h.5.1, Int.le_trans h.5.2 (by omega)⟩⟩
        · show 0 ≤ y.ticks + 1; omega
        · show y.ticks + 1 ≤ _; omega
      have HTT : Hid ((y.tk (y.ticks + 1)).tick ds limit tidy = (y.more ds limit tidy, (y.tick ds limit tidy).2)) := Rn.tick_tk limit tidy y _
      clear q4 fq
      generalize w1.setCell ⟨Q, 4, none⟩ (.int .i64 ((n : Int) + 1)) = w2 at HW2 HS2 ⊢
      refine (tick_env limit HE.out HS2.out HW2.out HRL.out.ok HVF.out HB2.out).mono ?_
      rw [HTT.out]
      rintro e w3 ⟨rfl, hw3, hs3⟩
      have HW3 := mkHid hw3
      have HS3 := mkHid hs3
      clear hw3 hs3
      by_cases hc : (y.tick ds limit tidy).2 = 0
      · have HN := mkHid (HRL.out.next HE.out.prog hnlt HVF.out hc)
        have e0 : errV aF aS aL (y.more ds limit tidy, (y.tick ds limit tidy).2).2 = .nilIface := by show errV aF aS aL (y.tick ds limit tidy).2 = _; rw [hc]; rfl
        rw [e0]
        clear hc e0
        go_wp2_with fail
        go_roundg (fuel + 1 - (n + 1))
        case rel => exact ⟨n + 1, _, rfl, HN.out, HW3.out, HS3.out⟩
        case measure => omega
      · have HV := mkHid (HRL.out.bad hnlt HVF.out hc)
        obtain ⟨X, hX⟩ := errV_iface aF aS aL hc
        have HX := mkHid hX
        have e0 : errV aF aS aL (y.more ds limit tidy, (y.tick ds limit tidy).2).2 = .iface 192 (.pointer (some X)) := hX
        rw [e0]
        clear hc hX e0
        go_wp2_with fail
        go_ret
        exact ⟨by rw [HV.out]; exact congrArg Ending.returned HX.out.symm, by rw [HV.out]; exact HW3.out, HS3.out⟩
end Go.Proofs.YtiipcgnkfhjpeaaGreatDoor
/-
  THE PROGRAM's RunValid, isBetween AND canTick.
-/
namespace Go.Proofs.YtiipcgnkfhjpeaaGreatDoor
set_option linter.unusedVariables false
set_option linter.unusedSimpArgs false
open Go.RowKit

set_option maxHeartbeats 400000 in
theorem isBetween_calls (n m : Int) (w : World) : Calls Tryz.prog 32 #[.int .i64 n, .int .i64 m] w fun e w' => e = .returned (.bool (btB n m)) ∧ w = w' := by
  by_cases h0 : 0 ≤ n
  · by_cases h1 : n ≤ m
    · have HV : Hid (btB n m = true) := by rw [Hid, btB, decide_eq_true_eq]; exact ⟨h0, h1⟩
      go_enter Tryz.func32, Tryz.ntmps32
      go_wp2_with fail
      go_ret
      exact ⟨ret_bool HV.out.symm, rfl⟩
    · have HV : Hid (btB n m = false) := by rw [Hid, btB, decide_eq_false_iff_not]; rintro ⟨-, h⟩; exact h1 h
      have h1' : decide (n ≤ m) = false := by simpa using h1
      have h2' : m < n := by omega
      go_enter Tryz.func32, Tryz.ntmps32
      go_wp2_with fail
      go_ret
      exact ⟨ret_bool HV.out.symm, rfl⟩
  · have HV : Hid (btB n m = false) := by rw [Hid, btB, decide_eq_false_iff_not]; rintro ⟨h, -⟩; exact h0 h
    have h0' : decide (0 ≤ n) = false := by simpa using h0
    have h2' : n < 0 := by omega
    go_enter Tryz.func32, Tryz.ntmps32
    go_wp2_with fail
    go_ret
    exact ⟨ret_bool HV.out.symm, rfl⟩
end Go.Proofs.YtiipcgnkfhjpeaaGreatDoor
