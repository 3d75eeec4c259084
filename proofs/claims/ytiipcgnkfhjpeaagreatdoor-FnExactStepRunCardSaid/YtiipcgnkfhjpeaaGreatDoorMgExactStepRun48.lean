/-
  THE PROGRAM's runner: advance and tick.
-/
import Derived.Test.YtiipcgnkfhjpeaaGreatDoorMgExactStepRun47
import Derived.Deep.LoopGhost
import Derived.BigQuiet
import Derived.Test.YtiipcgnkfhjpeaaGreatDoorMgExactStepRun32
import Derived.Test.YtiipcgnkfhjpeaaGreatDoorMgExactStepRun18
import Derived.Test.YtiipcgnkfhjpeaaGreatDoorMgExactStepRun35
namespace Go.Proofs.YtiipcgnkfhjpeaaGreatDoor
set_option linter.unusedVariables false
set_option linter.unusedSimpArgs false
open Go.RowKit

/-- a part of a tick is over: the error and the run -/
def AdvD (aF aS aL : Addr) (Q S A lo : Nat) (c : Value) (tidy : Bool) (r : Rn × Nat) (w : World) (e : Ending) (w' : World) : Prop :=
  e = .returned (errV aF aS aL r.2) ∧ RunW Q S A lo c tidy r.1 w' ∧ Below lo w w'
set_option maxRecDepth 100000 in
set_option maxHeartbeats 1600000 in
theorem advance_calls (aF aS aL : Addr) (ds : List Df) (Q S A lo : Nat) (c : Value) (tidy : Bool) (x : Rn) (w : World) (hE : Errs aF aS aL w) (h : RunW Q S A lo c tidy x w) (hlo : lo ≤ w.heap.size) (hd : DefsOn w (fun k => k < lo ∧ Pl w k) ds c) (ho : x.Ok ds) (hp : progB ds = true) (hv : x.val ds = false) (hb : x.Bd 900000000) :
    Calls Tryz.prog 60 #[.pointer (some ⟨Q, 0, none⟩)] w (AdvD aF aS aL Q S A lo c tidy (x.adv ds) w) := by
  have hm : ∀ w : World, (Go.method 353 121 (.pointer (some ⟨S, 0, none⟩)) "loop.example/graphreducer/impl.step").run Tryz.prog w = .ok (147, .pointer (some ⟨S, 0, none⟩)) w := fun _ => by kernel_rfl
  have hm2 : ∀ w : World, (Go.method 353 121 (.pointer (some ⟨S, 0, none⟩)) "loop.example/graphreducer/impl.graph").run Tryz.prog w = .ok (144, .pointer (some ⟨S, 0, none⟩)) w := fun _ => by kernel_rfl
  have HST : Hid (∀ W : World, Below w.heap.size w W → Calls Tryz.prog 147 #[.pointer (some ⟨S, 0, none⟩), .int .i64 (x.root : Int)] W (StepD aF aS aL S A lo c (semi tidy) 0 (stepG ds x.g x.root) W)) := fun W hb =>
    step_calls call_said aF aS aL ds x.g S A lo x.root c (semi tidy) 0 W (hE.next hb) (h.red.next hb) (Nat.le_trans hlo hb.size) (hd.mono (fun k hk => ⟨hk.1, hk.2.next hb⟩) (fun k hk => hb.block k hk.2.1)) ho.1 hp ho.2 hv
  have HW := mkHid h
  have HLO := mkHid hlo
  have HBD := mkHid hb
  have HOK := mkHid (ho.step hp hv)
  have q0 : w.cell? ⟨Q, 0, none⟩ = some (.iface 121 (.pointer (some ⟨S, 0, none⟩))) := cell_of_blk h.box 0 _ rfl
  have q6 : w.cell? ⟨Q, 6, none⟩ = some (.int .i64 (x.root : Int)) := cell_of_blk h.box 6 _ rfl
  clear h ho hlo hb hE hd hp hv
  by_cases hc : x.code ds = 0
  · have HR : Hid (x.adv ds = (x.step ds, 0)) := by unfold Hid Rn.adv; rw [if_pos hc]
    have HC0 : Hid (errV aF aS aL (stepG ds x.g x.root).2 = .nilIface) := by
      have h0 : (stepG ds x.g x.root).2 = 0 := hc
      rw [Hid, h0]; rfl
    clear hc
    go_enter Tryz.func60, Tryz.ntmps60
    go_wp2_with fail
    go_region_held3 (fun w' => w'.cell? ⟨Q, 0, none⟩ = some (.iface 121 (.pointer (some ⟨S, 0, none⟩))) ∧ w'.cell? ⟨Q, 6, none⟩ = some (.int .i64 (x.root : Int)))
      (first
        | go_keep
        | exact ⟨m0, m1⟩
        | exact ⟨q0, q6⟩)
      (first
        | (go_at_call 147; refine (HST.out w.drew ((Below.refl _ _).drew)).mono ?_; rintro e w1 ⟨rfl, hr1, hb1, hk1⟩; rw [HC0.out]; have HW1 := mkHid ((HW.out.next ((Below.refl _ _).drew)).of hk1 hr1); have HB1 : Hid (Below lo w w1) := ((Below.refl lo w).drew).trans hb1; have m0 : w1.cell? ⟨Q, 0, none⟩ = some (.iface 121 (.pointer (some ⟨S, 0, none⟩))) := cell_of_blk HW1.out.box 0 _ rfl; have m1 : w1.cell? ⟨Q, 6, none⟩ = some (.int .i64 (x.root : Int)) := cell_of_blk HW1.out.box 6 _ rfl; clear hr1 hb1 hk1))
    clear q0 q6 m1
    obtain ⟨ad, cap, hA, hC⟩ := HW1.out.red.inn
    have HA := mkHid hA
    have h400 : ((stepG ds x.g x.root).1.length : Int) ≤ 400 := Int.ofNat_le.2 HOK.out.len
    have HG : Hid (∀ W : World, Below w1.heap.size w1 W → Calls Tryz.prog 144 #[.pointer (some ⟨S, 0, none⟩)] W fun e w' => e = .returned (.slice ad (stepG ds x.g x.root).1.length cap) ∧ Below W.heap.size W w') := fun W hb => semiGraph_calls S A lo c (semi tidy) 0 (stepG ds x.g x.root).1 _ W (HW1.out.red.next hb) ((hb.block _ HW1.out.red.ltA).trans HA.out)
    have HC : Hid (∀ W : World, Below w1.heap.size w1 W → Calls Tryz.prog 83 #[.pointer (some ⟨Q, 1, none⟩), .int .i64 ((stepG ds x.g x.root).1.length : Int)] W fun e w' => e = .returned (.tuple #[]) ∧ RunW Q S A lo c tidy (x.step ds) w' ∧ Below lo W w') := fun W hb => countStep_calls Q S A lo c tidy _ _ W (HW1.out.next hb) ⟨(HBD.out.mono (by omega)).1, (HBD.out.mono (by omega)).2, (HBD.out.mono (by omega)).3, (HBD.out.mono (by omega)).4, (HBD.out.mono (by omega)).5⟩ ⟨Int.natCast_nonneg _, h400⟩
    have HSL : Hid (lo ≤ w1.heap.size) := Nat.le_trans HLO.out HB1.out.size
    clear hA hC h400
    go_wp2_with fail
    go_region_held3 (fun w' => w'.cell? ⟨Q, 0, none⟩ = some (.iface 121 (.pointer (some ⟨S, 0, none⟩))))
      (first
        | go_keep
        | exact m3
        | exact m2
        | exact m0)
      (first
        | (go_at_call 144; refine (HG.out w1.drew ((Below.refl _ _).drew)).mono ?_; rintro e w3 ⟨rfl, hb3⟩; have HB3 : Hid (Below w1.heap.size w1 w3) := ((Below.refl _ _).drew).trans hb3; have m2 : w3.cell? ⟨Q, 0, none⟩ = some (.iface 121 (.pointer (some ⟨S, 0, none⟩))) := cell_of_blk (HW1.out.next HB3.out).box 0 _ rfl; clear hb3)
        | (go_at_call 83; refine (HC.out w3 HB3.out).mono ?_; rintro e w4 ⟨rfl, hw4, hb4⟩; have HW4 := mkHid hw4; have HB4 : Hid (Below lo w w4) := (HB1.out.trans (HB3.out.mono HSL.out)).trans hb4; have m3 : w4.cell? ⟨Q, 0, none⟩ = some (.iface 121 (.pointer (some ⟨S, 0, none⟩))) := cell_of_blk HW4.out.box 0 _ rfl; clear hw4 hb4))
    go_wp2_with fail
    go_ret
    rw [HR.out]
    exact ⟨rfl, HW4.out, HB4.out⟩
  · have HR : Hid (x.adv ds = (x, x.code ds)) := by unfold Hid Rn.adv; rw [if_neg hc]
    obtain ⟨X, hX⟩ := errV_iface aF aS aL (k := (stepG ds x.g x.root).2) hc
    have HX := mkHid hX
    have HSY : Hid ((stepG ds x.g x.root).1 = x.g) := stepG_stay hc
    clear hc hX
    go_enter Tryz.func60, Tryz.ntmps60
    go_wp2_with fail
    go_region_held3 (fun w' => w'.cell? ⟨Q, 0, none⟩ = some (.iface 121 (.pointer (some ⟨S, 0, none⟩))) ∧ w'.cell? ⟨Q, 6, none⟩ = some (.int .i64 (x.root : Int)))
      (first
        | go_keep
        | exact ⟨m0, m1⟩
        | exact ⟨q0, q6⟩)
      (first
        | (go_at_call 147; refine (HST.out w.drew ((Below.refl _ _).drew)).mono ?_; rintro e w1 ⟨rfl, hr1, hb1, hk1⟩; rw [HX.out]; rw [HSY.out] at hr1; have HW1 := mkHid ((HW.out.next ((Below.refl _ _).drew)).of hk1 hr1); have HB1 : Hid (Below lo w w1) := ((Below.refl lo w).drew).trans hb1; have m0 : w1.cell? ⟨Q, 0, none⟩ = some (.iface 121 (.pointer (some ⟨S, 0, none⟩))) := cell_of_blk HW1.out.box 0 _ rfl; have m1 : w1.cell? ⟨Q, 6, none⟩ = some (.int .i64 (x.root : Int)) := cell_of_blk HW1.out.box 6 _ rfl; clear hr1 hb1 hk1))
    clear q0 q6 m0 m1
    go_wp2_with fail
    go_ret
    rw [HR.out]
    exact ⟨by show Ending.returned _ = Ending.returned (errV aF aS aL (stepG ds x.g x.root).2); rw [HX.out]; rfl, HW1.out, HB1.out⟩

/-! ### From a world on -/
/-- sentinels and a program that lie below a world -/
structure Env (aF aS aL : Addr) (ds : List Df) (c : Value) (w0 : World) : Prop where
  errs : Errs aF aS aL w0
  defs : DInP w0 ds c
  prog : progB ds = true
/-- what came before the world w0 stays -/
def Sn (w0 w : World) : Prop := Below w0.heap.size w0 w
theorem Env.on {aF aS aL : Addr} {ds : List Df} {c : Value} {w0 w : World} (h : Env aF aS aL ds c w0) (hs : Sn w0 w) : DefsOn w (fun k => k < w0.heap.size ∧ Pl w k) ds c :=
  h.defs.mono (fun k hk => ⟨hk.1, hk.next hs⟩) (fun k hk => hs.block k hk.1)
theorem Env.inn {aF aS aL : Addr} {ds : List Df} {c : Value} {w0 w : World} (h : Env aF aS aL ds c w0) (hs : Sn w0 w) : DIn w ds c := h.defs.inP.next hs
theorem Sn.next {w0 w w' : World} (h : Sn w0 w) (hb : Below w.heap.size w w') : Sn w0 w' := Below.trans h (hb.mono h.size)
theorem Sn.to {w0 w w' : World} (h : Sn w0 w) (hb : Below w0.heap.size w w') : Sn w0 w' := Below.trans h hb
theorem done_env {aF aS aL : Addr} {ds : List Df} {Q S A : Nat} {c : Value} {tidy : Bool} {x : Rn} {w0 w : World} (he : Env aF aS aL ds c w0) (hs : Sn w0 w) (h : RunW Q S A w0.heap.size c tidy x w) (ho : x.Ok ds) :
    Calls Tryz.prog 34 #[.pointer (some ⟨Q, 0, none⟩)] w fun e w' => e = .returned (.bool (x.val ds)) ∧ RunW Q S A w0.heap.size c tidy x w' ∧ Sn w0 w' :=
  (done_calls ds Q S A _ c tidy x w h (he.inn hs) ho).mono fun e w' hh => ⟨hh.1, h.next hh.2, hs.next hh.2⟩
theorem collect_env {aF aS aL : Addr} {ds : List Df} {Q S A : Nat} {c : Value} {tidy : Bool} {x : Rn} {w0 w : World} (he : Env aF aS aL ds c w0) (hs : Sn w0 w) (h : RunW Q S A w0.heap.size c tidy x w) (ho : x.Ok ds) (hb : x.Bd 900000000) :
    Calls Tryz.prog 59 #[.pointer (some ⟨Q, 0, none⟩)] w fun e w' => e = .returned (.tuple #[]) ∧ RunW Q S A w0.heap.size c tidy (x.col tidy) w' ∧ Sn w0 w' :=
  (collect_calls ds Q S A _ c tidy x w h hs.size ho hb).mono fun e w' hh => ⟨hh.1, hh.2.1, hs.to hh.2.2⟩
theorem advance_env {aF aS aL : Addr} {ds : List Df} {Q S A : Nat} {c : Value} {tidy : Bool} {x : Rn} {w0 w : World} (he : Env aF aS aL ds c w0) (hs : Sn w0 w) (h : RunW Q S A w0.heap.size c tidy x w) (ho : x.Ok ds) (hv : x.val ds = false) (hb : x.Bd 900000000) :
    Calls Tryz.prog 60 #[.pointer (some ⟨Q, 0, none⟩)] w fun e w' => e = .returned (errV aF aS aL (x.code ds)) ∧ RunW Q S A w0.heap.size c tidy (x.adv ds).1 w' ∧ Sn w0 w' :=
  (advance_calls aF aS aL ds Q S A _ c tidy x w (he.errs.next hs) h hs.size (he.on hs) ho he.prog hv hb).mono fun e w' hh => ⟨by rw [← Rn.adv_code]; exact hh.1, hh.2.1, hs.to hh.2.2⟩
theorem graph_env {Q S A : Nat} {c : Value} {tidy : Bool} {x : Rn} {w0 w : World} (hs : Sn w0 w) (h : RunW Q S A w0.heap.size c tidy x w) :
    ∃ ad cap, ∀ W, Below w.heap.size w W → Calls Tryz.prog 144 #[.pointer (some ⟨S, 0, none⟩)] W fun e w' => e = .returned (.slice ad x.g.length cap) ∧ RunW Q S A w0.heap.size c tidy x w' ∧ Sn w0 w' ∧ Below w.heap.size w w' := by
  obtain ⟨ad, cap, hA, -⟩ := h.red.inn
  exact ⟨ad, cap, fun W hb => (semiGraph_calls S A _ c (semi tidy) 0 x.g _ W (h.red.next hb) ((hb.block _ h.red.ltA).trans hA)).mono fun e w' hh => ⟨hh.1, (h.next hb).next hh.2, (hs.next hb).next hh.2, hb.trans (hh.2.mono hb.size)⟩⟩
theorem Rn.code_le {ds : List Df} (x : Rn) : x.code ds ≤ 3 := by
  unfold Rn.code stepG
  split
  · exact Nat.le_succ 2
  · unfold changeG
    split
    · unfold callG
      split
      · exact Nat.zero_le _
      · exact Nat.le_refl _
    · exact Nat.zero_le _
end Go.Proofs.YtiipcgnkfhjpeaaGreatDoor
/-
  THE PROGRAM's runner: tick.
-/
namespace Go.Proofs.YtiipcgnkfhjpeaaGreatDoor
set_option linter.unusedVariables false
set_option linter.unusedSimpArgs false
open Go.RowKit

set_option maxRecDepth 100000 in
set_option maxHeartbeats 3200000 in
theorem tick_env {aF aS aL : Addr} {ds : List Df} {Q S A : Nat} {c : Value} {tidy : Bool} {x : Rn} {w0 w : World} (limit : Int) (he : Env aF aS aL ds c w0) (hs : Sn w0 w) (h : RunW Q S A w0.heap.size c tidy x w) (ho : x.Ok ds) (hv : x.val ds = false) (hb : x.Bd 800000000) :
    Calls Tryz.prog 36 #[.pointer (some ⟨Q, 0, none⟩), .int .i64 limit] w fun e w' => e = .returned (errV aF aS aL (x.tick ds limit tidy).2) ∧ RunW Q S A w0.heap.size c tidy (x.tick ds limit tidy).1 w' ∧ Sn w0 w' := by
  have hm2 : ∀ w : World, (Go.method 353 121 (.pointer (some ⟨S, 0, none⟩)) "loop.example/graphreducer/impl.graph").run Tryz.prog w = .ok (144, .pointer (some ⟨S, 0, none⟩)) w := fun _ => by kernel_rfl
  obtain ⟨ad, cap, hG⟩ := graph_env hs h
  have HG := mkHid hG
  have HE := mkHid he
  have HOO := mkHid ho
  have HVV := mkHid hv
  have HBB := mkHid hb
  have q0 : w.cell? ⟨Q, 0, none⟩ = some (.iface 121 (.pointer (some ⟨S, 0, none⟩))) := cell_of_blk h.box 0 _ rfl
  clear h hs he ho hv hb hG
  go_enter Tryz.func36, Tryz.ntmps36
  go_wp2_with fail
  refine (HG.out w (Below.refl _ _)).mono ?_
  rintro e w1 ⟨rfl, hw1, hs1, -⟩
  have HW1 := mkHid hw1
  have HS1 := mkHid hs1
  clear q0 hw1 hs1
  by_cases hl : limit < (x.g.length : Int)
  · have HLM : Hid (x.lim limit tidy = x.col tidy) := by unfold Hid Rn.lim; rw [if_pos hl]
    go_wp2_with fail
    clear hl
    refine (collect_env HE.out HS1.out HW1.out HOO.out (HBB.out.mono (by omega))).mono ?_
    rintro e w1a ⟨rfl, hw1a, hs1a⟩
    have HW1a := mkHid hw1a
    have HS1a := mkHid hs1a
    clear hw1a hs1a
    go_wp2_with fail
    refine (done_env HE.out HS1a.out HW1a.out (HOO.out.col tidy)).mono ?_
    rintro e w1b ⟨rfl, hw1b, hs1b⟩
    have HWx := mkHid hw1b
    have HSx := mkHid hs1b
    clear hw1b hs1b
    cases hvv : (x.col tidy).val ds with
    | true =>
      have HVx := mkHid hvv
      clear hvv
      go_wp2_with fail
      go_ret
      rw [show x.tick ds limit tidy = (x.col tidy, 0) by unfold Rn.tick; rw [HLM.out, if_pos HVx.out]]
      exact ⟨rfl, HWx.out, HSx.out⟩
    | false =>
      have HVx := mkHid hvv
      have HOx := mkHid (HOO.out.col tidy)
      have HBx : Hid ((x.col tidy).Bd 900000000) := (HBB.out.col HOO.out tidy).mono (by omega)
      have HBy : Hid (((x.col tidy).col tidy).Bd 900000000) := ((HBB.out.col HOO.out tidy).col HOx.out tidy).mono (by omega)
      have HTK : Hid (x.tick ds limit tidy = Rn.tic2 ds tidy (x.col tidy)) := by unfold Hid Rn.tick; rw [HLM.out, if_neg (by rw [HVx.out]; simp)]
      clear hvv
      go_wp2_with fail
      refine (advance_env HE.out HSx.out HWx.out HOx.out HVx.out HBx.out).mono ?_
      rintro e w2 ⟨rfl, hw2, hs2⟩
      have HW2 := mkHid hw2
      have HS2 := mkHid hs2
      have cL := (HE.out.errs.next hs2).cL
      have HIS := mkHid (isLarge_calls aF aS aL ((x.col tidy).code ds) (Rn.code_le _) w2 (HE.out.errs.next hs2))
      obtain ⟨ev, hev⟩ : ∃ ev, ev = errV aF aS aL ((x.col tidy).code ds) := ⟨_, rfl⟩
      have HEV := mkHid hev
      rw [← hev] at HIS ⊢
      clear hev hw2 hs2
      go_wp2_with fail
      refine HIS.out.mono ?_
      rintro e w3 ⟨rfl, rfl⟩
      clear cL
      by_cases h3 : (x.col tidy).code ds = 3
      · have td : decide ((x.col tidy).code ds = 3) = true := by rw [decide_eq_true_eq]; exact h3
        have HSA : Hid (((x.col tidy).adv ds).1 = (x.col tidy)) := by unfold Hid Rn.adv; rw [if_neg (by omega)]
        have HT3 := mkHid h3
        have HW3 : Hid (RunW Q S A w0.heap.size c tidy (x.col tidy) w3) := by have h := HW2.out; rw [HSA.out] at h; exact h
        rw [td]
        clear td h3
        go_wp2_with fail
        refine (collect_env HE.out HS2.out HW3.out HOx.out HBx.out).mono ?_
        rintro e w4 ⟨rfl, hw4, hs4⟩
        have HW4 := mkHid hw4
        have HS4 := mkHid hs4
        clear hw4 hs4
        go_wp2_with fail
        refine (done_env HE.out HS4.out HW4.out (HOx.out.col tidy)).mono ?_
        rintro e w5 ⟨rfl, hw5, hs5⟩
        have HW5 := mkHid hw5
        have HS5 := mkHid hs5
        clear hw5 hs5
        cases hd : ((x.col tidy).col tidy).val ds with
        | true =>
          have HD := mkHid hd
          clear hd
          go_wp2_with fail
          go_ret
          rw [HTK.out, show Rn.tic2 ds tidy (x.col tidy) = ((x.col tidy).col tidy, 0) by unfold Rn.tic2; rw [if_pos HT3.out, if_pos HD.out]]
          exact ⟨rfl, HW5.out, HS5.out⟩
        | false =>
          have HD := mkHid hd
          clear hd
          go_wp2_with fail
          refine (advance_env HE.out HS5.out HW5.out (HOx.out.col tidy) HD.out HBy.out).mono ?_
          rintro e w6 ⟨rfl, hw6, hs6⟩
          have HW6 := mkHid hw6
          have HS6 := mkHid hs6
          clear hw6 hs6
          have HTT : Hid (Rn.tic2 ds tidy (x.col tidy) = ((x.col tidy).col tidy).adv ds) := by unfold Hid Rn.tic2; rw [if_pos HT3.out, if_neg (by rw [HD.out]; simp)]
          obtain ⟨ev2, hev2⟩ : ∃ ev2, ev2 = errV aF aS aL (((x.col tidy).col tidy).code ds) := ⟨_, rfl⟩
          have HEV2 := mkHid hev2
          rw [← hev2]
          clear hev2
          go_wp2_with fail
          go_ret
          rw [HTK.out, HTT.out]
          exact ⟨by rw [Rn.adv_code, ← HEV2.out]; rfl, HW6.out, HS6.out⟩
      · have td : decide ((x.col tidy).code ds = 3) = false := by rw [decide_eq_false_iff_not]; exact h3
        have HTT : Hid (Rn.tic2 ds tidy (x.col tidy) = (x.col tidy).adv ds) := by unfold Hid Rn.tic2; rw [if_neg h3]
        rw [td]
        clear td h3
        go_wp2_with fail
        go_ret
        rw [HTK.out, HTT.out]
        exact ⟨by rw [Rn.adv_code, ← HEV.out]; rfl, HW2.out, HS2.out⟩
  · have HLM : Hid (x.lim limit tidy = x) := by unfold Hid Rn.lim; rw [if_neg hl]
    have HWx := HW1
    have HSx := HS1
    have HVx := HVV
    have HOx := HOO
    have HBx : Hid (x.Bd 900000000) := HBB.out.mono (by omega)
    have HBy : Hid ((x.col tidy).Bd 900000000) := (HBB.out.col HOO.out tidy).mono (by omega)
    have HTK : Hid (x.tick ds limit tidy = Rn.tic2 ds tidy x) := by unfold Hid Rn.tick; rw [HLM.out, if_neg (by rw [HVx.out]; simp)]
    go_wp2_with fail
    clear hl
    refine (advance_env HE.out HSx.out HWx.out HOx.out HVx.out HBx.out).mono ?_
    rintro e w2 ⟨rfl, hw2, hs2⟩
    have HW2 := mkHid hw2
    have HS2 := mkHid hs2
    have cL := (HE.out.errs.next hs2).cL
    have HIS := mkHid (isLarge_calls aF aS aL (x.code ds) (Rn.code_le _) w2 (HE.out.errs.next hs2))
    obtain ⟨ev, hev⟩ : ∃ ev, ev = errV aF aS aL (x.code ds) := ⟨_, rfl⟩
    have HEV := mkHid hev
    rw [← hev] at HIS ⊢
    clear hev hw2 hs2
    go_wp2_with fail
    refine HIS.out.mono ?_
    rintro e w3 ⟨rfl, rfl⟩
    clear cL
    by_cases h3 : x.code ds = 3
    · have td : decide (x.code ds = 3) = true := by rw [decide_eq_true_eq]; exact h3
      have HSA : Hid ((x.adv ds).1 = x) := by unfold Hid Rn.adv; rw [if_neg (by omega)]
      have HT3 := mkHid h3
      have HW3 : Hid (RunW Q S A w0.heap.size c tidy x w3) := by have h := HW2.out; rw [HSA.out] at h; exact h
      rw [td]
      clear td h3
      go_wp2_with fail
      refine (collect_env HE.out HS2.out HW3.out HOx.out HBx.out).mono ?_
      rintro e w4 ⟨rfl, hw4, hs4⟩
      have HW4 := mkHid hw4
      have HS4 := mkHid hs4
      clear hw4 hs4
      go_wp2_with fail
      refine (done_env HE.out HS4.out HW4.out (HOx.out.col tidy)).mono ?_
      rintro e w5 ⟨rfl, hw5, hs5⟩
      have HW5 := mkHid hw5
      have HS5 := mkHid hs5
      clear hw5 hs5
      cases hd : (x.col tidy).val ds with
      | true =>
        have HD := mkHid hd
        clear hd
        go_wp2_with fail
        go_ret
        rw [HTK.out, show Rn.tic2 ds tidy x = (x.col tidy, 0) by unfold Rn.tic2; rw [if_pos HT3.out, if_pos HD.out]]
        exact ⟨rfl, HW5.out, HS5.out⟩
      | false =>
        have HD := mkHid hd
        clear hd
        go_wp2_with fail
        refine (advance_env HE.out HS5.out HW5.out (HOx.out.col tidy) HD.out HBy.out).mono ?_
        rintro e w6 ⟨rfl, hw6, hs6⟩
        have HW6 := mkHid hw6
        have HS6 := mkHid hs6
        clear hw6 hs6
        have HTT : Hid (Rn.tic2 ds tidy x = (x.col tidy).adv ds) := by unfold Hid Rn.tic2; rw [if_pos HT3.out, if_neg (by rw [HD.out]; simp)]
        obtain ⟨ev2, hev2⟩ : ∃ ev2, ev2 = errV aF aS aL ((x.col tidy).code ds) := ⟨_, rfl⟩
        have HEV2 := mkHid hev2
        rw [← hev2]
        clear hev2
        go_wp2_with fail
        go_ret
        rw [HTK.out, HTT.out]
        exact ⟨by rw [Rn.adv_code, ← HEV2.out]; rfl, HW6.out, HS6.out⟩
    · have td : decide (x.code ds = 3) = false := by rw [decide_eq_false_iff_not]; exact h3
      have HTT : Hid (Rn.tic2 ds tidy x = x.adv ds) := by unfold Hid Rn.tic2; rw [if_neg h3]
      rw [td]
      clear td h3
      go_wp2_with fail
      go_ret
      rw [HTK.out, HTT.out]
      exact ⟨by rw [Rn.adv_code, ← HEV.out]; rfl, HW2.out, HS2.out⟩
end Go.Proofs.YtiipcgnkfhjpeaaGreatDoor
/-
  THE PROGRAM's runner: greatest.
-/
namespace Go.Proofs.YtiipcgnkfhjpeaaGreatDoor
set_option linter.unusedVariables false
set_option linter.unusedSimpArgs false
open Go.RowKit

end Go.Proofs.YtiipcgnkfhjpeaaGreatDoor
/-
  THE PROGRAM's EvalGraph.
-/
namespace Go.Proofs.YtiipcgnkfhjpeaaGreatDoor
set_option linter.unusedVariables false
set_option linter.unusedSimpArgs false
open Go.RowKit

end Go.Proofs.YtiipcgnkfhjpeaaGreatDoor
/-
  THE PROGRAM's startRunner AND PeakCells.
-/
namespace Go.Proofs.YtiipcgnkfhjpeaaGreatDoor
set_option linter.unusedVariables false
set_option linter.unusedSimpArgs false
open Go.RowKit

theorem RunW.low {Q S A lo lo' : Nat} {c : Value} {tidy : Bool} {x : Rn} {w : World} (h : RunW Q S A lo c tidy x w) (hl : lo' ≤ lo) : RunW Q S A lo' c tidy x w := ⟨h.box, h.red.low hl, Nat.le_trans hl h.loQ⟩
end Go.Proofs.YtiipcgnkfhjpeaaGreatDoor
/-
  THE PROGRAM's runner: evaluate.
-/
namespace Go.Proofs.YtiipcgnkfhjpeaaGreatDoor
set_option linter.unusedVariables false
set_option linter.unusedSimpArgs false
open Go.RowKit

end Go.Proofs.YtiipcgnkfhjpeaaGreatDoor
/-
  THE PROGRAM's RunValid, isBetween AND canTick.
-/
namespace Go.Proofs.YtiipcgnkfhjpeaaGreatDoor
set_option linter.unusedVariables false
set_option linter.unusedSimpArgs false
open Go.RowKit

set_option maxHeartbeats 400000 in
theorem isBetween_calls (n m : Int) (w : World) : Calls Tryz.prog 32 #[.int .i64 n, .int .i64 m] w fun e w' => e = .returned (.bool (btB n m)) ∧ w = w' := by
  by_cases h0 : 0 ≤ n
  · by_cases h1 : n ≤ m
    · have HV : Hid (btB n m = true) := by rw [Hid, btB, decide_eq_true_eq]; exact ⟨h0, h1⟩
      go_enter Tryz.func32, Tryz.ntmps32
      go_wp2_with fail
      go_ret
      exact ⟨ret_bool HV.out.symm, rfl⟩
    · have HV : Hid (btB n m = false) := by rw [Hid, btB, decide_eq_false_iff_not]; rintro ⟨-, h⟩; exact h1 h
      have h1' : decide (n ≤ m) = false := by simpa using h1
      have h2' : m < n := by omega
      go_enter Tryz.func32, Tryz.ntmps32
      go_wp2_with fail
      go_ret
      exact ⟨ret_bool HV.out.symm, rfl⟩
  · have HV : Hid (btB n m = false) := by rw [Hid, btB, decide_eq_false_iff_not]; rintro ⟨h, -⟩; exact h0 h
    have h0' : decide (0 ≤ n) = false := by simpa using h0
    have h2' : n < 0 := by omega
    go_enter Tryz.func32, Tryz.ntmps32
    go_wp2_with fail
    go_ret
    exact ⟨ret_bool HV.out.symm, rfl⟩
set_option maxRecDepth 100000 in
set_option maxHeartbeats 3200000 in
theorem implRv_calls (ds : List Df) (x : Rn) (a : Int) (c gv : Value) (w : World) (hd : DIn w ds c) (hk : CIn w x.g gv) :
    Calls Tryz.prog 57 #[c, .agg (rnA gv a x)] w fun e w' => e = .returned (.bool (rvB ds x a)) ∧ Below w.heap.size w w' := by
  have HD := mkHid hd
  have HK := mkHid hk
  obtain ⟨adg, capg, rfl, -, -, -⟩ := hk
  obtain ⟨adc, capc, rfl, -, -, -⟩ := hd
  unfold rnA
  have HBX : Hid (Below w.heap.size w (w.alloc (.cells #[.slice adg x.g.length capg, .int .i64 a, .int .i64 x.steps, .int .i64 x.moved, .int .i64 x.peak, .int .i64 x.ticks, .int .i64 x.rounds] 30))) := box_below _ _
  have HX : Hid ((w.alloc (.cells #[.slice adg x.g.length capg, .int .i64 a, .int .i64 x.steps, .int .i64 x.moved, .int .i64 x.peak, .int .i64 x.ticks, .int .i64 x.rounds] 30)).heap[w.heap.size]? = some (.cells #[.slice adg x.g.length capg, .int .i64 a, .int .i64 x.steps, .int .i64 x.moved, .int .i64 x.peak, .int .i64 x.ticks, .int .i64 x.rounds] 30)) := Deep.blk_alloc_new _ _
  have HXL : Hid (w.heap.size < (w.alloc (.cells #[.slice adg x.g.length capg, .int .i64 a, .int .i64 x.steps, .int .i64 x.moved, .int .i64 x.peak, .int .i64 x.ticks, .int .i64 x.rounds] 30)).heap.size) := by rw [Hid, Deep.nblk_alloc]; omega
  go_enter Tryz.func57, Tryz.ntmps57
  go_wp2_with fail
  refine (canReduce_calls ds x.g a _ _ _ (HD.out.next HBX.out) (HK.out.next HBX.out)).mono ?_
  rintro e w1 ⟨rfl, hb1⟩
  have HB1 : Hid (Below w.heap.size w w1) := HBX.out.trans (hb1.mono HBX.out.size)
  have HX1 := mkHid ((hb1.block _ HXL.out).trans HX.out)
  clear hb1
  cases hr : rightB ds x.g a with
  | false =>
    have HV : Hid (rvB ds x a = false) := rvB_noR hr
    clear hr
    go_wp2_with fail
    go_ret
    exact ⟨ret_bool HV.out.symm, HB1.out⟩
  | true =>
  have HR := mkHid hr
  clear hr
  have x2 := cell_of_blk HX1.out 2 _ rfl
  go_wp2_with fail
  refine (isBetween_calls x.steps 1000 w1).mono ?_
  rintro e w2 ⟨rfl, rfl⟩
  cases hsteps : btB x.steps 1000 with
  | false =>
    have HV : Hid (rvB ds x a = false) := rvB_no (by unfold btB at hsteps; rw [decide_eq_false_iff_not] at hsteps; unfold Rn.Sm; intro h; apply hsteps; omega)
    clear hsteps
    go_wp2_with fail
    go_ret
    exact ⟨ret_bool HV.out.symm, HB1.out⟩
  | true =>
  have Hsteps := mkHid hsteps
  clear hsteps x2
  have x5 := cell_of_blk HX1.out 5 _ rfl
  go_wp2_with fail
  refine (isBetween_calls x.ticks 1000 w1).mono ?_
  rintro e w2 ⟨rfl, rfl⟩
  cases hticks : btB x.ticks 1000 with
  | false =>
    have HV : Hid (rvB ds x a = false) := rvB_no (by unfold btB at hticks; rw [decide_eq_false_iff_not] at hticks; unfold Rn.Sm; intro h; apply hticks; omega)
    clear hticks
    go_wp2_with fail
    go_ret
    exact ⟨ret_bool HV.out.symm, HB1.out⟩
  | true =>
  have Hticks := mkHid hticks
  clear hticks x5
  have x6 := cell_of_blk HX1.out 6 _ rfl
  go_wp2_with fail
  refine (isBetween_calls x.rounds 1000 w1).mono ?_
  rintro e w2 ⟨rfl, rfl⟩
  cases hrounds : btB x.rounds 1000 with
  | false =>
    have HV : Hid (rvB ds x a = false) := rvB_no (by unfold btB at hrounds; rw [decide_eq_false_iff_not] at hrounds; unfold Rn.Sm; intro h; apply hrounds; omega)
    clear hrounds
    go_wp2_with fail
    go_ret
    exact ⟨ret_bool HV.out.symm, HB1.out⟩
  | true =>
  have Hrounds := mkHid hrounds
  clear hrounds x6
  have x3 := cell_of_blk HX1.out 3 _ rfl
  go_wp2_with fail
  refine (isBetween_calls x.moved 1000000 w1).mono ?_
  rintro e w2 ⟨rfl, rfl⟩
  cases hmoved : btB x.moved 1000000 with
  | false =>
    have HV : Hid (rvB ds x a = false) := rvB_no (by unfold btB at hmoved; rw [decide_eq_false_iff_not] at hmoved; unfold Rn.Sm; intro h; apply hmoved; omega)
    clear hmoved
    go_wp2_with fail
    go_ret
    exact ⟨ret_bool HV.out.symm, HB1.out⟩
  | true =>
  have Hmoved := mkHid hmoved
  clear hmoved x3
  have x4 := cell_of_blk HX1.out 4 _ rfl
  go_wp2_with fail
  refine (isBetween_calls x.peak 400 w1).mono ?_
  rintro e w2 ⟨rfl, rfl⟩
  cases hpeak : btB x.peak 400 with
  | false =>
    have HV : Hid (rvB ds x a = false) := rvB_no (by unfold btB at hpeak; rw [decide_eq_false_iff_not] at hpeak; unfold Rn.Sm; intro h; apply hpeak; omega)
    clear hpeak
    go_wp2_with fail
    go_ret
    exact ⟨ret_bool HV.out.symm, HB1.out⟩
  | true =>
  have Hpeak := mkHid hpeak
  clear hpeak x4
  have HV : Hid (rvB ds x a = true) := by unfold Hid rvB; rw [HR.out, Hsteps.out, Hticks.out, Hrounds.out, Hmoved.out, Hpeak.out]; rfl
  go_wp2_with fail
  go_ret
  exact ⟨ret_bool HV.out.symm, HB1.out⟩
set_option maxRecDepth 100000 in
set_option maxHeartbeats 3200000 in
theorem canTick_calls (ds : List Df) (x : Rn) (a : Int) (c gv : Value) (w : World) (hd : DIn w ds c) (hk : CIn w x.g gv) :
    Calls Tryz.prog 31 #[c, .agg (rnA gv a x)] w fun e w' => e = .returned (.bool (ctB ds x a)) ∧ Below w.heap.size w w' := by
  have HD := mkHid hd
  have HK := mkHid hk
  obtain ⟨adg, capg, rfl, -, -, -⟩ := hk
  obtain ⟨adc, capc, rfl, -, -, -⟩ := hd
  unfold rnA
  have HBX : Hid (Below w.heap.size w (w.alloc (.cells #[.slice adg x.g.length capg, .int .i64 a, .int .i64 x.steps, .int .i64 x.moved, .int .i64 x.peak, .int .i64 x.ticks, .int .i64 x.rounds] 30))) := box_below _ _
  have HX : Hid ((w.alloc (.cells #[.slice adg x.g.length capg, .int .i64 a, .int .i64 x.steps, .int .i64 x.moved, .int .i64 x.peak, .int .i64 x.ticks, .int .i64 x.rounds] 30)).heap[w.heap.size]? = some (.cells #[.slice adg x.g.length capg, .int .i64 a, .int .i64 x.steps, .int .i64 x.moved, .int .i64 x.peak, .int .i64 x.ticks, .int .i64 x.rounds] 30)) := Deep.blk_alloc_new _ _
  have HXL : Hid (w.heap.size < (w.alloc (.cells #[.slice adg x.g.length capg, .int .i64 a, .int .i64 x.steps, .int .i64 x.moved, .int .i64 x.peak, .int .i64 x.ticks, .int .i64 x.rounds] 30)).heap.size) := by rw [Hid, Deep.nblk_alloc]; omega
  go_enter Tryz.func31, Tryz.ntmps31
  go_wp2_with fail
  refine (implRv_calls ds x a _ _ _ (HD.out.next HBX.out) (HK.out.next HBX.out)).mono ?_
  rintro e w1 ⟨rfl, hb1⟩
  have HB1 : Hid (Below w.heap.size w w1) := HBX.out.trans (hb1.mono HBX.out.size)
  have HX1 := mkHid ((hb1.block _ HXL.out).trans HX.out)
  clear hb1
  cases hr : rvB ds x a with
  | false =>
    have HV : Hid (ctB ds x a = false) := ctB_noR hr
    clear hr
    go_wp2_with fail
    go_ret
    exact ⟨ret_bool HV.out.symm, HB1.out⟩
  | true =>
  have HR := mkHid hr
  clear hr
  have x2 := cell_of_blk HX1.out 2 _ rfl
  have x3 := cell_of_blk HX1.out 3 _ rfl
  have x6 := cell_of_blk HX1.out 6 _ rfl
  by_cases hsteps : x.steps ≤ 900
  case neg =>
    have HV : Hid (ctB ds x a = false) := ctB_no (by omega)
    have hsteps' : decide (x.steps ≤ 900) = false := by simpa using hsteps
    have hstepsn : 900 < x.steps := by omega
    go_wp2_with fail
    go_ret
    exact ⟨ret_bool HV.out.symm, HB1.out⟩
  by_cases hrounds : x.rounds ≤ 900
  case neg =>
    have HV : Hid (ctB ds x a = false) := ctB_no (by omega)
    have hrounds' : decide (x.rounds ≤ 900) = false := by simpa using hrounds
    have hroundsn : 900 < x.rounds := by omega
    go_wp2_with fail
    go_ret
    exact ⟨ret_bool HV.out.symm, HB1.out⟩
  by_cases hmoved : x.moved ≤ 900000
  case neg =>
    have HV : Hid (ctB ds x a = false) := ctB_no (by omega)
    have hmoved' : decide (x.moved ≤ 900000) = false := by simpa using hmoved
    have hmovedn : 900000 < x.moved := by omega
    go_wp2_with fail
    go_ret
    exact ⟨ret_bool HV.out.symm, HB1.out⟩
  have HV : Hid (ctB ds x a = true) := ctB_iff.2 ⟨HR.out, hsteps, hrounds, hmoved⟩
  go_wp2_with fail
  go_ret
  exact ⟨ret_bool HV.out.symm, HB1.out⟩
end Go.Proofs.YtiipcgnkfhjpeaaGreatDoor
