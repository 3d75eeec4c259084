/-
  THE PROGRAM's runner: advance and tick.
-/
import Derived.Test.YtidijbnoaeopdaaGreatDoorMgExactPeakCells48
import Derived.Deep.LoopGhost
import Derived.BigQuiet
import Derived.Test.YtidijbnoaeopdaaGreatDoorMgExactPeakCells31
import Derived.Test.YtidijbnoaeopdaaGreatDoorMgExactPeakCells35
import Derived.Test.YtidijbnoaeopdaaGreatDoorMgExactPeakCells27
import Derived.Test.YtidijbnoaeopdaaGreatDoorMgExactPeakCells15
import Derived.Test.YtidijbnoaeopdaaGreatDoorMgExactPeakCells1
import Derived.Test.YtidijbnoaeopdaaGreatDoorMgExactPeakCells2
namespace Go.Proofs.YtidijbnoaeopdaaGreatDoor
set_option linter.unusedVariables false
set_option linter.unusedSimpArgs false
open Go.RowKit

/-- a part of a tick is over: the error and the run -/
def AdvD (aF aS aL : Addr) (Q S A lo : Nat) (c : Value) (tidy : Bool) (r : Rn × Nat) (w : World) (e : Ending) (w' : World) : Prop :=
  e = .returned (errV aF aS aL r.2) ∧ RunW Q S A lo c tidy r.1 w' ∧ Below lo w w'
set_option maxRecDepth 100000 in
set_option maxHeartbeats 1600000 in
theorem advance_calls (aF aS aL : Addr) (ds : List Df) (Q S A lo : Nat) (c : Value) (tidy : Bool) (x : Rn) (w : World) (hE : Errs aF aS aL w) (h : RunW Q S A lo c tidy x w) (hlo : lo ≤ w.heap.size) (hd : DefsOn w (fun k => k < lo ∧ Pl w k) ds c) (ho : x.Ok ds) (hp : progB ds = true) (hv : x.val ds = false) (hb : x.Bd 900000000) :
    Calls Tryz.prog 69 #[.pointer (some ⟨Q, 0, none⟩)] w (AdvD aF aS aL Q S A lo c tidy (x.adv ds) w) := by
  have hm : ∀ w : World, (Go.method 357 128 (.pointer (some ⟨S, 0, none⟩)) "loop.example/graphreducer/impl.step").run Tryz.prog w = .ok (154, .pointer (some ⟨S, 0, none⟩)) w := fun _ => by kernel_rfl
  have hm2 : ∀ w : World, (Go.method 357 128 (.pointer (some ⟨S, 0, none⟩)) "loop.example/graphreducer/impl.graph").run Tryz.prog w = .ok (151, .pointer (some ⟨S, 0, none⟩)) w := fun _ => by kernel_rfl
  have HST : Hid (∀ W : World, Below w.heap.size w W → Calls Tryz.prog 154 #[.pointer (some ⟨S, 0, none⟩), .int .i64 (x.root : Int)] W (StepD aF aS aL S A lo c (semi tidy) 0 (stepG ds x.g x.root) W)) := fun W hb =>
    step_calls call_said aF aS aL ds x.g S A lo x.root c (semi tidy) 0 W (hE.next hb) (h.red.next hb) (Nat.le_trans hlo hb.size) (hd.mono (fun k hk => ⟨hk.1, hk.2.next hb⟩) (fun k hk => hb.block k hk.2.1)) ho.1 hp ho.2 hv
  have HW := mkHid h
  have HLO := mkHid hlo
  have HBD := mkHid hb
  have HOK := mkHid (ho.step hp hv)
  have q0 : w.cell? ⟨Q, 0, none⟩ = some (.iface 128 (.pointer (some ⟨S, 0, none⟩))) := cell_of_blk h.box 0 _ rfl
  have q6 : w.cell? ⟨Q, 6, none⟩ = some (.int .i64 (x.root : Int)) := cell_of_blk h.box 6 _ rfl
  clear h ho hlo hb hE hd hp hv
  by_cases hc : x.code ds = 0
  · have HR : Hid (x.adv ds = (x.step ds, 0)) := by unfold Hid Rn.adv; rw [if_pos hc]
    have HC0 : Hid (errV aF aS aL (stepG ds x.g x.root).2 = .nilIface) := by
      have h0 : (stepG ds x.g x.root).2 = 0 := hc
      rw [Hid, h0]; rfl
    clear hc
    go_enter Tryz.func69, Tryz.ntmps69
    go_wp2_with fail
    go_region_held3 (fun w' => w'.cell? ⟨Q, 0, none⟩ = some (.iface 128 (.pointer (some ⟨S, 0, none⟩))) ∧ w'.cell? ⟨Q, 6, none⟩ = some (.int .i64 (x.root : Int)))
      (first
        | go_keep
        | exact ⟨m0, m1⟩
        | exact ⟨q0, q6⟩)
      (first
        | (go_at_call 154; refine (HST.out w.drew ((Below.refl _ _).drew)).mono ?_; rintro e w1 ⟨rfl, hr1, hb1, hk1⟩; rw [HC0.out]; have HW1 := mkHid ((HW.out.next ((Below.refl _ _).drew)).of hk1 hr1); have HB1 : Hid (Below lo w w1) := ((Below.refl lo w).drew).trans hb1; have m0 : w1.cell? ⟨Q, 0, none⟩ = some (.iface 128 (.pointer (some ⟨S, 0, none⟩))) := cell_of_blk HW1.out.box 0 _ rfl; have m1 : w1.cell? ⟨Q, 6, none⟩ = some (.int .i64 (x.root : Int)) := cell_of_blk HW1.out.box 6 _ rfl; clear hr1 hb1 hk1))
    clear q0 q6 m1
    obtain ⟨ad, cap, hA, hC⟩ := HW1.out.red.inn
    have HA := mkHid hA
    have h400 : ((stepG ds x.g x.root).1.length : Int) ≤ 400 := Int.ofNat_le.2 HOK.out.len
    have HG : Hid (∀ W : World, Below w1.heap.size w1 W → Calls Tryz.prog 151 #[.pointer (some ⟨S, 0, none⟩)] W fun e w' => e = .returned (.slice ad (stepG ds x.g x.root).1.length cap) ∧ Below W.heap.size W w') := fun W hb => semiGraph_calls S A lo c (semi tidy) 0 (stepG ds x.g x.root).1 _ W (HW1.out.red.next hb) ((hb.block _ HW1.out.red.ltA).trans HA.out)
    have HC : Hid (∀ W : World, Below w1.heap.size w1 W → Calls Tryz.prog 91 #[.pointer (some ⟨Q, 1, none⟩), .int .i64 ((stepG ds x.g x.root).1.length : Int)] W fun e w' => e = .returned (.tuple #[]) ∧ RunW Q S A lo c tidy (x.step ds) w' ∧ Below lo W w') := fun W hb => countStep_calls Q S A lo c tidy _ _ W (HW1.out.next hb) ⟨(HBD.out.mono (by omega)).1, (HBD.out.mono (by omega)).2, (HBD.out.mono (by omega)).3, (HBD.out.mono (by omega)).4, (HBD.out.mono (by omega)).5⟩ ⟨Int.natCast_nonneg _, h400⟩
    have HSL : Hid (lo ≤ w1.heap.size) := Nat.le_trans HLO.out HB1.out.size
    clear hA hC h400
    go_wp2_with fail
    go_region_held3 (fun w' => w'.cell? ⟨Q, 0, none⟩ = some (.iface 128 (.pointer (some ⟨S, 0, none⟩))))
      (first
        | go_keep
        | exact m3
        | exact m2
        | exact m0)
      (first
        | (go_at_call 151; refine (HG.out w1.drew ((Below.refl _ _).drew)).mono ?_; rintro e w3 ⟨rfl, hb3⟩; have HB3 : Hid (Below w1.heap.size w1 w3) := ((Below.refl _ _).drew).trans hb3; have m2 : w3.cell? ⟨Q, 0, none⟩ = some (.iface 128 (.pointer (some ⟨S, 0, none⟩))) := cell_of_blk (HW1.out.next HB3.out).box 0 _ rfl; clear hb3)
        | (go_at_call 91; refine (HC.out w3 HB3.out).mono ?_; rintro e w4 ⟨rfl, hw4, hb4⟩; have HW4 := mkHid hw4; have HB4 : Hid (Below lo w w4) := (HB1.out.trans (HB3.out.mono HSL.out)).trans hb4; have m3 : w4.cell? ⟨Q, 0, none⟩ = some (.iface 128 (.pointer (some ⟨S, 0, none⟩))) := cell_of_blk HW4.out.box 0 _ rfl; clear hw4 hb4))
    go_wp2_with fail
    go_ret
    rw [HR.out]
    exact ⟨rfl, HW4.out, HB4.out⟩
  · have HR : Hid (x.adv ds = (x, x.code ds)) := by unfold Hid Rn.adv; rw [if_neg hc]
    obtain ⟨X, hX⟩ := errV_iface aF aS aL (k := (stepG ds x.g x.root).2) hc
    have HX := mkHid hX
    have HSY : Hid ((stepG ds x.g x.root).1 = x.g) := stepG_stay hc
    clear hc hX
    go_enter Tryz.func69, Tryz.ntmps69
    go_wp2_with fail
    go_region_held3 (fun w' => w'.cell? ⟨Q, 0, none⟩ = some (.iface 128 (.pointer (some ⟨S, 0, none⟩))) ∧ w'.cell? ⟨Q, 6, none⟩ = some (.int .i64 (x.root : Int)))
      (first
        | go_keep
        | exact ⟨m0, m1⟩
        | exact ⟨q0, q6⟩)
      (first
        | (go_at_call 154; refine (HST.out w.drew ((Below.refl _ _).drew)).mono ?_; rintro e w1 ⟨rfl, hr1, hb1, hk1⟩; rw [HX.out]; rw [HSY.out] at hr1; have HW1 := mkHid ((HW.out.next ((Below.refl _ _).drew)).of hk1 hr1); have HB1 : Hid (Below lo w w1) := ((Below.refl lo w).drew).trans hb1; have m0 : w1.cell? ⟨Q, 0, none⟩ = some (.iface 128 (.pointer (some ⟨S, 0, none⟩))) := cell_of_blk HW1.out.box 0 _ rfl; have m1 : w1.cell? ⟨Q, 6, none⟩ = some (.int .i64 (x.root : Int)) := cell_of_blk HW1.out.box 6 _ rfl; clear hr1 hb1 hk1))
    clear q0 q6 m0 m1
    go_wp2_with fail
    go_ret
    rw [HR.out]
    exact ⟨by show Ending.returned _ = Ending.returned (errV aF aS aL (stepG ds x.g x.root).2); rw [HX.out]; rfl, HW1.out, HB1.out⟩

/-! ### From a world on -/
/-- sentinels and a program that lie below a world -/
structure Env (aF aS aL : Addr) (ds : List Df) (c : Value) (w0 : World) : Prop where
  errs : Errs aF aS aL w0
  defs : DInP w0 ds c
  prog : progB ds = true
/-- what came before the world w0 stays -/
def Sn (w0 w : World) : Prop := Below w0.heap.size w0 w
theorem Env.on {aF aS aL : Addr} {ds : List Df} {c : Value} {w0 w : World} (h : Env aF aS aL ds c w0) (hs : Sn w0 w) : DefsOn w (fun k => k < w0.heap.size ∧ Pl w k) ds c :=
  h.defs.mono (fun k hk => ⟨hk.1, hk.next hs⟩) (fun k hk => hs.block k hk.1)
theorem Env.inn {aF aS aL : Addr} {ds : List Df} {c : Value} {w0 w : World} (h : Env aF aS aL ds c w0) (hs : Sn w0 w) : DIn w ds c := h.defs.inP.next hs
theorem Sn.next {w0 w w' : World} (h : Sn w0 w) (hb : Below w.heap.size w w') : Sn w0 w' := Below.trans h (hb.mono h.size)
theorem Sn.to {w0 w w' : World} (h : Sn w0 w) (hb : Below w0.heap.size w w') : Sn w0 w' := Below.trans h hb
theorem done_env {aF aS aL : Addr} {ds : List Df} {Q S A : Nat} {c : Value} {tidy : Bool} {x : Rn} {w0 w : World} (he : Env aF aS aL ds c w0) (hs : Sn w0 w) (h : RunW Q S A w0.heap.size c tidy x w) (ho : x.Ok ds) :
    Calls Tryz.prog 40 #[.pointer (some ⟨Q, 0, none⟩)] w fun e w' => e = .returned (.bool (x.val ds)) ∧ RunW Q S A w0.heap.size c tidy x w' ∧ Sn w0 w' :=
  (done_calls ds Q S A _ c tidy x w h (he.inn hs) ho).mono fun e w' hh => ⟨hh.1, h.next hh.2, hs.next hh.2⟩
theorem collect_env {aF aS aL : Addr} {ds : List Df} {Q S A : Nat} {c : Value} {tidy : Bool} {x : Rn} {w0 w : World} (he : Env aF aS aL ds c w0) (hs : Sn w0 w) (h : RunW Q S A w0.heap.size c tidy x w) (ho : x.Ok ds) (hb : x.Bd 900000000) :
    Calls Tryz.prog 68 #[.pointer (some ⟨Q, 0, none⟩)] w fun e w' => e = .returned (.tuple #[]) ∧ RunW Q S A w0.heap.size c tidy (x.col tidy) w' ∧ Sn w0 w' :=
  (collect_calls ds Q S A _ c tidy x w h hs.size ho hb).mono fun e w' hh => ⟨hh.1, hh.2.1, hs.to hh.2.2⟩
theorem advance_env {aF aS aL : Addr} {ds : List Df} {Q S A : Nat} {c : Value} {tidy : Bool} {x : Rn} {w0 w : World} (he : Env aF aS aL ds c w0) (hs : Sn w0 w) (h : RunW Q S A w0.heap.size c tidy x w) (ho : x.Ok ds) (hv : x.val ds = false) (hb : x.Bd 900000000) :
    Calls Tryz.prog 69 #[.pointer (some ⟨Q, 0, none⟩)] w fun e w' => e = .returned (errV aF aS aL (x.code ds)) ∧ RunW Q S A w0.heap.size c tidy (x.adv ds).1 w' ∧ Sn w0 w' :=
  (advance_calls aF aS aL ds Q S A _ c tidy x w (he.errs.next hs) h hs.size (he.on hs) ho he.prog hv hb).mono fun e w' hh => ⟨by rw [← Rn.adv_code]; exact hh.1, hh.2.1, hs.to hh.2.2⟩
theorem graph_env {Q S A : Nat} {c : Value} {tidy : Bool} {x : Rn} {w0 w : World} (hs : Sn w0 w) (h : RunW Q S A w0.heap.size c tidy x w) :
    ∃ ad cap, ∀ W, Below w.heap.size w W → Calls Tryz.prog 151 #[.pointer (some ⟨S, 0, none⟩)] W fun e w' => e = .returned (.slice ad x.g.length cap) ∧ RunW Q S A w0.heap.size c tidy x w' ∧ Sn w0 w' ∧ Below w.heap.size w w' := by
  obtain ⟨ad, cap, hA, -⟩ := h.red.inn
  exact ⟨ad, cap, fun W hb => (semiGraph_calls S A _ c (semi tidy) 0 x.g _ W (h.red.next hb) ((hb.block _ h.red.ltA).trans hA)).mono fun e w' hh => ⟨hh.1, (h.next hb).next hh.2, (hs.next hb).next hh.2, hb.trans (hh.2.mono hb.size)⟩⟩
theorem Rn.code_le {ds : List Df} (x : Rn) : x.code ds ≤ 3 := by
  unfold Rn.code stepG
  split
  · exact Nat.le_succ 2
  · unfold changeG
    split
    · unfold callG
      split
      · exact Nat.zero_le _
      · exact Nat.le_refl _
    · exact Nat.zero_le _
end Go.Proofs.YtidijbnoaeopdaaGreatDoor
/-
  THE PROGRAM's runner: tick.
-/
namespace Go.Proofs.YtidijbnoaeopdaaGreatDoor
set_option linter.unusedVariables false
set_option linter.unusedSimpArgs false
open Go.RowKit

end Go.Proofs.YtidijbnoaeopdaaGreatDoor
/-
  THE PROGRAM's runner: greatest.
-/
namespace Go.Proofs.YtidijbnoaeopdaaGreatDoor
set_option linter.unusedVariables false
set_option linter.unusedSimpArgs false
open Go.RowKit

set_option maxRecDepth 100000 in
set_option maxHeartbeats 3200000 in
theorem greatest_env {aF aS aL : Addr} {ds : List Df} {Q S A : Nat} {c : Value} {tidy : Bool} {x : Rn} {w0 w : World} (fuel : Nat) (he : Env aF aS aL ds c w0) (hs : Sn w0 w) (h : RunW Q S A w0.heap.size c tidy x w) (hf : fuel ≤ 300) (hr : PkRel ds tidy x fuel 0 x 0) :
    Calls Tryz.prog 60 #[.pointer (some ⟨Q, 0, none⟩), .int .i64 (fuel : Int)] w fun e w' => e = .returned (.tuple #[.int .i64 (pkE ds tidy fuel x 0).1, errV aF aS aL (pkE ds tidy fuel x 0).2]) ∧ Sn w0 w' := by
  have hm2 : ∀ w : World, (Go.method 357 128 (.pointer (some ⟨S, 0, none⟩)) "loop.example/graphreducer/impl.graph").run Tryz.prog w = .ok (151, .pointer (some ⟨S, 0, none⟩)) w := fun _ => by kernel_rfl
  have HE := mkHid he
  have HS := mkHid hs
  have HW := mkHid h
  have HR := mkHid hr
  have HB9 : Hid (∀ (n : Nat) (y : Rn) (m : Int), PkRel ds tidy x fuel n y m → y.Bd 800000000) := fun n y m hh => hh.bd.mono (by have := hh.le; omega)
  clear h hs he hr
  go_enter Tryz.func60, Tryz.ntmps60
  go_wp2_with fail
  refine (collect_env HE.out HS.out HW.out HR.out.ok ((HB9.out _ _ _ HR.out).mono (by omega))).mono ?_
  rintro e w1 ⟨rfl, hw1, hs1⟩
  have HW1 := mkHid hw1
  have HS1 := mkHid hs1
  obtain ⟨ad, cap, hG⟩ := graph_env hs1 hw1
  have HG := mkHid hG
  have q0 : w1.cell? ⟨Q, 0, none⟩ = some (.iface 128 (.pointer (some ⟨S, 0, none⟩))) := cell_of_blk hw1.box 0 _ rfl
  clear hw1 hs1 hG
  go_wp2_with fail
  refine (HG.out w1 (Below.refl _ _)).mono ?_
  rintro e w2 ⟨rfl, hw2, hs2, -⟩
  have HW2 := mkHid hw2
  have HS2 := mkHid hs2
  have HT0 : Hid (x.top tidy 0 = ((x.col tidy).g.length : Int)) := by unfold Hid Rn.top; omega
  clear hw2 hs2 q0
  go_wp2_with fail
  go_loopg [6] (fuel + 1) (fun k z wr => ∃ (n : Nat) (y : Rn) (m : Int), k = fuel + 1 - n ∧ PkRel ds tidy x fuel n y m ∧ z = .int .i64 (y.top tidy m) ∧ RunW Q S A w0.heap.size c tidy (y.col tidy) wr ∧ Sn w0 wr)
  case atStart => exact ⟨0, x, 0, rfl, HR.out, by rw [HT0.out], HW2.out, HS2.out⟩
  case round =>
    obtain ⟨n, y, m, rfl, hrel, rfl, hrw, hsn⟩ := hrel
    have HRL := mkHid hrel
    have HRW := mkHid hrw
    have HSN := mkHid hsn
    have HOC := mkHid (hrel.ok.col tidy)
    have HBC : Hid ((y.col tidy).Bd 850000000) := ((HB9.out _ _ _ hrel).col hrel.ok tidy).mono (by omega)
    have hnf := hrel.le
    obtain ⟨p, hp⟩ : ∃ p, p = y.top tidy m := ⟨_, rfl⟩
    have HP := mkHid hp
    have hp4 := hrel.top
    rw [← hp] at hp4 ⊢
    clear hrel hrw hsn hp
    go_wp2_with fail
    refine (done_env HE.out HSN.out HRW.out HOC.out).mono ?_
    rintro e w3 ⟨rfl, hw3, hs3⟩
    have HW3 := mkHid hw3
    have HS3 := mkHid hs3
    clear hw3 hs3
    cases hv : (y.col tidy).val ds with
    | true =>
      have HV := mkHid (HRL.out.val hv)
      clear hv
      go_wp2_with fail
      go_ret2
      exact ⟨by rw [HV.out, ← HP.out]; rfl, HS3.out⟩
    | false =>
      have HVF := mkHid hv
      have q1 : w3.cell? ⟨Q, 1, none⟩ = some (.int .i64 (n : Int)) := by rw [← HRL.out.steps]; exact cell_of_blk HW3.out.box 1 _ rfl
      clear hv
      by_cases hnn : n = fuel
      · subst hnn
        have HV := mkHid (HRL.out.fuel HVF.out)
        have HBD : Hid (∀ k, Below w3.heap.size w3 (w3.drewN k)) := fun k => below_drewN (Below.refl _ _) k
        have cf := fun k => (HE.out.errs.next (HS3.out.next (HBD.out k))).cF
        have cF := (HE.out.errs.next HS3.out).cF
        go_wp2_with fail
        go_quiet (fail)
        go_wp2_with fail
        go_ret2
        exact ⟨by rw [HV.out, ← HP.out]; rfl, HS3.out.next (HBD.out _)⟩
      have hnlt : n < fuel := by omega
      have tn : ((n : Int) == (fuel : Int)) = false := by rw [beq_eq_false_iff_ne]; omega
      clear hnn
      go_wp2_with fail
      refine (advance_env HE.out HS3.out HW3.out HOC.out HVF.out (HBC.out.mono (by omega))).mono ?_
      rintro e w4 ⟨rfl, hw4, hs4⟩
      have HW4 := mkHid hw4
      have HS4 := mkHid hs4
      clear hw4 hs4 q1
      by_cases hc : (y.col tidy).code ds = 0
      · have HN := mkHid (HRL.out.next HE.out.prog hnlt HVF.out hc)
        have e0 : errV aF aS aL ((y.col tidy).code ds) = .nilIface := by rw [hc]; rfl
        have HW5 : Hid (RunW Q S A w0.heap.size c tidy ((y.col tidy).step ds) w4) := by have h := HW4.out; rw [show ((y.col tidy).adv ds).1 = (y.col tidy).step ds by unfold Rn.adv; rw [if_pos hc]] at h; exact h
        rw [e0]
        clear hc e0
        go_wp2_with fail
        refine (collect_env HE.out HS4.out HW5.out HN.out.ok ((HB9.out _ _ _ HN.out).mono (by omega))).mono ?_
        rintro e w5 ⟨rfl, hw5, hs5⟩
        have HW6 := mkHid hw5
        have HS6 := mkHid hs5
        obtain ⟨ad6, cap6, hG6⟩ := graph_env hs5 hw5
        have HG6 := mkHid hG6
        have q0 : w5.cell? ⟨Q, 0, none⟩ = some (.iface 128 (.pointer (some ⟨S, 0, none⟩))) := cell_of_blk hw5.box 0 _ rfl
        clear hw5 hs5 hG6
        go_wp2_with fail
        refine (HG6.out w5 (Below.refl _ _)).mono ?_
        rintro e w6 ⟨rfl, hw6, hs6, -⟩
        have HW7 := mkHid hw6
        have HS7 := mkHid hs6
        obtain ⟨ln, hln⟩ : ∃ ln : Nat, ln = (((y.col tidy).step ds).col tidy).g.length := ⟨_, rfl⟩
        have hl4 : ln ≤ 400 := by rw [hln]; exact (HN.out.ok.col tidy).len
        have HTN : Hid (((y.col tidy).step ds).top tidy (y.top tidy m) = max p (ln : Int)) := by unfold Hid; rw [← HP.out, hln]; rfl
        clear hw6 hs6 q0
        rw [← hln]
        clear hln
        go_wp2_with fail
        · have ht : max p (ln : Int) = (ln : Int) := by omega
          go_roundg (fuel + 1 - (n + 1))
          case rel => exact ⟨n + 1, _, _, rfl, HN.out, by rw [HTN.out, ht], HW7.out, HS7.out⟩
          case measure => omega
        · have ht : max p (ln : Int) = p := by omega
          go_roundg (fuel + 1 - (n + 1))
          case rel => exact ⟨n + 1, _, _, rfl, HN.out, by rw [HTN.out, ht], HW7.out, HS7.out⟩
          case measure => omega
      · have HV := mkHid (HRL.out.bad hnlt HVF.out hc)
        obtain ⟨X, hX⟩ := errV_iface aF aS aL hc
        have HX := mkHid hX
        rw [hX]
        clear hc hX
        go_wp2_with fail
        go_ret2
        exact ⟨by rw [HV.out, ← HP.out, HX.out]; rfl, HS4.out⟩
end Go.Proofs.YtidijbnoaeopdaaGreatDoor
/-
  THE PROGRAM's EvalGraph.
-/
namespace Go.Proofs.YtidijbnoaeopdaaGreatDoor
set_option linter.unusedVariables false
set_option linter.unusedSimpArgs false
open Go.RowKit

def fuelB (f : Int) : Bool := decide (0 ≤ f ∧ f ≤ 300)
set_option maxHeartbeats 400000 in
theorem fuelFits_calls (f : Int) (w : World) : Calls Tryz.prog 77 #[.int .i64 f] w fun e w' => e = .returned (.bool (fuelB f)) ∧ w = w' := by
  by_cases h0 : 0 ≤ f
  · by_cases h1 : f ≤ 300
    · have HV : Hid (fuelB f = true) := by rw [Hid, fuelB, decide_eq_true_eq]; exact ⟨h0, h1⟩
      go_enter Tryz.func77, Tryz.ntmps77
      go_wp2_with fail
      go_ret
      exact ⟨ret_bool HV.out.symm, rfl⟩
    · have HV : Hid (fuelB f = false) := by rw [Hid, fuelB, decide_eq_false_iff_not]; rintro ⟨-, h⟩; exact h1 h
      have h1' : decide (f ≤ 300) = false := by simpa using h1
      have h2' : 300 < f := by omega
      go_enter Tryz.func77, Tryz.ntmps77
      go_wp2_with fail
      go_ret
      exact ⟨ret_bool HV.out.symm, rfl⟩
  · have HV : Hid (fuelB f = false) := by rw [Hid, fuelB, decide_eq_false_iff_not]; rintro ⟨h, -⟩; exact h0 h
    have h2' : f < 0 := by omega
    go_enter Tryz.func77, Tryz.ntmps77
    go_wp2_with fail
    go_ret
    exact ⟨ret_bool HV.out.symm, rfl⟩
end Go.Proofs.YtidijbnoaeopdaaGreatDoor
/-
  THE PROGRAM's startRunner AND PeakCells.
-/
namespace Go.Proofs.YtidijbnoaeopdaaGreatDoor
set_option linter.unusedVariables false
set_option linter.unusedSimpArgs false
open Go.RowKit

/-- a runner at the beginning of a closed expression, or none -/
def SrD (ds : List Df) (t : Tr) (c : Value) (f : Int) (tidy : Bool) (w : World) (e : Ending) (w' : World) : Prop :=
  (closedB ds t = true ∧ fuelB f = true ∧ ∃ Q S A, e = .returned (.tuple #[.pointer (some ⟨Q, 0, none⟩), .bool true]) ∧ RunW Q S A w.heap.size c tidy (startX (addT [] t []).1 (addT [] t []).2) w' ∧ Below w.heap.size w w') ∨
  (¬ (closedB ds t = true ∧ fuelB f = true) ∧ e = .returned (.tuple #[.pointer none, .bool false]) ∧ Below w.heap.size w w')
theorem RunW.low {Q S A lo lo' : Nat} {c : Value} {tidy : Bool} {x : Rn} {w : World} (h : RunW Q S A lo c tidy x w) (hl : lo' ≤ lo) : RunW Q S A lo' c tidy x w := ⟨h.box, h.red.low hl, Nat.le_trans hl h.loQ⟩
set_option maxRecDepth 100000 in
set_option maxHeartbeats 1600000 in
theorem startRunner_calls (ds : List Df) (t : Tr) (p c : Value) (f : Int) (tidy : Bool) (w : World) (hp : DIn w ds p) (hk : In w t.kids c) (ht : I64 t.op ∧ I64 t.num) :
    Calls Tryz.prog 53 #[p, .agg #[.int .i64 t.op, .int .i64 t.num, c], .int .i64 f, .bool tidy] w (SrD ds t p f tidy w) := by
  have HK : Hid (In w t.kids c) := hk
  have HP : Hid (DIn w ds p) := hp
  have HT := mkHid ht
  obtain ⟨ad, cap, rfl, -, -, -⟩ := hk
  obtain ⟨adp, capp, rfl, -, -, -⟩ := hp
  have HBX : Hid (Below w.heap.size w (w.alloc (.cells #[.int .i64 t.op, .int .i64 t.num, .slice ad t.kids.length cap] 48))) := box_below _ _
  clear ht
  go_enter Tryz.func53, Tryz.ntmps53
  go_wp2_with fail
  refine (implStart_calls ds t _ _ _ (HP.out.next HBX.out) (HK.out.next HBX.out) HT.out).mono ?_
  rintro e w1 ⟨gv, rfl, ho, hb1⟩
  have HB1 : Hid (Below w.heap.size w w1) := HBX.out.trans (hb1.mono HBX.out.size)
  have hs1 := HB1.out.size
  have hk1 := (ho.own fun k h _ => h).inn
  clear hb1 ho
  cases hr : closedB ds t with
  | false =>
    have hsx : sxO ds t = (rnZ, false) := by unfold sxO; rw [if_neg (by rw [hr]; simp)]
    rw [hsx] at hk1 ⊢
    have HR := mkHid hr
    obtain ⟨adz, capz, rfl, -, -, -⟩ := id hk1
    clear hsx hr hk1
    unfold rnC
    go_wp2_with fail
    go_ret2
    exact Or.inr ⟨by rw [HR.out]; simp, rfl, HB1.out.alloc hs1 _⟩
  | true =>
    have hsx : sxO ds t = (startX (addT [] t []).1 (addT [] t []).2, true) := by unfold sxO; rw [if_pos hr]
    have HSO := mkHid (start_run hr)
    have HCL := mkHid hr
    rw [hsx] at hk1 ⊢
    obtain ⟨x, hx⟩ : ∃ x, x = startX (addT [] t []).1 (addT [] t []).2 := ⟨_, rfl⟩
    have HXE := mkHid hx
    have HXO : Hid (x.Ok ds) := by rw [hx]; exact HSO.out
    dsimp only at hk1 ⊢
    rw [← hx] at hk1 ⊢
    obtain ⟨adz, capz, rfl, -, -, -⟩ := id hk1
    have HK1 := mkHid hk1
    clear hsx hr hk1 hx
    unfold rnC
    go_wp2_with fail
    refine (fuelFits_calls f _).mono ?_
    rintro e w2 ⟨rfl, rfl⟩
    cases hf : fuelB f with
    | false =>
      have HF := mkHid hf
      clear hf
      go_wp2_with fail
      go_ret2
      exact Or.inr ⟨by rw [HF.out]; simp, rfl, HB1.out.alloc hs1 _⟩
    | true =>
      have HF := mkHid hf
      have HBA : Hid (Below w.heap.size w (w1.alloc (.cells #[.slice adz x.g.length capz, .int .i64 (x.root : Int), .int .i64 x.steps, .int .i64 x.moved, .int .i64 x.peak, .int .i64 x.ticks, .int .i64 x.rounds] 30))) := HB1.out.alloc hs1 _
      clear hf
      go_wp2_with fail
      refine (runnerOf_calls ds _ (.slice adz x.g.length capz) tidy x _ (HP.out.next HBA.out) (HK1.out.next (box_below _ _)) HXO.out).mono ?_
      rintro e w3 ⟨Q, S, A, rfl, hrw, hb3⟩
      have HW := mkHid hrw
      have HB3 : Hid (Below w.heap.size w w3) := HBA.out.trans (hb3.mono HBA.out.size)
      clear hrw hb3
      go_wp2_with fail
      go_ret2
      exact Or.inl ⟨HCL.out, HF.out, Q, S, A, rfl, by rw [← HXE.out]; exact HW.out.low HBA.out.size, HB3.out⟩
theorem pkE_code {ds : List Df} {tidy : Bool} : ∀ (n : Nat) (x : Rn) (m : Int), (pkE ds tidy n x m).2 ≤ 3
  | 0, x, m => by unfold pkE; split <;> simp
  | n + 1, x, m => by
    unfold pkE
    split
    · simp
    · split
      · exact pkE_code n _ _
      · exact Rn.code_le _
set_option maxRecDepth 100000 in
set_option maxHeartbeats 1600000 in
theorem implPeak_calls (aF aS aL : Addr) (ds : List Df) (t : Tr) (p c : Value) (f : Int) (tidy : Bool) (w : World) (hE : Errs aF aS aL w) (hp : DInP w ds p) (hk : In w t.kids c) (ht : I64 t.op ∧ I64 t.num) :
    Calls Tryz.prog 27 #[p, .agg #[.int .i64 t.op, .int .i64 t.num, c], .int .i64 f, .bool tidy] w fun e w' => e = .returned (.tuple #[.int .i64 (pRun ds t f tidy).1, .int .i64 ((pRun ds t f tidy).2 : Int)]) ∧ Below w.heap.size w w' := by
  have HK : Hid (In w t.kids c) := hk
  have HP : Hid (DInP w ds p) := hp
  have HT := mkHid ht
  have HE := mkHid hE
  obtain ⟨ad, cap, rfl, -, -, -⟩ := hk
  obtain ⟨adp, capp, rfl, -, -, -⟩ := id hp
  obtain ⟨W, hW⟩ : ∃ W, W = w.alloc (.cells #[.int .i64 t.op, .int .i64 t.num, .slice ad t.kids.length cap] 48) := ⟨_, rfl⟩
  have HBX : Hid (Below w.heap.size w W) := by rw [hW]; exact box_below _ _
  have HPW : Hid (DInP W ds (.slice adp ds.length capp)) := DefsOn.nextP HP.out HBX.out
  clear ht hp hE
  go_enter Tryz.func27, Tryz.ntmps27
  go_wp2_with fail
  rw [← hW]
  clear hW
  refine (startRunner_calls ds t _ _ f tidy W HPW.out.inP (HK.out.next HBX.out) HT.out).mono ?_
  rintro e w1 (⟨hc, hf, Q, S, A, rfl, hrw, hb1⟩ | ⟨hn, rfl, hb1⟩)
  · have HB1 := mkHid hb1
    have HW := mkHid hrw
    have HENV : Hid (Env aF aS aL ds (.slice adp ds.length capp) W) := ⟨HE.out.next HBX.out, HPW.out, (start_ok hc).1⟩
    have hf2 := hf
    unfold fuelB at hf2
    rw [decide_eq_true_eq] at hf2
    obtain ⟨fu, rfl⟩ : ∃ fu : Nat, f = (fu : Int) := ⟨f.toNat, by omega⟩
    have hfu : fu ≤ 300 := by omega
    have HV : Hid (pRun ds t (fu : Int) tidy = pkE ds tidy fu (startX (addT [] t []).1 (addT [] t []).2) 0) := by
      unfold Hid pRun
      rw [if_pos ⟨hc, hf⟩, Int.toNat_natCast]
    have HR : Hid (PkRel ds tidy (startX (addT [] t []).1 (addT [] t []).2) fu 0 (startX (addT [] t []).1 (addT [] t []).2) 0) := PkRel.start (start_run hc)
    clear hc hf hf2 hb1 hrw
    go_wp2_with fail
    refine (greatest_env fu HENV.out HB1.out HW.out hfu HR.out).mono ?_
    rintro e w2 ⟨rfl, hs2⟩
    have HS2 : Hid (Below W.heap.size W w2) := hs2
    have HCO := mkHid (codeOf_calls aF aS aL (pkE ds tidy fu (startX (addT [] t []).1 (addT [] t []).2) 0).2 (pkE_code _ _ _) w2 ((HE.out.next HBX.out).next HS2.out))
    obtain ⟨ev, hev⟩ : ∃ ev, ev = errV aF aS aL (pkE ds tidy fu (startX (addT [] t []).1 (addT [] t []).2) 0).2 := ⟨_, rfl⟩
    rw [← hev] at HCO ⊢
    clear hs2 hev
    go_wp2_with fail
    refine HCO.out.mono ?_
    rintro e w3 ⟨rfl, rfl⟩
    go_wp2_with fail
    go_ret2
    rw [HV.out]
    exact ⟨rfl, HBX.out.trans (HS2.out.mono HBX.out.size)⟩
  · have HV : Hid (pRun ds t f tidy = (0, 4)) := by unfold Hid pRun; exact if_neg hn
    have HB1 := mkHid hb1
    clear hn hb1
    go_wp2_with fail
    go_ret2
    rw [HV.out]
    exact ⟨rfl, HBX.out.trans (HB1.out.mono HBX.out.size)⟩
end Go.Proofs.YtidijbnoaeopdaaGreatDoor
/-
  THE LAWS' COPY OF A PROGRAM, WITH ALL ITS BLOCKS: they are distinct.
-/
namespace Go.Proofs.YtidijbnoaeopdaaGreatDoor
set_option linter.unusedVariables false
set_option linter.unusedSimpArgs false
open Go.RowKit

/-- a function whose body's operands have these blocks -/
def DfFp (w : World) (d : Df) (fp : List Nat) (a b c e : Value) : Prop := a = .int .i64 d.1 ∧ I64 d.1 ∧ TrFp w 48 d.2 fp b c e
/-- a program in a row of its own, with all its blocks -/
def DefsFp (w : World) (ds : List Df) (fp : List Nat) (v : Value) : Prop :=
  ∃ (bl : Nat) (f : Nat → Value) (fps : List (List Nat)), v = .slice (some ⟨bl, 0, none⟩) ds.length ds.length ∧ ds.length ≤ 1048576 ∧ w.rowIs bl 66 (ds.length * 4) f ∧ fp = bl :: fps.flatten ∧ fps.length = ds.length ∧ ∀ i (hi : i < ds.length) (hi2 : i < fps.length), DfFp w ds[i] fps[i] (f (i * 4)) (f (i * 4 + 1)) (f (i * 4 + 2)) (f (i * 4 + 3))
theorem DefsFp.keep {w w' : World} {ds : List Df} {fp : List Nat} {v : Value} (h : DefsFp w ds fp v) (hw : ∀ k ∈ fp, w'.heap[k]? = w.heap[k]?) : DefsFp w' ds fp v := by
  obtain ⟨bl, f, fps, e, l1, hr, rfl, hl, hi⟩ := h
  refine ⟨bl, f, fps, e, l1, hr.of_block (hw bl (List.mem_cons_self ..)), rfl, hl, fun i h1 h2 => ?_⟩
  obtain ⟨a1, a2, a3⟩ := hi i h1 h2
  exact ⟨a1, a2, TrFp.keep _ _ _ _ _ (fun k hk => hw k (List.mem_cons_of_mem _ (List.mem_flatten.2 ⟨_, List.getElem_mem h2, hk⟩))) a3⟩
theorem DefsFp.lt {w : World} {ds : List Df} {fp : List Nat} {v : Value} (h : DefsFp w ds fp v) : ∀ k ∈ fp, k < w.heap.size := by
  obtain ⟨bl, f, fps, e, l1, hr, rfl, hl, hi⟩ := h
  intro k hk
  rcases List.mem_cons.1 hk with rfl | hk
  · exact hr.lt
  · obtain ⟨g, hg, hk⟩ := List.mem_flatten.1 hk
    obtain ⟨i, h2, rfl⟩ := List.getElem_of_mem hg
    exact TrFp.lt _ _ _ _ _ (hi i (by omega) h2).2.2 k hk
theorem DefsFp.on {w : World} {S : Nat → Prop} {ds : List Df} {fp : List Nat} {v : Value} (h : DefsFp w ds fp v) (hS : ∀ k ∈ fp, S k) : DefsOn w S ds v := by
  obtain ⟨bl, f, fps, rfl, l1, hr, rfl, hl, hi⟩ := h
  refine ⟨_, _, rfl, Nat.le_refl _, by unfold maxLen; omega, Or.inr ⟨bl, 0, rfl, hS bl (List.mem_cons_self ..), fun i h1 => ?_⟩⟩
  obtain ⟨a1, a2, a3⟩ := hi i h1 (by omega)
  refine ⟨f (i * 4), f (i * 4 + 1), f (i * 4 + 2), f (i * 4 + 3), ?_, ?_, ?_, ?_, a1, a2, TrFp.on _ _ _ _ _ (fun k hk => hS k (List.mem_cons_of_mem _ (List.mem_flatten.2 ⟨_, List.getElem_mem _, hk⟩))) a3⟩
  · simpa using hr.cell (i := i * 4) (by omega)
  · simpa [Nat.zero_add] using hr.cell (i := i * 4 + 1) (by omega)
  · simpa [Nat.zero_add] using hr.cell (i := i * 4 + 2) (by omega)
  · simpa [Nat.zero_add] using hr.cell (i := i * 4 + 3) (by omega)
theorem DefsFp.plain {w : World} {ds : List Df} {fp : List Nat} {v : Value} (h : DefsFp w ds fp v) : ∀ k ∈ fp, Pl w k := by
  obtain ⟨bl, f, fps, rfl, l1, hr, rfl, hl, hi⟩ := h
  intro k hk
  rcases List.mem_cons.1 hk with rfl | hk
  · obtain ⟨C, T', e⟩ := row_plain hr
    exact ⟨hr.lt, C, T', e⟩
  · obtain ⟨g, hg, hk⟩ := List.mem_flatten.1 hk
    obtain ⟨i, h2, rfl⟩ := List.getElem_of_mem hg
    exact TrFp.plain _ _ _ _ _ (hi i (by omega) h2).2.2 k hk

/-- trees of a call's own can be read -/
theorem fresh_inn {w : World} {lo : Nat} {ks : List Tr} {c : Value} (h : Fresh w lo ks c) : In w ks c := by
  obtain ⟨fp, h1, -, -⟩ := h
  exact h1.on h1.lt
theorem Fresh.down {w : World} {lo lo' : Nat} {ks : List Tr} {c : Value} (h : Fresh w lo ks c) (hl : lo' ≤ lo) : Fresh w lo' ks c := by
  obtain ⟨fp, h1, h2, h3⟩ := h
  exact ⟨fp, h1, h2, fun k hk => Nat.le_trans hl (h3 k hk)⟩
theorem Fresh.setC {w : World} {lo : Nat} {ks : List Tr} {c : Value} (h : Fresh w lo ks c) {a : Addr} (ha : a.block < lo) (u : Value) : Fresh (w.setCell a u) lo ks c := by
  obtain ⟨fp, h1, h2, h3⟩ := h
  exact ⟨fp, h1.keep fun k hk => Below.heap_setCell _ _ _ _ (by have := h3 k hk; omega), h2, h3⟩
/-! ### The copy -/
def NewDfF (a o n : Int) (ks : List Tr) (w : World) (e : Ending) (w' : World) : Prop := ∃ v, e = .returned (.agg #[.int .i64 a, .int .i64 o, .int .i64 n, v]) ∧ Fresh w' w.heap.size ks v ∧ Below w.heap.size w w'
def NewDefsF (ds : List Df) (w : World) (e : Ending) (w' : World) : Prop := ∃ v fp, e = .returned v ∧ DefsFp w' ds fp v ∧ fp.Nodup ∧ (∀ k ∈ fp, w.heap.size ≤ k) ∧ Below w.heap.size w w'

set_option maxHeartbeats 400000 in
theorem toDef_callsF (a o n : Int) (ks : List Tr) (c : Value) (w : World) (hk : In w ks c) (hsz : szL ks ≤ 1048576) : Calls Tryz.prog 35 #[.agg #[.int .i64 a, .int .i64 o, .int .i64 n, c]] w (NewDfF a o n ks w) := by
  have HK : Hid (In w ks c) := hk
  clear hk
  go_enter Tryz.func35, Tryz.ntmps35
  go_wp2_with fail
  refine (fto_calls ks _ _ c _ ?_ hsz).mono ?_
  · exact HK.out.next ((((Below.refl _ _).alloc (Nat.le_refl _) _).alloc (by simp) _).alloc (by simp; omega) _)
  rintro e w1 ⟨v, rfl, hv, hb⟩
  obtain ⟨hc, hf⟩ := bcell hb
  have hz : w.heap.size + 2 < w1.heap.size := by have := hb.size; simp at this; omega
  have hlo : w.heap.size + 3 ≤ w1.heap.size := by omega
  have HV : Hid (Fresh w1 (w.heap.size + 3) ks v) := by obtain ⟨fp, h1, h2, h3⟩ := hv; exact ⟨fp, h1, h2, fun k hk => by have := h3 k hk; simpa using this⟩
  have hv := HV.out
  have HB : Hid (Below w.heap.size w w1) := ((((Below.refl _ _).alloc (Nat.le_refl _) _).alloc (by simp) _).alloc (by simp; omega) _).trans (hb.mono (by simp; omega))
  obtain ⟨ad, cap, rfl, -, -, -⟩ := (fresh_inn hv)
  clear hb hv
  go_wp2_with fail
  refine bodyPost_ret (v := .agg #[.int .i64 a, .int .i64 o, .int .i64 n, .slice ad ks.length cap]) (by simp [results, Tryz.results35, go_sem, hc, hf, hz]) rfl ⟨_, rfl, ?_, ?_⟩
  · refine Fresh.down (lo := w.heap.size + 3) ?_ (by omega)
    repeat' (refine Fresh.setC ?_ (by simp <;> omega) _)
    exact HV.out
  · repeat' (refine Below.setCell ?_ (by simp <;> omega) _)
    exact HB.out

/-- what holds of the copy of a program behind k rounds -/
def ToDRelF (ds : List Df) (w : World) (k : Nat) (wr : World) : Prop :=
  ∃ (f : Nat → Value) (fps : List (List Nat)), wr.rowIs w.heap.size 66 (ds.length * 4) f ∧ fps.length = k ∧ fps.flatten.Nodup ∧ (∀ x ∈ fps.flatten, w.heap.size + 1 ≤ x ∧ x < wr.heap.size) ∧ (∀ j (_ : j < k) (hj : j < ds.length) (hj2 : j < fps.length), DfFp wr ds[j] fps[j] (f (j * 4)) (f (j * 4 + 1)) (f (j * 4 + 2)) (f (j * 4 + 3))) ∧ Below w.heap.size w wr

theorem toDRel_startF (ds : List Df) (w : World) (C : Array Value) (h : C.size = ds.length * 4) : ToDRelF ds w 0 (w.alloc (.cells C 66)) := by
  refine ⟨fun i => C.getD i undef, [], ⟨C, Deep.blk_alloc_new _ _, h, fun i hi => ?_⟩, rfl, by simp, by simp, fun j hj => absurd hj (by omega), (Below.refl _ _).alloc (Nat.le_refl _) _⟩
  simp [Array.getElem?_eq_getElem (h ▸ hi : i < C.size), Array.getD, (h ▸ hi : i < C.size)]

theorem toDRel_stepF (ds : List Df) (w wr w1 : World) (k : Nat) (hk : k < ds.length) (h : ToDRelF ds w k wr) (v : Value) (hb : Below wr.heap.size wr w1) (hv : Fresh w1 wr.heap.size (ds[k]).2.kids v) (ha : I64 (ds[k]).1) (ho : I64 (ds[k]).2.op) (hn : I64 (ds[k]).2.num) :
    ToDRelF ds w (k + 1) (stD w1 w.heap.size k ds[k] v) := by
  obtain ⟨f, fps, hr, hl, hnd, hlo, ht, hbw⟩ := h
  obtain ⟨fp, g1, g2, g3⟩ := hv
  have hlt := hr.lt
  have hsz := hb.size
  have hr1 : w1.rowIs w.heap.size 66 (ds.length * 4) f := hr.of_block (hb.block _ hlt)
  have hbl : ∀ x, x ≠ w.heap.size → (stD w1 w.heap.size k ds[k] v).heap[x]? = w1.heap[x]? := fun x hx => by
    unfold stD
    rw [Below.heap_setCell _ _ _ _ hx, Below.heap_setCell _ _ _ _ hx, Below.heap_setCell _ _ _ _ hx, Below.heap_setCell _ _ _ _ hx]
  have hss : (stD w1 w.heap.size k ds[k] v).heap.size = w1.heap.size := by unfold stD; rw [size_setCell, size_setCell, size_setCell, size_setCell]
  have hfl : (fps ++ [fp]).flatten = fps.flatten ++ fp := by simp
  refine ⟨_, fps ++ [fp], (((hr1.set (k * 4) _).set (k * 4 + 1) _).set (k * 4 + 2) _).set (k * 4 + 3) _, by simp [hl], ?_, ?_, fun j hj hjl hj2 => ?_, ?_⟩
  · rw [hfl, List.nodup_append]
    exact ⟨hnd, g2, fun a ha b hb e => by subst e; have := (hlo a ha).2; have := g3 a hb; omega⟩
  · intro x hx
    rw [hfl] at hx
    rw [hss]
    rcases List.mem_append.1 hx with hx | hx
    · have := hlo x hx; omega
    · have := g3 x hx; have := g1.lt x hx; omega
  · by_cases hjk : j = k
    · subst hjk
      have e : (fps ++ [fp])[j] = fp := by rw [List.getElem_append_right (by omega)]; simp [hl]
      rw [e]
      refine ⟨by simp, ha, ?_⟩
      simp only [if_neg (show ¬ (j * 4 + 1 = j * 4 + 3) by omega), if_neg (show ¬ (j * 4 + 1 = j * 4 + 2) by omega), if_neg (show ¬ (j * 4 + 2 = j * 4 + 3) by omega), if_true]
      exact trFp_iff.2 ⟨rfl, rfl, ho, hn, g1.keep fun x hx => hbl x (by have := g3 x hx; omega)⟩
    · have hjl2 : j < fps.length := by omega
      obtain ⟨h01, h02, h03⟩ := ht j (by omega) hjl hjl2
      have e : (fps ++ [fp])[j] = fps[j] := List.getElem_append_left hjl2
      rw [e]
      have keep := TrFp.keep _ _ _ _ _ (w' := stD w1 w.heap.size k ds[k] v) (fun x hx => by have := hlo x (List.mem_flatten.2 ⟨_, List.getElem_mem hjl2, hx⟩); exact (hbl x (by omega)).trans (hb.block x this.2)) h03
      have e1 : ∀ m, m < 4 → j * 4 + m ≠ k * 4 + 3 ∧ j * 4 + m ≠ k * 4 + 2 ∧ j * 4 + m ≠ k * 4 + 1 ∧ j * 4 + m ≠ k * 4 := fun m hm => by omega
      have a0 := e1 0 (by omega)
      have a1 := e1 1 (by omega)
      have a2 := e1 2 (by omega)
      have a3 := e1 3 (by omega)
      simp only [Nat.add_zero] at a0
      refine ⟨?_, h02, ?_⟩
      · simp only [if_neg a0.1, if_neg a0.2.1, if_neg a0.2.2.1, if_neg a0.2.2.2]; exact h01
      · simp only [if_neg a1.1, if_neg a1.2.1, if_neg a1.2.2.1, if_neg a1.2.2.2, if_neg a2.1, if_neg a2.2.1, if_neg a2.2.2.1, if_neg a2.2.2.2, if_neg a3.1, if_neg a3.2.1, if_neg a3.2.2.1, if_neg a3.2.2.2]
        exact keep
  · unfold stD
    exact ((((hbw.trans (hb.mono (Nat.le_of_lt hlt))).setCell (by simp) _).setCell (by simp) _).setCell (by simp) _).setCell (by simp) _

theorem toDRel_endF (ds : List Df) (w wr : World) (h : ToDRelF ds w ds.length wr) (hl : ds.length ≤ 1048576) : NewDefsF ds w (.returned (.slice (some ⟨w.heap.size, 0, none⟩) ds.length ds.length)) wr := by
  obtain ⟨f, fps, hr, h1, h2, h3, h4, h5⟩ := h
  refine ⟨_, w.heap.size :: fps.flatten, rfl, ⟨w.heap.size, f, fps, rfl, hl, hr, rfl, h1, fun i hi hi2 => h4 i hi hi hi2⟩, ?_, ?_, h5⟩
  · rw [List.nodup_cons]
    exact ⟨fun hm => by have := (h3 _ hm).1; omega, h2⟩
  · intro k hk
    rcases List.mem_cons.1 hk with rfl | hk
    · exact Nat.le_refl _
    · have := (h3 k hk).1; omega

set_option maxHeartbeats 400000 in
theorem toDefS_callsF (ds : List Df) (c : Value) (w : World) (hk : DIn w ds c) (hsz : szL (bodies ds) ≤ 1048576) : Calls Tryz.prog 10 #[c] w (NewDefsF ds w) := by
  have HK : Hid (DIn w ds c) := hk
  have HZ : Hid (szL (bodies ds) ≤ 1048576) := hsz
  have hlen : ds.length ≤ 1048576 := by rw [szL_sum, bodies_length] at hsz; omega
  clear hsz
  obtain ⟨ad, cap, rfl, -, -, -⟩ := hk
  obtain ⟨C, hC, hmk⟩ := make_defs ds.length hlen
  have HC : Hid (C.size = ds.length * 4) := hC
  clear hC
  go_enter Tryz.func10, Tryz.ntmps10
  go_wp2_with fail
  go_loopw [4] (fun i wr => ∃ k : Nat, k ≤ ds.length ∧ i = .int .i64 k ∧ ToDRelF ds w k wr) (fun i _ => ds.length - (intOf i).toNat)
  case atStart => exact ⟨0, Nat.zero_le _, rfl, toDRel_startF ds w C HC.out⟩
  case round =>
    obtain ⟨k, hk, rfl, hto⟩ := hrel
    have HT : Hid (ToDRelF ds w k wr) := hto
    obtain ⟨f, fps0, hr0, -, -, -, -, hb⟩ := hto
    have hlt0 := hr0.lt
    by_cases hlt : k < ds.length
    · obtain ⟨bl, off, r, rfl, c0, c1, c2, c3, ia, io, iN, hkk⟩ := (HK.out.next hb).at k hlt
      have HKK : Hid (In wr ds[k].2.kids r) := hkk
      have hkz : szL ds[k].2.kids ≤ 1048576 := by have := szL_body_le ds k hlt; have := HZ.out; omega
      have HR : Hid (wr.rowIs w.heap.size 66 (ds.length * 4) f) := hr0
      clear hkk hr0 hb
      go_wp2_with fail
      refine (toDef_callsF _ _ _ ds[k].2.kids r _ HKK.out hkz).mono ?_
      rintro e w1 ⟨v, rfl, hv, hb1⟩
      have hr1 : w1.rowIs w.heap.size 66 (ds.length * 4) f := HR.out.of_block (hb1.block _ hlt0)
      have HS : Hid (ToDRelF ds w (k + 1) (stD w1 w.heap.size k ds[k] v)) := toDRel_stepF ds w wr w1 k hlt HT.out v hb1 hv ia io iN
      obtain ⟨ad2, cap2, rfl, _, _, _⟩ := (fresh_inn hv)
      have g0 := hr1.cell (i := k * 4) (by omega)
      have g1 := hr1.cell (i := k * 4 + 1) (by omega)
      have g2 := hr1.cell (i := k * 4 + 2) (by omega)
      have g3 := hr1.cell (i := k * 4 + 3) (by omega)
      have f0 := hr1.frozen (k * 4)
      have f1 := hr1.frozen (k * 4 + 1)
      have f2 := hr1.frozen (k * 4 + 2)
      have f3 := hr1.frozen (k * 4 + 3)
      clear hr1 hb1 hv
      go_wp2_with fail
      go_roundw
      case rel => exact ⟨k + 1, by omega, by go_num, HS.out⟩
      case measure => simp [intOf]; omega
    · have hke : ds.length = k := by omega
      have HV : Hid (NewDefsF ds w (.returned (.slice (some ⟨w.heap.size, 0, none⟩) ds.length ds.length)) wr) := by subst hke; exact toDRel_endF ds w wr HT.out hlen
      clear hke hr0 hb
      go_wp2_with fail
      go_ret
      exact HV.out
end Go.Proofs.YtidijbnoaeopdaaGreatDoor
/-
  THE WALK OF FnExactPeakCells.
-/
namespace Go.Proofs.YtidijbnoaeopdaaGreatDoor.lawExactPeakCells
open Go.ChangeShapes Go.WideShapes Go.ChangeAt Go.RowKit
set_option linter.unusedVariables false
set_option linter.unusedSimpArgs false

theorem carry {w w' : World} (hb : Below w.heap.size w w') {a : Addr} {v : Value} (h : w.cell? a = some v) : w'.cell? a = some v := (hb.cell (cell_lt h)).trans h

set_option maxRecDepth 100000 in
set_option maxHeartbeats 1600000 in
theorem walk (ds : List Df) (p : Value) (t : Tr) (c : Value) (i0 : Int) (b0 : Bool) (w : World) (hp : DIn w ds p) (hk : In w t.kids c) (ht : I64 t.op ∧ I64 t.num) (hi0 : I64 i0) (aF aS aL : Addr) (hE : Errs aF aS aL w) :
    Calls Tryz.prog 6 #[p, .agg #[.int .i64 t.op, .int .i64 t.num, c], .int .i64 i0, .bool b0] w fun e w' => e = .returned (.bool true) ∧ Below w.heap.size w w' := by
  have HK : Hid (In w t.kids c) := hk
  have HP : Hid (DIn w ds p) := hp
  have HT : Hid (I64 t.op ∧ I64 t.num) := ht
  obtain ⟨ad, cap, rfl, -, -, -⟩ := hk
  have hrg := szOut_range (bodies ds) 1048576 (by omega)
  have HE := mkHid hE
  obtain ⟨r1, hr1⟩ : ∃ r1 : Int, r1 = (pRun ds t i0 b0).1 := ⟨_, rfl⟩
  obtain ⟨r2, hr2⟩ : ∃ r2 : Int, r2 = ((pRun ds t i0 b0).2 : Int) := ⟨_, rfl⟩
  have HSS : Hid (∀ (u z : Value) (W : World), DIn W ds u → In W t.kids z → Calls Tryz.prog 26 #[u, .agg #[.int .i64 t.op, .int .i64 t.num, z], .int .i64 i0, .bool b0] W fun en w' => en = .returned (.tuple #[.int .i64 r1, .int .i64 r2]) ∧ Below W.heap.size W w') := fun u z W h1 h2 => by
    rw [hr1, hr2]; exact specPeak_calls ds t u z i0 b0 W h1 h2 ht
  have HSI : Hid (∀ (u z : Value) (W : World), Below w.heap.size w W → DInP W ds u → In W t.kids z → Calls Tryz.prog 27 #[u, .agg #[.int .i64 t.op, .int .i64 t.num, z], .int .i64 i0, .bool b0] W fun en w' => en = .returned (.tuple #[.int .i64 r1, .int .i64 r2]) ∧ Below W.heap.size W w') := fun u z W hbW h1 h2 => by
    rw [hr1, hr2]; exact implPeak_calls aF aS aL ds t u z i0 b0 W (HE.out.next hbW) h1 h2 ht
  clear hp ht hE hr1 hr2 hi0
  go_enter Tryz.func6, Tryz.ntmps6
  go_wp2_with fail
  refine (szDefS_calls ds _ _ _ (HP.out.next (box_below _ _)) (by omega) (by omega)).mono ?_
  rintro e w1 ⟨rfl, hb1⟩
  obtain ⟨a0, a1, a2, hz1, HB1⟩ := box_after hb1
  have HB1 : Hid (Below w.heap.size w w1) := HB1
  clear hb1
  by_cases hneg : szOut (bodies ds) 1048576 < 0
  · go_wp2_with fail
    go_ret
    exact ⟨rfl, HB1.out⟩
  have HZ : Hid (szL (bodies ds) ≤ 1048576) := by unfold szOut at hneg; unfold Hid; split at hneg <;> omega
  generalize szOut (bodies ds) 1048576 = left at *
  go_wp2_with fail
  refine (sz_calls t.kids _ _ _ _ _ (HK.out.next HB1.out) (by omega) (by omega)).mono ?_
  rintro e w2 ⟨rfl, hb2⟩
  have HB2 : Hid (Below w.heap.size w w2) := HB1.out.trans (hb2.mono HB1.out.size)
  replace a0 := carry hb2 a0
  replace a1 := carry hb2 a1
  replace a2 := carry hb2 a2
  clear hb2
  by_cases hneg2 : szOut t.kids left < 0
  · clear a0 a1 a2
    go_wp2_with fail
    go_ret
    exact ⟨rfl, HB2.out⟩
  have HZ2 : Hid (szL t.kids ≤ 1048576) := by unfold szOut at hneg2; unfold Hid; split at hneg2 <;> omega
  clear hrg
  generalize szOut t.kids left = left2 at *
  go_wp2_with fail
  have HP2 : Hid (DIn w2 ds p) := HP.out.next HB2.out
  have HK2 : Hid (In w2 t.kids (.slice ad t.kids.length cap)) := HK.out.next HB2.out
  go_region_with (first
    | (go_at_call 10; go_must (refine (toDefS_calls ds _ _ ?_ HZ.out).mono ?_); go_must (exact HP2.out.drew); go_must (rintro e w3 ⟨v3, rfl, hv3, hb3⟩); go_must (have HV3 : Hid (DIn w3 ds v3) := hv3.btw_in); go_must (have HB3 : Hid (Below w2.heap.size w2 w3) := (Below.refl _ _).drew.trans hb3); go_must (have b0 := carry HB3.out a0); go_must (have b1 := carry HB3.out a1); go_must (have b2 := carry HB3.out a2); clear hb3 hv3)
    | (go_at_call 20; go_must (refine (fto_calls t.kids _ _ _ _ ?_ HZ2.out).mono ?_); go_must (exact HK2.out.next HB3.out); go_must (rintro e w4 ⟨v4, rfl, hv4, hb4⟩); go_must (have HV4 : Hid (In w4 t.kids v4) := hv4.inP.inP); go_must (have HV3' : Hid (DIn w4 ds v3) := HV3.out.next hb4); go_must (have HB4 : Hid (Below w2.heap.size w2 w4) := HB3.out.trans (hb4.mono HB3.out.size)); go_must (have c0 := carry hb4 b0); go_must (have c1 := carry hb4 b1); go_must (have c2 := carry hb4 b2); clear hb4 hv4)
    | (go_at_call 26; go_must (refine (HSS.out _ _ _ HV3'.out HV4.out).mono ?_); go_must (rintro e w5 ⟨rfl, hb5⟩); go_must (have HB5' : Hid (Below w2.heap.size w2 w5) := HB4.out.trans (hb5.mono HB4.out.size)); go_must (have d0 := carry hb5 c0); go_must (have d1 := carry hb5 c1); go_must (have d2 := carry hb5 c2); clear hb5))
  all_goals
    have HB5 : Hid (Below w.heap.size w w5) := HB2.out.trans (HB5'.out.mono HB2.out.size)
    clear a0 a1 a2 b0 b1 b2 c0 c1 c2
    go_wp2_with fail
    refine (toDefS_callsF ds _ _ (HP.out.next HB5.out) HZ.out).mono ?_
    rintro e w6 ⟨v6, f6, rfl, hv6, -, -, hb6⟩
    have HV6 : Hid (DInP w6 ds v6) := hv6.on hv6.plain
    have HB6 : Hid (Below w.heap.size w w6) := HB5.out.trans (hb6.mono HB5.out.size)
    replace d0 := carry hb6 d0
    replace d1 := carry hb6 d1
    replace d2 := carry hb6 d2
    clear hb6 hv6
    go_wp2_with fail
    refine (fto_calls t.kids _ _ _ _ (HK.out.next HB6.out) HZ2.out).mono ?_
    rintro e w7 ⟨v7, rfl, hv7, hb7⟩
    have HV7 : Hid (InP w7 t.kids v7) := hv7.inP
    have HV7' := HV7.out
    have HV6' : Hid (DInP w7 ds v6) := DefsOn.nextP HV6.out hb7
    have HB7 : Hid (Below w.heap.size w w7) := HB6.out.trans (hb7.mono HB6.out.size)
    replace d0 := carry hb7 d0
    replace d1 := carry hb7 d1
    replace d2 := carry hb7 d2
    obtain ⟨ad7, cap7, rfl, -, -, -⟩ := HV7'
    clear hb7 hv7
    go_wp2_with fail
    refine (HSI.out _ _ _ (HB7.out.trans ((box_below _ _).mono HB7.out.size)) (DefsOn.nextP HV6'.out (box_below _ _)) (HV7.out.inP.next (box_below _ _))).mono ?_
    rintro e w8 ⟨rfl, hb8⟩
    obtain ⟨x0, x1, x2, hz8, HB8'⟩ := box_after hb8
    have HV8 : Hid (In w8 t.kids (.slice ad7 t.kids.length cap7)) := HV7.out.inP.next HB8'
    have HV6'' : Hid (DIn w8 ds v6) := HV6'.out.inP.next HB8'
    have HB8 : Hid (Below w.heap.size w w8) := HB7.out.trans (HB8'.mono HB7.out.size)
    replace d0 := carry HB8' d0
    replace d1 := carry HB8' d1
    replace d2 := carry HB8' d2
    clear hb8 HB8'
    have tb1 : (r1 != r1) = false := by simp
    have tb2 : (r2 != r2) = false := by simp
    go_wp2_with fail
    refine (toDefS_calls ds _ _ (HP.out.next HB8.out) HZ.out).mono ?_
    rintro e w9 ⟨v9, rfl, hv9, hb9⟩
    have HV9 : Hid (DIn w9 ds v9) := hv9.btw_in
    have HV6a : Hid (DIn w9 ds v6) := HV6''.out.next hb9
    have HV8a : Hid (In w9 t.kids (.slice ad7 t.kids.length cap7)) := HV8.out.next hb9
    have HB9 : Hid (Below w.heap.size w w9) := HB8.out.trans (hb9.mono HB8.out.size)
    replace d0 := carry hb9 d0
    replace d1 := carry hb9 d1
    replace d2 := carry hb9 d2
    replace x0 := carry hb9 x0
    replace x1 := carry hb9 x1
    replace x2 := carry hb9 x2
    clear hb9 hv9
    go_wp2_with fail
    refine (eqDefS_calls ds v6 v9 _ HV6a.out HV9.out).mono ?_
    rintro e w10 ⟨rfl, hb10⟩
    have HV8b : Hid (In w10 t.kids (.slice ad7 t.kids.length cap7)) := HV8a.out.next hb10
    have HB10 : Hid (Below w.heap.size w w10) := HB9.out.trans (hb10.mono HB9.out.size)
    replace d0 := carry hb10 d0
    replace d1 := carry hb10 d1
    replace d2 := carry hb10 d2
    replace x0 := carry hb10 x0
    replace x1 := carry hb10 x1
    replace x2 := carry hb10 x2
    clear hb10
    go_wp2_with fail
    have HK10 : Hid (In w10 t.kids (.slice ad t.kids.length cap)) := HK.out.next HB10.out
    go_region_with (first
      | (go_at_call 20; go_must (refine (to_calls t.kids _ _ _ _ ?_ HZ2.out).mono ?_); go_must (exact HK10.out.drew); go_must (rintro e w11 ⟨v11, rfl, hv11, hb11⟩); go_must (have HV11 : Hid (In w11 t.kids v11) := hv11.btw_in); go_must (have HB11 : Hid (Below w10.heap.size w10 w11) := (Below.refl _ _).drew.trans hb11); go_must (have y0 := carry HB11.out x0); go_must (have y1 := carry HB11.out x1); go_must (have y2 := carry HB11.out x2); clear hv11 hb11)
      | (go_at_call 22; go_must (refine (eq_calls t.kids _ _ _ _ _ ?_ ?_).mono ?_); go_must (exact HV8b.out.next HB11.out); go_must (exact HV11.out); go_must (rintro e w12 ⟨rfl, hb12⟩)))
    all_goals
      have HB12 : Hid (Below w.heap.size w w12) := HB10.out.trans ((HB11.out.trans (hb12.mono HB11.out.size)).mono HB10.out.size)
      clear hb12
      go_wp2_with fail
      go_ret
      exact ⟨rfl, HB12.out⟩
end Go.Proofs.YtidijbnoaeopdaaGreatDoor.lawExactPeakCells
