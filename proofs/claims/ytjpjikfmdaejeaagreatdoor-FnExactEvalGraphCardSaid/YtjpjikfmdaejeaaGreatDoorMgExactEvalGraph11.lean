/-
  THE MODEL's l4Step AND l4Eval.
-/
import Derived.Test.YtjpjikfmdaejeaaGreatDoorMgExactEvalGraph10
import Derived.Deep.LoopGhost
import Derived.Test.YtjpjikfmdaejeaaGreatDoorMgExactEvalGraph8
import Derived.Test.YtjpjikfmdaejeaaGreatDoorMgExactEvalGraph7
import Derived.Test.YtjpjikfmdaejeaaGreatDoorMgExactEvalGraph4
import Derived.Test.YtjpjikfmdaejeaaGreatDoorMgExactEvalGraph9
import Derived.WalkSpells
import Derived.Deep.RegionHeld3
import Derived.Test.YtjpjikfmdaejeaaGreatDoorMgExactEvalGraph5
import Derived.Test.YtjpjikfmdaejeaaGreatDoorMgExactEvalGraph3
namespace Go.Proofs.YtjpjikfmdaejeaaGreatDoor
set_option linter.unusedVariables false
set_option linter.unusedSimpArgs false
open Go.RowKit

theorem changeG_code {ds : List Df} {g : List Ce} {at' : Nat} : (changeG ds g at').2 ≤ 3 := by
  unfold changeG callG; split <;> (try split) <;> simp
theorem stepG_code {ds : List Df} {g : List Ce} {a : Nat} : (stepG ds g a).2 ≤ 3 := by
  unfold stepG; cases redex (arsOf ds) g a with
  | none => simp
  | some at' => exact changeG_code
set_option maxRecDepth 100000 in
set_option maxHeartbeats 1600000 in
theorem l4Step_calls (ds : List Df) (g : List Ce) (a : Nat) (c v : Value) (w : World) (hd : DIn w ds c) (hk : CIn w g v) (hg : graphB g ds.length = true) (hp : progB ds = true) (ha : a < g.length) (hv : valB (arsOf ds) g a = false) :
    Calls Tryz.prog 23 #[c, v, .int .i64 (a : Int)] w (StG (stepG ds g a) w) := by
  have HD : Hid (DIn w ds c) := hd
  have HK : Hid (CIn w g v) := hk
  have HG := mkHid hg
  have HP := mkHid hp
  have HV0 := mkHid hv
  clear hg hp hv hd hk
  have HRX := mkHid (l4R_all ds g HG.out HP.out (g.length + 1) 0 a c v w HD.out HK.out ha (by omega) HV0.out)
  go_enter Tryz.func23, Tryz.ntmps23
  go_wp2_with fail
  refine HRX.out.mono ?_
  rintro e w1 ⟨rfl, hb1⟩
  have HB1 : Hid (Below w.heap.size w w1) := hb1
  clear hb1
  cases hr : redexN (arsOf ds) g (g.length + 1) a with
  | none =>
    have HV : Hid (stepG ds g a = (g, 2)) := by unfold Hid stepG redex; rw [hr]
    have e1 : rdI none = 0 := rfl
    have e2 : ((rdC none : Nat) : Int) = 2 := rfl
    rw [e1, e2]
    obtain ⟨ad, cap, rfl, -, -, -⟩ := id HK.out
    clear hr
    go_wp2_with fail
    go_ret2
    rw [HV.out]
    exact ⟨_, rfl, HK.out.next HB1.out, HB1.out⟩
  | some at' =>
    have HV : Hid (stepG ds g a = changeG ds g at') := by unfold Hid stepG redex; rw [hr]
    have HRD := mkHid (redex_ready HG.out HP.out ha HV0.out hr)
    have e1 : rdI (some at') = (at' : Int) := rfl
    have e2 : ((rdC (some at') : Nat) : Int) = 0 := rfl
    rw [e1, e2]
    clear hr
    go_wp2_with fail
    refine (l4Change_calls ds g at' _ _ w1 (HD.out.next HB1.out) (HK.out.next HB1.out) HG.out HP.out HRD.out).mono ?_
    rintro e w2 ⟨v2, rfl, hi2, hb2⟩
    have HB2 : Hid (Below w.heap.size w w2) := HB1.out.trans (hb2.mono HB1.out.size)
    have HI2 := mkHid hi2
    obtain ⟨ad2, cap2, rfl, -, -, -⟩ := hi2
    clear hb2
    go_wp2_with fail
    go_ret2
    rw [HV.out]
    exact ⟨_, rfl, HI2.out, HB2.out⟩

/-- a graph, a code and a number of steps -/
def EvG (r : List Ce × Nat × Nat) (w : World) (e : Ending) (w' : World) : Prop := ∃ v, e = .returned (.tuple #[v, .int .i64 (r.2.1 : Int), .int .i64 (r.2.2 : Int)]) ∧ CIn w' r.1 v ∧ Below w.heap.size w w'
/-- what holds behind n steps: the rest of the evaluation -/
def EvRel (ds : List Df) (a : Nat) (fuel : Nat) (g0 : List Ce) (n : Nat) (g : List Ce) : Prop := n ≤ fuel ∧ graphB g ds.length = true ∧ a < g.length ∧ evalG ds a fuel g0 = ((evalG ds a (fuel - n) g).1, (evalG ds a (fuel - n) g).2.1, (evalG ds a (fuel - n) g).2.2 + n)
theorem EvRel.start {ds : List Df} {a fuel : Nat} {g : List Ce} (hg : graphB g ds.length = true) (ha : a < g.length) : EvRel ds a fuel g 0 g := ⟨Nat.zero_le _, hg, ha, by simp⟩
theorem evalG_val {ds : List Df} {a n : Nat} {g : List Ce} (h : valB (arsOf ds) g a = true) : evalG ds a n g = (g, 0, 0) := by
  cases n <;> (unfold evalG; rw [if_pos h])
theorem evalG_fuel {ds : List Df} {a : Nat} {g : List Ce} (h : valB (arsOf ds) g a = false) : evalG ds a 0 g = (g, 1, 0) := by
  unfold evalG; rw [if_neg (by rw [h]; simp)]
theorem evalG_stop {ds : List Df} {a n : Nat} {g : List Ce} (h : valB (arsOf ds) g a = false) (hc : (stepG ds g a).2 ≠ 0) : evalG ds a (n + 1) g = (g, (stepG ds g a).2, 0) := by
  unfold evalG; rw [if_neg (by rw [h]; simp), if_neg hc]
theorem evalG_step {ds : List Df} {a n : Nat} {g : List Ce} (h : valB (arsOf ds) g a = false) (hc : (stepG ds g a).2 = 0) : evalG ds a (n + 1) g = ((evalG ds a n (stepG ds g a).1).1, (evalG ds a n (stepG ds g a).1).2.1, (evalG ds a n (stepG ds g a).1).2.2 + 1) := by
  conv => lhs; unfold evalG
  rw [if_neg (by rw [h]; simp), if_pos hc]
theorem EvRel.val {ds : List Df} {a fuel n : Nat} {g0 g : List Ce} (h : EvRel ds a fuel g0 n g) (hv : valB (arsOf ds) g a = true) : evalG ds a fuel g0 = (g, 0, n) := by
  rw [h.2.2.2, evalG_val hv]; simp
theorem EvRel.fuel {ds : List Df} {a fuel : Nat} {g0 g : List Ce} (h : EvRel ds a fuel g0 fuel g) (hv : valB (arsOf ds) g a = false) : evalG ds a fuel g0 = (g, 1, fuel) := by
  rw [h.2.2.2, Nat.sub_self, evalG_fuel hv]; simp
theorem EvRel.stop {ds : List Df} {a fuel n : Nat} {g0 g : List Ce} (h : EvRel ds a fuel g0 n g) (hn : n < fuel) (hv : valB (arsOf ds) g a = false) (hc : (stepG ds g a).2 ≠ 0) : evalG ds a fuel g0 = (g, (stepG ds g a).2, n) := by
  rw [h.2.2.2, show fuel - n = (fuel - n - 1) + 1 by omega, evalG_stop hv hc]; simp
theorem EvRel.next {ds : List Df} {a fuel n : Nat} {g0 g : List Ce} (h : EvRel ds a fuel g0 n g) (hp : progB ds = true) (hn : n < fuel) (hv : valB (arsOf ds) g a = false) (hc : (stepG ds g a).2 = 0) : EvRel ds a fuel g0 (n + 1) (stepG ds g a).1 := by
  have hs := stepG_valid h.2.1 hp h.2.2.1 hv
  have ha := h.2.2.1
  refine ⟨hn, hs.1, by omega, ?_⟩
  rw [h.2.2.2, show fuel - n = (fuel - (n + 1)) + 1 by omega, evalG_step hv hc]
  simp only [Prod.mk.injEq, true_and]
  omega

set_option maxRecDepth 100000 in
set_option maxHeartbeats 3200000 in
theorem l4Eval_calls (ds : List Df) (g : List Ce) (a fuel : Nat) (c v : Value) (w : World) (hd : DIn w ds c) (hk : CIn w g v) (hg : graphB g ds.length = true) (hp : progB ds = true) (ha : a < g.length) (hf : fuel ≤ 300) :
    Calls Tryz.prog 36 #[c, v, .int .i64 (a : Int), .int .i64 (fuel : Int)] w (EvG (evalG ds a fuel g) w) := by
  have HD : Hid (DIn w ds c) := hd
  have HK : Hid (CIn w g v) := hk
  have HP := mkHid hp
  have HST := mkHid (EvRel.start (fuel := fuel) hg ha)
  clear hg hp hd hk
  go_enter Tryz.func36, Tryz.ntmps36
  go_wp2_with fail
  go_loopw [1, 11] (fun gv nv wr => ∃ (n : Nat) (G : List Ce), nv = .int .i64 (n : Int) ∧ EvRel ds a fuel g n G ∧ CIn wr G gv ∧ Below w.heap.size w wr) (fun _ nv _ => fuel + 1 - (intOf nv).toNat)
  case atStart => exact ⟨0, g, rfl, HST.out, HK.out, Below.refl _ _⟩
  case round =>
    obtain ⟨n, G, rfl, hrel, hgv, hb⟩ := hrel
    have HR := mkHid hrel
    have HI := mkHid hgv
    have HB := mkHid hb
    have hnf := hrel.1
    obtain ⟨ad, cap, rfl, -, -, -⟩ := hgv
    clear hrel hb
    go_wp2_with fail
    refine (l4Value_calls ds G a _ _ wr (HD.out.next HB.out) HI.out HR.out.2.1 HR.out.2.2.1).mono ?_
    rintro e w1 ⟨rfl, hb1⟩
    have HB1 : Hid (Below w.heap.size w w1) := HB.out.trans (hb1.mono HB.out.size)
    have HI1 := mkHid (HI.out.next hb1)
    clear hb1
    cases hv : valB (arsOf ds) G a with
    | true =>
      have HV := mkHid (HR.out.val hv)
      clear hv
      go_wp2_with fail
      go_ret3
      rw [HV.out]
      exact ⟨_, rfl, HI1.out, HB1.out⟩
    | false =>
      have HVF := mkHid hv
      clear hv
      by_cases hnn : n = fuel
      · subst hnn
        have HV := mkHid (HR.out.fuel HVF.out)
        go_wp2_with fail
        go_ret3
        rw [HV.out]
        exact ⟨_, rfl, HI1.out, HB1.out⟩
      have hnlt : n < fuel := by omega
      have tn : ((n : Int) == (fuel : Int)) = false := by rw [beq_eq_false_iff_ne]; omega
      clear hnn
      go_wp2_with fail
      refine (l4Step_calls ds G a _ _ w1 (HD.out.next HB1.out) HI1.out HR.out.2.1 HP.out HR.out.2.2.1 HVF.out).mono ?_
      rintro e w2 ⟨v2, rfl, hi2, hb2⟩
      have HB2 : Hid (Below w.heap.size w w2) := HB1.out.trans (hb2.mono HB1.out.size)
      have HI2 := mkHid hi2
      have HI12 := mkHid (HI1.out.next hb2)
      obtain ⟨ad2, cap2, rfl, -, -, -⟩ := hi2
      clear hb2
      by_cases hc : (stepG ds G a).2 = 0
      · have HN := mkHid (HR.out.next HP.out hnlt HVF.out hc)
        rw [hc]
        have e0 : ((0 : Nat) : Int) = 0 := rfl
        rw [e0]
        clear hc
        go_wp2_with fail
        go_roundw
        case rel => exact ⟨n + 1, _, by go_num, HN.out, HI2.out, HB2.out⟩
        case measure => simp [intOf]; omega
      · have HV := mkHid (HR.out.stop hnlt HVF.out hc)
        have tc : (((stepG ds G a).2 : Int) != 0) = true := by simp; omega
        clear hc
        go_wp2_with fail
        go_ret3
        rw [HV.out]
        exact ⟨_, rfl, HI12.out, HB2.out⟩
end Go.Proofs.YtjpjikfmdaejeaaGreatDoor
/-
  THE PROGRAM's reduce, OF WHAT call DOES (CallSaid: proved elsewhere).
-/
namespace Go.Proofs.YtjpjikfmdaejeaaGreatDoor
set_option linter.unusedVariables false
set_option linter.unusedSimpArgs false
open Go.RowKit

theorem box4_set {w : World} {B : Nat} {a b c d : Value} {T : TypeId} (h : w.heap[B]? = some (.cells #[a, b, c, d] T)) (v : Value) : (w.setCell ⟨B, 3, none⟩ v).heap[B]? = some (.cells #[a, b, c, v] T) := by
  simp [World.setCell, Array.getElem?_modify, h]
/-- one step more -/
theorem RedW.tick {R A lo : Nat} {c : Value} {fu st st' : Int} {g : List Ce} {w : World} (h : RedW R A lo c fu st g w) : RedW R A lo c fu st' g (w.setCell ⟨R, 3, none⟩ (.int .i64 st')) := by
  obtain ⟨ad, cap, h1, h2⟩ := h.are
  have hRA : A ≠ R := by rintro rfl; have := h.red; rw [h1] at this; simp at this
  have hst : ∀ k, k ≠ R → (w.setCell ⟨R, 3, none⟩ (.int .i64 st')).heap[k]? = w.heap[k]? := fun k hk => Below.heap_setCell _ _ _ _ hk
  obtain ⟨hi0, xs, kb, g1, g2, g3⟩ := h2
  refine ⟨box4_set h.red _, ⟨ad, cap, (hst A hRA).trans h1, hi0, xs, kb, ⟨g1.1, ?_⟩, fun j hj => ?_, g3⟩, h.loR, h.loA⟩
  · rcases g1.2 with hz | ⟨b, cap', cur, e, hg, hh, r⟩
    · exact Or.inl hz
    · exact Or.inr ⟨b, cap', cur, e, hg, (hst b (by rintro rfl; rw [h.red] at hh; simp at hh)).trans hh, r⟩
  · obtain ⟨kv, e0, e1, e2, e3⟩ := g2 j hj
    exact ⟨kv, e0, e1, e2, e3.keep (fun _ hz _ => hz) fun C _ _ h5 => hst _ (by intro hk; rw [hk, h.red] at h5; simp at h5)⟩
theorem stepG_stay {ds : List Df} {g : List Ce} {a : Nat} (h : (stepG ds g a).2 ≠ 0) : (stepG ds g a).1 = g := by
  unfold stepG at h ⊢
  split
  · rfl
  · rename_i at' hx
    rw [hx] at h
    simp only at h ⊢
    unfold changeG at h ⊢
    split
    · rename_i h34
      rw [if_pos h34] at h
      unfold callG at h ⊢
      split
      · rename_i h4
        rw [if_pos h4] at h
        simp at h
      · rfl
    · rename_i h34
      rw [if_neg h34] at h
      simp at h
theorem errV_iface (aF aS aL : Addr) {k : Nat} (h : k ≠ 0) : ∃ X, errV aF aS aL k = .iface 157 (.pointer (some X)) := by
  unfold errV
  rw [if_neg h]
  split
  · exact ⟨_, rfl⟩
  · split <;> exact ⟨_, rfl⟩

/-- an evaluation is over: the error, the graph and the steps -/
def RedD (aF aS aL : Addr) (R A lo : Nat) (c : Value) (fu : Int) (r : List Ce × Nat × Nat) (w : World) (e : Ending) (w' : World) : Prop := e = .returned (errV aF aS aL r.2.1) ∧ RedW R A lo c fu (r.2.2 : Int) r.1 w' ∧ Below lo w w'

set_option maxRecDepth 100000 in
set_option maxHeartbeats 3200000 in
theorem reduce_calls (hcall : CallSaid) (aF aS aL : Addr) (ds : List Df) (g : List Ce) (R A a fuel : Nat) (c : Value) (w0 w : World) (hE : Errs aF aS aL w0) (h0 : Below w0.heap.size w0 w) (h : RedW R A w0.heap.size c (fuel : Int) 0 g w) (hd : DInP w0 ds c) (hg : graphB g ds.length = true) (hp : progB ds = true) (ha : a < g.length) (hf : fuel ≤ 300) :
    Calls Tryz.prog 38 #[.pointer (some ⟨R, 0, none⟩), .int .i64 (a : Int)] w (RedD aF aS aL R A w0.heap.size c (fuel : Int) (evalG ds a fuel g) w) := by
  have HST := mkHid (EvRel.start (fuel := fuel) hg ha)
  have HW := mkHid h
  have H0 := mkHid h0
  have HIV : Hid (∀ (W : World) (G : List Ce) (v : Value), Below w0.heap.size w0 W → CIn W G v → graphB G ds.length = true → a < G.length → Calls Tryz.prog 28 #[c, v, .int .i64 (a : Int)] W fun e w' => e = .returned (.bool (valB (arsOf ds) G a)) ∧ Below W.heap.size W w') := fun W G v hb hk h1 h2 => isValueCell_calls ds G a c v W (hd.inP.next hb) hk h1 h2
  have HSP : Hid (∀ (W : World) (G : List Ce) (k : Int), Below w0.heap.size w0 W → RedW R A w0.heap.size c (fuel : Int) k G W → graphB G ds.length = true → a < G.length → valB (arsOf ds) G a = false → Calls Tryz.prog 29 #[.pointer (some ⟨R, 0, none⟩), .int .i64 (a : Int)] W (StepD aF aS aL R A w0.heap.size c (fuel : Int) k (stepG ds G a) W)) := fun W G k hb h1 h2 h3 h4 =>
    step_calls hcall aF aS aL ds G R A w0.heap.size a c (fuel : Int) k W (hE.next hb) h1 hb.size (hd.mono (fun k hk => ⟨hk.1, hk.next hb⟩) (fun k hk => hb.block k hk.1)) h2 hp h3 h4
  have HP := mkHid hp
  have HE := mkHid hE
  clear h h0 hd hg hp ha hE hcall
  go_enter Tryz.func38, Tryz.ntmps38
  go_wp2_with fail
  go_loopg [] (fuel + 1) (fun k wr => ∃ (n : Nat) (G : List Ce), k = fuel + 1 - n ∧ EvRel ds a fuel g n G ∧ RedW R A w0.heap.size c (fuel : Int) (n : Int) G wr ∧ Below w0.heap.size w0 wr ∧ Below w0.heap.size w wr)
  case atStart => exact ⟨0, g, rfl, HST.out, HW.out, H0.out, Below.refl _ _⟩
  case round =>
    obtain ⟨n, G, rfl, hrel, hrw, hb0, hb⟩ := hrel
    have HR := mkHid hrel
    have HRW := mkHid hrw
    have HB0 := mkHid hb0
    have HB := mkHid hb
    have hnf := hrel.1
    obtain ⟨ad, cap, hA, hC⟩ := hrw.inn
    have HCI := mkHid hC
    have HRR := mkHid hrw.red
    have HAA := mkHid hA
    have r0 := cell_of_blk hrw.red 0 _ rfl
    have r1 := cell_of_blk hrw.red 1 _ rfl
    have a0 := cell_of_blk hA 0 _ rfl
    clear hrel hrw hb0 hb hA hC
    go_wp2_with fail
    go_region_held3 (fun w' => w'.cell? ⟨R, 0, none⟩ = some (.pointer (some ⟨A, 0, none⟩)) ∧ w'.cell? ⟨R, 1, none⟩ = some c ∧ w'.cell? ⟨A, 0, none⟩ = some (.slice ad G.length cap))
      (first
        | go_keep
        | exact ⟨m0, m1, m2⟩
        | exact ⟨r0, r1, a0⟩)
      (first
        | (go_at_call 28; refine (HIV.out wr.drew G _ HB0.out.drew (HCI.out.next ((Below.refl _ _).drew)) HR.out.2.1 HR.out.2.2.1).mono ?_; rintro e w1 ⟨rfl, hb1⟩; have HB1 : Hid (Below wr.heap.size wr w1) := (Below.refl _ _).drew.trans hb1; have m0 := cell_of_blk ((HB1.out.block _ (Array.getElem?_eq_some_iff.1 HRR.out).1).trans HRR.out) 0 _ rfl; have m1 := cell_of_blk ((HB1.out.block _ (Array.getElem?_eq_some_iff.1 HRR.out).1).trans HRR.out) 1 _ rfl; have m2 := cell_of_blk ((HB1.out.block _ (Array.getElem?_eq_some_iff.1 HAA.out).1).trans HAA.out) 0 _ rfl; clear hb1))
    have m3 := cell_of_blk ((HB1.out.block _ (Array.getElem?_eq_some_iff.1 HRR.out).1).trans HRR.out) 2 _ rfl
    have m4 := cell_of_blk ((HB1.out.block _ (Array.getElem?_eq_some_iff.1 HRR.out).1).trans HRR.out) 3 _ rfl
    have HW1 := mkHid (HRW.out.next HB1.out)
    have HB01 : Hid (Below w0.heap.size w0 w1) := HB0.out.trans (HB1.out.mono HB0.out.size)
    have HBW1 : Hid (Below w0.heap.size w w1) := HB.out.trans (HB1.out.mono HB0.out.size)
    cases hv : valB (arsOf ds) G a with
    | true =>
      have HV := mkHid (HR.out.val hv)
      clear hv
      go_wp2_with fail
      go_ret
      exact ⟨by rw [HV.out]; rfl, by rw [HV.out]; exact HW1.out, HBW1.out⟩
    | false =>
      have HVF := mkHid hv
      clear hv
      by_cases hnn : n = fuel
      · subst hnn
        have HV := mkHid (HR.out.fuel HVF.out)
        have HBD : Hid (∀ k, Below w1.heap.size w1 (w1.drewN k)) := fun k => below_drewN (Below.refl _ _) k
        have cf := fun k => (HE.out.next (HB01.out.trans ((HBD.out k).mono HB01.out.size))).cF
        go_wp2_with fail
        go_quiet (fail)
        go_wp2_with fail
        go_ret
        exact ⟨by rw [HV.out]; rfl, by rw [HV.out]; exact HW1.out.next (HBD.out _), HBW1.out.trans ((HBD.out _).mono HB01.out.size)⟩
      have hnlt : n < fuel := by omega
      have tn : ((n : Int) == (fuel : Int)) = false := by rw [beq_eq_false_iff_ne]; omega
      clear hnn
      have HBD : Hid (∀ k, Below w1.heap.size w1 (w1.drewN k)) := fun k => below_drewN (Below.refl _ _) k
      go_wp2_with fail
      go_quiet (fail)
      go_wp2_with fail
      refine (HSP.out _ G (n : Int) (HB01.out.trans ((HBD.out _).mono HB01.out.size)) (HW1.out.next (HBD.out _)) HR.out.2.1 HR.out.2.2.1 HVF.out).mono ?_
      rintro e w2 ⟨rfl, hw2, hb2⟩
      have HW2 := mkHid hw2
      have HB02 : Hid (Below w0.heap.size w0 w2) := (HB01.out.trans ((HBD.out _).mono HB01.out.size)).trans hb2
      have HBW2 : Hid (Below w0.heap.size w w2) := (HBW1.out.trans ((HBD.out _).mono HB01.out.size)).trans hb2
      clear hb2
      by_cases hc : (stepG ds G a).2 = 0
      · have HN := mkHid (HR.out.next HP.out hnlt HVF.out hc)
        have e0 : errV aF aS aL (stepG ds G a).2 = .nilIface := by rw [hc]; rfl
        have q3 := cell_of_blk hw2.red 3 _ rfl
        have qf := frz_of_blk hw2.red
        have HT : Hid (RedW R A w0.heap.size c (fuel : Int) ((n + 1 : Nat) : Int) (stepG ds G a).1 (w2.setCell ⟨R, 3, none⟩ (.int .i64 ((n : Int) + 1)))) := by
          have := hw2.tick (st' := ((n + 1 : Nat) : Int))
          push_cast at this ⊢
          exact this
        have hRlo := hw2.loR
        rw [e0]
        clear hc hw2 e0
        go_wp2_with fail
        go_roundg (fuel + 1 - (n + 1))
        case rel => exact ⟨n + 1, _, rfl, HN.out, HT.out, HB02.out.setCell hRlo _, HBW2.out.setCell hRlo _⟩
        case measure => omega
      · have HV := mkHid (HR.out.stop hnlt HVF.out hc)
        obtain ⟨X, hX⟩ := errV_iface aF aS aL hc
        have HSG := mkHid (stepG_stay hc)
        have HX := mkHid hX
        rw [hX]
        clear hc hw2 hX
        go_wp2_with fail
        go_ret
        exact ⟨by rw [HV.out]; exact congrArg Ending.returned HX.out.symm, by rw [HV.out]; have := HW2.out; rw [HSG.out] at this; exact this, HBW2.out⟩
end Go.Proofs.YtjpjikfmdaejeaaGreatDoor
/-
  slices.Clone of a list of places.
-/
namespace Go.Proofs.YtjpjikfmdaejeaaGreatDoor
set_option linter.unusedVariables false
set_option linter.unusedSimpArgs false
open Go.RowKit

/-- a copy, in a row of its own -/
def CloneRes (ws : List Nat) (w : World) (e : Ending) (w' : World) : Prop := ∃ v, e = .returned v ∧ Stk w' w.heap.size ws v ∧ Below w.heap.size w w'
theorem clone_below {wr w1 : World} {o : Obj} (h : (wr.alloc o).grownBy w1 (Value.slice (some ⟨wr.heap.size, 0, none⟩) 0 0).ownBlock) : Below wr.heap.size wr w1 :=
  ⟨h.os, h.tape, h.output, by have h1 : (wr.alloc o).heap.size ≤ w1.heap.size := h.size; rw [Deep.nblk_alloc] at h1; omega, fun k hk => (h.block k (by show k < (wr.alloc o).heap.size; rw [Deep.nblk_alloc]; omega) (by simp only [Value.ownBlock, ne_eq, Option.some.injEq]; omega)).trans (Deep.blk_alloc_lt _ _ _ hk)⟩
set_option maxRecDepth 100000 in
set_option maxHeartbeats 1600000 in
theorem cloneI_calls (ws : List Nat) (v : Value) (w : World) (hk : IIn w (ws.map fun (a : Nat) => (a : Int)) v) (hl : ws.length ≤ 1048576) : Calls Tryz.prog 52 #[v] w (CloneRes ws w) := by
  have HK : Hid (IIn w (ws.map fun (a : Nat) => (a : Int)) v) := hk
  obtain ⟨ad, cap, rfl, hlc, hm, hr⟩ := hk
  unfold maxLen at hm
  rcases ad with _ | ad
  · have hnil : ws = [] := by
      rcases hr with h | ⟨_, _, h, -⟩
      · simpa using h
      · simp at h
    subst hnil
    clear hr HK
    have q : (binOp .eql 47 (.slice none 0 cap) (.slice none 0 0)).run Tryz.prog w = .ok (.bool true) w := Lib.run_eql_slice_nil w _ _ none 0 cap 0 0 Tryz.underlying47
    go_enter Tryz.func52, Tryz.ntmps52
    go_wp2_with fail
    go_ret
    exact ⟨_, rfl, World.ownsRow_nil _ _ _ _, Below.refl _ _⟩
  · clear hr
    have q : (binOp .eql 47 (.slice (some ad) ws.length cap) (.slice none 0 0)).run Tryz.prog w = .ok (.bool false) w := Lib.run_eql_slice_nil w _ _ (some ad) ws.length cap 0 0 Tryz.underlying47
    go_enter Tryz.func52, Tryz.ntmps52
    go_wp2_with (at_builtin; go_must (refine wpList_push rfl _ _ rfl _ w.heap.size [] ws (.slice (some ⟨w.heap.size, 0, none⟩) 0 0) (.slice (some ad) (ws.map fun (a : Nat) => (a : Int)).length cap) rfl (stk_zero (Deep.blk_alloc_new w _) (Nat.le_refl _)) rfl (HK.out.next (box_below w _)) rfl (by rw [Deep.nblk_alloc]; omega) (by simp only [List.length_nil]; omega) ?_); go_must (intro v1 w1 hst1 hg1); go_must (have HST1 : Hid (Stk w1 w.heap.size ws v1) := hst1); go_must (have HB1 : Hid (Below w.heap.size w w1) := clone_below hg1); clear hst1 hg1)
    go_ret
    exact ⟨_, rfl, HST1.out, HB1.out⟩
end Go.Proofs.YtjpjikfmdaejeaaGreatDoor
/-
  THE PROGRAM's arenaOf: a copy of a graph's cells.
-/
namespace Go.Proofs.YtjpjikfmdaejeaaGreatDoor
set_option linter.unusedVariables false
set_option linter.unusedSimpArgs false
open Go.RowKit

/-- what holds behind some cells -/
def ArRel (lo A : Nat) (w : World) (G : List Ce) (wr : World) : Prop := ∃ gv, OwnC wr lo (fun b => lo ≤ b) G gv ∧ wr.heap[A]? = some (.cells #[gv] 66) ∧ Below w.heap.size w wr
theorem arena_push {w wr w1 w' : World} {lo A : Nat} {G : List Ce} {gv kv : Value} {ws : List Nat} {o m : Int} {xs : List Value} {e : Ending} (h : OwnC wr lo (fun b => lo ≤ b) G gv) (hA : wr.heap[A]? = some (.cells #[gv] 66)) (hw : Below w.heap.size w wr) (hwl : w.heap.size ≤ lo) (hlo : lo ≤ wr.heap.size) (hlA : lo ≤ A) (hb : Below wr.heap.size wr w1) (hst : Stk w1 wr.heap.size ws kv)
    (hx : w1.ownsRow lo 58 3 gv G.length xs) (ho : I64 o) (hm : I64 m) (hr : Added A lo G.length o m gv kv xs w1 e w') : e = .returned (.int .i64 (G.length : Int)) ∧ ArRel lo A w (G ++ [⟨o, m, ws.map fun (a : Nat) => (a : Int)⟩]) w' := by
  obtain ⟨v', w5, rfl, hown, hg, hwv, rfl⟩ := hr
  have hAl : A < wr.heap.size := (Array.getElem?_eq_some_iff.1 hA).1
  have hs1 := hb.size
  have hp := copy_push h hlo (hb.alloc hs1 (.cells #[.int .i64 o, .int .i64 m, kv] 58)) (hst.alloc _) _ (own_keep (own_keep hx (fun k _ hk => Deep.blk_alloc_lt _ _ _ hk)) (fun k _ hk => Deep.blk_alloc_lt _ _ _ hk)) hown hg ho hm
  have hA1 : w1.heap[A]? = some (.cells #[gv] 66) := (hb.block A hAl).trans hA
  have hA5 : w5.heap[A]? = some (.cells #[gv] 66) := ar_keep hA1 hx hg
  have hAv : some A ≠ v'.ownBlock := cells_ne_arena hA5 hown
  have hs5 := hg.size
  rw [Deep.nblk_alloc, Deep.nblk_alloc] at hs5
  have hsw := hw.size
  refine ⟨rfl, v', hp.next2 (fun _ h _ => h) (fun b e hb => Below.heap_setCell _ _ _ _ (fun e2 => hAv (by have e3 : b = A := e2; rw [← e3]; exact e))) (fun b C hS hb hC => Below.heap_setCell _ _ _ _ (fun e2 => ?_)), ?_, ⟨?_, ?_, ?_, ?_, ?_⟩⟩
  · have e3 : b = A := e2
    subst e3
    rw [hA5] at hC
    simp at hC
  · simp [World.setCell, Array.getElem?_modify, hA5]
  · show w5.os = w.os
    exact (hg.os.trans hb.os).trans hw.os
  · show w5.tape = w.tape
    exact (hg.tape.trans hb.tape).trans hw.tape
  · show w5.output = w.output
    exact (hg.output.trans hb.output).trans hw.output
  · rw [size_setCell]; omega
  · intro k hk
    rw [Below.heap_setCell _ _ _ _ (by show k ≠ A; omega), hg.block k (by rw [Deep.nblk_alloc, Deep.nblk_alloc]; omega) (fun e => by have := (own_some hx k e.symm).1; omega), Deep.blk_alloc_lt _ _ _ (by rw [Deep.nblk_alloc]; omega), Deep.blk_alloc_lt _ _ _ (by omega), hb.block k (by omega)]
    exact hw.block k hk

theorem stk_down {w : World} {lo lo' : Nat} {ws : List Nat} {v : Value} (h : Stk w lo ws v) (hl : lo' ≤ lo) : Stk w lo' ws v := by
  refine ⟨h.1, ?_⟩
  rcases h.2 with h | ⟨g, cap, cur, rfl, hg, r⟩
  · exact Or.inl h
  · exact Or.inr ⟨g, cap, cur, rfl, Nat.le_trans hl hg, r⟩
theorem stk_len3 {w : World} {lo n : Nat} {ws : List Nat} {v : Value} (h : Stk w lo ws v) (hn : ws.length = n) : ∃ ad cap, v = .slice ad n cap := by
  obtain ⟨a, c, e⟩ := h.len
  exact ⟨a, c, by rw [e, hn]⟩
theorem added_keep {A lo n : Nat} {o m : Int} {gv kv : Value} {xs : List Value} {w : World} {e : Ending} {w' : World} (h : Added A lo n o m gv kv xs w e w') (b : Nat) (hb : b < w.heap.size) (hn : some b ≠ gv.ownBlock) (hA : b ≠ A) : w'.heap[b]? = w.heap[b]? := by
  obtain ⟨v', w5, rfl, -, hg, -, rfl⟩ := h
  rw [Below.heap_setCell _ _ _ _ hA, hg.block b (by rw [Deep.nblk_alloc, Deep.nblk_alloc]; omega) hn, Deep.blk_alloc_lt _ _ _ (by rw [Deep.nblk_alloc]; omega), Deep.blk_alloc_lt _ _ _ hb]
/-- the arena, at the caller's next block -/
def ArenaRes (g : List Ce) (w : World) (e : Ending) (w' : World) : Prop := e = .returned (.pointer (some ⟨w.heap.size, 0, none⟩)) ∧ ArRel w.heap.size w.heap.size w g w'
set_option maxRecDepth 100000 in
set_option maxHeartbeats 1600000 in
theorem arenaOf_calls (g : List Ce) (v : Value) (w : World) (hk : CIn w g v) (hg : ∃ defs, graphB g defs = true) : Calls Tryz.prog 27 #[v] w (ArenaRes g w) := by
  have HK : Hid (CIn w g v) := hk
  obtain ⟨defs, hg⟩ := hg
  have HG : Hid (graphB g defs = true) := hg
  obtain ⟨ad, cap, rfl, hl, hm, -⟩ := hk
  unfold maxLen at hm
  have h400 : g.length ≤ 400 := graphB_len hg
  clear hg
  have HST : Hid (ArRel w.heap.size w.heap.size w (g.take 0) (w.alloc (.cells #[.slice none 0 0] 66))) := ⟨_, OwnC.nil _ _ _, Deep.blk_alloc_new _ _, box_below _ _⟩
  go_enter Tryz.func27, Tryz.ntmps27
  go_wp2_with fail
  go_loopw [10] (fun i wr => ∃ k : Nat, k ≤ g.length ∧ i = .int .i64 k ∧ ArRel w.heap.size w.heap.size w (g.take k) wr) (fun i _ => g.length - (intOf i).toNat)
  case atStart => exact ⟨0, Nat.zero_le _, rfl, HST.out⟩
  case round =>
    obtain ⟨k, hk, rfl, hrel⟩ := hrel
    have HR : Hid (ArRel w.heap.size w.heap.size w (g.take k) wr) := hrel
    obtain ⟨gv, hog, hA, hb⟩ := hrel
    by_cases hlt : k < g.length
    · obtain ⟨bl, off, r2, rfl, c0w, c1w, c2w, io, iN, hkk⟩ := HK.out.at k hlt
      have HLW : Hid (bl < w.heap.size) := cell_lt c0w
      have c0 := (hb.cell (p := ⟨bl, off + k * 3, none⟩) HLW.out).trans c0w
      have c1 := (hb.cell (p := ⟨bl, off + k * 3 + 1, none⟩) HLW.out).trans c1w
      have c2 := (hb.cell (p := ⟨bl, off + k * 3 + 2, none⟩) HLW.out).trans c2w
      have HIO : Hid (I64 g[k].op ∧ I64 g[k].num) := ⟨io, iN⟩
      have HKK : Hid (IIn wr ((kidsN g k).map fun (a : Nat) => (a : Int)) r2) := by rw [← kids_back HG.out k hlt]; exact hkk.next hb
      have HK3 : Hid (g[k].kids.length ≤ 3) := (kids_graph HG.out k hlt).1
      have HKN : Hid ((kidsN g k).length = g[k].kids.length) := by rw [Hid, kidsN_at k hlt]; simp
      have HTL : Hid ((g.take k).length = k) := by rw [Hid, List.length_take]; omega
      obtain ⟨adk, capk, rfl, -, -, -⟩ := id hkk
      have HOG : Hid (OwnC wr w.heap.size (fun b => w.heap.size ≤ b) (g.take k) gv) := hog
      have HAA : Hid (wr.heap[w.heap.size]? = some (.cells #[gv] 66)) := hA
      have HB : Hid (Below w.heap.size w wr) := hb
      clear hkk io iN c0w c1w c2w hog hA hb
      obtain ⟨xs, hx⟩ := HOG.out.row
      have HX : Hid (wr.ownsRow w.heap.size 58 3 gv (g.take k).length xs) := hx
      have b0 := box_cell wr #[.int .i64 g[k].op, .int .i64 g[k].num, .slice adk g[k].kids.length capk] 58 0 _ rfl
      have b1 := box_cell wr #[.int .i64 g[k].op, .int .i64 g[k].num, .slice adk g[k].kids.length capk] 58 1 _ rfl
      have b2 := box_cell wr #[.int .i64 g[k].op, .int .i64 g[k].num, .slice adk g[k].kids.length capk] 58 2 _ rfl
      clear hx
      go_wp2_with fail
      go_region_held3 (fun w' => w'.cell? ⟨wr.heap.size, 0, none⟩ = some (.int .i64 g[k].op) ∧ w'.cell? ⟨wr.heap.size, 1, none⟩ = some (.int .i64 g[k].num) ∧ w'.cell? ⟨wr.heap.size, 2, none⟩ = some (.slice adk g[k].kids.length capk))
        (first
          | go_keep
          | exact ⟨e0, e1, e2⟩
          | exact ⟨d0, d1, d2⟩
          | exact ⟨b0, b1, b2⟩)
        (first
          | (go_at_call 52; refine (cloneI_calls (kidsN g k) _ ((wr.alloc (.cells #[.int .i64 g[k].op, .int .i64 g[k].num, .slice adk g[k].kids.length capk] 58)).drew) (HKK.out.next ((box_below wr _).drew)) (by rw [HKN.out]; have := HK3.out; omega)).mono ?_; rintro e w1 ⟨v1, rfl, hst1, hb1⟩; have HB1 : Hid (Below wr.heap.size wr w1) := ((box_below wr _).drew).trans (hb1.mono (by show wr.heap.size ≤ (wr.alloc _).heap.size; rw [Deep.nblk_alloc]; omega)); have HST1 : Hid (Stk w1 wr.heap.size (kidsN g k) v1) := stk_down hst1 (by show wr.heap.size ≤ (wr.alloc _).heap.size; rw [Deep.nblk_alloc]; omega); have hbx := (hb1.block wr.heap.size (by show wr.heap.size < (wr.alloc _).heap.size; rw [Deep.nblk_alloc]; omega)).trans (Deep.blk_alloc_new wr _); have HBX := mkHid hbx; have d0 := cell_of_blk hbx 0 _ rfl; have d1 := cell_of_blk hbx 1 _ rfl; have d2 := cell_of_blk hbx 2 _ rfl; obtain ⟨ad1, cap1, rfl⟩ := stk_len3 hst1 HKN.out; clear hst1 hb1 hbx)
          | (go_at_call 51; refine (add_calls w.heap.size w.heap.size (g.take k).length g[k].op g[k].num gv ad1 g[k].kids.length cap1 xs w1 ((HB1.out.block _ (cellsOf_lt HAA.out)).trans HAA.out) (own_keep HX.out (fun b _ hb => HB1.out.block b hb)) (Nat.le_trans HB.out.size HB1.out.size) (by rw [HTL.out]; omega)).mono ?_; rintro e w5 hr; have hk5 := added_keep hr wr.heap.size (cellsOf_lt HBX.out) (fun e => by have := (own_some HX.out _ e.symm).2; omega) (by have := cellsOf_lt HAA.out; omega); have hbx5 := hk5.trans HBX.out; have e0 := cell_of_blk hbx5 0 _ rfl; have e1 := cell_of_blk hbx5 1 _ rfl; have e2 := cell_of_blk hbx5 2 _ rfl; have hp := arena_push (w := w) (ws := kidsN g k) HOG.out HAA.out HB.out (Nat.le_refl _) HB.out.size (Nat.le_refl _) HB1.out HST1.out (own_keep HX.out (fun b _ hb => HB1.out.block b hb)) HIO.out.1 HIO.out.2 hr; obtain ⟨rfl, hrel5⟩ := hp; have HREL5 := mkHid hrel5; clear hr hk5 hbx5 hrel5))
      go_wp2_with fail
      go_roundw
      case rel =>
        refine ⟨k + 1, by omega, by go_num, ?_⟩
        have h := HREL5.out
        rw [← kids_back HG.out k hlt] at h
        rw [List.take_succ_eq_append_getElem hlt]
        exact h
      case measure => simp [intOf]; omega
    · have hke : k = g.length := by omega
      have HE : Hid (ArRel w.heap.size w.heap.size w g wr) := by
        have h := HR.out
        rw [hke, List.take_length] at h
        exact h
      clear hke hog hA hb
      go_wp2_with fail
      go_ret
      exact ⟨rfl, HE.out⟩
end Go.Proofs.YtjpjikfmdaejeaaGreatDoor
/-
  THE MODEL's StepGraph.
-/
namespace Go.Proofs.YtjpjikfmdaejeaaGreatDoor
set_option linter.unusedVariables false
set_option linter.unusedSimpArgs false
open Go.RowKit

/-- what StepGraph answers -/
def stO (ds : List Df) (g : List Ce) (a : Int) : List Ce × Nat := if rightB ds g a = true then (if valB (arsOf ds) g a.toNat = true then (g, 0) else stepG ds g a.toNat) else ([], 4)
theorem stO_no {ds : List Df} {g : List Ce} {a : Int} (h : rightB ds g a = false) : stO ds g a = ([], 4) := by unfold stO; rw [if_neg (by rw [h]; simp)]
theorem stO_val {ds : List Df} {g : List Ce} {a : Nat} (h : rightB ds g (a : Int) = true) (hv : valB (arsOf ds) g a = true) : stO ds g (a : Int) = (g, 0) := by unfold stO; rw [if_pos h, Int.toNat_natCast, if_pos hv]
theorem stO_step {ds : List Df} {g : List Ce} {a : Nat} (h : rightB ds g (a : Int) = true) (hv : valB (arsOf ds) g a = false) : stO ds g (a : Int) = stepG ds g a := by unfold stO; rw [if_pos h, Int.toNat_natCast, if_neg (by rw [hv]; simp)]

set_option maxHeartbeats 1600000 in
theorem specStep_calls (ds : List Df) (g : List Ce) (a : Int) (c v : Value) (w : World) (hd : DIn w ds c) (hk : CIn w g v) :
    Calls Tryz.prog 7 #[c, v, .int .i64 a] w (StG (stO ds g a) w) := by
  have HD : Hid (DIn w ds c) := hd
  have HK : Hid (CIn w g v) := hk
  clear hd hk
  go_enter Tryz.func7, Tryz.ntmps7
  go_wp2_with fail
  refine (l4Right_calls ds g a _ _ _ HD.out HK.out).mono ?_
  rintro e w1 ⟨rfl, hb1⟩
  have HB1 : Hid (Below w.heap.size w w1) := hb1
  clear hb1
  cases hr : rightB ds g a with
  | false =>
    have HV := mkHid (stO_no hr)
    clear hr
    go_wp2_with fail
    go_ret2
    rw [HV.out]
    exact ⟨_, rfl, ⟨_, 0, rfl, Nat.le_refl _, by simp [maxLen], Or.inl rfl⟩, HB1.out.alloc HB1.out.size _⟩
  | true =>
    have HR := mkHid (right_parts hr)
    have HRT := mkHid hr
    obtain ⟨n, rfl⟩ : ∃ n : Nat, a = (n : Int) := ⟨a.toNat, by have := HR.out.2.2.1; omega⟩
    have hn : n < g.length := by have := HR.out.2.2.2; omega
    clear hr
    go_wp2_with fail
    refine (l4Value_calls ds g n _ _ _ (HD.out.next HB1.out) (HK.out.next HB1.out) HR.out.2.1 hn).mono ?_
    rintro e w2 ⟨rfl, hb2⟩
    have HB2 : Hid (Below w.heap.size w w2) := HB1.out.trans (hb2.mono HB1.out.size)
    clear hb2
    cases hv : valB (arsOf ds) g n with
    | true =>
      have HV := mkHid (stO_val HRT.out hv)
      clear hv
      go_wp2_with fail
      refine (l3Copy_calls g _ w2 (HK.out.next HB2.out) ⟨_, HR.out.2.1⟩).mono ?_
      rintro e w3 ⟨gv, rfl, hog, hb3⟩
      have HB3 : Hid (Below w.heap.size w w3) := HB2.out.trans (hb3.mono HB2.out.size)
      have HI := mkHid (hog.own fun k hk _ => hk).inn
      obtain ⟨ad3, cap3, rfl⟩ := hog.form
      clear hb3 hog
      go_wp2_with fail
      go_ret2
      rw [HV.out]
      exact ⟨_, rfl, HI.out, HB3.out⟩
    | false =>
      have HV := mkHid (stO_step HRT.out hv)
      have HVF := mkHid hv
      have HVA := mkHid (stepG_valid HR.out.2.1 HR.out.1 hn hv).1
      clear hv
      go_wp2_with fail
      refine (l4Step_calls ds g n _ _ w2 (HD.out.next HB2.out) (HK.out.next HB2.out) HR.out.2.1 HR.out.1 hn HVF.out).mono ?_
      rintro e w3 ⟨v3, rfl, hi3, hb3⟩
      have HB3 : Hid (Below w.heap.size w w3) := HB2.out.trans (hb3.mono HB2.out.size)
      have HI3 := mkHid hi3
      obtain ⟨ad3, cap3, rfl, -, -, -⟩ := hi3
      clear hb3
      go_wp2_with fail
      refine (l3Copy_calls (stepG ds g n).1 _ w3 HI3.out ⟨_, HVA.out⟩).mono ?_
      rintro e w4 ⟨gv, rfl, hog, hb4⟩
      have HB4 : Hid (Below w.heap.size w w4) := HB3.out.trans (hb4.mono HB3.out.size)
      have HI := mkHid (hog.own fun k hk _ => hk).inn
      obtain ⟨ad4, cap4, rfl⟩ := hog.form
      clear hb4 hog
      go_wp2_with fail
      go_ret2
      rw [HV.out]
      exact ⟨_, rfl, HI.out, HB4.out⟩
end Go.Proofs.YtjpjikfmdaejeaaGreatDoor
/-
  THE MODEL's EvalGraph.
-/
namespace Go.Proofs.YtjpjikfmdaejeaaGreatDoor
set_option linter.unusedVariables false
set_option linter.unusedSimpArgs false
open Go.RowKit

/-- what EvalGraph answers -/
def evO (ds : List Df) (g : List Ce) (a fuel : Int) : List Ce × Nat × Nat := if rightB ds g a = true ∧ 0 ≤ fuel ∧ fuel ≤ 300 then evalG ds a.toNat fuel.toNat g else ([], 4, 0)
theorem evO_no {ds : List Df} {g : List Ce} {a fuel : Int} (h : ¬ (rightB ds g a = true ∧ 0 ≤ fuel ∧ fuel ≤ 300)) : evO ds g a fuel = ([], 4, 0) := by unfold evO; rw [if_neg h]
theorem evO_yes {ds : List Df} {g : List Ce} {a fuel : Nat} (h : rightB ds g (a : Int) = true) (hf : fuel ≤ 300) : evO ds g (a : Int) (fuel : Int) = evalG ds a fuel g := by
  unfold evO; rw [if_pos ⟨h, by omega, by omega⟩, Int.toNat_natCast, Int.toNat_natCast]

set_option maxHeartbeats 1600000 in
theorem specEvalG_calls (ds : List Df) (g : List Ce) (a fuel : Int) (c v : Value) (w : World) (hd : DIn w ds c) (hk : CIn w g v) :
    Calls Tryz.prog 16 #[c, v, .int .i64 a, .int .i64 fuel] w (EvG (evO ds g a fuel) w) := by
  have HD : Hid (DIn w ds c) := hd
  have HK : Hid (CIn w g v) := hk
  clear hd hk
  go_enter Tryz.func16, Tryz.ntmps16
  go_wp2_with fail
  refine (l4Right_calls ds g a _ _ _ HD.out HK.out).mono ?_
  rintro e w1 ⟨rfl, hb1⟩
  have HB1 : Hid (Below w.heap.size w w1) := hb1
  have HNIL : Hid (∀ W : World, CIn W [] (.slice (some ⟨w1.heap.size, 0, none⟩) 0 0)) := fun W => ⟨_, 0, rfl, Nat.le_refl _, by simp [maxLen], Or.inl rfl⟩
  clear hb1
  cases hr : rightB ds g a with
  | false =>
    have HV : Hid (evO ds g a fuel = ([], 4, 0)) := evO_no (by rw [hr]; simp)
    clear hr
    go_wp2_with fail
    go_ret3
    rw [HV.out]
    exact ⟨_, rfl, HNIL.out _, HB1.out.alloc HB1.out.size _⟩
  | true =>
    by_cases hf0 : fuel < 0
    · have HV : Hid (evO ds g a fuel = ([], 4, 0)) := evO_no (by rintro ⟨-, h, -⟩; omega)
      clear hr
      go_wp2_with fail
      go_ret3
      rw [HV.out]
      exact ⟨_, rfl, HNIL.out _, HB1.out.alloc HB1.out.size _⟩
    by_cases hf1 : 300 < fuel
    · have HV : Hid (evO ds g a fuel = ([], 4, 0)) := evO_no (by rintro ⟨-, -, h⟩; omega)
      clear hr
      go_wp2_with fail
      go_ret3
      rw [HV.out]
      exact ⟨_, rfl, HNIL.out _, HB1.out.alloc HB1.out.size _⟩
    have HR := mkHid (right_parts hr)
    obtain ⟨n, rfl⟩ : ∃ n : Nat, a = (n : Int) := ⟨a.toNat, by have := HR.out.2.2.1; omega⟩
    obtain ⟨fu, rfl⟩ : ∃ fu : Nat, fuel = (fu : Int) := ⟨fuel.toNat, by omega⟩
    have hn : n < g.length := by have := HR.out.2.2.2; omega
    have hfu : fu ≤ 300 := by omega
    have HV : Hid (evO ds g (n : Int) (fu : Int) = evalG ds n fu g) := evO_yes hr hfu
    have HVA := mkHid (evalG_valid (a := n) HR.out.1 fu g HR.out.2.1 hn).1
    clear hr
    go_wp2_with fail
    refine (l4Eval_calls ds g n fu _ _ w1 (HD.out.next HB1.out) (HK.out.next HB1.out) HR.out.2.1 HR.out.1 hn hfu).mono ?_
    rintro e w3 ⟨v3, rfl, hi3, hb3⟩
    have HB3 : Hid (Below w.heap.size w w3) := HB1.out.trans (hb3.mono HB1.out.size)
    have HI3 := mkHid hi3
    obtain ⟨ad3, cap3, rfl, -, -, -⟩ := hi3
    clear hb3
    go_wp2_with fail
    refine (l3Copy_calls (evalG ds n fu g).1 _ w3 HI3.out ⟨_, HVA.out⟩).mono ?_
    rintro e w4 ⟨gv, rfl, hog, hb4⟩
    have HB4 : Hid (Below w.heap.size w w4) := HB3.out.trans (hb4.mono HB3.out.size)
    have HI := mkHid (hog.own fun k hk _ => hk).inn
    obtain ⟨ad4, cap4, rfl⟩ := hog.form
    clear hb4 hog
    go_wp2_with fail
    go_ret3
    rw [HV.out]
    exact ⟨_, rfl, HI.out, HB4.out⟩
end Go.Proofs.YtjpjikfmdaejeaaGreatDoor
/-
  THE PROGRAM's StepGraph AND EvalGraph.
-/
namespace Go.Proofs.YtjpjikfmdaejeaaGreatDoor
set_option linter.unusedVariables false
set_option linter.unusedSimpArgs false
open Go.RowKit

/-- a graph in rows of its own, and a code -/
def GotG (r : List Ce × Nat) (w : World) (e : Ending) (w' : World) : Prop := ∃ v, e = .returned (.tuple #[v, .int .i64 (r.2 : Int)]) ∧ OwnC w' w.heap.size (fun k => w.heap.size ≤ k) r.1 v ∧ Below w.heap.size w w'
def GotG3 (r : List Ce × Nat × Nat) (w : World) (e : Ending) (w' : World) : Prop := ∃ v, e = .returned (.tuple #[v, .int .i64 (r.2.1 : Int), .int .i64 (r.2.2 : Int)]) ∧ OwnC w' w.heap.size (fun k => w.heap.size ≤ k) r.1 v ∧ Below w.heap.size w w'
/-- the new reducer -/
theorem redW_new {w1 w2 : World} {g : List Ce} (h : ArRel w1.heap.size w1.heap.size w1 g w2) (c : Value) (fu st : Int) :
    RedW w2.heap.size w1.heap.size w1.heap.size c fu st g (w2.alloc (.cells #[.pointer (some ⟨w1.heap.size, 0, none⟩), c, .int .i64 fu, .int .i64 st] 64)) := by
  obtain ⟨gv, h1, h2, h3⟩ := h
  have hs := h3.size
  have hlt := (Array.getElem?_eq_some_iff.1 h2).1
  obtain ⟨ad, cap, rfl⟩ := h1.form
  exact ⟨Deep.blk_alloc_new _ _, ⟨ad, cap, (Deep.blk_alloc_lt _ _ _ hlt).trans h2, h1.next (fun _ h _ => h) (fun k _ hz => Deep.blk_alloc_lt _ _ _ hz) (fun k _ hz => Deep.blk_alloc_lt _ _ _ hz)⟩, by omega, Nat.le_refl _⟩
/-- the graph of a reducer, handed back -/
theorem redW_out {R A lo lo' : Nat} {c : Value} {fu st : Int} {g : List Ce} {w : World} (h : RedW R A lo c fu st g w) (hl : lo' ≤ lo) : ∃ ad cap, w.heap[A]? = some (.cells #[.slice ad g.length cap] 66) ∧ OwnC w lo' (fun k => lo' ≤ k) g (.slice ad g.length cap) := by
  obtain ⟨ad, cap, h1, h2⟩ := h.are
  exact ⟨ad, cap, h1, h2.down hl (fun k hk => Nat.le_trans hl hk)⟩

set_option maxRecDepth 100000 in
set_option maxHeartbeats 3200000 in
theorem implStep_calls (aF aS aL : Addr) (ds : List Df) (g : List Ce) (a : Int) (c v : Value) (w : World) (hE : Errs aF aS aL w) (hd : DInP w ds c) (hk : CIn w g v) :
    Calls Tryz.prog 10 #[c, v, .int .i64 a] w (GotG (stO ds g a) w) := by
  have HE := mkHid hE
  have HD := mkHid hd
  have HK := mkHid hk
  obtain ⟨adc, capc, rfl, -, -, -⟩ := id hd
  obtain ⟨adv, capv, rfl, -, -, -⟩ := id hk
  clear hE hd hk
  go_enter Tryz.func10, Tryz.ntmps10
  go_wp2_with fail
  refine (canReduce_calls ds g a _ _ _ HD.out.inP HK.out).mono ?_
  rintro e w1 ⟨rfl, hb1⟩
  have HB1 : Hid (Below w.heap.size w w1) := hb1
  clear hb1
  cases hr : rightB ds g a with
  | false =>
    have HV := mkHid (stO_no hr)
    clear hr
    go_wp2_with fail
    go_ret2
    rw [HV.out]
    exact ⟨_, rfl, OwnC.nil _ _ _, HB1.out⟩
  | true =>
    have HR := mkHid (right_parts hr)
    have HRT := mkHid hr
    obtain ⟨n, rfl⟩ : ∃ n : Nat, a = (n : Int) := ⟨a.toNat, by have := HR.out.2.2.1; omega⟩
    have hn : n < g.length := by have := HR.out.2.2.2; omega
    clear hr
    go_wp2_with fail
    refine (arenaOf_calls g _ w1 (HK.out.next HB1.out) ⟨_, HR.out.2.1⟩).mono ?_
    rintro e w2 ⟨rfl, har⟩
    have HRW := mkHid (redW_new har (.slice adc ds.length capc) 0 0)
    obtain ⟨gv2, -, -, hb2⟩ := har
    have HB2 := mkHid hb2
    have HB3 : Hid (Below w1.heap.size w1 (w2.alloc (.cells #[.pointer (some ⟨w1.heap.size, 0, none⟩), .slice adc ds.length capc, .int .i64 0, .int .i64 0] 64))) := hb2.alloc hb2.size _
    have HBW3 : Hid (Below w.heap.size w (w2.alloc (.cells #[.pointer (some ⟨w1.heap.size, 0, none⟩), .slice adc ds.length capc, .int .i64 0, .int .i64 0] 64))) := HB1.out.trans (HB3.out.mono HB1.out.size)
    clear hb2
    go_wp2_with fail
    refine (isValueCell_calls ds g n _ _ _ (HD.out.inP.next HBW3.out) (HK.out.next HBW3.out) HR.out.2.1 hn).mono ?_
    rintro e w4 ⟨rfl, hb4⟩
    have HW4 := mkHid (HRW.out.next hb4)
    have HBW4 : Hid (Below w.heap.size w w4) := HBW3.out.trans (hb4.mono HBW3.out.size)
    have HLO : Hid (w1.heap.size ≤ w4.heap.size) := Nat.le_trans HB3.out.size hb4.size
    clear hb4
    cases hv : valB (arsOf ds) g n with
    | true =>
      have HV := mkHid (stO_val HRT.out hv)
      obtain ⟨ad5, cap5, hA5, hO5⟩ := redW_out HW4.out HB1.out.size
      have r0 := cell_of_blk HW4.out.red 0 _ rfl
      have a0 := cell_of_blk hA5 0 _ rfl
      have HO5 := mkHid hO5
      clear hv hA5 hO5
      go_wp2_with fail
      go_ret2
      rw [HV.out]
      exact ⟨_, rfl, HO5.out, HBW4.out⟩
    | false =>
      have HV := mkHid (stO_step HRT.out hv)
      have HSP := mkHid (step_calls call_said aF aS aL ds g w2.heap.size w1.heap.size w1.heap.size n _ 0 0 w4 (HE.out.next HBW4.out) HW4.out HLO.out (HD.out.mono (fun k hk => ⟨Nat.lt_of_lt_of_le hk.1 HB1.out.size, hk.next HBW4.out⟩) (fun k hk => HBW4.out.block k hk.1)) HR.out.2.1 HR.out.1 hn hv)
      clear hv
      go_wp2_with fail
      refine HSP.out.mono ?_
      rintro e w5 ⟨rfl, hw5, hb5⟩
      have HBW5 : Hid (Below w.heap.size w w5) := HBW4.out.trans (hb5.mono HB1.out.size)
      obtain ⟨ad5, cap5, hA5, hO5⟩ := redW_out hw5 HB1.out.size
      have r0 := cell_of_blk hw5.red 0 _ rfl
      have a0 := cell_of_blk hA5 0 _ rfl
      have HO5 := mkHid hO5
      obtain ⟨ev, hev⟩ : ∃ ev, ev = errV aF aS aL (stepG ds g n).2 := ⟨_, rfl⟩
      have HCO := mkHid (codeOf_calls aF aS aL (stepG ds g n).2 stepG_code w5.drew ((HE.out.next HBW5.out).next ((Below.refl _ _).drew)))
      rw [← hev] at HCO ⊢
      clear hA5 hO5 hw5 hb5 hev
      go_wp2_with fail
      go_region_held3 (fun w' => w'.cell? ⟨w2.heap.size, 0, none⟩ = some (.pointer (some ⟨w1.heap.size, 0, none⟩)) ∧ w'.cell? ⟨w1.heap.size, 0, none⟩ = some (.slice ad5 (stepG ds g n).1.length cap5))
        (first
          | go_keep
          | exact ⟨r0, a0⟩)
        (first
          | (go_at_call 30; refine HCO.out.mono ?_; rintro e w6 ⟨rfl, rfl⟩))
      go_wp2_with fail
      go_ret2
      rw [HV.out]
      exact ⟨_, rfl, HO5.out.next (fun _ h _ => h) (fun _ _ _ => rfl) (fun _ _ _ => rfl), HBW5.out.drew⟩
end Go.Proofs.YtjpjikfmdaejeaaGreatDoor
/-
  THE PROGRAM's EvalGraph.
-/
namespace Go.Proofs.YtjpjikfmdaejeaaGreatDoor
set_option linter.unusedVariables false
set_option linter.unusedSimpArgs false
open Go.RowKit

def fuelB (f : Int) : Bool := decide (0 ≤ f ∧ f ≤ 300)
set_option maxHeartbeats 400000 in
theorem fuelFits_calls (f : Int) (w : World) : Calls Tryz.prog 37 #[.int .i64 f] w fun e w' => e = .returned (.bool (fuelB f)) ∧ w = w' := by
  by_cases h0 : 0 ≤ f
  · by_cases h1 : f ≤ 300
    · have HV : Hid (fuelB f = true) := by rw [Hid, fuelB, decide_eq_true_eq]; exact ⟨h0, h1⟩
      go_enter Tryz.func37, Tryz.ntmps37
      go_wp2_with fail
      go_ret
      exact ⟨ret_bool HV.out.symm, rfl⟩
    · have HV : Hid (fuelB f = false) := by rw [Hid, fuelB, decide_eq_false_iff_not]; rintro ⟨-, h⟩; exact h1 h
      have h1' : decide (f ≤ 300) = false := by simpa using h1
      have h2' : 300 < f := by omega
      go_enter Tryz.func37, Tryz.ntmps37
      go_wp2_with fail
      go_ret
      exact ⟨ret_bool HV.out.symm, rfl⟩
  · have HV : Hid (fuelB f = false) := by rw [Hid, fuelB, decide_eq_false_iff_not]; rintro ⟨h, -⟩; exact h0 h
    have h2' : f < 0 := by omega
    go_enter Tryz.func37, Tryz.ntmps37
    go_wp2_with fail
    go_ret
    exact ⟨ret_bool HV.out.symm, rfl⟩
theorem evalG_code {ds : List Df} {a : Nat} : ∀ (n : Nat) (g : List Ce), (evalG ds a n g).2.1 ≤ 3
  | 0, g => by unfold evalG; split <;> simp
  | n + 1, g => by
    unfold evalG
    split
    · simp
    · split
      · exact evalG_code n _
      · exact stepG_code

set_option maxRecDepth 100000 in
set_option maxHeartbeats 3200000 in
theorem implEval_calls (aF aS aL : Addr) (ds : List Df) (g : List Ce) (a f : Int) (c v : Value) (w : World) (hE : Errs aF aS aL w) (hd : DInP w ds c) (hk : CIn w g v) :
    Calls Tryz.prog 17 #[c, v, .int .i64 a, .int .i64 f] w (GotG3 (evO ds g a f) w) := by
  have HE := mkHid hE
  have HD := mkHid hd
  have HK := mkHid hk
  obtain ⟨adc, capc, rfl, -, -, -⟩ := id hd
  obtain ⟨adv, capv, rfl, -, -, -⟩ := id hk
  clear hE hd hk
  go_enter Tryz.func17, Tryz.ntmps17
  go_wp2_with fail
  refine (canReduce_calls ds g a _ _ _ HD.out.inP HK.out).mono ?_
  rintro e w1 ⟨rfl, hb1⟩
  have HB1 : Hid (Below w.heap.size w w1) := hb1
  clear hb1
  cases hr : rightB ds g a with
  | false =>
    have HV := mkHid (evO_no (ds := ds) (g := g) (a := a) (fuel := f) (by rw [hr]; simp))
    clear hr
    go_wp2_with fail
    go_ret3
    rw [HV.out]
    exact ⟨_, rfl, OwnC.nil _ _ _, HB1.out⟩
  | true =>
    have HR := mkHid (right_parts hr)
    have HRT := mkHid hr
    obtain ⟨n, rfl⟩ : ∃ n : Nat, a = (n : Int) := ⟨a.toNat, by have := HR.out.2.2.1; omega⟩
    have hn : n < g.length := by have := HR.out.2.2.2; omega
    clear hr
    go_wp2_with fail
    refine (fuelFits_calls f w1).mono ?_
    rintro e w1' ⟨rfl, rfl⟩
    by_cases hf : 0 ≤ f ∧ f ≤ 300
    case neg =>
      have HV := mkHid (evO_no (ds := ds) (g := g) (a := n) (fuel := f) (by rintro ⟨-, h⟩; exact hf h))
      have td : fuelB f = false := by rw [fuelB, decide_eq_false_iff_not]; exact hf
      rw [td]
      clear hf td
      go_wp2_with fail
      go_ret3
      rw [HV.out]
      exact ⟨_, rfl, OwnC.nil _ _ _, HB1.out⟩
    obtain ⟨fu, rfl⟩ : ∃ fu : Nat, f = (fu : Int) := ⟨f.toNat, by omega⟩
    have hfu : fu ≤ 300 := by omega
    have td : fuelB (fu : Int) = true := by rw [fuelB, decide_eq_true_eq]; exact hf
    have HV := mkHid (evO_yes HRT.out hfu)
    rw [td]
    clear hf td
    go_wp2_with fail
    refine (arenaOf_calls g _ w1 (HK.out.next HB1.out) ⟨_, HR.out.2.1⟩).mono ?_
    rintro e w2 ⟨rfl, har⟩
    have HRW := mkHid (redW_new har (.slice adc ds.length capc) (fu : Int) 0)
    obtain ⟨gv2, -, -, hb2⟩ := har
    have HB2 := mkHid hb2
    have HB3 : Hid (Below w1.heap.size w1 (w2.alloc (.cells #[.pointer (some ⟨w1.heap.size, 0, none⟩), .slice adc ds.length capc, .int .i64 (fu : Int), .int .i64 0] 64))) := hb2.alloc hb2.size _
    have HD1 : Hid (DInP w1 ds (.slice adc ds.length capc)) := HD.out.mono (fun k hk => hk.next HB1.out) (fun k hk => HB1.out.block k hk.1)
    have HSP := mkHid (reduce_calls call_said aF aS aL ds g w2.heap.size w1.heap.size n fu (.slice adc ds.length capc) w1 _ (HE.out.next HB1.out) HB3.out HRW.out HD1.out HR.out.2.1 HR.out.1 hn hfu)
    clear hb2
    go_wp2_with fail
    refine HSP.out.mono ?_
    rintro e w5 ⟨rfl, hw5, hb5⟩
    have HBW5 : Hid (Below w.heap.size w w5) := HB1.out.trans ((HB3.out.trans hb5).mono HB1.out.size)
    obtain ⟨ad5, cap5, hA5, hO5⟩ := redW_out hw5 HB1.out.size
    have r0 := cell_of_blk hw5.red 0 _ rfl
    have r3 := cell_of_blk hw5.red 3 _ rfl
    have a0 := cell_of_blk hA5 0 _ rfl
    have HO5 := mkHid hO5
    obtain ⟨ev, hev⟩ : ∃ ev, ev = errV aF aS aL (evalG ds n fu g).2.1 := ⟨_, rfl⟩
    have HCO := mkHid (codeOf_calls aF aS aL (evalG ds n fu g).2.1 (evalG_code fu g) w5.drew ((HE.out.next HBW5.out).next ((Below.refl _ _).drew)))
    rw [← hev] at HCO ⊢
    clear hA5 hO5 hw5 hb5 hev
    go_wp2_with fail
    go_region_held3 (fun w' => w'.cell? ⟨w2.heap.size, 0, none⟩ = some (.pointer (some ⟨w1.heap.size, 0, none⟩)) ∧ w'.cell? ⟨w1.heap.size, 0, none⟩ = some (.slice ad5 (evalG ds n fu g).1.length cap5) ∧ w'.cell? ⟨w2.heap.size, 3, none⟩ = some (.int .i64 ((evalG ds n fu g).2.2 : Int)))
      (first
        | go_keep
        | exact ⟨r0, a0, r3⟩)
      (first
        | (go_at_call 30; refine HCO.out.mono ?_; rintro e w6 ⟨rfl, rfl⟩))
    go_wp2_with fail
    go_ret3
    rw [HV.out]
    exact ⟨_, rfl, HO5.out.next (fun _ h _ => h) (fun _ _ _ => rfl) (fun _ _ _ => rfl), HBW5.out.drew⟩
end Go.Proofs.YtjpjikfmdaejeaaGreatDoor
/-
  THE MARKS OF A GRAPH IN ROWS OF ITS OWN: what stands there behind them.
-/
namespace Go.Proofs.YtjpjikfmdaejeaaGreatDoor
set_option linter.unusedVariables false
set_option linter.unusedSimpArgs false
open Go.RowKit

theorem labC_half (g : List Ce) (k : Int) : HalfC g k g.length (labC g k) := ⟨labC_length g k, fun i hi hm => by rw [if_pos hi, labC_get g k i hi]⟩
/-- what marking hands back -/
def GMarked (g : List Ce) (fp : List Nat) (k : Int) (v : Value) (w : World) (e : Ending) (w' : World) : Prop := e = .returned (.int .i64 (k + 2 * (g.length : Int) + (sumK g : Int))) ∧ CIn w' (labC g k) v ∧ ButL fp w w'
theorem gmarkO_calls (g : List Ce) (fp : List Nat) (v : Value) (k : Int) (w : World) (h : GOwn w fp g v) (h0 : 0 ≤ k) (h1 : k ≤ 1048576) (hs : g.length + sumK g ≤ 1048576) :
    Calls Tryz.prog 14 #[v, .int .i64 k] w (GMarked g fp k v w) := by
  obtain ⟨hi, ad, cap, rfl, l1, l2, hr⟩ := h
  rcases hr with rfl | ⟨b, kb, rfl, hb, hr, hd⟩
  · refine (markCells_calls [] fp (.slice ad 0 cap) k w ⟨ad, cap, rfl, l1, l2, Or.inl rfl⟩ h0 (by omega) (by simp [sumN'])).mono ?_
    rintro e w' ⟨rfl, hb⟩
    refine ⟨ret_int (by simp [sumK, sumN']), ⟨ad, cap, rfl, l1, l2, Or.inl rfl⟩, hb⟩
  · refine (gmark_calls g fp b cap kb k w hr hb hd l1 l2 h0 (by omega) hs).mono ?_
    rintro e w' ⟨rfl, h5, h6⟩
    refine ⟨rfl, GOwn.inn (fp := fp) ⟨fun i hi' => ?_, some ⟨b, 0, none⟩, cap, by rw [labC_length], by rw [labC_length]; exact l1, l2, Or.inr ⟨b, kb, rfl, hb, h5, (labC_half g k).dist hd⟩⟩, h6⟩
    have hl := labC_length g k
    rw [labC_get g k i (by omega) hi']
    have := cLab_le g k i (by omega)
    unfold markedC I64
    simp only
    omega
/-- a graph that a call hands back, in rows of its own -/
theorem addOut_small (t : Tr) (defs : Int) : (addOut [] t [] defs).1.length + sumK (addOut [] t [] defs).1 ≤ 200 := by
  rw [addOut_closed]
  split
  · rename_i h
    have h' := h
    unfold validB at h'
    simp only [Bool.and_eq_true, decide_eq_true_eq] at h'
    have hs := addT_size [] t []
    simp only [List.length_nil] at hs
    have e : sumK ([] : List Ce) = 0 := rfl
    rw [e] at hs
    show (addT [] t []).1.length + sumK (addT [] t []).1 ≤ 200
    omega
  · simp [sumK]
end Go.Proofs.YtjpjikfmdaejeaaGreatDoor
/-
  THE LAWS' COPY OF A PROGRAM, WITH ALL ITS BLOCKS: they are distinct.
-/
namespace Go.Proofs.YtjpjikfmdaejeaaGreatDoor
set_option linter.unusedVariables false
set_option linter.unusedSimpArgs false
open Go.RowKit

/-- a function whose body's operands have these blocks -/
def DfFp (w : World) (d : Df) (fp : List Nat) (a b c e : Value) : Prop := a = .int .i64 d.1 ∧ I64 d.1 ∧ TrFp w 54 d.2 fp b c e
/-- a program in a row of its own, with all its blocks -/
def DefsFp (w : World) (ds : List Df) (fp : List Nat) (v : Value) : Prop :=
  ∃ (bl : Nat) (f : Nat → Value) (fps : List (List Nat)), v = .slice (some ⟨bl, 0, none⟩) ds.length ds.length ∧ ds.length ≤ 1048576 ∧ w.rowIs bl 56 (ds.length * 4) f ∧ fp = bl :: fps.flatten ∧ fps.length = ds.length ∧ ∀ i (hi : i < ds.length) (hi2 : i < fps.length), DfFp w ds[i] fps[i] (f (i * 4)) (f (i * 4 + 1)) (f (i * 4 + 2)) (f (i * 4 + 3))
theorem DefsFp.keep {w w' : World} {ds : List Df} {fp : List Nat} {v : Value} (h : DefsFp w ds fp v) (hw : ∀ k ∈ fp, w'.heap[k]? = w.heap[k]?) : DefsFp w' ds fp v := by
  obtain ⟨bl, f, fps, e, l1, hr, rfl, hl, hi⟩ := h
  refine ⟨bl, f, fps, e, l1, hr.of_block (hw bl (List.mem_cons_self ..)), rfl, hl, fun i h1 h2 => ?_⟩
  obtain ⟨a1, a2, a3⟩ := hi i h1 h2
  exact ⟨a1, a2, TrFp.keep _ _ _ _ _ (fun k hk => hw k (List.mem_cons_of_mem _ (List.mem_flatten.2 ⟨_, List.getElem_mem h2, hk⟩))) a3⟩
theorem DefsFp.lt {w : World} {ds : List Df} {fp : List Nat} {v : Value} (h : DefsFp w ds fp v) : ∀ k ∈ fp, k < w.heap.size := by
  obtain ⟨bl, f, fps, e, l1, hr, rfl, hl, hi⟩ := h
  intro k hk
  rcases List.mem_cons.1 hk with rfl | hk
  · exact hr.lt
  · obtain ⟨g, hg, hk⟩ := List.mem_flatten.1 hk
    obtain ⟨i, h2, rfl⟩ := List.getElem_of_mem hg
    exact TrFp.lt _ _ _ _ _ (hi i (by omega) h2).2.2 k hk
theorem DefsFp.on {w : World} {S : Nat → Prop} {ds : List Df} {fp : List Nat} {v : Value} (h : DefsFp w ds fp v) (hS : ∀ k ∈ fp, S k) : DefsOn w S ds v := by
  obtain ⟨bl, f, fps, rfl, l1, hr, rfl, hl, hi⟩ := h
  refine ⟨_, _, rfl, Nat.le_refl _, by unfold maxLen; omega, Or.inr ⟨bl, 0, rfl, hS bl (List.mem_cons_self ..), fun i h1 => ?_⟩⟩
  obtain ⟨a1, a2, a3⟩ := hi i h1 (by omega)
  refine ⟨f (i * 4), f (i * 4 + 1), f (i * 4 + 2), f (i * 4 + 3), ?_, ?_, ?_, ?_, a1, a2, TrFp.on _ _ _ _ _ (fun k hk => hS k (List.mem_cons_of_mem _ (List.mem_flatten.2 ⟨_, List.getElem_mem _, hk⟩))) a3⟩
  · simpa using hr.cell (i := i * 4) (by omega)
  · simpa [Nat.zero_add] using hr.cell (i := i * 4 + 1) (by omega)
  · simpa [Nat.zero_add] using hr.cell (i := i * 4 + 2) (by omega)
  · simpa [Nat.zero_add] using hr.cell (i := i * 4 + 3) (by omega)
theorem DefsFp.plain {w : World} {ds : List Df} {fp : List Nat} {v : Value} (h : DefsFp w ds fp v) : ∀ k ∈ fp, Pl w k := by
  obtain ⟨bl, f, fps, rfl, l1, hr, rfl, hl, hi⟩ := h
  intro k hk
  rcases List.mem_cons.1 hk with rfl | hk
  · obtain ⟨C, T', e⟩ := row_plain hr
    exact ⟨hr.lt, C, T', e⟩
  · obtain ⟨g, hg, hk⟩ := List.mem_flatten.1 hk
    obtain ⟨i, h2, rfl⟩ := List.getElem_of_mem hg
    exact TrFp.plain _ _ _ _ _ (hi i (by omega) h2).2.2 k hk

/-- trees of a call's own can be read -/
theorem fresh_inn {w : World} {lo : Nat} {ks : List Tr} {c : Value} (h : Fresh w lo ks c) : In w ks c := by
  obtain ⟨fp, h1, -, -⟩ := h
  exact h1.on h1.lt
theorem Fresh.down {w : World} {lo lo' : Nat} {ks : List Tr} {c : Value} (h : Fresh w lo ks c) (hl : lo' ≤ lo) : Fresh w lo' ks c := by
  obtain ⟨fp, h1, h2, h3⟩ := h
  exact ⟨fp, h1, h2, fun k hk => Nat.le_trans hl (h3 k hk)⟩
theorem Fresh.setC {w : World} {lo : Nat} {ks : List Tr} {c : Value} (h : Fresh w lo ks c) {a : Addr} (ha : a.block < lo) (u : Value) : Fresh (w.setCell a u) lo ks c := by
  obtain ⟨fp, h1, h2, h3⟩ := h
  exact ⟨fp, h1.keep fun k hk => Below.heap_setCell _ _ _ _ (by have := h3 k hk; omega), h2, h3⟩
/-! ### The copy -/
def NewDfF (a o n : Int) (ks : List Tr) (w : World) (e : Ending) (w' : World) : Prop := ∃ v, e = .returned (.agg #[.int .i64 a, .int .i64 o, .int .i64 n, v]) ∧ Fresh w' w.heap.size ks v ∧ Below w.heap.size w w'
def NewDefsF (ds : List Df) (w : World) (e : Ending) (w' : World) : Prop := ∃ v fp, e = .returned v ∧ DefsFp w' ds fp v ∧ fp.Nodup ∧ (∀ k ∈ fp, w.heap.size ≤ k) ∧ Below w.heap.size w w'

set_option maxHeartbeats 400000 in
theorem toDef_callsF (a o n : Int) (ks : List Tr) (c : Value) (w : World) (hk : In w ks c) (hsz : szL ks ≤ 1048576) : Calls Tryz.prog 24 #[.agg #[.int .i64 a, .int .i64 o, .int .i64 n, c]] w (NewDfF a o n ks w) := by
  have HK : Hid (In w ks c) := hk
  clear hk
  go_enter Tryz.func24, Tryz.ntmps24
  go_wp2_with fail
  refine (fto_calls ks _ _ c _ ?_ hsz).mono ?_
  · exact HK.out.next ((((Below.refl _ _).alloc (Nat.le_refl _) _).alloc (by simp) _).alloc (by simp; omega) _)
  rintro e w1 ⟨v, rfl, hv, hb⟩
  obtain ⟨hc, hf⟩ := bcell hb
  have hz : w.heap.size + 2 < w1.heap.size := by have := hb.size; simp at this; omega
  have hlo : w.heap.size + 3 ≤ w1.heap.size := by omega
  have HV : Hid (Fresh w1 (w.heap.size + 3) ks v) := by obtain ⟨fp, h1, h2, h3⟩ := hv; exact ⟨fp, h1, h2, fun k hk => by have := h3 k hk; simpa using this⟩
  have hv := HV.out
  have HB : Hid (Below w.heap.size w w1) := ((((Below.refl _ _).alloc (Nat.le_refl _) _).alloc (by simp) _).alloc (by simp; omega) _).trans (hb.mono (by simp; omega))
  obtain ⟨ad, cap, rfl, -, -, -⟩ := (fresh_inn hv)
  clear hb hv
  go_wp2_with fail
  refine bodyPost_ret (v := .agg #[.int .i64 a, .int .i64 o, .int .i64 n, .slice ad ks.length cap]) (by simp [results, Tryz.results24, go_sem, hc, hf, hz]) rfl ⟨_, rfl, ?_, ?_⟩
  · refine Fresh.down (lo := w.heap.size + 3) ?_ (by omega)
    repeat' (refine Fresh.setC ?_ (by simp <;> omega) _)
    exact HV.out
  · repeat' (refine Below.setCell ?_ (by simp <;> omega) _)
    exact HB.out

/-- what holds of the copy of a program behind k rounds -/
def ToDRelF (ds : List Df) (w : World) (k : Nat) (wr : World) : Prop :=
  ∃ (f : Nat → Value) (fps : List (List Nat)), wr.rowIs w.heap.size 56 (ds.length * 4) f ∧ fps.length = k ∧ fps.flatten.Nodup ∧ (∀ x ∈ fps.flatten, w.heap.size + 1 ≤ x ∧ x < wr.heap.size) ∧ (∀ j (_ : j < k) (hj : j < ds.length) (hj2 : j < fps.length), DfFp wr ds[j] fps[j] (f (j * 4)) (f (j * 4 + 1)) (f (j * 4 + 2)) (f (j * 4 + 3))) ∧ Below w.heap.size w wr

theorem toDRel_startF (ds : List Df) (w : World) (C : Array Value) (h : C.size = ds.length * 4) : ToDRelF ds w 0 (w.alloc (.cells C 56)) := by
  refine ⟨fun i => C.getD i undef, [], ⟨C, Deep.blk_alloc_new _ _, h, fun i hi => ?_⟩, rfl, by simp, by simp, fun j hj => absurd hj (by omega), (Below.refl _ _).alloc (Nat.le_refl _) _⟩
  simp [Array.getElem?_eq_getElem (h ▸ hi : i < C.size), Array.getD, (h ▸ hi : i < C.size)]

theorem toDRel_stepF (ds : List Df) (w wr w1 : World) (k : Nat) (hk : k < ds.length) (h : ToDRelF ds w k wr) (v : Value) (hb : Below wr.heap.size wr w1) (hv : Fresh w1 wr.heap.size (ds[k]).2.kids v) (ha : I64 (ds[k]).1) (ho : I64 (ds[k]).2.op) (hn : I64 (ds[k]).2.num) :
    ToDRelF ds w (k + 1) (stD w1 w.heap.size k ds[k] v) := by
  obtain ⟨f, fps, hr, hl, hnd, hlo, ht, hbw⟩ := h
  obtain ⟨fp, g1, g2, g3⟩ := hv
  have hlt := hr.lt
  have hsz := hb.size
  have hr1 : w1.rowIs w.heap.size 56 (ds.length * 4) f := hr.of_block (hb.block _ hlt)
  have hbl : ∀ x, x ≠ w.heap.size → (stD w1 w.heap.size k ds[k] v).heap[x]? = w1.heap[x]? := fun x hx => by
    unfold stD
    rw [Below.heap_setCell _ _ _ _ hx, Below.heap_setCell _ _ _ _ hx, Below.heap_setCell _ _ _ _ hx, Below.heap_setCell _ _ _ _ hx]
  have hss : (stD w1 w.heap.size k ds[k] v).heap.size = w1.heap.size := by unfold stD; rw [size_setCell, size_setCell, size_setCell, size_setCell]
  have hfl : (fps ++ [fp]).flatten = fps.flatten ++ fp := by simp
  refine ⟨_, fps ++ [fp], (((hr1.set (k * 4) _).set (k * 4 + 1) _).set (k * 4 + 2) _).set (k * 4 + 3) _, by simp [hl], ?_, ?_, fun j hj hjl hj2 => ?_, ?_⟩
  · rw [hfl, List.nodup_append]
    exact ⟨hnd, g2, fun a ha b hb e => by subst e; have := (hlo a ha).2; have := g3 a hb; omega⟩
  · intro x hx
    rw [hfl] at hx
    rw [hss]
    rcases List.mem_append.1 hx with hx | hx
    · have := hlo x hx; omega
    · have := g3 x hx; have := g1.lt x hx; omega
  · by_cases hjk : j = k
    · subst hjk
      have e : (fps ++ [fp])[j] = fp := by rw [List.getElem_append_right (by omega)]; simp [hl]
      rw [e]
      refine ⟨by simp, ha, ?_⟩
      simp only [if_neg (show ¬ (j * 4 + 1 = j * 4 + 3) by omega), if_neg (show ¬ (j * 4 + 1 = j * 4 + 2) by omega), if_neg (show ¬ (j * 4 + 2 = j * 4 + 3) by omega), if_true]
      exact trFp_iff.2 ⟨rfl, rfl, ho, hn, g1.keep fun x hx => hbl x (by have := g3 x hx; omega)⟩
    · have hjl2 : j < fps.length := by omega
      obtain ⟨h01, h02, h03⟩ := ht j (by omega) hjl hjl2
      have e : (fps ++ [fp])[j] = fps[j] := List.getElem_append_left hjl2
      rw [e]
      have keep := TrFp.keep _ _ _ _ _ (w' := stD w1 w.heap.size k ds[k] v) (fun x hx => by have := hlo x (List.mem_flatten.2 ⟨_, List.getElem_mem hjl2, hx⟩); exact (hbl x (by omega)).trans (hb.block x this.2)) h03
      have e1 : ∀ m, m < 4 → j * 4 + m ≠ k * 4 + 3 ∧ j * 4 + m ≠ k * 4 + 2 ∧ j * 4 + m ≠ k * 4 + 1 ∧ j * 4 + m ≠ k * 4 := fun m hm => by omega
      have a0 := e1 0 (by omega)
      have a1 := e1 1 (by omega)
      have a2 := e1 2 (by omega)
      have a3 := e1 3 (by omega)
      simp only [Nat.add_zero] at a0
      refine ⟨?_, h02, ?_⟩
      · simp only [if_neg a0.1, if_neg a0.2.1, if_neg a0.2.2.1, if_neg a0.2.2.2]; exact h01
      · simp only [if_neg a1.1, if_neg a1.2.1, if_neg a1.2.2.1, if_neg a1.2.2.2, if_neg a2.1, if_neg a2.2.1, if_neg a2.2.2.1, if_neg a2.2.2.2, if_neg a3.1, if_neg a3.2.1, if_neg a3.2.2.1, if_neg a3.2.2.2]
        exact keep
  · unfold stD
    exact ((((hbw.trans (hb.mono (Nat.le_of_lt hlt))).setCell (by simp) _).setCell (by simp) _).setCell (by simp) _).setCell (by simp) _

theorem toDRel_endF (ds : List Df) (w wr : World) (h : ToDRelF ds w ds.length wr) (hl : ds.length ≤ 1048576) : NewDefsF ds w (.returned (.slice (some ⟨w.heap.size, 0, none⟩) ds.length ds.length)) wr := by
  obtain ⟨f, fps, hr, h1, h2, h3, h4, h5⟩ := h
  refine ⟨_, w.heap.size :: fps.flatten, rfl, ⟨w.heap.size, f, fps, rfl, hl, hr, rfl, h1, fun i hi hi2 => h4 i hi hi hi2⟩, ?_, ?_, h5⟩
  · rw [List.nodup_cons]
    exact ⟨fun hm => by have := (h3 _ hm).1; omega, h2⟩
  · intro k hk
    rcases List.mem_cons.1 hk with rfl | hk
    · exact Nat.le_refl _
    · have := (h3 k hk).1; omega

set_option maxHeartbeats 400000 in
theorem toDefS_callsF (ds : List Df) (c : Value) (w : World) (hk : DIn w ds c) (hsz : szL (bodies ds) ≤ 1048576) : Calls Tryz.prog 8 #[c] w (NewDefsF ds w) := by
  have HK : Hid (DIn w ds c) := hk
  have HZ : Hid (szL (bodies ds) ≤ 1048576) := hsz
  have hlen : ds.length ≤ 1048576 := by rw [szL_sum, bodies_length] at hsz; omega
  clear hsz
  obtain ⟨ad, cap, rfl, -, -, -⟩ := hk
  obtain ⟨C, hC, hmk⟩ := make_defs ds.length hlen
  have HC : Hid (C.size = ds.length * 4) := hC
  clear hC
  go_enter Tryz.func8, Tryz.ntmps8
  go_wp2_with fail
  go_loopw [4] (fun i wr => ∃ k : Nat, k ≤ ds.length ∧ i = .int .i64 k ∧ ToDRelF ds w k wr) (fun i _ => ds.length - (intOf i).toNat)
  case atStart => exact ⟨0, Nat.zero_le _, rfl, toDRel_startF ds w C HC.out⟩
  case round =>
    obtain ⟨k, hk, rfl, hto⟩ := hrel
    have HT : Hid (ToDRelF ds w k wr) := hto
    obtain ⟨f, fps0, hr0, -, -, -, -, hb⟩ := hto
    have hlt0 := hr0.lt
    by_cases hlt : k < ds.length
    · obtain ⟨bl, off, r, rfl, c0, c1, c2, c3, ia, io, iN, hkk⟩ := (HK.out.next hb).at k hlt
      have HKK : Hid (In wr ds[k].2.kids r) := hkk
      have hkz : szL ds[k].2.kids ≤ 1048576 := by have := szL_body_le ds k hlt; have := HZ.out; omega
      have HR : Hid (wr.rowIs w.heap.size 56 (ds.length * 4) f) := hr0
      clear hkk hr0 hb
      go_wp2_with fail
      refine (toDef_callsF _ _ _ ds[k].2.kids r _ HKK.out hkz).mono ?_
      rintro e w1 ⟨v, rfl, hv, hb1⟩
      have hr1 : w1.rowIs w.heap.size 56 (ds.length * 4) f := HR.out.of_block (hb1.block _ hlt0)
      have HS : Hid (ToDRelF ds w (k + 1) (stD w1 w.heap.size k ds[k] v)) := toDRel_stepF ds w wr w1 k hlt HT.out v hb1 hv ia io iN
      obtain ⟨ad2, cap2, rfl, _, _, _⟩ := (fresh_inn hv)
      have g0 := hr1.cell (i := k * 4) (by omega)
      have g1 := hr1.cell (i := k * 4 + 1) (by omega)
      have g2 := hr1.cell (i := k * 4 + 2) (by omega)
      have g3 := hr1.cell (i := k * 4 + 3) (by omega)
      have f0 := hr1.frozen (k * 4)
      have f1 := hr1.frozen (k * 4 + 1)
      have f2 := hr1.frozen (k * 4 + 2)
      have f3 := hr1.frozen (k * 4 + 3)
      clear hr1 hb1 hv
      go_wp2_with fail
      go_roundw
      case rel => exact ⟨k + 1, by omega, by go_num, HS.out⟩
      case measure => simp [intOf]; omega
    · have hke : ds.length = k := by omega
      have HV : Hid (NewDefsF ds w (.returned (.slice (some ⟨w.heap.size, 0, none⟩) ds.length ds.length)) wr) := by subst hke; exact toDRel_endF ds w wr HT.out hlen
      clear hke hr0 hb
      go_wp2_with fail
      go_ret
      exact HV.out
end Go.Proofs.YtjpjikfmdaejeaaGreatDoor
/-
  THE LAWS' OWN MARKING OF TREES, THE WALK: markExprS, markExpr.
-/
namespace Go.Proofs.YtjpjikfmdaejeaaGreatDoor
set_option linter.unusedVariables false
set_option linter.unusedSimpArgs false
open Go.RowKit

/-- the contract of markExprS at one list -/
def MarkSSaid (ks : List Tr) : Prop := ∀ (fp : List Nat) (c : Value) (k : Int) (w : World), KidsFp w 54 ks fp c → fp.Nodup → 0 ≤ k → k + 2 * (szL ks : Int) ≤ 1152921504606846976 →
  Calls Tryz.prog 33 #[c, .int .i64 k] w fun e w' => e = .returned (.int .i64 (k + 2 * (szL ks : Int))) ∧ KidsFp w' 54 (labL ks k) fp c ∧ ButL fp w w'

/-- a list of which the first j elements are marked -/
def Half (ks : List Tr) (k : Int) (j : Nat) (ms : List Tr) : Prop := ms.length = ks.length ∧ ∀ i (hi : i < ks.length) (hm : i < ms.length), ms[i] = if i < j then .node (labAt ks k i) (labAt ks k i + 1) (labL ks[i].kids (labAt ks k i + 2)) else ks[i]
theorem Half.zero (ks : List Tr) (k : Int) : Half ks k 0 ks := ⟨rfl, fun i hi hm => by simp⟩
theorem Half.step {ks ms : List Tr} {k : Int} {j : Nat} (h : Half ks k j ms) (hj : j < ks.length) : Half ks k (j + 1) (ms.set j (.node (labAt ks k j) (labAt ks k j + 1) (labL ks[j].kids (labAt ks k j + 2)))) := by
  refine ⟨by rw [List.length_set]; exact h.1, fun i hi hm => ?_⟩
  rw [List.getElem_set]
  by_cases hij : j = i
  · subst hij; simp
  · rw [if_neg hij, h.2 i hi (by rw [h.1]; exact hi)]
    by_cases hlt : i < j
    · rw [if_pos hlt, if_pos (by omega)]
    · rw [if_neg hlt, if_neg (by omega)]
theorem Half.done {ks ms : List Tr} {k : Int} (h : Half ks k ks.length ms) : ms = labL ks k := by
  refine List.ext_getElem (by rw [h.1, labL_length]) fun i h1 h2 => ?_
  have hi : i < ks.length := by rw [← h.1]; exact h1
  rw [h.2 i hi h1, if_pos hi, labL_get ks k i hi]
theorem Half.at {ks ms : List Tr} {k : Int} {j : Nat} (h : Half ks k j ms) (hj : j < ks.length) (hm : j < ms.length) : ms[j] = ks[j] := by rw [h.2 j hj hm, if_neg (by omega)]

/-- one round's worlds -/
theorem markS_after {T : TypeId} {w w1 : World} {bl off : Nat} {ks ms : List Tr} {fps : List (List Nat)} {C : Array Value} {k : Int} {j : Nat} {f : List Nat} {r : Value} (hC : w.heap[bl]? = some (.cells C T)) (hr : RowFp w T bl off ms fps) (hn : (bl :: fps.flatten).Nodup)
    (hk : 0 ≤ labAt ks k j ∧ labAt ks k j ≤ 1152921504606846976) (hj : j < ks.length) (hh : Half ks k j ms) (hf : fps[j]? = some f) (hc : w.cell? ⟨bl, off + j * 3 + 2, none⟩ = some r) {x : Int} (hx : x = labAt ks k j + 2)
    (h1 : KidsFp w1 T (labL ks[j].kids x) f r) (hb : ButL f ((w.setCell ⟨bl, off + j * 3, none⟩ (.int .i64 (labAt ks k j))).setCell ⟨bl, off + j * 3 + 1, none⟩ (.int .i64 (labAt ks k j + 1))) w1) :
    RowFp w1 T bl off (ms.set j (.node (labAt ks k j) (labAt ks k j + 1) (labL ks[j].kids (labAt ks k j + 2)))) fps ∧ (∃ C', w1.heap[bl]? = some (.cells C' T)) ∧ ButL (bl :: fps.flatten) w w1 := by
  subst hx
  have := RowFp.mark hC hr hn j (by rw [hh.1]; exact hj) (labAt ks k j) (labAt ks k j + 1) (by unfold I64; omega) (by unfold I64; omega) f hf r hc _ h1 hb
  refine ⟨this.1, this.2, ?_⟩
  have hm : ∀ k ∈ f, k ∈ bl :: fps.flatten := fun k hk => List.mem_cons_of_mem _ (List.mem_flatten.2 ⟨f, List.mem_of_getElem? hf, hk⟩)
  exact ((ButL.setCell w bl _ (by simp) _).trans (ButL.setCell _ bl _ (by simp) _)).trans (hb.mono hm)

set_option maxHeartbeats 800000 in
theorem markS_step (ks : List Tr) (ih : ∀ i (hi : i < ks.length), MarkSSaid (ks[i]).kids) : MarkSSaid ks := by
  intro fp c k w hk hn h0 h1
  have HI : Hid (∀ i (hi : i < ks.length), MarkSSaid (ks[i]).kids) := ih
  have HK : Hid (KidsFp w 54 ks fp c) := hk
  have HN : Hid fp.Nodup := hn
  clear ih hn
  obtain ⟨ad, cap, rfl, hl, hm, hrow⟩ := hk
  unfold maxLen at hm
  clear hrow
  go_enter Tryz.func33, Tryz.ntmps33
  go_wp2_with fail
  go_loopw [1, 5] (fun l i wr => ∃ j : Nat, ∃ ms, j ≤ ks.length ∧ i = .int .i64 j ∧ l = .int .i64 (labAt ks k j) ∧ Half ks k j ms ∧ KidsFp wr 54 ms fp (.slice ad ks.length cap) ∧ ButL fp w wr) (fun _ i _ => ks.length - (intOf i).toNat)
  case atStart => exact ⟨0, ks, Nat.zero_le _, rfl, by rw [labAt_zero], Half.zero ks k, HK.out, ButL.refl _ _⟩
  case round =>
    obtain ⟨j, ms, hj, rfl, rfl, hhalf, hkr, hb⟩ := hrel
    have hle := labAt_le ks k j
    have HH : Hid (Half ks k j ms) := hhalf
    have HB : Hid (ButL fp w wr) := hb
    have HKR : Hid (KidsFp wr 54 ms fp (.slice ad ks.length cap)) := hkr
    have hml := hhalf.1
    clear hb
    by_cases hlt : j < ks.length
    · obtain ⟨ad', cap', he, _, _, hr⟩ := hkr
      rw [hml] at he
      cases he
      rcases hr with ⟨hr, _⟩ | ⟨bl, off, C, fps, rfl, hC, rfl, hr⟩
      · rw [hr] at hml; simp at hml; omega
      obtain ⟨hfl, f, hf, p, q, r, c0, c1, c2, ht⟩ := RowFp.at ms fps off j (by omega) hr
      rw [hhalf.at hlt] at ht
      obtain ⟨rfl, rfl, _, _, hkk⟩ := trFp_iff.1 ht
      obtain ⟨C1, hC1⟩ := set_block hC (off + j * 3) (.int .i64 (labAt ks k j))
      have f0 := cells_thawed hC (off + j * 3)
      have f1 := cells_thawed hC1 (off + j * 3 + 1)
      have d1 := (set_off hC (show off + j * 3 + 1 ≠ off + j * 3 by omega) (.int .i64 (labAt ks k j))).trans c1
      have d2 := (set_off hC (show off + j * 3 + 2 ≠ off + j * 3 by omega) (.int .i64 (labAt ks k j))).trans c2
      have e2 := (set_off hC1 (show off + j * 3 + 2 ≠ off + j * 3 + 1 by omega) (.int .i64 (labAt ks k j + 1))).trans d2
      have HC : Hid (wr.heap[bl]? = some (.cells C 54)) := hC
      have HR : Hid (RowFp wr 54 bl off ms fps) := hr
      have HF : Hid (fps[j]? = some f) := hf
      have HT : Hid (KidsFp wr 54 ks[j].kids f r) := hkk
      have HC2 : Hid (wr.cell? ⟨bl, off + j * 3 + 2, none⟩ = some r) := c2
      have hs := labAt_succ ks k j hlt
      have hle2 := labAt_le ks k (j + 1)
      clear hkk ht hr hf hC hC1 hhalf
      go_wp2_with fail
      refine (HI.out j hlt f r _ _ ?_ ?_ (by omega) (by omega)).mono ?_
      · have hn' := HN.out
        simp only [List.nodup_cons] at hn'
        refine HT.out.keep fun b hb => ?_
        have hbb : b ≠ bl := fun e => hn'.1 (List.mem_flatten.2 ⟨f, List.mem_of_getElem? HF.out, e ▸ hb⟩)
        exact (Below.heap_setCell _ _ _ _ hbb).trans (Below.heap_setCell _ _ _ _ hbb)
      · have hn' := HN.out
        simp only [List.nodup_cons] at hn'
        exact flatten_one hn'.2 HF.out
      rintro e w1 ⟨rfl, hk1, hb1⟩
      have HM := markS_after (ks := ks) HC.out HR.out HN.out (by omega) hlt HH.out HF.out HC2.out (by omega) hk1 hb1
      have HM' : Hid (RowFp w1 54 bl off (ms.set j (.node (labAt ks k j) (labAt ks k j + 1) (labL ks[j].kids (labAt ks k j + 2)))) fps ∧ (∃ C', w1.heap[bl]? = some (.cells C' 54)) ∧ ButL (bl :: fps.flatten) wr w1) := HM
      clear HM hk1 hb1 f0 f1 d1 d2 e2 c0 c1 c2
      go_wp2_with fail
      go_roundw
      case rel =>
        obtain ⟨m1, ⟨C', m2⟩, m3⟩ := HM'.out
        refine ⟨j + 1, _, by omega, by go_num, congrArg (Value.int .i64) (by omega), HH.out.step hlt, ⟨some ⟨bl, off, none⟩, cap, ?_, ?_, ?_, Or.inr ⟨bl, off, C', fps, rfl, m2, rfl, m1⟩⟩, HB.out.trans m3⟩
        · rw [List.length_set, hml]
        · rw [List.length_set, hml]; exact hl
        · unfold maxLen; omega
      case measure => simp [intOf]; omega
    · have hke : j = ks.length := by omega
      have HV : Hid (k + 2 * (szL ks : Int) = labAt ks k j) := by subst hke; exact (labAt_end ks k).symm
      have HD : Hid (ms = labL ks k) := by subst hke; exact HH.out.done
      clear hke hkr
      go_wp2_with fail
      go_ret
      exact ⟨ret_int HV.out.symm, HD.out ▸ HKR.out, HB.out⟩

theorem markS_any : ∀ (n : Nat) (ks : List Tr), szL ks ≤ n → MarkSSaid ks := by
  intro n
  induction n with
  | zero =>
    intro ks h
    exact markS_step ks fun i hi => absurd (szT_lt_szL ks i hi) (by omega)
  | succ n ih =>
    intro ks h
    exact markS_step ks fun i hi => ih _ (by have := szL_kids_lt ks i hi; omega)

/-- MARKING, FOR EVERY LIST OF TREES WITH DISTINCT BLOCKS -/
theorem markS_calls (ks : List Tr) : MarkSSaid ks := markS_any _ ks (Nat.le_refl _)
end Go.Proofs.YtjpjikfmdaejeaaGreatDoor
/-
  THE LAWS' OWN MARKING OF A PROGRAM (markDefS): the count; no block but its own is changed.
-/
namespace Go.Proofs.YtjpjikfmdaejeaaGreatDoor
set_option linter.unusedVariables false
set_option linter.unusedSimpArgs false
open Go.RowKit

/-- the nodes below the bodies -/
def sumZ (ds : List Df) : Nat := (ds.map fun d => szL d.2.kids).sum
theorem sumZ_take (ds : List Df) (j : Nat) (h : j < ds.length) : sumZ (ds.take (j + 1)) = sumZ (ds.take j) + szL ds[j].2.kids := by
  unfold sumZ; rw [List.take_succ_eq_append_getElem h, List.map_append, List.sum_append]; simp only [List.map_cons, List.map_nil, List.sum_cons, List.sum_nil, Nat.add_zero]
theorem sumZ_le (ds : List Df) (j : Nat) : sumZ (ds.take j) ≤ sumZ ds := by
  have h : sumZ (ds.take j) + sumZ (ds.drop j) = sumZ ds := by
    unfold sumZ
    rw [← List.sum_append, ← List.map_append, List.take_append_drop]
  omega
theorem sumZ_szL (ds : List Df) : sumZ ds + ds.length ≤ szL (bodies ds) := by
  induction ds with
  | nil => simp [sumZ, bodies]
  | cons d ds ih =>
    have h1 : sumZ (d :: ds) = szL d.2.kids + sumZ ds := by simp [sumZ]
    have h2 : szL (bodies (d :: ds)) = 1 + szT d.2 + szL (bodies ds) := by
      show szL (d.2 :: bodies ds) = _
      simp [szL]
    have h3 := szT_eq d.2
    rw [h1, h2, List.length_cons]
    omega
/-- what holds when j functions have been marked -/
structure MD (ds : List Df) (bl : Nat) (fps : List (List Nat)) (g : Nat → Value) (w : World) (j : Nat) (wr : World) : Prop where
  row : ∃ f, wr.rowIs bl 56 (ds.length * 4) f ∧ ∀ i, i < ds.length → f (i * 4 + 3) = g i
  kids : ∀ i (hi : i < ds.length) (hi2 : i < fps.length), j ≤ i → KidsFp wr 54 ds[i].2.kids fps[i] (g i)
  but : ButL (bl :: fps.flatten) w wr
theorem MD.step {ds : List Df} {bl : Nat} {fps : List (List Nat)} {g : Nat → Value} {w wr w1 : World} {j : Nat} (h : MD ds bl fps g w j wr) (hj : j < ds.length) (hj2 : j < fps.length) (hn : (bl :: fps.flatten).Nodup) (x y z : Value)
    (hb : ButL fps[j] (((wr.setCell ⟨bl, j * 4, none⟩ x).setCell ⟨bl, j * 4 + 1, none⟩ y).setCell ⟨bl, j * 4 + 2, none⟩ z) w1) : MD ds bl fps g w (j + 1) w1 := by
  obtain ⟨f, hr, hf⟩ := h.row
  rw [List.nodup_cons] at hn
  have hlt := hr.lt
  have hnot : ∀ i (hi : i < fps.length), bl ∉ fps[i] := fun i hi hm => hn.1 (List.mem_flatten.2 ⟨_, List.getElem_mem hi, hm⟩)
  have hss : (((wr.setCell ⟨bl, j * 4, none⟩ x).setCell ⟨bl, j * 4 + 1, none⟩ y).setCell ⟨bl, j * 4 + 2, none⟩ z).heap.size = wr.heap.size := by rw [size_setCell, size_setCell, size_setCell]
  have hbl : ∀ k, k ≠ bl → (((wr.setCell ⟨bl, j * 4, none⟩ x).setCell ⟨bl, j * 4 + 1, none⟩ y).setCell ⟨bl, j * 4 + 2, none⟩ z).heap[k]? = wr.heap[k]? := fun k hk => by
    rw [Below.heap_setCell _ _ _ _ hk, Below.heap_setCell _ _ _ _ hk, Below.heap_setCell _ _ _ _ hk]
  have hr3 := ((hr.set (j * 4) x).set (j * 4 + 1) y).set (j * 4 + 2) z
  refine ⟨⟨_, hr3.of_block (hb.block bl (by rw [hss]; exact hlt) (hnot j hj2)), fun i hi => ?_⟩, fun i hi hi2 hij => ?_, ?_⟩
  · simp only [if_neg (show ¬ (i * 4 + 3 = j * 4 + 2) by omega), if_neg (show ¬ (i * 4 + 3 = j * 4 + 1) by omega), if_neg (show ¬ (i * 4 + 3 = j * 4) by omega)]
    exact hf i hi
  · have hk := h.kids i hi hi2 (by omega)
    refine hk.keep fun k hm => ?_
    have hkl := hk.lt k hm
    exact (hb.block k (by rw [hss]; exact hkl) (flatten_disj hn.2 (List.getElem?_eq_getElem hi2) (List.getElem?_eq_getElem hj2) (by omega) k hm)).trans (hbl k (fun e => hnot i hi2 (e ▸ hm)))
  · have h2 : ButL (bl :: fps.flatten) wr w1 := by
      refine ⟨hb.os, hb.tape, hb.output, by have := hb.size; rw [hss] at this; exact this, fun k hk hm => ?_⟩
      simp only [List.mem_cons, not_or] at hm
      exact (hb.block k (by rw [hss]; exact hk) (fun hx => hm.2 (List.mem_flatten.2 ⟨_, List.getElem_mem hj2, hx⟩))).trans (hbl k hm.1)
    exact h.but.trans h2

set_option maxHeartbeats 800000 in
theorem markDefs_calls (ds : List Df) (fp : List Nat) (v : Value) (k : Int) (w : World) (hc : DefsFp w ds fp v) (hn : fp.Nodup) (h0 : 0 ≤ k) (h1 : k ≤ 576460752303423488) (hs : szL (bodies ds) ≤ 1048576) :
    Calls Tryz.prog 13 #[v, .int .i64 k] w fun e w' => e = .returned (.int .i64 (k + (3 * ds.length + 2 * sumZ ds : Nat))) ∧ ButL fp w w' := by
  obtain ⟨bl, f, fps, rfl, hl, hr, rfl, hfl, hi⟩ := hc
  have hsz := sumZ_szL ds
  have HS : Hid (sumZ ds + ds.length ≤ 1048576) := by rw [Hid]; omega
  have HFL := mkHid hfl
  have HND := mkHid hn
  have HST : Hid (MD ds bl fps (fun i => f (i * 4 + 3)) w 0 w) := ⟨⟨f, hr, fun _ _ => rfl⟩, fun i h1 h2 _ => (trFp_iff.1 (hi i h1 h2).2.2).2.2.2.2, ButL.refl _ _⟩
  obtain ⟨g, hg⟩ : ∃ g : Nat → Value, g = fun i => f (i * 4 + 3) := ⟨_, rfl⟩
  rw [← hg] at HST
  have hm : ds.length ≤ 1048576 := hl
  clear hr hfl hi hn hsz hs hl hg
  go_enter Tryz.func13, Tryz.ntmps13
  go_wp2_with fail
  go_loopw [1, 5] (fun qv i wr => ∃ (j : Nat) (q : Int), j ≤ ds.length ∧ i = .int .i64 j ∧ qv = .int .i64 q ∧ Hid (q = k + ((3 * j + 2 * sumZ (ds.take j) : Nat) : Int)) ∧ MD ds bl fps g w j wr) (fun _ i _ => ds.length - (intOf i).toNat)
  case atStart => exact ⟨0, k, Nat.zero_le _, rfl, rfl, by simp [Hid, sumZ], HST.out⟩
  case round =>
    obtain ⟨j, q, hj, rfl, rfl, HQ, hmd⟩ := hrel
    have HMD := mkHid hmd
    by_cases hlt : j < ds.length
    · have e1 := sumZ_take ds j hlt
      have e2 := sumZ_le ds (j + 1)
      have hj2 : j < fps.length := by rw [HFL.out]; exact hlt
      have hq := HQ.out
      have hss := HS.out
      have hq0 : 0 ≤ q := by omega
      have hq1 : q + 3 + 2 * (szL ds[j].2.kids : Int) ≤ 1152921504606846976 := by omega
      have HE : Hid (q + 3 + 2 * (szL ds[j].2.kids : Int) = k + ((3 * (j + 1) + 2 * sumZ (ds.take (j + 1)) : Nat) : Int)) := by rw [Hid]; omega
      obtain ⟨f1, hrow, hf1⟩ := hmd.row
      have c0 := hrow.cell (i := j * 4) (by omega)
      have f0 := hrow.frozen (j * 4)
      have r1 := hrow.set (j * 4) (.int .i64 q)
      have c1 := r1.cell (i := j * 4 + 1) (by omega)
      have g1 := r1.frozen (j * 4 + 1)
      have r2 := r1.set (j * 4 + 1) (.int .i64 (q + 1))
      have c2 := r2.cell (i := j * 4 + 2) (by omega)
      have g2 := r2.frozen (j * 4 + 2)
      have r3 := r2.set (j * 4 + 2) (.int .i64 (q + 1 + 1))
      have c3 := r3.cell (i := j * 4 + 3) (by omega)
      simp only [if_neg (show ¬ (j * 4 + 3 = j * 4 + 2) by omega), if_neg (show ¬ (j * 4 + 3 = j * 4 + 1) by omega), if_neg (show ¬ (j * 4 + 3 = j * 4) by omega), if_neg (show ¬ (j * 4 + 2 = j * 4 + 1) by omega), if_neg (show ¬ (j * 4 + 2 = j * 4) by omega), if_neg (show ¬ (j * 4 + 1 = j * 4) by omega), hf1 j hlt] at c1 c2 c3
      have hkf := hmd.kids j hlt hj2 (Nat.le_refl _)
      have hbl : ∀ x ∈ fps[j], (((wr.setCell ⟨bl, j * 4, none⟩ (.int .i64 q)).setCell ⟨bl, j * 4 + 1, none⟩ (.int .i64 (q + 1))).setCell ⟨bl, j * 4 + 2, none⟩ (.int .i64 (q + 1 + 1))).heap[x]? = wr.heap[x]? := fun x hx => by
        have hne : x ≠ bl := fun e => by
          have hn := HND.out
          rw [List.nodup_cons] at hn
          exact hn.1 (List.mem_flatten.2 ⟨_, List.getElem_mem hj2, e ▸ hx⟩)
        rw [Below.heap_setCell _ _ _ _ hne, Below.heap_setCell _ _ _ _ hne, Below.heap_setCell _ _ _ _ hne]
      have hnd : fps[j].Nodup := by
        have hn := HND.out
        rw [List.nodup_cons] at hn
        exact flatten_one hn.2 (List.getElem?_eq_getElem hj2)
      have HC := mkHid (markS_calls ds[j].2.kids fps[j] (g j) (q + 1 + 1 + 1) _ (hkf.keep hbl) hnd (by omega) (by omega))
      have HJI : (j : Int) < (ds.length : Int) := by omega
      have HNX : Hid (∀ w1, ButL fps[j] (((wr.setCell ⟨bl, j * 4, none⟩ (.int .i64 q)).setCell ⟨bl, j * 4 + 1, none⟩ (.int .i64 (q + 1))).setCell ⟨bl, j * 4 + 2, none⟩ (.int .i64 (q + 1 + 1))) w1 → MD ds bl fps g w (j + 1) w1) := fun w1 hb => HMD.out.step hlt hj2 HND.out _ _ _ hb
      clear hmd hf1 hrow r1 r2 r3 e1 e2 hq hss hbl hnd hkf
      go_wp2_with fail
      refine HC.out.mono ?_
      rintro e w1 ⟨rfl, -, hb1⟩
      have HM1 := mkHid (HNX.out w1 hb1)
      clear hb1
      go_wp2_with fail
      go_roundw
      case rel => exact ⟨j + 1, _, by omega, by go_num, rfl, by rw [← HE.out, Hid]; omega, HM1.out⟩
      case measure => simp [intOf]; omega
    · have hke : j = ds.length := by omega
      have HV : Hid (q = k + ((3 * ds.length + 2 * sumZ ds : Nat) : Int)) := by
        have h := HQ.out
        rw [hke, List.take_length] at h
        exact h
      clear hke hmd HQ
      go_wp2_with fail
      go_ret
      exact ⟨ret_int HV.out, HMD.out.but⟩
end Go.Proofs.YtjpjikfmdaejeaaGreatDoor
/-
  A COPY OF A GRAPH, AS ROWS THAT MAY BE MARKED.
-/
namespace Go.Proofs.YtjpjikfmdaejeaaGreatDoor
set_option linter.unusedVariables false
set_option linter.unusedSimpArgs false
open Go.RowKit

theorem CellRow.shape {w : World} {lo : Nat} {g : List Ce} {v : Value} (h : CellRow w lo g v) : CShape w (List.range' lo (w.heap.size - lo)) (g.map (·.kids.length)) v := by
  obtain ⟨ad, cap, e, l1, l2, h⟩ := h
  refine ⟨ad, cap, by rw [List.length_map]; exact e, by rw [List.length_map]; exact l1, l2, ?_⟩
  rcases h with rfl | ⟨b, f, rfl, hb, hr, hf⟩
  · exact Or.inl rfl
  · refine Or.inr ⟨b, f, rfl, by rw [List.mem_range'_1]; have := hr.lt; omega, hr, fun i hi => ?_⟩
    rw [List.length_map] at hi
    obtain ⟨-, -, -, -, ad2, cap2, e2, l3, l4, h2⟩ := hf i hi
    refine ⟨ad2, cap2, by rw [e2]; simp, by simpa using l3, l4, ?_⟩
    rcases h2 with h2 | ⟨b2, f2, rfl, hb2, hr2, -⟩
    · left; simp [h2]
    · exact Or.inr ⟨b2, f2, rfl, by rw [List.mem_range'_1]; have := hr2.lt; omega, hr2⟩
theorem sum_shape (g : List Ce) : sumN' (g.map (·.kids.length)) = sumK g := rfl
end Go.Proofs.YtjpjikfmdaejeaaGreatDoor
