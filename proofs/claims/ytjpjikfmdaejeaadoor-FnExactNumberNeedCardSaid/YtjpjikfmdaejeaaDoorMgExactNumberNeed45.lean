/-
  THE MODEL's l4Step AND l4Eval.
-/
import Derived.Test.YtjpjikfmdaejeaaDoorMgExactNumberNeed43
import Derived.Test.YtjpjikfmdaejeaaDoorMgExactNumberNeed44
import Derived.Deep.LoopGhost
import Derived.Test.YtjpjikfmdaejeaaDoorMgExactNumberNeed33
import Derived.Test.YtjpjikfmdaejeaaDoorMgExactNumberNeed30
import Derived.Test.YtjpjikfmdaejeaaDoorMgExactNumberNeed16
import Derived.Test.YtjpjikfmdaejeaaDoorMgExactNumberNeed24
import Derived.Test.YtjpjikfmdaejeaaDoorMgExactNumberNeed39
import Derived.WalkSpells
namespace Go.Proofs.YtjpjikfmdaejeaaDoor
set_option linter.unusedVariables false
set_option linter.unusedSimpArgs false
open Go.RowKit

theorem changeG_code {ds : List Df} {g : List Ce} {at' : Nat} : (changeG ds g at').2 ≤ 3 := by
  unfold changeG callG; split <;> (try split) <;> simp
theorem stepG_code {ds : List Df} {g : List Ce} {a : Nat} : (stepG ds g a).2 ≤ 3 := by
  unfold stepG; cases redex (arsOf ds) g a with
  | none => simp
  | some at' => exact changeG_code
set_option maxRecDepth 100000 in
set_option maxHeartbeats 1600000 in
theorem l4Step_calls (ds : List Df) (g : List Ce) (a : Nat) (c v : Value) (w : World) (hd : DIn w ds c) (hk : CIn w g v) (hg : graphB g ds.length = true) (hp : progB ds = true) (ha : a < g.length) (hv : valB (arsOf ds) g a = false) :
    Calls Tryd.prog 54 #[c, v, .int .i64 (a : Int)] w (StG (stepG ds g a) w) := by
  have HD : Hid (DIn w ds c) := hd
  have HK : Hid (CIn w g v) := hk
  have HG := mkHid hg
  have HP := mkHid hp
  have HV0 := mkHid hv
  clear hg hp hv hd hk
  have HRX := mkHid (l4R_all ds g HG.out HP.out (g.length + 1) 0 a c v w HD.out HK.out ha (by omega) HV0.out)
  go_enter Tryd.func54, Tryd.ntmps54
  go_wp2_with fail
  refine HRX.out.mono ?_
  rintro e w1 ⟨rfl, hb1⟩
  have HB1 : Hid (Below w.heap.size w w1) := hb1
  clear hb1
  cases hr : redexN (arsOf ds) g (g.length + 1) a with
  | none =>
    have HV : Hid (stepG ds g a = (g, 2)) := by unfold Hid stepG redex; rw [hr]
    have e1 : rdI none = 0 := rfl
    have e2 : ((rdC none : Nat) : Int) = 2 := rfl
    rw [e1, e2]
    obtain ⟨ad, cap, rfl, -, -, -⟩ := id HK.out
    clear hr
    go_wp2_with fail
    go_ret2
    rw [HV.out]
    exact ⟨_, rfl, HK.out.next HB1.out, HB1.out⟩
  | some at' =>
    have HV : Hid (stepG ds g a = changeG ds g at') := by unfold Hid stepG redex; rw [hr]
    have HRD := mkHid (redex_ready HG.out HP.out ha HV0.out hr)
    have e1 : rdI (some at') = (at' : Int) := rfl
    have e2 : ((rdC (some at') : Nat) : Int) = 0 := rfl
    rw [e1, e2]
    clear hr
    go_wp2_with fail
    refine (l4Change_calls ds g at' _ _ w1 (HD.out.next HB1.out) (HK.out.next HB1.out) HG.out HP.out HRD.out).mono ?_
    rintro e w2 ⟨v2, rfl, hi2, hb2⟩
    have HB2 : Hid (Below w.heap.size w w2) := HB1.out.trans (hb2.mono HB1.out.size)
    have HI2 := mkHid hi2
    obtain ⟨ad2, cap2, rfl, -, -, -⟩ := hi2
    clear hb2
    go_wp2_with fail
    go_ret2
    rw [HV.out]
    exact ⟨_, rfl, HI2.out, HB2.out⟩

/-- a graph, a code and a number of steps -/
def EvG (r : List Ce × Nat × Nat) (w : World) (e : Ending) (w' : World) : Prop := ∃ v, e = .returned (.tuple #[v, .int .i64 (r.2.1 : Int), .int .i64 (r.2.2 : Int)]) ∧ CIn w' r.1 v ∧ Below w.heap.size w w'
/-- what holds behind n steps: the rest of the evaluation -/
def EvRel (ds : List Df) (a : Nat) (fuel : Nat) (g0 : List Ce) (n : Nat) (g : List Ce) : Prop := n ≤ fuel ∧ graphB g ds.length = true ∧ a < g.length ∧ evalG ds a fuel g0 = ((evalG ds a (fuel - n) g).1, (evalG ds a (fuel - n) g).2.1, (evalG ds a (fuel - n) g).2.2 + n)
theorem EvRel.start {ds : List Df} {a fuel : Nat} {g : List Ce} (hg : graphB g ds.length = true) (ha : a < g.length) : EvRel ds a fuel g 0 g := ⟨Nat.zero_le _, hg, ha, by simp⟩
theorem evalG_val {ds : List Df} {a n : Nat} {g : List Ce} (h : valB (arsOf ds) g a = true) : evalG ds a n g = (g, 0, 0) := by
  cases n <;> (unfold evalG; rw [if_pos h])
theorem evalG_fuel {ds : List Df} {a : Nat} {g : List Ce} (h : valB (arsOf ds) g a = false) : evalG ds a 0 g = (g, 1, 0) := by
  unfold evalG; rw [if_neg (by rw [h]; simp)]
theorem evalG_stop {ds : List Df} {a n : Nat} {g : List Ce} (h : valB (arsOf ds) g a = false) (hc : (stepG ds g a).2 ≠ 0) : evalG ds a (n + 1) g = (g, (stepG ds g a).2, 0) := by
  unfold evalG; rw [if_neg (by rw [h]; simp), if_neg hc]
theorem evalG_step {ds : List Df} {a n : Nat} {g : List Ce} (h : valB (arsOf ds) g a = false) (hc : (stepG ds g a).2 = 0) : evalG ds a (n + 1) g = ((evalG ds a n (stepG ds g a).1).1, (evalG ds a n (stepG ds g a).1).2.1, (evalG ds a n (stepG ds g a).1).2.2 + 1) := by
  conv => lhs; unfold evalG
  rw [if_neg (by rw [h]; simp), if_pos hc]
theorem EvRel.val {ds : List Df} {a fuel n : Nat} {g0 g : List Ce} (h : EvRel ds a fuel g0 n g) (hv : valB (arsOf ds) g a = true) : evalG ds a fuel g0 = (g, 0, n) := by
  rw [h.2.2.2, evalG_val hv]; simp
theorem EvRel.fuel {ds : List Df} {a fuel : Nat} {g0 g : List Ce} (h : EvRel ds a fuel g0 fuel g) (hv : valB (arsOf ds) g a = false) : evalG ds a fuel g0 = (g, 1, fuel) := by
  rw [h.2.2.2, Nat.sub_self, evalG_fuel hv]; simp
theorem EvRel.stop {ds : List Df} {a fuel n : Nat} {g0 g : List Ce} (h : EvRel ds a fuel g0 n g) (hn : n < fuel) (hv : valB (arsOf ds) g a = false) (hc : (stepG ds g a).2 ≠ 0) : evalG ds a fuel g0 = (g, (stepG ds g a).2, n) := by
  rw [h.2.2.2, show fuel - n = (fuel - n - 1) + 1 by omega, evalG_stop hv hc]; simp
theorem EvRel.next {ds : List Df} {a fuel n : Nat} {g0 g : List Ce} (h : EvRel ds a fuel g0 n g) (hp : progB ds = true) (hn : n < fuel) (hv : valB (arsOf ds) g a = false) (hc : (stepG ds g a).2 = 0) : EvRel ds a fuel g0 (n + 1) (stepG ds g a).1 := by
  have hs := stepG_valid h.2.1 hp h.2.2.1 hv
  have ha := h.2.2.1
  refine ⟨hn, hs.1, by omega, ?_⟩
  rw [h.2.2.2, show fuel - n = (fuel - (n + 1)) + 1 by omega, evalG_step hv hc]
  simp only [Prod.mk.injEq, true_and]
  omega

set_option maxRecDepth 100000 in
set_option maxHeartbeats 3200000 in
theorem l4Eval_calls (ds : List Df) (g : List Ce) (a fuel : Nat) (c v : Value) (w : World) (hd : DIn w ds c) (hk : CIn w g v) (hg : graphB g ds.length = true) (hp : progB ds = true) (ha : a < g.length) (hf : fuel ≤ 300) :
    Calls Tryd.prog 34 #[c, v, .int .i64 (a : Int), .int .i64 (fuel : Int)] w (EvG (evalG ds a fuel g) w) := by
  have HD : Hid (DIn w ds c) := hd
  have HK : Hid (CIn w g v) := hk
  have HP := mkHid hp
  have HST := mkHid (EvRel.start (fuel := fuel) hg ha)
  clear hg hp hd hk
  go_enter Tryd.func34, Tryd.ntmps34
  go_wp2_with fail
  go_loopw [1, 11] (fun gv nv wr => ∃ (n : Nat) (G : List Ce), nv = .int .i64 (n : Int) ∧ EvRel ds a fuel g n G ∧ CIn wr G gv ∧ Below w.heap.size w wr) (fun _ nv _ => fuel + 1 - (intOf nv).toNat)
  case atStart => exact ⟨0, g, rfl, HST.out, HK.out, Below.refl _ _⟩
  case round =>
    obtain ⟨n, G, rfl, hrel, hgv, hb⟩ := hrel
    have HR := mkHid hrel
    have HI := mkHid hgv
    have HB := mkHid hb
    have hnf := hrel.1
    obtain ⟨ad, cap, rfl, -, -, -⟩ := hgv
    clear hrel hb
    go_wp2_with fail
    refine (l4Value_calls ds G a _ _ wr (HD.out.next HB.out) HI.out HR.out.2.1 HR.out.2.2.1).mono ?_
    rintro e w1 ⟨rfl, hb1⟩
    have HB1 : Hid (Below w.heap.size w w1) := HB.out.trans (hb1.mono HB.out.size)
    have HI1 := mkHid (HI.out.next hb1)
    clear hb1
    cases hv : valB (arsOf ds) G a with
    | true =>
      have HV := mkHid (HR.out.val hv)
      clear hv
      go_wp2_with fail
      go_ret3
      rw [HV.out]
      exact ⟨_, rfl, HI1.out, HB1.out⟩
    | false =>
      have HVF := mkHid hv
      clear hv
      by_cases hnn : n = fuel
      · subst hnn
        have HV := mkHid (HR.out.fuel HVF.out)
        go_wp2_with fail
        go_ret3
        rw [HV.out]
        exact ⟨_, rfl, HI1.out, HB1.out⟩
      have hnlt : n < fuel := by omega
      have tn : ((n : Int) == (fuel : Int)) = false := by rw [beq_eq_false_iff_ne]; omega
      clear hnn
      go_wp2_with fail
      refine (l4Step_calls ds G a _ _ w1 (HD.out.next HB1.out) HI1.out HR.out.2.1 HP.out HR.out.2.2.1 HVF.out).mono ?_
      rintro e w2 ⟨v2, rfl, hi2, hb2⟩
      have HB2 : Hid (Below w.heap.size w w2) := HB1.out.trans (hb2.mono HB1.out.size)
      have HI2 := mkHid hi2
      have HI12 := mkHid (HI1.out.next hb2)
      obtain ⟨ad2, cap2, rfl, -, -, -⟩ := hi2
      clear hb2
      by_cases hc : (stepG ds G a).2 = 0
      · have HN := mkHid (HR.out.next HP.out hnlt HVF.out hc)
        rw [hc]
        have e0 : ((0 : Nat) : Int) = 0 := rfl
        rw [e0]
        clear hc
        go_wp2_with fail
        go_roundw
        case rel => exact ⟨n + 1, _, by go_num, HN.out, HI2.out, HB2.out⟩
        case measure => simp [intOf]; omega
      · have HV := mkHid (HR.out.stop hnlt HVF.out hc)
        have tc : (((stepG ds G a).2 : Int) != 0) = true := by simp; omega
        clear hc
        go_wp2_with fail
        go_ret3
        rw [HV.out]
        exact ⟨_, rfl, HI12.out, HB2.out⟩
end Go.Proofs.YtjpjikfmdaejeaaDoor
/-
  THE PROGRAM's reduce, OF WHAT call DOES (CallSaid: proved elsewhere).
-/
namespace Go.Proofs.YtjpjikfmdaejeaaDoor
set_option linter.unusedVariables false
set_option linter.unusedSimpArgs false
open Go.RowKit

theorem box4_set {w : World} {B : Nat} {a b c d : Value} {T : TypeId} (h : w.heap[B]? = some (.cells #[a, b, c, d] T)) (v : Value) : (w.setCell ⟨B, 3, none⟩ v).heap[B]? = some (.cells #[a, b, c, v] T) := by
  simp [World.setCell, Array.getElem?_modify, h]
/-- one step more -/
theorem RedW.tick {R A lo : Nat} {c : Value} {fu st st' : Int} {g : List Ce} {w : World} (h : RedW R A lo c fu st g w) : RedW R A lo c fu st' g (w.setCell ⟨R, 3, none⟩ (.int .i64 st')) := by
  obtain ⟨ad, cap, h1, h2⟩ := h.are
  have hRA : A ≠ R := by rintro rfl; have := h.red; rw [h1] at this; simp at this
  have hst : ∀ k, k ≠ R → (w.setCell ⟨R, 3, none⟩ (.int .i64 st')).heap[k]? = w.heap[k]? := fun k hk => Below.heap_setCell _ _ _ _ hk
  obtain ⟨hi0, xs, kb, g1, g2, g3⟩ := h2
  refine ⟨box4_set h.red _, ⟨ad, cap, (hst A hRA).trans h1, hi0, xs, kb, ⟨g1.1, ?_⟩, fun j hj => ?_, g3⟩, h.loR, h.loA⟩
  · rcases g1.2 with hz | ⟨b, cap', cur, e, hg, hh, r⟩
    · exact Or.inl hz
    · exact Or.inr ⟨b, cap', cur, e, hg, (hst b (by rintro rfl; rw [h.red] at hh; simp at hh)).trans hh, r⟩
  · obtain ⟨kv, e0, e1, e2, e3⟩ := g2 j hj
    exact ⟨kv, e0, e1, e2, e3.keep (fun _ hz _ => hz) fun C _ _ h5 => hst _ (by intro hk; rw [hk, h.red] at h5; simp at h5)⟩
theorem stepG_stay {ds : List Df} {g : List Ce} {a : Nat} (h : (stepG ds g a).2 ≠ 0) : (stepG ds g a).1 = g := by
  unfold stepG at h ⊢
  split
  · rfl
  · rename_i at' hx
    rw [hx] at h
    simp only at h ⊢
    unfold changeG at h ⊢
    split
    · rename_i h34
      rw [if_pos h34] at h
      unfold callG at h ⊢
      split
      · rename_i h4
        rw [if_pos h4] at h
        simp at h
      · rfl
    · rename_i h34
      rw [if_neg h34] at h
      simp at h
theorem errV_iface (aF aS aL : Addr) {k : Nat} (h : k ≠ 0) : ∃ X, errV aF aS aL k = .iface 183 (.pointer (some X)) := by
  unfold errV
  rw [if_neg h]
  split
  · exact ⟨_, rfl⟩
  · split <;> exact ⟨_, rfl⟩

/-- an evaluation is over: the error, the graph and the steps -/
def RedD (aF aS aL : Addr) (R A lo : Nat) (c : Value) (fu : Int) (r : List Ce × Nat × Nat) (w : World) (e : Ending) (w' : World) : Prop := e = .returned (errV aF aS aL r.2.1) ∧ RedW R A lo c fu (r.2.2 : Int) r.1 w' ∧ Below lo w w' ∧ Kp R A w w'

set_option maxRecDepth 100000 in
set_option maxHeartbeats 3200000 in
theorem reduce_calls (hcall : CallSaid) (aF aS aL : Addr) (ds : List Df) (g : List Ce) (R A a fuel : Nat) (c : Value) (w0 w : World) (hE : Errs aF aS aL w0) (h0 : Below w0.heap.size w0 w) (h : RedW R A w0.heap.size c (fuel : Int) 0 g w) (hd : DInP w0 ds c) (hg : graphB g ds.length = true) (hp : progB ds = true) (ha : a < g.length) (hf : fuel ≤ 300) :
    Calls Tryd.prog 58 #[.pointer (some ⟨R, 0, none⟩), .int .i64 (a : Int)] w (RedD aF aS aL R A w0.heap.size c (fuel : Int) (evalG ds a fuel g) w) := by
  have HST := mkHid (EvRel.start (fuel := fuel) hg ha)
  have HW := mkHid h
  have H0 := mkHid h0
  have HIV : Hid (∀ (W : World) (G : List Ce) (v : Value), Below w0.heap.size w0 W → CIn W G v → graphB G ds.length = true → a < G.length → Calls Tryd.prog 83 #[c, v, .int .i64 (a : Int)] W fun e w' => e = .returned (.bool (valB (arsOf ds) G a)) ∧ Below W.heap.size W w') := fun W G v hb hk h1 h2 => isValueCell_calls ds G a c v W (hd.inP.next hb) hk h1 h2
  have HSP : Hid (∀ (W : World) (G : List Ce) (k : Int), Below w0.heap.size w0 W → RedW R A w0.heap.size c (fuel : Int) k G W → graphB G ds.length = true → a < G.length → valB (arsOf ds) G a = false → Calls Tryd.prog 84 #[.pointer (some ⟨R, 0, none⟩), .int .i64 (a : Int)] W (StepD aF aS aL R A w0.heap.size c (fuel : Int) k (stepG ds G a) W)) := fun W G k hb h1 h2 h3 h4 =>
    step_calls hcall aF aS aL ds G R A w0.heap.size a c (fuel : Int) k W (hE.next hb) h1 hb.size (hd.mono (fun k hk => ⟨hk.1, hk.next hb⟩) (fun k hk => hb.block k hk.1)) h2 hp h3 h4
  have HP := mkHid hp
  have HE := mkHid hE
  clear h h0 hd hg hp ha hE hcall
  go_enter Tryd.func58, Tryd.ntmps58
  go_wp2_with fail
  go_loopg [] (fuel + 1) (fun k wr => ∃ (n : Nat) (G : List Ce), k = fuel + 1 - n ∧ EvRel ds a fuel g n G ∧ RedW R A w0.heap.size c (fuel : Int) (n : Int) G wr ∧ Below w0.heap.size w0 wr ∧ Below w0.heap.size w wr ∧ Kp R A w wr)
  case atStart => exact ⟨0, g, rfl, HST.out, HW.out, H0.out, Below.refl _ _, Kp.below (Below.refl _ _) HW.out.ltA⟩
  case round =>
    obtain ⟨n, G, rfl, hrel, hrw, hb0, hb, hkp⟩ := hrel
    have HR := mkHid hrel
    have HRW := mkHid hrw
    have HB0 := mkHid hb0
    have HB := mkHid hb
    have HKP := mkHid hkp
    have hnf := hrel.1
    obtain ⟨ad, cap, hA, hC⟩ := hrw.inn
    have HCI := mkHid hC
    have HRR := mkHid hrw.red
    have HAA := mkHid hA
    have r0 := cell_of_blk hrw.red 0 _ rfl
    have r1 := cell_of_blk hrw.red 1 _ rfl
    have a0 := cell_of_blk hA 0 _ rfl
    clear hrel hrw hb0 hb hkp hA hC
    go_wp2_with fail
    go_region_held3 (fun w' => w'.cell? ⟨R, 0, none⟩ = some (.pointer (some ⟨A, 0, none⟩)) ∧ w'.cell? ⟨R, 1, none⟩ = some c ∧ w'.cell? ⟨A, 0, none⟩ = some (.slice ad G.length cap))
      (first
        | go_keep
        | exact ⟨m0, m1, m2⟩
        | exact ⟨r0, r1, a0⟩)
      (first
        | (go_at_call 83; refine (HIV.out wr.drew G _ HB0.out.drew (HCI.out.next ((Below.refl _ _).drew)) HR.out.2.1 HR.out.2.2.1).mono ?_; rintro e w1 ⟨rfl, hb1⟩; have HB1 : Hid (Below wr.heap.size wr w1) := (Below.refl _ _).drew.trans hb1; have m0 := cell_of_blk ((HB1.out.block _ (Array.getElem?_eq_some_iff.1 HRR.out).1).trans HRR.out) 0 _ rfl; have m1 := cell_of_blk ((HB1.out.block _ (Array.getElem?_eq_some_iff.1 HRR.out).1).trans HRR.out) 1 _ rfl; have m2 := cell_of_blk ((HB1.out.block _ (Array.getElem?_eq_some_iff.1 HAA.out).1).trans HAA.out) 0 _ rfl; clear hb1))
    have m3 := cell_of_blk ((HB1.out.block _ (Array.getElem?_eq_some_iff.1 HRR.out).1).trans HRR.out) 2 _ rfl
    have m4 := cell_of_blk ((HB1.out.block _ (Array.getElem?_eq_some_iff.1 HRR.out).1).trans HRR.out) 3 _ rfl
    have HW1 := mkHid (HRW.out.next HB1.out)
    have HB01 : Hid (Below w0.heap.size w0 w1) := HB0.out.trans (HB1.out.mono HB0.out.size)
    have HBW1 : Hid (Below w0.heap.size w w1) := HB.out.trans (HB1.out.mono HB0.out.size)
    have HKP1 : Hid (Kp R A w w1) := HKP.out.trans (Kp.below HB1.out HRW.out.ltA)
    cases hv : valB (arsOf ds) G a with
    | true =>
      have HV := mkHid (HR.out.val hv)
      clear hv
      go_wp2_with fail
      go_ret
      exact ⟨by rw [HV.out]; rfl, by rw [HV.out]; exact HW1.out, HBW1.out, HKP1.out⟩
    | false =>
      have HVF := mkHid hv
      clear hv
      by_cases hnn : n = fuel
      · subst hnn
        have HV := mkHid (HR.out.fuel HVF.out)
        have HBD : Hid (∀ k, Below w1.heap.size w1 (w1.drewN k)) := fun k => below_drewN (Below.refl _ _) k
        have cf := fun k => (HE.out.next (HB01.out.trans ((HBD.out k).mono HB01.out.size))).cF
        go_wp2_with fail
        go_quiet (fail)
        go_wp2_with fail
        go_ret
        exact ⟨by rw [HV.out]; rfl, by rw [HV.out]; exact HW1.out.next (HBD.out _), HBW1.out.trans ((HBD.out _).mono HB01.out.size), HKP1.out.trans (Kp.below (HBD.out _) HW1.out.ltA)⟩
      have hnlt : n < fuel := by omega
      have tn : ((n : Int) == (fuel : Int)) = false := by rw [beq_eq_false_iff_ne]; omega
      clear hnn
      have HBD : Hid (∀ k, Below w1.heap.size w1 (w1.drewN k)) := fun k => below_drewN (Below.refl _ _) k
      go_wp2_with fail
      go_quiet (fail)
      go_wp2_with fail
      refine (HSP.out _ G (n : Int) (HB01.out.trans ((HBD.out _).mono HB01.out.size)) (HW1.out.next (HBD.out _)) HR.out.2.1 HR.out.2.2.1 HVF.out).mono ?_
      rintro e w2 ⟨rfl, hw2, hb2, hk2⟩
      have HW2 := mkHid hw2
      have HB02 : Hid (Below w0.heap.size w0 w2) := (HB01.out.trans ((HBD.out _).mono HB01.out.size)).trans hb2
      have HBW2 : Hid (Below w0.heap.size w w2) := (HBW1.out.trans ((HBD.out _).mono HB01.out.size)).trans hb2
      have HKP2 : Hid (Kp R A w w2) := (HKP1.out.trans (Kp.below (HBD.out _) HW1.out.ltA)).trans hk2
      clear hb2 hk2
      by_cases hc : (stepG ds G a).2 = 0
      · have HN := mkHid (HR.out.next HP.out hnlt HVF.out hc)
        have e0 : errV aF aS aL (stepG ds G a).2 = .nilIface := by rw [hc]; rfl
        have q3 := cell_of_blk hw2.red 3 _ rfl
        have qf := frz_of_blk hw2.red
        have HT : Hid (RedW R A w0.heap.size c (fuel : Int) ((n + 1 : Nat) : Int) (stepG ds G a).1 (w2.setCell ⟨R, 3, none⟩ (.int .i64 ((n : Int) + 1)))) := by
          have := hw2.tick (st' := ((n + 1 : Nat) : Int))
          push_cast at this ⊢
          exact this
        have hRlo := hw2.loR
        rw [e0]
        clear hc hw2 e0
        go_wp2_with fail
        go_roundg (fuel + 1 - (n + 1))
        case rel => exact ⟨n + 1, _, rfl, HN.out, HT.out, HB02.out.setCell hRlo _, HBW2.out.setCell hRlo _, HKP2.out.trans (Kp.setR HW2.out.neAR)⟩
        case measure => omega
      · have HV := mkHid (HR.out.stop hnlt HVF.out hc)
        obtain ⟨X, hX⟩ := errV_iface aF aS aL hc
        have HSG := mkHid (stepG_stay hc)
        have HX := mkHid hX
        rw [hX]
        clear hc hw2 hX
        go_wp2_with fail
        go_ret
        exact ⟨by rw [HV.out]; exact congrArg Ending.returned HX.out.symm, by rw [HV.out]; have := HW2.out; rw [HSG.out] at this; exact this, HBW2.out, HKP2.out⟩
end Go.Proofs.YtjpjikfmdaejeaaDoor
/-
  slices.Clone of a list of places.
-/
namespace Go.Proofs.YtjpjikfmdaejeaaDoor
set_option linter.unusedVariables false
set_option linter.unusedSimpArgs false
open Go.RowKit

/-- a copy, in a row of its own -/
def CloneRes (ws : List Nat) (w : World) (e : Ending) (w' : World) : Prop := ∃ v, e = .returned v ∧ Stk w' w.heap.size ws v ∧ Below w.heap.size w w'
theorem clone_below {wr w1 : World} {o : Obj} (h : (wr.alloc o).grownBy w1 (Value.slice (some ⟨wr.heap.size, 0, none⟩) 0 0).ownBlock) : Below wr.heap.size wr w1 :=
  ⟨h.os, h.tape, h.output, by have h1 : (wr.alloc o).heap.size ≤ w1.heap.size := h.size; rw [Deep.nblk_alloc] at h1; omega, fun k hk => (h.block k (by show k < (wr.alloc o).heap.size; rw [Deep.nblk_alloc]; omega) (by simp only [Value.ownBlock, ne_eq, Option.some.injEq]; omega)).trans (Deep.blk_alloc_lt _ _ _ hk)⟩
set_option maxRecDepth 100000 in
set_option maxHeartbeats 1600000 in
theorem cloneI_calls (ws : List Nat) (v : Value) (w : World) (hk : IIn w (ws.map fun (a : Nat) => (a : Int)) v) (hl : ws.length ≤ 1048576) : Calls Tryd.prog 80 #[v] w (CloneRes ws w) := by
  have HK : Hid (IIn w (ws.map fun (a : Nat) => (a : Int)) v) := hk
  obtain ⟨ad, cap, rfl, hlc, hm, hr⟩ := hk
  unfold maxLen at hm
  rcases ad with _ | ad
  · have hnil : ws = [] := by
      rcases hr with h | ⟨_, _, h, -⟩
      · simpa using h
      · simp at h
    subst hnil
    clear hr HK
    have q : (binOp .eql 62 (.slice none 0 cap) (.slice none 0 0)).run Tryd.prog w = .ok (.bool true) w := Lib.run_eql_slice_nil w _ _ none 0 cap 0 0 Tryd.underlying62
    go_enter Tryd.func80, Tryd.ntmps80
    go_wp2_with fail
    go_ret
    exact ⟨_, rfl, World.ownsRow_nil _ _ _ _, Below.refl _ _⟩
  · clear hr
    have q : (binOp .eql 62 (.slice (some ad) ws.length cap) (.slice none 0 0)).run Tryd.prog w = .ok (.bool false) w := Lib.run_eql_slice_nil w _ _ (some ad) ws.length cap 0 0 Tryd.underlying62
    go_enter Tryd.func80, Tryd.ntmps80
    go_wp2_with (at_builtin; go_must (refine wpList_push rfl _ _ rfl _ w.heap.size [] ws (.slice (some ⟨w.heap.size, 0, none⟩) 0 0) (.slice (some ad) (ws.map fun (a : Nat) => (a : Int)).length cap) rfl (stk_zero (Deep.blk_alloc_new w _) (Nat.le_refl _)) rfl (HK.out.next (box_below w _)) rfl (by rw [Deep.nblk_alloc]; omega) (by simp only [List.length_nil]; omega) ?_); go_must (intro v1 w1 hst1 hg1); go_must (have HST1 : Hid (Stk w1 w.heap.size ws v1) := hst1); go_must (have HB1 : Hid (Below w.heap.size w w1) := clone_below hg1); clear hst1 hg1)
    go_ret
    exact ⟨_, rfl, HST1.out, HB1.out⟩
end Go.Proofs.YtjpjikfmdaejeaaDoor
