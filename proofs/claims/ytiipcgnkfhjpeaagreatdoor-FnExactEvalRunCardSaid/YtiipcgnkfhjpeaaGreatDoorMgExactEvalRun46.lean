/-
  THE PROGRAM's reduce, OF WHAT call DOES (CallSaid: proved elsewhere).
-/
import Derived.Test.YtiipcgnkfhjpeaaGreatDoorMgExactEvalRun35
import Derived.Test.YtiipcgnkfhjpeaaGreatDoorMgExactEvalRun25
import Derived.Test.YtiipcgnkfhjpeaaGreatDoorMgExactEvalRun34
import Derived.Deep.LoopGhost
import Derived.Test.YtiipcgnkfhjpeaaGreatDoorMgExactEvalRun42
import Derived.Test.YtiipcgnkfhjpeaaGreatDoorMgExactEvalRun45
import Derived.Test.YtiipcgnkfhjpeaaGreatDoorMgExactEvalRun40
import Derived.Laws.EntriesVeiled
import Derived.Test.YtiipcgnkfhjpeaaGreatDoorMgExactEvalRun26
namespace Go.Proofs.YtiipcgnkfhjpeaaGreatDoor
set_option linter.unusedVariables false
set_option linter.unusedSimpArgs false
open Go.RowKit

theorem box4_set {w : World} {B : Nat} {a b c d : Value} {xs : List Value} {T : TypeId} (h : w.heap[B]? = some (.cells ⟨a :: b :: c :: d :: xs⟩ T)) (v : Value) : (w.setCell ⟨B, 3, none⟩ v).heap[B]? = some (.cells ⟨a :: b :: c :: v :: xs⟩ T) := by
  simp [World.setCell, Array.getElem?_modify, h]
/-- one step more -/
theorem RedW.tick {R A lo : Nat} {c : Value} {fu : Fu} {st st' : Int} {g : List Ce} {w : World} (h : RedW R A lo c fu st g w) : RedW R A lo c fu st' g (w.setCell ⟨R, 3, none⟩ (.int .i64 st')) := by
  obtain ⟨ad, cap, h1, h2⟩ := h.are
  have hRA : A ≠ R := h.neAR
  have hst : ∀ k, k ≠ R → (w.setCell ⟨R, 3, none⟩ (.int .i64 st')).heap[k]? = w.heap[k]? := fun k hk => Below.heap_setCell _ _ _ _ hk
  obtain ⟨hi0, xs, kb, g1, g2, g3⟩ := h2
  refine ⟨box4_set h.red _, ⟨ad, cap, (hst A hRA).trans h1, hi0, xs, kb, ⟨g1.1, ?_⟩, fun j hj => ?_, g3⟩, h.loR, h.loA⟩
  · rcases g1.2 with hz | ⟨b, cap', cur, e, hg, hh, r⟩
    · exact Or.inl hz
    · exact Or.inr ⟨b, cap', cur, e, hg, (hst b (by rintro rfl; exact h.noT (Or.inr (Or.inl rfl)) hh)).trans hh, r⟩
  · obtain ⟨kv, e0, e1, e2, e3⟩ := g2 j hj
    exact ⟨kv, e0, e1, e2, e3.keep (fun _ hz _ => hz) fun C _ _ h5 => hst _ (by intro hk; rw [hk] at h5; exact h.noT (Or.inr (Or.inr rfl)) h5)⟩
theorem stepG_stay {ds : List Df} {g : List Ce} {a : Nat} (h : (stepG ds g a).2 ≠ 0) : (stepG ds g a).1 = g := by
  unfold stepG at h ⊢
  split
  · rfl
  · rename_i at' hx
    rw [hx] at h
    simp only at h ⊢
    unfold changeG at h ⊢
    split
    · rename_i h34
      rw [if_pos h34] at h
      unfold callG at h ⊢
      split
      · rename_i h4
        rw [if_pos h4] at h
        simp at h
      · rfl
    · rename_i h34
      rw [if_neg h34] at h
      simp at h
theorem errV_iface (aF aS aL : Addr) {k : Nat} (h : k ≠ 0) : ∃ X, errV aF aS aL k = .iface 192 (.pointer (some X)) := by
  unfold errV
  rw [if_neg h]
  split
  · exact ⟨_, rfl⟩
  · split <;> exact ⟨_, rfl⟩

end Go.Proofs.YtiipcgnkfhjpeaaGreatDoor
/-
  THE PROGRAM's runner IN MEMORY, and errors.Is of errLarge.
-/
namespace Go.Proofs.YtiipcgnkfhjpeaaGreatDoor
set_option linter.unusedVariables false
set_option linter.unusedSimpArgs false
open Go.RowKit Go.Extern.Stop Go.Stop Go.Extern

set_option maxRecDepth 100000 in
theorem is_nil (a : Addr) (w : World) :
    Calls Tryz.prog 61 #[.nilIface, .iface 192 (.pointer (some a))] w fun e w' => e = .returned (.bool false) ∧ w' = w := by
  have heq := run_eql_iface_nil_left (P := Tryz.prog) w 192 (.pointer (some a)) Tryz.underlying71
  go_enter Tryz.func61, Tryz.ntmps61
  go_wp2
  go_ret
  exact ⟨rfl, rfl⟩
theorem isLarge_calls (aF aS aL : Addr) (k : Nat) (hk : k ≤ 3) (w : World) (h : Errs aF aS aL w) :
    Calls Tryz.prog 61 #[errV aF aS aL k, .iface 192 (.pointer (some aL))] w fun e w' => e = .returned (.bool (decide (k = 3))) ∧ w' = w := by
  obtain ⟨ca, ta, ha⟩ := h.bF
  obtain ⟨cb, tb, hb⟩ := h.bS
  obtain ⟨cc, tc, hc⟩ := h.bL
  match k, hk with
  | 0, _ => exact is_nil aL w
  | 1, _ => exact is_other aF aL ca cc ta tc w h.nFL ha hc
  | 2, _ => exact is_other aS aL cb cc tb tc w h.nSL hb hc
  | 3, _ => exact is_same aL w

/-- the fields of a runner -/
def rqC (S : Nat) (x : Rn) : Array Value := #[.iface 121 (.pointer (some ⟨S, 0, none⟩)), .int .i64 x.steps, .int .i64 x.moved, .int .i64 x.peak, .int .i64 x.ticks, .int .i64 x.rounds, .int .i64 (x.root : Int)]
/-- a runner at Q over a semispace at S, with a run -/
structure RunW (Q S A lo : Nat) (c : Value) (tidy : Bool) (x : Rn) (w : World) : Prop where
  box : w.heap[Q]? = some (.cells (rqC S x) 105)
  red : RedW S A lo c (semi tidy) 0 x.g w
  loQ : lo ≤ Q
theorem RunW.neA {Q S A lo : Nat} {c : Value} {tidy : Bool} {x : Rn} {w : World} (h : RunW Q S A lo c tidy x w) : Q ≠ A := by
  rintro rfl
  obtain ⟨ad, cap, h1, -⟩ := h.red.are
  rw [h.box] at h1
  simp at h1
theorem RunW.neS {Q S A lo : Nat} {c : Value} {tidy : Bool} {x : Rn} {w : World} (h : RunW Q S A lo c tidy x w) : Q ≠ S := by
  rintro rfl
  have h1 := h.red.red
  rw [h.box] at h1
  simp [semi] at h1
theorem RunW.noRow {Q S A lo : Nat} {c : Value} {tidy : Bool} {x : Rn} {w : World} (h : RunW Q S A lo c tidy x w) : NotRow w A Q :=
  h.red.arw.notRow (by intro C r e; rw [h.box] at e; simp at e)
theorem RunW.lt {Q S A lo : Nat} {c : Value} {tidy : Bool} {x : Rn} {w : World} (h : RunW Q S A lo c tidy x w) : Q < w.heap.size := (Array.getElem?_eq_some_iff.1 h.box).1
theorem RunW.next {Q S A lo : Nat} {c : Value} {tidy : Bool} {x : Rn} {w w' : World} (h : RunW Q S A lo c tidy x w) (hb : Below w.heap.size w w') : RunW Q S A lo c tidy x w' :=
  ⟨(hb.block _ h.lt).trans h.box, h.red.next hb, h.loQ⟩
/-- the graph has changed, the runner not -/
theorem RunW.of {Q S A lo : Nat} {c : Value} {tidy : Bool} {x : Rn} {g : List Ce} {w w' : World} (h : RunW Q S A lo c tidy x w) (hk : Kp S A w w') (hr : RedW S A lo c (semi tidy) 0 g w') : RunW Q S A lo c tidy { x with g := g } w' :=
  ⟨((hk.2 Q h.lt h.noRow h.neA h.neS).1).trans h.box, hr, h.loQ⟩
theorem RedW.butQ {R A lo Q : Nat} {c : Value} {fu : Fu} {st : Int} {g : List Ce} {w w' : World} (h : RedW R A lo c fu st g w) (hR : Q ≠ R) (hA : Q ≠ A) (hX : ∃ C, w.heap[Q]? = some (.cells C 105)) (hk : ∀ k, k ≠ Q → w'.heap[k]? = w.heap[k]?) : RedW R A lo c fu st g w' := by
  obtain ⟨ad, cap, h1, h2⟩ := h.are
  obtain ⟨C0, hQ⟩ := hX
  obtain ⟨hi0, xs, kb, g1, g2, g3⟩ := h2
  refine ⟨(hk R hR.symm).trans h.red, ⟨ad, cap, (hk A hA.symm).trans h1, hi0, xs, kb, ⟨g1.1, ?_⟩, fun j hj => ?_, g3⟩, h.loR, h.loA⟩
  · rcases g1.2 with hz | ⟨b, cap', cur, e, hg, hh, r⟩
    · exact Or.inl hz
    · exact Or.inr ⟨b, cap', cur, e, hg, (hk b (by rintro rfl; rw [hQ] at hh; simp at hh)).trans hh, r⟩
  · obtain ⟨kv, e0, e1, e2, e3⟩ := g2 j hj
    exact ⟨kv, e0, e1, e2, e3.keep (fun _ hz _ => hz) fun C _ _ h5 => hk _ (by intro hk; rw [hk, hQ] at h5; simp at h5)⟩
/-- a field of the runner is set -/
theorem RunW.set {Q S A lo : Nat} {c : Value} {tidy : Bool} {x y : Rn} {w : World} (h : RunW Q S A lo c tidy x w) (k : Nat) (v : Value) (hy : (rqC S x).setIfInBounds k v = rqC S y) (hg : y.g = x.g) : RunW Q S A lo c tidy y (w.setCell ⟨Q, k, none⟩ v) := by
  have hst : ∀ j, j ≠ Q → (w.setCell ⟨Q, k, none⟩ v).heap[j]? = w.heap[j]? := fun j hj => Below.heap_setCell _ _ _ _ hj
  refine ⟨?_, ?_, h.loQ⟩
  · rw [← hy]
    simp [World.setCell, Array.getElem?_modify, h.box]
  · rw [hg]
    exact h.red.butQ h.neS h.neA ⟨_, h.box⟩ hst
theorem RunW.set1 {Q S A lo : Nat} {c : Value} {tidy : Bool} {x : Rn} {w : World} (h : RunW Q S A lo c tidy x w) (n : Int) : RunW Q S A lo c tidy { x with steps := n } (w.setCell ⟨Q, 1, none⟩ (.int .i64 n)) := h.set 1 _ rfl rfl
theorem RunW.set2 {Q S A lo : Nat} {c : Value} {tidy : Bool} {x : Rn} {w : World} (h : RunW Q S A lo c tidy x w) (n : Int) : RunW Q S A lo c tidy { x with moved := n } (w.setCell ⟨Q, 2, none⟩ (.int .i64 n)) := h.set 2 _ rfl rfl
theorem RunW.set3 {Q S A lo : Nat} {c : Value} {tidy : Bool} {x : Rn} {w : World} (h : RunW Q S A lo c tidy x w) (n : Int) : RunW Q S A lo c tidy { x with peak := n } (w.setCell ⟨Q, 3, none⟩ (.int .i64 n)) := h.set 3 _ rfl rfl
theorem RunW.set4 {Q S A lo : Nat} {c : Value} {tidy : Bool} {x : Rn} {w : World} (h : RunW Q S A lo c tidy x w) (n : Int) : RunW Q S A lo c tidy { x with ticks := n } (w.setCell ⟨Q, 4, none⟩ (.int .i64 n)) := h.set 4 _ rfl rfl
theorem RunW.set5 {Q S A lo : Nat} {c : Value} {tidy : Bool} {x : Rn} {w : World} (h : RunW Q S A lo c tidy x w) (n : Int) : RunW Q S A lo c tidy { x with rounds := n } (w.setCell ⟨Q, 5, none⟩ (.int .i64 n)) := h.set 5 _ rfl rfl
theorem RunW.set6 {Q S A lo : Nat} {c : Value} {tidy : Bool} {x : Rn} {w : World} (h : RunW Q S A lo c tidy x w) (n : Nat) : RunW Q S A lo c tidy { x with root := n } (w.setCell ⟨Q, 6, none⟩ (.int .i64 (n : Int))) := h.set 6 _ rfl rfl
end Go.Proofs.YtiipcgnkfhjpeaaGreatDoor
/-
  THE PROGRAM's runner: done, collect, advance.
-/
namespace Go.Proofs.YtiipcgnkfhjpeaaGreatDoor
set_option linter.unusedVariables false
set_option linter.unusedSimpArgs false
open Go.RowKit

theorem done_calls (ds : List Df) (Q S A lo : Nat) (c : Value) (tidy : Bool) (x : Rn) (w : World) (h : RunW Q S A lo c tidy x w) (hd : DIn w ds c) (ho : x.Ok ds) :
    Calls Tryz.prog 34 #[.pointer (some ⟨Q, 0, none⟩)] w fun e w' => e = .returned (.bool (x.val ds)) ∧ Below w.heap.size w w' := by
  have hm : ∀ w : World, (Go.method 353 121 (.pointer (some ⟨S, 0, none⟩)) "loop.example/graphreducer/impl.hasValue").run Tryz.prog w = .ok (145, .pointer (some ⟨S, 0, none⟩)) w := fun _ => by kernel_rfl
  have HV : Hid (∀ W : World, Below w.heap.size w W → Calls Tryz.prog 145 #[.pointer (some ⟨S, 0, none⟩), .int .i64 (x.root : Int)] W fun e w' => e = .returned (.bool (x.val ds)) ∧ Below W.heap.size W w') := fun W hb => semiVal_calls ds S A lo x.root c _ _ x.g W (h.red.next hb) (hd.next hb) ho.1 ho.2
  have HQ := mkHid h.box
  have q0 : w.cell? ⟨Q, 0, none⟩ = some (.iface 121 (.pointer (some ⟨S, 0, none⟩))) := cell_of_blk h.box 0 _ rfl
  have q6 : w.cell? ⟨Q, 6, none⟩ = some (.int .i64 (x.root : Int)) := cell_of_blk h.box 6 _ rfl
  clear h hd ho
  go_enter Tryz.func34, Tryz.ntmps34
  go_wp2_with fail
  go_region_held3 (fun w' => w'.cell? ⟨Q, 0, none⟩ = some (.iface 121 (.pointer (some ⟨S, 0, none⟩))) ∧ w'.cell? ⟨Q, 6, none⟩ = some (.int .i64 (x.root : Int)))
    (first
      | go_keep
      | exact ⟨m0, m1⟩
      | exact ⟨q0, q6⟩)
    (first
      | (go_at_call 145; refine (HV.out w.drew ((Below.refl _ _).drew)).mono ?_; rintro e w1 ⟨rfl, hb1⟩; have HB1 : Hid (Below w.heap.size w w1) := (Below.refl _ _).drew.trans hb1; have m0 : w1.cell? ⟨Q, 0, none⟩ = some (.iface 121 (.pointer (some ⟨S, 0, none⟩))) := cell_of_blk ((HB1.out.block _ (Array.getElem?_eq_some_iff.1 HQ.out).1).trans HQ.out) 0 _ rfl; have m1 : w1.cell? ⟨Q, 6, none⟩ = some (.int .i64 (x.root : Int)) := cell_of_blk ((HB1.out.block _ (Array.getElem?_eq_some_iff.1 HQ.out).1).trans HQ.out) 6 _ rfl; clear hb1))
  go_wp2_with fail
  go_ret
  exact ⟨rfl, HB1.out⟩

/-! ### A collection -/
theorem countRound_calls (Q S A lo : Nat) (c : Value) (tidy : Bool) (x : Rn) (n : Int) (w : World) (h : RunW Q S A lo c tidy x w) (hb : x.Bd 1000000000) (hn : 0 ≤ n ∧ n ≤ 400) :
    Calls Tryz.prog 82 #[.pointer (some ⟨Q, 1, none⟩), .int .i64 n] w fun e w' => e = .returned (.tuple #[]) ∧ RunW Q S A lo c tidy { x with moved := x.moved + n, rounds := x.rounds + 1 } w' ∧ Below lo w w' := by
  have HW := mkHid h
  obtain ⟨bs, bm, bp, bt, br⟩ := hb
  have q2 : w.cell? ⟨Q, 2, none⟩ = some (.int .i64 x.moved) := cell_of_blk h.box 2 _ rfl
  have q5 : w.cell? ⟨Q, 5, none⟩ = some (.int .i64 x.rounds) := cell_of_blk h.box 5 _ rfl
  have fq := frz_of_blk h.box
  clear h
  go_enter Tryz.func82, Tryz.ntmps82
  go_wp2_with fail
  go_end0
  exact ⟨rfl, (HW.out.set5 (x.rounds + 1)).set2 (x.moved + n), ((Below.refl _ _).setCell HW.out.loQ _).setCell HW.out.loQ _⟩
theorem countStep_calls (Q S A lo : Nat) (c : Value) (tidy : Bool) (x : Rn) (n : Int) (w : World) (h : RunW Q S A lo c tidy x w) (hb : x.Bd 1000000000) (hn : 0 ≤ n ∧ n ≤ 400) :
    Calls Tryz.prog 83 #[.pointer (some ⟨Q, 1, none⟩), .int .i64 n] w fun e w' => e = .returned (.tuple #[]) ∧ RunW Q S A lo c tidy { x with steps := x.steps + 1, peak := max x.peak n } w' ∧ Below lo w w' := by
  have HW := mkHid h
  obtain ⟨bs, bm, bp, bt, br⟩ := hb
  have q1 : w.cell? ⟨Q, 1, none⟩ = some (.int .i64 x.steps) := cell_of_blk h.box 1 _ rfl
  have q3 : w.cell? ⟨Q, 3, none⟩ = some (.int .i64 x.peak) := cell_of_blk h.box 3 _ rfl
  have fq := frz_of_blk h.box
  clear h
  go_enter Tryz.func83, Tryz.ntmps83
  go_wp2_with fail
  · go_end0
    refine ⟨rfl, ?_, ((Below.refl _ _).setCell HW.out.loQ _).setCell HW.out.loQ _⟩
    rw [show max x.peak n = n by omega]
    exact (HW.out.set1 (x.steps + 1)).set3 n
  · go_end0
    refine ⟨rfl, ?_, ((Below.refl _ _).setCell HW.out.loQ _).setCell HW.out.loQ _⟩
    rw [show max x.peak n = x.peak by omega]
    exact (HW.out.set1 (x.steps + 1)).set3 x.peak

set_option maxRecDepth 100000 in
set_option maxHeartbeats 1600000 in
theorem collect_calls (ds : List Df) (Q S A lo : Nat) (c : Value) (tidy : Bool) (x : Rn) (w : World) (h : RunW Q S A lo c tidy x w) (hlo : lo ≤ w.heap.size) (ho : x.Ok ds) (hb : x.Bd 900000000) :
    Calls Tryz.prog 59 #[.pointer (some ⟨Q, 0, none⟩)] w fun e w' => e = .returned (.tuple #[]) ∧ RunW Q S A lo c tidy (x.col tidy) w' ∧ Below lo w w' := by
  have hm : ∀ w : World, (Go.method 353 121 (.pointer (some ⟨S, 0, none⟩)) "loop.example/graphreducer/impl.moveLive").run Tryz.prog w = .ok (146, .pointer (some ⟨S, 0, none⟩)) w := fun _ => by kernel_rfl
  have hm2 : ∀ w : World, (Go.method 353 121 (.pointer (some ⟨S, 0, none⟩)) "loop.example/graphreducer/impl.graph").run Tryz.prog w = .ok (144, .pointer (some ⟨S, 0, none⟩)) w := fun _ => by kernel_rfl
  have HV : Hid (∀ W : World, Below w.heap.size w W → Calls Tryz.prog 146 #[.pointer (some ⟨S, 0, none⟩), .int .i64 (x.root : Int)] W (MoveD S A lo c tidy x.g x.root W)) := fun W hb => moveLive_calls ds S A lo x.root c tidy x.g W (h.red.next hb) (Nat.le_trans hlo hb.size) ho.1 ho.2
  have HW := mkHid h
  have HLO := mkHid hlo
  have HOK := mkHid (ho.col tidy)
  have HBD := mkHid hb
  have q0 : w.cell? ⟨Q, 0, none⟩ = some (.iface 121 (.pointer (some ⟨S, 0, none⟩))) := cell_of_blk h.box 0 _ rfl
  have q6 : w.cell? ⟨Q, 6, none⟩ = some (.int .i64 (x.root : Int)) := cell_of_blk h.box 6 _ rfl
  clear h ho hlo hb
  go_enter Tryz.func59, Tryz.ntmps59
  go_wp2_with fail
  go_region_with (first
    | (go_at_call 146; go_must (refine (HV.out _ ?_).mono ?_); go_must (exact (Below.refl _ _).drew); go_must (rintro e w1 ⟨rfl, hr1, hb1, hk1⟩); go_must (have HW1 := mkHid ((HW.out.next ((Below.refl _ _).drew)).of hk1 hr1)); go_must (have HB1 : Hid (Below lo w w1) := ((Below.refl lo w).drew).trans hb1); go_must (have fq := frz_of_blk HW1.out.box); go_must (have m1 : w1.cell? ⟨Q, 6, none⟩ = some (.int .i64 (x.root : Int)) := cell_of_blk HW1.out.box 6 _ rfl); clear hr1 hb1 hk1))
  all_goals
    have HW2 : Hid (RunW Q S A lo c tidy { x with g := colG tidy x.g x.root, root := colA tidy x.g x.root } (w1.setCell ⟨Q, 6, none⟩ (.int .i64 (colA tidy x.g x.root : Int)))) := HW1.out.set6 (colA tidy x.g x.root)
    have HB2 : Hid (Below lo w (w1.setCell ⟨Q, 6, none⟩ (.int .i64 (colA tidy x.g x.root : Int)))) := HB1.out.setCell HW1.out.loQ _
    clear fq m1 q0 q6 HW1 HB1
    generalize w1.setCell ⟨Q, 6, none⟩ (.int .i64 (colA tidy x.g x.root : Int)) = w2 at HW2 HB2 ⊢
    have n0 : w2.cell? ⟨Q, 0, none⟩ = some (.iface 121 (.pointer (some ⟨S, 0, none⟩))) := cell_of_blk HW2.out.box 0 _ rfl
    obtain ⟨ad, cap, hA, hC⟩ := HW2.out.red.inn
    have HA := mkHid hA
    have h400 : ((colG tidy x.g x.root).length : Int) ≤ 400 := Int.ofNat_le.2 HOK.out.len
    have HG : Hid (∀ W : World, Below w2.heap.size w2 W → Calls Tryz.prog 144 #[.pointer (some ⟨S, 0, none⟩)] W fun e w' => e = .returned (.slice ad (colG tidy x.g x.root).length cap) ∧ Below W.heap.size W w') := fun W hb => semiGraph_calls S A lo c (semi tidy) 0 (colG tidy x.g x.root) _ W (HW2.out.red.next hb) ((hb.block _ HW2.out.red.ltA).trans HA.out)
    have HC : Hid (∀ W : World, Below w2.heap.size w2 W → Calls Tryz.prog 82 #[.pointer (some ⟨Q, 1, none⟩), .int .i64 ((colG tidy x.g x.root).length : Int)] W fun e w' => e = .returned (.tuple #[]) ∧ RunW Q S A lo c tidy (x.col tidy) w' ∧ Below lo W w') := fun W hb => countRound_calls Q S A lo c tidy _ _ W (HW2.out.next hb) ⟨(HBD.out.mono (by omega)).1, (HBD.out.mono (by omega)).2, (HBD.out.mono (by omega)).3, (HBD.out.mono (by omega)).4, (HBD.out.mono (by omega)).5⟩ ⟨Int.natCast_nonneg _, h400⟩
    have HSL : Hid (lo ≤ w2.heap.size) := Nat.le_trans HLO.out HB2.out.size
    clear hA hC h400
    go_wp2_with fail
    go_region_held3 (fun w' => w'.cell? ⟨Q, 0, none⟩ = some (.iface 121 (.pointer (some ⟨S, 0, none⟩))))
      (first
        | go_keep
        | exact m3
        | exact m2
        | exact n0)
      (first
        | (go_at_call 144; refine (HG.out w2.drew ((Below.refl _ _).drew)).mono ?_; rintro e w3 ⟨rfl, hb3⟩; have HB3 : Hid (Below w2.heap.size w2 w3) := ((Below.refl _ _).drew).trans hb3; have m2 : w3.cell? ⟨Q, 0, none⟩ = some (.iface 121 (.pointer (some ⟨S, 0, none⟩))) := cell_of_blk (HW2.out.next HB3.out).box 0 _ rfl; clear hb3)
        | (go_at_call 82; refine (HC.out w3 HB3.out).mono ?_; rintro e w4 ⟨rfl, hw4, hb4⟩; have HW4 := mkHid hw4; have HB4 : Hid (Below lo w w4) := (HB2.out.trans (HB3.out.mono HSL.out)).trans hb4; have m3 : w4.cell? ⟨Q, 0, none⟩ = some (.iface 121 (.pointer (some ⟨S, 0, none⟩))) := cell_of_blk HW4.out.box 0 _ rfl; clear hw4 hb4))
    go_wp2_with fail
    go_end0
    exact ⟨rfl, HW4.out, HB4.out⟩
end Go.Proofs.YtiipcgnkfhjpeaaGreatDoor
/-
  THE MODEL's EvalGraph.
-/
namespace Go.Proofs.YtiipcgnkfhjpeaaGreatDoor
set_option linter.unusedVariables false
set_option linter.unusedSimpArgs false
open Go.RowKit

end Go.Proofs.YtiipcgnkfhjpeaaGreatDoor
/-
  THE PROGRAM's StepGraph AND EvalGraph.
-/
namespace Go.Proofs.YtiipcgnkfhjpeaaGreatDoor
set_option linter.unusedVariables false
set_option linter.unusedSimpArgs false
open Go.RowKit

end Go.Proofs.YtiipcgnkfhjpeaaGreatDoor
/-
  THE PROGRAM's heapOf.
-/
namespace Go.Proofs.YtiipcgnkfhjpeaaGreatDoor
set_option linter.unusedVariables false
set_option linter.unusedSimpArgs false
open Go.RowKit

theorem redW_semi {w1 w2 : World} {g : List Ce} (h : ArRel w1.heap.size w1.heap.size w1 g w2) (c : Value) (tidy : Bool) :
    RedW w2.heap.size w1.heap.size w1.heap.size c (semi tidy) 0 g (w2.alloc (.cells #[.pointer (some ⟨w1.heap.size, 0, none⟩), c, .int .i64 0, .int .i64 0, copyF tidy] 128)) := by
  obtain ⟨gv, h1, h2, h3⟩ := h
  have hs := h3.size
  have hlt := (Array.getElem?_eq_some_iff.1 h2).1
  obtain ⟨ad, cap, rfl⟩ := h1.form
  exact ⟨Deep.blk_alloc_new _ _, ⟨ad, cap, (Deep.blk_alloc_lt _ _ _ hlt).trans h2, h1.next (fun _ h _ => h) (fun k _ hz => Deep.blk_alloc_lt _ _ _ hz) (fun k _ hz => Deep.blk_alloc_lt _ _ _ hz)⟩, by omega, Nat.le_refl _⟩
theorem RedW.low {R A lo lo' : Nat} {c : Value} {fu : Fu} {st : Int} {g : List Ce} {w : World} (h : RedW R A lo c fu st g w) (hl : lo' ≤ lo) : RedW R A lo' c fu st g w := by
  obtain ⟨ad, cap, h1, h2⟩ := h.are
  exact ⟨h.red, ⟨ad, cap, h1, h2.down hl (fun k hk => Nat.le_trans hl hk)⟩, Nat.le_trans hl h.loR, Nat.le_trans hl h.loA⟩
/-- a new heap -/
def HeapD (c : Value) (tidy : Bool) (g : List Ce) (w : World) (e : Ending) (w' : World) : Prop :=
  ∃ S, e = .returned (.iface 121 (.pointer (some ⟨S, 0, none⟩))) ∧ RedW S w.heap.size w.heap.size c (semi tidy) 0 g w' ∧ Below w.heap.size w w'
set_option maxRecDepth 100000 in
set_option maxHeartbeats 1600000 in
theorem heapOf_calls (ds : List Df) (c v : Value) (tidy : Bool) (g : List Ce) (w : World) (hd : DIn w ds c) (hk : CIn w g v) (hg : graphB g ds.length = true) :
    Calls Tryz.prog 58 #[c, v, .bool tidy] w (HeapD c tidy g w) := by
  have HK := mkHid hk
  have HG := mkHid hg
  obtain ⟨adc, capc, rfl, -, -, -⟩ := hd
  clear hk hg
  go_enter Tryz.func58, Tryz.ntmps58
  go_wp2_with fail
  refine (arenaOf_calls g _ w HK.out ⟨_, HG.out⟩).mono ?_
  rintro e w2 ⟨rfl, har⟩
  obtain ⟨gv2, -, -, hb2⟩ := id har
  have HAR := mkHid har
  have HB3 : Hid (∀ o, Below w.heap.size w (w2.alloc o)) := fun o => hb2.alloc hb2.size _
  clear hb2 har
  cases tidy with
  | false =>
    go_wp2_with fail
    go_ret
    exact ⟨_, rfl, redW_semi HAR.out _ false, HB3.out _⟩
  | true =>
    go_wp2_with fail
    go_ret
    exact ⟨_, rfl, redW_semi HAR.out _ true, HB3.out _⟩
end Go.Proofs.YtiipcgnkfhjpeaaGreatDoor
/-
  THE PROGRAM's runnerOf AND run.
-/
namespace Go.Proofs.YtiipcgnkfhjpeaaGreatDoor
set_option linter.unusedVariables false
set_option linter.unusedSimpArgs false
open Go.RowKit

/-- a new runner -/
def RunnerD (c : Value) (tidy : Bool) (x : Rn) (w : World) (e : Ending) (w' : World) : Prop :=
  ∃ Q S A, e = .returned (.pointer (some ⟨Q, 0, none⟩)) ∧ RunW Q S A w.heap.size c tidy x w' ∧ Below w.heap.size w w'
set_option maxRecDepth 100000 in
set_option maxHeartbeats 1600000 in
theorem runnerOf_calls (ds : List Df) (c v : Value) (tidy : Bool) (x : Rn) (w : World) (hd : DIn w ds c) (hk : CIn w x.g v) (ho : x.Ok ds) :
    Calls Tryz.prog 33 #[c, .agg (rnC v x), .bool tidy] w (RunnerD c tidy x w) := by
  have HK := mkHid hk
  have HD := mkHid hd
  have HO := mkHid ho
  obtain ⟨adg, capg, rfl, -, -, -⟩ := hk
  obtain ⟨adc, capc, rfl, -, -, -⟩ := hd
  clear ho
  unfold rnC
  obtain ⟨W, hW⟩ : ∃ W, W = (w.alloc (.cells #[.slice adg x.g.length capg, .int .i64 (x.root : Int), .int .i64 x.steps, .int .i64 x.moved, .int .i64 x.peak, .int .i64 x.ticks, .int .i64 x.rounds] 30)).alloc (.cells #[.int .i64 x.steps, .int .i64 x.moved, .int .i64 x.peak, .int .i64 x.ticks, .int .i64 x.rounds] 100) := ⟨_, rfl⟩
  have HBX : Hid (Below w.heap.size w W) := by rw [hW]; exact (box_below _ _).alloc (by rw [Deep.nblk_alloc]; omega) _
  have HX : Hid (W.heap[w.heap.size]? = some (.cells #[.slice adg x.g.length capg, .int .i64 (x.root : Int), .int .i64 x.steps, .int .i64 x.moved, .int .i64 x.peak, .int .i64 x.ticks, .int .i64 x.rounds] 30)) := by
    rw [hW]; exact (Deep.blk_alloc_lt _ _ _ (by rw [Deep.nblk_alloc]; omega)).trans (Deep.blk_alloc_new _ _)
  have HY : Hid (W.heap[w.heap.size + 1]? = some (.cells #[.int .i64 x.steps, .int .i64 x.moved, .int .i64 x.peak, .int .i64 x.ticks, .int .i64 x.rounds] 100)) := by
    have h := Deep.blk_alloc_new (w.alloc (.cells #[.slice adg x.g.length capg, .int .i64 (x.root : Int), .int .i64 x.steps, .int .i64 x.moved, .int .i64 x.peak, .int .i64 x.ticks, .int .i64 x.rounds] 30)) (.cells #[.int .i64 x.steps, .int .i64 x.moved, .int .i64 x.peak, .int .i64 x.ticks, .int .i64 x.rounds] 100)
    rw [Deep.nblk_alloc] at h
    rw [hW]; exact h
  have HZ : Hid (W.heap.size = w.heap.size + 2) := by rw [hW, Hid, Deep.nblk_alloc, Deep.nblk_alloc]
  go_enter Tryz.func33, Tryz.ntmps33
  go_wp2_with fail
  rw [← hW]
  clear hW
  have HHP : Hid (Calls Tryz.prog 58 #[.slice adc ds.length capc, .slice adg x.g.length capg, .bool tidy] W.drew (HeapD (.slice adc ds.length capc) tidy x.g W.drew)) := heapOf_calls ds _ _ tidy x.g W.drew ((HD.out.next HBX.out).drew) ((HK.out.next HBX.out).drew) HO.out.1
  have x0 := cell_of_blk HX.out 0 _ rfl
  have x1 := cell_of_blk HX.out 1 _ rfl
  have y0 := cell_of_blk HY.out 0 _ rfl
  have y1 := cell_of_blk HY.out 1 _ rfl
  have y2 := cell_of_blk HY.out 2 _ rfl
  have y3 := cell_of_blk HY.out 3 _ rfl
  have y4 := cell_of_blk HY.out 4 _ rfl
  go_region_held3 (fun w' => w'.cell? ⟨w.heap.size, 0, none⟩ = some (.slice adg x.g.length capg) ∧ w'.cell? ⟨w.heap.size, 1, none⟩ = some (.int .i64 (x.root : Int)) ∧ w'.cell? ⟨w.heap.size + 1, 0, none⟩ = some (.int .i64 x.steps) ∧ w'.cell? ⟨w.heap.size + 1, 1, none⟩ = some (.int .i64 x.moved) ∧ w'.cell? ⟨w.heap.size + 1, 2, none⟩ = some (.int .i64 x.peak) ∧ w'.cell? ⟨w.heap.size + 1, 3, none⟩ = some (.int .i64 x.ticks) ∧ w'.cell? ⟨w.heap.size + 1, 4, none⟩ = some (.int .i64 x.rounds))
    (first
      | go_keep
      | exact ⟨m0, m1, n0, n1, n2, n3, n4⟩
      | exact ⟨old_cell m0 _, old_cell m1 _, old_cell n0 _, old_cell n1 _, old_cell n2 _, old_cell n3 _, old_cell n4 _⟩
      | exact ⟨x0, x1, y0, y1, y2, y3, y4⟩)
    (first
      | (go_at_call 58; refine HHP.out.mono ?_; rintro e w1 ⟨S, rfl, hr1, hb1⟩; have HR1 := mkHid hr1; have HB1 : Hid (Below W.heap.size W w1) := ((Below.refl _ _).drew).trans hb1; have HX1 := mkHid ((HB1.out.block _ (by rw [HZ.out]; omega)).trans HX.out); have HY1 := mkHid ((HB1.out.block _ (by rw [HZ.out]; omega)).trans HY.out); have m0 := cell_of_blk HX1.out 0 _ rfl; have m1 := cell_of_blk HX1.out 1 _ rfl; have n0 := cell_of_blk HY1.out 0 _ rfl; have n1 := cell_of_blk HY1.out 1 _ rfl; have n2 := cell_of_blk HY1.out 2 _ rfl; have n3 := cell_of_blk HY1.out 3 _ rfl; have n4 := cell_of_blk HY1.out 4 _ rfl; clear hr1 hb1))
  go_wp2_with fail
  go_ret
  have hsz : w.heap.size ≤ W.heap.size := HBX.out.size
  have hsz1 : W.heap.size ≤ w1.heap.size := HB1.out.size
  exact ⟨_, S, _, rfl, ⟨Deep.blk_alloc_new _ _, (HR1.out.low hsz).next (box_below _ _), by omega⟩, (HBX.out.trans (HB1.out.mono hsz)).alloc (by omega) _⟩
theorem cell_far {w : World} {a b : Addr} {v u : Value} (h : w.cell? a = some v) (hb : b.block ≠ a.block) : (w.setCell b u).cell? a = some v := (World.cell?_setCell_far _ _ _ _ hb).trans h
/-- the run by value, its graph in memory of its own -/
def RunV (lo : Nat) (x : Rn) (w : World) (e : Ending) (w' : World) : Prop :=
  ∃ ad cap, e = .returned (.agg (rnC (.slice ad x.g.length cap) x)) ∧ OwnC w' lo (fun k => lo ≤ k) x.g (.slice ad x.g.length cap) ∧ Below w.heap.size w w'
set_option maxRecDepth 100000 in
set_option maxHeartbeats 1600000 in
theorem run_calls (Q S A lo : Nat) (c : Value) (tidy : Bool) (x : Rn) (w : World) (h : RunW Q S A lo c tidy x w) :
    Calls Tryz.prog 35 #[.pointer (some ⟨Q, 0, none⟩)] w (RunV lo x w) := by
  have hm2 : ∀ w : World, (Go.method 353 121 (.pointer (some ⟨S, 0, none⟩)) "loop.example/graphreducer/impl.graph").run Tryz.prog w = .ok (144, .pointer (some ⟨S, 0, none⟩)) w := fun _ => by kernel_rfl
  obtain ⟨W, hW⟩ : ∃ W, W = w.alloc (.cells rn0 30) := ⟨_, rfl⟩
  have HBX : Hid (Below w.heap.size w W) := by rw [hW]; exact box_below _ _
  have HY : Hid (W.heap[w.heap.size]? = some (.cells rn0 30)) := by rw [hW]; exact Deep.blk_alloc_new _ _
  have HZ : Hid (W.heap.size = w.heap.size + 1) := by rw [hW, Hid, Deep.nblk_alloc]
  have HW := mkHid (h.next HBX.out)
  have HQL := mkHid h.lt
  obtain ⟨ad, cap, hA0, hO⟩ := h.red.are
  have hA := (HBX.out.block _ h.red.ltA).trans hA0
  have HA := mkHid hA
  have HO := mkHid hO
  clear hA0
  have HG : Hid (Calls Tryz.prog 144 #[.pointer (some ⟨S, 0, none⟩)] W.drew fun e w' => e = .returned (.slice ad x.g.length cap) ∧ Below W.drew.heap.size W.drew w') := semiGraph_calls S A lo c (semi tidy) 0 x.g _ W.drew (HW.out.red.next ((Below.refl _ _).drew)) HA.out
  have q0 : W.cell? ⟨Q, 0, none⟩ = some (.iface 121 (.pointer (some ⟨S, 0, none⟩))) := cell_of_blk HW.out.box 0 _ rfl
  have q1 : W.cell? ⟨Q, 1, none⟩ = some (.int .i64 x.steps) := cell_of_blk HW.out.box 1 _ rfl
  have q2 : W.cell? ⟨Q, 2, none⟩ = some (.int .i64 x.moved) := cell_of_blk HW.out.box 2 _ rfl
  have q3 : W.cell? ⟨Q, 3, none⟩ = some (.int .i64 x.peak) := cell_of_blk HW.out.box 3 _ rfl
  have q4 : W.cell? ⟨Q, 4, none⟩ = some (.int .i64 x.ticks) := cell_of_blk HW.out.box 4 _ rfl
  have q5 : W.cell? ⟨Q, 5, none⟩ = some (.int .i64 x.rounds) := cell_of_blk HW.out.box 5 _ rfl
  have q6 : W.cell? ⟨Q, 6, none⟩ = some (.int .i64 (x.root : Int)) := cell_of_blk HW.out.box 6 _ rfl
  have hPQ : w.heap.size ≠ Q := (Nat.ne_of_lt h.lt).symm
  clear h hA hO
  unfold rn0 at hW HY
  go_enter Tryz.func35, Tryz.ntmps35
  go_wp2_with fail
  rw [← hW]
  clear hW
  go_region_held3 (fun w' => w'.cell? ⟨Q, 0, none⟩ = some (.iface 121 (.pointer (some ⟨S, 0, none⟩))) ∧ w'.cell? ⟨Q, 1, none⟩ = some (.int .i64 x.steps) ∧ w'.cell? ⟨Q, 2, none⟩ = some (.int .i64 x.moved) ∧ w'.cell? ⟨Q, 3, none⟩ = some (.int .i64 x.peak) ∧ w'.cell? ⟨Q, 4, none⟩ = some (.int .i64 x.ticks) ∧ w'.cell? ⟨Q, 5, none⟩ = some (.int .i64 x.rounds) ∧ w'.cell? ⟨Q, 6, none⟩ = some (.int .i64 (x.root : Int)))
    (first
      | go_keep
      | exact ⟨m0, m1, m2, m3, m4, m5, m6⟩
      | exact ⟨q0, q1, q2, q3, q4, q5, q6⟩
      | exact ⟨cell_far (cell_far (cell_far (cell_far (cell_far (cell_far (cell_far m0 hPQ) hPQ) hPQ) hPQ) hPQ) hPQ) hPQ, cell_far (cell_far (cell_far (cell_far (cell_far (cell_far (cell_far m1 hPQ) hPQ) hPQ) hPQ) hPQ) hPQ) hPQ, cell_far (cell_far (cell_far (cell_far (cell_far (cell_far (cell_far m2 hPQ) hPQ) hPQ) hPQ) hPQ) hPQ) hPQ, cell_far (cell_far (cell_far (cell_far (cell_far (cell_far (cell_far m3 hPQ) hPQ) hPQ) hPQ) hPQ) hPQ) hPQ, cell_far (cell_far (cell_far (cell_far (cell_far (cell_far (cell_far m4 hPQ) hPQ) hPQ) hPQ) hPQ) hPQ) hPQ, cell_far (cell_far (cell_far (cell_far (cell_far (cell_far (cell_far m5 hPQ) hPQ) hPQ) hPQ) hPQ) hPQ) hPQ, cell_far (cell_far (cell_far (cell_far (cell_far (cell_far (cell_far m6 hPQ) hPQ) hPQ) hPQ) hPQ) hPQ) hPQ⟩)
    (first
      | (go_at_call 144; refine HG.out.mono ?_; rintro e w1 ⟨rfl, hb1⟩; have HB1 : Hid (Below W.heap.size W w1) := ((Below.refl _ _).drew).trans hb1; have HW1 := mkHid (HW.out.next HB1.out); have HY1 := mkHid ((HB1.out.block _ (by rw [HZ.out]; omega)).trans HY.out); have m0 : w1.cell? ⟨Q, 0, none⟩ = some (.iface 121 (.pointer (some ⟨S, 0, none⟩))) := cell_of_blk HW1.out.box 0 _ rfl; have m1 : w1.cell? ⟨Q, 1, none⟩ = some (.int .i64 x.steps) := cell_of_blk HW1.out.box 1 _ rfl; have m2 : w1.cell? ⟨Q, 2, none⟩ = some (.int .i64 x.moved) := cell_of_blk HW1.out.box 2 _ rfl; have m3 : w1.cell? ⟨Q, 3, none⟩ = some (.int .i64 x.peak) := cell_of_blk HW1.out.box 3 _ rfl; have m4 : w1.cell? ⟨Q, 4, none⟩ = some (.int .i64 x.ticks) := cell_of_blk HW1.out.box 4 _ rfl; have m5 : w1.cell? ⟨Q, 5, none⟩ = some (.int .i64 x.rounds) := cell_of_blk HW1.out.box 5 _ rfl; have m6 : w1.cell? ⟨Q, 6, none⟩ = some (.int .i64 (x.root : Int)) := cell_of_blk HW1.out.box 6 _ rfl; have n0 := cell_of_blk HY1.out 0 _ rfl; have n1 := cell_of_blk HY1.out 1 _ rfl; have n2 := cell_of_blk HY1.out 2 _ rfl; have n3 := cell_of_blk HY1.out 3 _ rfl; have n4 := cell_of_blk HY1.out 4 _ rfl; have n5 := cell_of_blk HY1.out 5 _ rfl; have n6 := cell_of_blk HY1.out 6 _ rfl; have fy := frz_of_blk HY1.out; clear hb1))
  clear m0 m1 m2 m3 m4 m5 m6 q0 q1 q2 q3 q4 q5 q6
  go_wp2_with fail
  refine bodyPost_ret (v := .agg (rnC (.slice ad x.g.length cap) x)) (by simp [results, Tryz.results35, go_sem, n0, n1, n2, n3, n4, n5, n6, fy, rnC]) rfl ?_
  have HBF : ∀ w', w' = (((((((w1.setCell ⟨w.heap.size, 0, none⟩ (.slice ad x.g.length cap)).setCell ⟨w.heap.size, 1, none⟩ (.int .i64 (x.root : Int))).setCell ⟨w.heap.size, 2, none⟩ (.int .i64 x.steps)).setCell ⟨w.heap.size, 3, none⟩ (.int .i64 x.moved)).setCell ⟨w.heap.size, 4, none⟩ (.int .i64 x.peak)).setCell ⟨w.heap.size, 5, none⟩ (.int .i64 x.ticks)).setCell ⟨w.heap.size, 6, none⟩ (.int .i64 x.rounds)) → Below w.heap.size w w' := by
    rintro w' rfl
    repeat' (refine Below.setCell ?_ (by simp) _)
    exact HBX.out.trans (HB1.out.mono HBX.out.size)
  have hbf := HBF _ rfl
  exact ⟨ad, cap, rfl, HO.out.next (fun _ h _ => h) (fun k _ hz => hbf.block k hz) (fun k _ hz => hbf.block k hz), hbf⟩
end Go.Proofs.YtiipcgnkfhjpeaaGreatDoor
