/-
  THE MODEL's l4Step AND l4Eval.
-/
import Derived.Test.YtidijbnoaeopdaaMgExactStartRun17
import Derived.Deep.LoopGhost
import Derived.Test.YtidijbnoaeopdaaMgExactStartRun15
import Derived.Test.YtidijbnoaeopdaaMgExactStartRun16
import Derived.Test.YtidijbnoaeopdaaMgExactStartRun1
import Derived.Test.YtidijbnoaeopdaaProg
import Derived.Deep.RegionHeld3
import Derived.Deep.RegionWith
import Derived.Deep.DeepMust
import Derived.BigRegion
import Derived.Test.YtidijbnoaeopdaaMgExactStartRun11
import Derived.Test.YtidijbnoaeopdaaMgExactStartRun14
import Derived.Test.YtidijbnoaeopdaaMgExactStartRun7
import Derived.Test.YtidijbnoaeopdaaMgExactStartRun12
import Derived.Test.YtidijbnoaeopdaaMgExactStartRun10
import Derived.Deep.DeepCutAuto
import Derived.Deep.RegionLaw
import Derived.IntWalk
namespace Go.Proofs.Ytidijbnoaeopdaa
set_option linter.unusedVariables false
set_option linter.unusedSimpArgs false
open Go.RowKit

/-- what holds behind n steps: the rest of the evaluation -/
def EvRel (ds : List Df) (a : Nat) (fuel : Nat) (g0 : List Ce) (n : Nat) (g : List Ce) : Prop := n ≤ fuel ∧ graphB g ds.length = true ∧ a < g.length ∧ evalG ds a fuel g0 = ((evalG ds a (fuel - n) g).1, (evalG ds a (fuel - n) g).2.1, (evalG ds a (fuel - n) g).2.2 + n)
theorem EvRel.start {ds : List Df} {a fuel : Nat} {g : List Ce} (hg : graphB g ds.length = true) (ha : a < g.length) : EvRel ds a fuel g 0 g := ⟨Nat.zero_le _, hg, ha, by simp⟩
theorem evalG_val {ds : List Df} {a n : Nat} {g : List Ce} (h : valB (arsOf ds) g a = true) : evalG ds a n g = (g, 0, 0) := by
  cases n <;> (unfold evalG; rw [if_pos h])
theorem evalG_fuel {ds : List Df} {a : Nat} {g : List Ce} (h : valB (arsOf ds) g a = false) : evalG ds a 0 g = (g, 1, 0) := by
  unfold evalG; rw [if_neg (by rw [h]; simp)]
theorem evalG_step {ds : List Df} {a n : Nat} {g : List Ce} (h : valB (arsOf ds) g a = false) (hc : (stepG ds g a).2 = 0) : evalG ds a (n + 1) g = ((evalG ds a n (stepG ds g a).1).1, (evalG ds a n (stepG ds g a).1).2.1, (evalG ds a n (stepG ds g a).1).2.2 + 1) := by
  conv => lhs; unfold evalG
  rw [if_neg (by rw [h]; simp), if_pos hc]
theorem EvRel.val {ds : List Df} {a fuel n : Nat} {g0 g : List Ce} (h : EvRel ds a fuel g0 n g) (hv : valB (arsOf ds) g a = true) : evalG ds a fuel g0 = (g, 0, n) := by
  rw [h.2.2.2, evalG_val hv]; simp
theorem EvRel.fuel {ds : List Df} {a fuel : Nat} {g0 g : List Ce} (h : EvRel ds a fuel g0 fuel g) (hv : valB (arsOf ds) g a = false) : evalG ds a fuel g0 = (g, 1, fuel) := by
  rw [h.2.2.2, Nat.sub_self, evalG_fuel hv]; simp
theorem EvRel.next {ds : List Df} {a fuel n : Nat} {g0 g : List Ce} (h : EvRel ds a fuel g0 n g) (hp : progB ds = true) (hn : n < fuel) (hv : valB (arsOf ds) g a = false) (hc : (stepG ds g a).2 = 0) : EvRel ds a fuel g0 (n + 1) (stepG ds g a).1 := by
  have hs := stepG_valid h.2.1 hp h.2.2.1 hv
  have ha := h.2.2.1
  refine ⟨hn, hs.1, by omega, ?_⟩
  rw [h.2.2.2, show fuel - n = (fuel - (n + 1)) + 1 by omega, evalG_step hv hc]
  simp only [Prod.mk.injEq, true_and]
  omega

end Go.Proofs.Ytidijbnoaeopdaa
/-
  THE MODEL's StepGraph.
-/
namespace Go.Proofs.Ytidijbnoaeopdaa
set_option linter.unusedVariables false
set_option linter.unusedSimpArgs false
open Go.RowKit

end Go.Proofs.Ytidijbnoaeopdaa
/-
  THE MODEL's collections of a run.
-/
namespace Go.Proofs.Ytidijbnoaeopdaa
set_option linter.unusedVariables false
set_option linter.unusedSimpArgs false
open Go.RowKit

/-- the fields of a run -/
def rnC (gv : Value) (x : Rn) : Array Value := #[gv, .int .i64 (x.root : Int), .int .i64 x.steps, .int .i64 x.moved, .int .i64 x.peak, .int .i64 x.ticks, .int .i64 x.rounds]
/-- the blocks from n on stay -/
def Far (w w' : World) (n : Nat) : Prop := ∀ k, n ≤ k → w'.heap[k]? = w.heap[k]?
theorem Far.refl (w : World) (n : Nat) : Far w w n := fun _ _ => rfl
theorem Far.set {w w' : World} {n : Nat} (h : Far w w' n) {a : Addr} (ha : a.block < n) (v : Value) : Far w (w'.setCell a v) n := fun k hk => (Below.heap_setCell _ _ _ _ (by omega)).trans (h k hk)
theorem OwnC.far {w w' : World} {lo : Nat} {g : List Ce} {v : Value} (h : OwnC w lo (fun k => lo ≤ k) g v) (hf : Far w w' lo) : OwnC w' lo (fun k => lo ≤ k) g v :=
  h.next (fun _ h _ => h) (fun k hk _ => hf k (by obtain ⟨ys, hy⟩ := h.row; exact (hy.lt k hk.symm).1)) (fun k hk _ => hf k hk)
end Go.Proofs.Ytidijbnoaeopdaa
/-
  THE MODEL's l6Copy AND l6Step.
-/
namespace Go.Proofs.Ytidijbnoaeopdaa
set_option linter.unusedVariables false
set_option linter.unusedSimpArgs false
open Go.RowKit


/-- seven cells are stored in a box -/
theorem st7_blk {w : World} {B : Nat} {a0 a1 a2 a3 a4 a5 a6 b0 b1 b2 b3 b4 b5 b6 : Value} {T : TypeId} (h : w.heap[B]? = some (.cells #[a0, a1, a2, a3, a4, a5, a6] T)) : (((((((w.setCell ⟨B, 0, none⟩ b0).setCell ⟨B, 1, none⟩ b1).setCell ⟨B, 2, none⟩ b2).setCell ⟨B, 3, none⟩ b3).setCell ⟨B, 4, none⟩ b4).setCell ⟨B, 5, none⟩ b5).setCell ⟨B, 6, none⟩ b6).heap[B]? = some (.cells #[b0, b1, b2, b3, b4, b5, b6] T) := by
  simp [World.setCell, Array.getElem?_modify, h]
theorem st7_far {w : World} {B k : Nat} {b0 b1 b2 b3 b4 b5 b6 : Value} (hk : k ≠ B) : (((((((w.setCell ⟨B, 0, none⟩ b0).setCell ⟨B, 1, none⟩ b1).setCell ⟨B, 2, none⟩ b2).setCell ⟨B, 3, none⟩ b3).setCell ⟨B, 4, none⟩ b4).setCell ⟨B, 5, none⟩ b5).setCell ⟨B, 6, none⟩ b6).heap[k]? = w.heap[k]? :=
  (Below.heap_setCell _ _ _ _ hk).trans ((Below.heap_setCell _ _ _ _ hk).trans ((Below.heap_setCell _ _ _ _ hk).trans ((Below.heap_setCell _ _ _ _ hk).trans ((Below.heap_setCell _ _ _ _ hk).trans ((Below.heap_setCell _ _ _ _ hk).trans (Below.heap_setCell _ _ _ _ hk))))))
theorem st7_size {w : World} {B : Nat} {b0 b1 b2 b3 b4 b5 b6 : Value} : (((((((w.setCell ⟨B, 0, none⟩ b0).setCell ⟨B, 1, none⟩ b1).setCell ⟨B, 2, none⟩ b2).setCell ⟨B, 3, none⟩ b3).setCell ⟨B, 4, none⟩ b4).setCell ⟨B, 5, none⟩ b5).setCell ⟨B, 6, none⟩ b6).heap.size = w.heap.size := by
  rw [size_setCell, size_setCell, size_setCell, size_setCell, size_setCell, size_setCell, size_setCell]
theorem st7_below {w0 w : World} {B n : Nat} {b0 b1 b2 b3 b4 b5 b6 : Value} (h : Below n w0 w) (hB : n ≤ B) : Below n w0 (((((((w.setCell ⟨B, 0, none⟩ b0).setCell ⟨B, 1, none⟩ b1).setCell ⟨B, 2, none⟩ b2).setCell ⟨B, 3, none⟩ b3).setCell ⟨B, 4, none⟩ b4).setCell ⟨B, 5, none⟩ b5).setCell ⟨B, 6, none⟩ b6) :=
  ((((((h.setCell hB _).setCell hB _).setCell hB _).setCell hB _).setCell hB _).setCell hB _).setCell hB _
/-- a graph that lies outside the blocks n and n + 1, below n in the blocks of T -/
def RIn (T : Nat → Prop) (n : Nat) (w : World) (g : List Ce) (v : Value) : Prop := CellsOn w (fun k => k < w.heap.size ∧ k ≠ n ∧ k ≠ n + 1 ∧ (k < n → T k)) g v
theorem RIn.next {T : Nat → Prop} {n : Nat} {w w' : World} {g : List Ce} {v : Value} (h : RIn T n w g v) (hb : Below w.heap.size w w') : RIn T n w' g v := CellsOn.mono h (fun _ h => ⟨Nat.lt_of_lt_of_le h.1 hb.size, h.2⟩) (fun k h => hb.block k h.1)
theorem RIn.far {T : Nat → Prop} {n : Nat} {w w' : World} {g : List Ce} {v : Value} (h : RIn T n w g v) (hf : ∀ k, k ≠ n → k ≠ n + 1 → w'.heap[k]? = w.heap[k]?) (hs : w'.heap.size = w.heap.size) : RIn T n w' g v := CellsOn.mono h (fun _ h => ⟨by rw [hs]; exact h.1, h.2⟩) (fun k h => hf k h.2.1 h.2.2.1)
theorem RIn.old {T : Nat → Prop} {w W : World} {g : List Ce} {v : Value} (h : CellsOn w T g v) (hT : ∀ k, T k → k < w.heap.size) (hb : Below w.heap.size w W) : RIn T w.heap.size W g v := CellsOn.mono h (fun k hk => by have := hT k hk; have := hb.size; exact ⟨by omega, by omega, by omega, fun _ => hk⟩) (fun k hk => hb.block k (hT k hk))
end Go.Proofs.Ytidijbnoaeopdaa
/-
  slices.Reverse AT A ROW OF EXPRESSIONS: the elements' cells, turned around; nothing else is changed.
-/
namespace Go.Proofs.Ytidijbnoaeopdaa
set_option linter.unusedVariables false
set_option linter.unusedSimpArgs false
open Go.RowKit

end Go.Proofs.Ytidijbnoaeopdaa
/-
  THE PROGRAM's unwind: the function of nested applications, and its arguments in order; nothing that was there is changed.
-/
namespace Go.Proofs.Ytidijbnoaeopdaa
set_option linter.unusedVariables false
set_option linter.unusedSimpArgs false
open Go.RowKit

/-- a row of cards, in new memory -/
def CdRow (w : World) (lo : Nat) (l : List Cd) (v : Value) : Prop :=
  (l = [] ∧ v = .slice none 0 0) ∨ ∃ g cap f, v = .slice (some ⟨g, 0, none⟩) l.length cap ∧ lo ≤ g ∧ l.length ≤ cap ∧ cap ≤ maxLen ∧ w.rowIs g 37 (cap * 3) f ∧
    ∀ j (hj : j < l.length), f (j * 3) = l[j].2.1 ∧ f (j * 3 + 1) = l[j].2.2.1 ∧ f (j * 3 + 2) = l[j].2.2.2

theorem CdRow.keep {w w' : World} {lo lo' : Nat} {l : List Cd} {v : Value} (h : CdRow w lo l v) (hl : lo' ≤ lo) (hk : ∀ k, lo ≤ k → k < w.heap.size → w'.heap[k]? = w.heap[k]?) : CdRow w' lo' l v := by
  rcases h with h | ⟨g, cap, f, e, hg, hn, hc, hr, hv⟩
  · exact Or.inl h
  · exact Or.inr ⟨g, cap, f, e, Nat.le_trans hl hg, hn, hc, hr.of_block (hk g hg hr.lt), hv⟩
end Go.Proofs.Ytidijbnoaeopdaa
/-
  THE PROGRAM's isValue: which closed expressions are values; nothing that was there is changed.
-/
namespace Go.Proofs.Ytidijbnoaeopdaa
set_option linter.unusedVariables false
set_option linter.unusedSimpArgs false
open Go.RowKit

/-- closed for so many functions, down to some depth -/
def Closed (ds : List Df) (t : Tr) : Prop := ∃ d, shB 0 ds.length d t = true

theorem Closed.kid {ds : List Df} {t : Tr} (h : Closed ds t) {k : Tr} (hk : k ∈ t.kids) : Closed ds k := by
  obtain ⟨d, h⟩ := h
  cases d with
  | zero => simp [shB] at h
  | succ d =>
    unfold shB at h
    simp only [Bool.and_eq_true, List.all_eq_true] at h
    exact ⟨d, h.2 k hk⟩
theorem Closed.fun {ds : List Df} {t : Tr} (h : Closed ds t) (ho : t.op = 3) : 0 ≤ t.num ∧ t.num < ds.length := by
  obtain ⟨d, h⟩ := h
  cases d with
  | zero => simp [shB] at h
  | succ d =>
    unfold shB at h
    simp only [Bool.and_eq_true] at h
    have h2 := h.1.2
    unfold ownB at h2
    rw [if_neg (by omega), if_neg (by omega), if_pos ho] at h2
    simpa using h2
theorem CdRow.form {w : World} {lo : Nat} {l : List Cd} {v : Value} (h : CdRow w lo l v) : ∃ ad cap, v = .slice ad l.length cap := by
  rcases h with ⟨rfl, rfl⟩ | ⟨g, cap, f, rfl, -⟩
  · exact ⟨_, _, rfl⟩
  · exact ⟨_, _, rfl⟩

/-- a valid program and a closed expression -/
def closedB (ds : List Df) (t : Tr) : Bool := progB ds && validB t 0 ds.length
end Go.Proofs.Ytidijbnoaeopdaa
/-
  PLAIN: what NumberNeed answers. No program is named here.
-/
namespace Go.Proofs.Ytidijbnoaeopdaa
set_option linter.unusedVariables false
set_option linter.unusedSimpArgs false

/-- the graph of a closed expression -/
theorem start_ok {ds : List Df} {t : Tr} (h : closedB ds t = true) : progB ds = true ∧ graphB (addT [] t []).1 ds.length = true ∧ (addT [] t []).2 < (addT [] t []).1.length ∧ AllT (VarOk 0) t ∧ 1 + szT t ≤ 60 := by
  unfold closedB validB at h
  simp only [Bool.and_eq_true, decide_eq_true_eq] at h
  obtain ⟨hp, ⟨hd, hs, hz⟩⟩ := h
  have h0 : GOk (ds.length : Int) ([] : List Ce).length [] := (graphB_iff.1 (by unfold graphB; simp; omega : graphB [] (ds.length : Int) = true)).2
  have hok := addT_ok (defs := ds.length) (args := []) 16 t [] h0 (fun x hx => by simp at hx) hs
  have hsz := (addT_size [] t []).2.1
  refine ⟨hp, graphB_iff.2 ⟨⟨by simp only [List.length_nil] at hsz; omega, by omega⟩, hok.1⟩, hok.2, varOk_of_sh 0 _ 16 t hs, hz⟩
end Go.Proofs.Ytidijbnoaeopdaa
/-
  PLAIN: what the functions on runs answer. No program is named here.
-/
namespace Go.Proofs.Ytidijbnoaeopdaa
set_option linter.unusedVariables false
set_option linter.unusedSimpArgs false

/-- the fields of a run whose root is any number -/
def rnA (gv : Value) (a : Int) (x : Rn) : Array Value := #[gv, .int .i64 a, .int .i64 x.steps, .int .i64 x.moved, .int .i64 x.peak, .int .i64 x.ticks, .int .i64 x.rounds]
/-- no run -/
def rnZ : Rn := ⟨[], 0, 0, 0, 0, 0, 0⟩
def Rn.at (x : Rn) (a : Int) : Rn := { x with root := a.toNat }
/-- what StartRun answers -/
noncomputable def sxO (ds : List Df) (t : Tr) : Rn × Bool := if closedB ds t = true then (startX (addT [] t []).1 (addT [] t []).2, true) else (rnZ, false)
theorem start_run {ds : List Df} {t : Tr} (h : closedB ds t = true) : (startX (addT [] t []).1 (addT [] t []).2).Ok ds := ⟨(start_ok h).2.1, (start_ok h).2.2.1⟩
theorem graph_small {g : List Ce} {defs : Int} (hg : graphB g defs = true) : g.length + sumK g ≤ 2000 := by
  have h4 := graphB_len hg
  have h3 := kidsSum_le3 g fun c hc => by
    obtain ⟨i, hi, rfl⟩ := List.getElem_of_mem hc
    exact (kids_graph hg i hi).1
  omega
theorem rnZ_small : rnZ.g.length + sumK rnZ.g ≤ 2000 := by simp [rnZ, sumK]
theorem sxO_small (ds : List Df) (t : Tr) : (sxO ds t).1.g.length + sumK (sxO ds t).1.g ≤ 2000 := by
  unfold sxO
  split
  · rename_i h; exact graph_small (start_run h).1
  · exact rnZ_small
end Go.Proofs.Ytidijbnoaeopdaa
/-
  THE MODEL's l2Args: the function of nested applications, and its arguments in order; nothing that was there is changed.
-/
namespace Go.Proofs.Ytidijbnoaeopdaa
set_option linter.unusedVariables false
set_option linter.unusedSimpArgs false
open Go.RowKit

end Go.Proofs.Ytidijbnoaeopdaa
/-
  THE MODEL's l2Head, l2Closed, IsHead: which closed expressions are values; nothing that was there is changed.
-/
namespace Go.Proofs.Ytidijbnoaeopdaa
set_option linter.unusedVariables false
set_option linter.unusedSimpArgs false
open Go.RowKit

set_option maxRecDepth 100000 in
set_option maxHeartbeats 800000 in
theorem l2Closed_calls (ds : List Df) (p : Value) (a : Tr) (c : Value) (w : World) (hp : DIn w ds p) (hk : In w a.kids c) :
    Calls Try.prog 31 #[p, .agg #[.int .i64 a.op, .int .i64 a.num, c]] w fun e w' => e = .returned (.bool (closedB ds a)) ∧ Below w.heap.size w w' := by
  have HK : Hid (In w a.kids c) := hk
  have HP : Hid (DIn w ds p) := hp
  obtain ⟨ad, cap, rfl, -, -, -⟩ := hk
  obtain ⟨adp, capp, rfl, -, -, -⟩ := hp
  unfold closedB
  cases hpb : progB ds with
  | false =>
    have hq : ∀ W, DIn W ds (.slice adp ds.length capp) → Calls Try.prog 50 #[.slice adp ds.length capp] W fun e w' => e = .returned (.bool false) ∧ Below W.heap.size W w' := fun W h => by have := specProg_calls ds _ W h; rwa [hpb] at this
    clear hpb
    go_enter Try.func31, Try.ntmps31
    go_wp2_with (go_at_call 50; refine (hq _ ?_).mono ?_; exact HP.out.next (box_below _ _); rintro e w1 ⟨rfl, hb1⟩; obtain ⟨q0, q1, q2, q3, HB1⟩ := box_after hb1; have HB1 : Hid _ := HB1; clear hb1)
    go_ret
    exact ⟨rfl, HB1.out⟩
  | true =>
    have hv : ∀ W, In W a.kids (.slice ad a.kids.length cap) → Calls Try.prog 51 #[.agg #[.int .i64 a.op, .int .i64 a.num, .slice ad a.kids.length cap], .int .i64 0, .int .i64 ds.length] W fun e w' => e = .returned (.bool (true && validB a 0 ds.length)) ∧ Below W.heap.size W w' := fun W h => by
      have h6 : ds.length ≤ 6 := by
        unfold progB at hpb
        simp only [Bool.and_eq_true, decide_eq_true_eq] at hpb
        exact hpb.1
      have := l1Is_calls a 0 ds.length _ W h
      rw [← validB_is a 0 ds.length (by omega)] at this
      rw [Bool.true_and]
      exact this
    have hq : ∀ W, DIn W ds (.slice adp ds.length capp) → Calls Try.prog 50 #[.slice adp ds.length capp] W fun e w' => e = .returned (.bool true) ∧ Below W.heap.size W w' := fun W h => by have := specProg_calls ds _ W h; rwa [hpb] at this
    clear hpb
    go_enter Try.func31, Try.ntmps31
    go_wp2_with (first
      | (go_at_call 50; refine (hq _ ?_).mono ?_; exact HP.out.next (box_below _ _); rintro e w1 ⟨rfl, hb1⟩; obtain ⟨q0, q1, q2, q3, HB1⟩ := box_after hb1; have HB1 : Hid _ := HB1; clear hb1)
      | (go_at_call 51; refine (hv _ (HK.out.next HB1.out)).mono ?_; rintro e w2 ⟨rfl, hb2⟩; have HB2 : Hid (Below w.heap.size w w2) := HB1.out.trans (hb2.mono HB1.out.size); clear hb2))
    go_ret
    exact ⟨rfl, HB2.out⟩

end Go.Proofs.Ytidijbnoaeopdaa
/-
  THE MODEL's StartRun.
-/
namespace Go.Proofs.Ytidijbnoaeopdaa
set_option linter.unusedVariables false
set_option linter.unusedSimpArgs false
open Go.RowKit

/-- .. whose graph lies in new blocks -/
def GotXN (r : Rn × Bool) (w : World) (e : Ending) (w' : World) : Prop := ∃ gv, e = .returned (.tuple #[.agg (rnC gv r.1), .bool r.2]) ∧ CellsOn w' (fun k => k < w'.heap.size ∧ w.heap.size ≤ k) r.1.g gv ∧ Below w.heap.size w w'
set_option maxRecDepth 100000 in
set_option maxHeartbeats 1600000 in
theorem specStartN_calls (ds : List Df) (t : Tr) (p c : Value) (w : World) (hp : DIn w ds p) (hk : In w t.kids c) (ht : I64 t.op ∧ I64 t.num) :
    Calls Try.prog 8 #[p, .agg #[.int .i64 t.op, .int .i64 t.num, c]] w (GotXN (sxO ds t) w) := by
  have HK : Hid (In w t.kids c) := hk
  have HP : Hid (DIn w ds p) := hp
  have HT := mkHid ht
  obtain ⟨ad, cap, rfl, -, -, -⟩ := hk
  obtain ⟨adp, capp, rfl, -, -, -⟩ := hp
  obtain ⟨W, hW⟩ : ∃ W, W = (w.alloc (.cells #[.int .i64 t.op, .int .i64 t.num, .slice ad t.kids.length cap] 37)).alloc (.cells #[.slice none 0 0, .int .i64 0, .int .i64 0, .int .i64 0, .int .i64 0, .int .i64 0, .int .i64 0] 30) := ⟨_, rfl⟩
  have HB_W : Hid (Below w.heap.size w W) := by rw [hW]; exact (box_below _ _).alloc (by rw [Deep.nblk_alloc]; omega) _
  have HX_W : Hid (W.heap[w.heap.size]? = some (.cells #[.int .i64 t.op, .int .i64 t.num, .slice ad t.kids.length cap] 37)) := by
    rw [hW]; exact (Deep.blk_alloc_lt _ _ _ (by rw [Deep.nblk_alloc]; omega)).trans (Deep.blk_alloc_new _ _)
  have HY_W : Hid (W.heap[w.heap.size + 1]? = some (.cells #[.slice none 0 0, .int .i64 0, .int .i64 0, .int .i64 0, .int .i64 0, .int .i64 0, .int .i64 0] 30)) := by
    have h := Deep.blk_alloc_new (w.alloc (.cells #[.int .i64 t.op, .int .i64 t.num, .slice ad t.kids.length cap] 37)) (.cells #[.slice none 0 0, .int .i64 0, .int .i64 0, .int .i64 0, .int .i64 0, .int .i64 0, .int .i64 0] 30)
    rw [Deep.nblk_alloc] at h
    rw [hW]; exact h
  have HL_W : Hid (w.heap.size + 2 ≤ W.heap.size) := by rw [hW, Hid, Deep.nblk_alloc, Deep.nblk_alloc]; exact Nat.le_refl _
  clear ht
  go_enter Try.func8, Try.ntmps8
  go_wp2_with fail
  rw [← hW]
  clear hW
  refine (l2Closed_calls ds _ t _ W (HP.out.next HB_W.out) (HK.out.next HB_W.out)).mono ?_
  rintro e w1 ⟨rfl, hb1⟩
  have HB1 : Hid (Below w.heap.size w w1) := HB_W.out.trans (hb1.mono HB_W.out.size)
  have HL1 : Hid (w.heap.size + 2 ≤ w1.heap.size) := Nat.le_trans HL_W.out hb1.size
  have HX1 := mkHid ((hb1.block _ (by have := HL_W.out; omega)).trans HX_W.out)
  have HY1 := mkHid ((hb1.block _ (by have := HL_W.out; omega)).trans HY_W.out)
  clear hb1
  cases hr : closedB ds t with
  | false =>
    have HV : Hid (sxO ds t = (rnZ, false)) := by unfold Hid sxO; rw [if_neg (by rw [hr]; simp)]
    have y0 := cell_of_blk HY1.out 0 _ rfl
    have y1 := cell_of_blk HY1.out 1 _ rfl
    have y2 := cell_of_blk HY1.out 2 _ rfl
    have y3 := cell_of_blk HY1.out 3 _ rfl
    have y4 := cell_of_blk HY1.out 4 _ rfl
    have y5 := cell_of_blk HY1.out 5 _ rfl
    have y6 := cell_of_blk HY1.out 6 _ rfl
    have fy := frz_of_blk HY1.out
    clear hr
    go_wp2_with fail
    refine bodyPost_ret (v := .tuple #[.agg (rnC (.slice none 0 0) rnZ), .bool false]) (by simp [results, Try.results8, go_sem, y0, y1, y2, y3, y4, y5, y6, fy, rnC, rnZ]) rfl ?_
    rw [HV.out]
    exact ⟨_, rfl, ⟨none, 0, rfl, Nat.le_refl _, by simp [maxLen], Or.inl rfl⟩, st7_below HB1.out (by omega)⟩
  | true =>
    have HV : Hid (sxO ds t = (startX (addT [] t []).1 (addT [] t []).2, true)) := by unfold Hid sxO; rw [if_pos hr]
    have HOK := mkHid (start_ok hr)
    obtain ⟨g0, hg0⟩ : ∃ g0, g0 = (addT [] t []).1 := ⟨_, rfl⟩
    obtain ⟨a0, ha0⟩ : ∃ a0, a0 = (addT [] t []).2 := ⟨_, rfl⟩
    have x0 := old_cell (cell_of_blk HX1.out 0 _ rfl) (.cells #[] 86)
    have x1 := old_cell (cell_of_blk HX1.out 1 _ rfl) (.cells #[] 86)
    have x2 := old_cell (cell_of_blk HX1.out 2 _ rfl) (.cells #[] 86)
    have hADD : Calls Try.prog 32 #[.slice (some ⟨w1.heap.size, 0, none⟩) 0 0, .agg #[.int .i64 t.op, .int .i64 t.num, .slice ad t.kids.length cap], .slice none 0 0] (w1.alloc (.cells #[] 86)) (fun e w' => ∃ gv', e = .returned (.tuple #[gv', .int .i64 (a0 : Int)]) ∧ CellsOn w' (fun k => k < w'.heap.size ∧ w1.heap.size ≤ k) g0 gv' ∧ Below w1.heap.size w1 w') := by
      have hz : (w1.alloc (.cells #[] 86)).heap.size = w1.heap.size + 1 := Deep.nblk_alloc _ _
      refine (ad_calls [] t (.slice (some ⟨w1.heap.size, 0, none⟩) 0 0) (.slice none 0 0) (.slice ad t.kids.length cap) w1.heap.size (fun b => w1.heap.size ≤ b) [] _ (OwnC.zero (Deep.blk_alloc_new _ _) (Nat.le_refl _)) (by omega) ⟨none, 0, rfl, Nat.le_refl _, by simp [maxLen], Or.inl rfl⟩ ((HK.out.next HB1.out).mono (fun _ h => h) fun k hk => Deep.blk_alloc_lt _ _ _ hk) (by have := HOK.out.2.2.2.2; simp; omega) (by simp) HT.out.1 HT.out.2 HOK.out.2.2.2.1).mono ?_
      rintro e w' ⟨gv', rfl, hown, hg, -⟩
      refine ⟨gv', by rw [ha0], ?_, below_grown (box_below _ _) hg fun k e => by simp only [Value.ownBlock, Option.some.injEq] at e; omega⟩
      rw [hg0]
      exact (hown.own fun k h _ => by rcases h with h | h; exact h; omega).onS fun k hk hz => ⟨hz, (List.mem_range'_1.1 hk).1⟩
    have HADD := mkHid hADD
    rw [← hg0, ← ha0] at HV
    clear hr hg0 ha0 hADD
    go_wp2_with fail
    refine HADD.out.mono ?_
    rintro e w2 ⟨gv, rfl, hc2, hb2⟩
    obtain ⟨adz, capz, rfl, -, -, -⟩ := id hc2
    have HC2 := mkHid hc2
    have HB2 : Hid (Below w.heap.size w w2) := HB1.out.trans (hb2.mono HB1.out.size)
    have HY2 := mkHid ((hb2.block _ (by have := HL1.out; omega)).trans HY1.out)
    have y0 := cell_of_blk HY2.out 0 _ rfl
    have y1 := cell_of_blk HY2.out 1 _ rfl
    have y2 := cell_of_blk HY2.out 2 _ rfl
    have y3 := cell_of_blk HY2.out 3 _ rfl
    have y4 := cell_of_blk HY2.out 4 _ rfl
    have y5 := cell_of_blk HY2.out 5 _ rfl
    have y6 := cell_of_blk HY2.out 6 _ rfl
    have fy := frz_of_blk HY2.out
    clear hc2 hb2 x0 x1 x2
    go_wp2_with fail
    refine bodyPost_ret (v := .tuple #[.agg (rnC (.slice adz g0.length capz) (startX g0 a0)), .bool true]) (by simp [results, Try.results8, go_sem, y0, y1, y2, y3, y4, y5, y6, fy, rnC, startX]) rfl ?_
    rw [HV.out]
    refine ⟨_, rfl, ?_, st7_below HB2.out (by omega)⟩
    exact CellsOn.mono HC2.out (fun k hk => by rw [st7_size]; exact ⟨hk.1, by have := hk.2; have := HL1.out; omega⟩) (fun k hk => st7_far (by have := hk.2; have := HL1.out; omega))
end Go.Proofs.Ytidijbnoaeopdaa
/-
  THE PROGRAM's arena, wherever it lies: one cell more.
-/
namespace Go.Proofs.Ytidijbnoaeopdaa
set_option linter.unusedVariables false
set_option linter.unusedSimpArgs false
open Go.RowKit

theorem row_ne_cells {w : World} {A lo n : Nat} {T : TypeId} {CC : Array Value} {gv : Value} {xs : List Value} (hT : T ≠ 86) (hA : w.heap[A]? = some (.cells CC T)) (hx : w.ownsRow lo 86 3 gv n xs) : some A ≠ gv.ownBlock := by
  intro e
  rcases hx.2 with ⟨rfl, -⟩ | ⟨b, cap, cur, rfl, -, hh, -⟩
  · simp [Value.ownBlock] at e
  · simp only [Value.ownBlock, Option.some.injEq] at e
    subst e
    rw [hh] at hA
    simp only [Option.some.injEq, Obj.cells.injEq] at hA
    exact hT hA.2.1.symm
theorem grown_drew {w w5 : World} {b : Option Nat} (h : w.drew.grownBy w5 b) : w.grownBy w5 b := ⟨h.os, h.tape, h.output, h.size, h.block⟩
theorem arp_keep {w w5 : World} {A lo n : Nat} {T : TypeId} {CC : Array Value} {gv : Value} {xs : List Value} {o1 o2 : Obj} (hT : T ≠ 86) (hA : w.heap[A]? = some (.cells CC T)) (hx : w.ownsRow lo 86 3 gv n xs) (hg : ((w.alloc o1).alloc o2).grownBy w5 gv.ownBlock) : w5.heap[A]? = some (.cells CC T) := by
  have hl : A < w.heap.size := (Array.getElem?_eq_some_iff.1 hA).1
  exact ((hg.block A (by rw [Deep.nblk_alloc, Deep.nblk_alloc]; omega) (row_ne_cells hT hA hx)).trans ((Deep.blk_alloc_lt _ _ _ (by rw [Deep.nblk_alloc]; omega)).trans (Deep.blk_alloc_lt _ _ _ hl))).trans hA

/-- what add hands back: the cell's place; its row is the arena's -/
def AddedP (A q lo n : Nat) (o m : Int) (gv kv : Value) (xs : List Value) (w : World) (e : Ending) (w' : World) : Prop :=
  ∃ v' w5, e = .returned (.int .i64 (n : Int)) ∧ w5.ownsRow lo 86 3 v' (n + 1) (xs ++ [.int .i64 o, .int .i64 m, kv]) ∧ ((w.alloc (.cells #[.int .i64 o, .int .i64 m, kv] 86)).alloc (.cells #[.int .i64 o, .int .i64 m, kv] 86)).grownBy w5 gv.ownBlock ∧ (v'.ownBlock = gv.ownBlock ∨ ∃ g, v'.ownBlock = some g ∧ ((w.alloc (.cells #[.int .i64 o, .int .i64 m, kv] 86)).alloc (.cells #[.int .i64 o, .int .i64 m, kv] 86)).heap.size ≤ g) ∧ w' = w5.setCell ⟨A, q, none⟩ v'

set_option maxRecDepth 100000 in
set_option maxHeartbeats 1600000 in
theorem addP_calls (A q : Nat) (T : TypeId) (CC : Array Value) (hT : T ≠ 86) (lo n : Nat) (o m : Int) (gv : Value) (adk : Option Addr) (nk ck : Nat) (xs : List Value) (w : World) (hA : w.heap[A]? = some (.cells CC T)) (hq : CC[q]? = some gv) (hx : w.ownsRow lo 86 3 gv n xs) (hlo : lo ≤ w.heap.size) (hn : n ≤ 500000) :
    Calls Try.prog 80 #[.pointer (some ⟨A, q, none⟩), .agg #[.int .i64 o, .int .i64 m, .slice adk nk ck]] w (AddedP A q lo n o m gv (.slice adk nk ck) xs w) := by
  have HA : Hid (w.heap[A]? = some (.cells CC T)) := hA
  have HX : Hid (w.ownsRow lo 86 3 gv n xs) := hx
  have a0 := cell_of_blk hA q _ hq
  have af := frz_of_blk hA q
  obtain ⟨ad, cap, rfl⟩ : ∃ ad cap, gv = .slice ad n cap := by
    rcases hx.2 with ⟨rfl, h0⟩ | ⟨b, cap, cur, rfl, -⟩
    · exact ⟨none, 0, by rw [h0]⟩
    · exact ⟨_, _, rfl⟩
  have HQ := mkHid hq
  clear hA hx hq
  go_enter Try.func80, Try.ntmps80
  have p0 := old_cell a0 (.cells #[.int .i64 o, .int .i64 m, .slice adk nk ck] 86)
  have p1 := old_cell p0 (.cells #[.int .i64 o, .int .i64 m, .slice adk nk ck] 86)
  have b0 := box_cell w #[.int .i64 o, .int .i64 m, .slice adk nk ck] 86 0 _ rfl
  have b1 := box_cell w #[.int .i64 o, .int .i64 m, .slice adk nk ck] 86 1 _ rfl
  have b2 := box_cell w #[.int .i64 o, .int .i64 m, .slice adk nk ck] 86 2 _ rfl
  obtain ⟨iC, zC, hII⟩ := infoC1
  have HII : Hid (Try.prog.info? 86 = some iC ∧ iC.zero = some zC ∧ iC.size = 3 ∧ iC.bytes = 40 ∧ zC.cells.size = 3) := hII
  have HX2 : Hid (((w.alloc (.cells #[.int .i64 o, .int .i64 m, .slice adk nk ck] 86)).alloc (.cells #[.int .i64 o, .int .i64 m, .slice adk nk ck] 86)).drew.ownsRow lo 86 3 (.slice ad n cap) n xs) := own_keep (own_keep (own_keep HX.out (fun k _ hk => Deep.blk_alloc_lt _ _ _ hk)) (fun k _ hk => Deep.blk_alloc_lt _ _ _ hk)) (fun _ _ _ => rfl)
  clear hII
  go_wp2_with fail
  go_region_law (refine step_append_where rfl (.tmp 9) (.tmp 11) 28 rfl lo 86 iC zC 3 40 Try.underlying28 HII.out.1 HII.out.2.1 HII.out.2.2.1 HII.out.2.2.2.1 HII.out.2.2.2.2 (by decide) (.slice ad n cap) n xs (by simp [Act.eval, Act.put]) HX2.out ⟨w.heap.size + 1, 0, none⟩ 1 1 [.int .i64 o, .int .i64 m, .slice adk nk ck] (by simp [Act.eval, Act.put]) rfl (by have h := news3c (w.alloc (.cells #[.int .i64 o, .int .i64 m, .slice adk nk ck] 86)) (.int .i64 o) (.int .i64 m) (.slice adk nk ck); rw [Deep.nblk_alloc] at h; exact h) (by simp [Value.oneCell']) (by unfold maxLen; omega) (by omega) (by show lo ≤ ((w.alloc _).alloc _).heap.size; simp only [Deep.nblk_alloc]; omega) (by omega) ?_; intro v' w5 hown hg0 hw; have hg := grown_drew hg0; clear hg0; obtain ⟨g', c', rfl, -, -, -, -⟩ := own_form hown (by omega); have s2 := cell_of_blk (arp_keep hT HA.out HX.out hg) q _ HQ.out; have sf := frz_of_blk (arp_keep hT HA.out HX.out hg) q)
  all_goals
    have hn0 : ¬ ((n : Int) + 1 - 1 < 0) := by omega
    have h64 : IntKind.i64.wrap ((n : Int) + 1 - 1) = (n : Int) := by rw [show (n : Int) + 1 - 1 = (n : Int) by omega]; exact IntWalk.i64_in _ (by omega)
    go_wp2_with fail
    go_ret
    exact ⟨_, w5, rfl, hown, hg, hw, rfl⟩
end Go.Proofs.Ytidijbnoaeopdaa
/-
  THE PROGRAM's arena: one cell more.
-/
namespace Go.Proofs.Ytidijbnoaeopdaa
set_option linter.unusedVariables false
set_option linter.unusedSimpArgs false
open Go.RowKit

theorem cells_ne_arena {w : World} {A lo n : Nat} {gv gv0 : Value} {xs : List Value} (hA : w.heap[A]? = some (.cells #[gv0] 109)) (hx : w.ownsRow lo 86 3 gv n xs) : some A ≠ gv.ownBlock := by
  intro e
  rcases hx.2 with ⟨rfl, -⟩ | ⟨b, cap, cur, rfl, -, hh, -⟩
  · simp [Value.ownBlock] at e
  · simp only [Value.ownBlock, Option.some.injEq] at e
    subst e
    rw [hh] at hA
    simp at hA
/-- what add hands back: the cell's place; its row is the arena's -/
abbrev Added (A lo n : Nat) (o m : Int) (gv kv : Value) (xs : List Value) (w : World) (e : Ending) (w' : World) : Prop := AddedP A 0 lo n o m gv kv xs w e w'
theorem arena_not_cell : (109 : TypeId) ≠ 86 := by decide
theorem add_calls (A lo n : Nat) (o m : Int) (gv : Value) (adk : Option Addr) (nk ck : Nat) (xs : List Value) (w : World) (hA : w.heap[A]? = some (.cells #[gv] 109)) (hx : w.ownsRow lo 86 3 gv n xs) (hlo : lo ≤ w.heap.size) (hn : n ≤ 500000) :
    Calls Try.prog 80 #[.pointer (some ⟨A, 0, none⟩), .agg #[.int .i64 o, .int .i64 m, .slice adk nk ck]] w (Added A lo n o m gv (.slice adk nk ck) xs w) :=
  addP_calls A 0 109 #[gv] arena_not_cell lo n o m gv adk nk ck xs w hA rfl hx hlo hn
end Go.Proofs.Ytidijbnoaeopdaa
