/-
  LISTS OF TREES THAT A CALL BUILDS BY append: the row that it owns, and the trees elsewhere; append as one step of a region that draws its order, with where the new row lies.
-/
import Derived.Test.YtiipcgnkfhjpeaaGreatDoorMgExactStepRun16
import Derived.Deep.RegionLaw
import Derived.Deep.RegionLawGrows
import Derived.Deep.DeepMust
import Derived.Test.YtiipcgnkfhjpeaaGreatDoorMgExactStepRun11
import Derived.Test.YtiipcgnkfhjpeaaGreatDoorMgExactStepRun15
import Derived.Test.YtiipcgnkfhjpeaaGreatDoorMgExactStepRun14
import Derived.Test.YtiipcgnkfhjpeaaGreatDoorMgExactStepRun1
import Derived.Test.YtiipcgnkfhjpeaaGreatDoorProg
import Derived.Deep.RegionHeld3
import Derived.Deep.RegionWith
import Derived.BigRegion
import Derived.Test.YtiipcgnkfhjpeaaGreatDoorMgExactStepRun12
import Derived.Test.YtiipcgnkfhjpeaaGreatDoorMgExactStepRun8
namespace Go.Proofs.YtiipcgnkfhjpeaaGreatDoor
set_option linter.unusedVariables false
set_option linter.unusedSimpArgs false
open Go.RowKit

/-- a list of trees that a call has built by append: the row is its own, the trees lie elsewhere, all from lo on -/
def OwnTr (w : World) (lo : Nat) (ts : List Tr) (v : Value) : Prop :=
  ∃ xs, w.ownsRow lo 48 3 v ts.length xs ∧ ∀ j (hj : j < ts.length), ∃ a b c, xs[j * 3]? = some a ∧ xs[j * 3 + 1]? = some b ∧ xs[j * 3 + 2]? = some c ∧ TrOn w (fun k => lo ≤ k ∧ k < w.heap.size ∧ some k ≠ v.ownBlock) ts[j] a b c

theorem OwnTr.nil (w : World) (lo : Nat) : OwnTr w lo [] (.slice none 0 0) := ⟨[], World.ownsRow_nil w lo _ _, fun j hj => absurd hj (by simp)⟩

/-- it stays where all blocks from lo on stay -/
theorem OwnTr.next {w w' : World} {lo : Nat} {ts : List Tr} {v : Value} (h : OwnTr w lo ts v) (hsz : w.heap.size ≤ w'.heap.size) (hb : ∀ k, lo ≤ k → k < w.heap.size → w'.heap[k]? = w.heap[k]?) : OwnTr w' lo ts v := by
  obtain ⟨xs, h1, h2⟩ := h
  refine ⟨xs, ⟨h1.1, ?_⟩, fun j hj => ?_⟩
  · rcases h1.2 with h | ⟨g, cap, cur, rfl, hg, hh, r⟩
    · exact Or.inl h
    · exact Or.inr ⟨g, cap, cur, rfl, hg, (hb g hg (Array.getElem?_eq_some_iff.1 hh).1).trans hh, r⟩
  · obtain ⟨a, b, c, e1, e2, e3, e4⟩ := h2 j hj
    exact ⟨a, b, c, e1, e2, e3, e4.mono (fun k hk => ⟨hk.1, Nat.lt_of_lt_of_le hk.2.1 hsz, hk.2.2⟩) (fun k hk => hb k hk.1 hk.2.1)⟩

/-- one tree more -/
theorem OwnTr.step {w w' : World} {lo : Nat} {ts : List Tr} {v v' : Value} {t : Tr} {a b c : Value} (h : OwnTr w lo ts v) (xs : List Value) (hx : w.ownsRow lo 48 3 v ts.length xs) (hlo : lo ≤ w.heap.size)
    (ht : ∀ j (hj : j < ts.length), ∃ a b c, xs[j * 3]? = some a ∧ xs[j * 3 + 1]? = some b ∧ xs[j * 3 + 2]? = some c ∧ TrOn w (fun k => lo ≤ k ∧ k < w.heap.size ∧ some k ≠ v.ownBlock) ts[j] a b c)
    (hn : TrOn w (fun k => lo ≤ k ∧ k < w.heap.size ∧ some k ≠ v.ownBlock) t a b c)
    (hown : w'.ownsRow lo 48 3 v' (ts.length + 1) (xs ++ [a, b, c])) (hg : w.grownBy w' v.ownBlock) (hw : v'.ownBlock = v.ownBlock ∨ ∃ g, v'.ownBlock = some g ∧ w.heap.size ≤ g) : OwnTr w' lo (ts ++ [t]) v' := by
  have hlen := hx.1
  have keep : ∀ (s : Tr) (x y z : Value), TrOn w (fun k => lo ≤ k ∧ k < w.heap.size ∧ some k ≠ v.ownBlock) s x y z → TrOn w' (fun k => lo ≤ k ∧ k < w'.heap.size ∧ some k ≠ v'.ownBlock) s x y z := by
    intro s x y z hs
    refine hs.mono (fun k hk => ⟨hk.1, Nat.lt_of_lt_of_le hk.2.1 hg.size, ?_⟩) (fun k hk => hg.block k hk.2.1 hk.2.2)
    rcases hw with hw | ⟨g, hw, hge⟩
    · rw [hw]; exact hk.2.2
    · rw [hw]; intro e; simp only [Option.some.injEq] at e; have := hk.2.1; omega
  refine ⟨xs ++ [a, b, c], by simpa using hown, fun j hj => ?_⟩
  by_cases hjl : j < ts.length
  · obtain ⟨x, y, z, e1, e2, e3, e4⟩ := ht j hjl
    have l1 : j * 3 + 2 < xs.length := by omega
    refine ⟨x, y, z, ?_, ?_, ?_, ?_⟩
    · rw [List.getElem?_append_left (by omega)]; exact e1
    · rw [List.getElem?_append_left (by omega)]; exact e2
    · rw [List.getElem?_append_left (by omega)]; exact e3
    · rw [List.getElem_append_left hjl]; exact keep _ _ _ _ e4
  · have hj' : j = ts.length := by simp at hj; omega
    subst hj'
    refine ⟨a, b, c, ?_, ?_, ?_, ?_⟩
    · rw [List.getElem?_append_right (by omega)]; simp [hlen]
    · rw [List.getElem?_append_right (by omega)]; simp [hlen]
    · rw [List.getElem?_append_right (by omega)]; simp [hlen]
    · simpa using keep _ _ _ _ hn

/-- the list, as trees in memory -/
theorem OwnTr.kids {w : World} {lo : Nat} {ts : List Tr} {v : Value} (h : OwnTr w lo ts v) : KidsOn w (Btw lo w.heap.size) ts v := by
  obtain ⟨xs, h1, h2⟩ := h
  rcases h1.2 with ⟨rfl, h0⟩ | ⟨g, cap, cur, rfl, hg, hh, hn, hc, hs, htk⟩
  · obtain rfl : ts = [] := List.eq_nil_of_length_eq_zero h0
    exact ⟨none, 0, rfl, Nat.le_refl _, by simp [maxLen], Or.inl rfl⟩
  · refine ⟨_, cap, rfl, hn, hc, Or.inr ⟨g, 0, rfl, ⟨hg, (Array.getElem?_eq_some_iff.1 hh).1⟩, RowOn.of _ _ fun i hi => ?_⟩⟩
    obtain ⟨a, b, c, e1, e2, e3, e4⟩ := h2 i hi
    refine ⟨a, b, c, ?_, ?_, ?_, e4.mono (fun k hk => ⟨hk.1, hk.2.1⟩) (fun _ _ => rfl)⟩
    · rw [Nat.zero_add, h1.cellAt (i * 3) (by omega)]; exact e1
    · rw [Nat.zero_add, h1.cellAt (i * 3 + 1) (by omega)]; exact e2
    · rw [Nat.zero_add, h1.cellAt (i * 3 + 2) (by omega)]; exact e3
end Go.Proofs.YtiipcgnkfhjpeaaGreatDoor
/-
  LISTS OF TREES WITH DISTINCT BLOCKS THAT A CALL BUILDS BY append.
-/
namespace Go.Proofs.YtiipcgnkfhjpeaaGreatDoor
set_option linter.unusedVariables false
set_option linter.unusedSimpArgs false
open Go.RowKit

/-- a list of trees that a call has built by append: the row is its own, each tree has its own blocks, all from lo on -/
def OwnF (w : World) (lo hi : Nat) (ts : List Tr) (v : Value) : Prop :=
  ∃ (xs : List Value) (fps : List (List Nat)), w.ownsRow lo 48 3 v ts.length xs ∧ fps.length = ts.length ∧
    (∀ j (hj : j < ts.length), ∃ f, fps[j]? = some f ∧ ∃ a b c, xs[j * 3]? = some a ∧ xs[j * 3 + 1]? = some b ∧ xs[j * 3 + 2]? = some c ∧ TrFp w 48 ts[j] f a b c) ∧
    fps.flatten.Nodup ∧ ∀ k ∈ fps.flatten, lo ≤ k ∧ k < hi ∧ some k ≠ v.ownBlock

theorem OwnF.nil (w : World) (lo hi : Nat) : OwnF w lo hi [] (.slice none 0 0) := ⟨[], [], World.ownsRow_nil w lo _ _, rfl, fun j hj => absurd hj (by simp), by simp, by simp⟩
theorem OwnF.next {w w' : World} {lo hi hi' : Nat} {ts : List Tr} {v : Value} (h : OwnF w lo hi ts v) (hh : hi ≤ hi') (hs : hi ≤ w.heap.size) (hb : ∀ k, lo ≤ k → k < w.heap.size → w'.heap[k]? = w.heap[k]?) : OwnF w' lo hi' ts v := by
  obtain ⟨xs, fps, h1, h2, h3, h4, h5⟩ := h
  refine ⟨xs, fps, own_keep h1 hb, h2, fun j hj => ?_, h4, fun k hk => ⟨(h5 k hk).1, Nat.lt_of_lt_of_le (h5 k hk).2.1 hh, (h5 k hk).2.2⟩⟩
  obtain ⟨f, e0, a, b, c, e1, e2, e3, e4⟩ := h3 j hj
  exact ⟨f, e0, a, b, c, e1, e2, e3, TrFp.keep _ _ _ _ _ (fun k hk => by
    have := h5 k (List.mem_flatten.2 ⟨f, List.mem_of_getElem? e0, hk⟩)
    exact hb k this.1 (Nat.lt_of_lt_of_le this.2.1 hs)) e4⟩
theorem OwnF.row {w : World} {lo hi : Nat} {ts : List Tr} {v : Value} (h : OwnF w lo hi ts v) : ∃ xs, w.ownsRow lo 48 3 v ts.length xs := by
  obtain ⟨xs, -, h1, -⟩ := h; exact ⟨xs, h1⟩
/-- one tree more -/
theorem OwnF.step {w w' : World} {lo hi : Nat} {ts : List Tr} {v v' : Value} {t : Tr} {a b c : Value} {f : List Nat} (h : OwnF w lo hi ts v) (hlo : lo ≤ hi) (hs : hi ≤ w.heap.size)
    (hn : TrFp w 48 t f a b c) (hf : f.Nodup) (hfl : ∀ k ∈ f, hi ≤ k ∧ k < w.heap.size ∧ some k ≠ v.ownBlock) (xs : List Value) (hx : w.ownsRow lo 48 3 v ts.length xs)
    (hown : w'.ownsRow lo 48 3 v' (ts.length + 1) (xs ++ [a, b, c])) (hg : w.grownBy w' v.ownBlock) (hw : v'.ownBlock = v.ownBlock ∨ ∃ g, v'.ownBlock = some g ∧ w.heap.size ≤ g) : OwnF w' lo w.heap.size (ts ++ [t]) v' := by
  obtain ⟨xs2, fps, h1, h2, h3, h4, h5⟩ := h
  -- the row's cells are the same
  have hxs : xs2 = xs := by
    rcases h1.2 with ⟨rfl, h0⟩ | ⟨g, cap, cur, rfl, hg', hh, hn', hc, hs, htk⟩
    · have a1 := h1.1
      have a2 := hx.1
      rw [h0] at a1 a2
      rw [List.eq_nil_of_length_eq_zero (by omega : xs2.length = 0), List.eq_nil_of_length_eq_zero (by omega : xs.length = 0)]
    · rcases hx.2 with ⟨e, -⟩ | ⟨g2, cap2, cur2, e, -, hh2, -, -, -, htk2⟩
      · cases e
      · cases e
        rw [hh] at hh2
        cases hh2
        rw [← htk, ← htk2]
  subst hxs
  have hlen := h1.1
  have keepB : ∀ k, lo ≤ k ∧ k < w.heap.size ∧ some k ≠ v.ownBlock → w'.heap[k]? = w.heap[k]? := fun k hk => hg.block k hk.2.1 hk.2.2
  have nb : ∀ k, k < w.heap.size → some k ≠ v.ownBlock → some k ≠ v'.ownBlock := fun k hk hkv => by
    rcases hw with hw | ⟨g, hw, hge⟩
    · rw [hw]; exact hkv
    · rw [hw]; intro e; simp only [Option.some.injEq] at e; omega
  refine ⟨xs2 ++ [a, b, c], fps ++ [f], by simpa using hown, by simp [h2], fun j hj => ?_, ?_, ?_⟩
  · by_cases hjl : j < ts.length
    · obtain ⟨f', e0, x, y, z, e1, e2, e3, e4⟩ := h3 j hjl
      refine ⟨f', ?_, x, y, z, ?_, ?_, ?_, ?_⟩
      · rw [List.getElem?_append_left (by omega)]; exact e0
      · rw [List.getElem?_append_left (by omega)]; exact e1
      · rw [List.getElem?_append_left (by omega)]; exact e2
      · rw [List.getElem?_append_left (by omega)]; exact e3
      · rw [List.getElem_append_left hjl]
        exact TrFp.keep _ _ _ _ _ (fun k hk => by
          have := h5 k (List.mem_flatten.2 ⟨f', List.mem_of_getElem? e0, hk⟩)
          exact keepB k ⟨this.1, Nat.lt_of_lt_of_le this.2.1 hs, this.2.2⟩) e4
    · have hj' : j = ts.length := by simp at hj; omega
      subst hj'
      refine ⟨f, ?_, a, b, c, ?_, ?_, ?_, ?_⟩
      · rw [List.getElem?_append_right (by omega)]; simp [h2]
      · rw [List.getElem?_append_right (by omega)]; simp [hlen]
      · rw [List.getElem?_append_right (by omega)]; simp [hlen]
      · rw [List.getElem?_append_right (by omega)]; simp [hlen]
      · simpa using TrFp.keep _ _ _ _ _ (fun k hk => keepB k ⟨Nat.le_trans hlo (hfl k hk).1, (hfl k hk).2⟩) hn
  · rw [List.flatten_append, List.nodup_append]
    refine ⟨h4, by simpa using hf, fun x hx y hy e => ?_⟩
    subst e
    have e1 := (h5 x hx).2.1
    have e2 := (hfl x (by simpa using hy)).1
    omega
  · intro k hk
    simp only [List.flatten_append, List.mem_append] at hk
    rcases hk with hk | hk
    · have := h5 k hk
      exact ⟨this.1, Nat.lt_of_lt_of_le this.2.1 hs, nb k (Nat.lt_of_lt_of_le this.2.1 hs) this.2.2⟩
    · have := hfl k (by simpa using hk)
      exact ⟨Nat.le_trans hlo this.1, this.2.1, nb k this.2.1 this.2.2⟩
end Go.Proofs.YtiipcgnkfhjpeaaGreatDoor
/-
  WHAT ReadGraph ANSWERS, plainly.
-/
namespace Go.Proofs.YtiipcgnkfhjpeaaGreatDoor
set_option linter.unusedVariables false
set_option linter.unusedSimpArgs false
open Go.RowKit

theorem graphB_six {g : List Ce} {defs : Int} (h : graphB g defs = true) : graphB g 6 = true := by
  unfold graphB at h ⊢
  simp only [Bool.and_eq_true, decide_eq_true_eq, List.all_eq_true] at h ⊢
  obtain ⟨h1, h2⟩ := h
  refine ⟨by omega, fun c hc => ?_⟩
  have h3 := h2 c hc
  unfold cellB fitsB at h3 ⊢
  simp only [Bool.and_eq_true] at h3 ⊢
  refine ⟨⟨h3.1.1, ?_⟩, h3.2⟩
  have h4 := h3.1.2
  unfold ownB at h4 ⊢
  by_cases e1 : c.op = 1
  · rw [if_pos e1] at h4 ⊢; exact h4
  rw [if_neg e1] at h4 ⊢
  by_cases e2 : c.op = 2
  · rw [if_pos e2] at h4 ⊢; exact h4
  rw [if_neg e2] at h4 ⊢
  by_cases e3 : c.op = 3
  · rw [if_pos e3] at h4 ⊢; simp at h4 ⊢; omega
  rw [if_neg e3] at h4 ⊢; exact h4
end Go.Proofs.YtiipcgnkfhjpeaaGreatDoor
/-
  PLAIN: runs with collection. No program is named here.
-/
namespace Go.Proofs.YtiipcgnkfhjpeaaGreatDoor
set_option linter.unusedVariables false
set_option linter.unusedSimpArgs false

/-! ### A copy is valid -/
theorem copyG_valid {g : List Ce} {defs : Int} {roots : List Nat} (hg : graphB g defs = true) (hr : ∀ x ∈ roots, x < g.length) : graphB (copyG g roots) defs = true := by
  have h6 := graphB_six hg
  have hcs := order_cs h6 hr
  have hcl := order_closed h6 hr
  have hb := (graphB_iff.1 hg).1
  refine graphB_iff.2 ⟨⟨?_, hb.2⟩, fun c hc => ?_⟩
  · rw [copyG_len]; have := hcs.len; omega
  · unfold copyG at hc
    simp only [List.mem_map] at hc
    obtain ⟨a, ha, rfl⟩ := hc
    have hal := hcs.2 a ha
    have hf := ((graphB_iff.1 hg).2 g[a] (List.getElem_mem hal)).1
    refine ⟨?_, fun k hk => ?_⟩
    · unfold fitsB at hf ⊢
      have e : (cpCell g (orderG g roots) a).kids.length = g[a].kids.length := by
        show ((kidsN g a).map _).length = _
        rw [List.length_map]
        unfold kidsN
        rw [List.length_map, getD_at _ _ _ hal]
      rw [e, show (cpCell g (orderG g roots) a).op = g[a].op from opAt_at a hal, show (cpCell g (orderG g roots) a).num = g[a].num from numAt_at a hal]
      exact hf
    · simp only [cpCell, List.mem_map] at hk
      obtain ⟨y, hy, rfl⟩ := hk
      have := posN_lt _ y (hcl a ha y hy)
      rw [copyG_len]
      omega
theorem topsG_lt {g : List Ce} {defs : Int} {roots : List Nat} (hg : graphB g defs = true) (hr : ∀ x ∈ roots, x < g.length) : ∀ x ∈ topsG g roots, x < (copyG g roots).length := by
  intro x hx
  simp only [topsG, List.mem_map] at hx
  obtain ⟨a, ha, rfl⟩ := hx
  rw [copyG_len]
  exact posN_lt _ a (order_root (graphB_six hg) hr a ha)

/-! ### Collections of one root -/
/-- the graph that is collected: with tidying, after selections -/
noncomputable def preC (tidy : Bool) (g : List Ce) : List Ce := if tidy then (selRes g).1 else g
noncomputable def colG (tidy : Bool) (g : List Ce) (a : Nat) : List Ce := copyG (shortG (preC tidy g)) [skipN (preC tidy g) a]
noncomputable def colA (tidy : Bool) (g : List Ce) (a : Nat) : Nat := posN (orderG (shortG (preC tidy g)) [skipN (preC tidy g) a]) (skipN (preC tidy g) a)
theorem preC_ok {g : List Ce} {defs : Int} (tidy : Bool) (hg : graphB g defs = true) : graphB (preC tidy g) defs = true ∧ (preC tidy g).length = g.length := by
  unfold preC
  cases tidy with
  | false => exact ⟨hg, rfl⟩
  | true => exact ⟨(selRes_ok hg).1, (selRes_ok hg).2.1⟩
theorem col_ok {g : List Ce} {defs : Int} (tidy : Bool) (hg : graphB g defs = true) {a : Nat} (ha : a < g.length) : graphB (colG tidy g a) defs = true ∧ colA tidy g a < (colG tidy g a).length := by
  obtain ⟨h1, h2⟩ := preC_ok tidy hg
  have hr : ∀ x ∈ [skipN (preC tidy g) a], x < (shortG (preC tidy g)).length := by
    intro x hx
    simp only [List.mem_singleton] at hx
    subst hx
    rw [shortG_len]
    exact skip_lt h1 (by omega)
  refine ⟨copyG_valid (shortG_valid h1) hr, ?_⟩
  have := topsG_lt (shortG_valid h1) hr (colA tidy g a) (by simp [topsG, colA])
  exact this
/-- what the two collections answer for a valid graph and one root -/
theorem rootB_one {g : List Ce} {defs : Int} (hg : graphB g defs = true) {a : Nat} (ha : a < g.length) : rootB g [(a : Int)] = true := by
  refine rootB_iff.2 ⟨graphB_six hg, by simp, ?_⟩
  simp only [List.all_cons, List.all_nil, Bool.and_true, isAt, decide_eq_true_eq]
  omega
theorem collO_one {g : List Ce} {defs : Int} (hg : graphB g defs = true) {a : Nat} (ha : a < g.length) : collO g [(a : Int)] = (colG false g a, [colA false g a]) := by
  rw [collO_yes (rootB_one hg ha)]
  simp [natL, colG, colA, preC, topsG]
theorem tidyO_one {g : List Ce} {defs : Int} (hg : graphB g defs = true) {a : Nat} (ha : a < g.length) : tidyO g [(a : Int)] = (colG true g a, [colA true g a]) := by
  rw [tidyO_yes (rootB_one hg ha), collO_one (selRes_ok hg).1 (by rw [(selRes_ok hg).2.1]; exact ha)]
  simp [colG, colA, preC]

/-! ### Runs -/
structure Rn where
  g : List Ce
  root : Nat
  steps : Int
  moved : Int
  peak : Int
  ticks : Int
  rounds : Int
/-- its cells are a valid graph with its root -/
noncomputable def Rn.Ok (ds : List Df) (x : Rn) : Prop := graphB x.g ds.length = true ∧ x.root < x.g.length
noncomputable def Rn.val (ds : List Df) (x : Rn) : Bool := valB (arsOf ds) x.g x.root
/-- after a collection -/
noncomputable def Rn.col (tidy : Bool) (x : Rn) : Rn := { x with g := colG tidy x.g x.root, root := colA tidy x.g x.root, moved := x.moved + (colG tidy x.g x.root).length, rounds := x.rounds + 1 }
theorem Rn.Ok.col {ds : List Df} {x : Rn} (h : x.Ok ds) (tidy : Bool) : (x.col tidy).Ok ds := col_ok tidy h.1 h.2
/-- after a step, and whether it was possible -/
noncomputable def Rn.step (ds : List Df) (x : Rn) : Rn := { x with g := (stepG ds x.g x.root).1, steps := x.steps + 1, peak := max x.peak (stepG ds x.g x.root).1.length }
noncomputable def Rn.code (ds : List Df) (x : Rn) : Nat := (stepG ds x.g x.root).2
noncomputable def Rn.adv (ds : List Df) (x : Rn) : Rn × Nat := if x.code ds = 0 then (x.step ds, 0) else (x, x.code ds)
theorem Rn.Ok.step {ds : List Df} {x : Rn} (h : x.Ok ds) (hp : progB ds = true) (hv : x.val ds = false) : (x.step ds).Ok ds := by
  have := stepG_valid h.1 hp h.2 hv
  exact ⟨this.1, Nat.lt_of_lt_of_le h.2 this.2⟩
theorem Rn.Ok.adv {ds : List Df} {x : Rn} (h : x.Ok ds) (hp : progB ds = true) (hv : x.val ds = false) : (x.adv ds).1.Ok ds := by
  unfold Rn.adv
  split
  · exact h.step hp hv
  · exact h
/-- a collection if there are too many cells -/
noncomputable def Rn.lim (limit : Int) (tidy : Bool) (x : Rn) : Rn := if limit < x.g.length then x.col tidy else x
theorem Rn.Ok.lim {ds : List Df} {x : Rn} (h : x.Ok ds) (limit : Int) (tidy : Bool) : (x.lim limit tidy).Ok ds := by
  unfold Rn.lim
  split
  · exact h.col tidy
  · exact h
/-- the second half of a tick: a step, and once more after a collection if it has no room -/
noncomputable def Rn.tic2 (ds : List Df) (tidy : Bool) (x : Rn) : Rn × Nat := if x.code ds = 3 then (if (x.col tidy).val ds = true then (x.col tidy, 0) else (x.col tidy).adv ds) else x.adv ds
/-- a tick -/
noncomputable def Rn.tick (ds : List Df) (limit : Int) (tidy : Bool) (x : Rn) : Rn × Nat := if (x.lim limit tidy).val ds = true then (x.lim limit tidy, 0) else (x.lim limit tidy).tic2 ds tidy
theorem Rn.Ok.tic2 {ds : List Df} {x : Rn} (h : x.Ok ds) (hp : progB ds = true) (tidy : Bool) (hv : x.val ds = false) : (x.tic2 ds tidy).1.Ok ds := by
  unfold Rn.tic2
  split
  · cases hc : (x.col tidy).val ds with
    | true => rw [if_pos rfl]; exact h.col tidy
    | false => rw [if_neg (by simp)]; exact (h.col tidy).adv hp hc
  · exact h.adv hp hv
theorem Rn.Ok.tick {ds : List Df} {x : Rn} (h : x.Ok ds) (hp : progB ds = true) (limit : Int) (tidy : Bool) : (x.tick ds limit tidy).1.Ok ds := by
  unfold Rn.tick
  cases hv : (x.lim limit tidy).val ds with
  | true => rw [if_pos rfl]; exact h.lim limit tidy
  | false => rw [if_neg (by simp)]; exact (h.lim limit tidy).tic2 hp tidy hv
theorem Rn.adv_code {ds : List Df} (x : Rn) : (x.adv ds).2 = x.code ds := by
  unfold Rn.adv
  split
  · rename_i h; exact h.symm
  · rfl
/-! ### How large its numbers are -/
structure Rn.Bd (N : Int) (x : Rn) : Prop where
  steps : 0 ≤ x.steps ∧ x.steps ≤ N
  moved : 0 ≤ x.moved ∧ x.moved ≤ N
  peak : 0 ≤ x.peak ∧ x.peak ≤ N
  ticks : 0 ≤ x.ticks ∧ x.ticks ≤ N
  rounds : 0 ≤ x.rounds ∧ x.rounds ≤ N
theorem Rn.Bd.mono {N M : Int} {x : Rn} (h : x.Bd N) (hm : N ≤ M) : x.Bd M := ⟨⟨h.1.1, by have := h.1.2; omega⟩, ⟨h.2.1, by have := h.2.2; omega⟩, ⟨h.3.1, by have := h.3.2; omega⟩, ⟨h.4.1, by have := h.4.2; omega⟩, ⟨h.5.1, by have := h.5.2; omega⟩⟩
theorem Rn.Ok.len {ds : List Df} {x : Rn} (h : x.Ok ds) : x.g.length ≤ 400 := graphB_len h.1
theorem Rn.Bd.col {ds : List Df} {N : Int} {x : Rn} (h : x.Bd N) (ho : x.Ok ds) (tidy : Bool) : (x.col tidy).Bd (N + 400) := by
  have hl := (ho.col tidy).len
  have hl2 : ((colG tidy x.g x.root).length : Int) ≤ 400 := by exact Int.ofNat_le.2 hl
  obtain ⟨⟨a1, a2⟩, ⟨b1, b2⟩, ⟨c1, c2⟩, ⟨d1, d2⟩, ⟨e1, e2⟩⟩ := h
  exact ⟨⟨a1, by show x.steps ≤ _; omega⟩, ⟨by show 0 ≤ x.moved + _; omega, by show x.moved + _ ≤ _; omega⟩, ⟨c1, by show x.peak ≤ _; omega⟩, ⟨d1, by show x.ticks ≤ _; omega⟩, ⟨by show 0 ≤ x.rounds + 1; omega, by show x.rounds + 1 ≤ _; omega⟩⟩
theorem Rn.Bd.step {ds : List Df} {N : Int} {x : Rn} (h : x.Bd N) (hN : 400 ≤ N) (ho : (x.step ds).Ok ds) : (x.step ds).Bd (N + 1) := by
  have hl := ho.len
  have hl2 : ((stepG ds x.g x.root).1.length : Int) ≤ 400 := by exact Int.ofNat_le.2 hl
  obtain ⟨⟨a1, a2⟩, ⟨b1, b2⟩, ⟨c1, c2⟩, ⟨d1, d2⟩, ⟨e1, e2⟩⟩ := h
  exact ⟨⟨by show 0 ≤ x.steps + 1; omega, by show x.steps + 1 ≤ _; omega⟩, ⟨b1, by show x.moved ≤ _; omega⟩, ⟨by show 0 ≤ max x.peak _; omega, by show max x.peak _ ≤ _; omega⟩, ⟨d1, by show x.ticks ≤ _; omega⟩, ⟨e1, by show x.rounds ≤ _; omega⟩⟩
theorem Rn.Bd.adv {ds : List Df} {N : Int} {x : Rn} (h : x.Bd N) (hN : 400 ≤ N) (ho : x.Ok ds) (hp : progB ds = true) (hv : x.val ds = false) : (x.adv ds).1.Bd (N + 1) := by
  unfold Rn.adv
  split
  · exact h.step hN (ho.step hp hv)
  · exact h.mono (by omega)
theorem Rn.Bd.lim {ds : List Df} {N : Int} {x : Rn} (h : x.Bd N) (ho : x.Ok ds) (limit : Int) (tidy : Bool) : (x.lim limit tidy).Bd (N + 400) := by
  unfold Rn.lim
  split
  · exact h.col ho tidy
  · exact h.mono (by omega)
theorem Rn.Bd.tic2 {ds : List Df} {N : Int} {x : Rn} (h : x.Bd N) (hN : 400 ≤ N) (ho : x.Ok ds) (hp : progB ds = true) (tidy : Bool) (hv : x.val ds = false) : (x.tic2 ds tidy).1.Bd (N + 401) := by
  unfold Rn.tic2
  split
  · cases hc : (x.col tidy).val ds with
    | true => rw [if_pos rfl]; exact (h.col ho tidy).mono (by omega)
    | false => rw [if_neg (by simp)]; exact ((h.col ho tidy).adv (by omega) (ho.col tidy) hp hc).mono (by omega)
  · exact (h.adv hN ho hp hv).mono (by omega)
theorem Rn.Bd.tick {ds : List Df} {N : Int} {x : Rn} (h : x.Bd N) (hN : 400 ≤ N) (ho : x.Ok ds) (hp : progB ds = true) (limit : Int) (tidy : Bool) : (x.tick ds limit tidy).1.Bd (N + 801) := by
  unfold Rn.tick
  cases hv : (x.lim limit tidy).val ds with
  | true => rw [if_pos rfl]; exact (h.lim ho limit tidy).mono (by omega)
  | false => rw [if_neg (by simp)]; exact ((h.lim ho limit tidy).tic2 (by omega) (ho.lim limit tidy) hp tidy hv).mono (by omega)
/-- at most two collections a tick -/
theorem Rn.rounds_adv {ds : List Df} (x : Rn) : (x.adv ds).1.rounds = x.rounds := by unfold Rn.adv; split <;> rfl
theorem Rn.rounds_lim (limit : Int) (tidy : Bool) (x : Rn) : x.rounds ≤ (x.lim limit tidy).rounds ∧ (x.lim limit tidy).rounds ≤ x.rounds + 1 := by
  unfold Rn.lim
  split
  · show x.rounds ≤ x.rounds + 1 ∧ x.rounds + 1 ≤ x.rounds + 1
    omega
  · omega
theorem Rn.rounds_tic2 {ds : List Df} (tidy : Bool) (x : Rn) : x.rounds ≤ (x.tic2 ds tidy).1.rounds ∧ (x.tic2 ds tidy).1.rounds ≤ x.rounds + 1 := by
  unfold Rn.tic2
  split
  · split
    · simp only [Rn.col]; omega
    · rw [Rn.rounds_adv]; simp only [Rn.col]; omega
  · rw [Rn.rounds_adv]; omega
theorem Rn.rounds_tick {ds : List Df} (limit : Int) (tidy : Bool) (x : Rn) : (x.tick ds limit tidy).1.rounds ≤ x.rounds + 2 := by
  have h1 := Rn.rounds_lim limit tidy x
  have h2 := Rn.rounds_tic2 (ds := ds) tidy (x.lim limit tidy)
  unfold Rn.tick
  split
  · show (x.lim limit tidy).rounds ≤ _
    omega
  · omega
/-- the number of ticks changes nothing -/
noncomputable def Rn.tk (x : Rn) (k : Int) : Rn := { x with ticks := k }
/-! ### Evaluations -/
/-- one tick more -/
noncomputable def Rn.more (ds : List Df) (limit : Int) (tidy : Bool) (x : Rn) : Rn := (x.tick ds limit tidy).1.tk (x.ticks + 1)
noncomputable def runE (ds : List Df) (limit : Int) (tidy : Bool) : Nat → Rn → Rn × Nat
  | 0, x => if x.val ds = true then (x, 0) else (x, 1)
  | n + 1, x => if x.val ds = true then (x, 0) else if (x.tick ds limit tidy).2 = 0 then runE ds limit tidy n (x.more ds limit tidy) else (x.more ds limit tidy, (x.tick ds limit tidy).2)
structure RunRel (ds : List Df) (limit : Int) (tidy : Bool) (x0 : Rn) (fuel n : Nat) (x : Rn) : Prop where
  le : n ≤ fuel
  eq : runE ds limit tidy (fuel - n) x = runE ds limit tidy fuel x0
  ok : x.Ok ds
  ticks : x.ticks = n
  rounds : x.rounds ≤ 2 * n
  bd : x.Bd (400 + 1000 * n)
/-- the run at its beginning -/
noncomputable def startX (g : List Ce) (a : Nat) : Rn := ⟨g, a, 0, 0, g.length, 0, 0⟩
theorem RunRel.start {ds : List Df} {limit : Int} {tidy : Bool} {fuel : Nat} {g : List Ce} {a : Nat} (h : (startX g a).Ok ds) : RunRel ds limit tidy (startX g a) fuel 0 (startX g a) := by
  have hl := h.len
  have hl2 : (g.length : Int) ≤ 400 := by exact Int.ofNat_le.2 hl
  exact ⟨Nat.zero_le _, rfl, h, rfl, Int.le_refl _, ⟨⟨Int.le_refl _, by simp [startX]⟩, ⟨Int.le_refl _, by simp [startX]⟩, ⟨by simp [startX], by simp only [startX]; omega⟩, ⟨Int.le_refl _, by simp [startX]⟩, ⟨Int.le_refl _, by simp [startX]⟩⟩⟩
theorem RunRel.val {ds : List Df} {limit : Int} {tidy : Bool} {x0 : Rn} {fuel n : Nat} {x : Rn} (h : RunRel ds limit tidy x0 fuel n x) (hv : x.val ds = true) : runE ds limit tidy fuel x0 = (x, 0) := by
  rw [← h.eq]
  cases fuel - n <;> simp [runE, hv]
theorem RunRel.fuel {ds : List Df} {limit : Int} {tidy : Bool} {x0 : Rn} {fuel : Nat} {x : Rn} (h : RunRel ds limit tidy x0 fuel fuel x) (hv : x.val ds = false) : runE ds limit tidy fuel x0 = (x, 1) := by
  rw [← h.eq, Nat.sub_self]
  simp [runE, hv]
theorem Rn.Bd.more {ds : List Df} {N : Int} {x : Rn} (h : x.Bd N) (hN : 400 ≤ N) (ho : x.Ok ds) (hp : progB ds = true) (limit : Int) (tidy : Bool) : (x.more ds limit tidy).Bd (N + 801) := by
  have h2 := h.tick hN ho hp limit tidy
  exact ⟨h2.1, h2.2, h2.3, ⟨by have := h.4.1; simp only [Rn.more, Rn.tk]; omega, by have := h.4.2; simp only [Rn.more, Rn.tk]; omega⟩, h2.5⟩
theorem RunRel.next {ds : List Df} {limit : Int} {tidy : Bool} {x0 : Rn} {fuel n : Nat} {x : Rn} (h : RunRel ds limit tidy x0 fuel n x) (hp : progB ds = true) (hn : n < fuel) (hv : x.val ds = false) (hc : (x.tick ds limit tidy).2 = 0) : RunRel ds limit tidy x0 fuel (n + 1) (x.more ds limit tidy) := by
  refine ⟨hn, ?_, h.ok.tick hp limit tidy, ?_, ?_, ?_⟩
  · rw [← h.eq, show fuel - n = (fuel - (n + 1)) + 1 by omega]
    conv => rhs; simp only [runE, hv, hc]
    simp
  · simp only [Rn.more, Rn.tk]; have := h.ticks; omega
  · have h1 := Rn.rounds_tick (ds := ds) limit tidy x
    have := h.rounds
    simp only [Rn.more, Rn.tk]
    omega
  · exact (h.bd.more (by omega) h.ok hp limit tidy).mono (by omega)
/-! ### The greatest number of cells -/
noncomputable def pkE (ds : List Df) (tidy : Bool) : Nat → Rn → Int → Int × Nat
  | 0, x, m => if (x.col tidy).val ds = true then (max m (x.col tidy).g.length, 0) else (max m (x.col tidy).g.length, 1)
  | n + 1, x, m => if (x.col tidy).val ds = true then (max m (x.col tidy).g.length, 0) else if (x.col tidy).code ds = 0 then pkE ds tidy n ((x.col tidy).step ds) (max m (x.col tidy).g.length) else (max m (x.col tidy).g.length, (x.col tidy).code ds)
/-- a run before its collection, and the greatest number so far -/
structure PkRel (ds : List Df) (tidy : Bool) (x0 : Rn) (fuel n : Nat) (x : Rn) (m : Int) : Prop where
  le : n ≤ fuel
  eq : pkE ds tidy (fuel - n) x m = pkE ds tidy fuel x0 0
  ok : x.Ok ds
  steps : x.steps = n
  m0 : 0 ≤ m ∧ m ≤ 400
  bd : x.Bd (400 + 1000 * n)
theorem PkRel.start {ds : List Df} {tidy : Bool} {fuel : Nat} {g : List Ce} {a : Nat} (h : (startX g a).Ok ds) : PkRel ds tidy (startX g a) fuel 0 (startX g a) 0 :=
  ⟨Nat.zero_le _, rfl, h, rfl, by omega, (RunRel.start (limit := 0) (tidy := tidy) (fuel := fuel) h).bd⟩
/-- the greatest number after the collection -/
noncomputable def Rn.top (tidy : Bool) (x : Rn) (m : Int) : Int := max m (x.col tidy).g.length
theorem PkRel.top {ds : List Df} {tidy : Bool} {x0 : Rn} {fuel n : Nat} {x : Rn} {m : Int} (h : PkRel ds tidy x0 fuel n x m) : 0 ≤ x.top tidy m ∧ x.top tidy m ≤ 400 := by
  have hl := (h.ok.col tidy).len
  have hl2 : ((x.col tidy).g.length : Int) ≤ 400 := by exact Int.ofNat_le.2 hl
  have := h.m0
  unfold Rn.top
  omega
theorem PkRel.val {ds : List Df} {tidy : Bool} {x0 : Rn} {fuel n : Nat} {x : Rn} {m : Int} (h : PkRel ds tidy x0 fuel n x m) (hv : (x.col tidy).val ds = true) : pkE ds tidy fuel x0 0 = (x.top tidy m, 0) := by
  rw [← h.eq]
  cases fuel - n <;> simp [pkE, hv, Rn.top]
theorem PkRel.fuel {ds : List Df} {tidy : Bool} {x0 : Rn} {fuel : Nat} {x : Rn} {m : Int} (h : PkRel ds tidy x0 fuel fuel x m) (hv : (x.col tidy).val ds = false) : pkE ds tidy fuel x0 0 = (x.top tidy m, 1) := by
  rw [← h.eq, Nat.sub_self]
  simp [pkE, hv, Rn.top]
theorem PkRel.next {ds : List Df} {tidy : Bool} {x0 : Rn} {fuel n : Nat} {x : Rn} {m : Int} (h : PkRel ds tidy x0 fuel n x m) (hp : progB ds = true) (hn : n < fuel) (hv : (x.col tidy).val ds = false) (hc : (x.col tidy).code ds = 0) : PkRel ds tidy x0 fuel (n + 1) ((x.col tidy).step ds) (x.top tidy m) := by
  refine ⟨hn, ?_, (h.ok.col tidy).step hp hv, ?_, h.top, ?_⟩
  · rw [← h.eq, show fuel - n = (fuel - (n + 1)) + 1 by omega]
    conv => rhs; simp only [pkE, hv, hc]
    simp [Rn.top]
  · have := h.steps; simp only [Rn.step, Rn.col]; omega
  · exact (((h.bd.col h.ok tidy).step (by omega) ((h.ok.col tidy).step hp hv))).mono (by omega)
end Go.Proofs.YtiipcgnkfhjpeaaGreatDoor
/-
  slices.Reverse AT A ROW OF EXPRESSIONS: the elements' cells, turned around; nothing else is changed.
-/
namespace Go.Proofs.YtiipcgnkfhjpeaaGreatDoor
set_option linter.unusedVariables false
set_option linter.unusedSimpArgs false
open Go.RowKit

end Go.Proofs.YtiipcgnkfhjpeaaGreatDoor
/-
  THE PROGRAM's unwind: the function of nested applications, and its arguments in order; nothing that was there is changed.
-/
namespace Go.Proofs.YtiipcgnkfhjpeaaGreatDoor
set_option linter.unusedVariables false
set_option linter.unusedSimpArgs false
open Go.RowKit

/-- a row of cards, in new memory -/
def CdRow (w : World) (lo : Nat) (l : List Cd) (v : Value) : Prop :=
  (l = [] ∧ v = .slice none 0 0) ∨ ∃ g cap f, v = .slice (some ⟨g, 0, none⟩) l.length cap ∧ lo ≤ g ∧ l.length ≤ cap ∧ cap ≤ maxLen ∧ w.rowIs g 48 (cap * 3) f ∧
    ∀ j (hj : j < l.length), f (j * 3) = l[j].2.1 ∧ f (j * 3 + 1) = l[j].2.2.1 ∧ f (j * 3 + 2) = l[j].2.2.2

theorem CdRow.keep {w w' : World} {lo lo' : Nat} {l : List Cd} {v : Value} (h : CdRow w lo l v) (hl : lo' ≤ lo) (hk : ∀ k, lo ≤ k → k < w.heap.size → w'.heap[k]? = w.heap[k]?) : CdRow w' lo' l v := by
  rcases h with h | ⟨g, cap, f, e, hg, hn, hc, hr, hv⟩
  · exact Or.inl h
  · exact Or.inr ⟨g, cap, f, e, Nat.le_trans hl hg, hn, hc, hr.of_block (hk g hg hr.lt), hv⟩
end Go.Proofs.YtiipcgnkfhjpeaaGreatDoor
/-
  THE PROGRAM's isValue: which closed expressions are values; nothing that was there is changed.
-/
namespace Go.Proofs.YtiipcgnkfhjpeaaGreatDoor
set_option linter.unusedVariables false
set_option linter.unusedSimpArgs false
open Go.RowKit

/-- closed for so many functions, down to some depth -/
def Closed (ds : List Df) (t : Tr) : Prop := ∃ d, shB 0 ds.length d t = true

theorem Closed.kid {ds : List Df} {t : Tr} (h : Closed ds t) {k : Tr} (hk : k ∈ t.kids) : Closed ds k := by
  obtain ⟨d, h⟩ := h
  cases d with
  | zero => simp [shB] at h
  | succ d =>
    unfold shB at h
    simp only [Bool.and_eq_true, List.all_eq_true] at h
    exact ⟨d, h.2 k hk⟩
theorem Closed.fun {ds : List Df} {t : Tr} (h : Closed ds t) (ho : t.op = 3) : 0 ≤ t.num ∧ t.num < ds.length := by
  obtain ⟨d, h⟩ := h
  cases d with
  | zero => simp [shB] at h
  | succ d =>
    unfold shB at h
    simp only [Bool.and_eq_true] at h
    have h2 := h.1.2
    unfold ownB at h2
    rw [if_neg (by omega), if_neg (by omega), if_pos ho] at h2
    simpa using h2
theorem Unw.value {w : World} {a t : Tr} {c ct : Value} {l : List Cd} (h : Unw w a c t ct l) (hs : ¬ (t.op = 4 ∧ t.kids.length = 2)) : unwT a [] = (t, (l.map (·.1)).reverse) := by
  rw [h.unw, unwT_stop hs]

theorem CdRow.form {w : World} {lo : Nat} {l : List Cd} {v : Value} (h : CdRow w lo l v) : ∃ ad cap, v = .slice ad l.length cap := by
  rcases h with ⟨rfl, rfl⟩ | ⟨g, cap, f, rfl, -⟩
  · exact ⟨_, _, rfl⟩
  · exact ⟨_, _, rfl⟩

end Go.Proofs.YtiipcgnkfhjpeaaGreatDoor
/-
  PLAIN: what NumberNeed answers. No program is named here.
-/
namespace Go.Proofs.YtiipcgnkfhjpeaaGreatDoor
set_option linter.unusedVariables false
set_option linter.unusedSimpArgs false

end Go.Proofs.YtiipcgnkfhjpeaaGreatDoor
