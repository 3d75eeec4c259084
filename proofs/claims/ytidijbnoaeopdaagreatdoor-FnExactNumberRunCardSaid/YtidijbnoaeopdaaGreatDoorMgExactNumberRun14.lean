/-
  PLAIN: what CopyGraph, CopyOrder and CollectGraph answer. No program is named here.
-/
import Derived.Test.YtidijbnoaeopdaaGreatDoorMgExactNumberRun13
import Derived.Test.YtidijbnoaeopdaaGreatDoorMgExactNumberRun5
import Derived.Test.YtidijbnoaeopdaaGreatDoorMgExactNumberRun1
import Derived.Test.YtidijbnoaeopdaaGreatDoorProg
import Derived.Test.YtidijbnoaeopdaaGreatDoorMgExactNumberRun8
import Derived.Deep.DeepMust
namespace Go.Proofs.YtidijbnoaeopdaaGreatDoor
set_option linter.unusedVariables false
set_option linter.unusedSimpArgs false

theorem order_closed {g : List Ce} {roots : List Nat} (hg : graphB g 6 = true) (hr : ∀ x ∈ roots, x < g.length) : ∀ a ∈ orderG g roots, ∀ k ∈ kidsN g a, k ∈ orderG g roots := by
  obtain ⟨i, h, hi⟩ := order_rel hg hr
  intro a ha k hk
  obtain ⟨j, hj, rfl⟩ := List.getElem_of_mem ha
  refine h.cl j (by omega) k ?_
  rw [getD_at _ _ _ hj]; exact hk
theorem order_cs {g : List Ce} {roots : List Nat} (hg : graphB g 6 = true) (hr : ∀ x ∈ roots, x < g.length) : Cs g.length (orderG g roots) := by
  obtain ⟨i, h, hi⟩ := order_rel hg hr
  exact h.cs
theorem order_root {g : List Ce} {roots : List Nat} (hg : graphB g 6 = true) (hr : ∀ x ∈ roots, x < g.length) : ∀ x ∈ roots, x ∈ orderG g roots := by
  obtain ⟨i, h, hi⟩ := order_rel hg hr
  exact h.rt
/-- what CopyGraph answers, but for whether -/
def copyO (g : List Ce) (rs : List Int) : List Ce × List Nat := if rootB g rs = true then (copyG g (natL rs), topsG g (natL rs)) else ([], [])
theorem copyO_no {g : List Ce} {rs : List Int} (h : rootB g rs = false) : copyO g rs = ([], []) := by unfold copyO; rw [if_neg (by rw [h]; simp)]
theorem copyO_yes {g : List Ce} {rs : List Int} (h : rootB g rs = true) : copyO g rs = (copyG g (natL rs), topsG g (natL rs)) := by unfold copyO; rw [if_pos h]
/-! ### Past indirections -/
def skipN (g : List Ce) (a : Nat) : Nat := (followN g g.length a).getD a
def shortC (g : List Ce) (c : Ce) : Ce := ⟨c.op, c.num, (c.kids.map Int.toNat).map fun k => (skipN g k : Int)⟩
def shortG (g : List Ce) : List Ce := g.map (shortC g)
theorem skip_lt {g : List Ce} {defs : Int} (h : graphB g defs = true) {a : Nat} (ha : a < g.length) : skipN g a < g.length := by
  unfold skipN
  cases hf : followN g g.length a with
  | none => exact ha
  | some b => exact (followN_lt h _ a b ha hf).1
theorem shortG_len (g : List Ce) : (shortG g).length = g.length := by simp [shortG]
theorem shortG_at (g : List Ce) (i : Nat) (h : i < g.length) : (shortG g)[i]'(by rw [shortG_len]; exact h) = shortC g g[i] := by simp [shortG]
theorem shortG_valid {g : List Ce} {defs : Int} (h : graphB g defs = true) : graphB (shortG g) defs = true := by
  have h' := h
  unfold graphB at h ⊢
  simp only [Bool.and_eq_true, List.all_eq_true, decide_eq_true_eq] at h ⊢
  rw [shortG_len]
  refine ⟨h.1, fun c hc => ?_⟩
  obtain ⟨i, hi, rfl⟩ := List.getElem_of_mem hc
  rw [shortG_len] at hi
  rw [shortG_at g i hi]
  have hc := graphB_cell h' i hi
  unfold cellB fitsB shortC at *
  simp only [Bool.and_eq_true, decide_eq_true_eq, List.length_map] at hc ⊢
  refine ⟨hc.1, ?_⟩
  rw [List.all_eq_true]
  intro x hx
  simp only [List.mem_map] at hx
  obtain ⟨k, ⟨y, hy, rfl⟩, rfl⟩ := hx
  have hy2 := (kids_graph h' i hi).2 y hy
  have := skip_lt h' (a := y.toNat) (by omega)
  simp only [isAt, decide_eq_true_eq]
  omega
/-- what CollectGraph answers -/
def collO (g : List Ce) (rs : List Int) : List Ce × List Nat := if rootB g rs = true then (copyG (shortG g) ((natL rs).map (skipN g)), topsG (shortG g) ((natL rs).map (skipN g))) else ([], [])
theorem collO_no {g : List Ce} {rs : List Int} (h : rootB g rs = false) : collO g rs = ([], []) := by unfold collO; rw [if_neg (by rw [h]; simp)]
theorem collO_yes {g : List Ce} {rs : List Int} (h : rootB g rs = true) : collO g rs = (copyG (shortG g) ((natL rs).map (skipN g)), topsG (shortG g) ((natL rs).map (skipN g))) := by unfold collO; rw [if_pos h]
end Go.Proofs.YtidijbnoaeopdaaGreatDoor
/-
  PLAIN: what SelectGraph and TidyGraph answer. No program is named here.
-/
namespace Go.Proofs.YtidijbnoaeopdaaGreatDoor
set_option linter.unusedVariables false
set_option linter.unusedSimpArgs false

open Classical in
/-- the graph in the end, and how many selections were made -/
noncomputable def selRes (g : List Ce) : List Ce × Nat := if h : ∃ p : List Ce × Nat, SelR g p.1 p.2 ∧ SelMax p.1 then h.choose else (g, 0)
theorem selRes_eq {g G : List Ce} {defs : Int} {n : Nat} (hg : graphB g defs = true) (h : SelR g G n) (hm : SelMax G) : selRes g = (G, n) := by
  have hx : ∃ p : List Ce × Nat, SelR g p.1 p.2 ∧ SelMax p.1 := ⟨(G, n), h, hm⟩
  unfold selRes
  rw [dif_pos hx]
  obtain ⟨h1, h2⟩ := hx.choose_spec
  obtain ⟨e1, e2⟩ := sel_unique hg h1 h2 h hm
  exact Prod.ext e1 e2
theorem sel_ends {g : List Ce} {defs : Int} (hg : graphB g defs = true) : ∃ G n, SelR g G n ∧ SelMax G := by
  have key : ∀ c G n, SelR g G n → G.countP selB = c → ∃ G n, SelR g G n ∧ SelMax G := by
    intro c
    induction c using Nat.strongRecOn with
    | ind c ih =>
      intro G n h hc
      by_cases hm : SelMax G
      · exact ⟨G, n, h, hm⟩
      · unfold SelMax at hm
        have hm : ∃ i k, Enabled G i k := by
          refine Classical.byContradiction fun hn => hm fun i k he => hn ⟨i, k, he⟩
        obtain ⟨i, k, he⟩ := hm
        have h1 := (selR_inv hg h).cnt
        have h2 := (selR_inv hg (h.step he)).cnt
        exact ih _ (by omega) _ _ (h.step he) rfl
  exact key _ g 0 .zero rfl
theorem selRes_rel {g : List Ce} {defs : Int} (hg : graphB g defs = true) : SelR g (selRes g).1 (selRes g).2 := by
  obtain ⟨G, n, h, hm⟩ := sel_ends hg
  rw [selRes_eq hg h hm]; exact h
theorem selRes_ok {g : List Ce} {defs : Int} (hg : graphB g defs = true) : graphB (selRes g).1 defs = true ∧ (selRes g).1.length = g.length ∧ (selRes g).2 ≤ g.length := by
  have h := selR_inv hg (selRes_rel hg)
  refine ⟨h.ok, h.len, ?_⟩
  have := h.cnt
  have : g.countP selB ≤ g.length := List.countP_le_length
  omega
/-- what SelectGraph answers, but for whether -/
noncomputable def selO (g : List Ce) : List Ce × Nat := if graphB g 6 = true then selRes g else ([], 0)
theorem selO_no {g : List Ce} (h : graphB g 6 = false) : selO g = ([], 0) := by unfold selO; rw [if_neg (by rw [h]; simp)]
theorem selO_yes {g : List Ce} (h : graphB g 6 = true) : selO g = selRes g := by unfold selO; rw [if_pos h]
theorem rootB_sel {g : List Ce} (h : graphB g 6 = true) (rs : List Int) : rootB (selRes g).1 rs = rootB g rs := by
  obtain ⟨h1, h2, -⟩ := selRes_ok h
  unfold rootB; rw [h1, h2, h]
/-- what TidyGraph answers, but for whether -/
noncomputable def tidyO (g : List Ce) (rs : List Int) : List Ce × List Nat := if rootB g rs = true then collO (selRes g).1 rs else ([], [])
theorem tidyO_no {g : List Ce} {rs : List Int} (h : rootB g rs = false) : tidyO g rs = ([], []) := by unfold tidyO; rw [if_neg (by rw [h]; simp)]
theorem tidyO_yes {g : List Ce} {rs : List Int} (h : rootB g rs = true) : tidyO g rs = collO (selRes g).1 rs := by unfold tidyO; rw [if_pos h]
theorem tidyO_graph {g : List Ce} {rs : List Int} (h : graphB g 6 = true) : tidyO g rs = collO (selRes g).1 rs := by
  cases hr : rootB g rs with
  | true => exact tidyO_yes hr
  | false => rw [tidyO_no hr, collO_no (by rw [rootB_sel h, hr])]
end Go.Proofs.YtidijbnoaeopdaaGreatDoor
/-
  PLAIN: the expression for which a cell stands, read with a budget of nodes and of depth. No program is named here.
-/
namespace Go.Proofs.YtidijbnoaeopdaaGreatDoor
set_option linter.unusedVariables false
set_option linter.unusedSimpArgs false

end Go.Proofs.YtidijbnoaeopdaaGreatDoor
/-
  TREES WHOSE BLOCKS ARE ALL DISTINCT: a footprint, the list of the blocks of a tree's rows; what a write into them leaves.
-/
namespace Go.Proofs.YtidijbnoaeopdaaGreatDoor
set_option linter.unusedVariables false
set_option linter.unusedSimpArgs false
open Go.RowKit

mutual
/-- the three cells of a tree, its rows in the blocks fp -/
def TrFp (w : World) (T : TypeId) : Tr → List Nat → Value → Value → Value → Prop
  | .node op n ks, fp, a, b, c => a = .int .i64 op ∧ b = .int .i64 n ∧ I64 op ∧ I64 n ∧
      ∃ ad cap, c = .slice ad ks.length cap ∧ ks.length ≤ cap ∧ cap ≤ maxLen ∧
        ((ks = [] ∧ fp = []) ∨ ∃ bl off C fps, ad = some ⟨bl, off, none⟩ ∧ w.heap[bl]? = some (.cells C T) ∧ fp = bl :: fps.flatten ∧ RowFp w T bl off ks fps)
/-- the trees of a row, each with its own blocks -/
def RowFp (w : World) (T : TypeId) (bl off : Nat) : List Tr → List (List Nat) → Prop
  | [], fps => fps = []
  | t :: ts, fps => ∃ f fs, fps = f :: fs ∧ (∃ a b c, w.cell? ⟨bl, off, none⟩ = some a ∧ w.cell? ⟨bl, off + 1, none⟩ = some b ∧ w.cell? ⟨bl, off + 2, none⟩ = some c ∧ TrFp w T t f a b c) ∧ RowFp w T bl (off + 3) ts fs
end

/-- a slice value that holds these trees, in the blocks fp -/
def KidsFp (w : World) (T : TypeId) (ks : List Tr) (fp : List Nat) (c : Value) : Prop :=
  ∃ ad cap, c = .slice ad ks.length cap ∧ ks.length ≤ cap ∧ cap ≤ maxLen ∧
    ((ks = [] ∧ fp = []) ∨ ∃ bl off C fps, ad = some ⟨bl, off, none⟩ ∧ w.heap[bl]? = some (.cells C T) ∧ fp = bl :: fps.flatten ∧ RowFp w T bl off ks fps)

theorem trFp_iff {w : World} {T : TypeId} {t : Tr} {fp : List Nat} {a b c : Value} : TrFp w T t fp a b c ↔ a = .int .i64 t.op ∧ b = .int .i64 t.num ∧ I64 t.op ∧ I64 t.num ∧ KidsFp w T t.kids fp c := by
  cases t; simp [TrFp, KidsFp]

mutual
theorem TrFp.keep {w w' : World} {T : TypeId} : ∀ (t : Tr) (fp : List Nat) (a b c : Value), (∀ k ∈ fp, w'.heap[k]? = w.heap[k]?) → TrFp w T t fp a b c → TrFp w' T t fp a b c
  | .node op n ks, fp, a, b, c, hw, h => by
    simp only [TrFp] at h ⊢
    obtain ⟨h1, h2, h3, h4, ad, cap, e, l1, l2, h5⟩ := h
    refine ⟨h1, h2, h3, h4, ad, cap, e, l1, l2, ?_⟩
    rcases h5 with h5 | ⟨bl, off, C, fps, e, hb, rfl, r⟩
    · exact Or.inl h5
    · exact Or.inr ⟨bl, off, C, fps, e, (hw bl (by simp)).trans hb, rfl, RowFp.keep bl off ks fps (hw bl (by simp)) (fun f hf k hk => hw k (by simp only [List.mem_cons, List.mem_flatten]; exact Or.inr ⟨f, hf, hk⟩)) r⟩
theorem RowFp.keep {w w' : World} {T : TypeId} (bl off : Nat) : ∀ (ks : List Tr) (fps : List (List Nat)), w'.heap[bl]? = w.heap[bl]? → (∀ f ∈ fps, ∀ k ∈ f, w'.heap[k]? = w.heap[k]?) → RowFp w T bl off ks fps → RowFp w' T bl off ks fps
  | [], fps, _, _, h => by simpa [RowFp] using h
  | t :: ts, fps, hb, hw, h => by
    simp only [RowFp] at h ⊢
    obtain ⟨f, fs, rfl, ⟨a, b, c, ha, hbb, hc, ht⟩, hr⟩ := h
    refine ⟨f, fs, rfl, ⟨a, b, c, ?_, ?_, ?_, TrFp.keep t f a b c (hw f (by simp)) ht⟩, RowFp.keep bl (off + 3) ts fs hb (fun g hg => hw g (by simp [hg])) hr⟩
    · rw [World.cell?_of_block (w := w) hb]; exact ha
    · rw [World.cell?_of_block (w := w) hb]; exact hbb
    · rw [World.cell?_of_block (w := w) hb]; exact hc
end
theorem KidsFp.keep {w w' : World} {T : TypeId} {ks : List Tr} {fp : List Nat} {c : Value} (h : KidsFp w T ks fp c) (hw : ∀ k ∈ fp, w'.heap[k]? = w.heap[k]?) : KidsFp w' T ks fp c := by
  obtain ⟨ad, cap, e, l1, l2, h5⟩ := h
  refine ⟨ad, cap, e, l1, l2, ?_⟩
  rcases h5 with h5 | ⟨bl, off, C, fps, e, hb, rfl, r⟩
  · exact Or.inl h5
  · exact Or.inr ⟨bl, off, C, fps, e, (hw bl (by simp)).trans hb, rfl, RowFp.keep bl off ks fps (hw bl (by simp)) (fun f hf k hk => hw k (by simp only [List.mem_cons, List.mem_flatten]; exact Or.inr ⟨f, hf, hk⟩)) r⟩

/-- the blocks lie in the heap -/
theorem cellsOf_lt {w : World} {b : Nat} {o : Obj} (h : w.heap[b]? = some o) : b < w.heap.size := (Array.getElem?_eq_some_iff.1 h).1
mutual
theorem TrFp.on {w : World} {T : TypeId} {S : Nat → Prop} : ∀ (t : Tr) (fp : List Nat) (a b c : Value), (∀ k ∈ fp, S k) → TrFp w T t fp a b c → TrOn w S t a b c
  | .node op n ks, fp, a, b, c, hS, h => by
    simp only [TrFp] at h
    simp only [TrOn]
    obtain ⟨h1, h2, h3, h4, ad, cap, e, l1, l2, h5⟩ := h
    refine ⟨h1, h2, h3, h4, ad, cap, e, l1, l2, ?_⟩
    rcases h5 with ⟨h5, _⟩ | ⟨bl, off, C, fps, e, hb, rfl, r⟩
    · exact Or.inl h5
    · exact Or.inr ⟨bl, off, e, hS bl (by simp), RowFp.on bl off ks fps (fun f hf k hk => hS k (by simp only [List.mem_cons, List.mem_flatten]; exact Or.inr ⟨f, hf, hk⟩)) r⟩
theorem RowFp.on {w : World} {T : TypeId} {S : Nat → Prop} (bl off : Nat) : ∀ (ks : List Tr) (fps : List (List Nat)), (∀ f ∈ fps, ∀ k ∈ f, S k) → RowFp w T bl off ks fps → RowOn w S bl off ks
  | [], fps, _, h => by simp [RowOn]
  | t :: ts, fps, hS, h => by
    simp only [RowFp] at h
    simp only [RowOn]
    obtain ⟨f, fs, rfl, ⟨a, b, c, ha, hbb, hc, ht⟩, hr⟩ := h
    exact ⟨⟨a, b, c, ha, hbb, hc, TrFp.on t f a b c (hS f (by simp)) ht⟩, RowFp.on bl (off + 3) ts fs (fun g hg => hS g (by simp [hg])) hr⟩
end
theorem KidsFp.on {w : World} {T : TypeId} {S : Nat → Prop} {ks : List Tr} {fp : List Nat} {c : Value} (h : KidsFp w T ks fp c) (hS : ∀ k ∈ fp, S k) : KidsOn w S ks c := by
  obtain ⟨ad, cap, e, l1, l2, h5⟩ := h
  refine ⟨ad, cap, e, l1, l2, ?_⟩
  rcases h5 with ⟨h5, _⟩ | ⟨bl, off, C, fps, e, hb, rfl, r⟩
  · exact Or.inl h5
  · exact Or.inr ⟨bl, off, e, hS bl (by simp), RowFp.on bl off ks fps (fun f hf k hk => hS k (by simp only [List.mem_cons, List.mem_flatten]; exact Or.inr ⟨f, hf, hk⟩)) r⟩

/-- element i of a row -/
theorem RowFp.at {w : World} {T : TypeId} {bl : Nat} : ∀ (ks : List Tr) (fps : List (List Nat)) (off i : Nat) (hi : i < ks.length), RowFp w T bl off ks fps →
    fps.length = ks.length ∧ ∃ f, fps[i]? = some f ∧ ∃ a b c, w.cell? ⟨bl, off + i * 3, none⟩ = some a ∧ w.cell? ⟨bl, off + i * 3 + 1, none⟩ = some b ∧ w.cell? ⟨bl, off + i * 3 + 2, none⟩ = some c ∧ TrFp w T ks[i] f a b c
  | [], _, _, _, hi, _ => by simp at hi
  | t :: ts, fps, off, 0, _, h => by
    simp only [RowFp] at h
    obtain ⟨f, fs, rfl, h1, h2⟩ := h
    refine ⟨?_, f, rfl, by simpa using h1⟩
    cases ts with
    | nil => simp only [RowFp] at h2; simp [h2]
    | cons u us => simp [(RowFp.at (u :: us) fs (off + 3) 0 (by simp) h2).1]
  | t :: ts, fps, off, i + 1, hi, h => by
    simp only [RowFp] at h
    obtain ⟨f, fs, rfl, h1, h2⟩ := h
    have := RowFp.at ts fs (off + 3) i (by simpa using hi) h2
    have e : off + 3 + i * 3 = off + (i + 1) * 3 := by omega
    rw [e] at this
    exact ⟨by simp [this.1], by simpa using this.2⟩

/-- a row from its elements -/
theorem RowFp.of {w : World} {T : TypeId} {bl : Nat} : ∀ (ks : List Tr) (fps : List (List Nat)) (off : Nat), fps.length = ks.length →
    (∀ i (hi : i < ks.length), ∃ f, fps[i]? = some f ∧ ∃ a b c, w.cell? ⟨bl, off + i * 3, none⟩ = some a ∧ w.cell? ⟨bl, off + i * 3 + 1, none⟩ = some b ∧ w.cell? ⟨bl, off + i * 3 + 2, none⟩ = some c ∧ TrFp w T ks[i] f a b c) → RowFp w T bl off ks fps
  | [], fps, _, hl, _ => by simpa [RowFp] using hl
  | t :: ts, [], _, hl, _ => by simp at hl
  | t :: ts, f :: fs, off, hl, h => by
    simp only [RowFp]
    refine ⟨f, fs, rfl, ?_, RowFp.of ts fs (off + 3) (by simpa using hl) fun i hi => ?_⟩
    · obtain ⟨f', hf, a, b, c, h1⟩ := h 0 (by simp)
      simp only [List.getElem?_cons_zero, Option.some.injEq] at hf
      subst hf
      simp only [Nat.zero_mul, Nat.add_zero, List.getElem_cons_zero] at h1
      exact ⟨a, b, c, h1⟩
    · have := h (i + 1) (by simpa using hi)
      have e : off + (i + 1) * 3 = off + 3 + i * 3 := by omega
      rw [e] at this
      simpa using this

end Go.Proofs.YtidijbnoaeopdaaGreatDoor
/-
  THE NUMBERS THAT MARKED TREES BEAR, element by element.
-/
namespace Go.Proofs.YtidijbnoaeopdaaGreatDoor
set_option linter.unusedVariables false
set_option linter.unusedSimpArgs false
open Go.RowKit

end Go.Proofs.YtidijbnoaeopdaaGreatDoor
/-
  THE LAWS' OWN MARKING OF TREES (markExprS, markExpr): a list of trees whose blocks are all distinct bears its numbers in order afterwards; no other block is changed.
-/
namespace Go.Proofs.YtidijbnoaeopdaaGreatDoor
set_option linter.unusedVariables false
set_option linter.unusedSimpArgs false
open Go.RowKit


mutual
theorem TrFp.lt {w : World} {T : TypeId} : ∀ (t : Tr) (fp : List Nat) (a b c : Value), TrFp w T t fp a b c → ∀ k ∈ fp, k < w.heap.size
  | .node op n ks, fp, a, b, c, h, k, hk => by
    simp only [TrFp] at h
    obtain ⟨-, -, -, -, ad, cap, e, l1, l2, h5⟩ := h
    rcases h5 with ⟨-, rfl⟩ | ⟨bl, off, C, fps, e, hb, rfl, r⟩
    · simp at hk
    · simp only [List.mem_cons, List.mem_flatten] at hk
      rcases hk with rfl | ⟨f, hf, hk⟩
      · exact cellsOf_lt hb
      · exact RowFp.lt bl off ks fps r f hf k hk
theorem RowFp.lt {w : World} {T : TypeId} (bl off : Nat) : ∀ (ks : List Tr) (fps : List (List Nat)), RowFp w T bl off ks fps → ∀ f ∈ fps, ∀ k ∈ f, k < w.heap.size
  | [], fps, h, f, hf, k, hk => by simp only [RowFp] at h; subst h; simp at hf
  | t :: ts, fps, h, f, hf, k, hk => by
    simp only [RowFp] at h
    obtain ⟨g, gs, rfl, ⟨a, b, c, -, -, -, ht⟩, hr⟩ := h
    simp only [List.mem_cons] at hf
    rcases hf with rfl | hf
    · exact TrFp.lt t f a b c ht k hk
    · exact RowFp.lt bl (off + 3) ts gs hr f hf k hk
end
theorem KidsFp.lt {w : World} {T : TypeId} {ks : List Tr} {fp : List Nat} {c : Value} (h : KidsFp w T ks fp c) : ∀ k ∈ fp, k < w.heap.size := by
  obtain ⟨ad, cap, e, l1, l2, h5⟩ := h
  intro k hk
  rcases h5 with ⟨-, rfl⟩ | ⟨bl, off, C, fps, e, hb, rfl, r⟩
  · simp at hk
  · simp only [List.mem_cons, List.mem_flatten] at hk
    rcases hk with rfl | ⟨f, hf, hk⟩
    · exact cellsOf_lt hb
    · exact RowFp.lt bl off ks fps r f hf k hk

/-- two lists out of a list of lists have no block in common -/
theorem flatten_disj : ∀ {fps : List (List Nat)} (h : fps.flatten.Nodup) {i j : Nat} {f g : List Nat}, fps[i]? = some f → fps[j]? = some g → i ≠ j → ∀ k ∈ f, k ∉ g
  | [], _, _, _, _, _, hi, _, _, _, _ => by simp at hi
  | x :: xs, h, 0, 0, _, _, _, _, hne, _, _ => absurd rfl hne
  | x :: xs, h, 0, j + 1, f, g, hi, hj, _, k, hk => by
    simp only [List.flatten_cons, List.nodup_append] at h
    simp only [List.getElem?_cons_zero, Option.some.injEq] at hi
    simp only [List.getElem?_cons_succ] at hj
    subst hi
    exact fun hg => h.2.2 k hk k (List.mem_flatten.2 ⟨g, List.mem_of_getElem? hj, hg⟩) rfl
  | x :: xs, h, i + 1, 0, f, g, hi, hj, _, k, hk => by
    simp only [List.flatten_cons, List.nodup_append] at h
    simp only [List.getElem?_cons_zero, Option.some.injEq] at hj
    simp only [List.getElem?_cons_succ] at hi
    subst hj
    exact fun hg => h.2.2 k hg k (List.mem_flatten.2 ⟨f, List.mem_of_getElem? hi, hk⟩) rfl
  | x :: xs, h, i + 1, j + 1, f, g, hi, hj, hne, k, hk => by
    simp only [List.flatten_cons, List.nodup_append] at h
    exact flatten_disj h.2.1 (by simpa using hi) (by simpa using hj) (by omega) k hk
/-- a store into a block: the block, the cell, the other cells -/
theorem set_block {w : World} {b : Nat} {C : Array Value} {T : TypeId} (h : w.heap[b]? = some (.cells C T)) (o : Nat) (u : Value) : ∃ C', (w.setCell ⟨b, o, none⟩ u).heap[b]? = some (.cells C' T) := by
  simp [World.setCell, Array.getElem?_modify, h]
theorem set_at {w : World} {b o : Nat} {C : Array Value} {T : TypeId} (h : w.heap[b]? = some (.cells C T)) {v : Value} (hv : w.cell? ⟨b, o, none⟩ = some v) (u : Value) : (w.setCell ⟨b, o, none⟩ u).cell? ⟨b, o, none⟩ = some u := by
  simp only [World.cell?, h] at hv
  have hlt := (Array.getElem?_eq_some_iff.1 (by simpa using hv)).1
  simp [World.cell?, World.setCell, Array.getElem?_modify, h, Array.getElem?_setIfInBounds, hlt]
theorem set_off {w : World} {b o i : Nat} {C : Array Value} {T : TypeId} (h : w.heap[b]? = some (.cells C T)) (hi : i ≠ o) (u : Value) : (w.setCell ⟨b, o, none⟩ u).cell? ⟨b, i, none⟩ = w.cell? ⟨b, i, none⟩ := by
  simp [World.cell?, World.setCell, Array.getElem?_modify, h, Array.getElem?_setIfInBounds, Ne.symm hi]
/-- element j of a row was marked: its two numbers, then the trees below it -/
theorem RowFp.mark {w w1 : World} {T : TypeId} {bl off : Nat} {ks : List Tr} {fps : List (List Nat)} {C : Array Value} (hb : w.heap[bl]? = some (.cells C T)) (hr : RowFp w T bl off ks fps) (hn : (bl :: fps.flatten).Nodup)
    (j : Nat) (hj : j < ks.length) (x y : Int) (hx : I64 x) (hy : I64 y) (f : List Nat) (hf : fps[j]? = some f) (r : Value) (hc : w.cell? ⟨bl, off + j * 3 + 2, none⟩ = some r) (ks' : List Tr) (h1 : KidsFp w1 T ks' f r)
    (hbut : ButL f ((w.setCell ⟨bl, off + j * 3, none⟩ (.int .i64 x)).setCell ⟨bl, off + j * 3 + 1, none⟩ (.int .i64 y)) w1) :
    RowFp w1 T bl off (ks.set j (.node x y ks')) fps ∧ ∃ C', w1.heap[bl]? = some (.cells C' T) := by
  have hbl : bl < w.heap.size := cellsOf_lt hb
  simp only [List.nodup_cons] at hn
  obtain ⟨hn1, hn2⟩ := hn
  have hblf : bl ∉ f := fun hm => hn1 (List.mem_flatten.2 ⟨f, List.mem_of_getElem? hf, hm⟩)
  obtain ⟨C1, hC1⟩ := set_block hb (off + j * 3) (.int .i64 x)
  obtain ⟨C2, hC2⟩ := set_block hC1 (off + j * 3 + 1) (.int .i64 y)
  have hsz : ((w.setCell ⟨bl, off + j * 3, none⟩ (.int .i64 x)).setCell ⟨bl, off + j * 3 + 1, none⟩ (.int .i64 y)).heap.size = w.heap.size := by rw [size_setCell, size_setCell]
  have hblk : w1.heap[bl]? = ((w.setCell ⟨bl, off + j * 3, none⟩ (.int .i64 x)).setCell ⟨bl, off + j * 3 + 1, none⟩ (.int .i64 y)).heap[bl]? := hbut.block bl (by rw [hsz]; exact hbl) hblf
  have hcell : ∀ i, w1.cell? ⟨bl, i, none⟩ = ((w.setCell ⟨bl, off + j * 3, none⟩ (.int .i64 x)).setCell ⟨bl, off + j * 3 + 1, none⟩ (.int .i64 y)).cell? ⟨bl, i, none⟩ := fun i => World.cell?_of_block hblk
  have hsame : ∀ i, i ≠ off + j * 3 → i ≠ off + j * 3 + 1 → w1.cell? ⟨bl, i, none⟩ = w.cell? ⟨bl, i, none⟩ := fun i h1 h2 => by rw [hcell, set_off hC1 h2, set_off hb h1]
  refine ⟨RowFp.of _ _ _ ?_ ?_, C2, hblk.trans hC2⟩
  · rw [List.length_set]; exact (RowFp.at ks fps off j hj hr).1
  intro i hi
  rw [List.length_set] at hi
  obtain ⟨-, g, hg, a, b, c, ha, hbb, hcc, ht⟩ := RowFp.at ks fps off i hi hr
  refine ⟨g, hg, ?_⟩
  by_cases hij : i = j
  · subst hij
    rw [hf] at hg
    cases hg
    rw [hc] at hcc
    cases hcc
    refine ⟨.int .i64 x, .int .i64 y, r, ?_, ?_, ?_, ?_⟩
    · rw [hcell, set_off hC1 (by omega), set_at hb ha]
    · rw [hcell]
      exact set_at hC1 (v := b) (by rw [set_off hb (by omega)]; exact hbb) _
    · rw [hsame _ (by omega) (by omega)]; exact hc
    · simp only [List.getElem_set_self]
      exact trFp_iff.2 ⟨rfl, rfl, hx, hy, h1⟩
  · refine ⟨a, b, c, ?_, ?_, ?_, ?_⟩
    · rw [hsame _ (by omega) (by omega)]; exact ha
    · rw [hsame _ (by omega) (by omega)]; exact hbb
    · rw [hsame _ (by omega) (by omega)]; exact hcc
    · rw [List.getElem_set_ne (by omega)]
      refine TrFp.keep _ g a b c (fun k hk => ?_) ht
      have hkl := TrFp.lt _ g a b c ht k hk
      have hkb : k ≠ bl := fun e => hn1 (List.mem_flatten.2 ⟨g, List.mem_of_getElem? hg, e ▸ hk⟩)
      rw [hbut.block k (by rw [hsz]; exact hkl) (flatten_disj hn2 hg hf hij k hk)]
      exact (Below.heap_setCell _ _ _ _ hkb).trans (Below.heap_setCell _ _ _ _ hkb)
end Go.Proofs.YtidijbnoaeopdaaGreatDoor
