/-
  PLAIN: a step leaves a graph that is valid for the program. No program is named here.
-/
import Derived.Test.YtjpjikfmdaejeaaDoorMgExactNumberNeed21
import Derived.Test.YtjpjikfmdaejeaaDoorMgExactNumberNeed17
import Derived.Laws.OwnMore
namespace Go.Proofs.YtjpjikfmdaejeaaDoor
set_option linter.unusedVariables false
set_option linter.unusedSimpArgs false

/-- cells whose operands are below N -/
def GOk (defs : Int) (N : Nat) (g : List Ce) : Prop := ∀ c ∈ g, fitsB defs c = true ∧ ∀ k ∈ c.kids, 0 ≤ k ∧ k < (N : Int)
theorem GOk.mono {defs : Int} {N M : Nat} {g : List Ce} (h : GOk defs N g) (hm : N ≤ M) : GOk defs M g := fun c hc => ⟨(h c hc).1, fun k hk => by have := (h c hc).2 k hk; omega⟩
theorem graphB_iff {g : List Ce} {defs : Int} : graphB g defs = true ↔ ((g.length : Int) ≤ 400 ∧ 0 ≤ defs ∧ defs ≤ 6) ∧ GOk defs g.length g := by
  unfold graphB GOk cellB
  simp only [Bool.and_eq_true, decide_eq_true_eq, List.all_eq_true, isAt]
theorem own_novar {op n vars defs : Int} (h : op ≠ 1) (ho : ownB op n vars defs = true) : ownB op n 0 defs = true := by
  unfold ownB at ho ⊢
  rw [if_neg h] at ho ⊢
  exact ho
mutual
theorem addT_ok {defs : Int} {args : List Nat} : ∀ (d : Nat) (t : Tr) (g : List Ce), GOk defs g.length g → (∀ x ∈ args, x < g.length) → shB args.length defs d t = true → GOk defs (addT args t g).1.length (addT args t g).1 ∧ (addT args t g).2 < (addT args t g).1.length
  | 0, t, g, _, _, h => by simp [shB] at h
  | d + 1, .node op n ks, g, hg, ha, h => by
    simp only [shB, Bool.and_eq_true, decide_eq_true_eq, List.all_eq_true, Tr.kids_node, Tr.op_node, Tr.num_node] at h
    obtain ⟨⟨h1, h2⟩, h3⟩ := h
    by_cases hop : op = 1
    · rw [addT_var (t := .node op n ks) g hop]
      refine ⟨hg, ?_⟩
      unfold ownB at h2
      rw [if_pos hop] at h2
      simp only [decide_eq_true_eq] at h2
      have hlt : n.toNat < args.length := by omega
      show args.getD n.toNat 0 < g.length
      rw [getD_at _ _ _ hlt]
      exact ha _ (List.getElem_mem hlt)
    · obtain ⟨k1, k2⟩ := addL_ok d ks g hg ha h3
      have hl := addL_length args ks g
      rw [addT_other (t := .node op n ks) g hop]
      simp only [Tr.op_node, Tr.num_node, Tr.kids_node]
      refine ⟨fun c hc => ?_, by simp⟩
      rw [List.length_append, List.length_cons, List.length_nil]
      rcases List.mem_append.1 hc with hc | hc
      · exact ⟨(k1 c hc).1, fun k hk => by have := (k1 c hc).2 k hk; omega⟩
      · simp only [List.mem_singleton] at hc
        subst hc
        refine ⟨?_, fun k hk => ?_⟩
        · unfold fitsB
          simp only [Bool.and_eq_true, decide_eq_true_eq, List.length_map, hl]
          refine ⟨?_, own_novar hop h2⟩
          have h11 : op ≠ 11 := fun e => by subst e; simp [arity] at h1
          unfold cArity
          rw [if_neg h11]
          exact of_decide_eq_true h1
        · simp only [List.mem_map] at hk
          obtain ⟨x, hx, rfl⟩ := hk
          have := k2 x hx
          omega
theorem addL_ok {defs : Int} {args : List Nat} : ∀ (d : Nat) (ts : List Tr) (g : List Ce), GOk defs g.length g → (∀ x ∈ args, x < g.length) → (∀ t ∈ ts, shB args.length defs d t = true) → GOk defs (addL args ts g).1.length (addL args ts g).1 ∧ ∀ k ∈ (addL args ts g).2, k < (addL args ts g).1.length
  | d, [], g, hg, _, _ => by simp only [addL]; exact ⟨hg, by simp⟩
  | d, t :: ts, g, hg, ha, h => by
    obtain ⟨k1, k2⟩ := addT_ok d t g hg ha (h t (List.mem_cons_self ..))
    have hs := (addT_size args t g).1
    obtain ⟨m1, m2⟩ := addL_ok d ts (addT args t g).1 k1 (fun x hx => Nat.lt_of_lt_of_le (ha x hx) hs) fun t' ht' => h t' (List.mem_cons_of_mem _ ht')
    have hs2 := (addL_size args ts (addT args t g).1).1
    simp only [addL]
    refine ⟨m1, fun k hk => ?_⟩
    rcases List.mem_cons.1 hk with rfl | hk
    · omega
    · exact m2 k hk
end
theorem GOk.set {defs : Int} {N : Nat} {g : List Ce} (h : GOk defs N g) (i : Nat) (c : Ce) (hc : fitsB defs c = true ∧ ∀ k ∈ c.kids, 0 ≤ k ∧ k < (N : Int)) : GOk defs N (g.set i c) := by
  intro d hd
  rcases List.mem_or_eq_of_mem_set hd with hd | rfl
  · exact h d hd
  · exact hc
theorem ind_fits {defs : Int} {N k : Nat} (hk : k < N) : fitsB defs (indTo k) = true ∧ ∀ x ∈ (indTo k).kids, 0 ≤ x ∧ x < (N : Int) := by
  refine ⟨?_, fun x hx => ?_⟩
  · unfold fitsB indTo cArity ownB; simp
  · unfold indTo at hx; simp at hx; subst hx; omega
theorem num_fits {defs : Int} {N : Nat} {n : Int} (h0 : 0 ≤ n) (h1 : n ≤ 999) : fitsB defs (numC n) = true ∧ ∀ x ∈ (numC n).kids, 0 ≤ x ∧ x < (N : Int) := by
  refine ⟨?_, fun x hx => ?_⟩
  · unfold fitsB numC cArity arity ownB; simp; omega
  · unfold numC at hx; simp at hx
theorem numberOf_range (op a b : Int) : 0 ≤ numberOf op a b ∧ numberOf op a b ≤ 999 := by unfold numberOf; split <;> omega
theorem kids_op {g : List Ce} {defs : Int} (hg : graphB g defs = true) (f : Nat) (hf : f < g.length) : (g[f].kids.length : Int) = cArity (opAt g f) := by rw [opAt_at f hf]; exact kids_count hg f hf
theorem kidAt_lt {g : List Ce} {defs : Int} (hg : graphB g defs = true) (f j : Nat) (hf : f < g.length) (h : (j : Int) < cArity (opAt g f)) : kidAt g f j < g.length := by
  have h1 := kids_op hg f hf
  exact (kidAt_get hg f hf j (by omega)).2
theorem argsL_lt {g : List Ce} {defs : Int} (hg : graphB g defs = true) {l : List Nat} (h : ∀ k ∈ l, k < g.length ∧ opAt g k = 4) : ∀ x ∈ argsL g l, x < g.length := by
  intro x hx
  unfold argsL at hx
  simp only [List.mem_reverse, List.mem_map] at hx
  obtain ⟨a, ha, rfl⟩ := hx
  have h1 := h a ha
  exact kidAt_lt hg a 1 h1.1 (by rw [h1.2]; decide)
theorem bodyAt_at (ds : List Df) (n : Nat) (h : n < ds.length) : bodyAt ds (n : Int) = ds[n].2 := by unfold bodyAt; rw [Int.toNat_natCast, getD_at _ _ _ h]
theorem prog_body {ds : List Df} (h : progB ds = true) (n : Nat) (hn : n < ds.length) : validB ds[n].2 ds[n].1 ds.length = true := by
  unfold progB at h
  simp only [Bool.and_eq_true, List.all_eq_true] at h
  exact h.2 _ (List.getElem_mem hn)
/-- the parts of a call that is ready -/
theorem call_parts {ds : List Df} {g : List Ce} (hg : graphB g ds.length = true) (hp : progB ds = true) {at' f n : Nat} {l : List Nat} (ha : at' < g.length) (hs : spine g at' = some (f, l)) (hn : numAt g f = (n : Int)) (hnl : n < ds.length) (hl : ds[n].1 = (l.length : Int)) :
    callR ds g at' = addT (argsL g l) ds[n].2 g ∧ (argsL g l).length = l.length ∧ shB (argsL g l).length ds.length 16 ds[n].2 = true ∧ 1 + szT ds[n].2 ≤ 60 ∧ l.length ≤ 4 ∧ (∀ x ∈ argsL g l, x < g.length) := by
  have hv := prog_body hp n hnl
  have hlen : (argsL g l).length = l.length := by unfold argsL; simp
  have hok := spine_ok hg ha hs
  unfold validB at hv
  simp only [Bool.and_eq_true, decide_eq_true_eq] at hv
  refine ⟨?_, hlen, by rw [hlen, ← hl]; exact hv.2.1, hv.2.2, by omega, argsL_lt hg hok.2.2.2.1⟩
  unfold callR
  rw [hs]
  show addT (argsL g l) (bodyAt ds (numAt g f)) g = _
  rw [hn, bodyAt_at ds n hnl]
theorem graphB_set {g : List Ce} {defs : Int} (hg : graphB g defs = true) (i : Nat) (c : Ce) (hc : fitsB defs c = true ∧ ∀ k ∈ c.kids, 0 ≤ k ∧ k < (g.length : Int)) : graphB (g.set i c) defs = true := by
  rw [graphB_iff] at hg ⊢
  rw [List.length_set]
  exact ⟨hg.1, hg.2.set i c hc⟩
theorem opCell_fits {ds : List Df} {g : List Ce} (hg : graphB g ds.length = true) {at' : Nat} (ha : at' < g.length) (h : OpReady g at') : fitsB ds.length (opCell g at') = true ∧ ∀ k ∈ (opCell g at').kids, 0 ≤ k ∧ k < (g.length : Int) := by
  unfold opCell
  rcases h with ⟨h67, b, hb, hb5⟩ | ⟨h10, b, hb, hb2⟩ | ⟨h89, ⟨b, hb, hb2⟩, b', hb', hb2'⟩
  · rw [folAt_some hb]
    have hk0 : kidAt g at' 0 < g.length := kidAt_lt hg at' 0 ha (by rcases h67 with h | h <;> rw [h] <;> decide)
    have hbl := (followN_lt hg _ _ _ hk0 hb).1
    have e0 : kidAt g b 0 < g.length := kidAt_lt hg b 0 hbl (by rw [hb5]; decide)
    have e1 : kidAt g b 1 < g.length := kidAt_lt hg b 1 hbl (by rw [hb5]; decide)
    split
    · exact ind_fits e0
    · rw [if_pos (by omega)]; exact ind_fits e1
  · rw [if_neg (by omega), if_neg (by omega), if_pos h10]
    refine ind_fits ?_
    split
    · exact kidAt_lt hg at' 1 ha (by rw [h10]; decide)
    · exact kidAt_lt hg at' 2 ha (by rw [h10]; decide)
  · rw [if_neg (by omega), if_neg (by omega), if_neg (by omega)]
    have := numberOf_range (opAt g at') (numAt g (folAt g (kidAt g at' 0))) (numAt g (folAt g (kidAt g at' 1)))
    exact num_fits this.1 this.2
theorem ready_op {ds : List Df} {g : List Ce} {at' : Nat} (h : OpReady g at') : ¬ (opAt g at' = 3 ∨ opAt g at' = 4) := by
  rcases h with ⟨h, -⟩ | ⟨h, -⟩ | ⟨h, -⟩ <;> omega
theorem changeG_valid {ds : List Df} {g : List Ce} (hg : graphB g ds.length = true) (hp : progB ds = true) {at' : Nat} (h : Ready ds g at') : graphB (changeG ds g at').1 ds.length = true ∧ g.length ≤ (changeG ds g at').1.length := by
  obtain ⟨ha, h | h⟩ := h
  · obtain ⟨ho, f, l, n, hs, h3, hn, hnl, hl⟩ := h
    have hc := call_parts hg hp ha hs hn hnl hl
    unfold changeG
    rw [if_pos ho]
    unfold callG
    split
    · rename_i hle
      have hok := addT_ok (defs := ds.length) (args := argsL g l) 16 ds[n].2 g (graphB_iff.1 hg).2 hc.2.2.2.2.2 hc.2.2.1
      have hsz := (addT_size (argsL g l) ds[n].2 g).1
      have hb := (graphB_iff.1 hg).1
      rw [hc.1] at hle ⊢
      have hg2 : graphB (addT (argsL g l) ds[n].2 g).1 ds.length = true := graphB_iff.2 ⟨⟨by omega, hb.2⟩, hok.1⟩
      exact ⟨graphB_set hg2 _ _ (ind_fits hok.2), by simp only [List.length_set]; exact hsz⟩
    · exact ⟨hg, Nat.le_refl _⟩
  · unfold changeG
    rw [if_neg (ready_op (ds := ds) h)]
    exact ⟨graphB_set hg _ _ (opCell_fits hg ha h), by simp only [List.length_set]; exact Nat.le_refl _⟩
theorem stepG_valid {ds : List Df} {g : List Ce} (hg : graphB g ds.length = true) (hp : progB ds = true) {a : Nat} (ha : a < g.length) (hv : valB (arsOf ds) g a = false) : graphB (stepG ds g a).1 ds.length = true ∧ g.length ≤ (stepG ds g a).1.length := by
  unfold stepG
  cases hr : redex (arsOf ds) g a with
  | none => exact ⟨hg, Nat.le_refl _⟩
  | some at' => exact changeG_valid hg hp (redex_ready hg hp ha hv hr)
theorem evalG_valid {ds : List Df} {a : Nat} (hp : progB ds = true) : ∀ (n : Nat) (g : List Ce), graphB g ds.length = true → a < g.length → graphB (evalG ds a n g).1 ds.length = true ∧ g.length ≤ (evalG ds a n g).1.length
  | 0, g, hg, ha => by unfold evalG; split <;> exact ⟨hg, Nat.le_refl _⟩
  | n + 1, g, hg, ha => by
    unfold evalG
    split
    · exact ⟨hg, Nat.le_refl _⟩
    · rename_i hv
      have h1 := stepG_valid hg hp ha (by simpa using hv)
      split
      · have h2 := evalG_valid (a := a) hp n (stepG ds g a).1 h1.1 (by omega)
        exact ⟨h2.1, Nat.le_trans h1.2 h2.2⟩
      · exact ⟨hg, Nat.le_refl _⟩
end Go.Proofs.YtjpjikfmdaejeaaDoor
/-
  A CELL OF A GRAPH THAT IS BEING BUILT, OVERWRITTEN.
-/
namespace Go.Proofs.YtjpjikfmdaejeaaDoor
set_option linter.unusedVariables false
set_option linter.unusedSimpArgs false
open Go.RowKit

/-- the world behind the three stores of a cell -/
def st3 (w : World) (b i : Nat) (o m : Int) (kv : Value) : World := ((w.setCell ⟨b, i * 3, none⟩ (.int .i64 o)).setCell ⟨b, i * 3 + 1, none⟩ (.int .i64 m)).setCell ⟨b, i * 3 + 2, none⟩ kv
theorem st3_block {w : World} {b i : Nat} {o m : Int} {kv : Value} {k : Nat} (h : k ≠ b) : (st3 w b i o m kv).heap[k]? = w.heap[k]? := by
  unfold st3
  rw [Below.heap_setCell _ _ _ _ (by exact h), Below.heap_setCell _ _ _ _ (by exact h), Below.heap_setCell _ _ _ _ (by exact h)]
theorem st3_size {w : World} {b i : Nat} {o m : Int} {kv : Value} : (st3 w b i o m kv).heap.size = w.heap.size := by
  unfold st3; rw [size_setCell, size_setCell, size_setCell]
theorem st3_below {w0 w : World} {B b i : Nat} {o m : Int} {kv : Value} (h : Below B w0 w) (hb : B ≤ b) : Below B w0 (st3 w b i o m kv) := ((h.setCell hb _).setCell hb _).setCell hb _
theorem OwnC.setc {w : World} {lo : Nat} {S : Nat → Prop} {g : List Ce} {b cap : Nat} {c : Ce} {kv : Value} {blk : Nat} (h : OwnC w lo S g (.slice (some ⟨b, 0, none⟩) g.length cap)) (i : Nat) (hi : i < g.length)
    (hc : I64 c.op ∧ I64 c.num) (hk : KRowS w (fun x => x = blk) c.kids blk kv) (hS : ¬ S blk) :
    OwnC (st3 w b i c.op c.num kv) lo (fun x => S x ∨ x = blk) (g.set i c) (.slice (some ⟨b, 0, none⟩) g.length cap) := by
  obtain ⟨hi0, xs, kb, h1, h2, h3⟩ := h
  have hx1 := (h1.stored (i * 3) (.int .i64 c.op)).1
  have hx2 := (hx1.stored (i * 3 + 1) (.int .i64 c.num)).1
  have hx3 := (hx2.stored (i * 3 + 2) kv).1
  have hlen := h1.1
  have hbC : ∃ C, w.heap[b]? = some (.cells C 64 (0, 0)) := by
    rcases h1.2 with ⟨e, -⟩ | ⟨b2, cap2, cur2, e, -, hh, -⟩
    · cases e
    · cases e; exact ⟨cur2, hh⟩
  have keep : ∀ (C : Array Value) (k : Nat), k < w.heap.size → w.heap[k]? = some (.cells C 3 (0, 0)) → (st3 w b i c.op c.num kv).heap[k]? = w.heap[k]? := by
    intro C k _ hC
    refine st3_block fun e => ?_
    subst e
    obtain ⟨C2, hC2⟩ := hbC
    rw [hC] at hC2
    simp at hC2
  have ne : ∀ j (hj : j < g.length), g[j].kids ≠ [] → kb j ≠ blk := by
    intro j hj hne e
    obtain ⟨kv', -, -, -, _, _, _, _, _, h5⟩ := h2 j hj
    rcases h5 with h5 | ⟨f5, -, h6, -⟩
    · exact hne h5
    · exact hS (e ▸ h6)
  refine ⟨fun j hj => ?_, ((xs.set (i * 3) (.int .i64 c.op)).set (i * 3 + 1) (.int .i64 c.num)).set (i * 3 + 2) kv, fun j => if j = i then blk else kb j, ?_, fun j hj => ?_, ?_⟩
  · rw [List.length_set] at hj
    rw [List.getElem_set]
    split
    · exact hc
    · exact hi0 j hj
  · rw [List.length_set]; exact hx3
  · rw [List.length_set] at hj
    by_cases hji : j = i
    · subst hji
      refine ⟨kv, ?_, ?_, ?_, ?_⟩
      · rw [List.getElem_set_self, List.getElem?_set_ne (by omega), List.getElem?_set_ne (by omega), List.getElem?_set_self (by omega)]
      · rw [List.getElem_set_self, List.getElem?_set_ne (by omega), List.getElem?_set_self (by rw [List.length_set]; omega)]
      · rw [List.getElem?_set_self (by rw [List.length_set, List.length_set]; omega)]
      · simp only [if_pos, List.getElem_set_self]
        exact hk.keep (fun k hk _ => Or.inr hk) fun C _ h5 hC => keep C _ h5 hC
    · obtain ⟨kv', e0, e1, e2, e3⟩ := h2 j hj
      have hne : g[j] = (g.set i c)[j]'(by rw [List.length_set]; exact hj) := by rw [List.getElem_set_ne (by omega)]
      refine ⟨kv', ?_, ?_, ?_, ?_⟩
      · rw [← hne, List.getElem?_set_ne (by omega), List.getElem?_set_ne (by omega), List.getElem?_set_ne (by omega)]; exact e0
      · rw [← hne, List.getElem?_set_ne (by omega), List.getElem?_set_ne (by omega), List.getElem?_set_ne (by omega)]; exact e1
      · rw [List.getElem?_set_ne (by omega), List.getElem?_set_ne (by omega), List.getElem?_set_ne (by omega)]; exact e2
      · simp only [if_neg hji]
        rw [← hne]
        exact e3.keep (fun k hk _ => Or.inl hk) fun C _ h5 hC => keep C _ h5 hC
  · intro i1 j1 hi1 hj1 hij ei ej
    rw [List.length_set] at hi1 hj1
    by_cases hii : i1 = i
    · have hji : ¬ j1 = i := by omega
      simp only [if_pos hii, if_neg hji]
      rw [List.getElem_set_ne (by omega)] at ej
      exact (ne j1 hj1 ej).symm
    · rw [List.getElem_set_ne (by omega)] at ei
      by_cases hji : j1 = i
      · simp only [if_neg hii, if_pos hji]
        exact ne i1 hi1 ei
      · rw [List.getElem_set_ne (by omega)] at ej
        simp only [if_neg hii, if_neg hji]
        exact h3 i1 j1 hi1 hj1 hij ei ej
/-- the row of one operand in a new block -/
theorem krow_one (w : World) (k : Nat) : KRowS (w.alloc (.cells #[.int .i64 (k : Int)] 3)) (fun x => x = w.heap.size) [(k : Int)] w.heap.size (.slice (some ⟨w.heap.size, 0, none⟩) 1 1) :=
  ⟨_, 1, rfl, Nat.le_refl _, by simp [maxLen], Or.inr ⟨fun _ => .int .i64 (k : Int), rfl, rfl, ⟨#[.int .i64 (k : Int)], Deep.blk_alloc_new _ _, rfl, fun i hi => by
    obtain rfl : i = 0 := by omega
    rfl⟩, fun i hi => by
    obtain rfl : i = 0 := by simp at hi; omega
    rfl⟩⟩
theorem krow_nil (w : World) (S : Nat → Prop) (blk : Nat) : KRowS w S [] blk (.slice none 0 0) := ⟨_, 0, rfl, Nat.le_refl _, by simp [maxLen], Or.inl rfl⟩
end Go.Proofs.YtjpjikfmdaejeaaDoor
