/-
  CODE THAT A CALL OWNS, to which it appends. The code of a tree.
-/
import Derived.Test.YthknbafcnobgdaaInsOn
import Derived.Test.YthknbafcnobgdaaAppW
import Derived.Test.YthknbafcnobgdaaSz
namespace Go.Proofs.Ythknbafcnobgdaa
set_option linter.unusedVariables false
set_option linter.unusedSimpArgs false
open Go.RowKit

mutual
/-- the code of a tree: that of its operands, then its own instruction -/
def cdT : Tr → List Ins
  | .node o n ks => cdL ks ++ [⟨o, n⟩]
def cdL : List Tr → List Ins
  | [] => []
  | t :: ts => cdT t ++ cdL ts
end
theorem cdT_eq (t : Tr) : cdT t = cdL t.kids ++ [⟨t.op, t.num⟩] := by cases t; rw [cdT]; rfl
theorem cdL_append : ∀ (a b : List Tr), cdL (a ++ b) = cdL a ++ cdL b
  | [], b => by simp [cdL]
  | t :: a, b => by rw [List.cons_append, cdL, cdL, cdL_append a b, List.append_assoc]
theorem cdL_take_succ (l : List Tr) (i : Nat) (h : i < l.length) : cdL (l.take (i + 1)) = cdL (l.take i) ++ cdT l[i] := by
  rw [List.take_succ_eq_append_getElem h, cdL_append]; simp [cdL]
mutual
theorem cdT_length : ∀ t : Tr, (cdT t).length = 1 + szT t
  | .node o n ks => by rw [cdT, List.length_append, cdL_length ks, szT]; exact Nat.add_comm _ _
theorem cdL_length : ∀ l : List Tr, (cdL l).length = szL l
  | [] => by simp [cdL, szL]
  | t :: ts => by rw [cdL, List.length_append, cdT_length t, cdL_length ts, szL]
end
theorem cdL_flatten : ∀ l : List Tr, cdL l = (l.map cdT).flatten
  | [] => by simp [cdL]
  | t :: ts => by rw [cdL, cdL_flatten ts]; simp

/-- instructions, as values -/
def insV (cs : List Ins) : List Value := cs.flatMap fun c => [Value.int .i64 c.op, .int .i64 c.num]
theorem insV_length (cs : List Ins) : (insV cs).length = cs.length * 2 := by
  induction cs with
  | nil => rfl
  | cons c cs ih => simp [insV, List.flatMap_cons] at ih ⊢; omega
theorem insV_append (a b : List Ins) : insV (a ++ b) = insV a ++ insV b := by simp [insV]
theorem insV_one (cs : List Ins) : ∀ u ∈ insV cs, u.oneCell' = true := by
  intro u hu
  simp only [insV, List.mem_flatMap] at hu
  obtain ⟨c, -, hu⟩ := hu
  simp at hu
  rcases hu with rfl | rfl <;> rfl
theorem insV_get : ∀ (cs : List Ins) (i : Nat) (h : i < cs.length), (insV cs)[i * 2]? = some (.int .i64 cs[i].op) ∧ (insV cs)[i * 2 + 1]? = some (.int .i64 cs[i].num)
  | c :: cs, 0, _ => by simp [insV]
  | c :: cs, i + 1, h => by
    have e : insV (c :: cs) = .int .i64 c.op :: .int .i64 c.num :: insV cs := by simp [insV]
    have := insV_get cs i (by simpa using h)
    rw [e]
    refine ⟨?_, ?_⟩
    · rw [show (i + 1) * 2 = i * 2 + 1 + 1 by omega]; simpa using this.1
    · rw [show (i + 1) * 2 + 1 = i * 2 + 1 + 1 + 1 by omega]; simpa using this.2
/-- a row of code that a call owns -/
def StkP (w : World) (lo : Nat) (cs : List Ins) (v : Value) : Prop := w.ownsRow lo 66 2 v cs.length (insV cs)
theorem StkP.row {w : World} {lo : Nat} {cs : List Ins} {v : Value} (h : StkP w lo cs v) : InsRow w lo cs v := by
  rcases h.2 with ⟨rfl, h0⟩ | ⟨g, cap, cur, rfl, hg, hh, hn, hc, hs, htk⟩
  · obtain rfl : cs = [] := List.eq_nil_of_length_eq_zero h0
    exact InsRow.none _ _
  · refine ⟨_, cap, rfl, hn, hc, Or.inr ⟨g, fun i => cur.getD i undef, rfl, hg, ⟨cur, hh, hs, fun i hi => ?_⟩, fun i hi => ?_⟩⟩
    · have hi' : i < cur.size := by omega
      simp [Array.getD, hi']
    · obtain ⟨e1, e2⟩ := insV_get cs i hi
      have hj : ∀ q u, (insV cs)[q]? = some u → q < cur.size ∧ cur.getD q undef = u := by
        intro q u hq
        have hql : q < cs.length * 2 := by have := (List.getElem?_eq_some_iff.1 hq).1; rw [insV_length] at this; exact this
        have hq' : q < cur.size := by omega
        refine ⟨hq', ?_⟩
        rw [← htk, List.getElem?_take_of_lt hql] at hq
        simp [Array.getD, hq'] at hq ⊢
        exact hq
      exact ⟨(hj _ _ e1).2, (hj _ _ e2).2⟩
theorem StkP.form {w : World} {lo : Nat} {cs : List Ins} {v : Value} (h : StkP w lo cs v) : ∃ ad cap, v = .slice ad cs.length cap := by
  rcases h.2 with ⟨rfl, h0⟩ | ⟨g, cap, cur, rfl, -⟩
  · exact ⟨none, 0, by rw [h0]⟩
  · exact ⟨_, _, rfl⟩
theorem StkP.keep {w w' : World} {lo : Nat} {cs : List Ins} {v : Value} (h : StkP w lo cs v) (hk : ∀ k, some k = v.ownBlock → w'.heap[k]? = w.heap[k]?) : StkP w' lo cs v := by
  refine ⟨h.1, ?_⟩
  rcases h.2 with h | ⟨g, cap, cur, rfl, hg, hh, r⟩
  · exact Or.inl h
  · exact Or.inr ⟨g, cap, cur, rfl, hg, (hk g rfl).trans hh, r⟩
theorem StkP.lt {w : World} {lo : Nat} {cs : List Ins} {v : Value} (h : StkP w lo cs v) {k : Nat} (hk : some k = v.ownBlock) : lo ≤ k ∧ k < w.heap.size := by
  rcases h.2 with ⟨rfl, h0⟩ | ⟨g, cap, cur, rfl, hg, hh, -⟩
  · simp [Value.ownBlock] at hk
  · simp only [Value.ownBlock, Option.some.injEq] at hk
    subst hk
    exact ⟨hg, (Array.getElem?_eq_some_iff.1 hh).1⟩
theorem StkP.alloc {w : World} {lo : Nat} {cs : List Ins} {v : Value} (h : StkP w lo cs v) (o : Obj) : StkP (w.alloc o) lo cs v := h.keep fun k hk => Deep.blk_alloc_lt _ _ _ (h.lt hk).2
theorem StkP.lower {w : World} {lo lo' : Nat} {cs : List Ins} {v : Value} (h : StkP w lo cs v) (hl : lo' ≤ lo) : StkP w lo' cs v := by
  refine ⟨h.1, h.2.imp id ?_⟩
  rintro ⟨g, cap, cur, e, hg, r⟩
  exact ⟨g, cap, cur, e, Nat.le_trans hl hg, r⟩
theorem StkP.none (w : World) (lo : Nat) : StkP w lo [] (.slice none 0 0) := ⟨rfl, Or.inl ⟨rfl, rfl⟩⟩
theorem StkP.nil (w : World) (lo : Nat) (h : lo ≤ w.heap.size) : StkP (w.alloc (.cells #[] 66)) lo [] (.slice (some ⟨w.heap.size, 0, Option.none⟩) 0 0) :=
  ⟨rfl, Or.inr ⟨w.heap.size, 0, _, rfl, h, Deep.blk_alloc_new _ _, Nat.le_refl _, by simp [maxLen], rfl, rfl⟩⟩
theorem infoK2 : ∃ i z, Try.prog.info? 66 = some i ∧ i.zero = some z ∧ i.size = 2 ∧ i.bytes = 16 ∧ z.cells.size = 2 := by
  obtain ⟨i, hi, hzz⟩ := Option.map_eq_some_iff.1 infoI2
  simp only [Prod.mk.injEq] at hzz
  obtain ⟨hz, hs, hb⟩ := hzz
  exact ⟨i, _, hi, hz, hs, hb, rfl⟩
theorem news2 (w : World) (a b : Value) (T : TypeId) (j : Nat) (u : Value) (h : [a, b][j]? = some u) : (w.alloc (.cells #[a, b] T)).cell? ((⟨w.heap.size, 0, Option.none⟩ : Addr).add j) = some u := by
  rw [WideShapes.add_plain, Nat.zero_add]
  exact box_cell w #[a, b] _ j u (by simpa using h)

/-- what an owned row of code has become: only its own block has been written, or it lies in a new one -/
def GrowK (w : World) (lo : Nat) (cs : List Ins) (v0 v : Value) (w' : World) : Prop :=
  StkP w' lo cs v ∧ w.grownBy w' v0.ownBlock ∧ (v.ownBlock = v0.ownBlock ∨ ∃ g, v.ownBlock = some g ∧ w.heap.size ≤ g)
theorem GrowK.refl {w : World} {lo : Nat} {cs : List Ins} {v : Value} (h : StkP w lo cs v) : GrowK w lo cs v v w := ⟨h, ⟨rfl, rfl, rfl, Nat.le_refl _, fun _ _ _ => rfl⟩, Or.inl rfl⟩
theorem GrowK.trans {w w1 w2 : World} {lo : Nat} {a b : List Ins} {v0 v1 v2 : Value} (h : GrowK w lo a v0 v1 w1) (k : GrowK w1 lo b v1 v2 w2) : GrowK w lo b v0 v2 w2 := by
  obtain ⟨h1, h2, h3⟩ := h
  obtain ⟨k1, k2, k3⟩ := k
  refine ⟨k1, ⟨k2.os.trans h2.os, k2.tape.trans h2.tape, k2.output.trans h2.output, Nat.le_trans h2.size k2.size, fun j hj hne => ?_⟩, ?_⟩
  · refine (k2.block j (Nat.lt_of_lt_of_le hj h2.size) fun e => ?_).trans (h2.block j hj hne)
    rcases h3 with h3 | ⟨g, h3, hg⟩
    · rw [h3] at e; exact hne e
    · rw [h3] at e; simp only [Option.some.injEq] at e; omega
  · rcases k3 with k3 | ⟨g, k3, hg⟩
    · rcases h3 with h3 | ⟨g, h3, hg⟩
      · exact Or.inl (k3.trans h3)
      · exact Or.inr ⟨g, k3.trans h3, hg⟩
    · exact Or.inr ⟨g, k3, Nat.le_trans h2.size hg⟩
/-- .. begun in a world with some blocks more -/
theorem GrowK.from {w w1 w2 : World} {lo : Nat} {b : List Ins} {v0 v2 : Value} (hw : ∀ k, k < w.heap.size → w1.heap[k]? = w.heap[k]?) (hs : w.heap.size ≤ w1.heap.size) (ho : w1.os = w.os ∧ w1.tape = w.tape ∧ w1.output = w.output) (k : GrowK w1 lo b v0 v2 w2) : GrowK w lo b v0 v2 w2 := by
  obtain ⟨k1, k2, k3⟩ := k
  refine ⟨k1, ⟨k2.os.trans ho.1, k2.tape.trans ho.2.1, k2.output.trans ho.2.2, Nat.le_trans hs k2.size, fun j hj hne => (k2.block j (Nat.lt_of_lt_of_le hj hs) hne).trans (hw j hj)⟩, ?_⟩
  rcases k3 with k3 | ⟨g, k3, hg⟩
  · exact Or.inl k3
  · exact Or.inr ⟨g, k3, Nat.le_trans hs hg⟩
theorem GrowK.from' {w w1 w2 : World} {lo : Nat} {b : List Ins} {v0 v2 : Value} (hb : Below w.heap.size w w1) (k : GrowK w1 lo b v0 v2 w2) : GrowK w lo b v0 v2 w2 :=
  k.from (fun j hj => hb.block j hj) hb.size ⟨hb.os, hb.tape, hb.output⟩
theorem GrowK.below {w w' : World} {lo B : Nat} {cs : List Ins} {v0 v : Value} (h : GrowK w lo cs v0 v w') (hv : ∀ k, some k = v0.ownBlock → B ≤ k) (hB : B ≤ w.heap.size) : Below B w w' := by
  obtain ⟨-, h2, -⟩ := h
  exact ⟨h2.os, h2.tape, h2.output, h2.size, fun k hk => h2.block k (by omega) fun e => by have := hv k e; omega⟩
/-- a block that is not the row's stays -/
theorem GrowK.other {w w' : World} {lo : Nat} {cs : List Ins} {v0 v : Value} (h : GrowK w lo cs v0 v w') {k : Nat} (hk : k < w.heap.size) (hn : some k ≠ v0.ownBlock) : w'.heap[k]? = w.heap[k]? := h.2.1.block k hk hn
theorem GrowK.ne {w w' : World} {lo : Nat} {cs : List Ins} {v0 v : Value} (h : GrowK w lo cs v0 v w') {k : Nat} (hk : k < w.heap.size) (hn : some k ≠ v0.ownBlock) : some k ≠ v.ownBlock := by
  rcases h.2.2 with e | ⟨g, e, hg⟩
  · rw [e]; exact hn
  · rw [e]; intro h; simp only [Option.some.injEq] at h; omega
end Go.Proofs.Ythknbafcnobgdaa
