/-
  THE CELLS OF A COPIER: the first ones are scanned, the others still have the operands of the old space.
-/
import Derived.Test.YtjpjikfmdaejeabOwnC
import Derived.Test.YtjpjikfmdaejeabPlN
import Derived.Test.YtjpjikfmdaejeabCopyO
import Derived.Laws.OwnMore
namespace Go.Proofs.Ytjpjikfmdaejeab
set_option linter.unusedVariables false
set_option linter.unusedSimpArgs false
open Go.RowKit

/-- all blocks but those of a set are as they were -/
structure ButP (U : Nat → Prop) (w w' : World) : Prop where
  os : w'.os = w.os
  tape : w'.tape = w.tape
  output : w'.output = w.output
  size : w.heap.size ≤ w'.heap.size
  block : ∀ k, k < w.heap.size → ¬ U k → w'.heap[k]? = w.heap[k]?
theorem ButP.refl (U : Nat → Prop) (w : World) : ButP U w w := ⟨rfl, rfl, rfl, Nat.le_refl _, fun _ _ _ => rfl⟩
theorem ButP.trans {U V : Nat → Prop} {a c d : World} (h : ButP U a c) (k : ButP V c d) (hV : ∀ x, V x → x < a.heap.size → U x) : ButP U a d :=
  ⟨k.os.trans h.os, k.tape.trans h.tape, k.output.trans h.output, Nat.le_trans h.size k.size, fun i hi hb => (k.block i (Nat.lt_of_lt_of_le hi h.size) (fun e => hb (hV i e hi))).trans (h.block i hi hb)⟩
theorem ButP.mono {U V : Nat → Prop} {w w' : World} (h : ButP U w w') (hs : ∀ k, U k → k < w.heap.size → V k) : ButP V w w' := ⟨h.os, h.tape, h.output, h.size, fun k hk hb => h.block k hk fun e => hb (hs k e hk)⟩
theorem ButP.of_below {U : Nat → Prop} {w w' : World} (h : Below w.heap.size w w') : ButP U w w' := ⟨h.os, h.tape, h.output, h.size, fun k hk _ => h.block k hk⟩
theorem ButP.below {U : Nat → Prop} {lo : Nat} {w w' : World} (h : ButP U w w') (hU : ∀ k, U k → lo ≤ k) (hl : lo ≤ w.heap.size) : Below lo w w' := ⟨h.os, h.tape, h.output, h.size, fun k hk => h.block k (Nat.lt_of_lt_of_le hk hl) fun e => by have := hU k e; omega⟩
theorem ButP.of_grown {U : Nat → Prop} {w w' : World} {r : Option Nat} (h : w.grownBy w' r) (hU : ∀ k, some k = r → U k) : ButP U w w' := ⟨h.os, h.tape, h.output, h.size, fun k hk hb => h.block k hk fun e => hb (hU k e)⟩
theorem ButP.of_set {U : Nat → Prop} {w : World} {a : Addr} {u : Value} (hU : U a.block) : ButP U w (w.setCell a u) := ⟨rfl, rfl, rfl, by rw [size_setCell]; exact Nat.le_refl _, fun k hk hb => Below.heap_setCell _ _ _ _ fun e => hb (by rw [e]; exact hU)⟩

theorem own_uniq {w : World} {lo lo' n s : Nat} {T : TypeId} {v : Value} {xs ys : List Value} (h : w.ownsRow lo T s v n xs) (h' : w.ownsRow lo' T s v n ys) : xs = ys := by
  have a1 := h.1
  have a2 := h'.1
  rcases h.2 with ⟨rfl, h0⟩ | ⟨b, cap, cur, rfl, hg, hh, hn', hc', hs', htk⟩
  · rw [h0] at a1 a2
    rw [List.eq_nil_of_length_eq_zero (by omega : xs.length = 0), List.eq_nil_of_length_eq_zero (by omega : ys.length = 0)]
  · rcases h'.2 with ⟨e, -⟩ | ⟨b2, cap2, cur2, e, -, hh2, -, -, -, htk2⟩
    · cases e
    · cases e
      rw [hh] at hh2
      cases hh2
      rw [← htk, ← htk2]
/-- a row of cells is no row of ints -/
theorem cellrow_ne {w : World} {lo n : Nat} {v : Value} {xs : List Value} (h : w.ownsRow lo 60 3 v n xs) {C : Array Value} {k : Nat} (hC : w.heap[k]? = some (.cells C 3 (0, 0))) : some k ≠ v.ownBlock := by
  intro e
  rcases h.2 with ⟨rfl, -⟩ | ⟨b2, cap, cur, rfl, -, hh, -⟩
  · simp [Value.ownBlock] at e
  · simp only [Value.ownBlock, Option.some.injEq] at e
    subst e
    rw [hh] at hC
    simp at hC

/-- the operands of copy j, in the row blk once it is scanned -/
def CpK (w : World) (lo : Nat) (S : Nat → Prop) (g : List Ce) (o : List Nat) (i j blk : Nat) (kv : Value) : Prop :=
  (j < i → KRowS w S ((kidsN g (o.getD j 0)).map fun k => (posN o k : Int)) blk kv) ∧ (¬ j < i → IntsOn w (Lt lo) (plI (kidsN g (o.getD j 0))) kv)
/-- the copies of the cells o, the first i of them scanned -/
def CpG (w : World) (lo : Nat) (S : Nat → Prop) (g : List Ce) (o : List Nat) (i : Nat) (v : Value) : Prop :=
  ∃ (xs : List Value) (kb : Nat → Nat), w.ownsRow lo 60 3 v o.length xs ∧
    (∀ j, j < o.length → I64 (opAt g (o.getD j 0)) ∧ I64 (numAt g (o.getD j 0)) ∧ ∃ kv, xs[j * 3]? = some (.int .i64 (opAt g (o.getD j 0))) ∧ xs[j * 3 + 1]? = some (.int .i64 (numAt g (o.getD j 0))) ∧ xs[j * 3 + 2]? = some kv ∧ CpK w lo S g o i j (kb j) kv) ∧
    ∀ a b, a < i → b < i → a < o.length → b < o.length → a ≠ b → kidsN g (o.getD a 0) ≠ [] → kidsN g (o.getD b 0) ≠ [] → kb a ≠ kb b
theorem CpG.nil (w : World) (lo : Nat) (S : Nat → Prop) (g : List Ce) : CpG w lo S g [] 0 (.slice none 0 0) :=
  ⟨[], fun _ => 0, World.ownsRow_nil w lo _ _, fun j hj => absurd hj (by simp), fun a b ha => absurd ha (by omega)⟩
theorem CpG.row {w : World} {lo : Nat} {S : Nat → Prop} {g : List Ce} {o : List Nat} {i : Nat} {v : Value} (h : CpG w lo S g o i v) : ∃ xs, w.ownsRow lo 60 3 v o.length xs := by
  obtain ⟨xs, kb, h1, -⟩ := h; exact ⟨xs, h1⟩
theorem CpG.form {w : World} {lo : Nat} {S : Nat → Prop} {g : List Ce} {o : List Nat} {i : Nat} {v : Value} (h : CpG w lo S g o i v) : ∃ ad cap, v = .slice ad o.length cap := by
  obtain ⟨xs, h1⟩ := h.row
  rcases h1.2 with ⟨rfl, h0⟩ | ⟨b, cap, cur, rfl, -⟩
  · exact ⟨none, 0, by rw [h0]⟩
  · exact ⟨_, _, rfl⟩
theorem CpK.keep {w w' : World} {lo : Nat} {S S' : Nat → Prop} {g : List Ce} {o o' : List Nat} {i j blk : Nat} {kv : Value} (h : CpK w lo S g o i j blk kv) (hS : ∀ k, S k → k < w.heap.size → S' k) (hb : ∀ k C, S k → k < w.heap.size → w.heap[k]? = some (.cells C 3 (0, 0)) → w'.heap[k]? = w.heap[k]?) (hl : ∀ k, k < lo → w'.heap[k]? = w.heap[k]?)
    (ho : o'.getD j 0 = o.getD j 0) (hp : j < i → ∀ k ∈ kidsN g (o.getD j 0), posN o' k = posN o k) : CpK w' lo S' g o' i j blk kv := by
  refine ⟨fun hj => ?_, fun hj => ?_⟩
  · rw [ho]
    have e : (kidsN g (o.getD j 0)).map (fun k => (posN o' k : Int)) = (kidsN g (o.getD j 0)).map (fun k => (posN o k : Int)) := List.map_congr_left fun k hk => by rw [hp hj k hk]
    rw [e]
    exact (h.1 hj).keep hS fun C h1 h2 h3 => hb _ C h1 h2 h3
  · rw [ho]
    exact (h.2 hj).mono (fun _ hk => hk) fun k hk => hl k hk
theorem CpG.next {w w' : World} {lo : Nat} {S S' : Nat → Prop} {g : List Ce} {o : List Nat} {i : Nat} {v : Value} (h : CpG w lo S g o i v) (hS : ∀ k, S k → k < w.heap.size → S' k) (hr : ∀ k, some k = v.ownBlock → k < w.heap.size → w'.heap[k]? = w.heap[k]?) (hb : ∀ k C, S k → k < w.heap.size → w.heap[k]? = some (.cells C 3 (0, 0)) → w'.heap[k]? = w.heap[k]?) (hl : ∀ k, k < lo → w'.heap[k]? = w.heap[k]?) : CpG w' lo S' g o i v := by
  obtain ⟨xs, kb, h1, h2, h3⟩ := h
  refine ⟨xs, kb, ⟨h1.1, ?_⟩, fun j hj => ?_, h3⟩
  · rcases h1.2 with h | ⟨b, cap, cur, rfl, hg, hh, r⟩
    · exact Or.inl h
    · exact Or.inr ⟨b, cap, cur, rfl, hg, (hr b rfl (Array.getElem?_eq_some_iff.1 hh).1).trans hh, r⟩
  · obtain ⟨i1, i2, kv, e0, e1, e2, e3⟩ := h2 j hj
    exact ⟨i1, i2, kv, e0, e1, e2, e3.keep hS hb hl rfl fun _ _ _ => rfl⟩
theorem getD_snoc {o : List Nat} {a j : Nat} (h : j < o.length) : (o ++ [a]).getD j 0 = o.getD j 0 := by
  rw [List.getD_eq_getElem?_getD, List.getD_eq_getElem?_getD, List.getElem?_append_left h]
theorem getD_last (o : List Nat) (a : Nat) : (o ++ [a]).getD o.length 0 = a := by simp
/-- one copy more -/
theorem CpG.grow {w w' : World} {lo : Nat} {S : Nat → Prop} {g : List Ce} {o : List Nat} {i a : Nat} {v v' kv : Value} {xs : List Value} (h : CpG w lo S g o i v) (hi : i ≤ o.length) (hcl : ∀ j, j < i → ∀ k ∈ kidsN g (o.getD j 0), k ∈ o)
    (h64 : I64 (opAt g a) ∧ I64 (numAt g a)) (hk : IntsOn w' (Lt lo) (plI (kidsN g a)) kv) (hx : w.ownsRow lo 60 3 v o.length xs) (hown : w'.ownsRow lo 60 3 v' (o.length + 1) (xs ++ [.int .i64 (opAt g a), .int .i64 (numAt g a), kv]))
    (hb : ∀ k C, S k → k < w.heap.size → w.heap[k]? = some (.cells C 3 (0, 0)) → w'.heap[k]? = w.heap[k]?) (hl : ∀ k, k < lo → w'.heap[k]? = w.heap[k]?) : CpG w' lo S g (o ++ [a]) i v' := by
  obtain ⟨xs2, kb, h1, h2, h3⟩ := h
  obtain rfl := own_uniq hx h1
  have hlen := hx.1
  refine ⟨xs ++ [.int .i64 (opAt g a), .int .i64 (numAt g a), kv], kb, by simpa using hown, fun j hj => ?_, fun x y hx1 hy1 _ _ hne ex ey => ?_⟩
  · by_cases hjl : j < o.length
    · obtain ⟨i1, i2, kv', e0, e1, e2, e3⟩ := h2 j hjl
      rw [getD_snoc hjl]
      refine ⟨i1, i2, kv', ?_, ?_, ?_, ?_⟩
      · rw [List.getElem?_append_left (by omega)]; exact e0
      · rw [List.getElem?_append_left (by omega)]; exact e1
      · rw [List.getElem?_append_left (by omega)]; exact e2
      · exact e3.keep (fun _ h _ => h) hb hl (getD_snoc hjl) fun hji k hk => posN_app _ _ _ (hcl j hji k hk)
    · have hj' : j = o.length := by simp at hj; omega
      subst hj'
      rw [getD_last]
      refine ⟨h64.1, h64.2, kv, ?_, ?_, ?_, fun hj => absurd hj (by omega), fun _ => by rw [getD_last]; exact hk⟩
      · rw [List.getElem?_append_right (by omega)]; simp [hlen]
      · rw [List.getElem?_append_right (by omega)]; simp [hlen]
      · rw [List.getElem?_append_right (by omega)]; simp [hlen]
  · rw [getD_snoc (by omega)] at ex ey
    exact h3 x y hx1 hy1 (by omega) (by omega) hne ex ey
/-- copy i is scanned -/
theorem CpG.scan {w : World} {lo : Nat} {S : Nat → Prop} {g : List Ce} {o : List Nat} {i b cap blk : Nat} {kv : Value} (h : CpG w lo S g o i (.slice (some ⟨b, 0, none⟩) o.length cap)) (hi : i < o.length)
    (hk : KRowS w (fun x => x = blk) ((kidsN g (o.getD i 0)).map fun k => (posN o k : Int)) blk kv) (hS : ¬ S blk) : CpG (w.setCell ⟨b, i * 3 + 2, none⟩ kv) lo (fun x => S x ∨ x = blk) g o (i + 1) (.slice (some ⟨b, 0, none⟩) o.length cap) := by
  obtain ⟨xs, kb, h1, h2, h3⟩ := h
  have hx1 := (h1.stored (i * 3 + 2) kv).1
  have hlen := h1.1
  have hbl : lo ≤ b := own_block h1 rfl
  have keep : ∀ (k : Nat) (C : Array Value), w.heap[k]? = some (.cells C 3 (0, 0)) → (w.setCell ⟨b, i * 3 + 2, none⟩ kv).heap[k]? = w.heap[k]? := fun k C hC => Below.heap_setCell _ _ _ _ fun e => cellrow_ne h1 hC (by simp only [Value.ownBlock, Option.some.injEq]; exact e)
  have keepl : ∀ k, k < lo → (w.setCell ⟨b, i * 3 + 2, none⟩ kv).heap[k]? = w.heap[k]? := fun k hk => Below.heap_setCell _ _ _ _ (by show k ≠ b; omega)
  refine ⟨xs.set (i * 3 + 2) kv, fun j => if j = i then blk else kb j, hx1, fun j hj => ?_, fun x y hx1 hy1 hxl hyl hne ex ey => ?_⟩
  · obtain ⟨i1, i2, kv', e0, e1, e2, e3⟩ := h2 j hj
    by_cases hji : j = i
    · subst hji
      refine ⟨i1, i2, kv, ?_, ?_, ?_, fun _ => ?_, fun hn => absurd hn (by omega)⟩
      · rw [List.getElem?_set_ne (by omega)]; exact e0
      · rw [List.getElem?_set_ne (by omega)]; exact e1
      · rw [List.getElem?_set_self (by omega)]
      · simp only [if_pos]
        exact hk.keep (fun k hk _ => Or.inr hk) fun C _ _ hC => keep _ C hC
    · refine ⟨i1, i2, kv', ?_, ?_, ?_, ?_⟩
      · rw [List.getElem?_set_ne (by omega)]; exact e0
      · rw [List.getElem?_set_ne (by omega)]; exact e1
      · rw [List.getElem?_set_ne (by omega)]; exact e2
      · simp only [if_neg hji]
        have h4 : CpK (w.setCell ⟨b, i * 3 + 2, none⟩ kv) lo (fun x => S x ∨ x = blk) g o i j (kb j) kv' := e3.keep (fun k hk _ => Or.inl hk) (fun k C _ _ hC => keep k C hC) keepl rfl fun _ _ _ => rfl
        exact ⟨fun hj => h4.1 (by omega), fun hj => h4.2 (by omega)⟩
  · have ne : ∀ q, q < i → q < o.length → kidsN g (o.getD q 0) ≠ [] → kb q ≠ blk := by
      intro q hq hql hne e
      obtain ⟨-, -, kv', -, -, -, e3⟩ := h2 q hql
      obtain ⟨_, _, _, _, _, h5⟩ := e3.1 hq
      rcases h5 with h5 | ⟨f5, -, h6, -⟩
      · exact hne (by simpa using h5)
      · exact hS (e ▸ h6)
    by_cases hxi : x = i
    · have hyi : ¬ y = i := by omega
      simp only [if_pos hxi, if_neg hyi]
      exact (ne y (by omega) hyl ey).symm
    · by_cases hyi : y = i
      · simp only [if_neg hxi, if_pos hyi]
        exact ne x (by omega) hxl ex
      · simp only [if_neg hxi, if_neg hyi]
        exact h3 x y (by omega) (by omega) hxl hyl hne ex ey
/-- all are scanned -/
theorem CpG.done {w : World} {lo : Nat} {S : Nat → Prop} {g : List Ce} {o : List Nat} {i : Nat} {v : Value} (h : CpG w lo S g o i v) (hi : o.length ≤ i) : OwnC w lo S (o.map (cpCell g o)) v := by
  obtain ⟨xs, kb, h1, h2, h3⟩ := h
  have hat : ∀ j (hj : j < (o.map (cpCell g o)).length), (o.map (cpCell g o))[j] = cpCell g o (o.getD j 0) := fun j hj => by
    rw [List.length_map] at hj
    rw [List.getElem_map, getD_at _ _ _ hj]
  refine ⟨fun j hj => ?_, xs, kb, by rw [List.length_map]; exact h1, fun j hj => ?_, fun a b ha hb hne ea eb => ?_⟩
  · rw [hat j hj]
    rw [List.length_map] at hj
    obtain ⟨i1, i2, -⟩ := h2 j hj
    exact ⟨i1, i2⟩
  · rw [hat j hj]
    rw [List.length_map] at hj
    obtain ⟨i1, i2, kv, e0, e1, e2, e3⟩ := h2 j hj
    exact ⟨kv, e0, e1, e2, e3.1 (by omega)⟩
  · rw [hat a ha] at ea
    rw [hat b hb] at eb
    rw [List.length_map] at ha hb
    exact h3 a b (by omega) (by omega) ha hb hne (by simpa [cpCell] using ea) (by simpa [cpCell] using eb)
end Go.Proofs.Ytjpjikfmdaejeab
