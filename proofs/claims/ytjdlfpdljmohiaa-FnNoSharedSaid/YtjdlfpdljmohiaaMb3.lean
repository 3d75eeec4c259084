/-
  MAPS KEYED BY ADDRESSES (pointers, or structs of them): what a look-up finds and what a store leaves, the map seen as a function from keys to values.
-/
import Derived.Test.YtjdlfpdljmohiaaMb1
import Derived.Maps.Own
import Derived.Maps.OwnOps
import Derived.LaidEqlPtr
import Derived.Test.YtjdlfpdljmohiaaProg
import Derived.WalkSmall
import Derived.Deep.RegionLaw
import Derived.Deep.RegionLawGrows
import Derived.Deep.DeepMust
import Derived.Maps.AppendAt
import Derived.Test.YtjdlfpdljmohiaaMb2
namespace Go.Proofs.Ytjdlfpdljmohiaa
set_option linter.unusedVariables false
set_option linter.unusedSimpArgs false
open Go.RowKit Go.MapKept

section
variable {κ : Type} [DecidableEq κ]

/-- where a key stands in a list, and its value -/
def pfind (c : κ) : List (κ × Value) → Nat → Option (Nat × Value)
  | [], _ => none
  | x :: xs, i => if c = x.1 then some (i, x.2) else pfind c xs (i + 1)

theorem pfind_some {c : κ} : ∀ {L : List (κ × Value)} {i j : Nat} {v : Value}, pfind c L i = some (j, v) → ∃ n, j = i + n ∧ L[n]? = some (c, v)
  | [], i, j, v, h => by simp [pfind] at h
  | x :: xs, i, j, v, h => by
    unfold pfind at h
    split at h
    · rename_i hc
      simp only [Option.some.injEq, Prod.mk.injEq] at h
      exact ⟨0, by omega, by rw [← h.2, hc]; simp⟩
    · obtain ⟨n, hn, hg⟩ := pfind_some h
      exact ⟨n + 1, by omega, by simpa using hg⟩

theorem pfind_push_same {c : κ} {v : Value} : ∀ {L : List (κ × Value)} {i : Nat}, pfind c L i = none → pfind c (L ++ [(c, v)]) i = some (i + L.length, v)
  | [], i, _ => by simp [pfind]
  | x :: xs, i, h => by
    unfold pfind at h
    split at h
    · simp at h
    · rename_i hc
      rw [List.cons_append, pfind, if_neg hc, pfind_push_same h]
      simp; omega

theorem pfind_push_other {c d : κ} {v : Value} (hd : d ≠ c) : ∀ {L : List (κ × Value)} {i : Nat}, pfind d (L ++ [(c, v)]) i = pfind d L i
  | [], i => by simp [pfind, hd]
  | x :: xs, i => by rw [List.cons_append, pfind, pfind, pfind_push_other hd]

theorem pfind_set_same {c : κ} {u v : Value} : ∀ {L : List (κ × Value)} {i n : Nat}, pfind c L i = some (i + n, u) → pfind c (L.set n (c, v)) i = some (i + n, v)
  | [], i, n, h => by simp [pfind] at h
  | x :: xs, i, n, h => by
    unfold pfind at h
    split at h
    · rename_i hc
      simp only [Option.some.injEq, Prod.mk.injEq] at h
      have : n = 0 := by omega
      subst this
      simp [pfind]
    · rename_i hc
      obtain ⟨m, hm, _⟩ := pfind_some h
      have : n = m + 1 := by omega
      subst this
      rw [List.set_cons_succ, pfind, if_neg hc]
      have e : i + (m + 1) = i + 1 + m := by omega
      rw [e] at h ⊢
      exact pfind_set_same h

theorem pfind_set_other {c d : κ} {u v : Value} (hd : d ≠ c) : ∀ {L : List (κ × Value)} {i n : Nat}, L[n]? = some (c, u) → pfind d (L.set n (c, v)) i = pfind d L i
  | [], i, n, h => by simp at h
  | x :: xs, i, 0, h => by
    simp only [List.getElem?_cons_zero, Option.some.injEq] at h
    subst h
    simp [pfind, hd]
  | x :: xs, i, n + 1, h => by
    rw [List.set_cons_succ, pfind, pfind, pfind_set_other hd (by simpa using h)]

/-- what is asked of the keys of a type: how they lie in values, and when they are compared -/
structure PKey (P : Program) (kt : TypeId) (emb : κ → Value) (ok : World → κ → Prop) : Prop where
  check : ∀ (w : World) (e : Bool) (x : κ), (Instr.checkKey e 10000 kt (emb x)).run P w = .ok () w
  under : ∃ d, P.underlying kt = some d ∧ ∀ x y, Instr.sameNow d (emb x) (emb y) = none
  eq : ∀ (w : World) (x y : κ), ok w x → ok w y → (Op.equal kt (emb x) (emb y)).run P w = .ok (decide (x = y)) w
  stays : ∀ x, Instr.sameBits 10000 (emb x) (emb x) = true

/-- block b is a map, its keys of K, seen as the function M -/
def PMap (emb : κ → Value) (w : World) (b : Nat) (K : κ → Prop) (M : κ → Option Value) : Prop :=
  ∃ es clock L, w.heap[b]? = some (.map es clock) ∧ es.toList.map (fun e => (e.key, e.val)) = L.map (fun x : κ × Value => (emb x.1, x.2)) ∧ (∀ x ∈ L, K x.1) ∧ ∀ c, M c = (pfind c L 0).map (·.2)

/-- a function changed at one place -/
def pput (M : κ → Option Value) (a : κ) (v : Value) : κ → Option Value := fun c => if c = a then some v else M c
@[simp] theorem pput_same (M : κ → Option Value) (a : κ) (v : Value) : pput M a v a = some v := by simp [pput]
theorem pput_other (M : κ → Option Value) {a c : κ} (v : Value) (h : c ≠ a) : pput M a v c = M c := by simp [pput, h]

variable {P : Program} {kt et mt : TypeId} {emb : κ → Value} {ok : World → κ → Prop} {w : World} {b : Nat} {K : κ → Prop} {M : κ → Option Value}

theorem PMap.made (w : World) (K : κ → Prop) : PMap emb (w.alloc (.map #[] 0)) w.heap.size K (fun _ => none) :=
  ⟨#[], 0, [], (heap_alloc w _).1, rfl, by simp, fun c => rfl⟩
theorem PMap.keep {w' : World} (h : PMap emb w b K M) (hb : w'.heap[b]? = w.heap[b]?) : PMap emb w' b K M := by
  obtain ⟨es, clock, L, h1, h2⟩ := h
  exact ⟨es, clock, L, hb.trans h1, h2⟩
theorem PMap.lt (h : PMap emb w b K M) : b < w.heap.size := by
  obtain ⟨es, clock, L, h1, h2⟩ := h
  exact (Array.getElem?_eq_some_iff.1 h1).1
theorem PMap.keys {K' : κ → Prop} (h : PMap emb w b K M) (hK : ∀ x, K x → K' x) : PMap emb w b K' M := by
  obtain ⟨es, clock, L, h1, h2, h3, h4⟩ := h
  exact ⟨es, clock, L, h1, h2, fun x hx => hK _ (h3 x hx), h4⟩
theorem PMap.key_of (h : PMap emb w b K M) {c : κ} {v : Value} (hc : M c = some v) : K c := by
  obtain ⟨es, clock, L, h1, h2, h3, h4⟩ := h
  rw [h4] at hc
  cases hf : pfind c L 0 with
  | none => rw [hf] at hc; simp at hc
  | some z =>
    obtain ⟨n, _, hg⟩ := pfind_some (j := z.1) (v := z.2) hf
    exact h3 _ (List.mem_of_getElem? hg)

theorem run_findAsking (Q : PKey P kt emb ok) (a : κ) (ha : ok w a) : ∀ (l : List MapEntry) (L : List (κ × Value)) (i : Nat), l.map (fun e => (e.key, e.val)) = L.map (fun x : κ × Value => (emb x.1, x.2)) → (∀ x ∈ L, ok w x.1) →
    (Instr.findAsking kt (emb a) l i).run P w = .ok (pfind a L i) w
  | [], L, i, h, _ => by
    cases L with
    | nil => simp [Instr.findAsking, pfind]
    | cons x xs => simp at h
  | e :: es, L, i, h, hL => by
    cases L with
    | nil => simp at h
    | cons x xs =>
      simp only [List.map_cons, List.cons.injEq, Prod.mk.injEq] at h
      obtain ⟨⟨h1, h2⟩, h3⟩ := h
      have ih := run_findAsking Q a ha es xs (i + 1) h3 (fun y hy => hL y (by simp [hy]))
      have he := Q.eq w a x.1 ha (hL x (by simp))
      rw [← h1] at he
      unfold Instr.findAsking pfind
      simp only [Sem.run_bind, he, Result.andThen]
      by_cases hc : a = x.1
      · simp [hc, h2]
      · simp [hc, ih]

theorem run_findKey_p (Q : PKey P kt emb ok) (a : κ) (ha : ok w a) (l : List MapEntry) (L : List (κ × Value)) (h : l.map (fun e => (e.key, e.val)) = L.map (fun x : κ × Value => (emb x.1, x.2))) (hL : ∀ x ∈ L, ok w x.1) :
    (Instr.findKey kt (emb a) l).run P w = .ok (pfind a L 0) w := by
  obtain ⟨d, hd, hn⟩ := Q.under
  have hf := run_findAsking Q a ha l L 0 h hL
  cases l with
  | nil =>
    cases L with
    | nil => simp [Instr.findKey, run_underlying hd, Result.andThen, Instr.findNow, pfind]
    | cons x xs => simp at h
  | cons e es =>
    cases L with
    | nil => simp at h
    | cons x xs =>
      have h1 : e.key = emb x.1 := by simp only [List.map_cons, List.cons.injEq, Prod.mk.injEq] at h; exact h.1.1
      have hnow : Instr.findNow d (emb a) (e :: es) 0 = none := by simp [Instr.findNow, h1, hn]
      simp [Instr.findKey, run_underlying hd, Result.andThen, hnow, hf]

/-- 'm[k]' -/
theorem PMap.look (h : PMap emb w b K M) (Q : PKey P kt emb ok) (hm : P.underlying mt = some (.map kt et)) (hK : ∀ x, K x → ok w x) {z : Value} (hz : (zeroValue et).run P w = .ok z w) (a : κ) (ha : ok w a) :
    (Instr.lookup mt (.map (some b)) (emb a) false).run P w = .ok ((M a).getD z) w ∧
    (Instr.lookup mt (.map (some b)) (emb a) true).run P w = .ok (.tuple #[(M a).getD z, .bool (M a).isSome]) w := by
  obtain ⟨es, clock, L, h1, h2, h3, h4⟩ := h
  have hf := run_findKey_p Q a ha es.toList L h2 (fun x hx => hK _ (h3 x hx))
  rw [h4 a]
  cases hp : pfind a L 0 with
  | none =>
    rw [hp] at hf
    constructor <;> simp [Instr.lookup, run_underlying hm, MapKept.run_getObj_map h1, Q.check, hf, hz, Result.andThen]
  | some y =>
    obtain ⟨n, v⟩ := y
    rw [hp] at hf
    constructor <;> simp [Instr.lookup, run_underlying hm, MapKept.run_getObj_map h1, Q.check, hf, Result.andThen]

/-- 'm[k] = v' -/
theorem PMap.store (h : PMap emb w b K M) (Q : PKey P kt emb ok) (hm : P.underlying mt = some (.map kt et)) (hK : ∀ x, K x → ok w x) (a : κ) (ha : ok w a) (hKa : K a) (v : Value) :
    ∃ o, (Instr.mapUpdate mt (.map (some b)) (emb a) v).run P w = .ok () { w with heap := w.heap.setIfInBounds b o } ∧ PMap emb { w with heap := w.heap.setIfInBounds b o } b K (pput M a v) := by
  obtain ⟨es, clock, L, h1, h2, h3, h4⟩ := h
  have hf := run_findKey_p Q a ha es.toList L h2 (fun x hx => hK _ (h3 x hx))
  cases hp : pfind a L 0 with
  | none =>
    rw [hp] at hf
    refine ⟨_, by simp [Instr.mapUpdate, run_underlying hm, MapKept.run_getObj_map h1, Q.check, hf, MapKept.run_setObj_map _ h1, Result.andThen]; rfl, _, _, L ++ [(a, v)], (heap_set h1).1, by simp [h2], ?_, ?_⟩
    · intro x hx
      simp only [List.mem_append, List.mem_singleton] at hx
      rcases hx with hx | rfl
      · exact h3 x hx
      · exact hKa
    · intro c
      by_cases hc : c = a
      · subst hc; simp [pfind_push_same hp]
      · rw [pput_other M v hc, pfind_push_other hc, h4]
  | some y =>
    obtain ⟨n, u⟩ := y
    rw [hp] at hf
    obtain ⟨m, hm', hg⟩ := pfind_some hp
    have hnm : n = m := by omega
    subst hnm
    have hlen : es.toList.length = L.length := by have := congrArg List.length h2; simpa using this
    have hlt : n < L.length := (List.getElem?_eq_some_iff.1 hg).1
    have hj : ∃ e, es[n]? = some e ∧ e.key = emb a ∧ e.val = u := by
      have : (es.toList.map (fun e => (e.key, e.val)))[n]? = (L.map (fun x : κ × Value => (emb x.1, x.2)))[n]? := by rw [h2]
      rw [List.getElem?_map, List.getElem?_map, hg] at this
      cases he : es[n]? with
      | none => rw [Array.getElem?_toList, he] at this; simp at this
      | some e =>
        rw [Array.getElem?_toList, he] at this
        simp only [Option.map_some, Option.some.injEq, Prod.mk.injEq] at this
        exact ⟨e, rfl, this.1, this.2⟩
    obtain ⟨e, he, hek, hev⟩ := hj
    have hks : (Instr.keyThatStays (emb a) (emb a)).run P w = .ok (emb a) w := by simp [Instr.keyThatStays, Q.stays]
    refine ⟨_, by simp [Instr.mapUpdate, run_underlying hm, MapKept.run_getObj_map h1, Q.check, hf, he, hek, hks, MapKept.run_setObj_map _ h1, Result.andThen]; rfl, _, _, L.set n (a, v), (heap_set h1).1, ?_, ?_, ?_⟩
    · apply List.ext_getElem?
      intro j
      have hj : (es.toList.map (fun e => (e.key, e.val)))[j]? = (L.map (fun x : κ × Value => (emb x.1, x.2)))[j]? := by rw [h2]
      simp only [List.getElem?_map, Array.getElem?_toList] at hj
      simp only [List.getElem?_map, Array.getElem?_toList, Array.getElem?_modify, List.getElem?_set]
      by_cases hij : n = j
      · subst hij
        simp [he, hlt]
      · simp [hij, hj]
    · intro x hx
      rcases List.mem_or_eq_of_mem_set hx with hx | rfl
      · exact h3 x hx
      · exact hKa
    · intro c
      by_cases hc : c = a
      · subst hc
        rw [pput_same, pfind_set_same (by simpa using hp)]
        rfl
      · rw [pput_other M v hc, pfind_set_other hc hg, h4]
end

/-! ### Keys that are pointers -/
/-- an address into cells that are not frozen -/
def PlainAt (w : World) (a : Addr) : Prop := ∃ C T, w.heap[a.block]? = some (.cells C T (0, 0))
/-- pointers as keys -/
def embP (a : Addr) : Value := .pointer (some a)

theorem eq_ptr {P : Program} {kt te : TypeId} {j : TypeInfo} (hp : P.underlying kt = some (.pointer te)) (hte : P.info? te = some j) (hsz : j.size ≠ 0) (w : World) (x y : Addr) (hx : PlainAt w x) (hy : PlainAt w y) (d : Nat) :
    (Op.equalIn (d + 1) kt (.pointer (some x)) (.pointer (some y))).run P w = .ok (decide (x = y)) w := by
  obtain ⟨C, T, hx⟩ := hx
  obtain ⟨D, U, hy⟩ := hy
  by_cases h : x = y
  · subst h
    simp [Op.equalIn, run_underlying hp, sizeOf, typeInfo, hte, hsz, run_sameAddr_same]
  · simp [Op.equalIn, run_underlying hp, sizeOf, typeInfo, hte, hsz, run_sameAddr_other w h hx hy, h]

theorem ptr_key {P : Program} {kt te : TypeId} {j : TypeInfo} (hp : P.underlying kt = some (.pointer te)) (hte : P.info? te = some j) (hsz : j.size ≠ 0) : PKey P kt embP PlainAt where
  check w e x := by
    unfold Instr.checkKey embP
    simp [run_underlying hp, Result.andThen]
  under := ⟨_, hp, fun x y => by simp [embP, Instr.sameNow]⟩
  eq w x y hx hy := by
    unfold Op.equal Op.maxDepth embP
    exact eq_ptr hp hte hsz w x y hx hy 9999
  stays x := by simp [embP, Instr.sameBits]

/-! ### The operations, for the walk -/
section
variable {κ : Type} [DecidableEq κ] {P : Program} {emb : κ → Value} {ok : World → κ → Prop}
theorem wpList_look_p (w : World) {ops : Array Oper} {rest : List Oper} {o : Oper} {a : Act} {Q : Exit → Act → World → Prop}
    (hg : o.guard = none) (m x : Operand) (t : TypeId) (hop : o.op = Op.lookup t m x false)
    (kt et : TypeId) (hq : PKey P kt emb ok) (ht : P.underlying t = some (.map kt et)) (z : Value) (hz : (zeroValue et).run P w = .ok z w) (b : Nat) (K : κ → Prop) (M : κ → Option Value)
    (hm : a.eval m = .map (some b)) (hown : PMap emb w b K M) (hK : ∀ x, K x → ok w x) (key : κ) (hx : a.eval x = emb key) (hkey : ok w key)
    (hk : wpList P ops Q rest (a.put o.dst ((M key).getD z)) w) : wpList P ops Q (o :: rest) a w := by
  refine wpList_plain hg fun K' hK' => ?_
  have hrun := (hown.look hq ht hK hz key hkey).1
  unfold Oper.wp
  simp [execOp, hop, hm, hx, hrun, Result.andThen]
  exact hK' _ _ hk

theorem wpList_look_ok_p (w : World) {ops : Array Oper} {rest : List Oper} {o : Oper} {a : Act} {Q : Exit → Act → World → Prop}
    (hg : o.guard = none) (m x : Operand) (t : TypeId) (hop : o.op = Op.lookup t m x true)
    (kt et : TypeId) (hq : PKey P kt emb ok) (ht : P.underlying t = some (.map kt et)) (z : Value) (hz : (zeroValue et).run P w = .ok z w) (b : Nat) (K : κ → Prop) (M : κ → Option Value)
    (hm : a.eval m = .map (some b)) (hown : PMap emb w b K M) (hK : ∀ x, K x → ok w x) (key : κ) (hx : a.eval x = emb key) (hkey : ok w key)
    (hk : wpList P ops Q rest (a.put o.dst (.tuple #[(M key).getD z, .bool (M key).isSome])) w) : wpList P ops Q (o :: rest) a w := by
  refine wpList_plain hg fun K' hK' => ?_
  have hrun := (hown.look hq ht hK hz key hkey).2
  unfold Oper.wp
  simp [execOp, hop, hm, hx, hrun, Result.andThen]
  exact hK' _ _ hk

theorem wpList_store_p (w : World) {ops : Array Oper} {rest : List Oper} {o : Oper} {a : Act} {Q : Exit → Act → World → Prop}
    (hg : o.guard = none) (m x v : Operand) (t : TypeId) (hop : o.op = Op.mapUpdate t m x v)
    (kt et : TypeId) (hq : PKey P kt emb ok) (ht : P.underlying t = some (.map kt et)) (b : Nat) (K : κ → Prop) (M : κ → Option Value)
    (hm : a.eval m = .map (some b)) (hown : PMap emb w b K M) (hK : ∀ x, K x → ok w x) (key : κ) (hx : a.eval x = emb key) (hkey : ok w key) (hKk : K key) (val : Value) (hv : a.eval v = val)
    (hk : ∀ o', PMap emb { w with heap := w.heap.setIfInBounds b o' } b K (pput M key val) → wpList P ops Q rest (a.put o.dst undef) { w with heap := w.heap.setIfInBounds b o' }) : wpList P ops Q (o :: rest) a w := by
  refine wpList_plain hg fun K' hK' => ?_
  obtain ⟨o', hrun, hp⟩ := hown.store hq ht hK key hkey hKk val
  unfold Oper.wp
  simp [execOp, hop, hm, hx, hv, hrun, Result.andThen]
  exact hK' _ _ (hk o' hp)
end

/-- .. the world behind it under a name -/
theorem wpList_store_v {κ : Type} [DecidableEq κ] {P : Program} {emb : κ → Value} {ok : World → κ → Prop} (w : World) {ops : Array Oper} {rest : List Oper} {o : Oper} {a : Act} {Q : Exit → Act → World → Prop}
    (hg : o.guard = none) (m x v : Operand) (t : TypeId) (hop : o.op = Op.mapUpdate t m x v)
    (kt et : TypeId) (hq : PKey P kt emb ok) (ht : P.underlying t = some (.map kt et)) (b : Nat) (K : κ → Prop) (M : κ → Option Value)
    (hm : a.eval m = .map (some b)) (hown : PMap emb w b K M) (hK : ∀ x, K x → ok w x) (key : κ) (hx : a.eval x = emb key) (hkey : ok w key) (hKk : K key) (val : Value) (hv : a.eval v = val)
    (hk : ∀ w1, PMap emb w1 b K (pput M key val) → w.grownBy w1 (some b) → w1.heap.size = w.heap.size → wpList P ops Q rest (a.put o.dst undef) w1) : wpList P ops Q (o :: rest) a w :=
  wpList_store_p w hg m x v t hop kt et hq ht b K M hm hown hK key hx hkey hKk val hv fun o' hp => hk _ hp ⟨rfl, rfl, rfl, by simp, fun k _ hk => by simp only [ne_eq, Option.some.injEq] at hk; simp [Ne.symm hk]⟩ (by simp)

/-- a store into a map, seen from the other blocks -/
theorem set_other_block (w : World) (b : Nat) (o : Obj) {k : Nat} (h : k ≠ b) : ({ w with heap := w.heap.setIfInBounds b o } : World).heap[k]? = w.heap[k]? := by
  simp [Ne.symm h]
theorem set_size (w : World) (b : Nat) (o : Obj) : ({ w with heap := w.heap.setIfInBounds b o } : World).heap.size = w.heap.size := by simp
theorem set_below {B : Nat} (w : World) (b : Nat) (o : Obj) (hb : B ≤ b) : Below B w { w with heap := w.heap.setIfInBounds b o } :=
  ⟨rfl, rfl, rfl, by simp, fun k hk => set_other_block w b o (by omega)⟩
end Go.Proofs.Ytjdlfpdljmohiaa
/-
  AN ADDRESS HOLDS ONE TREE; blocks of plain cells; trees that lie in such blocks; the way down nested applications.
-/
namespace Go.Proofs.Ytjdlfpdljmohiaa
set_option linter.unusedVariables false
set_option linter.unusedSimpArgs false
open Go.RowKit

mutual
theorem TrOn.uniq {w : World} {S S' : Nat → Prop} : ∀ (t t' : Tr) (a b c : Value), TrOn w S t a b c → TrOn w S' t' a b c → t = t'
  | .node o n ks, .node o' n' ks', a, b, c, h, h' => by
    simp only [TrOn] at h h'
    obtain ⟨rfl, rfl, -, -, ad, cap, rfl, -, -, h⟩ := h
    obtain ⟨e1, e2, -, -, ad', cap', e3, -, -, h'⟩ := h'
    simp only [Value.int.injEq, true_and] at e1 e2
    simp only [Value.slice.injEq] at e3
    obtain ⟨rfl, hl, rfl⟩ := e3
    subst e1
    subst e2
    congr 1
    rcases h with rfl | ⟨bl, off, rfl, -, hr⟩
    · exact (List.eq_nil_of_length_eq_zero (by simpa using hl.symm)).symm
    · rcases h' with rfl | ⟨bl', off', e, -, hr'⟩
      · exact List.eq_nil_of_length_eq_zero (by simpa using hl)
      · simp only [Option.some.injEq, Addr.mk.injEq] at e
        obtain ⟨rfl, rfl, -⟩ := e
        exact RowOn.uniq bl off ks ks' hl hr hr'
theorem RowOn.uniq {w : World} {S S' : Nat → Prop} (bl off : Nat) : ∀ (ks ks' : List Tr), ks.length = ks'.length → RowOn w S bl off ks → RowOn w S' bl off ks' → ks = ks'
  | [], [], _, _, _ => rfl
  | [], _ :: _, hl, _, _ => by simp at hl
  | _ :: _, [], hl, _, _ => by simp at hl
  | t :: ts, t' :: ts', hl, h, h' => by
    simp only [RowOn] at h h'
    obtain ⟨⟨a, b, c, ha, hb, hc, ht⟩, hr⟩ := h
    obtain ⟨⟨a', b', c', ha', hb', hc', ht'⟩, hr'⟩ := h'
    rw [ha] at ha'
    rw [hb] at hb'
    rw [hc] at hc'
    cases ha'
    cases hb'
    cases hc'
    rw [TrOn.uniq t t' a b c ht ht', RowOn.uniq bl (off + 3) ts ts' (by simpa using hl) hr hr']
end

/-- plain blocks of cells -/
def Pl (w : World) : Nat → Prop := fun k => k < w.heap.size ∧ ∃ C T, w.heap[k]? = some (.cells C T (0, 0))
/-- trees that lie in plain blocks -/
abbrev InP (w : World) (ks : List Tr) (c : Value) : Prop := KidsOn w (Pl w) ks c
theorem Pl.next {w w' : World} (hb : Below w.heap.size w w') {k : Nat} (h : Pl w k) : Pl w' k :=
  ⟨Nat.lt_of_lt_of_le h.1 hb.size, by obtain ⟨C, T, e⟩ := h.2; exact ⟨C, T, (hb.block k h.1).trans e⟩⟩
theorem KidsOn.inP {w : World} {ks : List Tr} {c : Value} (h : InP w ks c) : In w ks c := KidsOn.mono h (fun k hk => hk.1) (fun _ _ => rfl)
theorem KidsOn.nextP {w w' : World} {ks : List Tr} {c : Value} (h : InP w ks c) (hb : Below w.heap.size w w') : InP w' ks c := KidsOn.mono h (fun k hk => hk.next hb) (fun k hk => hb.block k hk.1)
theorem TrOn.nextP {w w' : World} {t : Tr} {a b c : Value} (h : TrOn w (Pl w) t a b c) (hb : Below w.heap.size w w') : TrOn w' (Pl w') t a b c := TrOn.mono (fun k hk => hk.next hb) (fun k hk => hb.block k hk.1) _ _ _ _ h

/-- a tree that lies at an address -/
def LiesAt (w : World) (S : Nat → Prop) (a : Addr) (t : Tr) : Prop :=
  ∃ bl off x y z, a = ⟨bl, off, none⟩ ∧ S bl ∧ w.cell? ⟨bl, off, none⟩ = some x ∧ w.cell? ⟨bl, off + 1, none⟩ = some y ∧ w.cell? ⟨bl, off + 2, none⟩ = some z ∧ TrOn w S t x y z
theorem LiesAt.uniq {w : World} {S S' : Nat → Prop} {a : Addr} {t t' : Tr} (h : LiesAt w S a t) (h' : LiesAt w S' a t') : t = t' := by
  obtain ⟨bl, off, x, y, z, rfl, -, hx, hy, hz, ht⟩ := h
  obtain ⟨bl', off', x', y', z', e, -, hx', hy', hz', ht'⟩ := h'
  simp only [Addr.mk.injEq] at e
  obtain ⟨rfl, rfl, -⟩ := e
  rw [hx] at hx'
  rw [hy] at hy'
  rw [hz] at hz'
  cases hx'
  cases hy'
  cases hz'
  exact TrOn.uniq t t' x y z ht ht'
theorem LiesAt.plain {w w' : World} {a : Addr} {t : Tr} (h : LiesAt w (Pl w) a t) (hb : Below w.heap.size w w') : PlainAt w' a := by
  obtain ⟨bl, off, x, y, z, rfl, hp, -⟩ := h
  exact (hp.next hb).2
/-- element i of a row, as a node -/
theorem RowOn.liesAt {w : World} {S : Nat → Prop} {bl off i : Nat} {ks : List Tr} (hi : i < ks.length) (hS : S bl) (h : RowOn w S bl off ks) : LiesAt w S ⟨bl, off + i * 3, none⟩ ks[i] := by
  obtain ⟨a, b, c, ha, hb, hc, ht⟩ := RowOn.at ks off i hi h
  exact ⟨bl, off + i * 3, a, b, c, rfl, hS, ha, hb, hc, ht⟩

/-- the function of nested applications, and its arguments -/
def unwT : Tr → List Tr → Tr × List Tr
  | .node o n [f, x], acc => if o = 4 then unwT f (x :: acc) else (.node o n [f, x], acc)
  | t, acc => (t, acc)
termination_by t => SizeOf.sizeOf t
decreasing_by simp_wf; omega

theorem unwT_app {t f x : Tr} (ho : t.op = 4) (hk : t.kids = [f, x]) (acc : List Tr) : unwT t acc = unwT f (x :: acc) := by
  cases t with
  | node o n ks =>
    simp only [Tr.op_node, Tr.kids_node] at ho hk
    subst ho
    subst hk
    rw [unwT, if_pos rfl]
theorem unwT_stop {t : Tr} (h : ¬ (t.op = 4 ∧ t.kids.length = 2)) (acc : List Tr) : unwT t acc = (t, acc) := by
  cases t with
  | node o n ks =>
    simp only [Tr.op_node, Tr.kids_node] at h
    match ks, h with
    | [], _ => rw [unwT]; intro o' n' f' x' h'; cases h'
    | [a], _ => rw [unwT]; intro o' n' f' x' h'; cases h'
    | [a, b], h =>
      rw [unwT, if_neg]
      intro e
      exact h ⟨e, by simp⟩
    | a :: b :: c :: l, _ => rw [unwT]; intro o' n' f' x' h'; cases h'

/-- an argument with its three cells -/
abbrev Cd := Tr × Value × Value × Value
/-- the way down nested applications, from a tree and its operands' slice: where it stands, and the arguments met, in order -/
inductive Unw (w : World) (a : Tr) (c : Value) : Tr → Value → List Cd → Prop
  | here : Unw w a c a c []
  | down {t f x : Tr} {ct cf u v r : Value} {l : List Cd} {bl off cap : Nat} : Unw w a c t ct l → t.op = 4 → t.kids = [f, x] → ct = .slice (some ⟨bl, off, none⟩) 2 cap →
      w.cell? ⟨bl, off + 2, none⟩ = some cf → w.cell? ⟨bl, off + 3, none⟩ = some u → w.cell? ⟨bl, off + 4, none⟩ = some v → w.cell? ⟨bl, off + 5, none⟩ = some r → Unw w a c f cf (l ++ [(x, u, v, r)])

theorem Unw.unw {w : World} {a t : Tr} {c ct : Value} {l : List Cd} (h : Unw w a c t ct l) : unwT a [] = unwT t (l.map (·.1)).reverse := by
  induction h with
  | here => rfl
  | down h ho hk _ _ _ _ _ ih => rw [ih, unwT_app ho hk]; simp

/-- two operands, in their cells -/
theorem KidsOn.two {w : World} {S : Nat → Prop} {f x : Tr} {c : Value} (h : KidsOn w S [f, x] c) : ∃ bl off cap a b cf u v r, c = .slice (some ⟨bl, off, none⟩) 2 cap ∧ 2 ≤ cap ∧ cap ≤ maxLen ∧ S bl ∧ RowOn w S bl off [f, x] ∧
    w.cell? ⟨bl, off, none⟩ = some a ∧ w.cell? ⟨bl, off + 1, none⟩ = some b ∧ w.cell? ⟨bl, off + 2, none⟩ = some cf ∧ TrOn w S f a b cf ∧
    w.cell? ⟨bl, off + 3, none⟩ = some u ∧ w.cell? ⟨bl, off + 4, none⟩ = some v ∧ w.cell? ⟨bl, off + 5, none⟩ = some r ∧ TrOn w S x u v r := by
  obtain ⟨ad, cap, rfl, l1, l2, h⟩ := h
  rcases h with h | ⟨bl, off, rfl, hs, hr⟩
  · simp at h
  obtain ⟨a, b, cf, h0, h1, h2, h3⟩ := RowOn.at _ off 0 (by simp) hr
  obtain ⟨u, v, r, g0, g1, g2, g3⟩ := RowOn.at _ off 1 (by simp) hr
  simp only [Nat.zero_mul, Nat.add_zero, Nat.one_mul, List.getElem_cons_zero, List.getElem_cons_succ, Nat.add_assoc] at h0 h1 h2 h3 g0 g1 g2 g3
  exact ⟨bl, off, cap, a, b, cf, u, v, r, rfl, l1, l2, hs, hr, h0, h1, h2, h3, g0, g1, g2, g3⟩

theorem Unw.on {w : World} {S : Nat → Prop} {a t : Tr} {c ct : Value} {l : List Cd} (h : Unw w a c t ct l) (hc : KidsOn w S a.kids c) (ha : I64 a.op ∧ I64 a.num) :
    KidsOn w S t.kids ct ∧ I64 t.op ∧ I64 t.num ∧ (∀ d ∈ l, TrOn w S d.1 d.2.1 d.2.2.1 d.2.2.2) ∧ szT t + l.length ≤ szT a := by
  induction h with
  | here => exact ⟨hc, ha.1, ha.2, by simp, by simp⟩
  | @down t f x ct cf u v r l bl off cap h ho hk hct hcf hu hv hr ih =>
    obtain ⟨i1, i2, i3, i4, i5⟩ := ih
    rw [hk] at i1
    obtain ⟨bl', off', cap', p, q, cf', u', v', r', e, -, -, -, -, h0, h1, h2, h3, g0, g1, g2, g3⟩ := i1.two
    rw [hct] at e
    simp only [Value.slice.injEq, Option.some.injEq, Addr.mk.injEq] at e
    obtain ⟨⟨rfl, rfl, -⟩, -, rfl⟩ := e
    rw [hcf] at h2
    rw [hu] at g0
    rw [hv] at g1
    rw [hr] at g2
    cases h2
    cases g0
    cases g1
    cases g2
    have h4 := trOn_iff.1 h3
    refine ⟨h4.2.2.2.2, h4.2.2.1, h4.2.2.2.1, fun d hd => ?_, ?_⟩
    · simp only [List.mem_append, List.mem_singleton] at hd
      rcases hd with hd | rfl
      · exact i4 d hd
      · exact g3
    · have e1 : szT t = szL [f, x] := by rw [szT_eq, hk]
      simp only [szL, List.length_append, List.length_cons, List.length_nil] at e1 ⊢
      omega
end Go.Proofs.Ytjdlfpdljmohiaa
/-
  WHICH VARIABLES AN EXPRESSION NEEDS, as plain functions on trees: evaluation over two points.
-/
namespace Go.Proofs.Ytjdlfpdljmohiaa
set_option linter.unusedVariables false
set_option linter.unusedSimpArgs false
open Go.RowKit

/-- does a call of function n need it, whose arguments do as bs says? -/
def callB (need : List (List Bool)) (n : Int) (bs : List Bool) : Bool :=
  decide (0 ≤ n) && match need[n.toNat]? with
    | none => false
    | some row => decide (row.length ≤ bs.length) && (row.zip bs).any fun p => p.1 && p.2
/-- .. and a tree, to which so many arguments are applied -/
def needG (need : List (List Bool)) (v : Int) : Tr → List Bool → Bool
  | .node o n [], acc => if o = 1 then decide (n = v) else if o = 3 then callB need n acc else false
  | .node o n [a], acc => if o = 6 ∨ o = 7 then needG need v a [] else false
  | .node o n [a, b], acc => if o = 4 then needG need v a (needG need v b [] :: acc) else if o = 8 ∨ o = 9 then needG need v a [] || needG need v b [] else false
  | .node o n [a, b, c], acc => if o = 10 then needG need v a [] || (needG need v b [] && needG need v c []) else false
  | _, _ => false
termination_by t => SizeOf.sizeOf t
decreasing_by all_goals (simp_wf; omega)
/-- does a tree need a variable? -/
def needB (need : List (List Bool)) (v : Int) (t : Tr) : Bool := needG need v t []

section
variable {need : List (List Bool)} {v : Int}
theorem needG_leaf {t : Tr} (hk : t.kids = []) (acc : List Bool) : needG need v t acc = if t.op = 1 then decide (t.num = v) else if t.op = 3 then callB need t.num acc else false := by
  cases t with
  | node o n ks => simp only [Tr.kids_node] at hk; subst hk; rw [needG]; rfl
theorem needG_one {t a : Tr} (hk : t.kids = [a]) (acc : List Bool) : needG need v t acc = if t.op = 6 ∨ t.op = 7 then needB need v a else false := by
  cases t with
  | node o n ks => simp only [Tr.kids_node] at hk; subst hk; rw [needG]; rfl
theorem needG_two {t a b : Tr} (hk : t.kids = [a, b]) (acc : List Bool) : needG need v t acc = if t.op = 4 then needG need v a (needB need v b :: acc) else if t.op = 8 ∨ t.op = 9 then needB need v a || needB need v b else false := by
  cases t with
  | node o n ks => simp only [Tr.kids_node] at hk; subst hk; rw [needG]; rfl
theorem needG_three {t a b c : Tr} (hk : t.kids = [a, b, c]) (acc : List Bool) : needG need v t acc = if t.op = 10 then needB need v a || (needB need v b && needB need v c) else false := by
  cases t with
  | node o n ks => simp only [Tr.kids_node] at hk; subst hk; rw [needG]; rfl
theorem needG_more {t a b c d : Tr} {l : List Tr} (hk : t.kids = a :: b :: c :: d :: l) (acc : List Bool) : needG need v t acc = false := by
  cases t with
  | node o n ks =>
    simp only [Tr.kids_node] at hk; subst hk
    rw [needG]
    all_goals (intros; rename_i h; cases h)

theorem needG_unw : ∀ (n : Nat) (t : Tr) (acc : List Tr), szT t ≤ n → needG need v t (acc.map (needB need v)) = needG need v (unwT t acc).1 ((unwT t acc).2.map (needB need v)) := by
  intro n
  induction n with
  | zero =>
    intro t acc hz
    rw [unwT_stop]
    rintro ⟨-, hl⟩
    rw [szT_eq, szL_sum] at hz
    omega
  | succ n ih =>
    intro t acc hz
    by_cases h : t.op = 4 ∧ t.kids.length = 2
    · obtain ⟨f, x, hk⟩ : ∃ f x, t.kids = [f, x] := by
        match hks : t.kids, h.2 with
        | [f, x], _ => exact ⟨f, x, rfl⟩
      rw [unwT_app h.1 hk, needG_two hk, if_pos h.1]
      refine ih f (x :: acc) ?_
      rw [szT_eq, hk] at hz
      simp only [szL] at hz
      omega
    · rw [unwT_stop h]
theorem needB_unw (t : Tr) : needB need v t = needG need v (unwT t []).1 ((unwT t []).2.map (needB need v)) := needG_unw _ t [] (Nat.le_refl _)
/-- arguments matter to functions only -/
theorem needG_acc {t : Tr} (h3 : t.op ≠ 3) (h4 : ¬ (t.op = 4 ∧ t.kids.length = 2)) (acc : List Bool) : needG need v t acc = needB need v t := by
  unfold needB
  match hk : t.kids with
  | [] => rw [needG_leaf hk, needG_leaf hk, if_neg h3, if_neg h3]
  | [a] => rw [needG_one hk, needG_one hk]
  | [a, b] =>
    have h4' : t.op ≠ 4 := fun e => h4 ⟨e, by rw [hk]; rfl⟩
    rw [needG_two hk, needG_two hk, if_neg h4', if_neg h4']
  | [a, b, c] => rw [needG_three hk, needG_three hk]
  | a :: b :: c :: d :: l => rw [needG_more hk, needG_more hk]
end

/-! ### The call -/
/-- what the first arguments say -/
def anyTo (row bs : List Bool) (k : Nat) : Bool := ((row.take k).zip (bs.take k)).any fun p => p.1 && p.2
theorem anyTo_zero (row bs : List Bool) : anyTo row bs 0 = false := rfl
theorem anyTo_succ (row bs : List Bool) (k : Nat) (h : k < row.length) (h' : k < bs.length) : anyTo row bs (k + 1) = (anyTo row bs k || (row[k] && bs[k])) := by
  unfold anyTo
  rw [List.take_succ_eq_append_getElem h, List.take_succ_eq_append_getElem h', List.zip_append (by simp; omega), List.any_append]
  simp
theorem anyTo_all (row bs : List Bool) (h : row.length ≤ bs.length) : anyTo row bs row.length = (row.zip bs).any fun p => p.1 && p.2 := by
  unfold anyTo
  rw [List.take_length]
  congr 1
  conv => rhs; rw [← List.take_append_drop row.length bs]
  conv => rhs; lhs; rw [← List.append_nil row]
  rw [List.zip_append (by simp; omega)]
  simp
theorem anyTo_true (row bs : List Bool) (k : Nat) (h : k < row.length) (h' : k < bs.length) (hl : row.length ≤ bs.length) (ha : row[k] = true) (hb : bs[k] = true) : ((row.zip bs).any fun p => p.1 && p.2) = true := by
  rw [List.any_eq_true]
  refine ⟨(row[k], bs[k]), ?_, by simp [ha, hb]⟩
  have : k < (row.zip bs).length := by simp; omega
  have e : (row.zip bs)[k] = (row[k], bs[k]) := by simp
  rw [← e]
  exact List.getElem_mem this
theorem callB_none {need : List (List Bool)} {k : Nat} {bs : List Bool} (h : need.length ≤ k) : callB need (k : Int) bs = false := by
  unfold callB
  rw [Int.toNat_natCast, List.getElem?_eq_none h]
  simp
theorem callB_few {need : List (List Bool)} {k : Nat} {bs : List Bool} (h : k < need.length) (hl : bs.length < need[k].length) : callB need (k : Int) bs = false := by
  unfold callB
  rw [Int.toNat_natCast, List.getElem?_eq_getElem h]
  simp only [decide_eq_false (show ¬ need[k].length ≤ bs.length by omega), Bool.false_and, Bool.and_false]
theorem callB_some {need : List (List Bool)} {k : Nat} {bs : List Bool} (h : k < need.length) (hl : need[k].length ≤ bs.length) : callB need (k : Int) bs = ((need[k].zip bs).any fun p => p.1 && p.2) := by
  unfold callB
  rw [Int.toNat_natCast, List.getElem?_eq_getElem h]
  simp only [decide_eq_true hl, Bool.true_and, decide_eq_true (show (0 : Int) ≤ (k : Int) by omega)]
end Go.Proofs.Ytjdlfpdljmohiaa
/-
  EXPRESSIONS OF A VALID SHAPE, with any of the variables and functions that there can be: their parts, and the way down nested applications.
-/
namespace Go.Proofs.Ytjdlfpdljmohiaa
set_option linter.unusedVariables false
set_option linter.unusedSimpArgs false
open Go.RowKit

/-- of a valid shape -/
def ShE (t : Tr) : Prop := ∃ d, shB 4 6 d t = true
theorem ShE.of_sh {t : Tr} {vars defs : Int} {d : Nat} (h : shB vars defs d t = true) (hv : vars ≤ 4) (hd : defs ≤ 6) : ShE t := ⟨d, shB_mono hv hd d t h⟩
theorem ShE.of_valid {t : Tr} {vars defs : Int} (h : validB t vars defs = true) : ShE t := by
  unfold validB at h
  simp only [Bool.and_eq_true, decide_eq_true_eq] at h
  exact ShE.of_sh h.2.1 h.1.2.1 h.1.2.2.2
theorem ShE.kid {t : Tr} (h : ShE t) {k : Tr} (hk : k ∈ t.kids) : ShE k := by
  obtain ⟨d, h⟩ := h
  cases d with
  | zero => simp [shB] at h
  | succ d =>
    unfold shB at h
    simp only [Bool.and_eq_true, List.all_eq_true] at h
    exact ⟨d, h.2 k hk⟩
theorem ShE.ar {t : Tr} (h : ShE t) : (t.kids.length : Int) = arity t.op := by
  obtain ⟨d, h⟩ := h
  cases d with
  | zero => simp [shB] at h
  | succ d =>
    unfold shB at h
    simp only [Bool.and_eq_true, decide_eq_true_eq] at h
    exact h.1.1
theorem ShE.num {t : Tr} (h : ShE t) (ho : t.op = 3) : 0 ≤ t.num ∧ t.num < 6 := by
  obtain ⟨d, h⟩ := h
  cases d with
  | zero => simp [shB] at h
  | succ d =>
    unfold shB at h
    simp only [Bool.and_eq_true] at h
    have h2 := h.1.2
    unfold ownB at h2
    rw [if_neg (by omega), if_neg (by omega), if_pos ho] at h2
    simpa using h2
/-- which kinds there are, and how many operands -/
theorem ShE.cases {t : Tr} (h : ShE t) : ((t.op = 1 ∨ t.op = 2 ∨ t.op = 3) ∧ t.kids = []) ∨ ((t.op = 6 ∨ t.op = 7) ∧ ∃ a, t.kids = [a]) ∨ ((t.op = 4 ∨ t.op = 5 ∨ t.op = 8 ∨ t.op = 9) ∧ ∃ a b, t.kids = [a, b]) ∨ (t.op = 10 ∧ ∃ a b c, t.kids = [a, b, c]) := by
  have ha := h.ar
  unfold arity at ha
  split at ha
  · rename_i ho
    exact Or.inl ⟨ho, List.eq_nil_of_length_eq_zero (by omega)⟩
  split at ha
  · rename_i ho
    refine Or.inr (Or.inl ⟨ho, ?_⟩)
    match hk : t.kids, ha with
    | [a], _ => exact ⟨a, rfl⟩
  split at ha
  · rename_i ho
    refine Or.inr (Or.inr (Or.inl ⟨ho, ?_⟩))
    match hk : t.kids, ha with
    | [a, b], _ => exact ⟨a, b, rfl⟩
  split at ha
  · rename_i ho
    refine Or.inr (Or.inr (Or.inr ⟨ho, ?_⟩))
    match hk : t.kids, ha with
    | [a, b, c], _ => exact ⟨a, b, c, rfl⟩
  · omega
theorem Unw.shE {w : World} {a t : Tr} {c ct : Value} {l : List Cd} (h : Unw w a c t ct l) (ha : ShE a) : ShE t ∧ ∀ d ∈ l, ShE d.1 := by
  induction h with
  | here => exact ⟨ha, by simp⟩
  | down h ho hk _ _ _ _ _ ih =>
    refine ⟨ih.1.kid (by rw [hk]; simp), fun d hd => ?_⟩
    simp only [List.mem_append, List.mem_singleton] at hd
    rcases hd with hd | rfl
    · exact ih.2 d hd
    · exact ih.1.kid (by rw [hk]; simp)
/-- below nested applications everything is smaller -/
theorem Unw.small {w : World} {a t : Tr} {c ct : Value} {l : List Cd} (h : Unw w a c t ct l) : (t = a ∧ l = []) ∨ (szT t < szT a ∧ ∀ d ∈ l, szT d.1 < szT a) := by
  induction h with
  | here => exact Or.inl ⟨rfl, rfl⟩
  | @down t f x ct cf u v r l bl off cap h ho hk _ _ _ _ _ ih =>
    have e1 : szT t = szL [f, x] := by rw [szT_eq, hk]
    simp only [szL] at e1
    refine Or.inr ⟨?_, fun d hd => ?_⟩
    · rcases ih with ⟨rfl, -⟩ | ⟨h1, -⟩ <;> omega
    · simp only [List.mem_append, List.mem_singleton] at hd
      rcases hd with hd | rfl
      · rcases ih with ⟨-, rfl⟩ | ⟨-, h2⟩
        · simp at hd
        · exact h2 d hd
      · show szT x < szT a
        rcases ih with ⟨rfl, -⟩ | ⟨h1, -⟩ <;> omega
end Go.Proofs.Ytjdlfpdljmohiaa
/-
  THE LAWS' OWN COPY OF AN ARGUMENT (toExpr, toExprS): the same trees, in new memory; nothing that was there is changed.
-/
namespace Go.Proofs.Ytjdlfpdljmohiaa
set_option linter.unusedVariables false
set_option linter.unusedSimpArgs false
open Go.RowKit

/-- blocks from lo on, below hi -/
def Btw (lo hi : Nat) : Nat → Prop := fun k => lo ≤ k ∧ k < hi
theorem KidsOn.btw_in {w : World} {lo : Nat} {ks : List Tr} {c : Value} (h : KidsOn w (Btw lo w.heap.size) ks c) : In w ks c :=
  h.mono (fun _ hk => hk.2) (fun _ _ => rfl)
theorem KidsOn.btw_next {w w' : World} {lo : Nat} {ks : List Tr} {c : Value} (h : KidsOn w (Btw lo w.heap.size) ks c) (hb : Below w.heap.size w w') : KidsOn w' (Btw lo w'.heap.size) ks c :=
  h.mono (fun _ hk => ⟨hk.1, Nat.lt_of_lt_of_le hk.2 hb.size⟩) (fun k hk => hb.block k hk.2)

/-- a call has handed back these trees in new memory -/
def NewKids (ks : List Tr) (w : World) (e : Ending) (w' : World) : Prop := ∃ v, e = .returned v ∧ KidsOn w' (Btw w.heap.size w'.heap.size) ks v ∧ Below w.heap.size w w'
/-- .. one tree -/
def NewTr (o n : Int) (ks : List Tr) (w : World) (e : Ending) (w' : World) : Prop := ∃ v, e = .returned (.agg #[.int .i64 o, .int .i64 n, v]) ∧ KidsOn w' (Btw w.heap.size w'.heap.size) ks v ∧ Below w.heap.size w w'

theorem infoE : (Try.prog.info? 30).map (fun i => (i.zero, i.size, i.bytes)) = some (some (.agg #[.int .i64 0, .int .i64 0, .slice none 0 0]), 3, 40) := by kernel_rfl

/-- make, of so many expressions: a new row of cells -/
theorem make_exprs (n : Nat) (h : n ≤ 1048576) : ∃ C : Array Value, C.size = n * 3 ∧ ∀ w : World, (Instr.makeSlice 28 (.int .i64 (n : Int)) (.int .i64 (n : Int))).run Try.prog w = .ok (.slice (some ⟨w.heap.size, 0, none⟩) n n) (w.alloc (.cells C 30)) := by
  obtain ⟨i, hi, hzz⟩ := Option.map_eq_some_iff.1 infoE
  simp only [Prod.mk.injEq] at hzz
  obtain ⟨hz, hs, hb⟩ := hzz
  refine ⟨madeCells (Value.agg #[.int .i64 0, .int .i64 0, .slice none 0 0]).cells (n * 3), size_madeCells _ _, fun w => ?_⟩
  have hr := run_make (P := Try.prog) w 28 30 i _ Try.underlying28 hi hz .i64 .i64 n n (by omega) (Int.le_refl _) (by rw [hb]; omega) (by omega)
  simp only [Int.toNat_natCast, hs] at hr
  exact hr

/-- what holds of the copy of a list behind k rounds -/
def ToRel (ks : List Tr) (w : World) (k : Nat) (wr : World) : Prop :=
  ∃ f : Nat → Value, wr.rowIs w.heap.size 30 (ks.length * 3) f ∧ (∀ j (_ : j < k) (hj : j < ks.length), TrOn wr (Btw (w.heap.size + 1) wr.heap.size) ks[j] (f (j * 3)) (f (j * 3 + 1)) (f (j * 3 + 2))) ∧ Below w.heap.size w wr

theorem toRel_start (ks : List Tr) (w : World) (C : Array Value) (h : C.size = ks.length * 3) : ToRel ks w 0 (w.alloc (.cells C 30)) := by
  refine ⟨fun i => C.getD i undef, ⟨C, Deep.blk_alloc_new _ _, h, fun i hi => ?_⟩, fun j hj => absurd hj (by omega), (Below.refl _ _).alloc (Nat.le_refl _) _⟩
  simp [Array.getElem?_eq_getElem (h ▸ hi : i < C.size), Array.getD, (h ▸ hi : i < C.size)]

theorem toRel_step (ks : List Tr) (w wr w1 : World) (k : Nat) (hk : k < ks.length) (h : ToRel ks w k wr) (v : Value) (hb : Below wr.heap.size wr w1) (hv : KidsOn w1 (Btw wr.heap.size w1.heap.size) (ks[k]).kids v) (ho : I64 (ks[k]).op) (hn : I64 (ks[k]).num) :
    ToRel ks w (k + 1) (((w1.setCell ⟨w.heap.size, k * 3, none⟩ (.int .i64 (ks[k]).op)).setCell ⟨w.heap.size, k * 3 + 1, none⟩ (.int .i64 (ks[k]).num)).setCell ⟨w.heap.size, k * 3 + 2, none⟩ v) := by
  obtain ⟨f, hr, ht, hbw⟩ := h
  have hlt := hr.lt
  have hr1 : w1.rowIs w.heap.size 30 (ks.length * 3) f := hr.of_block (hb.block _ hlt)
  have hsz := hb.size
  have keep : ∀ (t : Tr) (a b c : Value), TrOn w1 (Btw (w.heap.size + 1) w1.heap.size) t a b c → TrOn (((w1.setCell ⟨w.heap.size, k * 3, none⟩ (.int .i64 (ks[k]).op)).setCell ⟨w.heap.size, k * 3 + 1, none⟩ (.int .i64 (ks[k]).num)).setCell ⟨w.heap.size, k * 3 + 2, none⟩ v) (Btw (w.heap.size + 1) w1.heap.size) t a b c :=
    fun t a b c g => ((g.setCell (by simp [Btw] <;> omega) _).setCell (by simp [Btw] <;> omega) _).setCell (by simp [Btw] <;> omega) _
  have hs3 : k * 3 + 2 < ks.length * 3 := by omega
  refine ⟨_, ((hr1.set (k * 3) _).set (k * 3 + 1) _).set (k * 3 + 2) _, fun j hj hjl => ?_, ?_⟩
  · simp only [size_setCell]
    by_cases hjk : j = k
    · subst hjk
      have : TrOn w1 (Btw (w.heap.size + 1) w1.heap.size) ks[j] (.int .i64 (ks[j]).op) (.int .i64 (ks[j]).num) v := trOn_iff.2 ⟨rfl, rfl, ho, hn, hv.mono (fun k hk => ⟨by have := hk.1; omega, hk.2⟩) (fun _ _ => rfl)⟩
      simpa using keep _ _ _ _ this
    · have h0 := ht j (by omega) hjl
      have h1 : TrOn w1 (Btw (w.heap.size + 1) w1.heap.size) ks[j] (f (j * 3)) (f (j * 3 + 1)) (f (j * 3 + 2)) := h0.mono (fun k hk => ⟨hk.1, by have := hk.2; omega⟩) (fun k hk => hb.block k hk.2)
      have h2 := keep _ _ _ _ h1
      have e1 : ∀ m, m < 3 → j * 3 + m ≠ k * 3 + 2 ∧ j * 3 + m ≠ k * 3 + 1 ∧ j * 3 + m ≠ k * 3 := fun m hm => by omega
      have a0 := e1 0 (by omega)
      have a1 := e1 1 (by omega)
      have a2 := e1 2 (by omega)
      simp only [Nat.add_zero] at a0
      simpa [a0, a1, a2] using h2
  · exact (((hbw.trans (hb.mono (Nat.le_of_lt hlt))).setCell (by simp) _).setCell (by simp) _).setCell (by simp) _

theorem toRel_end (ks : List Tr) (w wr : World) (h : ToRel ks w ks.length wr) (hl : ks.length ≤ 1048576) : NewKids ks w (.returned (.slice (some ⟨w.heap.size, 0, none⟩) ks.length ks.length)) wr := by
  obtain ⟨f, hr, ht, hbw⟩ := h
  have hlt := hr.lt
  refine ⟨_, rfl, ⟨_, _, rfl, Nat.le_refl _, by unfold maxLen; omega, Or.inr ⟨_, _, rfl, ⟨Nat.le_refl _, hlt⟩, RowOn.of _ _ fun i hi => ?_⟩⟩, hbw⟩
  refine ⟨f (i * 3), f (i * 3 + 1), f (i * 3 + 2), ?_, ?_, ?_, (ht i hi hi).mono (fun k hk => ⟨by have := hk.1; omega, hk.2⟩) (fun _ _ => rfl)⟩
  · simpa using hr.cell (i := i * 3) (by omega)
  · simpa [Nat.zero_add] using hr.cell (i := i * 3 + 1) (by omega)
  · simpa [Nat.zero_add] using hr.cell (i := i * 3 + 2) (by omega)

end Go.Proofs.Ytjdlfpdljmohiaa
/-
  THE MODEL's PARSER, as plain functions on bytes.
-/
namespace Go.Proofs.Ytjdlfpdljmohiaa
set_option linter.unusedVariables false
set_option linter.unusedSimpArgs false
open Go.RowKit

/-- byte i of a text -/
def bN (s : ByteArray) (i : Nat) : Nat := if h : i < s.size then (s[i]'h).toNat else 0
theorem bN_at {s : ByteArray} {i : Nat} (h : i < s.size) : (s[i]'h).toNat = bN s i := by unfold bN; rw [dif_pos h]
theorem bN_lt (s : ByteArray) (i : Nat) : bN s i < 256 := by
  unfold bN
  split
  · exact UInt8.toNat_lt _
  · omega
/-- does a byte stand at a place? -/
def isAtB (s : ByteArray) (at' : Int) (c : Nat) : Bool := decide (0 ≤ at') && (decide (at' < s.size) && decide (bN s at'.toNat = c))
/-- a number's digits, at most so many: the number, and the place behind them -/
def numE (s : ByteArray) : Nat → Nat → Nat → Nat × Nat
  | 0, e, n => (n, e)
  | k + 1, e, n => if e < s.size ∧ 48 ≤ bN s e ∧ bN s e ≤ 57 then numE s k (e + 1) (n * 10 + (bN s e - 48)) else (n, e)
abbrev nilT : Tr := .node 0 0 []
/-- operands, each in front of a byte -/
def restT (p : Int → Tr × Int) (s : ByteArray) : List Nat → Int → List Tr → List Tr × Int
  | [], at', out => (out, at')
  | c :: cs, at', out => if isAtB s (p at').2 c = true then restT p s cs ((p at').2 + 1) (out ++ [(p at').1]) else ([], -1)
/-- which operation a byte says -/
def opAtT (s : ByteArray) (at' : Int) : Int := if isAtB s at' 32 = true then 4 else if isAtB s at' 43 = true then 8 else if isAtB s at' 45 = true then 9 else 0
/-- two operands in brackets -/
def binT (p : Int → Tr × Int) (s : ByteArray) (at' : Int) : Tr × Int :=
  if opAtT s (p at').2 = 0 then (nilT, -1)
  else if isAtB s (p ((p at').2 + 1)).2 41 = true then (.node (opAtT s (p at').2) 0 [(p at').1, (p ((p at').2 + 1)).1], (p ((p at').2 + 1)).2 + 1)
  else (nilT, -1)
/-- an expression at a place: the tree, and the place behind it, or -1 -/
def parseT (s : ByteArray) : Nat → Int → Tr × Int
  | 0, _ => (nilT, -1)
  | d + 1, at' =>
    if at' < 0 ∨ (s.size : Int) ≤ at' then (nilT, -1)
    else if 97 ≤ bN s at'.toNat ∧ bN s at'.toNat ≤ 122 then (.node 1 ((bN s at'.toNat : Int) - 97) [], at' + 1)
    else if 65 ≤ bN s at'.toNat ∧ bN s at'.toNat ≤ 90 then (.node 3 ((bN s at'.toNat : Int) - 65) [], at' + 1)
    else if 48 ≤ bN s at'.toNat ∧ bN s at'.toNat ≤ 57 then (.node 2 (numE s 4 at'.toNat 0).1 [], (numE s 4 at'.toNat 0).2)
    else if bN s at'.toNat = 126 then (.node 6 0 [(parseT s d (at' + 1)).1], (parseT s d (at' + 1)).2)
    else if bN s at'.toNat = 94 then (.node 7 0 [(parseT s d (at' + 1)).1], (parseT s d (at' + 1)).2)
    else if bN s at'.toNat = 60 then (.node 5 0 (restT (parseT s d) s [44, 62] (at' + 1) []).1, (restT (parseT s d) s [44, 62] (at' + 1) []).2)
    else if bN s at'.toNat = 91 then (.node 10 0 (restT (parseT s d) s [63, 58, 93] (at' + 1) []).1, (restT (parseT s d) s [63, 58, 93] (at' + 1) []).2)
    else if bN s at'.toNat = 40 then binT (parseT s d) s (at' + 1)
    else (nilT, -1)

/-- the place is none or in the text, the node's numbers are small -/
def PRng (s : ByteArray) (r : Tr × Int) : Prop := (-1 ≤ r.2 ∧ r.2 ≤ s.size) ∧ (0 ≤ r.1.op ∧ r.1.op ≤ 10) ∧ (0 ≤ r.1.num ∧ r.1.num ≤ 9999999)
theorem isAtB_rng {s : ByteArray} {a : Int} {c : Nat} (h : isAtB s a c = true) : 0 ≤ a ∧ a < s.size := by
  unfold isAtB at h
  simp only [Bool.and_eq_true, decide_eq_true_eq] at h
  exact ⟨h.1, h.2.1⟩
theorem numE_rng (s : ByteArray) : ∀ (k e n : Nat), e ≤ s.size → (numE s k e n).2 ≤ s.size ∧ e ≤ (numE s k e n).2 ∧ (numE s k e n).1 ≤ n * 10 ^ k + 10 ^ k
  | 0, e, n, h => by simp [numE, h]
  | k + 1, e, n, h => by
    unfold numE
    have hb := bN_lt s e
    split
    · rename_i hc
      have := numE_rng s k (e + 1) (n * 10 + (bN s e - 48)) (by omega)
      refine ⟨this.1, by omega, Nat.le_trans this.2.2 ?_⟩
      have h9 : bN s e - 48 ≤ 9 := by omega
      have e1 : (n * 10 + (bN s e - 48)) * 10 ^ k ≤ (n * 10 + 9) * 10 ^ k := Nat.mul_le_mul_right _ (by omega)
      rw [Nat.pow_succ]
      have e2 : (n * 10 + 9) * 10 ^ k = n * (10 ^ k * 10) + 9 * 10 ^ k := by rw [Nat.add_mul, Nat.mul_assoc, Nat.mul_comm 10]
      omega
    · refine ⟨h, Nat.le_refl _, ?_⟩
      have : n ≤ n * 10 ^ (k + 1) := Nat.le_mul_of_pos_right _ (Nat.pow_pos (by omega))
      exact Nat.le_trans this (Nat.le_add_right _ _)
theorem restT_rng (p : Int → Tr × Int) (s : ByteArray) (hp : ∀ a, PRng s (p a)) : ∀ (cs : List Nat) (a : Int) (out : List Tr), -1 ≤ a → a ≤ s.size → -1 ≤ (restT p s cs a out).2 ∧ (restT p s cs a out).2 ≤ s.size
  | [], a, out, h1, h2 => by simp [restT, h1, h2]
  | c :: cs, a, out, h1, h2 => by
    unfold restT
    split
    · rename_i hc
      have := isAtB_rng hc
      exact restT_rng p s hp cs _ _ (by omega) (by omega)
    · simp
theorem opAtT_rng (s : ByteArray) (a : Int) : 0 ≤ opAtT s a ∧ opAtT s a ≤ 9 := by
  unfold opAtT
  split
  · omega
  split
  · omega
  split <;> omega
theorem binT_rng (p : Int → Tr × Int) (s : ByteArray) (hp : ∀ a, PRng s (p a)) (a : Int) : PRng s (binT p s a) := by
  have h9 := opAtT_rng s (p a).2
  unfold binT
  split
  · simp [PRng] <;> omega
  split
  · rename_i hc
    have := isAtB_rng hc
    refine ⟨⟨?_, ?_⟩, ⟨?_, ?_⟩, ?_⟩ <;> simp <;> omega
  · simp [PRng] <;> omega
theorem parseT_rng (s : ByteArray) : ∀ (d : Nat) (a : Int), PRng s (parseT s d a)
  | 0, a => by simp [PRng, parseT]
  | d + 1, a => by
    have ih := parseT_rng s d
    have hb := bN_lt s a.toNat
    unfold parseT
    split
    · simp [PRng] <;> omega
    rename_i h0
    split
    · simp [PRng] <;> omega
    split
    · simp [PRng] <;> omega
    split
    · have h4 := numE_rng s 4 a.toNat 0 (by omega)
      simp [PRng] <;> omega
    split
    · have := ih (a + 1); simp [PRng] at this ⊢; omega
    split
    · have := ih (a + 1); simp [PRng] at this ⊢; omega
    split
    · have := restT_rng (parseT s d) s ih [44, 62] (a + 1) [] (by omega) (by omega); simp [PRng] <;> omega
    split
    · have := restT_rng (parseT s d) s ih [63, 58, 93] (a + 1) [] (by omega) (by omega); simp [PRng] <;> omega
    split
    · exact binT_rng _ s ih _
    · simp [PRng] <;> omega
end Go.Proofs.Ytjdlfpdljmohiaa
/-
  THE MODEL's l1At AND l1Number.
-/
namespace Go.Proofs.Ytjdlfpdljmohiaa
set_option linter.unusedVariables false
set_option linter.unusedSimpArgs false
open Go.RowKit

set_option maxRecDepth 100000 in
set_option maxHeartbeats 400000 in
theorem l1At_calls (s : ByteArray) (a : Int) (c : Nat) (w : World) (hc : c < 256) :
    Calls Try.prog 109 #[.string s, .int .i64 a, .int .u8 (c : Int)] w fun e w' => e = .returned (.bool (isAtB s a c)) ∧ w = w' := by
  by_cases h0 : 0 ≤ a
  · by_cases h1 : a < s.size
    · obtain ⟨k, rfl⟩ : ∃ k : Nat, a = (k : Int) := ⟨a.toNat, by omega⟩
      have hk : k < s.size := by omega
      have hb := bN_at hk
      have HV : Hid (isAtB s (k : Int) c = (((bN s k : Nat) : Int) == (c : Int))) := by
        unfold Hid isAtB
        rw [decide_eq_true h0, decide_eq_true h1, Int.toNat_natCast, Bool.true_and, Bool.true_and]
        rw [Bool.eq_iff_iff]
        simp
        omega
      rw [HV.out]
      generalize bN s k = b at hb ⊢
      go_enter Try.func109, Try.ntmps109
      go_wp2_with fail
      go_ret
      exact ⟨rfl, rfl⟩
    · have HV : Hid (isAtB s a c = false) := by unfold Hid isAtB; rw [decide_eq_false h1]; simp
      rw [HV.out]
      go_enter Try.func109, Try.ntmps109
      go_wp2_with fail
      go_ret
      exact ⟨rfl, rfl⟩
  · have HV : Hid (isAtB s a c = false) := by unfold Hid isAtB; rw [decide_eq_false h0]; rfl
    rw [HV.out]
    go_enter Try.func109, Try.ntmps109
    go_wp2_with fail
    go_ret
    exact ⟨rfl, rfl⟩

/-- how large a number can be while so many digits are to come -/
def nbT : Nat → Nat
  | 4 => 0
  | 3 => 9
  | 2 => 99
  | 1 => 999
  | _ => 9999
theorem nbT_le (k : Nat) : nbT k ≤ 9999 := by unfold nbT; split <;> omega
theorem nbT_step {k n b : Nat} (hk : k + 1 ≤ 4) (h : n ≤ nbT (k + 1)) (hb : b ≤ 9) : n * 10 + b ≤ nbT k := by
  rcases (by omega : k = 0 ∨ k = 1 ∨ k = 2 ∨ k = 3) with rfl | rfl | rfl | rfl <;> simp only [nbT] at h ⊢ <;> omega
theorem ret_num {r : Nat × Nat} {n e : Nat} (h : r = (n, e)) : Ending.returned (.tuple #[.agg #[.int .i64 2, .int .i64 (n : Int), .slice none 0 0], .int .i64 (e : Int)]) = .returned (.tuple #[.agg #[.int .i64 2, .int .i64 (r.1 : Int), .slice none 0 0], .int .i64 (r.2 : Int)]) := by rw [h]
set_option maxRecDepth 100000 in
set_option maxHeartbeats 1600000 in
theorem l1Number_calls (s : ByteArray) (a : Nat) (w : World) (ha : a ≤ s.size) (hs : s.size ≤ 1099511627776) :
    Calls Try.prog 106 #[.string s, .int .i64 (a : Int)] w fun e w' => e = .returned (.tuple #[.agg #[.int .i64 2, .int .i64 ((numE s 4 a 0).1 : Int), .slice none 0 0], .int .i64 ((numE s 4 a 0).2 : Int)]) ∧ Below w.heap.size w w' := by
  obtain ⟨r, hr⟩ : ∃ r, r = numE s 4 a 0 := ⟨_, rfl⟩
  rw [← hr]
  have HR := mkHid hr
  clear hr
  go_enter Try.func106, Try.ntmps106
  go_wp2_with fail
  go_loopw [6, 7] (fun nv ev wr => ∃ (k e n : Nat), k ≤ 4 ∧ nv = .int .i64 (n : Int) ∧ ev = .int .i64 (e : Int) ∧ e + k = a + 4 ∧ e ≤ s.size ∧ n ≤ nbT k ∧ Hid (r = numE s k e n) ∧ wr = w.alloc (.cells #[.int .i64 0, .int .i64 0, .slice none 0 0] 30)) (fun _ ev _ => a + 4 - (intOf ev).toNat)
  case atStart => exact ⟨4, a, 0, by omega, rfl, rfl, by omega, ha, by simp, HR.out, rfl⟩
  case round =>
    obtain ⟨k, e, n, hk, rfl, rfl, hek, hes, hn, HRR, rfl⟩ := hrel
    have HBX : Hid (Below w.heap.size w (w.alloc (.cells #[.int .i64 0, .int .i64 0, .slice none 0 0] 30))) := box_below _ _
    have hn9 : n ≤ 9999 := Nat.le_trans hn (nbT_le k)
    cases k with
    | zero =>
      have HST : Hid (r = (n, e)) := HRR
      have hea : (a : Int) + 4 ≤ (e : Int) := by omega
      clear hek hn
      by_cases hes2 : e < s.size
      · skip
        have hbk : (w.alloc (.cells #[.int .i64 2, .int .i64 (n : Int), .slice none 0 0] 30)).heap[w.heap.size]? = some (.cells #[.int .i64 2, .int .i64 (n : Int), .slice none 0 0] 30) := Deep.blk_alloc_new _ _
        have y0 := cell_of_blk hbk 0 _ rfl
        have y1 := cell_of_blk hbk 1 _ rfl
        have y2 := cell_of_blk hbk 2 _ rfl
        have yf := fun i => frz_of_blk hbk i
        go_wp2_with fail
        exact bodyPost_ret (v := .tuple #[.agg #[.int .i64 2, .int .i64 (n : Int), .slice none 0 0], .int .i64 (e : Int)]) (by simp [results, Try.results106, go_sem, y0, y1, y2, yf]) rfl ⟨ret_num HST.out, box_below _ _⟩
      · skip
        have hbk : (w.alloc (.cells #[.int .i64 2, .int .i64 (n : Int), .slice none 0 0] 30)).heap[w.heap.size]? = some (.cells #[.int .i64 2, .int .i64 (n : Int), .slice none 0 0] 30) := Deep.blk_alloc_new _ _
        have y0 := cell_of_blk hbk 0 _ rfl
        have y1 := cell_of_blk hbk 1 _ rfl
        have y2 := cell_of_blk hbk 2 _ rfl
        have yf := fun i => frz_of_blk hbk i
        go_wp2_with fail
        exact bodyPost_ret (v := .tuple #[.agg #[.int .i64 2, .int .i64 (n : Int), .slice none 0 0], .int .i64 (e : Int)]) (by simp [results, Try.results106, go_sem, y0, y1, y2, yf]) rfl ⟨ret_num HST.out, box_below _ _⟩
    | succ k =>
      have hea : (e : Int) < (a : Int) + 4 := by omega
      by_cases hes2 : e < s.size
      case neg =>
        have HST : Hid (r = (n, e)) := by rw [Hid, HRR.out, numE, if_neg (by omega)]
        clear hek hn
        have hbk : (w.alloc (.cells #[.int .i64 2, .int .i64 (n : Int), .slice none 0 0] 30)).heap[w.heap.size]? = some (.cells #[.int .i64 2, .int .i64 (n : Int), .slice none 0 0] 30) := Deep.blk_alloc_new _ _
        have y0 := cell_of_blk hbk 0 _ rfl
        have y1 := cell_of_blk hbk 1 _ rfl
        have y2 := cell_of_blk hbk 2 _ rfl
        have yf := fun i => frz_of_blk hbk i
        go_wp2_with fail
        exact bodyPost_ret (v := .tuple #[.agg #[.int .i64 2, .int .i64 (n : Int), .slice none 0 0], .int .i64 (e : Int)]) (by simp [results, Try.results106, go_sem, y0, y1, y2, yf]) rfl ⟨ret_num HST.out, box_below _ _⟩
      have hb := bN_at hes2
      by_cases h48 : 48 ≤ bN s e
      case neg =>
        have HST : Hid (r = (n, e)) := by rw [Hid, HRR.out, numE, if_neg (by omega)]
        generalize bN s e = b at hb h48
        clear hek hn
        have hbk : (w.alloc (.cells #[.int .i64 2, .int .i64 (n : Int), .slice none 0 0] 30)).heap[w.heap.size]? = some (.cells #[.int .i64 2, .int .i64 (n : Int), .slice none 0 0] 30) := Deep.blk_alloc_new _ _
        have y0 := cell_of_blk hbk 0 _ rfl
        have y1 := cell_of_blk hbk 1 _ rfl
        have y2 := cell_of_blk hbk 2 _ rfl
        have yf := fun i => frz_of_blk hbk i
        go_wp2_with fail
        exact bodyPost_ret (v := .tuple #[.agg #[.int .i64 2, .int .i64 (n : Int), .slice none 0 0], .int .i64 (e : Int)]) (by simp [results, Try.results106, go_sem, y0, y1, y2, yf]) rfl ⟨ret_num HST.out, box_below _ _⟩
      by_cases h57 : bN s e ≤ 57
      case neg =>
        have HST : Hid (r = (n, e)) := by rw [Hid, HRR.out, numE, if_neg (by omega)]
        generalize bN s e = b at hb h48 h57
        clear hek hn
        have hbk : (w.alloc (.cells #[.int .i64 2, .int .i64 (n : Int), .slice none 0 0] 30)).heap[w.heap.size]? = some (.cells #[.int .i64 2, .int .i64 (n : Int), .slice none 0 0] 30) := Deep.blk_alloc_new _ _
        have y0 := cell_of_blk hbk 0 _ rfl
        have y1 := cell_of_blk hbk 1 _ rfl
        have y2 := cell_of_blk hbk 2 _ rfl
        have yf := fun i => frz_of_blk hbk i
        go_wp2_with fail
        exact bodyPost_ret (v := .tuple #[.agg #[.int .i64 2, .int .i64 (n : Int), .slice none 0 0], .int .i64 (e : Int)]) (by simp [results, Try.results106, go_sem, y0, y1, y2, yf]) rfl ⟨ret_num HST.out, box_below _ _⟩
      have HR2 : Hid (r = numE s k (e + 1) (n * 10 + (bN s e - 48))) := by rw [Hid, HRR.out, numE, if_pos ⟨hes2, h48, h57⟩]
      have hn2 : n * 10 + (bN s e - 48) ≤ nbT k := nbT_step hk hn (by omega)
      obtain ⟨q, hq⟩ : ∃ q, q = bN s e - 48 := ⟨_, rfl⟩
      rw [← hq] at HR2 hn2
      have hw1 : IntKind.u8.wrap ((bN s e : Int) - 48) = (q : Int) := by rw [IntWalk.u8_in _ (by omega)]; omega
      have hq9 : q ≤ 9 := by omega
      generalize bN s e = b at hb h48 h57 hw1 hq
      clear hq
      go_wp2_with fail
      go_roundw
      case rel => exact ⟨k, e + 1, n * 10 + q, by omega, by go_num, by go_num, by omega, by omega, hn2, HR2, by trivial⟩
      case measure => simp [intOf]; omega
end Go.Proofs.Ytjdlfpdljmohiaa
/-
  SMALL FACTS ON ROWS OF EXPRESSIONS' CELLS: the element type's row of the table; a new block's cells.
-/
namespace Go.Proofs.Ytjdlfpdljmohiaa
set_option linter.unusedVariables false
set_option linter.unusedSimpArgs false
open Go.RowKit

theorem news3 (w : World) (a b c : Value) (j : Nat) (u : Value) (h : [a, b, c][j]? = some u) : (w.alloc (.cells #[a, b, c] 30)).cell? ((⟨w.heap.size, 0, none⟩ : Addr).add j) = some u := by
  rw [WideShapes.add_plain, Nat.zero_add]
  exact box_cell w #[a, b, c] _ j u (by simpa using h)
theorem infoE3 : ∃ i z, Try.prog.info? 30 = some i ∧ i.zero = some z ∧ i.size = 3 ∧ i.bytes = 40 ∧ z.cells.size = 3 := by
  obtain ⟨i, hi, hzz⟩ := Option.map_eq_some_iff.1 infoE
  simp only [Prod.mk.injEq] at hzz
  obtain ⟨hz, hs, hb⟩ := hzz
  exact ⟨i, _, hi, hz, hs, hb, rfl⟩
end Go.Proofs.Ytjdlfpdljmohiaa
/-
  LISTS OF TREES THAT A CALL BUILDS BY append: the row that it owns, and the trees elsewhere; append as one step of a region that draws its order, with where the new row lies.
-/
namespace Go.Proofs.Ytjdlfpdljmohiaa
set_option linter.unusedVariables false
set_option linter.unusedSimpArgs false
open Go.RowKit

/-- a list of trees that a call has built by append: the row is its own, the trees lie elsewhere, all from lo on -/
def OwnTr (w : World) (lo : Nat) (ts : List Tr) (v : Value) : Prop :=
  ∃ xs, w.ownsRow lo 30 3 v ts.length xs ∧ ∀ j (hj : j < ts.length), ∃ a b c, xs[j * 3]? = some a ∧ xs[j * 3 + 1]? = some b ∧ xs[j * 3 + 2]? = some c ∧ TrOn w (fun k => lo ≤ k ∧ k < w.heap.size ∧ some k ≠ v.ownBlock) ts[j] a b c

theorem OwnTr.nil (w : World) (lo : Nat) : OwnTr w lo [] (.slice none 0 0) := ⟨[], World.ownsRow_nil w lo _ _, fun j hj => absurd hj (by simp)⟩

/-- it stays where all blocks from lo on stay -/
theorem OwnTr.next {w w' : World} {lo : Nat} {ts : List Tr} {v : Value} (h : OwnTr w lo ts v) (hsz : w.heap.size ≤ w'.heap.size) (hb : ∀ k, lo ≤ k → k < w.heap.size → w'.heap[k]? = w.heap[k]?) : OwnTr w' lo ts v := by
  obtain ⟨xs, h1, h2⟩ := h
  refine ⟨xs, ⟨h1.1, ?_⟩, fun j hj => ?_⟩
  · rcases h1.2 with h | ⟨g, cap, cur, rfl, hg, hh, r⟩
    · exact Or.inl h
    · exact Or.inr ⟨g, cap, cur, rfl, hg, (hb g hg (Array.getElem?_eq_some_iff.1 hh).1).trans hh, r⟩
  · obtain ⟨a, b, c, e1, e2, e3, e4⟩ := h2 j hj
    exact ⟨a, b, c, e1, e2, e3, e4.mono (fun k hk => ⟨hk.1, Nat.lt_of_lt_of_le hk.2.1 hsz, hk.2.2⟩) (fun k hk => hb k hk.1 hk.2.1)⟩

/-- one tree more -/
theorem OwnTr.step {w w' : World} {lo : Nat} {ts : List Tr} {v v' : Value} {t : Tr} {a b c : Value} (h : OwnTr w lo ts v) (xs : List Value) (hx : w.ownsRow lo 30 3 v ts.length xs) (hlo : lo ≤ w.heap.size)
    (ht : ∀ j (hj : j < ts.length), ∃ a b c, xs[j * 3]? = some a ∧ xs[j * 3 + 1]? = some b ∧ xs[j * 3 + 2]? = some c ∧ TrOn w (fun k => lo ≤ k ∧ k < w.heap.size ∧ some k ≠ v.ownBlock) ts[j] a b c)
    (hn : TrOn w (fun k => lo ≤ k ∧ k < w.heap.size ∧ some k ≠ v.ownBlock) t a b c)
    (hown : w'.ownsRow lo 30 3 v' (ts.length + 1) (xs ++ [a, b, c])) (hg : w.grownBy w' v.ownBlock) (hw : v'.ownBlock = v.ownBlock ∨ ∃ g, v'.ownBlock = some g ∧ w.heap.size ≤ g) : OwnTr w' lo (ts ++ [t]) v' := by
  have hlen := hx.1
  have keep : ∀ (s : Tr) (x y z : Value), TrOn w (fun k => lo ≤ k ∧ k < w.heap.size ∧ some k ≠ v.ownBlock) s x y z → TrOn w' (fun k => lo ≤ k ∧ k < w'.heap.size ∧ some k ≠ v'.ownBlock) s x y z := by
    intro s x y z hs
    refine hs.mono (fun k hk => ⟨hk.1, Nat.lt_of_lt_of_le hk.2.1 hg.size, ?_⟩) (fun k hk => hg.block k hk.2.1 hk.2.2)
    rcases hw with hw | ⟨g, hw, hge⟩
    · rw [hw]; exact hk.2.2
    · rw [hw]; intro e; simp only [Option.some.injEq] at e; have := hk.2.1; omega
  refine ⟨xs ++ [a, b, c], by simpa using hown, fun j hj => ?_⟩
  by_cases hjl : j < ts.length
  · obtain ⟨x, y, z, e1, e2, e3, e4⟩ := ht j hjl
    have l1 : j * 3 + 2 < xs.length := by omega
    refine ⟨x, y, z, ?_, ?_, ?_, ?_⟩
    · rw [List.getElem?_append_left (by omega)]; exact e1
    · rw [List.getElem?_append_left (by omega)]; exact e2
    · rw [List.getElem?_append_left (by omega)]; exact e3
    · rw [List.getElem_append_left hjl]; exact keep _ _ _ _ e4
  · have hj' : j = ts.length := by simp at hj; omega
    subst hj'
    refine ⟨a, b, c, ?_, ?_, ?_, ?_⟩
    · rw [List.getElem?_append_right (by omega)]; simp [hlen]
    · rw [List.getElem?_append_right (by omega)]; simp [hlen]
    · rw [List.getElem?_append_right (by omega)]; simp [hlen]
    · simpa using keep _ _ _ _ hn

/-- the list, as trees in memory -/
theorem OwnTr.kids {w : World} {lo : Nat} {ts : List Tr} {v : Value} (h : OwnTr w lo ts v) : KidsOn w (Btw lo w.heap.size) ts v := by
  obtain ⟨xs, h1, h2⟩ := h
  rcases h1.2 with ⟨rfl, h0⟩ | ⟨g, cap, cur, rfl, hg, hh, hn, hc, hs, htk⟩
  · obtain rfl : ts = [] := List.eq_nil_of_length_eq_zero h0
    exact ⟨none, 0, rfl, Nat.le_refl _, by simp [maxLen], Or.inl rfl⟩
  · refine ⟨_, cap, rfl, hn, hc, Or.inr ⟨g, 0, rfl, ⟨hg, (Array.getElem?_eq_some_iff.1 hh).1⟩, RowOn.of _ _ fun i hi => ?_⟩⟩
    obtain ⟨a, b, c, e1, e2, e3, e4⟩ := h2 i hi
    refine ⟨a, b, c, ?_, ?_, ?_, e4.mono (fun k hk => ⟨hk.1, hk.2.1⟩) (fun _ _ => rfl)⟩
    · rw [Nat.zero_add, h1.cellAt (i * 3) (by omega)]; exact e1
    · rw [Nat.zero_add, h1.cellAt (i * 3 + 1) (by omega)]; exact e2
    · rw [Nat.zero_add, h1.cellAt (i * 3 + 2) (by omega)]; exact e3
end Go.Proofs.Ytjdlfpdljmohiaa
/-
  AN APPEND TO A ROW OF ONE's OWN, AND WHERE THE NEW ROW LIES: elements of any size.
-/
namespace Go.Proofs.Ytjdlfpdljmohiaa
set_option linter.unusedVariables false
set_option linter.unusedSimpArgs false
open Go.RowKit

theorem wpList_append_at {ops : Array Oper} {rest : List Oper} {o : Oper} {a : Act} {Q : Exit → Act → World → Prop} (hgd : o.guard = none) (s x : Operand) (t : TypeId)
    (ho : o.op = .call { callee := .builtin .append, args := #[s, x], argTypes := #[t, t] }) (w : World)
    (base : Nat) (e : TypeId) (i : TypeInfo) (z : Value) (size bytes : Nat) (ht : Try.prog.underlying t = some (.slice e)) (hi : Try.prog.info? e = some i) (hz : i.zero = some z)
    (hsize : i.size = size) (hby : i.bytes = bytes) (hzs : z.cells.size = size) (hsz : 0 < size)
    (v : Value) (n : Nat) (xs : List Value) (hs : a.eval s = v) (hown : w.ownsRow base e size v n xs)
    (ad : Addr) (m c : Nat) (news : List Value) (hx : a.eval x = .slice (some ad) m c) (hl : news.length = m * size) (hnews : ∀ j u, news[j]? = some u → w.cell? (ad.add j) = some u) (h1 : ∀ u ∈ news, u.oneCell' = true)
    (h63 : n + m ≤ maxLen) (hbytes : (n + m) * bytes ≤ 140737488355328) (hbase : base ≤ w.heap.size)
    (h : ∀ v' w', w'.ownsRow base e size v' (n + m) (xs ++ news) → w.grownBy w' v.ownBlock → (v' = .slice none 0 0 ↔ v = .slice none 0 0 ∧ m = 0) → (v'.ownBlock = v.ownBlock ∨ v'.ownBlock = some w.heap.size) → wpList Try.prog ops Q rest (a.put o.dst v') w') : wpList Try.prog ops Q (o :: rest) a w := by
  refine wpList_plain hgd fun K hK => ?_
  obtain ⟨v', w', hrun, h2, h3, h4, h5⟩ := run_append_own_at (P := Try.prog) w base t o.type e i z size bytes ht hi hz hsize hby hzs hsz v n xs hown ad m c news hl hnews h1 h63 hbytes hbase
  unfold Oper.wp
  simp [execOp, ho, resolve, invoke, builtin, hs, hx, hrun, Result.andThen]
  exact hK _ _ (h v' w' h2 h3 h4 h5)
end Go.Proofs.Ytjdlfpdljmohiaa
/-
  THE MODEL's l1Rest AND l1Binary, OF WHAT l1Parse DOES.
-/
namespace Go.Proofs.Ytjdlfpdljmohiaa
set_option linter.unusedVariables false
set_option linter.unusedSimpArgs false
open Go.RowKit

/-- new plain blocks -/
def PN (lo : Nat) (w : World) : Nat → Prop := fun k => lo ≤ k ∧ k < w.heap.size ∧ ∃ C T, w.heap[k]? = some (.cells C T (0, 0))
theorem PN.go {lo lo' : Nat} {w w' : World} {k : Nat} (h : PN lo w k) (h1 : lo' ≤ lo) (h2 : w'.heap[k]? = w.heap[k]?) : PN lo' w' k := by
  obtain ⟨h3, h4, C, T, h5⟩ := h
  have h6 := h2.trans h5
  exact ⟨Nat.le_trans h1 h3, (Array.getElem?_eq_some_iff.1 h6).1, C, T, h6⟩
/-- a list of trees that a call builds by append: the row is its own, the trees lie in plain blocks elsewhere -/
def OwnTp (w : World) (lo : Nat) (ts : List Tr) (v : Value) : Prop :=
  ∃ xs, w.ownsRow lo 30 3 v ts.length xs ∧ ∀ j (hj : j < ts.length), ∃ a b c, xs[j * 3]? = some a ∧ xs[j * 3 + 1]? = some b ∧ xs[j * 3 + 2]? = some c ∧ TrOn w (fun k => PN lo w k ∧ some k ≠ v.ownBlock) ts[j] a b c
theorem OwnTp.step {w w' : World} {lo : Nat} {ts : List Tr} {v v' : Value} {t : Tr} {a b c : Value} (xs : List Value) (hx : w.ownsRow lo 30 3 v ts.length xs)
    (ht : ∀ j (hj : j < ts.length), ∃ a b c, xs[j * 3]? = some a ∧ xs[j * 3 + 1]? = some b ∧ xs[j * 3 + 2]? = some c ∧ TrOn w (fun k => PN lo w k ∧ some k ≠ v.ownBlock) ts[j] a b c)
    (hn : TrOn w (fun k => PN lo w k ∧ some k ≠ v.ownBlock) t a b c)
    (hown : w'.ownsRow lo 30 3 v' (ts.length + 1) (xs ++ [a, b, c])) (hg : w.grownBy w' v.ownBlock) (hw : v'.ownBlock = v.ownBlock ∨ ∃ g, v'.ownBlock = some g ∧ w.heap.size ≤ g) : OwnTp w' lo (ts ++ [t]) v' := by
  have hlen := hx.1
  have keep : ∀ (s : Tr) (x y z : Value), TrOn w (fun k => PN lo w k ∧ some k ≠ v.ownBlock) s x y z → TrOn w' (fun k => PN lo w' k ∧ some k ≠ v'.ownBlock) s x y z := by
    intro s x y z hs
    refine hs.mono (fun k hk => ⟨hk.1.go (Nat.le_refl _) (hg.block k hk.1.2.1 hk.2), ?_⟩) (fun k hk => hg.block k hk.1.2.1 hk.2)
    rcases hw with hw | ⟨g, hw, hge⟩
    · rw [hw]; exact hk.2
    · rw [hw]; intro e; simp only [Option.some.injEq] at e; have := hk.1.2.1; omega
  refine ⟨xs ++ [a, b, c], by simpa using hown, fun j hj => ?_⟩
  by_cases hjl : j < ts.length
  · obtain ⟨x, y, z, e1, e2, e3, e4⟩ := ht j hjl
    have l1 : j * 3 + 2 < xs.length := by omega
    refine ⟨x, y, z, ?_, ?_, ?_, ?_⟩
    · rw [List.getElem?_append_left (by omega)]; exact e1
    · rw [List.getElem?_append_left (by omega)]; exact e2
    · rw [List.getElem?_append_left (by omega)]; exact e3
    · rw [List.getElem_append_left hjl]; exact keep _ _ _ _ e4
  · have hj' : j = ts.length := by simp at hj; omega
    subst hj'
    refine ⟨a, b, c, ?_, ?_, ?_, ?_⟩
    · rw [List.getElem?_append_right (by omega)]; simp [hlen]
    · rw [List.getElem?_append_right (by omega)]; simp [hlen]
    · rw [List.getElem?_append_right (by omega)]; simp [hlen]
    · simpa using keep _ _ _ _ hn
theorem OwnTp.kids {w : World} {lo : Nat} {ts : List Tr} {v : Value} (h : OwnTp w lo ts v) : KidsOn w (PN lo w) ts v := by
  obtain ⟨xs, h1, h2⟩ := h
  rcases h1.2 with ⟨rfl, h0⟩ | ⟨g, cap, cur, rfl, hg, hh, hn, hc, hs, htk⟩
  · obtain rfl : ts = [] := List.eq_nil_of_length_eq_zero h0
    exact ⟨none, 0, rfl, Nat.le_refl _, by simp [maxLen], Or.inl rfl⟩
  · refine ⟨_, cap, rfl, hn, hc, Or.inr ⟨g, 0, rfl, ⟨hg, (Array.getElem?_eq_some_iff.1 hh).1, _, _, hh⟩, RowOn.of _ _ fun i hi => ?_⟩⟩
    obtain ⟨a, b, c, e1, e2, e3, e4⟩ := h2 i hi
    refine ⟨a, b, c, ?_, ?_, ?_, e4.mono (fun k hk => hk.1) (fun _ _ => rfl)⟩
    · rw [Nat.zero_add, h1.cellAt (i * 3) (by omega)]; exact e1
    · rw [Nat.zero_add, h1.cellAt (i * 3 + 1) (by omega)]; exact e2
    · rw [Nat.zero_add, h1.cellAt (i * 3 + 2) (by omega)]; exact e3

/-- an expression in new memory, and a place -/
def PaRes (r : Tr × Int) (w : World) (e : Ending) (w' : World) : Prop := ∃ kv, e = .returned (.tuple #[.agg #[.int .i64 r.1.op, .int .i64 r.1.num, kv], .int .i64 r.2]) ∧ KidsOn w' (PN w.heap.size w') r.1.kids kv ∧ Below w.heap.size w w'
/-- what l1Parse does, down to some depth -/
def PaSaid (s : ByteArray) (d : Nat) : Prop := ∀ (a : Int) (w : World), -1 ≤ a → a ≤ s.size + 1 → Calls Try.prog 101 #[.string s, .int .i64 a, .int .i64 (d : Int)] w (PaRes (parseT s d a) w)
theorem PRng.i64 {s : ByteArray} {r : Tr × Int} (h : PRng s r) : I64 r.1.op ∧ I64 r.1.num := by
  obtain ⟨-, h2, h3⟩ := h
  exact ⟨⟨by omega, by omega⟩, ⟨by omega, by omega⟩⟩
theorem ret_rest {u v : Value} {a b : Int} (h : u = v) (h' : a = b) : Ending.returned (.tuple #[u, .int .i64 a]) = .returned (.tuple #[v, .int .i64 b]) := by rw [h, h']
/-- operands in new memory, and a place -/
def ReRes (r : List Tr × Int) (w : World) (e : Ending) (w' : World) : Prop := ∃ kv, e = .returned (.tuple #[kv, .int .i64 r.2]) ∧ KidsOn w' (PN w.heap.size w') r.1 kv ∧ Below w.heap.size w w'

set_option maxRecDepth 100000 in
set_option maxHeartbeats 1600000 in
theorem l1Rest_calls (s : ByteArray) (d : Nat) (hs : s.size ≤ 1099511627776) (hP : PaSaid s d) (cs : List Nat) (hcs : cs.length ≤ 3) (hc256 : ∀ c ∈ cs, c < 256) (a0 : Int) (b cap : Nat) (w : World) (h0 : -1 ≤ a0) (h1 : a0 ≤ s.size + 1)
    (hb : ∀ i (hi : i < cs.length), w.cell? ⟨b, i, none⟩ = some (.int .u8 (cs[i] : Int))) (hcap : cs.length ≤ cap) (hcm : cap ≤ maxLen) :
    Calls Try.prog 107 #[.string s, .int .i64 a0, .slice (some ⟨b, 0, none⟩) cs.length cap, .int .i64 (d : Int)] w (ReRes (restT (parseT s d) s cs a0 []) w) := by
  have HP := mkHid hP
  have HC := mkHid hb
  have H256 := mkHid hc256
  obtain ⟨r, hr⟩ : ∃ r, r = restT (parseT s d) s cs a0 [] := ⟨_, rfl⟩
  rw [← hr]
  have HR := mkHid hr
  unfold maxLen at hcm
  obtain ⟨iE, zE, hiE, hzE, hsE, hbE, hcE⟩ := infoE3
  have HE : Hid (Try.prog.info? 30 = some iE ∧ iE.zero = some zE ∧ iE.size = 3 ∧ iE.bytes = 40 ∧ zE.cells.size = 3) := ⟨hiE, hzE, hsE, hbE, hcE⟩
  clear hP hb hc256 hr hiE hzE hsE hbE hcE
  go_enter Try.func107, Try.ntmps107
  go_wp2_with fail
  go_loopw [1, 10, 11] (fun av ov iv wr => ∃ (k : Nat) (a : Int) (out : List Tr), k ≤ cs.length ∧ iv = .int .i64 k ∧ av = .int .i64 a ∧ (-1 ≤ a ∧ a ≤ s.size + 1) ∧ OwnTp wr w.heap.size out ov ∧ out.length = k ∧ Hid (r = restT (parseT s d) s (cs.drop k) a out) ∧ Below w.heap.size w wr) (fun _ _ iv _ => cs.length - (intOf iv).toNat)
  case atStart =>
    refine ⟨0, a0, [], Nat.zero_le _, rfl, rfl, ⟨h0, h1⟩, ⟨[], ⟨rfl, Or.inr ⟨_, 0, #[], rfl, Nat.le_refl _, Deep.blk_alloc_new _ _, Nat.le_refl _, by unfold maxLen; omega, rfl, rfl⟩⟩, fun j hj => absurd hj (by simp)⟩, rfl, HR.out, box_below _ _⟩
  case round =>
    obtain ⟨k, a, out, hk, rfl, rfl, ⟨ha0, ha1⟩, hown, hol, HRR, hbw⟩ := hrel
    have HO := mkHid hown
    have HB := mkHid hbw
    have HOL := mkHid hol
    clear hown hbw hol
    by_cases hlt : k < cs.length
    · obtain ⟨c, hcE⟩ : ∃ c, c = cs[k] := ⟨_, rfl⟩
      have hcc := HC.out k hlt
      rw [← hcE] at hcc
      have c0 := (HB.out.cell (cell_lt hcc)).trans hcc
      have h256 : c < 256 := by rw [hcE]; exact H256.out _ (List.getElem_mem hlt)
      have HDR : Hid (cs.drop k = c :: cs.drop (k + 1)) := by rw [Hid, hcE]; exact List.drop_eq_getElem_cons hlt
      have HRG := mkHid (parseT_rng s d a)
      have HR2 := mkHid HRR.out
      rw [HDR.out] at HR2
      unfold restT at HR2
      obtain ⟨q, hq⟩ : ∃ q, q = parseT s d a := ⟨_, rfl⟩
      have HPC := mkHid (HP.out a wr ha0 ha1)
      rw [← hq] at HRG HR2 HPC
      obtain ⟨x, nx⟩ := q
      have HXI := mkHid HRG.out.i64
      have hnr : -1 ≤ nx ∧ nx ≤ s.size := HRG.out.1
      clear hcE hcc hq HRR
      go_wp2_with fail
      refine HPC.out.mono ?_
      rintro e w1 ⟨kv, rfl, hkv, hb1⟩
      obtain ⟨adk, capk, rfl, -, -, -⟩ := id hkv
      have HKV := mkHid hkv
      have HB1 := mkHid hb1
      have HBW1 : Hid (Below w.heap.size w w1) := HB.out.trans (hb1.mono HB.out.size)
      simp only [] at HR2 ⊢
      obtain ⟨o, ho⟩ : ∃ o, o = x.op := ⟨_, rfl⟩
      obtain ⟨m, hm⟩ : ∃ m, m = x.num := ⟨_, rfl⟩
      obtain ⟨z, hz⟩ : ∃ z, z = x.kids.length := ⟨_, rfl⟩
      rw [← ho, ← hm, ← hz]
      have c1 := old_cell ((HB1.out.cell (cell_lt c0)).trans c0) (.cells #[.int .i64 o, .int .i64 m, .slice adk z capk] 30)
      have HAT := mkHid fun W => l1At_calls s nx c W h256
      have HOM := mkHid (And.intro ho (And.intro hm hz))
      clear hkv hb1 c0 ho hm hz
      go_wp2_with fail
      refine (HAT.out _).mono ?_
      rintro e w2 ⟨rfl, hw2⟩
      rw [← hw2]
      clear hw2
      cases hat : isAtB s nx c with
      | false =>
        have HV : Hid (r = ([], -1)) := by rw [Hid, HR2.out, hat]; rfl
        clear hat
        go_wp2_with fail
        go_ret2
        exact ⟨.slice none 0 0, ret_rest rfl (by rw [HV.out]), by rw [HV.out]; exact ⟨none, 0, rfl, Nat.le_refl _, by simp [maxLen], Or.inl rfl⟩, HBW1.out.trans ((box_below _ _).mono HBW1.out.size)⟩
      | true =>
        have HV : Hid (r = restT (parseT s d) s (cs.drop (k + 1)) (nx + 1) (out ++ [x])) := by rw [Hid, HR2.out, hat]; rfl
        obtain ⟨hn0, hn1⟩ := isAtB_rng hat
        obtain ⟨xs, hx1, hx2⟩ := HO.out
        rw [HOL.out] at hx1
        obtain ⟨wa, hwa⟩ : ∃ wa, wa = w1.alloc (.cells #[.int .i64 o, .int .i64 m, .slice adk z capk] 30) := ⟨_, rfl⟩
        have HWA := mkHid hwa
        have hba : Below w1.heap.size w1 wa := by rw [hwa]; exact box_below _ _
        have hsa : wa.heap.size = w1.heap.size + 1 := by rw [hwa, Deep.nblk_alloc]
        obtain ⟨wc, hwc⟩ : ∃ wc, wc = wa.alloc (.cells #[.int .i64 o, .int .i64 m, .slice adk z capk] 30) := ⟨_, rfl⟩
        have HWC := mkHid hwc
        have hbc : Below wa.heap.size wa wc := by rw [hwc]; exact box_below _ _
        have HBC : Hid (Below wr.heap.size wr wc) := HB1.out.trans ((hba.trans (hbc.mono hba.size)).mono HB1.out.size)
        have HB1C : Hid (Below w1.heap.size w1 wc) := hba.trans (hbc.mono hba.size)
        have HXC : Hid (wc.ownsRow w.heap.size 30 3 u10 k xs) := own_keep hx1 fun j _ hj => HBC.out.block j hj
        have HX2 := mkHid hx2
        have hsz1 := HB1.out.size
        have hszw := HB.out.size
        have hszc := HBC.out.size
        clear hat hx1 hx2 hwa hba hwc hbc
        go_wp2_with (first
          | (at_builtin; rw [← HWA.out, ← HWC.out]; refine wpList_append_at rfl _ _ 28 rfl wc w.heap.size 30 iE zE 3 40 Try.underlying28 HE.out.1 HE.out.2.1 HE.out.2.2.1 HE.out.2.2.2.1 HE.out.2.2.2.2 (by decide) u10 k xs rfl HXC.out ⟨wa.heap.size, 0, none⟩ 1 1 [.int .i64 o, .int .i64 m, .slice adk z capk] (by rw [hsa]; rfl) rfl (fun j u hu => by rw [WideShapes.add_plain, Nat.zero_add, HWC.out]; exact box_cell wa #[.int .i64 o, .int .i64 m, .slice adk z capk] _ j u (by simpa using hu)) (fun u hu => by simp only [List.mem_cons, List.not_mem_nil, or_false] at hu; rcases hu with rfl | rfl | rfl <;> rfl) (by unfold maxLen; omega) (by omega) (by omega) ?_; intro v' w3 hown' hgrow hnil hat; have HX3 := mkHid hown'; have HG3 := mkHid hgrow; have HA3 := mkHid hat; clear hown' hgrow hnil hat)
          | go_in)
        have hHT : ∀ (j : Nat) (hj : j < out.length), ∃ a b c, xs[j * 3]? = some a ∧ xs[j * 3 + 1]? = some b ∧ xs[j * 3 + 2]? = some c ∧ TrOn wc (fun k => PN w.heap.size wc k ∧ some k ≠ u10.ownBlock) out[j] a b c := by
          intro j hj
          obtain ⟨a1, b1, c1, e1, e2, e3, e4⟩ := HX2.out j hj
          exact ⟨a1, b1, c1, e1, e2, e3, e4.mono (fun k hk => ⟨hk.1.go (Nat.le_refl _) (HBC.out.block k hk.1.2.1), hk.2⟩) fun k hk => HBC.out.block k hk.1.2.1⟩
        have hszC := HB1C.out.size
        have hown0 : ∀ g, some g = u10.ownBlock → w.heap.size ≤ g ∧ g < wr.heap.size := by
          intro g e
          obtain ⟨ys, hy, -⟩ := HO.out
          exact own_some hy g e.symm
        have hnew : TrOn wc (fun k => PN w.heap.size wc k ∧ some k ≠ u10.ownBlock) x (.int .i64 o) (.int .i64 m) (.slice adk z capk) := by
          obtain ⟨ho, hm, hz⟩ := HOM.out
          rw [trOn_iff, ho, hm, hz]
          refine ⟨rfl, rfl, HXI.out.1, HXI.out.2, HKV.out.mono (fun k hk => ⟨hk.go hszw (HB1C.out.block k hk.2.1), fun e => ?_⟩) fun k hk => HB1C.out.block k hk.2.1⟩
          have := (hown0 k e).2
          have h2 : wr.heap.size ≤ k := hk.1
          omega
        have hxc : wc.ownsRow w.heap.size 30 3 u10 out.length xs := by rw [HOL.out]; exact HXC.out
        have hgrow := HG3.out
        have hlo : w.heap.size ≤ wc.heap.size := by omega
        refine ⟨⟨k + 1, nx + 1, out ++ [x], hlt, by simp, rfl, ⟨by omega, by omega⟩, OwnTp.step xs hxc hHT hnew (by rw [HOL.out]; exact HX3.out) hgrow ?_, by rw [List.length_append, HOL.out]; rfl, HV.out, ?_⟩, by simp only [intOf]; omega⟩
        · rcases HA3.out with h | h
          · exact Or.inl h
          · exact Or.inr ⟨_, h, Nat.le_refl _⟩
        · exact (HB.out.trans (HBC.out.mono hszw)).grown hgrow hlo fun g e => (hown0 g e.symm).1
    · have hke : k = cs.length := by omega
      have HV : Hid (r = (out, a)) := by rw [Hid, HRR.out, hke, List.drop_length]; rfl
      obtain ⟨ado, capo, hof, -, -, -⟩ := HO.out.kids
      clear hke
      go_wp2_with fail
      go_ret2
      exact ⟨_, ret_rest rfl (by rw [HV.out]), by rw [HV.out]; exact HO.out.kids, HB.out⟩
end Go.Proofs.Ytjdlfpdljmohiaa
