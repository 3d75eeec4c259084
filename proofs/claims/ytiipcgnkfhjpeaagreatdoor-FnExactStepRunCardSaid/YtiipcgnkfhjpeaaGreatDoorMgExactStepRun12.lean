/-
  MAPS KEYED BY ADDRESSES (pointers, or structs of them): what a look-up finds and what a store leaves, the map seen as a function from keys to values.
-/
import Derived.Test.YtiipcgnkfhjpeaaGreatDoorMgExactStepRun1
import Derived.Maps.Own
import Derived.Maps.OwnOps
import Derived.LaidEqlPtr
namespace Go.Proofs.YtiipcgnkfhjpeaaGreatDoor
set_option linter.unusedVariables false
set_option linter.unusedSimpArgs false
open Go.RowKit Go.MapKept

section
variable {κ : Type} [DecidableEq κ]

/-- where a key stands in a list, and its value -/
def pfind (c : κ) : List (κ × Value) → Nat → Option (Nat × Value)
  | [], _ => none
  | x :: xs, i => if c = x.1 then some (i, x.2) else pfind c xs (i + 1)

theorem pfind_some {c : κ} : ∀ {L : List (κ × Value)} {i j : Nat} {v : Value}, pfind c L i = some (j, v) → ∃ n, j = i + n ∧ L[n]? = some (c, v)
  | [], i, j, v, h => by simp [pfind] at h
  | x :: xs, i, j, v, h => by
    unfold pfind at h
    split at h
    · rename_i hc
      simp only [Option.some.injEq, Prod.mk.injEq] at h
      exact ⟨0, by omega, by rw [← h.2, hc]; simp⟩
    · obtain ⟨n, hn, hg⟩ := pfind_some h
      exact ⟨n + 1, by omega, by simpa using hg⟩

theorem pfind_push_same {c : κ} {v : Value} : ∀ {L : List (κ × Value)} {i : Nat}, pfind c L i = none → pfind c (L ++ [(c, v)]) i = some (i + L.length, v)
  | [], i, _ => by simp [pfind]
  | x :: xs, i, h => by
    unfold pfind at h
    split at h
    · simp at h
    · rename_i hc
      rw [List.cons_append, pfind, if_neg hc, pfind_push_same h]
      simp; omega

theorem pfind_push_other {c d : κ} {v : Value} (hd : d ≠ c) : ∀ {L : List (κ × Value)} {i : Nat}, pfind d (L ++ [(c, v)]) i = pfind d L i
  | [], i => by simp [pfind, hd]
  | x :: xs, i => by rw [List.cons_append, pfind, pfind, pfind_push_other hd]

theorem pfind_set_same {c : κ} {u v : Value} : ∀ {L : List (κ × Value)} {i n : Nat}, pfind c L i = some (i + n, u) → pfind c (L.set n (c, v)) i = some (i + n, v)
  | [], i, n, h => by simp [pfind] at h
  | x :: xs, i, n, h => by
    unfold pfind at h
    split at h
    · rename_i hc
      simp only [Option.some.injEq, Prod.mk.injEq] at h
      have : n = 0 := by omega
      subst this
      simp [pfind]
    · rename_i hc
      obtain ⟨m, hm, _⟩ := pfind_some h
      have : n = m + 1 := by omega
      subst this
      rw [List.set_cons_succ, pfind, if_neg hc]
      have e : i + (m + 1) = i + 1 + m := by omega
      rw [e] at h ⊢
      exact pfind_set_same h

theorem pfind_set_other {c d : κ} {u v : Value} (hd : d ≠ c) : ∀ {L : List (κ × Value)} {i n : Nat}, L[n]? = some (c, u) → pfind d (L.set n (c, v)) i = pfind d L i
  | [], i, n, h => by simp at h
  | x :: xs, i, 0, h => by
    simp only [List.getElem?_cons_zero, Option.some.injEq] at h
    subst h
    simp [pfind, hd]
  | x :: xs, i, n + 1, h => by
    rw [List.set_cons_succ, pfind, pfind, pfind_set_other hd (by simpa using h)]

/-- what is asked of the keys of a type: how they lie in values, and when they are compared -/
structure PKey (P : Program) (kt : TypeId) (emb : κ → Value) (ok : World → κ → Prop) : Prop where
  check : ∀ (w : World) (e : Bool) (x : κ), (Instr.checkKey e 10000 kt (emb x)).run P w = .ok () w
  under : ∃ d, P.underlying kt = some d ∧ ∀ x y, Instr.sameNow d (emb x) (emb y) = none
  eq : ∀ (w : World) (x y : κ), ok w x → ok w y → (Op.equal kt (emb x) (emb y)).run P w = .ok (decide (x = y)) w
  stays : ∀ x, Instr.sameBits 10000 (emb x) (emb x) = true

/-- block b is a map, its keys of K, seen as the function M -/
def PMap (emb : κ → Value) (w : World) (b : Nat) (K : κ → Prop) (M : κ → Option Value) : Prop :=
  ∃ es clock L, w.heap[b]? = some (.map es clock) ∧ es.toList.map (fun e => (e.key, e.val)) = L.map (fun x : κ × Value => (emb x.1, x.2)) ∧ (∀ x ∈ L, K x.1) ∧ ∀ c, M c = (pfind c L 0).map (·.2)

/-- a function changed at one place -/
def pput (M : κ → Option Value) (a : κ) (v : Value) : κ → Option Value := fun c => if c = a then some v else M c
@[simp] theorem pput_same (M : κ → Option Value) (a : κ) (v : Value) : pput M a v a = some v := by simp [pput]
theorem pput_other (M : κ → Option Value) {a c : κ} (v : Value) (h : c ≠ a) : pput M a v c = M c := by simp [pput, h]

variable {P : Program} {kt et mt : TypeId} {emb : κ → Value} {ok : World → κ → Prop} {w : World} {b : Nat} {K : κ → Prop} {M : κ → Option Value}

theorem PMap.made (w : World) (K : κ → Prop) : PMap emb (w.alloc (.map #[] 0)) w.heap.size K (fun _ => none) :=
  ⟨#[], 0, [], (heap_alloc w _).1, rfl, by simp, fun c => rfl⟩
theorem PMap.keep {w' : World} (h : PMap emb w b K M) (hb : w'.heap[b]? = w.heap[b]?) : PMap emb w' b K M := by
  obtain ⟨es, clock, L, h1, h2⟩ := h
  exact ⟨es, clock, L, hb.trans h1, h2⟩
theorem PMap.lt (h : PMap emb w b K M) : b < w.heap.size := by
  obtain ⟨es, clock, L, h1, h2⟩ := h
  exact (Array.getElem?_eq_some_iff.1 h1).1
theorem run_findAsking (Q : PKey P kt emb ok) (a : κ) (ha : ok w a) : ∀ (l : List MapEntry) (L : List (κ × Value)) (i : Nat), l.map (fun e => (e.key, e.val)) = L.map (fun x : κ × Value => (emb x.1, x.2)) → (∀ x ∈ L, ok w x.1) →
    (Instr.findAsking kt (emb a) l i).run P w = .ok (pfind a L i) w
  | [], L, i, h, _ => by
    cases L with
    | nil => simp [Instr.findAsking, pfind]
    | cons x xs => simp at h
  | e :: es, L, i, h, hL => by
    cases L with
    | nil => simp at h
    | cons x xs =>
      simp only [List.map_cons, List.cons.injEq, Prod.mk.injEq] at h
      obtain ⟨⟨h1, h2⟩, h3⟩ := h
      have ih := run_findAsking Q a ha es xs (i + 1) h3 (fun y hy => hL y (by simp [hy]))
      have he := Q.eq w a x.1 ha (hL x (by simp))
      rw [← h1] at he
      unfold Instr.findAsking pfind
      simp only [Sem.run_bind, he, Result.andThen]
      by_cases hc : a = x.1
      · simp [hc, h2]
      · simp [hc, ih]

theorem run_findKey_p (Q : PKey P kt emb ok) (a : κ) (ha : ok w a) (l : List MapEntry) (L : List (κ × Value)) (h : l.map (fun e => (e.key, e.val)) = L.map (fun x : κ × Value => (emb x.1, x.2))) (hL : ∀ x ∈ L, ok w x.1) :
    (Instr.findKey kt (emb a) l).run P w = .ok (pfind a L 0) w := by
  obtain ⟨d, hd, hn⟩ := Q.under
  have hf := run_findAsking Q a ha l L 0 h hL
  cases l with
  | nil =>
    cases L with
    | nil => simp [Instr.findKey, run_underlying hd, Result.andThen, Instr.findNow, pfind]
    | cons x xs => simp at h
  | cons e es =>
    cases L with
    | nil => simp at h
    | cons x xs =>
      have h1 : e.key = emb x.1 := by simp only [List.map_cons, List.cons.injEq, Prod.mk.injEq] at h; exact h.1.1
      have hnow : Instr.findNow d (emb a) (e :: es) 0 = none := by simp [Instr.findNow, h1, hn]
      simp [Instr.findKey, run_underlying hd, Result.andThen, hnow, hf]

/-- 'm[k]' -/
theorem PMap.look (h : PMap emb w b K M) (Q : PKey P kt emb ok) (hm : P.underlying mt = some (.map kt et)) (hK : ∀ x, K x → ok w x) {z : Value} (hz : (zeroValue et).run P w = .ok z w) (a : κ) (ha : ok w a) :
    (Instr.lookup mt (.map (some b)) (emb a) false).run P w = .ok ((M a).getD z) w ∧
    (Instr.lookup mt (.map (some b)) (emb a) true).run P w = .ok (.tuple #[(M a).getD z, .bool (M a).isSome]) w := by
  obtain ⟨es, clock, L, h1, h2, h3, h4⟩ := h
  have hf := run_findKey_p Q a ha es.toList L h2 (fun x hx => hK _ (h3 x hx))
  rw [h4 a]
  cases hp : pfind a L 0 with
  | none =>
    rw [hp] at hf
    constructor <;> simp [Instr.lookup, run_underlying hm, MapKept.run_getObj_map h1, Q.check, hf, hz, Result.andThen]
  | some y =>
    obtain ⟨n, v⟩ := y
    rw [hp] at hf
    constructor <;> simp [Instr.lookup, run_underlying hm, MapKept.run_getObj_map h1, Q.check, hf, Result.andThen]

/-- 'm[k] = v' -/
theorem PMap.store (h : PMap emb w b K M) (Q : PKey P kt emb ok) (hm : P.underlying mt = some (.map kt et)) (hK : ∀ x, K x → ok w x) (a : κ) (ha : ok w a) (hKa : K a) (v : Value) :
    ∃ o, (Instr.mapUpdate mt (.map (some b)) (emb a) v).run P w = .ok () { w with heap := w.heap.setIfInBounds b o } ∧ PMap emb { w with heap := w.heap.setIfInBounds b o } b K (pput M a v) := by
  obtain ⟨es, clock, L, h1, h2, h3, h4⟩ := h
  have hf := run_findKey_p Q a ha es.toList L h2 (fun x hx => hK _ (h3 x hx))
  cases hp : pfind a L 0 with
  | none =>
    rw [hp] at hf
    refine ⟨_, by simp [Instr.mapUpdate, run_underlying hm, MapKept.run_getObj_map h1, Q.check, hf, MapKept.run_setObj_map _ h1, Result.andThen]; rfl, _, _, L ++ [(a, v)], (heap_set h1).1, by simp [h2], ?_, ?_⟩
    · intro x hx
      simp only [List.mem_append, List.mem_singleton] at hx
      rcases hx with hx | rfl
      · exact h3 x hx
      · exact hKa
    · intro c
      by_cases hc : c = a
      · subst hc; simp [pfind_push_same hp]
      · rw [pput_other M v hc, pfind_push_other hc, h4]
  | some y =>
    obtain ⟨n, u⟩ := y
    rw [hp] at hf
    obtain ⟨m, hm', hg⟩ := pfind_some hp
    have hnm : n = m := by omega
    subst hnm
    have hlen : es.toList.length = L.length := by have := congrArg List.length h2; simpa using this
    have hlt : n < L.length := (List.getElem?_eq_some_iff.1 hg).1
    have hj : ∃ e, es[n]? = some e ∧ e.key = emb a ∧ e.val = u := by
      have : (es.toList.map (fun e => (e.key, e.val)))[n]? = (L.map (fun x : κ × Value => (emb x.1, x.2)))[n]? := by rw [h2]
      rw [List.getElem?_map, List.getElem?_map, hg] at this
      cases he : es[n]? with
      | none => rw [Array.getElem?_toList, he] at this; simp at this
      | some e =>
        rw [Array.getElem?_toList, he] at this
        simp only [Option.map_some, Option.some.injEq, Prod.mk.injEq] at this
        exact ⟨e, rfl, this.1, this.2⟩
    obtain ⟨e, he, hek, hev⟩ := hj
    have hks : (Instr.keyThatStays (emb a) (emb a)).run P w = .ok (emb a) w := by simp [Instr.keyThatStays, Q.stays]
    refine ⟨_, by simp [Instr.mapUpdate, run_underlying hm, MapKept.run_getObj_map h1, Q.check, hf, he, hek, hks, MapKept.run_setObj_map _ h1, Result.andThen]; rfl, _, _, L.set n (a, v), (heap_set h1).1, ?_, ?_, ?_⟩
    · apply List.ext_getElem?
      intro j
      have hj : (es.toList.map (fun e => (e.key, e.val)))[j]? = (L.map (fun x : κ × Value => (emb x.1, x.2)))[j]? := by rw [h2]
      simp only [List.getElem?_map, Array.getElem?_toList] at hj
      simp only [List.getElem?_map, Array.getElem?_toList, Array.getElem?_modify, List.getElem?_set]
      by_cases hij : n = j
      · subst hij
        simp [he, hlt]
      · simp [hij, hj]
    · intro x hx
      rcases List.mem_or_eq_of_mem_set hx with hx | rfl
      · exact h3 x hx
      · exact hKa
    · intro c
      by_cases hc : c = a
      · subst hc
        rw [pput_same, pfind_set_same (by simpa using hp)]
        rfl
      · rw [pput_other M v hc, pfind_set_other hc hg, h4]
end

/-! ### Keys that are pointers -/
/-- an address into cells that are not frozen -/
def PlainAt (w : World) (a : Addr) : Prop := ∃ C T, w.heap[a.block]? = some (.cells C T (0, 0))
/-- pointers as keys -/
def embP (a : Addr) : Value := .pointer (some a)

theorem eq_ptr {P : Program} {kt te : TypeId} {j : TypeInfo} (hp : P.underlying kt = some (.pointer te)) (hte : P.info? te = some j) (hsz : j.size ≠ 0) (w : World) (x y : Addr) (hx : PlainAt w x) (hy : PlainAt w y) (d : Nat) :
    (Op.equalIn (d + 1) kt (.pointer (some x)) (.pointer (some y))).run P w = .ok (decide (x = y)) w := by
  obtain ⟨C, T, hx⟩ := hx
  obtain ⟨D, U, hy⟩ := hy
  by_cases h : x = y
  · subst h
    simp [Op.equalIn, run_underlying hp, sizeOf, typeInfo, hte, hsz, run_sameAddr_same]
  · simp [Op.equalIn, run_underlying hp, sizeOf, typeInfo, hte, hsz, run_sameAddr_other w h hx hy, h]

theorem ptr_key {P : Program} {kt te : TypeId} {j : TypeInfo} (hp : P.underlying kt = some (.pointer te)) (hte : P.info? te = some j) (hsz : j.size ≠ 0) : PKey P kt embP PlainAt where
  check w e x := by
    unfold Instr.checkKey embP
    simp [run_underlying hp, Result.andThen]
  under := ⟨_, hp, fun x y => by simp [embP, Instr.sameNow]⟩
  eq w x y hx hy := by
    unfold Op.equal Op.maxDepth embP
    exact eq_ptr hp hte hsz w x y hx hy 9999
  stays x := by simp [embP, Instr.sameBits]

/-! ### The operations, for the walk -/
section
variable {κ : Type} [DecidableEq κ] {P : Program} {emb : κ → Value} {ok : World → κ → Prop}
theorem wpList_store_p (w : World) {ops : Array Oper} {rest : List Oper} {o : Oper} {a : Act} {Q : Exit → Act → World → Prop}
    (hg : o.guard = none) (m x v : Operand) (t : TypeId) (hop : o.op = Op.mapUpdate t m x v)
    (kt et : TypeId) (hq : PKey P kt emb ok) (ht : P.underlying t = some (.map kt et)) (b : Nat) (K : κ → Prop) (M : κ → Option Value)
    (hm : a.eval m = .map (some b)) (hown : PMap emb w b K M) (hK : ∀ x, K x → ok w x) (key : κ) (hx : a.eval x = emb key) (hkey : ok w key) (hKk : K key) (val : Value) (hv : a.eval v = val)
    (hk : ∀ o', PMap emb { w with heap := w.heap.setIfInBounds b o' } b K (pput M key val) → wpList P ops Q rest (a.put o.dst undef) { w with heap := w.heap.setIfInBounds b o' }) : wpList P ops Q (o :: rest) a w := by
  refine wpList_plain hg fun K' hK' => ?_
  obtain ⟨o', hrun, hp⟩ := hown.store hq ht hK key hkey hKk val
  unfold Oper.wp
  simp [execOp, hop, hm, hx, hv, hrun, Result.andThen]
  exact hK' _ _ (hk o' hp)
end

/-- .. the world behind it under a name -/
theorem wpList_store_v {κ : Type} [DecidableEq κ] {P : Program} {emb : κ → Value} {ok : World → κ → Prop} (w : World) {ops : Array Oper} {rest : List Oper} {o : Oper} {a : Act} {Q : Exit → Act → World → Prop}
    (hg : o.guard = none) (m x v : Operand) (t : TypeId) (hop : o.op = Op.mapUpdate t m x v)
    (kt et : TypeId) (hq : PKey P kt emb ok) (ht : P.underlying t = some (.map kt et)) (b : Nat) (K : κ → Prop) (M : κ → Option Value)
    (hm : a.eval m = .map (some b)) (hown : PMap emb w b K M) (hK : ∀ x, K x → ok w x) (key : κ) (hx : a.eval x = emb key) (hkey : ok w key) (hKk : K key) (val : Value) (hv : a.eval v = val)
    (hk : ∀ w1, PMap emb w1 b K (pput M key val) → w.grownBy w1 (some b) → w1.heap.size = w.heap.size → wpList P ops Q rest (a.put o.dst undef) w1) : wpList P ops Q (o :: rest) a w :=
  wpList_store_p w hg m x v t hop kt et hq ht b K M hm hown hK key hx hkey hKk val hv fun o' hp => hk _ hp ⟨rfl, rfl, rfl, by simp, fun k _ hk => by simp only [ne_eq, Option.some.injEq] at hk; simp [Ne.symm hk]⟩ (by simp)

/-- a store into a map, seen from the other blocks -/
theorem set_other_block (w : World) (b : Nat) (o : Obj) {k : Nat} (h : k ≠ b) : ({ w with heap := w.heap.setIfInBounds b o } : World).heap[k]? = w.heap[k]? := by
  simp [Ne.symm h]
theorem set_below {B : Nat} (w : World) (b : Nat) (o : Obj) (hb : B ≤ b) : Below B w { w with heap := w.heap.setIfInBounds b o } :=
  ⟨rfl, rfl, rfl, by simp, fun k hk => set_other_block w b o (by omega)⟩
end Go.Proofs.YtiipcgnkfhjpeaaGreatDoor
/-
  AN ADDRESS HOLDS ONE TREE; blocks of plain cells; trees that lie in such blocks; the way down nested applications.
-/
namespace Go.Proofs.YtiipcgnkfhjpeaaGreatDoor
set_option linter.unusedVariables false
set_option linter.unusedSimpArgs false
open Go.RowKit

mutual
theorem TrOn.uniq {w : World} {S S' : Nat → Prop} : ∀ (t t' : Tr) (a b c : Value), TrOn w S t a b c → TrOn w S' t' a b c → t = t'
  | .node o n ks, .node o' n' ks', a, b, c, h, h' => by
    simp only [TrOn] at h h'
    obtain ⟨rfl, rfl, -, -, ad, cap, rfl, -, -, h⟩ := h
    obtain ⟨e1, e2, -, -, ad', cap', e3, -, -, h'⟩ := h'
    simp only [Value.int.injEq, true_and] at e1 e2
    simp only [Value.slice.injEq] at e3
    obtain ⟨rfl, hl, rfl⟩ := e3
    subst e1
    subst e2
    congr 1
    rcases h with rfl | ⟨bl, off, rfl, -, hr⟩
    · exact (List.eq_nil_of_length_eq_zero (by simpa using hl.symm)).symm
    · rcases h' with rfl | ⟨bl', off', e, -, hr'⟩
      · exact List.eq_nil_of_length_eq_zero (by simpa using hl)
      · simp only [Option.some.injEq, Addr.mk.injEq] at e
        obtain ⟨rfl, rfl, -⟩ := e
        exact RowOn.uniq bl off ks ks' hl hr hr'
theorem RowOn.uniq {w : World} {S S' : Nat → Prop} (bl off : Nat) : ∀ (ks ks' : List Tr), ks.length = ks'.length → RowOn w S bl off ks → RowOn w S' bl off ks' → ks = ks'
  | [], [], _, _, _ => rfl
  | [], _ :: _, hl, _, _ => by simp at hl
  | _ :: _, [], hl, _, _ => by simp at hl
  | t :: ts, t' :: ts', hl, h, h' => by
    simp only [RowOn] at h h'
    obtain ⟨⟨a, b, c, ha, hb, hc, ht⟩, hr⟩ := h
    obtain ⟨⟨a', b', c', ha', hb', hc', ht'⟩, hr'⟩ := h'
    rw [ha] at ha'
    rw [hb] at hb'
    rw [hc] at hc'
    cases ha'
    cases hb'
    cases hc'
    rw [TrOn.uniq t t' a b c ht ht', RowOn.uniq bl (off + 3) ts ts' (by simpa using hl) hr hr']
end

/-- plain blocks of cells -/
def Pl (w : World) : Nat → Prop := fun k => k < w.heap.size ∧ ∃ C T, w.heap[k]? = some (.cells C T (0, 0))
/-- trees that lie in plain blocks -/
abbrev InP (w : World) (ks : List Tr) (c : Value) : Prop := KidsOn w (Pl w) ks c
theorem Pl.next {w w' : World} (hb : Below w.heap.size w w') {k : Nat} (h : Pl w k) : Pl w' k :=
  ⟨Nat.lt_of_lt_of_le h.1 hb.size, by obtain ⟨C, T, e⟩ := h.2; exact ⟨C, T, (hb.block k h.1).trans e⟩⟩
theorem KidsOn.inP {w : World} {ks : List Tr} {c : Value} (h : InP w ks c) : In w ks c := KidsOn.mono h (fun k hk => hk.1) (fun _ _ => rfl)
theorem KidsOn.nextP {w w' : World} {ks : List Tr} {c : Value} (h : InP w ks c) (hb : Below w.heap.size w w') : InP w' ks c := KidsOn.mono h (fun k hk => hk.next hb) (fun k hk => hb.block k hk.1)
theorem TrOn.nextP {w w' : World} {t : Tr} {a b c : Value} (h : TrOn w (Pl w) t a b c) (hb : Below w.heap.size w w') : TrOn w' (Pl w') t a b c := TrOn.mono (fun k hk => hk.next hb) (fun k hk => hb.block k hk.1) _ _ _ _ h

/-- a tree that lies at an address -/
def LiesAt (w : World) (S : Nat → Prop) (a : Addr) (t : Tr) : Prop :=
  ∃ bl off x y z, a = ⟨bl, off, none⟩ ∧ S bl ∧ w.cell? ⟨bl, off, none⟩ = some x ∧ w.cell? ⟨bl, off + 1, none⟩ = some y ∧ w.cell? ⟨bl, off + 2, none⟩ = some z ∧ TrOn w S t x y z
theorem LiesAt.uniq {w : World} {S S' : Nat → Prop} {a : Addr} {t t' : Tr} (h : LiesAt w S a t) (h' : LiesAt w S' a t') : t = t' := by
  obtain ⟨bl, off, x, y, z, rfl, -, hx, hy, hz, ht⟩ := h
  obtain ⟨bl', off', x', y', z', e, -, hx', hy', hz', ht'⟩ := h'
  simp only [Addr.mk.injEq] at e
  obtain ⟨rfl, rfl, -⟩ := e
  rw [hx] at hx'
  rw [hy] at hy'
  rw [hz] at hz'
  cases hx'
  cases hy'
  cases hz'
  exact TrOn.uniq t t' x y z ht ht'
theorem LiesAt.plain {w w' : World} {a : Addr} {t : Tr} (h : LiesAt w (Pl w) a t) (hb : Below w.heap.size w w') : PlainAt w' a := by
  obtain ⟨bl, off, x, y, z, rfl, hp, -⟩ := h
  exact (hp.next hb).2
/-- element i of a row, as a node -/
theorem RowOn.liesAt {w : World} {S : Nat → Prop} {bl off i : Nat} {ks : List Tr} (hi : i < ks.length) (hS : S bl) (h : RowOn w S bl off ks) : LiesAt w S ⟨bl, off + i * 3, none⟩ ks[i] := by
  obtain ⟨a, b, c, ha, hb, hc, ht⟩ := RowOn.at ks off i hi h
  exact ⟨bl, off + i * 3, a, b, c, rfl, hS, ha, hb, hc, ht⟩

/-- the function of nested applications, and its arguments -/
def unwT : Tr → List Tr → Tr × List Tr
  | .node o n [f, x], acc => if o = 4 then unwT f (x :: acc) else (.node o n [f, x], acc)
  | t, acc => (t, acc)
termination_by t => SizeOf.sizeOf t
decreasing_by simp_wf; omega

theorem unwT_app {t f x : Tr} (ho : t.op = 4) (hk : t.kids = [f, x]) (acc : List Tr) : unwT t acc = unwT f (x :: acc) := by
  cases t with
  | node o n ks =>
    simp only [Tr.op_node, Tr.kids_node] at ho hk
    subst ho
    subst hk
    rw [unwT, if_pos rfl]
theorem unwT_stop {t : Tr} (h : ¬ (t.op = 4 ∧ t.kids.length = 2)) (acc : List Tr) : unwT t acc = (t, acc) := by
  cases t with
  | node o n ks =>
    simp only [Tr.op_node, Tr.kids_node] at h
    match ks, h with
    | [], _ => rw [unwT]; intro o' n' f' x' h'; cases h'
    | [a], _ => rw [unwT]; intro o' n' f' x' h'; cases h'
    | [a, b], h =>
      rw [unwT, if_neg]
      intro e
      exact h ⟨e, by simp⟩
    | a :: b :: c :: l, _ => rw [unwT]; intro o' n' f' x' h'; cases h'

/-- an argument with its three cells -/
abbrev Cd := Tr × Value × Value × Value
/-- the way down nested applications, from a tree and its operands' slice: where it stands, and the arguments met, in order -/
inductive Unw (w : World) (a : Tr) (c : Value) : Tr → Value → List Cd → Prop
  | here : Unw w a c a c []
  | down {t f x : Tr} {ct cf u v r : Value} {l : List Cd} {bl off cap : Nat} : Unw w a c t ct l → t.op = 4 → t.kids = [f, x] → ct = .slice (some ⟨bl, off, none⟩) 2 cap →
      w.cell? ⟨bl, off + 2, none⟩ = some cf → w.cell? ⟨bl, off + 3, none⟩ = some u → w.cell? ⟨bl, off + 4, none⟩ = some v → w.cell? ⟨bl, off + 5, none⟩ = some r → Unw w a c f cf (l ++ [(x, u, v, r)])

theorem Unw.unw {w : World} {a t : Tr} {c ct : Value} {l : List Cd} (h : Unw w a c t ct l) : unwT a [] = unwT t (l.map (·.1)).reverse := by
  induction h with
  | here => rfl
  | down h ho hk _ _ _ _ _ ih => rw [ih, unwT_app ho hk]; simp

/-- two operands, in their cells -/
theorem KidsOn.two {w : World} {S : Nat → Prop} {f x : Tr} {c : Value} (h : KidsOn w S [f, x] c) : ∃ bl off cap a b cf u v r, c = .slice (some ⟨bl, off, none⟩) 2 cap ∧ 2 ≤ cap ∧ cap ≤ maxLen ∧ S bl ∧ RowOn w S bl off [f, x] ∧
    w.cell? ⟨bl, off, none⟩ = some a ∧ w.cell? ⟨bl, off + 1, none⟩ = some b ∧ w.cell? ⟨bl, off + 2, none⟩ = some cf ∧ TrOn w S f a b cf ∧
    w.cell? ⟨bl, off + 3, none⟩ = some u ∧ w.cell? ⟨bl, off + 4, none⟩ = some v ∧ w.cell? ⟨bl, off + 5, none⟩ = some r ∧ TrOn w S x u v r := by
  obtain ⟨ad, cap, rfl, l1, l2, h⟩ := h
  rcases h with h | ⟨bl, off, rfl, hs, hr⟩
  · simp at h
  obtain ⟨a, b, cf, h0, h1, h2, h3⟩ := RowOn.at _ off 0 (by simp) hr
  obtain ⟨u, v, r, g0, g1, g2, g3⟩ := RowOn.at _ off 1 (by simp) hr
  simp only [Nat.zero_mul, Nat.add_zero, Nat.one_mul, List.getElem_cons_zero, List.getElem_cons_succ, Nat.add_assoc] at h0 h1 h2 h3 g0 g1 g2 g3
  exact ⟨bl, off, cap, a, b, cf, u, v, r, rfl, l1, l2, hs, hr, h0, h1, h2, h3, g0, g1, g2, g3⟩

theorem Unw.on {w : World} {S : Nat → Prop} {a t : Tr} {c ct : Value} {l : List Cd} (h : Unw w a c t ct l) (hc : KidsOn w S a.kids c) (ha : I64 a.op ∧ I64 a.num) :
    KidsOn w S t.kids ct ∧ I64 t.op ∧ I64 t.num ∧ (∀ d ∈ l, TrOn w S d.1 d.2.1 d.2.2.1 d.2.2.2) ∧ szT t + l.length ≤ szT a := by
  induction h with
  | here => exact ⟨hc, ha.1, ha.2, by simp, by simp⟩
  | @down t f x ct cf u v r l bl off cap h ho hk hct hcf hu hv hr ih =>
    obtain ⟨i1, i2, i3, i4, i5⟩ := ih
    rw [hk] at i1
    obtain ⟨bl', off', cap', p, q, cf', u', v', r', e, -, -, -, -, h0, h1, h2, h3, g0, g1, g2, g3⟩ := i1.two
    rw [hct] at e
    simp only [Value.slice.injEq, Option.some.injEq, Addr.mk.injEq] at e
    obtain ⟨⟨rfl, rfl, -⟩, -, rfl⟩ := e
    rw [hcf] at h2
    rw [hu] at g0
    rw [hv] at g1
    rw [hr] at g2
    cases h2
    cases g0
    cases g1
    cases g2
    have h4 := trOn_iff.1 h3
    refine ⟨h4.2.2.2.2, h4.2.2.1, h4.2.2.2.1, fun d hd => ?_, ?_⟩
    · simp only [List.mem_append, List.mem_singleton] at hd
      rcases hd with hd | rfl
      · exact i4 d hd
      · exact g3
    · have e1 : szT t = szL [f, x] := by rw [szT_eq, hk]
      simp only [szL, List.length_append, List.length_cons, List.length_nil] at e1 ⊢
      omega
end Go.Proofs.YtiipcgnkfhjpeaaGreatDoor
/-
  PAIRS OF PLACES: what a list of pairs still to be compared, and the pairs seen, say of two trees. No program is named here.
-/
namespace Go.Proofs.YtiipcgnkfhjpeaaGreatDoor
set_option linter.unusedVariables false
set_option linter.unusedSimpArgs false
open Go.RowKit

/-- the place of operand i of the tree at a place -/
def KidAt (w : World) (x : Addr) (i : Nat) (z : Addr) : Prop :=
  ∃ bl off kb ko n cap, x = ⟨bl, off, none⟩ ∧ w.cell? ⟨bl, off + 2, none⟩ = some (.slice (some ⟨kb, ko, none⟩) n cap) ∧ z = ⟨kb, ko + i * 3, none⟩
theorem KidAt.uniq {w : World} {x z z' : Addr} {i : Nat} (h : KidAt w x i z) (h' : KidAt w x i z') : z = z' := by
  obtain ⟨bl, off, kb, ko, n, cap, rfl, hc, rfl⟩ := h
  obtain ⟨bl', off', kb', ko', n', cap', e, hc', rfl⟩ := h'
  simp only [Addr.mk.injEq] at e
  obtain ⟨rfl, rfl, -⟩ := e
  rw [hc] at hc'
  simp only [Option.some.injEq, Value.slice.injEq, Addr.mk.injEq] at hc'
  obtain ⟨⟨rfl, rfl, -⟩, -⟩ := hc'
  rfl
theorem LiesAt.kid {w : World} {S : Nat → Prop} {x : Addr} {s : Tr} (h : LiesAt w S x s) (i : Nat) (hi : i < s.kids.length) : ∃ z, KidAt w x i z ∧ LiesAt w S z s.kids[i] := by
  obtain ⟨bl, off, a, b, c, rfl, hs, h0, h1, h2, ht⟩ := h
  obtain ⟨-, -, -, -, ad, cap, rfl, -, -, hr⟩ := trOn_iff.1 ht
  rcases hr with hr | ⟨kb, ko, rfl, hk, hr⟩
  · rw [hr] at hi; simp at hi
  · exact ⟨_, ⟨bl, off, kb, ko, _, _, rfl, h2, rfl⟩, RowOn.liesAt hi hk hr⟩
theorem KidAt.lies {w : World} {S : Nat → Prop} {x z : Addr} {s : Tr} {i : Nat} (h : KidAt w x i z) (hx : LiesAt w S x s) (hi : i < s.kids.length) : LiesAt w S z s.kids[i] := by
  obtain ⟨z', hz, hl⟩ := hx.kid i hi
  rw [h.uniq hz]
  exact hl

/-- two places and their trees -/
structure Wk where
  x : Addr
  y : Addr
  s : Tr
  t : Tr
def Wk.key (e : Wk) : Addr × Addr := (e.x, e.y)
def WkOk (w : World) (S : Nat → Prop) (Q : Prop) (e : Wk) : Prop := LiesAt w S e.x e.s ∧ LiesAt w S e.y e.t ∧ (Q → e.s = e.t)
abbrev Mp := Addr × Addr → Option Value
/-- the first operands of both are at one place, or have been seen -/
def KidsSeen (w : World) (M : Mp) (k : Addr × Addr) (m : Nat) : Prop := ∀ i, i < m → ∀ z z', KidAt w k.1 i z → KidAt w k.2 i z' → z = z' ∨ (M (z, z')).isSome = true
def Done (w : World) (S : Nat → Prop) (M : Mp) (k : Addr × Addr) : Prop := ∀ s t, LiesAt w S k.1 s → LiesAt w S k.2 t → s.op = t.op ∧ s.num = t.num ∧ s.kids.length = t.kids.length ∧ KidsSeen w M k s.kids.length
def Seen (root : Addr × Addr) (M : Mp) (k : Addr × Addr) : Prop := k = root ∨ (M k).isSome = true
def Inv (w : World) (S : Nat → Prop) (root : Addr × Addr) (M : Mp) (l : List Wk) (cur : Option (Addr × Addr)) : Prop :=
  ∀ k, Seen root M k → cur = some k ∨ (∃ e ∈ l, e.key = k) ∨ Done w S M k

theorem pput_some {κ : Type} [DecidableEq κ] {M : κ → Option Value} {a : κ} {v : Value} {k : κ} (h : (M k).isSome = true) : (pput M a v k).isSome = true := by
  unfold pput; split <;> simp_all
theorem KidsSeen.put {w : World} {M : Mp} {k a : Addr × Addr} {m : Nat} {v : Value} (h : KidsSeen w M k m) : KidsSeen w (pput M a v) k m :=
  fun i hi z z' hz hz' => (h i hi z z' hz hz').imp id pput_some
theorem Done.put {w : World} {S : Nat → Prop} {M : Mp} {k a : Addr × Addr} {v : Value} (h : Done w S M k) : Done w S (pput M a v) k :=
  fun s t hs ht => by
    obtain ⟨h1, h2, h3, h4⟩ := h s t hs ht
    exact ⟨h1, h2, h3, h4.put⟩

theorem Inv.start (w : World) (S : Nat → Prop) (e : Wk) : Inv w S e.key (fun _ => none) [e] none := by
  intro k hk
  rcases hk with rfl | hk
  · exact Or.inr (Or.inl ⟨e, by simp, rfl⟩)
  · simp at hk
theorem Inv.pop {w : World} {S : Nat → Prop} {root : Addr × Addr} {M : Mp} {l : List Wk} {e : Wk} (h : Inv w S root M (l ++ [e]) none) : Inv w S root M l (some e.key) := by
  intro k hk
  rcases h k hk with h | ⟨d, hd, hdk⟩ | h
  · cases h
  · rw [List.mem_append] at hd
    rcases hd with hd | hd
    · exact Or.inr (Or.inl ⟨d, hd, hdk⟩)
    · rw [List.mem_singleton] at hd
      subst hd
      exact Or.inl (by rw [hdk])
  · exact Or.inr (Or.inr h)
theorem Inv.push {w : World} {S : Nat → Prop} {root : Addr × Addr} {M : Mp} {l : List Wk} {cur : Option (Addr × Addr)} (h : Inv w S root M l cur) (e : Wk) (v : Value) : Inv w S root (pput M e.key v) (l ++ [e]) cur := by
  intro k hk
  by_cases hke : k = e.key
  · exact Or.inr (Or.inl ⟨e, by simp, hke.symm⟩)
  · have hk' : Seen root M k := by
      rcases hk with hk | hk
      · exact Or.inl hk
      · rw [pput_other _ _ hke] at hk; exact Or.inr hk
    rcases h k hk' with h | ⟨d, hd, hdk⟩ | h
    · exact Or.inl h
    · exact Or.inr (Or.inl ⟨d, by simp [hd], hdk⟩)
    · exact Or.inr (Or.inr h.put)
theorem KidsSeen.zero (w : World) (M : Mp) (k : Addr × Addr) : KidsSeen w M k 0 := fun i hi => absurd hi (by omega)
theorem KidsSeen.succ {w : World} {M : Mp} {k : Addr × Addr} {m : Nat} {z z' : Addr} (h : KidsSeen w M k m) (hz : KidAt w k.1 m z) (hz' : KidAt w k.2 m z') (hs : z = z' ∨ (M (z, z')).isSome = true) : KidsSeen w M k (m + 1) := by
  intro i hi y y' hy hy'
  by_cases e : i = m
  · subst e
    rw [hy.uniq hz, hy'.uniq hz']
    exact hs
  · exact h i (by omega) y y' hy hy'
theorem Done.of {w : World} {S : Nat → Prop} {M : Mp} {e : Wk} {Q : Prop} (he : WkOk w S Q e) (h1 : e.s.op = e.t.op) (h2 : e.s.num = e.t.num) (h3 : e.s.kids.length = e.t.kids.length) (h4 : KidsSeen w M e.key e.s.kids.length) : Done w S M e.key := by
  intro s t hs ht
  rw [LiesAt.uniq hs he.1, LiesAt.uniq ht he.2.1]
  exact ⟨h1, h2, h3, h4⟩

theorem tr_ext2 {a b : Tr} (h1 : a.op = b.op) (h2 : a.num = b.num) (h3 : a.kids = b.kids) : a = b := by cases a; cases b; simp_all

/-- nothing is left to compare: the trees of every pair seen are equal -/
theorem Inv.done {w : World} {S : Nat → Prop} {root : Addr × Addr} {M : Mp} (h : Inv w S root M [] none) : ∀ (n : Nat) (k : Addr × Addr) (s t : Tr), szT s ≤ n → Seen root M k → LiesAt w S k.1 s → LiesAt w S k.2 t → s = t := by
  intro n
  induction n using Nat.strongRecOn with
  | ind n ih =>
    intro k s t hz hk hs ht
    rcases h k hk with h | ⟨e, he, -⟩ | h
    · cases h
    · simp at he
    · obtain ⟨h1, h2, h3, h4⟩ := h s t hs ht
      refine tr_ext2 h1 h2 (List.ext_getElem h3 fun i hi hi' => ?_)
      obtain ⟨z, hz1, hl⟩ := hs.kid i hi
      obtain ⟨z', hz2, hl'⟩ := ht.kid i hi'
      rcases h4 i hi z z' hz1 hz2 with e | hsn
      · subst e
        exact LiesAt.uniq hl hl'
      · have hlt := szT_lt_szL s.kids i hi
        rw [← szT_eq] at hlt
        exact ih (szT s.kids[i]) (by omega) (z, z') _ _ (Nat.le_refl _) (Or.inr hsn) hl hl'

/-- an owned row, cut at its end -/
theorem own_cut {w : World} {base size n m g cap : Nat} {T : TypeId} {xs ys : List Value} (h : w.ownsRow base T size (.slice (some ⟨g, 0, none⟩) n cap) n (xs ++ ys)) (hl : xs.length = m * size) (hm : m ≤ n) : w.ownsRow base T size (.slice (some ⟨g, 0, none⟩) m cap) m xs := by
  obtain ⟨h1, h2⟩ := h
  rcases h2 with ⟨h2, -⟩ | ⟨g', cap', cur, e, hg, hh, hn, hc, hs, htk⟩
  · cases h2
  · cases e
    refine ⟨hl, Or.inr ⟨_, _, cur, rfl, hg, hh, by omega, hc, hs, ?_⟩⟩
    have h3 : m * size ≤ n * size := Nat.mul_le_mul_right _ hm
    have := congrArg (List.take (m * size)) htk
    rw [List.take_take, Nat.min_eq_left h3] at this
    rw [this, ← hl, List.take_left]
theorem own_at {w : World} {base size n g cap : Nat} {T : TypeId} {xs : List Value} (h : w.ownsRow base T size (.slice (some ⟨g, 0, none⟩) n cap) n xs) (j : Nat) (u : Value) (hu : xs[j]? = some u) : w.cell? ⟨g, j, none⟩ = some u := by
  rcases h.2 with ⟨h2, -⟩ | ⟨g', cap', cur, e, hg, hh, hn, hc, hs, htk⟩
  · cases h2
  · cases e
    have hlt : j < n * size := by
      have := (List.getElem?_eq_some_iff.1 hu).1
      rw [h.1] at this
      exact this
    rw [← htk, List.getElem?_take_of_lt hlt, Array.getElem?_toList] at hu
    simp only [World.cell?, hh]
    exact hu
end Go.Proofs.YtiipcgnkfhjpeaaGreatDoor
