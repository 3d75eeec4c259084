/-
  PLAIN: the expression for which a cell stands, read with a budget of nodes and of depth. No program is named here.
-/
import Derived.Test.YtglpehelmlehiaaMb8
import Derived.Test.YtglpehelmlehiaaMb9
import Derived.Test.YtglpehelmlehiaaMb14
import Derived.Test.YtglpehelmlehiaaMb11
import Derived.Test.YtglpehelmlehiaaMb15
import Derived.Test.YtglpehelmlehiaaMb16
import Derived.Deep.RegionHeld3
namespace Go.Proofs.Ytglpehelmlehiaa
set_option linter.unusedVariables false
set_option linter.unusedSimpArgs false

/-- the trees of a list of cells, one behind the other, with what is left of the budget -/
def readKids (f : Nat → Nat → Option (Tr × Nat)) : List Nat → Nat → Option (List Tr × Nat)
  | [], l => some ([], l)
  | k :: ks, l => match f k l with
    | none => none
    | some (t, l') => match readKids f ks l' with
      | none => none
      | some (ts, l'') => some (t :: ts, l'')
def readT (g : List Ce) : Nat → Nat → Nat → Option (Tr × Nat)
  | 0, _, _ => none
  | d + 1, a, l => match followN g g.length a with
    | none => none
    | some b => match l with
      | 0 => none
      | l + 1 => match readKids (readT g d) (kidsN g b) l with
        | none => none
        | some (ts, l') => some (.node (g.getD b ⟨0, 0, []⟩).op (g.getD b ⟨0, 0, []⟩).num ts, l')
theorem readKids_snoc (f : Nat → Nat → Option (Tr × Nat)) : ∀ (ks : List Nat) (k l : Nat), readKids f (ks ++ [k]) l = match readKids f ks l with
    | none => none
    | some (ts, l') => match f k l' with
      | none => none
      | some (t, l'') => some (ts ++ [t], l'')
  | [], k, l => by
    simp only [List.nil_append, readKids]
  | x :: ks, k, l => by
    simp only [List.cons_append, readKids]
    cases f x l with
    | none => rfl
    | some p =>
      obtain ⟨t, l'⟩ := p
      simp only [readKids_snoc f ks k l']
      cases readKids f ks l' with
      | none => rfl
      | some q =>
        obtain ⟨ts, l2⟩ := q
        simp only
        cases f k l2 with
        | none => rfl
        | some r => obtain ⟨t2, l3⟩ := r; rfl
theorem readKids_some_snoc {f : Nat → Nat → Option (Tr × Nat)} {ks : List Nat} {k l l' l'' : Nat} {ts : List Tr} {t : Tr} (h : readKids f ks l = some (ts, l')) (h' : f k l' = some (t, l'')) : readKids f (ks ++ [k]) l = some (ts ++ [t], l'') := by
  rw [readKids_snoc, h]; simp only [h']
theorem readKids_none_snoc {f : Nat → Nat → Option (Tr × Nat)} {ks : List Nat} {k l l' : Nat} {ts : List Tr} (h : readKids f ks l = some (ts, l')) (h' : f k l' = none) : readKids f (ks ++ [k]) l = none := by
  rw [readKids_snoc, h]; simp only [h']
theorem readKids_none_append {f : Nat → Nat → Option (Tr × Nat)} : ∀ (ks js : List Nat) (l : Nat), readKids f ks l = none → readKids f (ks ++ js) l = none
  | [], _, _, h => by simp [readKids] at h
  | x :: ks, js, l, h => by
    simp only [List.cons_append, readKids] at h ⊢
    cases hx : f x l with
    | none => rfl
    | some p =>
      obtain ⟨t, l'⟩ := p
      rw [hx] at h
      simp only at h ⊢
      cases hk : readKids f ks l' with
      | none => rw [readKids_none_append ks js l' hk]
      | some q => rw [hk] at h; simp at h
theorem readKids_none_take {f : Nat → Nat → Option (Tr × Nat)} {ks : List Nat} {j l : Nat} (h : readKids f (ks.take j) l = none) : readKids f ks l = none := by
  have := readKids_none_append (ks.take j) (ks.drop j) l h
  rwa [List.take_append_drop] at this
theorem readKids_len {f : Nat → Nat → Option (Tr × Nat)} : ∀ (ks : List Nat) (l : Nat) (ts : List Tr) (l' : Nat), readKids f ks l = some (ts, l') → ts.length = ks.length
  | [], _, _, _, h => by simp [readKids] at h; obtain ⟨rfl, -⟩ := h; rfl
  | x :: ks, l, ts, l', h => by
    simp only [readKids] at h
    cases hx : f x l with
    | none => rw [hx] at h; simp at h
    | some p =>
      obtain ⟨t, l1⟩ := p
      rw [hx] at h
      simp only at h
      cases hk : readKids f ks l1 with
      | none => rw [hk] at h; simp at h
      | some q =>
        obtain ⟨us, l2⟩ := q
        rw [hk] at h
        simp only [Option.some.injEq, Prod.mk.injEq] at h
        obtain ⟨rfl, -⟩ := h
        simp [readKids_len ks l1 us l2 hk]
theorem readKids_left {f : Nat → Nat → Option (Tr × Nat)} (hf : ∀ k l t l', f k l = some (t, l') → l' ≤ l) : ∀ (ks : List Nat) (l : Nat) (ts : List Tr) (l' : Nat), readKids f ks l = some (ts, l') → l' ≤ l
  | [], _, _, _, h => by simp [readKids] at h; omega
  | x :: ks, l, ts, l', h => by
    simp only [readKids] at h
    cases hx : f x l with
    | none => rw [hx] at h; simp at h
    | some p =>
      obtain ⟨t, l1⟩ := p
      rw [hx] at h
      simp only at h
      cases hk : readKids f ks l1 with
      | none => rw [hk] at h; simp at h
      | some q =>
        obtain ⟨us, l2⟩ := q
        rw [hk] at h
        simp only [Option.some.injEq, Prod.mk.injEq] at h
        have := hf x l t l1 hx
        have := readKids_left hf ks l1 us l2 hk
        omega
theorem readT_left (g : List Ce) : ∀ (d a l : Nat) (t : Tr) (l' : Nat), readT g d a l = some (t, l') → l' ≤ l
  | 0, _, _, _, _, h => by simp [readT] at h
  | d + 1, a, l, t, l', h => by
    unfold readT at h
    cases hf : followN g g.length a with
    | none => rw [hf] at h; simp at h
    | some b =>
      rw [hf] at h
      cases l with
      | zero => simp at h
      | succ l =>
        simp only at h
        cases hk : readKids (readT g d) (kidsN g b) l with
        | none => rw [hk] at h; simp at h
        | some q =>
          obtain ⟨ts, l2⟩ := q
          rw [hk] at h
          simp only [Option.some.injEq, Prod.mk.injEq] at h
          have := readKids_left (fun k l t l' => readT_left g d k l t l') (kidsN g b) l ts l2 hk
          omega
theorem readT_fol {g : List Ce} {d a l : Nat} (h : followN g g.length a = none) : readT g (d + 1) a l = none := by unfold readT; rw [h]
theorem readT_zero {g : List Ce} {d a : Nat} : readT g (d + 1) a 0 = none := by unfold readT; cases followN g g.length a <;> rfl
theorem readT_bad {g : List Ce} {d a b l : Nat} (h : followN g g.length a = some b) (hk : readKids (readT g d) (kidsN g b) l = none) : readT g (d + 1) a (l + 1) = none := by unfold readT; rw [h]; simp only [hk]
theorem readT_ok {g : List Ce} {d a b l l' : Nat} {ts : List Tr} (hb : b < g.length) (h : followN g g.length a = some b) (hk : readKids (readT g d) (kidsN g b) l = some (ts, l')) : readT g (d + 1) a (l + 1) = some (.node g[b].op g[b].num ts, l') := by
  unfold readT; rw [h]; simp only [hk, getD_at _ _ _ hb]
theorem readKids_sz {f : Nat → Nat → Option (Tr × Nat)} (hf : ∀ k l t l', f k l = some (t, l') → l' + 1 + szT t ≤ l) : ∀ (ks : List Nat) (l : Nat) (ts : List Tr) (l' : Nat), readKids f ks l = some (ts, l') → l' + szL ts ≤ l
  | [], _, _, _, h => by simp [readKids] at h; obtain ⟨rfl, rfl⟩ := h; simp [szL]
  | x :: ks, l, ts, l', h => by
    simp only [readKids] at h
    cases hx : f x l with
    | none => rw [hx] at h; simp at h
    | some p =>
      obtain ⟨t, l1⟩ := p
      rw [hx] at h
      simp only at h
      cases hk : readKids f ks l1 with
      | none => rw [hk] at h; simp at h
      | some q =>
        obtain ⟨us, l2⟩ := q
        rw [hk] at h
        simp only [Option.some.injEq, Prod.mk.injEq] at h
        obtain ⟨rfl, rfl⟩ := h
        have := hf x l t l1 hx
        have := readKids_sz hf ks l1 us l2 hk
        simp only [szL]
        omega
theorem readT_sz (g : List Ce) : ∀ (d a l : Nat) (t : Tr) (l' : Nat), readT g d a l = some (t, l') → l' + 1 + szT t ≤ l
  | 0, _, _, _, _, h => by simp [readT] at h
  | d + 1, a, l, t, l', h => by
    unfold readT at h
    cases hf : followN g g.length a with
    | none => rw [hf] at h; simp at h
    | some b =>
      rw [hf] at h
      cases l with
      | zero => simp at h
      | succ l =>
        simp only at h
        cases hk : readKids (readT g d) (kidsN g b) l with
        | none => rw [hk] at h; simp at h
        | some q =>
          obtain ⟨ts, l2⟩ := q
          rw [hk] at h
          simp only [Option.some.injEq, Prod.mk.injEq] at h
          obtain ⟨rfl, rfl⟩ := h
          have := readKids_sz (fun k l t l' => readT_sz g d k l t l') (kidsN g b) l ts l2 hk
          rw [szT_eq]
          simp only [Tr.kids_node]
          omega
end Go.Proofs.Ytglpehelmlehiaa
/-
  WHAT ReadGraph ANSWERS, plainly.
-/
namespace Go.Proofs.Ytglpehelmlehiaa
set_option linter.unusedVariables false
set_option linter.unusedSimpArgs false
open Go.RowKit

/-- what ReadGraph answers -/
def readB (g : List Ce) (root defs : Int) : Option Tr := if graphB g defs = true ∧ isAt g.length root = true then (readT g 16 root.toNat 60).map (·.1) else none
/-- an expression in new memory, all blocks distinct, and whether there is one -/
def ReadOut (o : Option Tr) (w : World) (e : Ending) (w' : World) : Prop :=
  match o with
  | none => e = .returned (.tuple #[.agg #[.int .i64 0, .int .i64 0, .slice none 0 0], .bool false]) ∧ Below w.heap.size w w'
  | some t => ∃ v, e = .returned (.tuple #[.agg #[.int .i64 t.op, .int .i64 t.num, v], .bool true]) ∧ Fresh w' w.heap.size t.kids v ∧ I64 t.op ∧ I64 t.num ∧ Below w.heap.size w w'
theorem graphB_six {g : List Ce} {defs : Int} (h : graphB g defs = true) : graphB g 6 = true := by
  unfold graphB at h ⊢
  simp only [Bool.and_eq_true, decide_eq_true_eq, List.all_eq_true] at h ⊢
  obtain ⟨h1, h2⟩ := h
  refine ⟨by omega, fun c hc => ?_⟩
  have h3 := h2 c hc
  unfold cellB fitsB at h3 ⊢
  simp only [Bool.and_eq_true] at h3 ⊢
  refine ⟨⟨h3.1.1, ?_⟩, h3.2⟩
  have h4 := h3.1.2
  unfold ownB at h4 ⊢
  by_cases e1 : c.op = 1
  · rw [if_pos e1] at h4 ⊢; exact h4
  rw [if_neg e1] at h4 ⊢
  by_cases e2 : c.op = 2
  · rw [if_pos e2] at h4 ⊢; exact h4
  rw [if_neg e2] at h4 ⊢
  by_cases e3 : c.op = 3
  · rw [if_pos e3] at h4 ⊢; simp at h4 ⊢; omega
  rw [if_neg e3] at h4 ⊢; exact h4
theorem readB_no {g : List Ce} {root defs : Int} (h : ¬ (graphB g defs = true ∧ isAt g.length root = true)) : readB g root defs = none := by unfold readB; rw [if_neg h]
theorem readB_yes {g : List Ce} {root defs : Int} (h : graphB g defs = true ∧ isAt g.length root = true) : readB g root defs = (readT g 16 root.toNat 60).map (·.1) := by unfold readB; rw [if_pos h]

/-- the result's box is written: another block stays -/
theorem box_stay {w : World} {R B : Nat} {x y z : Value} {o : Obj} (h : w.heap[R]? = some o) (hne : R ≠ B) : (((w.setCell ⟨B, 0, none⟩ x).setCell ⟨B, 1, none⟩ y).setCell ⟨B, 2, none⟩ z).heap[R]? = some o := by
  rw [Below.heap_setCell _ _ _ _ (by show R ≠ B; exact hne), Below.heap_setCell _ _ _ _ (by show R ≠ B; exact hne), Below.heap_setCell _ _ _ _ (by show R ≠ B; exact hne)]
  exact h
theorem box_but {fp : List Nat} {w w1 : World} {x y z : Value} (h : Below w.heap.size w w1) : ButL fp w (((w1.setCell ⟨w.heap.size, 0, none⟩ x).setCell ⟨w.heap.size, 1, none⟩ y).setCell ⟨w.heap.size, 2, none⟩ z) :=
  ButL.of_below (((h.setCell (Nat.le_refl _) _).setCell (Nat.le_refl _) _).setCell (Nat.le_refl _) _)

theorem readB_sz (g : List Ce) (root defs : Int) : ∀ t, readB g root defs = some t → szT t ≤ 60 := by
  intro t h
  unfold readB at h
  split at h
  · cases hr : readT g 16 root.toNat 60 with
    | none => rw [hr] at h; simp at h
    | some q =>
      obtain ⟨t', l⟩ := q
      rw [hr] at h
      simp only [Option.map_some, Option.some.injEq] at h
      subst h
      have := readT_sz g 16 _ _ _ _ hr
      omega
  · simp at h
theorem fresh_shape {w : World} {lo : Nat} {ks : List Tr} {v : Value} (h : Fresh w lo ks v) : ∃ ad cap, v = .slice ad ks.length cap := by
  obtain ⟨ad, cap, e, -⟩ := h.on
  exact ⟨ad, cap, e⟩
theorem fresh_nil (w : World) (lo : Nat) : Fresh w lo [] (.slice none 0 0) := (OwnF.nil w lo lo).fresh
/-- both ways in one form -/
theorem readOut_one (o : Option Tr) (hs : ∀ t, o = some t → szT t ≤ 60) : ∃ (t : Tr) (b : Bool), szL t.kids ≤ 60 ∧ ∀ (W : World) (en : Ending) (w' : World), ReadOut o W en w' → ∃ v, en = .returned (.tuple #[.agg #[.int .i64 t.op, .int .i64 t.num, v], .bool b]) ∧ Fresh w' W.heap.size t.kids v ∧ Below W.heap.size W w' := by
  cases o with
  | none => exact ⟨.node 0 0 [], false, by simp [szL], fun W en w' h => ⟨_, h.1, fresh_nil _ _, h.2⟩⟩
  | some t => exact ⟨t, true, by rw [← szT_eq]; exact hs t rfl, fun W en w' h => by obtain ⟨v, h1, h2, -, -, h3⟩ := h; exact ⟨v, h1, h2, h3⟩⟩
end Go.Proofs.Ytglpehelmlehiaa
/-
  PLAIN: A COPY IS COPIED AS THE GRAPH IS. What is copied out of a copy is what is copied out of the graph; so copying is final. No program is named here.
-/
namespace Go.Proofs.Ytglpehelmlehiaa
set_option linter.unusedVariables false
set_option linter.unusedSimpArgs false

theorem copyG_okV {g : List Ce} {defs : Int} {roots : List Nat} (hg : graphB g defs = true) (hr : ∀ x ∈ roots, x < g.length) : graphB (copyG g roots) defs = true := by
  have h6 := graphB_six hg
  have hcs := order_cs h6 hr
  have hcl := order_closed h6 hr
  have hb := (graphB_iff.1 hg).1
  refine graphB_iff.2 ⟨⟨?_, hb.2⟩, fun c hc => ?_⟩
  · rw [copyG_len]; have := hcs.len; omega
  · unfold copyG at hc
    simp only [List.mem_map] at hc
    obtain ⟨a, ha, rfl⟩ := hc
    have hal := hcs.2 a ha
    have hf := ((graphB_iff.1 hg).2 g[a] (List.getElem_mem hal)).1
    refine ⟨?_, fun k hk => ?_⟩
    · unfold fitsB at hf ⊢
      have e : (cpCell g (orderG g roots) a).kids.length = g[a].kids.length := by
        show ((kidsN g a).map _).length = _
        rw [List.length_map]
        unfold kidsN
        rw [List.length_map, getD_at _ _ _ hal]
      rw [e, show (cpCell g (orderG g roots) a).op = g[a].op from opAt_at a hal, show (cpCell g (orderG g roots) a).num = g[a].num from numAt_at a hal]
      exact hf
    · simp only [cpCell, List.mem_map] at hk
      obtain ⟨y, hy, rfl⟩ := hk
      have := posN_lt _ y (hcl a ha y hy)
      rw [copyG_len]
      omega
theorem posN_inj {o : List Nat} {x y : Nat} (hx : x ∈ o) (hy : y ∈ o) (h : posN o x = posN o y) : x = y := by
  have a := get_posN o x hx
  rw [h, get_posN o y hy] at a
  exact (Option.some.inj a).symm
theorem posN_mapL {o : List Nat} : ∀ (l : List Nat) (k : Nat), (∀ x ∈ l, x ∈ o) → k ∈ o → posN (l.map (posN o)) (posN o k) = posN l k
  | [], _, _, _ => rfl
  | a :: l, k, hl, hk => by
    rw [List.map_cons]
    unfold posN
    by_cases e : a = k
    · rw [if_pos e, if_pos (by rw [e])]
    · rw [if_neg e, if_neg (fun h => e (posN_inj (hl a (by simp)) hk h)), posN_mapL l k (fun x hx => hl x (by simp [hx])) hk]
theorem mem_mapL {o : List Nat} {out : List Nat} {x : Nat} (ho : ∀ y ∈ out, y ∈ o) (hx : x ∈ o) : posN o x ∈ out.map (posN o) ↔ x ∈ out := by
  rw [List.mem_map]
  constructor
  · rintro ⟨y, hy, e⟩
    rwa [← posN_inj (ho y hy) hx e]
  · exact fun h => ⟨x, h, rfl⟩
theorem visit_mapL {o : List Nat} {out : List Nat} {x : Nat} (ho : ∀ y ∈ out, y ∈ o) (hx : x ∈ o) : visit (out.map (posN o)) (posN o x) = (visit out x).map (posN o) := by
  by_cases h : x ∈ out
  · rw [visit_in h, visit_in ((mem_mapL ho hx).2 h)]
  · rw [visit_new h, visit_new (fun e => h ((mem_mapL ho hx).1 e)), List.map_append]; rfl
theorem visitL_mapL {o : List Nat} : ∀ (l out : List Nat), (∀ y ∈ out, y ∈ o) → (∀ y ∈ l, y ∈ o) → visitL (out.map (posN o)) (l.map (posN o)) = (visitL out l).map (posN o)
  | [], _, _, _ => rfl
  | x :: l, out, ho, hl => by
    rw [List.map_cons, visitL_cons, visitL_cons, visit_mapL ho (hl x (by simp))]
    exact visitL_mapL l _ (fun y hy => by
      rcases visit_of hy with h | rfl
      · exact ho y h
      · exact hl _ (by simp)) fun y hy => hl y (by simp [hy])
/-- an order, and the copy that it gives -/
structure CpOf (g : List Ce) (o : List Nat) (h : List Ce) : Prop where
  eq : h = o.map (cpCell g o)
  nd : o.Nodup
  lt : ∀ x ∈ o, x < g.length
  cl : ∀ x ∈ o, ∀ k ∈ kidsN g x, k ∈ o
theorem CpOf.at {g : List Ce} {o : List Nat} {h : List Ce} (c : CpOf g o h) {x : Nat} (hx : x ∈ o) : h.getD (posN o x) ⟨0, 0, []⟩ = cpCell g o x := by
  rw [c.eq, List.getD_eq_getElem?_getD, List.getElem?_map, get_posN o x hx]; rfl
theorem CpOf.op {g : List Ce} {o : List Nat} {h : List Ce} (c : CpOf g o h) {x : Nat} (hx : x ∈ o) : opAt h (posN o x) = opAt g x := by unfold opAt; rw [c.at hx]; rfl
theorem CpOf.num {g : List Ce} {o : List Nat} {h : List Ce} (c : CpOf g o h) {x : Nat} (hx : x ∈ o) : numAt h (posN o x) = numAt g x := by unfold numAt; rw [c.at hx]; rfl
theorem CpOf.kids {g : List Ce} {o : List Nat} {h : List Ce} (c : CpOf g o h) {x : Nat} (hx : x ∈ o) : kidsN h (posN o x) = (kidsN g x).map (posN o) := by
  unfold kidsN
  rw [c.at hx]
  show ((kidsN g x).map fun k => (posN o k : Int)).map Int.toNat = _
  rw [List.map_map]
  exact List.map_congr_left fun k _ => by simp
theorem CpOf.ordN {g : List Ce} {o : List Nat} {h : List Ce} (c : CpOf g o h) : ∀ (n i : Nat) (out : List Nat), (∀ x ∈ out, x ∈ o) → ordN h n i (out.map (posN o)) = (ordN g n i out).map (posN o)
  | 0, _, _, _ => rfl
  | n + 1, i, out, ho => by
    unfold Proofs.Ytglpehelmlehiaa.ordN
    rw [List.length_map]
    by_cases hi : i < out.length
    · rw [if_pos hi, if_pos hi]
      have e : (out.map (posN o)).getD i 0 = posN o (out.getD i 0) := by
        rw [List.getD_eq_getElem?_getD, List.getElem?_map, List.getElem?_eq_getElem hi, getD_at _ _ _ hi]; rfl
      have hm : out.getD i 0 ∈ o := by rw [getD_at _ _ _ hi]; exact ho _ (List.getElem_mem hi)
      rw [e, c.kids hm, visitL_mapL _ _ ho (c.cl _ hm)]
      exact c.ordN n (i + 1) _ fun x hx => by
        rcases visitL_of _ _ _ hx with h1 | h1
        · exact ho x h1
        · exact c.cl _ hm x h1
    · rw [if_neg hi, if_neg hi]
/-- more rounds than there are cells change nothing -/
theorem ordN_more {g : List Ce} {o : List Nat} (cl : ∀ x ∈ o, ∀ k ∈ kidsN g x, k ∈ o) : ∀ (n d i : Nat) (out : List Nat), out.Nodup → (∀ x ∈ out, x ∈ o) → o.length < n + i → ordN g (n + d) i out = ordN g n i out
  | 0, d, i, out, hn, ho, hl => by
    have := nodup_in out o hn ho
    cases d with
    | zero => rfl
    | succ d =>
      rw [Nat.zero_add]
      unfold ordN
      rw [if_neg (by omega)]
  | n + 1, d, i, out, hn, ho, hl => by
    rw [show n + 1 + d = (n + d) + 1 by omega]
    unfold ordN
    by_cases hi : i < out.length
    · rw [if_pos hi, if_pos hi]
      have hm : out.getD i 0 ∈ o := by rw [getD_at _ _ _ hi]; exact ho _ (List.getElem_mem hi)
      exact ordN_more cl n d (i + 1) _ (visitL_nodup _ _ hn) (fun x hx => by
        rcases visitL_of _ _ _ hx with h1 | h1
        · exact ho x h1
        · exact cl _ hm x h1) (by omega)
    · rw [if_neg hi, if_neg hi]
theorem CpOf.order {g : List Ce} {o : List Nat} {h : List Ce} (c : CpOf g o h) (rs : List Nat) (hr : ∀ x ∈ rs, x ∈ o) : orderG h (rs.map (posN o)) = (orderG g rs).map (posN o) := by
  have hol : o.length ≤ g.length := nodup_len c.nd c.lt
  have hl : h.length = o.length := by rw [c.eq, List.length_map]
  have ho : ∀ x ∈ visitL [] rs, x ∈ o := fun x hx => by
    rcases visitL_of _ _ _ hx with h1 | h1
    · simp at h1
    · exact hr x h1
  unfold orderG
  have e1 := visitL_mapL (o := o) rs [] (by simp) hr
  rw [List.map_nil] at e1
  rw [e1, c.ordN _ _ _ ho, hl, show g.length + 1 = (o.length + 1) + (g.length - o.length) by omega, ordN_more c.cl (o.length + 1) (g.length - o.length) 0 _ (visitL_nodup _ _ (by simp)) ho (by omega)]
theorem CpOf.sub {g : List Ce} {o : List Nat} {h : List Ce} (c : CpOf g o h) (rs : List Nat) (hr : ∀ x ∈ rs, x ∈ o) : ∀ x ∈ orderG g rs, x ∈ o := by
  unfold orderG
  exact ordN_all (P := fun x => x ∈ o) (fun a ha k hk => c.cl a ha k hk) _ _ _ fun x hx => by
    rcases visitL_of _ _ _ hx with h1 | h1
    · simp at h1
    · exact hr x h1
/-- what is copied out of the copy is what is copied out of the graph -/
theorem CpOf.copy {g : List Ce} {o : List Nat} {h : List Ce} (c : CpOf g o h) (rs : List Nat) (hr : ∀ x ∈ rs, x ∈ o) (hcl : ∀ x ∈ orderG g rs, ∀ k ∈ kidsN g x, k ∈ orderG g rs) : copyG h (rs.map (posN o)) = copyG g rs := by
  unfold copyG
  rw [c.order rs hr, List.map_map]
  refine List.map_congr_left fun x hx => ?_
  have hxo := c.sub rs hr x hx
  show cpCell h ((orderG g rs).map (posN o)) (posN o x) = cpCell g (orderG g rs) x
  unfold cpCell
  rw [c.op hxo, c.num hxo, c.kids hxo, List.map_map]
  congr 1
  refine List.map_congr_left fun k hk => ?_
  show ((posN ((orderG g rs).map (posN o)) (posN o k) : Nat) : Int) = _
  rw [posN_mapL _ _ (c.sub rs hr) (c.cl x hxo k hk)]
theorem CpOf.tops {g : List Ce} {o : List Nat} {h : List Ce} (c : CpOf g o h) (rs : List Nat) (hr : ∀ x ∈ rs, x ∈ o) : topsG h (rs.map (posN o)) = topsG g rs := by
  unfold topsG
  rw [c.order rs hr, List.map_map]
  exact List.map_congr_left fun x hx => posN_mapL _ _ (c.sub rs hr) (hr x hx)
theorem cpOf {g : List Ce} {rs : List Nat} (hg : graphB g 6 = true) (hr : ∀ x ∈ rs, x < g.length) : CpOf g (orderG g rs) (copyG g rs) :=
  ⟨rfl, (order_cs hg hr).1, (order_cs hg hr).2, order_closed hg hr⟩
/-- copying is final -/
theorem copy_twice {g : List Ce} {rs : List Nat} (hg : graphB g 6 = true) (hr : ∀ x ∈ rs, x < g.length) : copyG (copyG g rs) (topsG g rs) = copyG g rs ∧ topsG (copyG g rs) (topsG g rs) = topsG g rs ∧ (orderG (copyG g rs) (topsG g rs)).length = (copyG g rs).length := by
  have c := cpOf hg hr
  have hrt := order_root hg hr
  refine ⟨c.copy rs hrt (order_closed hg hr), c.tops rs hrt, ?_⟩
  have e := c.order rs hrt
  show (orderG (copyG g rs) (rs.map (posN (orderG g rs)))).length = _
  rw [e, List.length_map, copyG_len]
/-- each root's part of the copy is its part of the graph -/
theorem copy_part {g : List Ce} {rs : List Nat} (hg : graphB g 6 = true) (hr : ∀ x ∈ rs, x < g.length) (r : Nat) (h : r ∈ rs) : copyG (copyG g rs) [posN (orderG g rs) r] = copyG g [r] := by
  have c := cpOf hg hr
  have hrt := order_root hg hr
  have hr1 : ∀ x ∈ [r], x < g.length := fun x hx => by rw [List.mem_singleton] at hx; subst hx; exact hr _ h
  exact c.copy [r] (fun x hx => by rw [List.mem_singleton] at hx; subst hx; exact hrt _ h) (order_closed hg hr1)
theorem nat_pl (ws : List Nat) : natL (plI ws) = ws := by
  unfold natL plI
  rw [List.map_map]
  conv => rhs; rw [← List.map_id ws]
  exact List.map_congr_left fun a _ => by simp
/-- the answers of a copy can be copied -/
theorem root_copy {g : List Ce} {X : List Int} (h : rootB g X = true) : rootB (copyO g X).1 (plI (copyO g X).2) = true := by
  have hg := (rootB_iff.1 h).1
  have hr := root_lt h
  rw [copyO_yes h]
  refine rootB_iff.2 ⟨copyG_okV hg hr, ?_, ?_⟩
  · rw [plI_length]
    unfold topsG
    rw [List.length_map, natL_len]
    exact (rootB_iff.1 h).2.1
  · rw [List.all_eq_true]
    intro x hx
    unfold plI topsG at hx
    rw [List.mem_map] at hx
    obtain ⟨a, ha, rfl⟩ := hx
    rw [List.mem_map] at ha
    obtain ⟨b, hb, rfl⟩ := ha
    have := posN_lt _ _ (order_root hg hr b hb)
    rw [copyG_len]
    unfold isAt
    simp
    omega
theorem copyO_twice {g : List Ce} {X : List Int} (h : rootB g X = true) : copyO (copyO g X).1 (plI (copyO g X).2) = copyO g X ∧ (orderO (copyO g X).1 (plI (copyO g X).2)).length = (copyO g X).1.length := by
  have hr := root_copy h
  obtain ⟨t1, t2, t3⟩ := copy_twice (rootB_iff.1 h).1 (root_lt h)
  rw [copyO_yes hr, orderO_yes hr, nat_pl, copyO_yes h]
  exact ⟨by rw [t1, t2], t3⟩
theorem sameC_self (c : Ce) : sameC c c = true := by
  unfold sameC
  rw [sameL_yes sameI c.kids c.kids rfl fun k h _ => by unfold sameI; simp]
  simp
theorem sameG_self (g : List Ce) : sameG g g = true := sameL_yes sameC g g rfl fun k _ _ => sameC_self _
/-- each root's part of the copy is its part of the graph, as SameFrom has it -/
theorem copy_same {g : List Ce} {X : List Int} (h : rootB g X = true) (k : Nat) (hk : k < X.length) (hk2 : k < (plI (copyO g X).2).length) : sameO g X[k] (copyO g X).1 (plI (copyO g X).2)[k] = true := by
  have hg := (rootB_iff.1 h).1
  have hr := root_lt h
  have h3 := (rootB_iff.1 h).2.2
  have h4 := (rootB_iff.1 (root_copy h)).2.2
  have h5 := (rootB_iff.1 (root_copy h)).1
  rw [List.all_eq_true] at h3 h4
  have ha : rootB g [X[k]] = true := by rw [root_one, hg, h3 _ (List.getElem_mem hk)]; rfl
  have hb : rootB (copyO g X).1 [(plI (copyO g X).2)[k]] = true := by rw [root_one, h5, h4 _ (List.getElem_mem hk2)]; rfl
  rw [sameO_yes ha hb, nat_one, nat_one]
  have e : ((plI (copyO g X).2)[k]).toNat = posN (orderG g (natL X)) X[k].toNat := by
    simp only [copyO_yes h, plI, topsG, natL, List.getElem_map, Int.toNat_natCast]
  rw [e]
  have hm : X[k].toNat ∈ natL X := List.mem_map.2 ⟨_, List.getElem_mem hk, rfl⟩
  have hc := copy_part hg hr _ hm
  rw [show (copyO g X).1 = copyG g (natL X) by rw [copyO_yes h], hc]
  exact sameG_self _
theorem tops_len {g : List Ce} {X : List Int} (h : rootB g X = true) : (plI (copyO g X).2).length = X.length := by
  rw [copyO_yes h, plI_length]
  unfold topsG
  rw [List.length_map, natL_len]
end Go.Proofs.Ytglpehelmlehiaa
/-
  THE PROGRAM's GraphSame (slices.EqualFunc, cellSame, slices.Equal); nothing that was there is changed.
-/
namespace Go.Proofs.Ytglpehelmlehiaa
set_option linter.unusedVariables false
set_option linter.unusedSimpArgs false
open Go.RowKit

set_option maxHeartbeats 800000 in
theorem equalI_calls (xs ys : List Int) (u v : Value) (w : World) (hu : IIn w xs u) (hv : IIn w ys v) :
    Calls Try.prog 94 #[u, v] w fun e w' => e = .returned (.bool (sameL sameI xs ys)) ∧ Below w.heap.size w w' := by
  have HU : Hid (IIn w xs u) := hu
  have HV : Hid (IIn w ys v) := hv
  obtain ⟨ad, cap, rfl, hl, hm, -⟩ := hu
  obtain ⟨ad', cap', rfl, hl', hm', -⟩ := hv
  unfold maxLen at hm hm'
  by_cases hlen : xs.length = ys.length
  · have t1 : ((xs.length : Int) != ys.length) = false := by simp [hlen]
    have HL : Hid (xs.length = ys.length) := hlen
    clear hlen
    go_enter Try.func94, Try.ntmps94
    go_wp2_with fail
    go_loopw [13] (fun i wr => ∃ k : Nat, k ≤ xs.length ∧ i = .int .i64 k ∧ (∀ j (h : j < xs.length) (h' : j < ys.length), j < k → sameI xs[j] ys[j] = true) ∧ ∃ n, wr = w.drewN n) (fun i _ => xs.length - (intOf i).toNat)
    case atStart => exact ⟨0, Nat.zero_le _, rfl, fun j _ _ h => absurd h (by omega), 0, rfl⟩
    case round =>
      obtain ⟨k, hk, rfl, hall, n, rfl⟩ := hrel
      have HA : Hid (∀ j (h : j < xs.length) (h' : j < ys.length), j < k → sameI xs[j] ys[j] = true) := hall
      clear hall
      by_cases hlt : k < xs.length
      · have hlt2 : k < ys.length := by have := HL.out; omega
        obtain ⟨bl, off, rfl, c0⟩ := HU.out.at k hlt
        obtain ⟨bl', off', rfl, d0⟩ := HV.out.at k hlt2
        by_cases hx : xs[k] = ys[k]
        · have t2 : (xs[k] != ys[k]) = false := by simp [hx]
          have HA2 : Hid (∀ j (h : j < xs.length) (h' : j < ys.length), j < k + 1 → sameI xs[j] ys[j] = true) := by
            intro j h h' hj
            by_cases e : j = k
            · subst e; unfold sameI; simpa using hx
            · exact HA.out j h h' (by omega)
          clear hx
          go_wp2_with fail
          go_quiet (fail)
          go_wp2_with fail
          go_roundw
          case rel => exact ⟨k + 1, by omega, by go_num, HA2.out, _, rfl⟩
          case measure => simp [intOf]; omega
        · have t2 : (xs[k] != ys[k]) = true := by simpa using hx
          have HV2 : Hid (sameL sameI xs ys = false) := sameL_no _ _ _ k hlt hlt2 (by unfold sameI; simpa using hx)
          clear hx
          go_wp2_with fail
          go_quiet (fail)
          go_wp2_with fail
          go_ret
          exact ⟨ret_bool HV2.out.symm, below_drewN (below_drewN (Below.refl _ _) _) _⟩
      · have HV2 : Hid (sameL sameI xs ys = true) := sameL_yes _ _ _ HL.out fun j h h' => HA.out j h h' (by omega)
        go_wp2_with fail
        go_ret
        exact ⟨ret_bool HV2.out.symm, below_drewN (Below.refl _ _) _⟩
  · have t1 : ((xs.length : Int) != ys.length) = true := by simp; omega
    have HV2 : Hid (sameL sameI xs ys = false) := sameL_len _ _ _ hlen
    clear hlen
    go_enter Try.func94, Try.ntmps94
    go_wp2_with fail
    go_ret
    exact ⟨ret_bool HV2.out.symm, Below.refl _ _⟩

set_option maxHeartbeats 800000 in
theorem cellSame_calls (a b : Ce) (u v : Value) (w : World) (hu : IIn w a.kids u) (hv : IIn w b.kids v) :
    Calls Try.prog 70 #[.agg #[.int .i64 a.op, .int .i64 a.num, u], .agg #[.int .i64 b.op, .int .i64 b.num, v]] w fun e w' => e = .returned (.bool (sameC a b)) ∧ Below w.heap.size w w' := by
  have HU : Hid (IIn w a.kids u) := hu
  have HV : Hid (IIn w b.kids v) := hv
  have hb0 : ∀ o1 o2, Below w.heap.size w ((w.alloc o1).alloc o2) := fun o1 o2 => ((Below.refl _ _).alloc (Nat.le_refl _) _).alloc (by simp) _
  have HB0 : Hid (∀ o1 o2, Below w.heap.size w ((w.alloc o1).alloc o2)) := hb0
  clear hu hv hb0
  by_cases ho : a.op = b.op
  · by_cases hn : a.num = b.num
    · have HS : Hid (sameC a b = sameL sameI a.kids b.kids) := sameC_kids ho hn
      have t1 : (a.op == b.op) = true := by simpa using ho
      have t2 : (a.num == b.num) = true := by simpa using hn
      clear ho hn
      go_enter Try.func70, Try.ntmps70
      go_wp2_with fail
      refine (equalI_calls a.kids b.kids u v _ (HU.out.next (HB0.out _ _)) (HV.out.next (HB0.out _ _))).mono ?_
      rintro e w1 ⟨rfl, hb⟩
      have HB : Hid (Below w.heap.size w w1) := (HB0.out _ _).trans (hb.mono (by simp; omega))
      clear hb
      go_wp2_with fail
      go_ret
      exact ⟨ret_bool HS.out.symm, HB.out⟩
    · have HS : Hid (sameC a b = false) := sameC_num hn
      have t1 : (a.op == b.op) = true := by simpa using ho
      have t2 : (a.num == b.num) = false := by simpa using hn
      clear ho hn
      go_enter Try.func70, Try.ntmps70
      go_wp2_with fail
      go_ret
      exact ⟨ret_bool HS.out.symm, HB0.out _ _⟩
  · have HS : Hid (sameC a b = false) := sameC_op ho
    have t1 : (a.op == b.op) = false := by simpa using ho
    clear ho
    go_enter Try.func70, Try.ntmps70
    go_wp2_with fail
    go_ret
    exact ⟨ret_bool HS.out.symm, HB0.out _ _⟩

set_option maxHeartbeats 1600000 in
theorem equalFunc_calls (a b : List Ce) (u v : Value) (w : World) (hu : CIn w a u) (hv : CIn w b v) :
    Calls Try.prog 69 #[u, v, .func (.func 70) #[] #[]] w fun e w' => e = .returned (.bool (sameG a b)) ∧ Below w.heap.size w w' := by
  have HU : Hid (CIn w a u) := hu
  have HV : Hid (CIn w b v) := hv
  obtain ⟨ad, cap, rfl, hl, hm, -⟩ := hu
  obtain ⟨ad', cap', rfl, hl', hm', -⟩ := hv
  unfold maxLen at hm hm'
  by_cases hlen : a.length = b.length
  · have t1 : ((a.length : Int) != b.length) = false := by simp [hlen]
    have HL : Hid (a.length = b.length) := hlen
    clear hlen
    go_enter Try.func69, Try.ntmps69
    go_wp2_with fail
    go_loopw [17] (fun i wr => ∃ k : Nat, k ≤ a.length ∧ i = .int .i64 k ∧ (∀ j (h : j < a.length) (h' : j < b.length), j < k → sameC a[j] b[j] = true) ∧ Below w.heap.size w wr) (fun i _ => a.length - (intOf i).toNat)
    case atStart => exact ⟨0, Nat.zero_le _, rfl, fun j _ _ h => absurd h (by omega), Below.refl _ _⟩
    case round =>
      obtain ⟨k, hk, rfl, hall, hb⟩ := hrel
      have HA : Hid (∀ j (h : j < a.length) (h' : j < b.length), j < k → sameC a[j] b[j] = true) := hall
      have HB : Hid (Below w.heap.size w wr) := hb
      clear hall hb
      by_cases hlt : k < a.length
      · have hlt2 : k < b.length := by have := HL.out; omega
        obtain ⟨bl, off, r, rfl, c0, c1, c2, -, -, hkk⟩ := (HU.out.next HB.out).at k hlt
        obtain ⟨bl', off', r', rfl, d0, d1, d2, -, -, hkk'⟩ := (HV.out.next HB.out).at k hlt2
        obtain ⟨ad2, cap2, rfl, -, -, -⟩ := id hkk
        obtain ⟨ad3, cap3, rfl, -, -, -⟩ := id hkk'
        have HK1 : Hid (IIn wr a[k].kids (.slice ad2 a[k].kids.length cap2)) := hkk
        have HK2 : Hid (IIn wr b[k].kids (.slice ad3 b[k].kids.length cap3)) := hkk'
        clear hkk hkk'
        have q0 := old_cell d0 (.cells #[.int .i64 a[k].op, .int .i64 a[k].num, .slice ad2 a[k].kids.length cap2] 48)
        have q1 := old_cell d1 (.cells #[.int .i64 a[k].op, .int .i64 a[k].num, .slice ad2 a[k].kids.length cap2] 48)
        have q2 := old_cell d2 (.cells #[.int .i64 a[k].op, .int .i64 a[k].num, .slice ad2 a[k].kids.length cap2] 48)
        clear d0 d1 d2
        go_wp2_with fail
        have hb0 : ∀ o1 o2, Below wr.heap.size wr ((wr.alloc o1).alloc o2) := fun o1 o2 => ((Below.refl _ _).alloc (Nat.le_refl _) _).alloc (by simp) _
        refine (cellSame_calls a[k] b[k] _ _ _ (HK1.out.next (hb0 _ _)) (HK2.out.next (hb0 _ _))).mono ?_
        rintro e w1 ⟨rfl, hb1⟩
        have HB1 : Hid (Below w.heap.size w w1) := HB.out.trans (((hb0 _ _).trans (hb1.mono (by simp; omega))).mono HB.out.size)
        clear hb1 hb0 c0 c1 c2 q0 q1 q2
        cases hx : sameC a[k] b[k] with
        | true =>
          have HA2 : Hid (∀ j (h : j < a.length) (h' : j < b.length), j < k + 1 → sameC a[j] b[j] = true) := by
            intro j h h' hj
            by_cases e : j = k
            · subst e; exact hx
            · exact HA.out j h h' (by omega)
          clear hx
          go_wp2_with fail
          go_roundw
          case rel => exact ⟨k + 1, by omega, by go_num, HA2.out, HB1.out⟩
          case measure => simp [intOf]; omega
        | false =>
          have HV2 : Hid (sameG a b = false) := sameL_no _ _ _ k hlt hlt2 hx
          clear hx
          go_wp2_with fail
          go_ret
          exact ⟨ret_bool HV2.out.symm, HB1.out⟩
      · have HV2 : Hid (sameG a b = true) := sameL_yes _ _ _ HL.out fun j h h' => HA.out j h h' (by omega)
        go_wp2_with fail
        go_ret
        exact ⟨ret_bool HV2.out.symm, HB.out⟩
  · have t1 : ((a.length : Int) != b.length) = true := by simp; omega
    have HV2 : Hid (sameG a b = false) := sameL_len _ _ _ hlen
    clear hlen
    go_enter Try.func69, Try.ntmps69
    go_wp2_with fail
    go_ret
    exact ⟨ret_bool HV2.out.symm, Below.refl _ _⟩

set_option maxHeartbeats 400000 in
theorem implSameG_calls (a b : List Ce) (u v : Value) (w : World) (hu : CIn w a u) (hv : CIn w b v) :
    Calls Try.prog 33 #[u, v] w fun e w' => e = .returned (.bool (sameG a b)) ∧ Below w.heap.size w w' := by
  have HU : Hid (CIn w a u) := hu
  have HV : Hid (CIn w b v) := hv
  clear hu hv
  go_enter Try.func33, Try.ntmps33
  go_wp2_with fail
  refine (equalFunc_calls a b u v _ HU.out HV.out).mono ?_
  rintro e w1 ⟨rfl, hb⟩
  have HB : Hid (Below w.heap.size w w1) := hb
  clear hb
  go_wp2_with fail
  go_ret
  exact ⟨rfl, HB.out⟩
end Go.Proofs.Ytglpehelmlehiaa
/-
  THE PROGRAM's hasCell.
-/
namespace Go.Proofs.Ytglpehelmlehiaa
set_option linter.unusedVariables false
set_option linter.unusedSimpArgs false
open Go.RowKit

set_option maxHeartbeats 800000 in
theorem hasCell_calls (g : List Ce) (a : Int) (v : Value) (w : World) (hk : CIn w g v) :
    Calls Try.prog 75 #[v, .int .i64 a] w fun e w' => e = .returned (.bool (graphB g 6 && isAt g.length a)) ∧ Below w.heap.size w w' := by
  have HK : Hid (CIn w g v) := hk
  obtain ⟨ad, cap, rfl, hl, hm, -⟩ := hk
  unfold maxLen at hm
  go_enter Try.func75, Try.ntmps75
  go_wp2_with fail
  refine (implGraph_calls g 6 _ _ HK.out).mono ?_
  rintro e w1 ⟨rfl, hb1⟩
  have HB1 : Hid (Below w.heap.size w w1) := hb1
  clear hb1
  cases hg : graphB g 6 with
  | false =>
    have HV : Hid ((graphB g 6 && isAt g.length a) = false) := by rw [Hid, hg]; rfl
    go_wp2_with fail
    go_ret
    exact ⟨ret_bool HV.out.symm, HB1.out⟩
  | true =>
    have HV : Hid ((graphB g 6 && isAt g.length a) = isAt g.length a) := by rw [Hid, hg]; rfl
    go_wp2_with fail
    refine (isCell_calls g.length cap ad a _ (by omega)).mono ?_
    rintro e w2 ⟨rfl, hb2⟩
    have HB2 : Hid (Below w.heap.size w w2) := HB1.out.trans (hb2.mono HB1.out.size)
    clear hb2
    go_wp2_with fail
    go_ret
    exact ⟨ret_bool HV.out.symm, HB2.out⟩

theorem isAt_iff {n a : Int} : isAt n a = true ↔ 0 ≤ a ∧ a < n := by unfold isAt; simp
end Go.Proofs.Ytglpehelmlehiaa
/-
  A ROW OF ONE NUMBER, just laid.
-/
namespace Go.Proofs.Ytglpehelmlehiaa
set_option linter.unusedVariables false
set_option linter.unusedSimpArgs false
open Go.RowKit

theorem one_inI (w : World) (a : Int) : IIn (w.alloc (.cells #[.int .i64 a] 3)) [a] (.slice (some ⟨w.heap.size, 0, none⟩) 1 1) := by
  refine ⟨_, 1, rfl, Nat.le_refl _, by simp [maxLen], Or.inr ⟨_, 0, rfl, by show w.heap.size < _; rw [Deep.nblk_alloc]; omega, fun i hi => ?_⟩⟩
  obtain rfl : i = 0 := by simp at hi; omega
  exact box_cell w #[.int .i64 a] 3 0 _ rfl
end Go.Proofs.Ytglpehelmlehiaa
/-
  THE PROGRAM's SameFrom.
-/
namespace Go.Proofs.Ytglpehelmlehiaa
set_option linter.unusedVariables false
set_option linter.unusedSimpArgs false
open Go.RowKit

set_option maxHeartbeats 1600000 in
theorem implSF_calls (a : List Ce) (x : Int) (b : List Ce) (y : Int) (u v : Value) (w : World) (hu : CIn w a u) (hv : CIn w b v) :
    Calls Try.prog 40 #[u, .int .i64 x, v, .int .i64 y] w fun e w' => e = .returned (.bool (sameO a x b y)) ∧ Below w.heap.size w w' := by
  have HU : Hid (CIn w a u) := hu
  have HW : Hid (CIn w b v) := hv
  have HBX : Hid (∀ (W : World) (n : Int), Below W.heap.size W (W.alloc (.cells #[.int .i64 n] 3))) := fun W n => box_below _ _
  clear hu hv
  go_enter Try.func40, Try.ntmps40
  go_wp2_with fail
  refine (hasCell_calls a x _ _ HU.out).mono ?_
  rintro e w1 ⟨rfl, hb1⟩
  have HB1 : Hid (Below w.heap.size w w1) := hb1
  clear hb1
  rw [← root_one]
  cases hg : rootB a [x] with
  | false =>
    have HV := mkHid (sameO_no1 (b := b) (y := y) hg)
    clear hg
    go_wp2_with fail
    go_ret
    exact ⟨ret_bool HV.out.symm, HB1.out⟩
  | true =>
    have HT := mkHid hg
    clear hg
    go_wp2_with fail
    refine (hasCell_calls b y _ _ (HW.out.next HB1.out)).mono ?_
    rintro e w2 ⟨rfl, hb2⟩
    have HB2 : Hid (Below w.heap.size w w2) := HB1.out.trans (hb2.mono HB1.out.size)
    clear hb2
    rw [← root_one]
    cases hg2 : rootB b [y] with
    | false =>
      have HV := mkHid (sameO_no2 (a := a) (x := x) hg2)
      clear hg2
      go_wp2_with fail
      go_ret
      exact ⟨ret_bool HV.out.symm, HB2.out⟩
    | true =>
      have HT2 := mkHid hg2
      have HV := mkHid (sameO_yes HT.out hg2)
      have HN1 := mkHid (root_back HT.out)
      have HN2 := mkHid (root_back hg2)
      clear hg2
      go_wp2_with fail
      refine (copyFrom_calls a (natL [x]) _ _ _ (HU.out.next (HB2.out.trans ((box_below _ _).mono HB2.out.size))) (by have h := one_inI w2 x; rw [HN1.out] at h; exact h) (rootB_iff.1 HT.out).1 (root_lt HT.out) (by simp [natL])).mono ?_
      rintro e w3 ⟨C, M, fv, gv, ov, tv, S, rfl, hC, hbx, hog, hS, hoo, hot, hb3⟩
      have HB3 : Hid (Below w.heap.size w w3) := HB2.out.trans (((HBX.out w2 x).trans (hb3.mono (HBX.out w2 x).size)).mono HB2.out.size)
      have HO := mkHid (hog.own fun k h _ => (hS k h).1).inn
      have HBOX := mkHid hbx
      have HCl : Hid (C < w3.heap.size) := (Array.getElem?_eq_some_iff.1 hbx).1
      clear hbx hog hS hoo hot hb3
      go_wp2_with fail
      refine (copyFrom_calls b (natL [y]) _ _ _ (HW.out.next (HB3.out.trans ((box_below _ _).mono HB3.out.size))) (by have h := one_inI w3 y; rw [HN2.out] at h; exact h) (rootB_iff.1 HT2.out).1 (root_lt HT2.out) (by simp [natL])).mono ?_
      rintro e w4 ⟨C2, M2, fv2, gv2, ov2, tv2, S2, rfl, hC2, hbx, hog, hS, hoo, hot, hb4⟩
      have HBB : Hid (Below w3.heap.size w3 w4) := (HBX.out w3 y).trans (hb4.mono (HBX.out w3 y).size)
      have HB4 : Hid (Below w.heap.size w w4) := HB3.out.trans (HBB.out.mono HB3.out.size)
      have HO2 := mkHid (hog.own fun k h _ => (hS k h).1).inn
      have HO1 := mkHid (HO.out.next HBB.out)
      have c1 := cell_of_blk ((HBB.out.block C HCl.out).trans HBOX.out) 1 _ rfl
      have c2 := cell_of_blk hbx 1 _ rfl
      clear hbx hog hS hoo hot hb4
      go_wp2_with fail
      go_region_held3 (fun w' => w'.cell? ⟨C, 1, none⟩ = some gv ∧ w'.cell? ⟨C2, 1, none⟩ = some gv2)
        (first | go_keep | exact ⟨c1, c2⟩ | exact ⟨d1, d2⟩)
        (first
          | (go_at_call 33; refine (implSameG_calls _ _ _ _ _ HO1.out.drew HO2.out.drew).mono ?_; rintro e w5 ⟨rfl, hb5⟩; have HB5 : Hid (Below w.heap.size w w5) := HB4.out.trans ((((Below.refl _ _).drew).trans hb5).mono HB4.out.size); have d1 := (hb5.cell (p := ⟨C, 1, none⟩) (cell_lt c1)).trans c1; have d2 := (hb5.cell (p := ⟨C2, 1, none⟩) (cell_lt c2)).trans c2; clear hb5))
      go_wp2_with fail
      go_ret
      exact ⟨ret_bool HV.out.symm, HB5.out⟩
end Go.Proofs.Ytglpehelmlehiaa
