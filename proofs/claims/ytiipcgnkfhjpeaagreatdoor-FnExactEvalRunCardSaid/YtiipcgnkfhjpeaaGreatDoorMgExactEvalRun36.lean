/-
  THE PROGRAM's copier IN MEMORY; one cell more.
-/
import Derived.Test.YtiipcgnkfhjpeaaGreatDoorMgExactEvalRun35
import Derived.Test.YtiipcgnkfhjpeaaGreatDoorMgExactEvalRun29
import Derived.Deep.DeepCutAuto
namespace Go.Proofs.YtiipcgnkfhjpeaaGreatDoor
set_option linter.unusedVariables false
set_option linter.unusedSimpArgs false
open Go.RowKit

/-- a copier in block C, its map in block M; its blocks are of U; the old space lies below lo -/
structure CopW (C M lo : Nat) (g : List Ce) (fv : Value) (o : List Nat) (i : Nat) (U : Nat → Prop) (gv ov : Value) (w : World) : Prop where
  box : w.heap[C]? = some (.cells #[fv, gv, .map (some M), ov] 170)
  cells : CpG w lo (fun k => U k ∧ some k ≠ ov.ownBlock) g o i gv
  order : Stk w lo o ov
  map : MapN w M o
  gU : ∀ k, some k = gv.ownBlock → U k
  oU : ∀ k, some k = ov.ownBlock → U k
  cU : U C
  mU : U M
  cl : lo ≤ C
  ml : lo ≤ M
  src : CellsOn w (Lt lo) g fv
theorem copier_ne_int : (170 : TypeId) ≠ 3 := by decide
theorem copier_ne_cell : (170 : TypeId) ≠ 93 := by decide
theorem own_ne_cells {w : World} {lo n s : Nat} {T T' : TypeId} {v : Value} {xs CC : List Value} {b : Nat} {C : Array Value} (h : w.ownsRow lo T s v n xs) (hb : w.heap[b]? = some (.cells C T')) (hT : T' ≠ T) : some b ≠ v.ownBlock := by
  intro e
  rcases h.2 with ⟨rfl, -⟩ | ⟨g, cap, cur, rfl, -, hh, -⟩
  · simp [Value.ownBlock] at e
  · simp only [Value.ownBlock, Option.some.injEq] at e
    subst e
    rw [hh] at hb
    simp only [Option.some.injEq, Obj.cells.injEq] at hb
    exact hT hb.2.1.symm
theorem own_ne_map {w : World} {lo n s M : Nat} {T : TypeId} {v : Value} {xs : List Value} {o : List Nat} (h : w.ownsRow lo T s v n xs) (hM : MapN w M o) : some M ≠ v.ownBlock := by
  intro e
  rcases h.2 with ⟨rfl, -⟩ | ⟨g, cap, cur, rfl, -, hh, -⟩
  · simp [Value.ownBlock] at e
  · simp only [Value.ownBlock, Option.some.injEq] at e
    exact hM.ne_row hh e.symm
theorem CopW.lt {C M lo : Nat} {g : List Ce} {fv : Value} {o : List Nat} {i : Nat} {U : Nat → Prop} {gv ov : Value} {w : World} (h : CopW C M lo g fv o i U gv ov w) : C < w.heap.size := (Array.getElem?_eq_some_iff.1 h.box).1
theorem CopW.ne {C M lo : Nat} {g : List Ce} {fv : Value} {o : List Nat} {i : Nat} {U : Nat → Prop} {gv ov : Value} {w : World} (h : CopW C M lo g fv o i U gv ov w) : C ≠ M := h.map.ne_row h.box
/-- what add leaves -/
theorem CopW.add {C M lo : Nat} {g : List Ce} {fv : Value} {o : List Nat} {i a : Nat} {U : Nat → Prop} {gv ov kv : Value} {w w1 : World} {xs : List Value} {e : Ending} (h : CopW C M lo g fv o i U gv ov w) (hi : i ≤ o.length) (hcl : ∀ j, j < i → ∀ k ∈ kidsN g (o.getD j 0), k ∈ o)
    (h64 : I64 (opAt g a) ∧ I64 (numAt g a)) (hk : IntsOn w (Lt lo) (plI (kidsN g a)) kv) (hx : w.ownsRow lo 93 3 gv o.length xs) (he : AddedP C 1 lo o.length (opAt g a) (numAt g a) gv kv xs w.drew e w1) (hlo : lo ≤ w.heap.size) :
    e = .returned (.int .i64 (o.length : Int)) ∧ ∃ gv', w1.heap[C]? = some (.cells #[fv, gv', .map (some M), ov] 170) ∧ CpG w1 lo (fun k => U k ∧ some k ≠ ov.ownBlock) g (o ++ [a]) i gv' ∧ (∀ k, some k = gv'.ownBlock → some k = gv.ownBlock ∨ w.heap.size ≤ k) ∧ ButP (fun k => k = C ∨ some k = gv.ownBlock) w w1 := by
  obtain ⟨v', w5, rfl, hown, hg, hw, rfl⟩ := he
  have hCl := h.lt
  have k5 : ∀ k, k < w.heap.size → some k ≠ gv.ownBlock → w5.heap[k]? = w.heap[k]? := fun k hk hn => (hg.block k (by show k < ((w.drew.alloc _).alloc _).heap.size; rw [Deep.nblk_alloc, Deep.nblk_alloc]; show k < w.heap.size + 1 + 1; omega) hn).trans ((Deep.blk_alloc_lt _ _ _ (by rw [Deep.nblk_alloc]; show k < w.heap.size + 1; omega)).trans (Deep.blk_alloc_lt _ _ _ hk))
  have hs5 : w.heap.size + 2 ≤ w5.heap.size := by
    have h1 := hg.size
    rw [Deep.nblk_alloc, Deep.nblk_alloc] at h1
    have : w.drew.heap.size = w.heap.size := rfl
    omega
  have hCg : some C ≠ gv.ownBlock := own_ne_cells (CC := []) hx h.box copier_ne_cell
  have hC5 := (k5 C hCl hCg).trans h.box
  have hCv : some C ≠ v'.ownBlock := own_ne_cells (CC := []) hown hC5 copier_ne_cell
  have k6 : ∀ k, k < w.heap.size → some k ≠ gv.ownBlock → k ≠ C → (w5.setCell ⟨C, 1, none⟩ v').heap[k]? = w.heap[k]? := fun k hk hn hc => (Below.heap_setCell _ _ _ _ hc).trans (k5 k hk hn)
  have hlow : ∀ k, k < lo → (w5.setCell ⟨C, 1, none⟩ v').heap[k]? = w.heap[k]? := fun k hk => k6 k (by omega) (fun e => by have := own_block hx e; omega) (by have := h.cl; omega)
  refine ⟨rfl, v', ?_, ?_, ?_, ?_⟩
  · simp [World.setCell, Array.getElem?_modify, hC5]
  · refine h.cells.grow hi hcl h64 (hk.mono (fun _ h => h) fun k hk => hlow k hk) hx ?_ (fun k D hS hk hD => ?_) hlow
    · refine ⟨hown.1, ?_⟩
      rcases hown.2 with h' | ⟨b, cap, cur, rfl, hb, hh, r⟩
      · exact Or.inl h'
      · exact Or.inr ⟨b, cap, cur, rfl, hb, (Below.heap_setCell _ _ _ _ (fun e => hCv (by simp only [Value.ownBlock, Option.some.injEq]; exact e.symm))).trans hh, r⟩
    · refine k6 k hk (cellrow_ne hx hD) fun e => ?_
      subst e
      rw [h.box] at hD
      simp only [Option.some.injEq, Obj.cells.injEq] at hD
      exact copier_ne_int hD.2.1
  · intro k hk
    rcases hw with e | ⟨q, e, hq⟩
    · rw [e] at hk; exact Or.inl hk
    · rw [e] at hk
      simp only [Option.some.injEq] at hk
      rw [Deep.nblk_alloc, Deep.nblk_alloc] at hq
      have : w.drew.heap.size = w.heap.size := rfl
      exact Or.inr (by omega)
  · exact ⟨hg.os, hg.tape, hg.output, by rw [size_setCell]; omega, fun k hk hn => k6 k hk (fun e => hn (Or.inr e)) fun e => hn (Or.inl e)⟩
/-- what the map and the order add to it -/
theorem CopW.fin {C M lo : Nat} {g : List Ce} {fv : Value} {o : List Nat} {i a : Nat} {U : Nat → Prop} {gv gv' ov ov' : Value} {w w1 w2 w3 : World} {obj : Obj} (h : CopW C M lo g fv o i U gv ov w) (hlo : lo ≤ w.heap.size)
    (hC1 : w1.heap[C]? = some (.cells #[fv, gv', .map (some M), ov] 170)) (hG1 : CpG w1 lo (fun k => U k ∧ some k ≠ ov.ownBlock) g (o ++ [a]) i gv') (hv : ∀ k, some k = gv'.ownBlock → some k = gv.ownBlock ∨ w.heap.size ≤ k) (hB1 : ButP (fun k => k = C ∨ some k = gv.ownBlock) w w1)
    (hM1 : MapN w1 M o) (hM2 : MapN w2 M (o ++ [a])) (hg2 : w1.grownBy w2 (some M)) (hO2 : Stk w2 lo o ov) (hO3 : Stk w3 lo (o ++ [a]) ov') (hg3 : (w2.alloc obj).grownBy w3 ov.ownBlock) (hw3 : ov'.ownBlock = ov.ownBlock ∨ ∃ q, ov'.ownBlock = some q ∧ (w2.alloc obj).heap.size ≤ q) :
    CopW C M lo g fv (o ++ [a]) i (fun k => U k ∨ w.heap.size ≤ k) gv' ov' (w3.setCell ⟨C, 3, none⟩ ov') ∧ ButP U w (w3.setCell ⟨C, 3, none⟩ ov') := by
  have hs1 := hB1.size
  have hs2 := hg2.size
  have hs3 := hg3.size
  rw [Deep.nblk_alloc] at hs3 hw3
  obtain ⟨xs, hx⟩ := hG1.row
  have hCl := h.lt
  have hCM := h.ne
  have hCo : some C ≠ ov.ownBlock := own_ne_cells (CC := []) h.order h.box copier_ne_int
  have hMl := hM1.lt
  have k3 : ∀ k, k < w2.heap.size → some k ≠ ov.ownBlock → w3.heap[k]? = w2.heap[k]? := fun k hk hn => (hg3.block k (by rw [Deep.nblk_alloc]; omega) hn).trans (Deep.blk_alloc_lt _ _ _ hk)
  have k31 : ∀ k, k < w1.heap.size → some k ≠ ov.ownBlock → k ≠ M → w3.heap[k]? = w1.heap[k]? := fun k hk hn hm => (k3 k (by omega) hn).trans (hg2.block k hk (by simpa using hm))
  have hC3 := (k31 C (by omega) hCo hCM).trans hC1
  have hCo' : some C ≠ ov'.ownBlock := own_ne_cells (CC := []) hO3 hC3 copier_ne_int
  have k41 : ∀ k, k < w1.heap.size → some k ≠ ov.ownBlock → k ≠ M → k ≠ C → (w3.setCell ⟨C, 3, none⟩ ov').heap[k]? = w1.heap[k]? := fun k hk hn hm hc => (Below.heap_setCell _ _ _ _ hc).trans (k31 k hk hn hm)
  have hov : ∀ k, some k = ov'.ownBlock → some k = ov.ownBlock ∨ w2.heap.size < k := by
    intro k hk
    rcases hw3 with e | ⟨q, e, hq⟩
    · rw [e] at hk; exact Or.inl hk
    · rw [e] at hk; simp only [Option.some.injEq] at hk; exact Or.inr (by omega)
  have hlow : ∀ k, k < lo → (w3.setCell ⟨C, 3, none⟩ ov').heap[k]? = w.heap[k]? := fun k hk => (k41 k (by omega) (fun e => by have := own_block h.order e; omega) (by have := h.ml; omega) (by have := h.cl; omega)).trans (hB1.block k (by omega) fun e => by
    rcases e with e | e
    · have := h.cl; omega
    · obtain ⟨ys, hy⟩ := h.cells.row
      have := own_block hy e; omega)
  have hlow1 : ∀ k, k < lo → (w3.setCell ⟨C, 3, none⟩ ov').heap[k]? = w1.heap[k]? := fun k hk => k41 k (by omega) (fun e => by have := own_block h.order e; omega) (by have := h.ml; omega) (by have := h.cl; omega)
  refine ⟨⟨?_, ?_, ?_, ?_, ?_, ?_, Or.inl h.cU, Or.inl h.mU, h.cl, h.ml, h.src.mono (fun _ h => h) fun k hk => hlow k hk⟩, ?_⟩
  · simp [World.setCell, Array.getElem?_modify, hC3]
  · refine hG1.next (fun k hk hkl => ⟨Or.inl hk.1, fun e => ?_⟩) (fun k e hkl => ?_) (fun k D hS hkl hD => ?_) hlow1
    · rcases hov k e with e | e
      · exact hk.2 e
      · omega
    · have hkc : ∃ D, w1.heap[k]? = some (.cells D 93 (0, 0)) := by
        rcases hx.2 with ⟨rfl, -⟩ | ⟨b, cap, cur, rfl, -, hh, -⟩
        · simp [Value.ownBlock] at e
        · simp only [Value.ownBlock, Option.some.injEq] at e
          subst e; exact ⟨_, hh⟩
      obtain ⟨D, hD⟩ := hkc
      refine k41 k hkl (fun e2 => ?_) (hM1.ne_row hD) (fun e2 => ?_)
      · have h2 : w2.heap[k]? = some (.cells D 93 (0, 0)) := (hg2.block k hkl (by simpa using hM1.ne_row hD)).trans hD
        exact own_ne_cells (CC := []) hO2 h2 (by decide) e2
      · subst e2
        rw [hC1] at hD
        simp only [Option.some.injEq, Obj.cells.injEq] at hD
        exact copier_ne_cell hD.2.1
    · refine k41 k hkl hS.2 (hM1.ne_row hD) fun e2 => ?_
      subst e2
      rw [hC1] at hD
      simp only [Option.some.injEq, Obj.cells.injEq] at hD
      exact copier_ne_int hD.2.1
  · refine ⟨hO3.1, ?_⟩
    rcases hO3.2 with h' | ⟨b, cap, cur, rfl, hb, hh, r⟩
    · exact Or.inl h'
    · exact Or.inr ⟨b, cap, cur, rfl, hb, (Below.heap_setCell _ _ _ _ (fun e => hCo' (by simp only [Value.ownBlock, Option.some.injEq]; exact e.symm))).trans hh, r⟩
  · refine hM2.of_block ((Below.heap_setCell _ _ _ _ (fun e => hCM e.symm)).trans (k3 M (by omega) (own_ne_map hO2 hM2)))
  · intro k hk
    rcases hv k hk with e | e
    · exact Or.inl (h.gU k e)
    · exact Or.inr e
  · intro k hk
    rcases hov k hk with e | e
    · exact Or.inl (h.oU k e)
    · exact Or.inr (by omega)
  · refine ⟨(hg3.os.trans hg2.os).trans hB1.os, (hg3.tape.trans hg2.tape).trans hB1.tape, (hg3.output.trans hg2.output).trans hB1.output, by rw [size_setCell]; omega, fun k hk hn => ?_⟩
    refine (k41 k (by omega) (fun e => hn (h.oU k e)) (fun e => hn (e ▸ h.mU)) (fun e => hn (e ▸ h.cU))).trans (hB1.block k hk fun e => ?_)
    rcases e with e | e
    · exact hn (e ▸ h.cU)
    · exact hn (h.gU k e)
end Go.Proofs.YtiipcgnkfhjpeaaGreatDoor
/-
  THE PROGRAM's forward: the place of a cell's copy, which is made only once.
-/
namespace Go.Proofs.YtiipcgnkfhjpeaaGreatDoor
set_option linter.unusedVariables false
set_option linter.unusedSimpArgs false
open Go.RowKit Go.Maps

/-- the look-up of a place -/
theorem wpList_lookN {ops : Array Oper} {rest : List Oper} {o1 : Oper} {a : Act} {Q : Exit → Act → World → Prop} (w : World) (hg : o1.guard = none) (m x : Operand) (hop : o1.op = Op.lookup 168 m x true) (M : Nat) (o : List Nat) (hM : MapN w M o) (hm : a.eval m = .map (some M)) (q : Nat) (hq : q ≤ 1048576)
    (hx : a.eval x = .int .i64 (q : Int)) (b : Bool) (c : Int) (hb : memB o q = b) (hc : b = true → (posN o q : Int) = c) (hc0 : b = false → c = 0) (hK : wpList Tryz.prog ops Q rest (a.put o1.dst (.tuple #[.int .i64 c, .bool b])) w) : wpList Tryz.prog ops Q (o1 :: rest) a w := by
  obtain ⟨n, D, hown, hn, hs⟩ := hM
  refine wpList_lookup_own_ok_int w hg m x 168 hop 3 3 .i64 keyedI Tryz.underlying168 Tryz.underlying3 (zeroI w) M n D hm hown (.int .i64 (q : Int)) (.int .i64 (q : Int)) hx (keyOf_int_mk Tryz.underlying3 (litI_wf q hq)) ?_
  intro c' hat hwc
  obtain ⟨h1, h2⟩ := hs q hq
  rw [h1, hb]
  have e : c' = c := by
    cases b with
    | true =>
      have hm : q ∈ o := by simpa [memB] using hb
      rw [h2 hm] at hat
      rw [← hc rfl]
      simp only [DataW.lit.injEq, Lit.int.injEq, true_and] at hat
      exact hat.symm
    | false =>
      rw [atKey_of_not_has (h1.trans hb)] at hat
      rw [hc0 rfl]
      simp only [DataW.lit.injEq, Lit.int.injEq, true_and] at hat
      exact hat.symm
  rw [e]; exact hK
/-- the place of one more -/
theorem wpList_putN {ops : Array Oper} {rest : List Oper} {o1 : Oper} {a : Act} {Q : Exit → Act → World → Prop} (w : World) (hg : o1.guard = none) (m x v : Operand) (hop : o1.op = Op.mapUpdate 168 m x v) (M : Nat) (o : List Nat) (hM : MapN w M o) (hm : a.eval m = .map (some M)) (q : Nat) (hq : q ≤ 1048576)
    (hx : a.eval x = .int .i64 (q : Int)) (hv : a.eval v = .int .i64 (o.length : Int)) (hl : o.length ≤ 1048576) (hqo : q ∉ o) (hK : ∀ w', MapN w' M (o ++ [q]) → w.grownBy w' (some M) → wpList Tryz.prog ops Q rest (a.put o1.dst undef) w') : wpList Tryz.prog ops Q (o1 :: rest) a w := by
  obtain ⟨n, D, hown, hn, hs⟩ := hM
  refine wpList_mapUpdate_own w hg m x v 168 hop 3 3 keyedI Tryz.underlying168 _ M n D hm hown (by unfold maxLen; omega) (.int .i64 (q : Int)) (.int .i64 (o.length : Int)) (.int .i64 (q : Int)) hx hv (keyOf_int_mk Tryz.underlying3 (litI_wf q hq)) (.lit (.int .i64 (o.length : Int))) [] (plainElem_int Tryz.underlying3 (litI_wf _ hl)) ?_
  intro w' h1 h2
  exact hK w' (mapN_put h1 hown.isMap hn hs hqo) h2

theorem box_grownM {w w2 : World} {M b : Nat} {o : List Nat} {C : Array Value} {T : TypeId} (h : w.heap[b]? = some (.cells C T)) (hM : MapN w M o) (hg : w.grownBy w2 (some M)) : w2.heap[b]? = some (.cells C T) :=
  (hg.block b (Array.getElem?_eq_some_iff.1 h).1 (by have := hM.ne_row h; simpa using this)).trans h
theorem Stk.grownM {w w2 : World} {M lo : Nat} {o ws : List Nat} {v : Value} (h : Stk w lo ws v) (hM : MapN w M o) (hg : w.grownBy w2 (some M)) : Stk w2 lo ws v := by
  refine ⟨h.1, ?_⟩
  rcases h.2 with h' | ⟨b, cap, cur, e, hb, hh, r⟩
  · exact Or.inl h'
  · exact Or.inr ⟨b, cap, cur, e, hb, box_grownM hh hM hg, r⟩
theorem Stk.butC {w w1 : World} {C lo n : Nat} {ws : List Nat} {v gv : Value} {A : Array Value} {xs : List Value} (h : Stk w lo ws v) (hC : w.heap[C]? = some (.cells A 170)) (hx : w.ownsRow lo 93 3 gv n xs) (hb : ButP (fun k => k = C ∨ some k = gv.ownBlock) w w1) : Stk w1 lo ws v := by
  refine ⟨h.1, ?_⟩
  rcases h.2 with h' | ⟨b, cap, cur, e, hl, hh, r⟩
  · exact Or.inl h'
  · refine Or.inr ⟨b, cap, cur, e, hl, (hb.block b (Array.getElem?_eq_some_iff.1 hh).1 fun e2 => ?_).trans hh, r⟩
    rcases e2 with e2 | e2
    · subst e2
      rw [hh] at hC
      simp only [Option.some.injEq, Obj.cells.injEq] at hC
      exact copier_ne_int hC.2.1.symm
    · exact own_ne_cells (CC := []) hx hh (by decide) e2
/-- what forward hands back -/
def Fwd (C M lo : Nat) (g : List Ce) (fv : Value) (o : List Nat) (i a : Nat) (U : Nat → Prop) (w : World) (e : Ending) (w' : World) : Prop :=
  e = .returned (.int .i64 (posN (visit o a) a : Int)) ∧ ∃ gv' ov', CopW C M lo g fv (visit o a) i (fun k => U k ∨ w.heap.size ≤ k) gv' ov' w' ∧ ButP U w w'
theorem news1i (w : World) (n : Nat) : ∀ j u, [Value.int .i64 (n : Int)][j]? = some u → (w.alloc (.cells #[.int .i64 (n : Int)] 3)).cell? ((⟨w.heap.size, 0, none⟩ : Addr).add j) = some u := by
  intro j u hu
  have hj : j = 0 := by
    rcases Nat.lt_or_ge j 1 with h | h
    · omega
    · rw [List.getElem?_eq_none (by simpa using h)] at hu; cases hu
  subst hj
  simp only [List.getElem?_cons_zero, Option.some.injEq] at hu
  subst hu
  rw [WideShapes.add_plain]
  exact box_cell w #[.int .i64 (n : Int)] 3 0 _ rfl
theorem stk_snoc2 {w : World} {lo n : Nat} {ws : List Nat} {v : Value} (h : w.ownsRow lo 3 1 v (ws.length + 1) (plV ws ++ [.int .i64 (n : Int)])) : Stk w lo (ws ++ [n]) v := by
  unfold Stk
  rw [show plV (ws ++ [n]) = plV ws ++ [.int .i64 (n : Int)] by simp [plV], List.length_append]
  exact h

set_option maxRecDepth 100000 in
set_option maxHeartbeats 3200000 in
theorem forward_calls (C M lo : Nat) (g : List Ce) (fv : Value) (o : List Nat) (i a : Nat) (U : Nat → Prop) (gv ov : Value) (w : World) (h : CopW C M lo g fv o i U gv ov w) (hlo : lo ≤ w.heap.size) (hg : graphB g 6 = true) (hcs : Cs g.length o) (hi : i ≤ o.length) (hcl : ∀ j, j < i → ∀ k ∈ kidsN g (o.getD j 0), k ∈ o) (ha : a < g.length) :
    Calls Tryz.prog 128 #[.pointer (some ⟨C, 0, none⟩), .int .i64 (a : Int)] w (Fwd C M lo g fv o i a U w) := by
  have H := mkHid h
  have HG := mkHid hg
  have HCL := mkHid hcl
  have h400 : g.length ≤ 400 := graphB_len hg
  have hol := hcs.len
  obtain ⟨adf, capf, rfl⟩ : ∃ ad cap, fv = .slice ad g.length cap := by obtain ⟨ad, cap, e, -⟩ := h.src; exact ⟨ad, cap, e⟩
  obtain ⟨ado, capo, rfl⟩ := h.order.len
  have p0 := cell_of_blk h.box 0 _ rfl
  have p2 := cell_of_blk h.box 2 _ rfl
  have hCl := h.lt
  have HM := mkHid h.map
  clear h hg hcl
  cases hm : memB o a with
  | true =>
    have HV : Hid (Fwd C M lo g (.slice adf g.length capf) o i a U w (.returned (.int .i64 (posN o a : Int))) w) := by
      have e := memB_yes hm
      have h2 := H.out
      refine ⟨by rw [e], gv, .slice ado o.length capo, ?_, ButP.refl _ _⟩
      rw [e]
      exact ⟨h2.box, h2.cells.next (fun k hk _ => ⟨Or.inl hk.1, hk.2⟩) (fun _ _ _ => rfl) (fun _ _ _ _ _ => rfl) (fun _ _ => rfl), h2.order, h2.map, fun k e => Or.inl (h2.gU k e), fun k e => Or.inl (h2.oU k e), Or.inl h2.cU, Or.inl h2.mU, h2.cl, h2.ml, h2.src⟩
    obtain ⟨c, hc⟩ : ∃ c : Int, c = (posN o a : Int) := ⟨_, rfl⟩
    have HC := mkHid hc
    have HMB := mkHid hm
    clear hm hc
    go_enter Tryz.func128, Tryz.ntmps128
    go_wp2_with (first | (at_lookup; refine wpList_lookN _ rfl _ _ rfl M o HM.out rfl a (by omega) rfl true c HMB.out (fun _ => HC.out.symm) (fun e => Bool.noConfusion e) ?_) | go_in)
    go_ret
    rw [HC.out]
    exact HV.out
  | false =>
    have hao : a ∉ o := by simpa [memB] using hm
    have HAO := mkHid hao
    have HMB := mkHid hm
    have HVI : Hid (visit o a = o ++ [a]) := memB_no hm
    obtain ⟨bl, off, r2, e, hbl, c0, c1, c2, io, iN, hkk⟩ := H.out.src.atS a ha
    cases e
    have hbl2 : bl < lo := hbl
    have HKK : Hid (IntsOn w (Lt lo) (plI (kidsN g a)) r2) := by rw [kids_back HG.out a ha] at hkk; exact hkk
    obtain ⟨adk, capk, rfl, -, -, -⟩ := id hkk
    have HOP : Hid (opAt g a = g[a].op ∧ numAt g a = g[a].num) := by
      unfold opAt numAt
      rw [getD_at _ _ _ ha]
      exact ⟨rfl, rfl⟩
    have H64 : Hid (I64 (opAt g a) ∧ I64 (numAt g a)) := by rw [HOP.out.1, HOP.out.2]; exact ⟨io, iN⟩
    rw [← HOP.out.1] at c0
    rw [← HOP.out.2] at c1
    obtain ⟨op, hop⟩ : ∃ op, op = opAt g a := ⟨_, rfl⟩
    obtain ⟨num, hnum⟩ : ∃ num, num = numAt g a := ⟨_, rfl⟩
    have HON := mkHid (And.intro hop hnum)
    rw [← hop] at c0
    rw [← hnum] at c1
    obtain ⟨xs, hx⟩ := H.out.cells.row
    have HX := mkHid hx
    have hblw : bl < w.heap.size := by omega
    have HLOW : Hid (∀ w1, ButP (fun k => k = C ∨ some k = gv.ownBlock) w w1 → w1.heap[bl]? = w.heap[bl]?) := fun w1 hb => hb.block bl (by omega) fun e => by
      rcases e with e | e
      · have := H.out.cl; omega
      · have := own_block HX.out e; omega
    clear hm hao hkk io iN hop hnum hx hbl
    go_enter Tryz.func128, Tryz.ntmps128
    go_wp2_with (first | (at_lookup; refine wpList_lookN _ rfl _ _ rfl M o HM.out rfl a (by omega) rfl false 0 HMB.out (fun e => Bool.noConfusion e) (fun _ => rfl) ?_) | go_in)
    go_region_held3 (fun w' => w'.cell? ⟨C, 0, none⟩ = some (.slice (some ⟨bl, off, none⟩) g.length capf) ∧ w'.cell? ⟨bl, off + a * 3, none⟩ = some (.int .i64 op) ∧ w'.cell? ⟨bl, off + a * 3 + 1, none⟩ = some (.int .i64 num) ∧ w'.cell? ⟨bl, off + a * 3 + 2, none⟩ = some (.slice adk g[a].kids.length capk))
      (first
        | go_keep
        | exact ⟨s0, s1, s2, s3⟩
        | exact ⟨p0, c0, c1, c2⟩)
      (first
        | (go_at_call 98; refine (addP_calls C 1 170 #[.slice (some ⟨bl, off, none⟩) g.length capf, gv, .map (some M), .slice ado o.length capo] copier_ne_cell lo o.length op num gv adk g[a].kids.length capk xs w.drew H.out.box rfl HX.out hlo (by omega)).mono ?_; intro e w1 he; rw [HON.out.1, HON.out.2] at he; obtain ⟨rfl, gv', hC1, hG1, hv1, hB1⟩ := H.out.add hi HCL.out H64.out HKK.out HX.out he hlo; have hlw := HLOW.out w1 hB1; have s0 := cell_of_blk hC1 0 _ rfl; have s1 := (World.cell?_of_block (a := ⟨bl, off + a * 3, none⟩) hlw).trans c0; have s2 := (World.cell?_of_block (a := ⟨bl, off + a * 3 + 1, none⟩) hlw).trans c1; have s3 := (World.cell?_of_block (a := ⟨bl, off + a * 3 + 2, none⟩) hlw).trans c2; have HC1 := mkHid hC1; have HG1 := mkHid hG1; have HV1 := mkHid hv1; have HB1 := mkHid hB1; clear he hC1 hG1 hv1 hB1 hlw))
    have HM1 : Hid (MapN w1 M o) := HM.out.of_block (HB1.out.block M HM.out.lt fun e => by
      rcases e with e | e
      · exact H.out.ne e.symm
      · exact own_ne_map HX.out HM.out e)
    have q2 := cell_of_blk HC1.out 2 _ rfl
    clear s0 s1 s2 s3 p0 p2 c0 c1 c2
    obtain ⟨iI, zI, hII⟩ := infoI1
    have HII : Hid (Tryz.prog.info? 3 = some iI ∧ iI.zero = some zI ∧ iI.size = 1 ∧ iI.bytes = 8 ∧ zI.cells.size = 1) := hII
    have HO1 : Hid (Stk w1 lo o (.slice ado o.length capo)) := H.out.order.butC H.out.box HX.out HB1.out
    clear hII
    go_wp2_with (first
      | (at_mapUpdate; refine wpList_putN _ rfl _ _ _ rfl M o HM1.out rfl a (by omega) rfl rfl (by omega) HAO.out ?_; intro w2 hM2 hg2; go_must (have HM2 := mkHid hM2); go_must (have HG2 := mkHid hg2); go_must (have HS2 : Hid (w1.heap.size ≤ w2.heap.size) := hg2.size); go_must (have hC2 := box_grownM HC1.out HM1.out hg2); go_must (have HC2 := mkHid hC2); go_must (have q3 := cell_of_blk hC2 3 _ rfl); go_must (have q3a := old_cell q3 (.cells #[.int .i64 (a : Int)] 3)); go_must (have HO2 : Hid (Stk w2 lo o (.slice ado o.length capo)) := HO1.out.grownM HM1.out hg2); go_must (have HO2a : Hid (Stk (w2.alloc (.cells #[.int .i64 (a : Int)] 3)) lo o (.slice ado o.length capo)) := HO2.out.alloc _); clear hM2 hg2 hC2 q2)
      | (at_builtin; go_must (refine wpList_append_where _ rfl _ _ 88 rfl lo 3 iI zI 1 8 Tryz.underlying88 HII.out.1 HII.out.2.1 HII.out.2.2.1 HII.out.2.2.2.1 HII.out.2.2.2.2 (by decide) (.slice ado o.length capo) o.length (plV o) rfl HO2a.out ⟨w2.heap.size, 0, none⟩ 1 1 [.int .i64 (a : Int)] rfl rfl (news1i w2 _) (by simp [Value.oneCell']) (by unfold maxLen; omega) (by omega) (by rw [Deep.nblk_alloc]; have := HB1.out.size; have := HS2.out; omega) (by omega) ?_); go_must (intro v' w3 hown hg3 hw3); go_must (have HO3 : Hid (Stk w3 lo (o ++ [a]) v') := stk_snoc2 hown); go_must (have HG3 := mkHid hg3); go_must (have HW3 := mkHid hw3); go_must (have hC3 := (hg3.block C (by rw [Deep.nblk_alloc]; have := (Array.getElem?_eq_some_iff.1 HC2.out).1; omega) (own_ne_cells (CC := []) HO2.out HC2.out copier_ne_int)).trans ((Deep.blk_alloc_lt _ _ _ (Array.getElem?_eq_some_iff.1 HC2.out).1).trans HC2.out)); go_must (obtain ⟨adz, capz, rfl⟩ := stk_form HO3.out rfl); go_must (have r3 := cell_of_blk hC3 3 _ rfl); go_must (have rf := frz_of_blk hC3 3); clear hown hg3 hw3 hC3 q3 q3a)
      | go_in)
    go_ret
    obtain ⟨z1, z2⟩ := H.out.fin hlo HC1.out HG1.out HV1.out HB1.out HM1.out HM2.out HG2.out HO2.out HO3.out HG3.out HW3.out
    refine ⟨?_, gv', .slice adz (o.length + 1) capz, ?_, z2⟩
    · rw [HVI.out, posN_snoc o a HAO.out]; rfl
    · rw [HVI.out]; exact z1
end Go.Proofs.YtiipcgnkfhjpeaaGreatDoor
