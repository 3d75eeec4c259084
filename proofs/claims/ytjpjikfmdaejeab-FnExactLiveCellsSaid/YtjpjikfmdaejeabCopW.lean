/-
  THE PROGRAM's copier IN MEMORY; one cell more.
-/
import Derived.Test.YtjpjikfmdaejeabCpG
import Derived.Test.YtjpjikfmdaejeabMapN
import Derived.Test.YtjpjikfmdaejeabArenaP
namespace Go.Proofs.Ytjpjikfmdaejeab
set_option linter.unusedVariables false
set_option linter.unusedSimpArgs false
open Go.RowKit

/-- a copier in block C, its map in block M; its blocks are of U; the old space lies below lo -/
structure CopW (C M lo : Nat) (g : List Ce) (fv : Value) (o : List Nat) (i : Nat) (U : Nat → Prop) (gv ov : Value) (w : World) : Prop where
  box : w.heap[C]? = some (.cells #[fv, gv, .map (some M), ov] 70)
  cells : CpG w lo (fun k => U k ∧ some k ≠ ov.ownBlock) g o i gv
  order : Stk w lo o ov
  map : MapN w M o
  gU : ∀ k, some k = gv.ownBlock → U k
  oU : ∀ k, some k = ov.ownBlock → U k
  cU : U C
  mU : U M
  cl : lo ≤ C
  ml : lo ≤ M
  src : CellsOn w (Lt lo) g fv
theorem copier_ne_int : (70 : TypeId) ≠ 3 := by decide
theorem copier_ne_cell : (70 : TypeId) ≠ 60 := by decide
theorem own_ne_cells {w : World} {lo n s : Nat} {T T' : TypeId} {v : Value} {xs CC : List Value} {b : Nat} {C : Array Value} (h : w.ownsRow lo T s v n xs) (hb : w.heap[b]? = some (.cells C T')) (hT : T' ≠ T) : some b ≠ v.ownBlock := by
  intro e
  rcases h.2 with ⟨rfl, -⟩ | ⟨g, cap, cur, rfl, -, hh, -⟩
  · simp [Value.ownBlock] at e
  · simp only [Value.ownBlock, Option.some.injEq] at e
    subst e
    rw [hh] at hb
    simp only [Option.some.injEq, Obj.cells.injEq] at hb
    exact hT hb.2.1.symm
theorem own_ne_map {w : World} {lo n s M : Nat} {T : TypeId} {v : Value} {xs : List Value} {o : List Nat} (h : w.ownsRow lo T s v n xs) (hM : MapN w M o) : some M ≠ v.ownBlock := by
  intro e
  rcases h.2 with ⟨rfl, -⟩ | ⟨g, cap, cur, rfl, -, hh, -⟩
  · simp [Value.ownBlock] at e
  · simp only [Value.ownBlock, Option.some.injEq] at e
    exact hM.ne_row hh e.symm
theorem CopW.lt {C M lo : Nat} {g : List Ce} {fv : Value} {o : List Nat} {i : Nat} {U : Nat → Prop} {gv ov : Value} {w : World} (h : CopW C M lo g fv o i U gv ov w) : C < w.heap.size := (Array.getElem?_eq_some_iff.1 h.box).1
theorem CopW.ne {C M lo : Nat} {g : List Ce} {fv : Value} {o : List Nat} {i : Nat} {U : Nat → Prop} {gv ov : Value} {w : World} (h : CopW C M lo g fv o i U gv ov w) : C ≠ M := h.map.ne_row h.box
/-- what add leaves -/
theorem CopW.add {C M lo : Nat} {g : List Ce} {fv : Value} {o : List Nat} {i a : Nat} {U : Nat → Prop} {gv ov kv : Value} {w w1 : World} {xs : List Value} {e : Ending} (h : CopW C M lo g fv o i U gv ov w) (hi : i ≤ o.length) (hcl : ∀ j, j < i → ∀ k ∈ kidsN g (o.getD j 0), k ∈ o)
    (h64 : I64 (opAt g a) ∧ I64 (numAt g a)) (hk : IntsOn w (Lt lo) (plI (kidsN g a)) kv) (hx : w.ownsRow lo 60 3 gv o.length xs) (he : AddedP C 1 lo o.length (opAt g a) (numAt g a) gv kv xs w.drew e w1) (hlo : lo ≤ w.heap.size) :
    e = .returned (.int .i64 (o.length : Int)) ∧ ∃ gv', w1.heap[C]? = some (.cells #[fv, gv', .map (some M), ov] 70) ∧ CpG w1 lo (fun k => U k ∧ some k ≠ ov.ownBlock) g (o ++ [a]) i gv' ∧ (∀ k, some k = gv'.ownBlock → some k = gv.ownBlock ∨ w.heap.size ≤ k) ∧ ButP (fun k => k = C ∨ some k = gv.ownBlock) w w1 := by
  obtain ⟨v', w5, rfl, hown, hg, hw, rfl⟩ := he
  have hCl := h.lt
  have k5 : ∀ k, k < w.heap.size → some k ≠ gv.ownBlock → w5.heap[k]? = w.heap[k]? := fun k hk hn => (hg.block k (by show k < ((w.drew.alloc _).alloc _).heap.size; rw [Deep.nblk_alloc, Deep.nblk_alloc]; show k < w.heap.size + 1 + 1; omega) hn).trans ((Deep.blk_alloc_lt _ _ _ (by rw [Deep.nblk_alloc]; show k < w.heap.size + 1; omega)).trans (Deep.blk_alloc_lt _ _ _ hk))
  have hs5 : w.heap.size + 2 ≤ w5.heap.size := by
    have h1 := hg.size
    rw [Deep.nblk_alloc, Deep.nblk_alloc] at h1
    have : w.drew.heap.size = w.heap.size := rfl
    omega
  have hCg : some C ≠ gv.ownBlock := own_ne_cells (CC := []) hx h.box copier_ne_cell
  have hC5 := (k5 C hCl hCg).trans h.box
  have hCv : some C ≠ v'.ownBlock := own_ne_cells (CC := []) hown hC5 copier_ne_cell
  have k6 : ∀ k, k < w.heap.size → some k ≠ gv.ownBlock → k ≠ C → (w5.setCell ⟨C, 1, none⟩ v').heap[k]? = w.heap[k]? := fun k hk hn hc => (Below.heap_setCell _ _ _ _ hc).trans (k5 k hk hn)
  have hlow : ∀ k, k < lo → (w5.setCell ⟨C, 1, none⟩ v').heap[k]? = w.heap[k]? := fun k hk => k6 k (by omega) (fun e => by have := own_block hx e; omega) (by have := h.cl; omega)
  refine ⟨rfl, v', ?_, ?_, ?_, ?_⟩
  · simp [World.setCell, Array.getElem?_modify, hC5]
  · refine h.cells.grow hi hcl h64 (hk.mono (fun _ h => h) fun k hk => hlow k hk) hx ?_ (fun k D hS hk hD => ?_) hlow
    · refine ⟨hown.1, ?_⟩
      rcases hown.2 with h' | ⟨b, cap, cur, rfl, hb, hh, r⟩
      · exact Or.inl h'
      · exact Or.inr ⟨b, cap, cur, rfl, hb, (Below.heap_setCell _ _ _ _ (fun e => hCv (by simp only [Value.ownBlock, Option.some.injEq]; exact e.symm))).trans hh, r⟩
    · refine k6 k hk (cellrow_ne hx hD) fun e => ?_
      subst e
      rw [h.box] at hD
      simp only [Option.some.injEq, Obj.cells.injEq] at hD
      exact copier_ne_int hD.2.1
  · intro k hk
    rcases hw with e | ⟨q, e, hq⟩
    · rw [e] at hk; exact Or.inl hk
    · rw [e] at hk
      simp only [Option.some.injEq] at hk
      rw [Deep.nblk_alloc, Deep.nblk_alloc] at hq
      have : w.drew.heap.size = w.heap.size := rfl
      exact Or.inr (by omega)
  · exact ⟨hg.os, hg.tape, hg.output, by rw [size_setCell]; omega, fun k hk hn => k6 k hk (fun e => hn (Or.inr e)) fun e => hn (Or.inl e)⟩
/-- what the map and the order add to it -/
theorem CopW.fin {C M lo : Nat} {g : List Ce} {fv : Value} {o : List Nat} {i a : Nat} {U : Nat → Prop} {gv gv' ov ov' : Value} {w w1 w2 w3 : World} {obj : Obj} (h : CopW C M lo g fv o i U gv ov w) (hlo : lo ≤ w.heap.size)
    (hC1 : w1.heap[C]? = some (.cells #[fv, gv', .map (some M), ov] 70)) (hG1 : CpG w1 lo (fun k => U k ∧ some k ≠ ov.ownBlock) g (o ++ [a]) i gv') (hv : ∀ k, some k = gv'.ownBlock → some k = gv.ownBlock ∨ w.heap.size ≤ k) (hB1 : ButP (fun k => k = C ∨ some k = gv.ownBlock) w w1)
    (hM1 : MapN w1 M o) (hM2 : MapN w2 M (o ++ [a])) (hg2 : w1.grownBy w2 (some M)) (hO2 : Stk w2 lo o ov) (hO3 : Stk w3 lo (o ++ [a]) ov') (hg3 : (w2.alloc obj).grownBy w3 ov.ownBlock) (hw3 : ov'.ownBlock = ov.ownBlock ∨ ∃ q, ov'.ownBlock = some q ∧ (w2.alloc obj).heap.size ≤ q) :
    CopW C M lo g fv (o ++ [a]) i (fun k => U k ∨ w.heap.size ≤ k) gv' ov' (w3.setCell ⟨C, 3, none⟩ ov') ∧ ButP U w (w3.setCell ⟨C, 3, none⟩ ov') := by
  have hs1 := hB1.size
  have hs2 := hg2.size
  have hs3 := hg3.size
  rw [Deep.nblk_alloc] at hs3 hw3
  obtain ⟨xs, hx⟩ := hG1.row
  have hCl := h.lt
  have hCM := h.ne
  have hCo : some C ≠ ov.ownBlock := own_ne_cells (CC := []) h.order h.box copier_ne_int
  have hMl := hM1.lt
  have k3 : ∀ k, k < w2.heap.size → some k ≠ ov.ownBlock → w3.heap[k]? = w2.heap[k]? := fun k hk hn => (hg3.block k (by rw [Deep.nblk_alloc]; omega) hn).trans (Deep.blk_alloc_lt _ _ _ hk)
  have k31 : ∀ k, k < w1.heap.size → some k ≠ ov.ownBlock → k ≠ M → w3.heap[k]? = w1.heap[k]? := fun k hk hn hm => (k3 k (by omega) hn).trans (hg2.block k hk (by simpa using hm))
  have hC3 := (k31 C (by omega) hCo hCM).trans hC1
  have hCo' : some C ≠ ov'.ownBlock := own_ne_cells (CC := []) hO3 hC3 copier_ne_int
  have k41 : ∀ k, k < w1.heap.size → some k ≠ ov.ownBlock → k ≠ M → k ≠ C → (w3.setCell ⟨C, 3, none⟩ ov').heap[k]? = w1.heap[k]? := fun k hk hn hm hc => (Below.heap_setCell _ _ _ _ hc).trans (k31 k hk hn hm)
  have hov : ∀ k, some k = ov'.ownBlock → some k = ov.ownBlock ∨ w2.heap.size < k := by
    intro k hk
    rcases hw3 with e | ⟨q, e, hq⟩
    · rw [e] at hk; exact Or.inl hk
    · rw [e] at hk; simp only [Option.some.injEq] at hk; exact Or.inr (by omega)
  have hlow : ∀ k, k < lo → (w3.setCell ⟨C, 3, none⟩ ov').heap[k]? = w.heap[k]? := fun k hk => (k41 k (by omega) (fun e => by have := own_block h.order e; omega) (by have := h.ml; omega) (by have := h.cl; omega)).trans (hB1.block k (by omega) fun e => by
    rcases e with e | e
    · have := h.cl; omega
    · obtain ⟨ys, hy⟩ := h.cells.row
      have := own_block hy e; omega)
  have hlow1 : ∀ k, k < lo → (w3.setCell ⟨C, 3, none⟩ ov').heap[k]? = w1.heap[k]? := fun k hk => k41 k (by omega) (fun e => by have := own_block h.order e; omega) (by have := h.ml; omega) (by have := h.cl; omega)
  refine ⟨⟨?_, ?_, ?_, ?_, ?_, ?_, Or.inl h.cU, Or.inl h.mU, h.cl, h.ml, h.src.mono (fun _ h => h) fun k hk => hlow k hk⟩, ?_⟩
  · simp [World.setCell, Array.getElem?_modify, hC3]
  · refine hG1.next (fun k hk hkl => ⟨Or.inl hk.1, fun e => ?_⟩) (fun k e hkl => ?_) (fun k D hS hkl hD => ?_) hlow1
    · rcases hov k e with e | e
      · exact hk.2 e
      · omega
    · have hkc : ∃ D, w1.heap[k]? = some (.cells D 60 (0, 0)) := by
        rcases hx.2 with ⟨rfl, -⟩ | ⟨b, cap, cur, rfl, -, hh, -⟩
        · simp [Value.ownBlock] at e
        · simp only [Value.ownBlock, Option.some.injEq] at e
          subst e; exact ⟨_, hh⟩
      obtain ⟨D, hD⟩ := hkc
      refine k41 k hkl (fun e2 => ?_) (hM1.ne_row hD) (fun e2 => ?_)
      · have h2 : w2.heap[k]? = some (.cells D 60 (0, 0)) := (hg2.block k hkl (by simpa using hM1.ne_row hD)).trans hD
        exact own_ne_cells (CC := []) hO2 h2 (by decide) e2
      · subst e2
        rw [hC1] at hD
        simp only [Option.some.injEq, Obj.cells.injEq] at hD
        exact copier_ne_cell hD.2.1
    · refine k41 k hkl hS.2 (hM1.ne_row hD) fun e2 => ?_
      subst e2
      rw [hC1] at hD
      simp only [Option.some.injEq, Obj.cells.injEq] at hD
      exact copier_ne_int hD.2.1
  · refine ⟨hO3.1, ?_⟩
    rcases hO3.2 with h' | ⟨b, cap, cur, rfl, hb, hh, r⟩
    · exact Or.inl h'
    · exact Or.inr ⟨b, cap, cur, rfl, hb, (Below.heap_setCell _ _ _ _ (fun e => hCo' (by simp only [Value.ownBlock, Option.some.injEq]; exact e.symm))).trans hh, r⟩
  · refine hM2.of_block ((Below.heap_setCell _ _ _ _ (fun e => hCM e.symm)).trans (k3 M (by omega) (own_ne_map hO2 hM2)))
  · intro k hk
    rcases hv k hk with e | e
    · exact Or.inl (h.gU k e)
    · exact Or.inr e
  · intro k hk
    rcases hov k hk with e | e
    · exact Or.inl (h.oU k e)
    · exact Or.inr (by omega)
  · refine ⟨(hg3.os.trans hg2.os).trans hB1.os, (hg3.tape.trans hg2.tape).trans hB1.tape, (hg3.output.trans hg2.output).trans hB1.output, by rw [size_setCell]; omega, fun k hk hn => ?_⟩
    refine (k41 k (by omega) (fun e => hn (h.oU k e)) (fun e => hn (e ▸ h.mU)) (fun e => hn (e ▸ h.cU))).trans (hB1.block k hk fun e => ?_)
    rcases e with e | e
    · exact hn (e ▸ h.cU)
    · exact hn (h.gU k e)
end Go.Proofs.Ytjpjikfmdaejeab
