/-
  A MAP FROM PLACES TO PLACES: the places of a list.
-/
import Derived.Test.YtglpehelmlehiaaMb8
import Derived.Test.YtglpehelmlehiaaMb14
import Derived.Maps.OwnSet
import Derived.Test.YtglpehelmlehiaaMb2
import Derived.Test.YtglpehelmlehiaaMb9
import Derived.Deep.DeepCutAuto
import Derived.Deep.RegionWith
import Derived.Deep.RegionHeld3
import Derived.Deep.RegionLaw
import Derived.IntWalk
import Derived.Test.YtglpehelmlehiaaMb10
import Derived.Test.YtglpehelmlehiaaMb4
namespace Go.Proofs.Ytglpehelmlehiaa
set_option linter.unusedVariables false
set_option linter.unusedSimpArgs false
open Go.RowKit Go.Maps

theorem keyedI : Keyed Try.prog 3 := int_keyed Try.underlying3
theorem zeroI (w : World) : (zeroValue 3).run Try.prog w = .ok (.int .i64 0) w := by kernel_rfl
theorem litI_wf (x : Nat) (h : x ≤ 1048576) : (Lit.int .i64 (x : Int)).wf = true := by
  simp only [Lit.wf, IntKind.min, IntKind.max, IntKind.signed, IntKind.bits, Bool.and_eq_true, decide_eq_true_eq, if_true]
  omega
theorem litI_ne {a b : Nat} (h : a ≠ b) : Lit.int .i64 (a : Int) ≠ Lit.int .i64 (b : Int) := by
  intro e
  simp only [Lit.int.injEq] at e
  omega
/-- block M is a map that holds the place of each cell of a list, and nothing else -/
def MapN (w : World) (M : Nat) (o : List Nat) : Prop :=
  ∃ (n : Nat) (D : DataW Unit), w.ownsMap Try.prog 3 (plainElem Try.prog 3) M n D ∧ n ≤ o.length ∧ ∀ x : Nat, x ≤ 1048576 → has D (.int .i64 (x : Int)) = memB o x ∧ (x ∈ o → D.atKey (.int .i64 (x : Int)) (.lit (.int .i64 0)) = .lit (.int .i64 (posN o x : Int)))
theorem MapN.made (w : World) : MapN (w.alloc (.map #[] 0)) w.heap.size [] := ⟨0, _, World.ownsMap_made w _ _ _, Nat.le_refl _, fun x _ => ⟨by simp [has, memB], fun h => by simp at h⟩⟩
theorem MapN.lt {w : World} {M : Nat} {o : List Nat} (h : MapN w M o) : M < w.heap.size := by obtain ⟨n, D, h1, -⟩ := h; exact h1.lt
theorem MapN.of_block {w w' : World} {M : Nat} {o : List Nat} (h : MapN w M o) (hb : w'.heap[M]? = w.heap[M]?) : MapN w' M o := by
  obtain ⟨n, D, ⟨es, clock, h1, h2⟩, h3⟩ := h
  exact ⟨n, D, ⟨es, clock, hb.trans h1, h2⟩, h3⟩
/-- it is no row -/
theorem MapN.ne_row {w : World} {M : Nat} {o : List Nat} (h : MapN w M o) {b : Nat} {C : Array Value} {T : TypeId} (hb : w.heap[b]? = some (.cells C T)) : b ≠ M := by
  intro e
  subst e
  obtain ⟨n, D, ⟨es, clock, h1, h2⟩, h3⟩ := h
  rw [h1] at hb
  cases hb
theorem keyLitI (x : Nat) : WideAt.IsKeyLit (Lit.int .i64 (x : Int)) := by simp [WideAt.IsKeyLit]
theorem mapN_put {w : World} {M n : Nat} {o : List Nat} {D : DataW Unit} {x : Nat} (h : w.ownsMap Try.prog 3 (plainElem Try.prog 3) M (n + 1) (D.put (.int .i64 (x : Int)) (.lit (.int .i64 (o.length : Int))))) (hm : IsMap D) (hn : n ≤ o.length)
    (hs : ∀ x : Nat, x ≤ 1048576 → has D (.int .i64 (x : Int)) = memB o x ∧ (x ∈ o → D.atKey (.int .i64 (x : Int)) (.lit (.int .i64 0)) = .lit (.int .i64 (posN o x : Int)))) (hx : x ∉ o) : MapN w M (o ++ [x]) := by
  refine ⟨n + 1, _, h, by simp; omega, fun y hy => ?_⟩
  by_cases e : y = x
  · subst e
    refine ⟨?_, fun _ => ?_⟩
    · rw [has_put_same hm (keyLitI y)]; simp [memB]
    · rw [atKey_put_same hm (keyLitI y), posN_snoc o y hx]
  · have hne : Lit.int .i64 (y : Int) ≠ Lit.int .i64 (x : Int) := litI_ne e
    refine ⟨?_, fun hy2 => ?_⟩
    · rw [has_put_other hne, (hs y hy).1]; simp [memB, e]
    · have hyo : y ∈ o := by
        rcases List.mem_append.1 hy2 with h | h
        · exact h
        · exact absurd (by simpa using h) e
      rw [atKey_put_other hne, (hs y hy).2 hyo, posN_app _ _ _ hyo]
end Go.Proofs.Ytglpehelmlehiaa
/-
  THE PROGRAM's arena, wherever it lies: one cell more.
-/
namespace Go.Proofs.Ytglpehelmlehiaa
set_option linter.unusedVariables false
set_option linter.unusedSimpArgs false
open Go.RowKit

theorem row_ne_cells {w : World} {A lo n : Nat} {T : TypeId} {CC : Array Value} {gv : Value} {xs : List Value} (hT : T ≠ 48) (hA : w.heap[A]? = some (.cells CC T)) (hx : w.ownsRow lo 48 3 gv n xs) : some A ≠ gv.ownBlock := by
  intro e
  rcases hx.2 with ⟨rfl, -⟩ | ⟨b, cap, cur, rfl, -, hh, -⟩
  · simp [Value.ownBlock] at e
  · simp only [Value.ownBlock, Option.some.injEq] at e
    subst e
    rw [hh] at hA
    simp only [Option.some.injEq, Obj.cells.injEq] at hA
    exact hT hA.2.1.symm
theorem grown_drew {w w5 : World} {b : Option Nat} (h : w.drew.grownBy w5 b) : w.grownBy w5 b := ⟨h.os, h.tape, h.output, h.size, h.block⟩
theorem arp_keep {w w5 : World} {A lo n : Nat} {T : TypeId} {CC : Array Value} {gv : Value} {xs : List Value} {o1 o2 : Obj} (hT : T ≠ 48) (hA : w.heap[A]? = some (.cells CC T)) (hx : w.ownsRow lo 48 3 gv n xs) (hg : ((w.alloc o1).alloc o2).grownBy w5 gv.ownBlock) : w5.heap[A]? = some (.cells CC T) := by
  have hl : A < w.heap.size := (Array.getElem?_eq_some_iff.1 hA).1
  exact ((hg.block A (by rw [Deep.nblk_alloc, Deep.nblk_alloc]; omega) (row_ne_cells hT hA hx)).trans ((Deep.blk_alloc_lt _ _ _ (by rw [Deep.nblk_alloc]; omega)).trans (Deep.blk_alloc_lt _ _ _ hl))).trans hA

/-- what add hands back: the cell's place; its row is the arena's -/
def AddedP (A q lo n : Nat) (o m : Int) (gv kv : Value) (xs : List Value) (w : World) (e : Ending) (w' : World) : Prop :=
  ∃ v' w5, e = .returned (.int .i64 (n : Int)) ∧ w5.ownsRow lo 48 3 v' (n + 1) (xs ++ [.int .i64 o, .int .i64 m, kv]) ∧ ((w.alloc (.cells #[.int .i64 o, .int .i64 m, kv] 48)).alloc (.cells #[.int .i64 o, .int .i64 m, kv] 48)).grownBy w5 gv.ownBlock ∧ (v'.ownBlock = gv.ownBlock ∨ ∃ g, v'.ownBlock = some g ∧ ((w.alloc (.cells #[.int .i64 o, .int .i64 m, kv] 48)).alloc (.cells #[.int .i64 o, .int .i64 m, kv] 48)).heap.size ≤ g) ∧ w' = w5.setCell ⟨A, q, none⟩ v'

set_option maxRecDepth 100000 in
set_option maxHeartbeats 1600000 in
theorem addP_calls (A q : Nat) (T : TypeId) (CC : Array Value) (hT : T ≠ 48) (lo n : Nat) (o m : Int) (gv : Value) (adk : Option Addr) (nk ck : Nat) (xs : List Value) (w : World) (hA : w.heap[A]? = some (.cells CC T)) (hq : CC[q]? = some gv) (hx : w.ownsRow lo 48 3 gv n xs) (hlo : lo ≤ w.heap.size) (hn : n ≤ 500000) :
    Calls Try.prog 95 #[.pointer (some ⟨A, q, none⟩), .agg #[.int .i64 o, .int .i64 m, .slice adk nk ck]] w (AddedP A q lo n o m gv (.slice adk nk ck) xs w) := by
  have HA : Hid (w.heap[A]? = some (.cells CC T)) := hA
  have HX : Hid (w.ownsRow lo 48 3 gv n xs) := hx
  have a0 := cell_of_blk hA q _ hq
  have af := frz_of_blk hA q
  obtain ⟨ad, cap, rfl⟩ : ∃ ad cap, gv = .slice ad n cap := by
    rcases hx.2 with ⟨rfl, h0⟩ | ⟨b, cap, cur, rfl, -⟩
    · exact ⟨none, 0, by rw [h0]⟩
    · exact ⟨_, _, rfl⟩
  have HQ := mkHid hq
  clear hA hx hq
  go_enter Try.func95, Try.ntmps95
  have p0 := old_cell a0 (.cells #[.int .i64 o, .int .i64 m, .slice adk nk ck] 48)
  have p1 := old_cell p0 (.cells #[.int .i64 o, .int .i64 m, .slice adk nk ck] 48)
  have b0 := box_cell w #[.int .i64 o, .int .i64 m, .slice adk nk ck] 48 0 _ rfl
  have b1 := box_cell w #[.int .i64 o, .int .i64 m, .slice adk nk ck] 48 1 _ rfl
  have b2 := box_cell w #[.int .i64 o, .int .i64 m, .slice adk nk ck] 48 2 _ rfl
  obtain ⟨iC, zC, hII⟩ := infoC1
  have HII : Hid (Try.prog.info? 48 = some iC ∧ iC.zero = some zC ∧ iC.size = 3 ∧ iC.bytes = 40 ∧ zC.cells.size = 3) := hII
  have HX2 : Hid (((w.alloc (.cells #[.int .i64 o, .int .i64 m, .slice adk nk ck] 48)).alloc (.cells #[.int .i64 o, .int .i64 m, .slice adk nk ck] 48)).drew.ownsRow lo 48 3 (.slice ad n cap) n xs) := own_keep (own_keep (own_keep HX.out (fun k _ hk => Deep.blk_alloc_lt _ _ _ hk)) (fun k _ hk => Deep.blk_alloc_lt _ _ _ hk)) (fun _ _ _ => rfl)
  clear hII
  go_wp2_with fail
  go_region_law (refine step_append_where rfl (.tmp 9) (.tmp 11) 24 rfl lo 48 iC zC 3 40 Try.underlying24 HII.out.1 HII.out.2.1 HII.out.2.2.1 HII.out.2.2.2.1 HII.out.2.2.2.2 (by decide) (.slice ad n cap) n xs (by simp [Act.eval, Act.put]) HX2.out ⟨w.heap.size + 1, 0, none⟩ 1 1 [.int .i64 o, .int .i64 m, .slice adk nk ck] (by simp [Act.eval, Act.put]) rfl (by have h := news3c (w.alloc (.cells #[.int .i64 o, .int .i64 m, .slice adk nk ck] 48)) (.int .i64 o) (.int .i64 m) (.slice adk nk ck); rw [Deep.nblk_alloc] at h; exact h) (by simp [Value.oneCell']) (by unfold maxLen; omega) (by omega) (by show lo ≤ ((w.alloc _).alloc _).heap.size; simp only [Deep.nblk_alloc]; omega) (by omega) ?_; intro v' w5 hown hg0 hw; have hg := grown_drew hg0; clear hg0; obtain ⟨g', c', rfl, -, -, -, -⟩ := own_form hown (by omega); have s2 := cell_of_blk (arp_keep hT HA.out HX.out hg) q _ HQ.out; have sf := frz_of_blk (arp_keep hT HA.out HX.out hg) q)
  all_goals
    have hn0 : ¬ ((n : Int) + 1 - 1 < 0) := by omega
    have h64 : IntKind.i64.wrap ((n : Int) + 1 - 1) = (n : Int) := by rw [show (n : Int) + 1 - 1 = (n : Int) by omega]; exact IntWalk.i64_in _ (by omega)
    go_wp2_with fail
    go_ret
    exact ⟨_, w5, rfl, hown, hg, hw, rfl⟩
end Go.Proofs.Ytglpehelmlehiaa
/-
  THE PROGRAM's copier IN MEMORY; one cell more.
-/
namespace Go.Proofs.Ytglpehelmlehiaa
set_option linter.unusedVariables false
set_option linter.unusedSimpArgs false
open Go.RowKit

/-- a copier in block C, its map in block M; its blocks are of U; the old space lies below lo -/
structure CopW (C M lo : Nat) (g : List Ce) (fv : Value) (o : List Nat) (i : Nat) (U : Nat → Prop) (gv ov : Value) (w : World) : Prop where
  box : w.heap[C]? = some (.cells #[fv, gv, .map (some M), ov] 77)
  cells : CpG w lo (fun k => U k ∧ some k ≠ ov.ownBlock) g o i gv
  order : Stk w lo o ov
  map : MapN w M o
  gU : ∀ k, some k = gv.ownBlock → U k
  oU : ∀ k, some k = ov.ownBlock → U k
  cU : U C
  mU : U M
  cl : lo ≤ C
  ml : lo ≤ M
  src : CellsOn w (Lt lo) g fv
theorem copier_ne_int : (77 : TypeId) ≠ 3 := by decide
theorem copier_ne_cell : (77 : TypeId) ≠ 48 := by decide
theorem own_ne_cells {w : World} {lo n s : Nat} {T T' : TypeId} {v : Value} {xs CC : List Value} {b : Nat} {C : Array Value} (h : w.ownsRow lo T s v n xs) (hb : w.heap[b]? = some (.cells C T')) (hT : T' ≠ T) : some b ≠ v.ownBlock := by
  intro e
  rcases h.2 with ⟨rfl, -⟩ | ⟨g, cap, cur, rfl, -, hh, -⟩
  · simp [Value.ownBlock] at e
  · simp only [Value.ownBlock, Option.some.injEq] at e
    subst e
    rw [hh] at hb
    simp only [Option.some.injEq, Obj.cells.injEq] at hb
    exact hT hb.2.1.symm
theorem own_ne_map {w : World} {lo n s M : Nat} {T : TypeId} {v : Value} {xs : List Value} {o : List Nat} (h : w.ownsRow lo T s v n xs) (hM : MapN w M o) : some M ≠ v.ownBlock := by
  intro e
  rcases h.2 with ⟨rfl, -⟩ | ⟨g, cap, cur, rfl, -, hh, -⟩
  · simp [Value.ownBlock] at e
  · simp only [Value.ownBlock, Option.some.injEq] at e
    exact hM.ne_row hh e.symm
theorem CopW.lt {C M lo : Nat} {g : List Ce} {fv : Value} {o : List Nat} {i : Nat} {U : Nat → Prop} {gv ov : Value} {w : World} (h : CopW C M lo g fv o i U gv ov w) : C < w.heap.size := (Array.getElem?_eq_some_iff.1 h.box).1
theorem CopW.ne {C M lo : Nat} {g : List Ce} {fv : Value} {o : List Nat} {i : Nat} {U : Nat → Prop} {gv ov : Value} {w : World} (h : CopW C M lo g fv o i U gv ov w) : C ≠ M := h.map.ne_row h.box
/-- what add leaves -/
theorem CopW.add {C M lo : Nat} {g : List Ce} {fv : Value} {o : List Nat} {i a : Nat} {U : Nat → Prop} {gv ov kv : Value} {w w1 : World} {xs : List Value} {e : Ending} (h : CopW C M lo g fv o i U gv ov w) (hi : i ≤ o.length) (hcl : ∀ j, j < i → ∀ k ∈ kidsN g (o.getD j 0), k ∈ o)
    (h64 : I64 (opAt g a) ∧ I64 (numAt g a)) (hk : IntsOn w (Lt lo) (plI (kidsN g a)) kv) (hx : w.ownsRow lo 48 3 gv o.length xs) (he : AddedP C 1 lo o.length (opAt g a) (numAt g a) gv kv xs w.drew e w1) (hlo : lo ≤ w.heap.size) :
    e = .returned (.int .i64 (o.length : Int)) ∧ ∃ gv', w1.heap[C]? = some (.cells #[fv, gv', .map (some M), ov] 77) ∧ CpG w1 lo (fun k => U k ∧ some k ≠ ov.ownBlock) g (o ++ [a]) i gv' ∧ (∀ k, some k = gv'.ownBlock → some k = gv.ownBlock ∨ w.heap.size ≤ k) ∧ ButP (fun k => k = C ∨ some k = gv.ownBlock) w w1 := by
  obtain ⟨v', w5, rfl, hown, hg, hw, rfl⟩ := he
  have hCl := h.lt
  have k5 : ∀ k, k < w.heap.size → some k ≠ gv.ownBlock → w5.heap[k]? = w.heap[k]? := fun k hk hn => (hg.block k (by show k < ((w.drew.alloc _).alloc _).heap.size; rw [Deep.nblk_alloc, Deep.nblk_alloc]; show k < w.heap.size + 1 + 1; omega) hn).trans ((Deep.blk_alloc_lt _ _ _ (by rw [Deep.nblk_alloc]; show k < w.heap.size + 1; omega)).trans (Deep.blk_alloc_lt _ _ _ hk))
  have hs5 : w.heap.size + 2 ≤ w5.heap.size := by
    have h1 := hg.size
    rw [Deep.nblk_alloc, Deep.nblk_alloc] at h1
    have : w.drew.heap.size = w.heap.size := rfl
    omega
  have hCg : some C ≠ gv.ownBlock := own_ne_cells (CC := []) hx h.box copier_ne_cell
  have hC5 := (k5 C hCl hCg).trans h.box
  have hCv : some C ≠ v'.ownBlock := own_ne_cells (CC := []) hown hC5 copier_ne_cell
  have k6 : ∀ k, k < w.heap.size → some k ≠ gv.ownBlock → k ≠ C → (w5.setCell ⟨C, 1, none⟩ v').heap[k]? = w.heap[k]? := fun k hk hn hc => (Below.heap_setCell _ _ _ _ hc).trans (k5 k hk hn)
  have hlow : ∀ k, k < lo → (w5.setCell ⟨C, 1, none⟩ v').heap[k]? = w.heap[k]? := fun k hk => k6 k (by omega) (fun e => by have := own_block hx e; omega) (by have := h.cl; omega)
  refine ⟨rfl, v', ?_, ?_, ?_, ?_⟩
  · simp [World.setCell, Array.getElem?_modify, hC5]
  · refine h.cells.grow hi hcl h64 (hk.mono (fun _ h => h) fun k hk => hlow k hk) hx ?_ (fun k D hS hk hD => ?_) hlow
    · refine ⟨hown.1, ?_⟩
      rcases hown.2 with h' | ⟨b, cap, cur, rfl, hb, hh, r⟩
      · exact Or.inl h'
      · exact Or.inr ⟨b, cap, cur, rfl, hb, (Below.heap_setCell _ _ _ _ (fun e => hCv (by simp only [Value.ownBlock, Option.some.injEq]; exact e.symm))).trans hh, r⟩
    · refine k6 k hk (cellrow_ne hx hD) fun e => ?_
      subst e
      rw [h.box] at hD
      simp only [Option.some.injEq, Obj.cells.injEq] at hD
      exact copier_ne_int hD.2.1
  · intro k hk
    rcases hw with e | ⟨q, e, hq⟩
    · rw [e] at hk; exact Or.inl hk
    · rw [e] at hk
      simp only [Option.some.injEq] at hk
      rw [Deep.nblk_alloc, Deep.nblk_alloc] at hq
      have : w.drew.heap.size = w.heap.size := rfl
      exact Or.inr (by omega)
  · exact ⟨hg.os, hg.tape, hg.output, by rw [size_setCell]; omega, fun k hk hn => k6 k hk (fun e => hn (Or.inr e)) fun e => hn (Or.inl e)⟩
/-- what the map and the order add to it -/
theorem CopW.fin {C M lo : Nat} {g : List Ce} {fv : Value} {o : List Nat} {i a : Nat} {U : Nat → Prop} {gv gv' ov ov' : Value} {w w1 w2 w3 : World} {obj : Obj} (h : CopW C M lo g fv o i U gv ov w) (hlo : lo ≤ w.heap.size)
    (hC1 : w1.heap[C]? = some (.cells #[fv, gv', .map (some M), ov] 77)) (hG1 : CpG w1 lo (fun k => U k ∧ some k ≠ ov.ownBlock) g (o ++ [a]) i gv') (hv : ∀ k, some k = gv'.ownBlock → some k = gv.ownBlock ∨ w.heap.size ≤ k) (hB1 : ButP (fun k => k = C ∨ some k = gv.ownBlock) w w1)
    (hM1 : MapN w1 M o) (hM2 : MapN w2 M (o ++ [a])) (hg2 : w1.grownBy w2 (some M)) (hO2 : Stk w2 lo o ov) (hO3 : Stk w3 lo (o ++ [a]) ov') (hg3 : (w2.alloc obj).grownBy w3 ov.ownBlock) (hw3 : ov'.ownBlock = ov.ownBlock ∨ ∃ q, ov'.ownBlock = some q ∧ (w2.alloc obj).heap.size ≤ q) :
    CopW C M lo g fv (o ++ [a]) i (fun k => U k ∨ w.heap.size ≤ k) gv' ov' (w3.setCell ⟨C, 3, none⟩ ov') ∧ ButP U w (w3.setCell ⟨C, 3, none⟩ ov') := by
  have hs1 := hB1.size
  have hs2 := hg2.size
  have hs3 := hg3.size
  rw [Deep.nblk_alloc] at hs3 hw3
  obtain ⟨xs, hx⟩ := hG1.row
  have hCl := h.lt
  have hCM := h.ne
  have hCo : some C ≠ ov.ownBlock := own_ne_cells (CC := []) h.order h.box copier_ne_int
  have hMl := hM1.lt
  have k3 : ∀ k, k < w2.heap.size → some k ≠ ov.ownBlock → w3.heap[k]? = w2.heap[k]? := fun k hk hn => (hg3.block k (by rw [Deep.nblk_alloc]; omega) hn).trans (Deep.blk_alloc_lt _ _ _ hk)
  have k31 : ∀ k, k < w1.heap.size → some k ≠ ov.ownBlock → k ≠ M → w3.heap[k]? = w1.heap[k]? := fun k hk hn hm => (k3 k (by omega) hn).trans (hg2.block k hk (by simpa using hm))
  have hC3 := (k31 C (by omega) hCo hCM).trans hC1
  have hCo' : some C ≠ ov'.ownBlock := own_ne_cells (CC := []) hO3 hC3 copier_ne_int
  have k41 : ∀ k, k < w1.heap.size → some k ≠ ov.ownBlock → k ≠ M → k ≠ C → (w3.setCell ⟨C, 3, none⟩ ov').heap[k]? = w1.heap[k]? := fun k hk hn hm hc => (Below.heap_setCell _ _ _ _ hc).trans (k31 k hk hn hm)
  have hov : ∀ k, some k = ov'.ownBlock → some k = ov.ownBlock ∨ w2.heap.size < k := by
    intro k hk
    rcases hw3 with e | ⟨q, e, hq⟩
    · rw [e] at hk; exact Or.inl hk
    · rw [e] at hk; simp only [Option.some.injEq] at hk; exact Or.inr (by omega)
  have hlow : ∀ k, k < lo → (w3.setCell ⟨C, 3, none⟩ ov').heap[k]? = w.heap[k]? := fun k hk => (k41 k (by omega) (fun e => by have := own_block h.order e; omega) (by have := h.ml; omega) (by have := h.cl; omega)).trans (hB1.block k (by omega) fun e => by
    rcases e with e | e
    · have := h.cl; omega
    · obtain ⟨ys, hy⟩ := h.cells.row
      have := own_block hy e; omega)
  have hlow1 : ∀ k, k < lo → (w3.setCell ⟨C, 3, none⟩ ov').heap[k]? = w1.heap[k]? := fun k hk => k41 k (by omega) (fun e => by have := own_block h.order e; omega) (by have := h.ml; omega) (by have := h.cl; omega)
  refine ⟨⟨?_, ?_, ?_, ?_, ?_, ?_, Or.inl h.cU, Or.inl h.mU, h.cl, h.ml, h.src.mono (fun _ h => h) fun k hk => hlow k hk⟩, ?_⟩
  · simp [World.setCell, Array.getElem?_modify, hC3]
  · refine hG1.next (fun k hk hkl => ⟨Or.inl hk.1, fun e => ?_⟩) (fun k e hkl => ?_) (fun k D hS hkl hD => ?_) hlow1
    · rcases hov k e with e | e
      · exact hk.2 e
      · omega
    · have hkc : ∃ D, w1.heap[k]? = some (.cells D 48 (0, 0)) := by
        rcases hx.2 with ⟨rfl, -⟩ | ⟨b, cap, cur, rfl, -, hh, -⟩
        · simp [Value.ownBlock] at e
        · simp only [Value.ownBlock, Option.some.injEq] at e
          subst e; exact ⟨_, hh⟩
      obtain ⟨D, hD⟩ := hkc
      refine k41 k hkl (fun e2 => ?_) (hM1.ne_row hD) (fun e2 => ?_)
      · have h2 : w2.heap[k]? = some (.cells D 48 (0, 0)) := (hg2.block k hkl (by simpa using hM1.ne_row hD)).trans hD
        exact own_ne_cells (CC := []) hO2 h2 (by decide) e2
      · subst e2
        rw [hC1] at hD
        simp only [Option.some.injEq, Obj.cells.injEq] at hD
        exact copier_ne_cell hD.2.1
    · refine k41 k hkl hS.2 (hM1.ne_row hD) fun e2 => ?_
      subst e2
      rw [hC1] at hD
      simp only [Option.some.injEq, Obj.cells.injEq] at hD
      exact copier_ne_int hD.2.1
  · refine ⟨hO3.1, ?_⟩
    rcases hO3.2 with h' | ⟨b, cap, cur, rfl, hb, hh, r⟩
    · exact Or.inl h'
    · exact Or.inr ⟨b, cap, cur, rfl, hb, (Below.heap_setCell _ _ _ _ (fun e => hCo' (by simp only [Value.ownBlock, Option.some.injEq]; exact e.symm))).trans hh, r⟩
  · refine hM2.of_block ((Below.heap_setCell _ _ _ _ (fun e => hCM e.symm)).trans (k3 M (by omega) (own_ne_map hO2 hM2)))
  · intro k hk
    rcases hv k hk with e | e
    · exact Or.inl (h.gU k e)
    · exact Or.inr e
  · intro k hk
    rcases hov k hk with e | e
    · exact Or.inl (h.oU k e)
    · exact Or.inr (by omega)
  · refine ⟨(hg3.os.trans hg2.os).trans hB1.os, (hg3.tape.trans hg2.tape).trans hB1.tape, (hg3.output.trans hg2.output).trans hB1.output, by rw [size_setCell]; omega, fun k hk hn => ?_⟩
    refine (k41 k (by omega) (fun e => hn (h.oU k e)) (fun e => hn (e ▸ h.mU)) (fun e => hn (e ▸ h.cU))).trans (hB1.block k hk fun e => ?_)
    rcases e with e | e
    · exact hn (e ▸ h.cU)
    · exact hn (h.gU k e)
end Go.Proofs.Ytglpehelmlehiaa
/-
  THE PROGRAM's forward: the place of a cell's copy, which is made only once.
-/
namespace Go.Proofs.Ytglpehelmlehiaa
set_option linter.unusedVariables false
set_option linter.unusedSimpArgs false
open Go.RowKit Go.Maps

/-- the look-up of a place -/
theorem wpList_lookN {ops : Array Oper} {rest : List Oper} {o1 : Oper} {a : Act} {Q : Exit → Act → World → Prop} (w : World) (hg : o1.guard = none) (m x : Operand) (hop : o1.op = Op.lookup 75 m x true) (M : Nat) (o : List Nat) (hM : MapN w M o) (hm : a.eval m = .map (some M)) (q : Nat) (hq : q ≤ 1048576)
    (hx : a.eval x = .int .i64 (q : Int)) (b : Bool) (c : Int) (hb : memB o q = b) (hc : b = true → (posN o q : Int) = c) (hc0 : b = false → c = 0) (hK : wpList Try.prog ops Q rest (a.put o1.dst (.tuple #[.int .i64 c, .bool b])) w) : wpList Try.prog ops Q (o1 :: rest) a w := by
  obtain ⟨n, D, hown, hn, hs⟩ := hM
  refine wpList_lookup_own_ok_int w hg m x 75 hop 3 3 .i64 keyedI Try.underlying75 Try.underlying3 (zeroI w) M n D hm hown (.int .i64 (q : Int)) (.int .i64 (q : Int)) hx (keyOf_int_mk Try.underlying3 (litI_wf q hq)) ?_
  intro c' hat hwc
  obtain ⟨h1, h2⟩ := hs q hq
  rw [h1, hb]
  have e : c' = c := by
    cases b with
    | true =>
      have hm : q ∈ o := by simpa [memB] using hb
      rw [h2 hm] at hat
      rw [← hc rfl]
      simp only [DataW.lit.injEq, Lit.int.injEq, true_and] at hat
      exact hat.symm
    | false =>
      rw [atKey_of_not_has (h1.trans hb)] at hat
      rw [hc0 rfl]
      simp only [DataW.lit.injEq, Lit.int.injEq, true_and] at hat
      exact hat.symm
  rw [e]; exact hK
/-- the place of one more -/
theorem wpList_putN {ops : Array Oper} {rest : List Oper} {o1 : Oper} {a : Act} {Q : Exit → Act → World → Prop} (w : World) (hg : o1.guard = none) (m x v : Operand) (hop : o1.op = Op.mapUpdate 75 m x v) (M : Nat) (o : List Nat) (hM : MapN w M o) (hm : a.eval m = .map (some M)) (q : Nat) (hq : q ≤ 1048576)
    (hx : a.eval x = .int .i64 (q : Int)) (hv : a.eval v = .int .i64 (o.length : Int)) (hl : o.length ≤ 1048576) (hqo : q ∉ o) (hK : ∀ w', MapN w' M (o ++ [q]) → w.grownBy w' (some M) → wpList Try.prog ops Q rest (a.put o1.dst undef) w') : wpList Try.prog ops Q (o1 :: rest) a w := by
  obtain ⟨n, D, hown, hn, hs⟩ := hM
  refine wpList_mapUpdate_own w hg m x v 75 hop 3 3 keyedI Try.underlying75 _ M n D hm hown (by unfold maxLen; omega) (.int .i64 (q : Int)) (.int .i64 (o.length : Int)) (.int .i64 (q : Int)) hx hv (keyOf_int_mk Try.underlying3 (litI_wf q hq)) (.lit (.int .i64 (o.length : Int))) [] (plainElem_int Try.underlying3 (litI_wf _ hl)) ?_
  intro w' h1 h2
  exact hK w' (mapN_put h1 hown.isMap hn hs hqo) h2

theorem box_grownM {w w2 : World} {M b : Nat} {o : List Nat} {C : Array Value} {T : TypeId} (h : w.heap[b]? = some (.cells C T)) (hM : MapN w M o) (hg : w.grownBy w2 (some M)) : w2.heap[b]? = some (.cells C T) :=
  (hg.block b (Array.getElem?_eq_some_iff.1 h).1 (by have := hM.ne_row h; simpa using this)).trans h
theorem Stk.grownM {w w2 : World} {M lo : Nat} {o ws : List Nat} {v : Value} (h : Stk w lo ws v) (hM : MapN w M o) (hg : w.grownBy w2 (some M)) : Stk w2 lo ws v := by
  refine ⟨h.1, ?_⟩
  rcases h.2 with h' | ⟨b, cap, cur, e, hb, hh, r⟩
  · exact Or.inl h'
  · exact Or.inr ⟨b, cap, cur, e, hb, box_grownM hh hM hg, r⟩
theorem Stk.butC {w w1 : World} {C lo n : Nat} {ws : List Nat} {v gv : Value} {A : Array Value} {xs : List Value} (h : Stk w lo ws v) (hC : w.heap[C]? = some (.cells A 77)) (hx : w.ownsRow lo 48 3 gv n xs) (hb : ButP (fun k => k = C ∨ some k = gv.ownBlock) w w1) : Stk w1 lo ws v := by
  refine ⟨h.1, ?_⟩
  rcases h.2 with h' | ⟨b, cap, cur, e, hl, hh, r⟩
  · exact Or.inl h'
  · refine Or.inr ⟨b, cap, cur, e, hl, (hb.block b (Array.getElem?_eq_some_iff.1 hh).1 fun e2 => ?_).trans hh, r⟩
    rcases e2 with e2 | e2
    · subst e2
      rw [hh] at hC
      simp only [Option.some.injEq, Obj.cells.injEq] at hC
      exact copier_ne_int hC.2.1.symm
    · exact own_ne_cells (CC := []) hx hh (by decide) e2
/-- what forward hands back -/
def Fwd (C M lo : Nat) (g : List Ce) (fv : Value) (o : List Nat) (i a : Nat) (U : Nat → Prop) (w : World) (e : Ending) (w' : World) : Prop :=
  e = .returned (.int .i64 (posN (visit o a) a : Int)) ∧ ∃ gv' ov', CopW C M lo g fv (visit o a) i (fun k => U k ∨ w.heap.size ≤ k) gv' ov' w' ∧ ButP U w w'
theorem news1i (w : World) (n : Nat) : ∀ j u, [Value.int .i64 (n : Int)][j]? = some u → (w.alloc (.cells #[.int .i64 (n : Int)] 3)).cell? ((⟨w.heap.size, 0, none⟩ : Addr).add j) = some u := by
  intro j u hu
  have hj : j = 0 := by
    rcases Nat.lt_or_ge j 1 with h | h
    · omega
    · rw [List.getElem?_eq_none (by simpa using h)] at hu; cases hu
  subst hj
  simp only [List.getElem?_cons_zero, Option.some.injEq] at hu
  subst hu
  rw [WideShapes.add_plain]
  exact box_cell w #[.int .i64 (n : Int)] 3 0 _ rfl
theorem stk_snoc2 {w : World} {lo n : Nat} {ws : List Nat} {v : Value} (h : w.ownsRow lo 3 1 v (ws.length + 1) (plV ws ++ [.int .i64 (n : Int)])) : Stk w lo (ws ++ [n]) v := by
  unfold Stk
  rw [show plV (ws ++ [n]) = plV ws ++ [.int .i64 (n : Int)] by simp [plV], List.length_append]
  exact h

set_option maxRecDepth 100000 in
set_option maxHeartbeats 3200000 in
theorem forward_calls (C M lo : Nat) (g : List Ce) (fv : Value) (o : List Nat) (i a : Nat) (U : Nat → Prop) (gv ov : Value) (w : World) (h : CopW C M lo g fv o i U gv ov w) (hlo : lo ≤ w.heap.size) (hg : graphB g 6 = true) (hcs : Cs g.length o) (hi : i ≤ o.length) (hcl : ∀ j, j < i → ∀ k ∈ kidsN g (o.getD j 0), k ∈ o) (ha : a < g.length) :
    Calls Try.prog 113 #[.pointer (some ⟨C, 0, none⟩), .int .i64 (a : Int)] w (Fwd C M lo g fv o i a U w) := by
  have H := mkHid h
  have HG := mkHid hg
  have HCL := mkHid hcl
  have h400 : g.length ≤ 400 := graphB_len hg
  have hol := hcs.len
  obtain ⟨adf, capf, rfl⟩ : ∃ ad cap, fv = .slice ad g.length cap := by obtain ⟨ad, cap, e, -⟩ := h.src; exact ⟨ad, cap, e⟩
  obtain ⟨ado, capo, rfl⟩ := h.order.len
  have p0 := cell_of_blk h.box 0 _ rfl
  have p2 := cell_of_blk h.box 2 _ rfl
  have hCl := h.lt
  have HM := mkHid h.map
  clear h hg hcl
  cases hm : memB o a with
  | true =>
    have HV : Hid (Fwd C M lo g (.slice adf g.length capf) o i a U w (.returned (.int .i64 (posN o a : Int))) w) := by
      have e := memB_yes hm
      have h2 := H.out
      refine ⟨by rw [e], gv, .slice ado o.length capo, ?_, ButP.refl _ _⟩
      rw [e]
      exact ⟨h2.box, h2.cells.next (fun k hk _ => ⟨Or.inl hk.1, hk.2⟩) (fun _ _ _ => rfl) (fun _ _ _ _ _ => rfl) (fun _ _ => rfl), h2.order, h2.map, fun k e => Or.inl (h2.gU k e), fun k e => Or.inl (h2.oU k e), Or.inl h2.cU, Or.inl h2.mU, h2.cl, h2.ml, h2.src⟩
    obtain ⟨c, hc⟩ : ∃ c : Int, c = (posN o a : Int) := ⟨_, rfl⟩
    have HC := mkHid hc
    have HMB := mkHid hm
    clear hm hc
    go_enter Try.func113, Try.ntmps113
    go_wp2_with (first | (at_lookup; refine wpList_lookN _ rfl _ _ rfl M o HM.out rfl a (by omega) rfl true c HMB.out (fun _ => HC.out.symm) (fun e => Bool.noConfusion e) ?_) | go_in)
    go_ret
    rw [HC.out]
    exact HV.out
  | false =>
    have hao : a ∉ o := by simpa [memB] using hm
    have HAO := mkHid hao
    have HMB := mkHid hm
    have HVI : Hid (visit o a = o ++ [a]) := memB_no hm
    obtain ⟨bl, off, r2, e, hbl, c0, c1, c2, io, iN, hkk⟩ := H.out.src.atS a ha
    cases e
    have hbl2 : bl < lo := hbl
    have HKK : Hid (IntsOn w (Lt lo) (plI (kidsN g a)) r2) := by rw [kids_back HG.out a ha] at hkk; exact hkk
    obtain ⟨adk, capk, rfl, -, -, -⟩ := id hkk
    have HOP : Hid (opAt g a = g[a].op ∧ numAt g a = g[a].num) := by
      unfold opAt numAt
      rw [getD_at _ _ _ ha]
      exact ⟨rfl, rfl⟩
    have H64 : Hid (I64 (opAt g a) ∧ I64 (numAt g a)) := by rw [HOP.out.1, HOP.out.2]; exact ⟨io, iN⟩
    rw [← HOP.out.1] at c0
    rw [← HOP.out.2] at c1
    obtain ⟨op, hop⟩ : ∃ op, op = opAt g a := ⟨_, rfl⟩
    obtain ⟨num, hnum⟩ : ∃ num, num = numAt g a := ⟨_, rfl⟩
    have HON := mkHid (And.intro hop hnum)
    rw [← hop] at c0
    rw [← hnum] at c1
    obtain ⟨xs, hx⟩ := H.out.cells.row
    have HX := mkHid hx
    have hblw : bl < w.heap.size := by omega
    have HLOW : Hid (∀ w1, ButP (fun k => k = C ∨ some k = gv.ownBlock) w w1 → w1.heap[bl]? = w.heap[bl]?) := fun w1 hb => hb.block bl (by omega) fun e => by
      rcases e with e | e
      · have := H.out.cl; omega
      · have := own_block HX.out e; omega
    clear hm hao hkk io iN hop hnum hx hbl
    go_enter Try.func113, Try.ntmps113
    go_wp2_with (first | (at_lookup; refine wpList_lookN _ rfl _ _ rfl M o HM.out rfl a (by omega) rfl false 0 HMB.out (fun e => Bool.noConfusion e) (fun _ => rfl) ?_) | go_in)
    go_region_held3 (fun w' => w'.cell? ⟨C, 0, none⟩ = some (.slice (some ⟨bl, off, none⟩) g.length capf) ∧ w'.cell? ⟨bl, off + a * 3, none⟩ = some (.int .i64 op) ∧ w'.cell? ⟨bl, off + a * 3 + 1, none⟩ = some (.int .i64 num) ∧ w'.cell? ⟨bl, off + a * 3 + 2, none⟩ = some (.slice adk g[a].kids.length capk))
      (first
        | go_keep
        | exact ⟨s0, s1, s2, s3⟩
        | exact ⟨p0, c0, c1, c2⟩)
      (first
        | (go_at_call 95; refine (addP_calls C 1 77 #[.slice (some ⟨bl, off, none⟩) g.length capf, gv, .map (some M), .slice ado o.length capo] copier_ne_cell lo o.length op num gv adk g[a].kids.length capk xs w.drew H.out.box rfl HX.out hlo (by omega)).mono ?_; intro e w1 he; rw [HON.out.1, HON.out.2] at he; obtain ⟨rfl, gv', hC1, hG1, hv1, hB1⟩ := H.out.add hi HCL.out H64.out HKK.out HX.out he hlo; have hlw := HLOW.out w1 hB1; have s0 := cell_of_blk hC1 0 _ rfl; have s1 := (World.cell?_of_block (a := ⟨bl, off + a * 3, none⟩) hlw).trans c0; have s2 := (World.cell?_of_block (a := ⟨bl, off + a * 3 + 1, none⟩) hlw).trans c1; have s3 := (World.cell?_of_block (a := ⟨bl, off + a * 3 + 2, none⟩) hlw).trans c2; have HC1 := mkHid hC1; have HG1 := mkHid hG1; have HV1 := mkHid hv1; have HB1 := mkHid hB1; clear he hC1 hG1 hv1 hB1 hlw))
    have HM1 : Hid (MapN w1 M o) := HM.out.of_block (HB1.out.block M HM.out.lt fun e => by
      rcases e with e | e
      · exact H.out.ne e.symm
      · exact own_ne_map HX.out HM.out e)
    have q2 := cell_of_blk HC1.out 2 _ rfl
    clear s0 s1 s2 s3 p0 p2 c0 c1 c2
    obtain ⟨iI, zI, hII⟩ := infoI1
    have HII : Hid (Try.prog.info? 3 = some iI ∧ iI.zero = some zI ∧ iI.size = 1 ∧ iI.bytes = 8 ∧ zI.cells.size = 1) := hII
    have HO1 : Hid (Stk w1 lo o (.slice ado o.length capo)) := H.out.order.butC H.out.box HX.out HB1.out
    clear hII
    go_wp2_with (first
      | (at_mapUpdate; refine wpList_putN _ rfl _ _ _ rfl M o HM1.out rfl a (by omega) rfl rfl (by omega) HAO.out ?_; intro w2 hM2 hg2; go_must (have HM2 := mkHid hM2); go_must (have HG2 := mkHid hg2); go_must (have HS2 : Hid (w1.heap.size ≤ w2.heap.size) := hg2.size); go_must (have hC2 := box_grownM HC1.out HM1.out hg2); go_must (have HC2 := mkHid hC2); go_must (have q3 := cell_of_blk hC2 3 _ rfl); go_must (have q3a := old_cell q3 (.cells #[.int .i64 (a : Int)] 3)); go_must (have HO2 : Hid (Stk w2 lo o (.slice ado o.length capo)) := HO1.out.grownM HM1.out hg2); go_must (have HO2a : Hid (Stk (w2.alloc (.cells #[.int .i64 (a : Int)] 3)) lo o (.slice ado o.length capo)) := HO2.out.alloc _); clear hM2 hg2 hC2 q2)
      | (at_builtin; go_must (refine wpList_append_where _ rfl _ _ 37 rfl lo 3 iI zI 1 8 Try.underlying37 HII.out.1 HII.out.2.1 HII.out.2.2.1 HII.out.2.2.2.1 HII.out.2.2.2.2 (by decide) (.slice ado o.length capo) o.length (plV o) rfl HO2a.out ⟨w2.heap.size, 0, none⟩ 1 1 [.int .i64 (a : Int)] rfl rfl (news1i w2 _) (by simp [Value.oneCell']) (by unfold maxLen; omega) (by omega) (by rw [Deep.nblk_alloc]; have := HB1.out.size; have := HS2.out; omega) (by omega) ?_); go_must (intro v' w3 hown hg3 hw3); go_must (have HO3 : Hid (Stk w3 lo (o ++ [a]) v') := stk_snoc2 hown); go_must (have HG3 := mkHid hg3); go_must (have HW3 := mkHid hw3); go_must (have hC3 := (hg3.block C (by rw [Deep.nblk_alloc]; have := (Array.getElem?_eq_some_iff.1 HC2.out).1; omega) (own_ne_cells (CC := []) HO2.out HC2.out copier_ne_int)).trans ((Deep.blk_alloc_lt _ _ _ (Array.getElem?_eq_some_iff.1 HC2.out).1).trans HC2.out)); go_must (obtain ⟨adz, capz, rfl⟩ := stk_form HO3.out rfl); go_must (have r3 := cell_of_blk hC3 3 _ rfl); go_must (have rf := frz_of_blk hC3 3); clear hown hg3 hw3 hC3 q3 q3a)
      | go_in)
    go_ret
    obtain ⟨z1, z2⟩ := H.out.fin hlo HC1.out HG1.out HV1.out HB1.out HM1.out HM2.out HG2.out HO2.out HO3.out HG3.out HW3.out
    refine ⟨?_, gv', .slice adz (o.length + 1) capz, ?_, z2⟩
    · rw [HVI.out, posN_snoc o a HAO.out]; rfl
    · rw [HVI.out]; exact z1
end Go.Proofs.Ytglpehelmlehiaa
/-
  THE PROGRAM's forwardAll: the places of the copies of cells, in a new row.
-/
namespace Go.Proofs.Ytglpehelmlehiaa
set_option linter.unusedVariables false
set_option linter.unusedSimpArgs false
open Go.RowKit Go.Maps

theorem CopW.next {C M lo : Nat} {g : List Ce} {fv : Value} {o : List Nat} {i : Nat} {U V : Nat → Prop} {gv ov : Value} {w w' : World} (h : CopW C M lo g fv o i U gv ov w) (hV : ∀ k, U k → k < w.heap.size → V k) (hb : ∀ k, U k → k < w.heap.size → w'.heap[k]? = w.heap[k]?) (hl : ∀ k, k < lo → w'.heap[k]? = w.heap[k]?) : CopW C M lo g fv o i V gv ov w' := by
  obtain ⟨xs, hx⟩ := h.cells.row
  have hgl : ∀ k, some k = gv.ownBlock → k < w.heap.size := fun k e => (own_some hx k e.symm).2
  have hol : ∀ k, some k = ov.ownBlock → k < w.heap.size := fun k e => (own_some h.order k e.symm).2
  refine ⟨(hb C h.cU h.lt).trans h.box, h.cells.next (fun k hk hkl => ⟨hV k hk.1 hkl, hk.2⟩) (fun k e hk => hb k (h.gU k e) hk) (fun k D hS hk _ => hb k hS.1 hk) hl, ?_, h.map.of_block (hb M h.mU h.map.lt), fun k e => hV k (h.gU k e) (hgl k e), fun k e => hV k (h.oU k e) (hol k e), hV C h.cU h.lt, hV M h.mU h.map.lt, h.cl, h.ml, h.src.mono (fun _ h => h) fun k hk => hl k hk⟩
  refine ⟨h.order.1, ?_⟩
  rcases h.order.2 with h' | ⟨b, cap, cur, e, hg, hh, r⟩
  · exact Or.inl h'
  · exact Or.inr ⟨b, cap, cur, e, hg, (hb b (h.oU b (by rw [e]; rfl)) (Array.getElem?_eq_some_iff.1 hh).1).trans hh, r⟩
theorem cl_pre {g : List Ce} {o o' : List Nat} {i : Nat} (hp : o <+: o') (hi : i ≤ o.length) (hcl : ∀ j, j < i → ∀ k ∈ kidsN g (o.getD j 0), k ∈ o) : ∀ j, j < i → ∀ k ∈ kidsN g (o'.getD j 0), k ∈ o' := by
  intro j hj k hk
  rw [getD_pre hp (by omega)] at hk
  exact hp.subset (hcl j hj k hk)
theorem Stk.only {w w' : World} {lo : Nat} {ws : List Nat} {v : Value} (h : Stk w lo ws v) (hb : ∀ k, some k = v.ownBlock → k < w.heap.size → w'.heap[k]? = w.heap[k]?) : Stk w' lo ws v := by
  refine ⟨h.1, ?_⟩
  rcases h.2 with h' | ⟨b, cap, cur, e, hg, hh, r⟩
  · exact Or.inl h'
  · exact Or.inr ⟨b, cap, cur, e, hg, (hb b (by rw [e]; rfl) (Array.getElem?_eq_some_iff.1 hh).1).trans hh, r⟩
/-- what forwardAll hands back -/
def FwdAll (C M lo : Nat) (g : List Ce) (fv : Value) (o : List Nat) (i : Nat) (ls : List Nat) (U : Nat → Prop) (w : World) (e : Ending) (w' : World) : Prop :=
  ∃ pv gv' ov', e = .returned pv ∧ Stk w' w.heap.size (ls.map (posN (visitL o ls))) pv ∧ CopW C M lo g fv (visitL o ls) i (fun k => (U k ∨ w.heap.size ≤ k) ∧ some k ≠ pv.ownBlock) gv' ov' w' ∧ ButP U w w'
/-- what holds behind k places -/
structure FaRel (C M lo : Nat) (g : List Ce) (fv : Value) (o : List Nat) (i : Nat) (ls : List Nat) (U : Nat → Prop) (w : World) (k : Nat) (pv : Value) (wr : World) : Prop where
  places : Stk wr w.heap.size ((ls.take k).map (posN (visitL o (ls.take k)))) pv
  cop : ∃ gv ov, CopW C M lo g fv (visitL o (ls.take k)) i (fun k => (U k ∨ w.heap.size ≤ k) ∧ some k ≠ pv.ownBlock) gv ov wr
  but : ButP U w wr
  cs : Cs g.length (visitL o (ls.take k))
theorem FaRel.push {C M lo : Nat} {g : List Ce} {fv : Value} {o : List Nat} {i : Nat} {ls : List Nat} {U : Nat → Prop} {w : World} {k x : Nat} {pv pv' : Value} {wr w1 w5 : World} {obj : Obj} {gv1 ov1 : Value} (h : FaRel C M lo g fv o i ls U w k pv wr) (hx : ls[k]? = some x) (hxl : x < g.length) (hlo : lo ≤ w.heap.size)
    (h1 : CopW C M lo g fv (visit (visitL o (ls.take k)) x) i (fun y => ((U y ∨ w.heap.size ≤ y) ∧ some y ≠ pv.ownBlock) ∨ wr.heap.size ≤ y) gv1 ov1 w1) (hb1 : ButP (fun y => (U y ∨ w.heap.size ≤ y) ∧ some y ≠ pv.ownBlock) wr w1)
    (hst : Stk w5 w.heap.size ((ls.take k).map (posN (visitL o (ls.take k))) ++ [posN (visit (visitL o (ls.take k)) x) x]) pv') (hg : (w1.alloc obj).grownBy w5 pv.ownBlock) (hw : pv'.ownBlock = pv.ownBlock ∨ ∃ q, pv'.ownBlock = some q ∧ (w1.alloc obj).heap.size ≤ q) : FaRel C M lo g fv o i ls U w (k + 1) pv' w5 := by
  have hs1 := hb1.size
  have hsr := h.but.size
  have hs5 := hg.size
  rw [Deep.nblk_alloc] at hs5 hw
  have hvl : visitL o (ls.take (k + 1)) = visit (visitL o (ls.take k)) x := by rw [take_snoc hx, visitL_snoc]
  have hpv : ∀ y, some y = pv.ownBlock → w.heap.size ≤ y ∧ y < wr.heap.size := fun y e => own_some h.places y e.symm
  have k5 : ∀ y, y < w1.heap.size → some y ≠ pv.ownBlock → w5.heap[y]? = w1.heap[y]? := fun y hy hn => (hg.block y (by rw [Deep.nblk_alloc]; omega) hn).trans (Deep.blk_alloc_lt _ _ _ hy)
  have hpv' : ∀ y, some y = pv'.ownBlock → some y = pv.ownBlock ∨ w1.heap.size < y := by
    intro y hy
    rcases hw with e | ⟨q, e, hq⟩
    · rw [e] at hy; exact Or.inl hy
    · rw [e] at hy; simp only [Option.some.injEq] at hy; exact Or.inr (by omega)
  refine ⟨?_, ⟨gv1, ov1, ?_⟩, ?_, ?_⟩
  · rw [hvl, take_snoc hx, List.map_append, List.map_singleton]
    have e : (ls.take k).map (posN (visit (visitL o (ls.take k)) x)) = (ls.take k).map (posN (visitL o (ls.take k))) := List.map_congr_left fun y hy => posN_pre (visit_pre _ _) (visitL_mem _ _ _ hy)
    rw [e]; exact hst
  · rw [hvl]
    refine h1.next (fun y hy hyl => ⟨?_, fun e => ?_⟩) (fun y hy hyl => k5 y hyl fun e => ?_) fun y hy => k5 y (by omega) fun e => by have := (hpv y e).1; omega
    · rcases hy with hy | hy
      · exact hy.1
      · exact Or.inr (by omega)
    · rcases hpv' y e with e | e
      · rcases hy with hy | hy
        · exact hy.2 e
        · have := (hpv y e).2; omega
      · omega
    · rcases hy with hy | hy
      · exact hy.2 e
      · have := (hpv y e).2; omega
  · refine ⟨?_, ?_, ?_, by omega, fun y hy hn => ?_⟩
    · exact (hg.os.trans hb1.os).trans h.but.os
    · exact (hg.tape.trans hb1.tape).trans h.but.tape
    · exact (hg.output.trans hb1.output).trans h.but.output
    · refine ((k5 y (by omega) fun e => by have := (hpv y e).1; omega).trans (hb1.block y (by omega) fun e => ?_)).trans (h.but.block y hy hn)
      rcases e.1 with e | e
      · exact hn e
      · omega
  · rw [hvl]; exact h.cs.visit hxl
theorem wsnoc {w : World} {lo n q : Nat} {ws : List Nat} {v : Value} (hl : ws.length = q) (h : w.ownsRow lo 3 1 v (q + 1) (plV ws ++ [.int .i64 (n : Int)])) : Stk w lo (ws ++ [n]) v := by
  subst hl; exact stk_snoc2 h

set_option maxRecDepth 100000 in
set_option maxHeartbeats 1600000 in
theorem forwardAll_calls (C M lo : Nat) (g : List Ce) (fv : Value) (o : List Nat) (i : Nat) (ls : List Nat) (lv : Value) (U : Nat → Prop) (gv ov : Value) (w : World) (h : CopW C M lo g fv o i U gv ov w) (hlo : lo ≤ w.heap.size) (hg : graphB g 6 = true) (hcs : Cs g.length o) (hi : i ≤ o.length) (hcl : ∀ j, j < i → ∀ k ∈ kidsN g (o.getD j 0), k ∈ o) (hll : ∀ x ∈ ls, x < g.length) (hz : ls.length ≤ 1048576) (hU : ∀ k, U k → lo ≤ k) (hlv : IntsOn w (Lt lo) (plI ls) lv) :
    Calls Try.prog 91 #[.pointer (some ⟨C, 0, none⟩), lv] w (FwdAll C M lo g fv o i ls U w) := by
  have HG := mkHid hg
  have HCL := mkHid hcl
  have HLL := mkHid hll
  have HLV := mkHid hlv
  have HU := mkHid hU
  have HI := mkHid hi
  have HST : Hid (FaRel C M lo g fv o i ls U w 0 (.slice none 0 0) w) := ⟨World.ownsRow_nil _ _ _ _, ⟨gv, ov, h.next (fun k hk _ => ⟨Or.inl hk, by simp [Value.ownBlock]⟩) (fun _ _ _ => rfl) fun _ _ => rfl⟩, ButP.refl _ _, hcs⟩
  obtain ⟨adl, capl, rfl, hlc, hlm⟩ := pl_form (hlv.mono (S' := Lt w.heap.size) (fun k (hk : k < lo) => Nat.lt_of_lt_of_le hk hlo) fun _ _ => rfl)
  unfold maxLen at hlm
  clear h hg hcl hll hlv hU hcs
  go_enter Try.func91, Try.ntmps91
  go_wp2_with fail
  go_loopw [5, 10] (fun pv z wr => ∃ k : Nat, k ≤ ls.length ∧ z = .int .i64 k ∧ FaRel C M lo g fv o i ls U w k pv wr) (fun _ z _ => ls.length - (intOf z).toNat)
  case atStart => exact ⟨0, Nat.zero_le _, rfl, HST.out⟩
  case round =>
    obtain ⟨k, hk, rfl, hr⟩ := hrel
    have HR := mkHid hr
    have hjl : ((ls.take k).map (posN (visitL o (ls.take k)))).length = k := by rw [List.length_map, List.length_take]; omega
    have HJL := mkHid hjl
    obtain ⟨adp, capp, rfl⟩ : ∃ ad cap, u5 = .slice ad k cap := by obtain ⟨x, y, e⟩ := hr.places.len; rw [hjl] at e; exact ⟨x, y, e⟩
    clear hr hjl
    by_cases hlt : k < ls.length
    · obtain ⟨bl, off, x, rfl, hbl, hx, hxm, d0w⟩ := pl_at (HLV.out.mono (S' := Lt w.heap.size) (fun k (hk : k < lo) => Nat.lt_of_lt_of_le hk hlo) fun _ _ => rfl) k hlt
      have hbll : bl < lo := by
        obtain ⟨bl', off', e, hb, -⟩ := HLV.out.atS k (by rw [plI_length]; exact hlt)
        cases e; exact hb
      have hxl := HLL.out x hxm
      have HX := mkHid hx
      have d0 := (World.cell?_of_block (a := ⟨bl, off + k, none⟩) (HR.out.but.block bl hbl fun e => by have := HU.out bl e; omega)).trans d0w
      obtain ⟨gv1, ov1, hc⟩ := HR.out.cop
      have HC := mkHid hc
      obtain ⟨o', ho'⟩ : ∃ o', o' = visitL o (ls.take k) := ⟨_, rfl⟩
      have HO' := mkHid ho'
      have HCALL : Hid (Calls Try.prog 113 #[.pointer (some ⟨C, 0, none⟩), .int .i64 (x : Int)] wr (Fwd C M lo g fv (visitL o (ls.take k)) i x (fun y => (U y ∨ w.heap.size ≤ y) ∧ some y ≠ (Value.slice adp k capp).ownBlock) wr)) :=
        forward_calls C M lo g fv _ i x _ gv1 ov1 wr hc (Nat.le_trans hlo HR.out.but.size) HG.out HR.out.cs (Nat.le_trans HI.out (visitL_pre _ _).length_le) (cl_pre (visitL_pre _ _) HI.out HCL.out) hxl
      obtain ⟨iI, zI, hII⟩ := infoI1
      have HII : Hid (Try.prog.info? 3 = some iI ∧ iI.zero = some zI ∧ iI.size = 1 ∧ iI.bytes = 8 ∧ zI.cells.size = 1) := hII
      clear hII hc d0w hx hxm ho'
      go_wp2_with fail
      refine HCALL.out.mono ?_
      rintro e w1 ⟨rfl, gv2, ov2, hc2, hb2⟩
      have HC2 := mkHid hc2
      have HB2 := mkHid hb2
      obtain ⟨m, hm⟩ : ∃ m, m = posN (visit (visitL o (ls.take k)) x) x := ⟨_, rfl⟩
      have HM := mkHid hm
      rw [← hm]
      have HS1 : Hid (Stk (w1.alloc (.cells #[.int .i64 (m : Int)] 3)) w.heap.size ((ls.take k).map (posN (visitL o (ls.take k)))) (.slice adp k capp)) := (HR.out.places.only fun y e hy => hb2.block y hy fun e2 => e2.2 e).alloc _
      have HZ1 : Hid (w.heap.size ≤ w1.heap.size) := Nat.le_trans HR.out.but.size hb2.size
      have HS1r : Hid ((w1.alloc (.cells #[.int .i64 (m : Int)] 3)).ownsRow w.heap.size 3 1 (.slice adp k capp) k (plV ((ls.take k).map (posN (visitL o (ls.take k)))))) := by
        have h := HS1.out
        unfold Stk at h
        rw [HJL.out] at h; exact h
      clear hc2 hb2 hm d0
      go_wp2_with (at_builtin; go_must (refine wpList_append_where _ rfl _ _ 37 rfl w.heap.size 3 iI zI 1 8 Try.underlying37 HII.out.1 HII.out.2.1 HII.out.2.2.1 HII.out.2.2.2.1 HII.out.2.2.2.2 (by decide) (.slice adp k capp) k (plV ((ls.take k).map (posN (visitL o (ls.take k))))) rfl HS1r.out ⟨w1.heap.size, 0, none⟩ 1 1 [.int .i64 (m : Int)] rfl rfl (news1i w1 _) (by simp [Value.oneCell']) (by unfold maxLen; omega) (by omega) (by rw [Deep.nblk_alloc]; have := HZ1.out; omega) (by omega) ?_); go_must (intro v' w3 hown hg3 hw3); go_must (have HO3 := mkHid hown); go_must (have HG3 := mkHid hg3); go_must (have HW3 := mkHid hw3); clear hown hg3 hw3)
      have HR3 : Hid (FaRel C M lo g fv o i ls U w (k + 1) v' w3) := HR.out.push HX.out hxl hlo HC2.out HB2.out (by rw [← HM.out]; exact wsnoc HJL.out HO3.out) HG3.out HW3.out
      go_roundw
      case rel => first | exact ⟨k + 1, by omega, by go_num, HR3.out⟩ | ((repeat apply Exists.intro); exact ⟨⟨k + 1, by omega, by go_num, HR3.out⟩, rfl⟩)
      case measure => simp [intOf]; omega
    · have hke : k = ls.length := by omega
      have HV : Hid (FwdAll C M lo g fv o i ls U w (.returned (.slice adp k capp)) wr) := by
        have h := HR.out
        rw [hke] at h ⊢
        obtain ⟨h1, ⟨gv1, ov1, h2⟩, h3, h4⟩ := h
        rw [List.take_length] at h1 h2
        exact ⟨_, gv1, ov1, rfl, h1, h2, h3⟩
      clear hke
      go_wp2_with fail
      go_ret
      exact HV.out
end Go.Proofs.Ytglpehelmlehiaa
/-
  THE PROGRAM's copyFrom: what can be reached from some cells, copied.
-/
namespace Go.Proofs.Ytglpehelmlehiaa
set_option linter.unusedVariables false
set_option linter.unusedSimpArgs false
open Go.RowKit Go.Maps

/-- the operands of copy i, which is not scanned -/
theorem CpG.kid {w : World} {lo : Nat} {S : Nat → Prop} {g : List Ce} {o : List Nat} {i : Nat} {v : Value} (h : CpG w lo S g o i v) (j : Nat) (hj : j < o.length) : ∃ b cap kv, v = .slice (some ⟨b, 0, none⟩) o.length cap ∧ lo ≤ b ∧ o.length ≤ cap ∧ cap ≤ maxLen ∧ b < w.heap.size ∧
    w.cell? ⟨b, j * 3 + 2, none⟩ = some kv ∧ w.frozen? ⟨b, j * 3 + 2, none⟩ = false ∧ w.cell? ⟨b, j * 3, none⟩ = some (.int .i64 (opAt g (o.getD j 0))) ∧ (¬ j < i → IntsOn w (Lt lo) (plI (kidsN g (o.getD j 0))) kv) := by
  obtain ⟨xs, kb, h1, h2, -⟩ := h
  obtain ⟨-, -, kv, e0, -, e2, e3⟩ := h2 j hj
  have hlen := h1.1
  rcases h1.2 with ⟨-, h0⟩ | ⟨b, cap, cur, rfl, hg, hh, hn, hc, hs, htk⟩
  · omega
  · have get : ∀ m u, m < o.length * 3 → xs[m]? = some u → cur[m]? = some u := by
      intro m u hm hu
      rw [← htk, List.getElem?_take_of_lt hm] at hu
      simpa using hu
    exact ⟨b, cap, kv, rfl, hg, hn, hc, (Array.getElem?_eq_some_iff.1 hh).1, cell_of_blk hh _ _ (get _ _ (by omega) e2), frz_of_blk hh _, cell_of_blk hh _ _ (get _ _ (by omega) e0), e3.2⟩
/-- a copy is scanned -/
theorem CopW.scan {C M lo lo' : Nat} {g : List Ce} {fv : Value} {o : List Nat} {i b cap : Nat} {U V : Nat → Prop} {ov pv : Value} {w : World} (h : CopW C M lo g fv o i U (.slice (some ⟨b, 0, none⟩) o.length cap) ov w) (hi : i < o.length)
    (hst : Stk w lo' ((kidsN g (o.getD i 0)).map (posN o)) pv) (hn : ∀ k, some k = pv.ownBlock → ¬ U k) (hV : ∀ k, U k ∨ some k = pv.ownBlock → k < w.heap.size → V k) : CopW C M lo g fv o (i + 1) V (.slice (some ⟨b, 0, none⟩) o.length cap) ov (w.setCell ⟨b, i * 3 + 2, none⟩ pv) := by
  obtain ⟨xs, hx⟩ := h.cells.row
  have hbl : lo ≤ b := own_block hx rfl
  have hbc : ∃ D, w.heap[b]? = some (.cells D 48 (0, 0)) := by
    rcases hx.2 with ⟨e, -⟩ | ⟨b2, cap2, cur, e, -, hh, -⟩
    · cases e
    · cases e; exact ⟨_, hh⟩
  obtain ⟨D, hD⟩ := hbc
  have hbs : b < w.heap.size := (Array.getElem?_eq_some_iff.1 hD).1
  have keep : ∀ k, k ≠ b → (w.setCell ⟨b, i * 3 + 2, none⟩ pv).heap[k]? = w.heap[k]? := fun k hk => Below.heap_setCell _ _ _ _ hk
  have hbC : C ≠ b := fun e => by
    have hb := h.box
    rw [e, hD] at hb
    simp only [Option.some.injEq, Obj.cells.injEq] at hb
    exact copier_ne_cell hb.2.1.symm
  have hV0 : ∀ k, U k → k < w.heap.size → V k := fun k hk hkl => hV k (Or.inl hk) hkl
  have hz : (w.setCell ⟨b, i * 3 + 2, none⟩ pv).heap.size = w.heap.size := size_setCell _ _ _
  refine ⟨(keep C hbC).trans h.box, ?_, ?_, h.map.of_block (keep M (fun e => h.map.ne_row hD e.symm)), fun k e => hV0 k (h.gU k e) (own_some hx k e.symm).2, fun k e => hV0 k (h.oU k e) (own_some h.order k e.symm).2, hV0 C h.cU h.lt, hV0 M h.mU h.map.lt, h.cl, h.ml, h.src.mono (fun _ h => h) fun k (hk : k < lo) => keep k (by omega)⟩
  · obtain ⟨blk, hb1, hb2⟩ : ∃ blk, (¬ ((U blk ∧ some blk ≠ ov.ownBlock) ∧ blk < w.heap.size)) ∧ (KRowS w (fun x => x = blk) ((kidsN g (o.getD i 0)).map fun k => (posN o k : Int)) blk pv ∧ (blk < w.heap.size → some blk = pv.ownBlock)) := by
      obtain ⟨blk, h1, h2⟩ := stk_krow hst
      rw [List.map_map] at h2
      by_cases he : (kidsN g (o.getD i 0)).map (posN o) = []
      · obtain ⟨ad, cap, e, l1, l2, -⟩ := h2
        exact ⟨w.heap.size, fun h => by have := h.2; omega, ⟨ad, cap, e, l1, l2, Or.inl (by simpa using he)⟩, fun h => by omega⟩
      · exact ⟨blk, fun h => hn blk (h1 he).symm h.1.1, h2, fun _ => (h1 he).symm⟩
    have hs := (h.cells.next (S' := fun k => (U k ∧ some k ≠ ov.ownBlock) ∧ k < w.heap.size) (fun k hk hkl => ⟨hk, hkl⟩) (fun _ _ _ => rfl) (fun _ _ _ _ _ => rfl) (fun _ _ => rfl)).scan hi hb2.1 hb1
    refine hs.next (fun k hk hkl => ?_) (fun _ _ _ => rfl) (fun _ _ _ _ _ => rfl) (fun _ _ => rfl)
    rw [hz] at hkl
    rcases hk with hk | rfl
    · exact ⟨hV k (Or.inl hk.1.1) hkl, hk.1.2⟩
    · have e := hb2.2 hkl
      exact ⟨hV k (Or.inr e) hkl, fun e2 => hn k e (h.oU k e2)⟩
  · exact h.order.only fun k e hk => keep k fun e2 => own_ne_cells (CC := []) h.order hD (by decide) (e2 ▸ e)

/-- what copyFrom leaves: the copies, their order, and the places of the roots, in rows of their own -/
def CopyDone (g : List Ce) (rs : List Nat) (w : World) (e : Ending) (w' : World) : Prop :=
  ∃ (C M : Nat) (fv gv ov tv : Value) (S : Nat → Prop), e = .returned (.tuple #[.pointer (some ⟨C, 0, none⟩), tv]) ∧ w.heap.size ≤ C ∧ w'.heap[C]? = some (.cells #[fv, gv, .map (some M), ov] 77) ∧
    OwnC w' w.heap.size S (copyG g rs) gv ∧ (∀ k, S k → w.heap.size ≤ k ∧ some k ≠ tv.ownBlock) ∧ Stk w' w.heap.size (orderG g rs) ov ∧ Stk w' w.heap.size (topsG g rs) tv ∧ Below w.heap.size w w'
/-- what holds when i copies have been scanned -/
structure CfRel (C M : Nat) (g : List Ce) (rs : List Nat) (fv tv : Value) (w : World) (i : Nat) (o : List Nat) (gv ov : Value) (wr : World) : Prop where
  ord : OrdRel g rs i o
  pre : visitL [] rs <+: o
  cop : CopW C M w.heap.size g fv o i (fun k => w.heap.size ≤ k ∧ some k ≠ tv.ownBlock) gv ov wr
  tops : Stk wr w.heap.size (rs.map (posN (visitL [] rs))) tv
  bel : Below w.heap.size w wr

set_option maxRecDepth 100000 in
set_option maxHeartbeats 3200000 in
theorem copyFrom_calls (g : List Ce) (rs : List Nat) (fv rv : Value) (w : World) (hk : CIn w g fv) (hr : IIn w (plI rs) rv) (hg : graphB g 6 = true) (hlt : ∀ x ∈ rs, x < g.length) (h20 : rs.length ≤ 20) :
    Calls Try.prog 64 #[fv, rv] w (CopyDone g rs w) := by
  have HG := mkHid hg
  have HLT := mkHid hlt
  have h400 : g.length ≤ 400 := graphB_len hg
  have HR := mkHid hr
  have hmm := @run_makeMap Try.prog
  obtain ⟨adf, capf, rfl, -, -, -⟩ := id hk
  obtain ⟨w1, hw1⟩ : ∃ w1 : World, w1 = (w.alloc (.map #[] 0)).alloc (.cells #[.slice adf g.length capf, .slice none 0 0, .map (some w.heap.size), .slice none 0 0] 77) := ⟨_, rfl⟩
  have HW1 := mkHid hw1
  have hz1 : w1.heap.size = w.heap.size + 2 := by rw [hw1, Deep.nblk_alloc, Deep.nblk_alloc]
  have hb1 : Below w.heap.size w w1 := by rw [hw1]; exact ((Below.refl _ _).alloc (Nat.le_refl _) _).alloc (by simp) _
  have HB1 := mkHid hb1
  have HCW : Hid (CopW (w.heap.size + 1) w.heap.size w.heap.size g (.slice adf g.length capf) [] 0 (fun k => w.heap.size ≤ k) (.slice none 0 0) (.slice none 0 0) w1) := by
    refine ⟨?_, CpG.nil _ _ _ _, World.ownsRow_nil _ _ _ _, ?_, fun k e => by simp [Value.ownBlock] at e, fun k e => by simp [Value.ownBlock] at e, by omega, Nat.le_refl _, by omega, Nat.le_refl _, hk.mono (fun _ h => h) fun k hk => hb1.block k hk⟩
    · have h := Deep.blk_alloc_new (w.alloc (.map #[] 0)) (.cells #[.slice adf g.length capf, .slice none 0 0, .map (some w.heap.size), .slice none 0 0] 77)
      rw [Deep.nblk_alloc] at h
      rw [hw1]; exact h
    · rw [hw1]; exact (MapN.made w).of_block (Deep.blk_alloc_lt _ _ _ (by rw [Deep.nblk_alloc]; omega))
  have HRL : Hid (IntsOn w1 (Lt w.heap.size) (plI rs) rv) := hr.mono (fun _ h => h) fun k hk => hb1.block k hk
  clear hk hr hg hlt hw1 hb1
  go_enter Try.func64, Try.ntmps64
  go_wp2_with fail
  rw [← HW1.out]
  refine (forwardAll_calls (w.heap.size + 1) w.heap.size w.heap.size g (.slice adf g.length capf) [] 0 rs rv (fun k => w.heap.size ≤ k) _ _ w1 HCW.out (by omega) HG.out (Cs.nil _) (Nat.zero_le _) (fun j hj => absurd hj (by omega)) HLT.out (by omega) (fun _ h => h) HRL.out).mono ?_
  rintro e w2 ⟨tv, gv2, ov2, rfl, hst2, hc2, hb2⟩
  have HST : Hid (CfRel (w.heap.size + 1) w.heap.size g rs (.slice adf g.length capf) tv w 0 (visitL [] rs) gv2 ov2 w2) :=
    ⟨OrdRel.start HLT.out, List.prefix_refl _, hc2.next (fun k hk _ => ⟨by rcases hk.1 with h | h; exact h; omega, hk.2⟩) (fun _ _ _ => rfl) (fun _ _ => rfl), hst2.lower (by omega), HB1.out.trans (hb2.below (fun _ h => h) (by omega))⟩
  clear hst2 hc2 hb2
  go_wp2_with fail
  go_loopw [8] (fun z wr => ∃ (i : Nat) (o : List Nat) (gv ov : Value), z = .int .i64 i ∧ CfRel (w.heap.size + 1) w.heap.size g rs (.slice adf g.length capf) tv w i o gv ov wr) (fun z _ => g.length - (intOf z).toNat)
  case atStart => exact ⟨0, _, _, _, rfl, HST.out⟩
  case round =>
    obtain ⟨i, o, gv, ov, rfl, hr⟩ := hrel
    have HR := mkHid hr
    have hol := hr.ord.cs.len
    have hile := hr.ord.le
    have c1 := cell_of_blk hr.cop.box 1 _ rfl
    have hzr := hr.bel.size
    by_cases hlt : i < o.length
    · obtain ⟨b, cap, kv, rfl, hbl, -, -, hbs, k2, -, -, hkv⟩ := hr.cop.cells.kid i hlt
      have hkv := hkv (by omega)
      obtain ⟨a, ha⟩ : ∃ a, a = o.getD i 0 := ⟨_, rfl⟩
      have HA := mkHid ha
      have hal : a < g.length := by rw [ha, getD_at _ _ _ hlt]; exact hr.ord.lt _ (List.getElem_mem hlt)
      rw [← ha] at hkv
      obtain ⟨adk, capk, rfl, -, -⟩ := pl_form (hkv.mono (S' := Lt wr.heap.size) (fun k (hk : k < w.heap.size) => Nat.lt_of_lt_of_le hk hzr) fun _ _ => rfl)
      have hk3 := kidsN_len HG.out a hal
      have HCALL : Hid (Calls Try.prog 91 #[.pointer (some ⟨w.heap.size + 1, 0, none⟩), .slice adk (kidsN g a).length capk] wr (FwdAll (w.heap.size + 1) w.heap.size w.heap.size g (.slice adf g.length capf) o i (kidsN g a) (fun k => w.heap.size ≤ k ∧ some k ≠ tv.ownBlock) wr)) :=
        forwardAll_calls (w.heap.size + 1) w.heap.size w.heap.size g (.slice adf g.length capf) o i (kidsN g a) _ _ _ _ wr hr.cop hzr HG.out hr.ord.cs hr.ord.le hr.ord.cl (fun x hx => kidsN_lt HG.out a hal x hx) (by omega) (fun k hk => hk.1) hkv
      clear hr hkv ha
      go_wp2_with fail
      refine HCALL.out.mono ?_
      rintro e w3 ⟨pv, gv3, ov3, rfl, hst3, hc3, hb3⟩
      have hlt3 : i < (visitL o (kidsN g a)).length := Nat.lt_of_lt_of_le hlt (visitL_pre _ _).length_le
      obtain ⟨b3, cap3, kv3, rfl, hbl3, hcl3, hcm3, hbs3, k23, kf3, -, -⟩ := hc3.cells.kid i hlt3
      have d1 := cell_of_blk hc3.box 1 _ rfl
      have hgd : (visitL o (kidsN g a)).getD i 0 = a := by rw [getD_pre (visitL_pre _ _) hlt]; exact HA.out.symm
      have hzw3 := hb3.size
      have HNX : Hid (CfRel (w.heap.size + 1) w.heap.size g rs (.slice adf g.length capf) tv w (i + 1) (visitL o (kidsN g a)) (.slice (some ⟨b3, 0, none⟩) (visitL o (kidsN g a)).length cap3) ov3 (w3.setCell ⟨b3, i * 3 + 2, none⟩ pv)) := by
        have htl : ∀ k, some k = tv.ownBlock → k < wr.heap.size := fun k e => (own_some HR.out.tops k e.symm).2
        have hpl : ∀ k, some k = pv.ownBlock → wr.heap.size ≤ k := fun k e => (own_some hst3 k e.symm).1
        refine ⟨?_, HR.out.pre.trans (visitL_pre _ _), ?_, ?_, ?_⟩
        · have h := HR.out.ord.step HG.out hlt
          rw [← HA.out] at h; exact h
        · refine hc3.scan hlt3 (by rw [hgd]; exact hst3) (fun k e h => h.2 e) (fun k hk hkl => ?_)
          rcases hk with hk | hk
          · rcases hk.1 with h | h
            · exact h
            · exact ⟨by omega, fun e => by have := htl k e; omega⟩
          · exact ⟨by have := hpl k hk; omega, fun e => by have := htl k e; have := hpl k hk; omega⟩
        · refine HR.out.tops.only fun k e hk => ?_
          rw [Below.heap_setCell _ _ _ _ (by
            intro e2
            have h2 := hc3.gU b3 rfl
            have h3 : b3 = k := e2.symm
            subst h3
            have := htl _ e
            rcases h2.1 with h2 | h2
            · exact h2.2 e
            · omega)]
          exact hb3.block k hk fun h => h.2 e
        · exact (HR.out.bel.trans (hb3.below (fun k hk => hk.1) hzr)).setCell hbl3 _
      obtain ⟨adp, capp, rfl⟩ : ∃ ad cap, pv = .slice ad (kidsN g a).length cap := by
        obtain ⟨x, y, e⟩ := hst3.len
        rw [List.length_map] at e; exact ⟨x, y, e⟩
      have HB3 := mkHid hb3
      clear hst3 hc3 hb3 hgd k2
      go_wp2_with fail
      go_roundw
      case rel => exact ⟨i + 1, _, _, _, by go_num, HNX.out⟩
      case measure => simp [intOf]; omega
    · obtain ⟨adg, capg, rfl⟩ := hr.cop.cells.form
      have HV : Hid (CopyDone g rs w (.returned (.tuple #[.pointer (some ⟨w.heap.size + 1, 0, none⟩), tv])) wr) := by
        have hf := hr.ord.fin hlt
        refine ⟨_, _, _, _, ov, tv, fun k => (w.heap.size ≤ k ∧ some k ≠ tv.ownBlock) ∧ some k ≠ ov.ownBlock, rfl, by omega, hr.cop.box, ?_, fun k hk => hk.1, ?_, ?_, hr.bel⟩
        · have h := hr.cop.cells.done (by omega)
          unfold copyG
          rw [← hf]; exact h
        · rw [← hf]; exact hr.cop.order
        · unfold topsG
          have e : rs.map (posN (orderG g rs)) = rs.map (posN (visitL [] rs)) := List.map_congr_left fun x hx => by
            rw [← hf]; exact posN_pre hr.pre (visitL_mem _ _ _ hx)
          rw [e]; exact hr.tops
      clear hr
      go_wp2_with fail
      go_ret2
      exact HV.out
end Go.Proofs.Ytglpehelmlehiaa
/-
  THE PROGRAM's GraphValid (cellFits, isCell, areCells); nothing that was there is changed.
-/
namespace Go.Proofs.Ytglpehelmlehiaa
set_option linter.unusedVariables false
set_option linter.unusedSimpArgs false
open Go.RowKit

set_option maxHeartbeats 400000 in
theorem isCell_calls (n cap : Nat) (ad : Option Addr) (a : Int) (w : World) (hn : n ≤ 9223372036854775807) :
    Calls Try.prog 58 #[.slice ad n cap, .int .i64 a] w fun e w' => e = .returned (.bool (isAt n a)) ∧ Below w.heap.size w w' := by
  by_cases h0 : 0 ≤ a
  · by_cases h1 : a < (n : Int)
    · have HV : Hid (isAt n a = true) := isAt_in h0 h1
      go_enter Try.func58, Try.ntmps58
      go_wp2_with fail
      go_ret
      exact ⟨ret_bool HV.out.symm, Below.refl _ _⟩
    · have HV : Hid (isAt n a = false) := isAt_hi h1
      go_enter Try.func58, Try.ntmps58
      go_wp2_with fail
      go_ret
      exact ⟨ret_bool HV.out.symm, Below.refl _ _⟩
  · have HV : Hid (isAt n a = false) := isAt_lo (by omega)
    go_enter Try.func58, Try.ntmps58
    go_wp2_with fail
    go_ret
    exact ⟨ret_bool HV.out.symm, Below.refl _ _⟩

set_option maxHeartbeats 800000 in
theorem areCells_calls (n cap : Nat) (ad : Option Addr) (xs : List Int) (v : Value) (w : World) (hn : n ≤ 9223372036854775807) (hk : IIn w xs v) :
    Calls Try.prog 57 #[.slice ad n cap, v] w fun e w' => e = .returned (.bool (xs.all (isAt n))) ∧ Below w.heap.size w w' := by
  have HK : Hid (IIn w xs v) := hk
  obtain ⟨ad2, cap2, rfl, hl, hm, -⟩ := hk
  unfold maxLen at hm
  go_enter Try.func57, Try.ntmps57
  go_wp2_with fail
  go_loopw [9] (fun i wr => ∃ k : Nat, k ≤ xs.length ∧ i = .int .i64 k ∧ (xs.take k).all (isAt n) = true ∧ Below w.heap.size w wr) (fun i _ => xs.length - (intOf i).toNat)
  case atStart => exact ⟨0, Nat.zero_le _, rfl, by simp, Below.refl _ _⟩
  case round =>
    obtain ⟨k, hk, rfl, hall, hb⟩ := hrel
    have HA : Hid ((xs.take k).all (isAt n) = true) := hall
    have HB : Hid (Below w.heap.size w wr) := hb
    clear hall hb
    by_cases hlt : k < xs.length
    · obtain ⟨bl, off, rfl, d0⟩ := (HK.out.next HB.out).at k hlt
      go_wp2_with fail
      refine (isCell_calls n cap ad xs[k] _ hn).mono ?_
      rintro e w1 ⟨rfl, hb1⟩
      have HB1 : Hid (Below w.heap.size w w1) := HB.out.trans (hb1.mono HB.out.size)
      clear hb1 d0
      cases hc : isAt n xs[k] with
      | false =>
        have HV : Hid (xs.all (isAt n) = false) := allI_false_of _ _ k hlt hc
        clear hc
        go_wp2_with fail
        go_ret
        exact ⟨ret_bool HV.out.symm, HB1.out⟩
      | true =>
        have HA2 : Hid ((xs.take (k + 1)).all (isAt n) = true) := by rw [Hid, allI_take_succ _ _ _ hlt, HA.out, hc]; rfl
        clear hc
        go_wp2_with fail
        go_roundw
        case rel => exact ⟨k + 1, by omega, by go_num, HA2.out, HB1.out⟩
        case measure => simp [intOf]; omega
    · have hke : xs.length = k := by omega
      have HV : Hid (xs.all (isAt n) = true) := all_end HA.out hke
      clear hke
      go_wp2_with fail
      go_ret
      exact ⟨ret_bool HV.out.symm, HB.out⟩

/-- cellFits, for a kind with a node -/
theorem fits_node {defs op num : Int} {n : Nat} (h : op ≠ 11) : topC op num n 0 defs = (decide ((n : Int) = cArity op) && ownB op num 0 defs) := by
  unfold topC cArity; rw [if_neg h]

set_option maxRecDepth 100000 in
set_option maxHeartbeats 800000 in
theorem cellFits_node (op num defs : Int) (n cap : Nat) (ad : Option Addr) (T : TypeId) (x : Value) (K : FuncId) (ok fit : Bool) (hn : NodeAt 0 defs op num n T x K ok fit) (h11 : op ≠ 11) (hm : n ≤ 9223372036854775807) (w : World) :
    Calls Try.prog 56 #[.agg #[.int .i64 op, .int .i64 num, .slice ad n cap], .int .i64 defs] w fun e w' => e = .returned (.bool (topC op num n 0 defs)) ∧ Below w.heap.size w w' := by
  have HN : Hid (NodeAt 0 defs op num n T x K ok fit) := hn
  have HBX : Hid (Below w.heap.size w (w.alloc (.cells #[.int .i64 op, .int .i64 num, .slice ad n cap] 48))) := box_below _ _
  have hme := hn.meth
  have hen := hn.enters
  have HT : Hid ((ok && fit) = topC op num n 0 defs) := hn.top
  have t11 : (op == 11) = false := by simpa using h11
  clear hn h11
  cases hok : ok with
  | false =>
    subst hok
    have HV : Hid (topC op num n 0 defs = false) := by have := HT.out; rw [Bool.false_and] at this; exact this.symm
    clear hme hen
    go_enter Try.func56, Try.ntmps56
    go_wp2_with fail
    refine (HN.out.node _).mono ?_
    rintro e w1 ⟨rfl, hb⟩
    have HB : Hid (Below w.heap.size w w1) := HBX.out.trans (hb.mono HBX.out.size)
    clear hb
    go_wp2_with fail
    go_ret
    exact ⟨ret_bool HV.out.symm, HB.out⟩
  | true =>
    subst hok
    have HV : Hid (topC op num n 0 defs = fit) := by have := HT.out; rw [Bool.true_and] at this; exact this.symm
    go_enter Try.func56, Try.ntmps56
    go_wp2_with fail
    refine (HN.out.node _).mono ?_
    rintro e w1 ⟨rfl, hb⟩
    have HB : Hid (Below w.heap.size w w1) := HBX.out.trans (hb.mono HBX.out.size)
    clear hb
    go_wp2_with fail
    refine (HN.out.fits rfl _).mono ?_
    rintro e w2 ⟨rfl, hb⟩
    have HB2 : Hid (Below w.heap.size w w2) := HB.out.trans (hb.mono HB.out.size)
    clear hb
    go_wp2_with fail
    go_ret
    exact ⟨ret_bool HV.out.symm, HB2.out⟩

set_option maxHeartbeats 800000 in
theorem cellFits_ind (num defs : Int) (n cap : Nat) (ad : Option Addr) (hm : n ≤ 9223372036854775807) (w : World) :
    Calls Try.prog 56 #[.agg #[.int .i64 11, .int .i64 num, .slice ad n cap], .int .i64 defs] w fun e w' => e = .returned (.bool ((num == 0) && ((n : Int) == 1))) ∧ Below w.heap.size w w' := by
  have HBX : Hid (Below w.heap.size w (w.alloc (.cells #[.int .i64 11, .int .i64 num, .slice ad n cap] 48))) := box_below _ _
  cases hnum : (num == 0) with
  | false =>
    go_enter Try.func56, Try.ntmps56
    go_wp2_with fail
    go_ret
    exact ⟨rfl, HBX.out⟩
  | true =>
    go_enter Try.func56, Try.ntmps56
    go_wp2_with fail
    go_ret
    exact ⟨rfl, HBX.out⟩

theorem cellFits_calls (c : Ce) (defs : Int) (v : Value) (w : World) (hk : IIn w c.kids v) :
    Calls Try.prog 56 #[.agg #[.int .i64 c.op, .int .i64 c.num, v], .int .i64 defs] w fun e w' => e = .returned (.bool (fitsB defs c)) ∧ Below w.heap.size w w' := by
  obtain ⟨ad, cap, rfl, hl, hm, -⟩ := hk
  have hm' : c.kids.length ≤ 9223372036854775807 := by unfold maxLen at hm; omega
  by_cases h11 : c.op = 11
  · have hv : fitsB defs c = ((c.num == 0) && ((c.kids.length : Int) == 1)) := by
      unfold fitsB cArity ownB
      rw [h11, if_pos rfl, if_neg (by omega), if_neg (by omega), if_neg (by omega), Bool.and_comm]
      rfl
    rw [hv, h11]
    exact cellFits_ind _ _ _ _ _ hm' w
  have hv : fitsB defs c = topC c.op c.num c.kids.length 0 defs := (fits_node h11).symm
  rw [hv]
  by_cases e1 : c.op = 1
  · exact cellFits_node _ _ _ _ _ _ _ _ _ _ _ (nodeAt_1 0 defs c.op c.num c.kids.length e1) h11 hm' w
  by_cases e2 : c.op = 2
  · exact cellFits_node _ _ _ _ _ _ _ _ _ _ _ (nodeAt_2 0 defs c.op c.num c.kids.length e2) h11 hm' w
  by_cases e3 : c.op = 3
  · exact cellFits_node _ _ _ _ _ _ _ _ _ _ _ (nodeAt_3 0 defs c.op c.num c.kids.length e3) h11 hm' w
  exact cellFits_node _ _ _ _ _ _ _ _ _ _ _ (nodeAt_o 0 defs c.op c.num c.kids.length e1 e2 e3) h11 hm' w

theorem cellB_fits {cells defs : Int} {c : Ce} (h : fitsB defs c = false) : cellB cells defs c = false := by unfold cellB; rw [h]; rfl
theorem cellB_kids {cells defs : Int} {c : Ce} (h : fitsB defs c = true) : cellB cells defs c = c.kids.all (isAt cells) := by unfold cellB; rw [h]; rfl

set_option maxHeartbeats 800000 in
theorem implGraph_calls (g : List Ce) (defs : Int) (v : Value) (w : World) (hk : CIn w g v) :
    Calls Try.prog 18 #[v, .int .i64 defs] w fun e w' => e = .returned (.bool (graphB g defs)) ∧ Below w.heap.size w w' := by
  have HK : Hid (CIn w g v) := hk
  obtain ⟨ad, cap, rfl, hl, hm, -⟩ := hk
  unfold maxLen at hm
  by_cases hlim : (g.length : Int) ≤ 400 ∧ 0 ≤ defs ∧ defs ≤ 6
  · have HLM : Hid ((g.length : Int) ≤ 400 ∧ 0 ≤ defs ∧ defs ≤ 6) := hlim
    obtain ⟨l1, l2, l3⟩ := hlim
    go_enter Try.func18, Try.ntmps18
    go_wp2_with fail
    go_loopw [20] (fun i wr => ∃ k : Nat, k ≤ g.length ∧ i = .int .i64 k ∧ (g.take k).all (cellB g.length defs) = true ∧ Below w.heap.size w wr) (fun i _ => g.length - (intOf i).toNat)
    case atStart => exact ⟨0, Nat.zero_le _, rfl, by simp, Below.refl _ _⟩
    case round =>
      obtain ⟨k, hk, rfl, hall, hb⟩ := hrel
      have HA : Hid ((g.take k).all (cellB g.length defs) = true) := hall
      have HB : Hid (Below w.heap.size w wr) := hb
      clear hall hb
      by_cases hlt : k < g.length
      · obtain ⟨bl, off, r, rfl, c0, c1, c2, -, -, hkk⟩ := (HK.out.next HB.out).at k hlt
        obtain ⟨ad2, cap2, rfl, -, -, -⟩ := id hkk
        have HKK : Hid (IIn wr g[k].kids (.slice ad2 g[k].kids.length cap2)) := hkk
        clear hkk
        go_wp2_with fail
        refine (cellFits_calls g[k] defs _ _ (HKK.out.next (box_below _ _))).mono ?_
        rintro e w1 ⟨rfl, hb1⟩
        have HB0 : Hid (Below wr.heap.size wr w1) := (box_below _ _).trans (hb1.mono (by rw [Deep.nblk_alloc]; omega))
        have HB1 : Hid (Below w.heap.size w w1) := HB.out.trans (HB0.out.mono HB.out.size)
        have b2 := (hb1.cell (p := ⟨wr.heap.size, 2, none⟩) (by rw [Deep.nblk_alloc]; exact Nat.lt_succ_self _)).trans (box_cell wr #[.int .i64 g[k].op, .int .i64 g[k].num, .slice ad2 g[k].kids.length cap2] 48 2 _ rfl)
        clear hb1 c0 c1 c2
        cases hc : fitsB defs g[k] with
        | false =>
          have HV : Hid (graphB g defs = false) := graphB_cellNo k hlt (cellB_fits hc)
          clear hc
          go_wp2_with fail
          go_ret
          exact ⟨ret_bool HV.out.symm, HB1.out⟩
        | true =>
          have HC : Hid (cellB (g.length : Int) defs g[k] = g[k].kids.all (isAt g.length)) := cellB_kids hc
          clear hc
          go_wp2_with fail
          refine (areCells_calls g.length cap _ g[k].kids _ _ (by omega) (HKK.out.next HB0.out)).mono ?_
          rintro e w2 ⟨rfl, hb2⟩
          have HB2 : Hid (Below w.heap.size w w2) := HB1.out.trans (hb2.mono HB1.out.size)
          clear hb2 b2
          cases hc2 : g[k].kids.all (isAt (g.length : Int)) with
          | false =>
            have HV : Hid (graphB g defs = false) := graphB_cellNo k hlt (by rw [HC.out, hc2])
            clear hc2
            go_wp2_with fail
            go_ret
            exact ⟨ret_bool HV.out.symm, HB2.out⟩
          | true =>
            have HA2 : Hid ((g.take (k + 1)).all (cellB g.length defs) = true) := by rw [Hid, allI_take_succ _ _ _ hlt, HA.out, HC.out, hc2]; rfl
            clear hc2
            go_wp2_with fail
            go_roundw
            case rel => exact ⟨k + 1, by omega, by go_num, HA2.out, HB2.out⟩
            case measure => simp [intOf]; omega
      · have hke : g.length = k := by omega
        have HV : Hid (graphB g defs = true) := graphB_yes HLM.out (all_end HA.out hke)
        clear hke
        go_wp2_with fail
        go_ret
        exact ⟨ret_bool HV.out.symm, HB.out⟩
  · have HV : Hid (graphB g defs = false) := graphB_no hlim
    by_cases l1 : (g.length : Int) ≤ 400
    · by_cases l2 : 0 ≤ defs
      · have l3 : ¬ defs ≤ 6 := fun h => hlim ⟨l1, l2, h⟩
        clear hlim
        go_enter Try.func18, Try.ntmps18
        go_wp2_with fail
        go_ret
        exact ⟨ret_bool HV.out.symm, Below.refl _ _⟩
      · clear hlim
        go_enter Try.func18, Try.ntmps18
        go_wp2_with fail
        go_ret
        exact ⟨ret_bool HV.out.symm, Below.refl _ _⟩
    · clear hlim
      go_enter Try.func18, Try.ntmps18
      go_wp2_with fail
      go_ret
      exact ⟨ret_bool HV.out.symm, Below.refl _ _⟩
end Go.Proofs.Ytglpehelmlehiaa
/-
  ONE ROW OF NUMBERS OF ITS OWN; a graph that keeps its rows while it is marked.
-/
namespace Go.Proofs.Ytglpehelmlehiaa
set_option linter.unusedVariables false
set_option linter.unusedSimpArgs false
open Go.RowKit

/-- numbers in the row b -/
def OneRow (w : World) (b : Nat) (X : List Int) (v : Value) : Prop := KRow w [b] X b v
theorem OneRow.keep {w w' : World} {b : Nat} {X : List Int} {v : Value} (h : OneRow w b X v) (hb : ∀ k, k = b → k < w.heap.size → w'.heap[k]? = w.heap[k]?) : OneRow w' b X v := by
  unfold OneRow at h ⊢
  refine h.keep (fun _ h => h) fun hx hm => ?_
  obtain ⟨_, _, _, _, _, h5⟩ := h
  rcases h5 with h5 | ⟨f5, -, -, h6, -⟩
  · exact absurd h5 hx
  · exact hb _ rfl h6.lt
theorem OneRow.next {w w' : World} {b : Nat} {X : List Int} {v : Value} (h : OneRow w b X v) (hb : Below w.heap.size w w') : OneRow w' b X v := h.keep fun k _ hk => hb.block k hk
theorem OneRow.form {w : World} {b : Nat} {X : List Int} {v : Value} (h : OneRow w b X v) : ∃ ad cap, v = .slice ad X.length cap := by
  obtain ⟨ad, cap, e, -⟩ := h; exact ⟨ad, cap, e⟩
theorem OneRow.inn {w : World} {b : Nat} {X : List Int} {v : Value} (h : OneRow w b X v) : IIn w X v := by
  obtain ⟨ad, cap, e, l1, l2, h⟩ := h
  refine ⟨ad, cap, e, l1, l2, h.imp id ?_⟩
  rintro ⟨f, rfl, -, hr, hf⟩
  exact ⟨b, 0, rfl, hr.lt, fun i hi => by rw [Nat.zero_add, hr.cell (by omega), hf i hi]⟩
theorem OneRow.nil (w : World) (b : Nat) (ad : Option Addr) (cap : Nat) (h : cap ≤ maxLen) : OneRow w b [] (.slice ad 0 cap) := ⟨ad, cap, rfl, Nat.zero_le _, h, Or.inl rfl⟩
theorem one_of_row {w : World} {lo : Nat} {X : List Int} {v : Value} (h : IntRow w lo X v) (d : Nat) : ∃ b, OneRow w b X v ∧ ((X ≠ [] ∧ lo ≤ b ∧ b < w.heap.size ∧ v.ownBlock = some b) ∨ b = d) := by
  obtain ⟨ad, cap, e, l1, l2, h⟩ := h
  by_cases hx : X = []
  · exact ⟨d, ⟨ad, cap, e, l1, l2, Or.inl hx⟩, Or.inr rfl⟩
  · rcases h with h | ⟨g, f, rfl, hg, hr, hf⟩
    · exact absurd h hx
    · exact ⟨g, ⟨_, cap, e, l1, l2, Or.inr ⟨f, rfl, by simp, hr, hf⟩⟩, Or.inl ⟨hx, hg, hr.lt, by rw [e]; rfl⟩⟩
theorem labC_half2 (g : List Ce) (k : Int) : HalfC g k g.length (labC g k) := ⟨labC_length g k, fun i hi hm => by rw [if_pos hi, labC_get g k i hi]⟩
/-- the rows of a graph that a call has built, but for one block -/
theorem OwnC.ownBut {w : World} {lo : Nat} {S : Nat → Prop} {g : List Ce} {v : Value} (h : OwnC w lo S g v) (b : Nat) (hS : ∀ k, S k → k < w.heap.size → lo ≤ k ∧ k ≠ b) (hv : some b ≠ v.ownBlock) : GOwn w ((List.range' lo (w.heap.size - lo)).filter fun k => k != b) g v := by
  obtain ⟨hi0, xs, kb, h1, h2, h3⟩ := h
  refine ⟨hi0, ?_⟩
  rcases h1.2 with ⟨rfl, h0⟩ | ⟨c, cap, cur, rfl, hg, hh2, hn, hc, hs, htk⟩
  · obtain rfl : g = [] := List.eq_nil_of_length_eq_zero h0
    exact ⟨none, 0, rfl, Nat.le_refl _, by simp [maxLen], Or.inl rfl⟩
  · have hbl : c < w.heap.size := (Array.getElem?_eq_some_iff.1 hh2).1
    have hcb : c ≠ b := fun e => hv (by simp [Value.ownBlock, e])
    refine ⟨_, cap, rfl, hn, hc, Or.inr ⟨c, kb, rfl, by rw [List.mem_filter, List.mem_range'_1]; exact ⟨by omega, by simpa using hcb⟩, ⟨fun i => cur.getD i undef, ⟨cur, hh2, hs, fun i hi => by simp [Array.getD, show i < cur.size by omega]⟩, fun i hi => ?_⟩, h3⟩⟩
    obtain ⟨kv, e0, e1, e2, e3⟩ := h2 i hi
    have get : ∀ m u, m < g.length * 3 → xs[m]? = some u → cur.getD m undef = u := by
      intro m u hm hu
      rw [← htk, List.getElem?_take_of_lt hm] at hu
      have hmc : m < cur.size := by omega
      simp [hmc] at hu
      simp [Array.getD, hmc, hu]
    refine ⟨get _ _ (by omega) e0, get _ _ (by omega) e1, ?_⟩
    simp only []
    rw [get _ _ (by omega) e2]
    obtain ⟨ad2, cap2, e4, l1, l2, h5⟩ := e3
    refine ⟨ad2, cap2, e4, l1, l2, h5.imp id ?_⟩
    rintro ⟨f, rfl, h6, h8, h9⟩
    have h10 := hS _ h6 h8.lt
    exact ⟨f, rfl, by rw [List.mem_filter, List.mem_range'_1]; have := h8.lt; exact ⟨by omega, by simpa using h10.2⟩, h8, h9⟩
/-- what a call hands back: a graph and numbers, in rows of their own -/
def GIRes (G : List Ce) (X : List Int) (gv tv : Value) (w w' : World) : Prop :=
  ∃ fG bL, GOwn w' fG G gv ∧ (∀ k ∈ fG, w.heap.size ≤ k ∧ k < w'.heap.size) ∧ OneRow w' bL X tv ∧ w.heap.size ≤ bL ∧ bL ∉ fG
theorem GIRes.inn {G : List Ce} {X : List Int} {gv tv : Value} {w w' : World} (h : GIRes G X gv tv w w') : CIn w' G gv ∧ IIn w' X tv := by
  obtain ⟨fG, bL, h1, -, h3, -⟩ := h
  exact ⟨h1.inn, h3.inn⟩
theorem gi_res {w w' : World} {lo : Nat} {S : Nat → Prop} {g : List Ce} {gv tv : Value} {X : List Int} (hg : OwnC w' lo S g gv) (hS : ∀ k, S k → lo ≤ k ∧ some k ≠ tv.ownBlock) (ht : IntRow w' lo X tv) (hl : w.heap.size ≤ lo) (hs : lo ≤ w'.heap.size) : GIRes g X gv tv w w' := by
  obtain ⟨b, h1, h2⟩ := one_of_row ht w'.heap.size
  obtain ⟨xs, hx⟩ := hg.row
  have hfp : ∀ k ∈ (List.range' lo (w'.heap.size - lo)).filter (fun k => k != b), w.heap.size ≤ k ∧ k < w'.heap.size := fun k hk => by
    have := (List.mem_filter.1 hk).1
    rw [List.mem_range'_1] at this
    omega
  refine ⟨_, b, hg.ownBut b (fun k hk hkl => ⟨(hS k hk).1, fun e => ?_⟩) (fun e => ?_), hfp, h1, ?_, fun hm => by simpa using (List.mem_filter.1 hm).2⟩
  · rcases h2 with h2 | h2
    · exact (hS k hk).2 (by rw [h2.2.2.2, e])
    · omega
  · rcases h2 with h2 | h2
    · obtain ⟨hne, hlb, hlt, hvb⟩ := h2
      rcases hx.2 with ⟨rfl, -⟩ | ⟨c, cap, cur, rfl, -, hh, -⟩
      · simp [Value.ownBlock] at e
      · simp only [Value.ownBlock, Option.some.injEq] at e
        subst e
        obtain ⟨ad, cap2, e2, -, -, h5⟩ := ht
        rcases h5 with h5 | ⟨g5, f5, rfl, -, ⟨C, hC, -⟩, -⟩
        · exact hne h5
        · rw [e2] at hvb
          simp only [Value.ownBlock, Option.some.injEq] at hvb
          subst hvb
          rw [hh] at hC
          simp only [Option.some.injEq, Obj.cells.injEq] at hC
          exact absurd hC.2.1 (by decide)
    · rcases hx.2 with ⟨rfl, -⟩ | ⟨c, cap, cur, rfl, -, hh, -⟩
      · simp [Value.ownBlock] at e
      · simp only [Value.ownBlock, Option.some.injEq] at e
        have := (Array.getElem?_eq_some_iff.1 hh).1
        omega
  · rcases h2 with h2 | h2 <;> omega
theorem IntRow.shape {w : World} {lo : Nat} {xs : List Int} {v : Value} (h : IntRow w lo xs v) : IShape w (List.range' lo (w.heap.size - lo)) xs.length v := by
  obtain ⟨ad, cap, e, l1, l2, h⟩ := h
  refine ⟨ad, cap, e, l1, l2, ?_⟩
  rcases h with rfl | ⟨b, f, rfl, hb, hr, -⟩
  · exact Or.inl rfl
  · exact Or.inr ⟨b, f, rfl, by rw [List.mem_range'_1]; have := hr.lt; omega, hr⟩
theorem IShape.blocks {fp : List Nat} {w w' : World} {n : Nat} {v : Value} (h : IShape w fp n v) (k : ∀ b ∈ fp, w'.heap[b]? = w.heap[b]?) : IShape w' fp n v := by
  obtain ⟨ad, cap, e, l1, l2, h⟩ := h
  refine ⟨ad, cap, e, l1, l2, h.imp id ?_⟩
  rintro ⟨g, f, rfl, hg, hr⟩
  exact ⟨g, f, rfl, hg, hr.of_block (k g hg)⟩
theorem GIRes.lower {G : List Ce} {X : List Int} {gv tv : Value} {w w1 w' : World} (h : GIRes G X gv tv w1 w') (hl : w.heap.size ≤ w1.heap.size) : GIRes G X gv tv w w' := by
  obtain ⟨fG, bL, h1, h2, h3, h4, h5⟩ := h
  exact ⟨fG, bL, h1, fun k hk => ⟨Nat.le_trans hl (h2 k hk).1, (h2 k hk).2⟩, h3, Nat.le_trans hl h4, h5⟩
end Go.Proofs.Ytglpehelmlehiaa
