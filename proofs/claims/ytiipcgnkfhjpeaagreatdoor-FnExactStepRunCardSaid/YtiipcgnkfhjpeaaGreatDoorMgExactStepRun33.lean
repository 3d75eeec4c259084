/-
  THE PROGRAM's reducer IN MEMORY, AND redirect.
-/
import Derived.Test.YtiipcgnkfhjpeaaGreatDoorMgExactStepRun32
import Derived.Deep.RegionHeld3
namespace Go.Proofs.YtiipcgnkfhjpeaaGreatDoor
set_option linter.unusedVariables false
set_option linter.unusedSimpArgs false
open Go.RowKit

/-- the fuel of a reducer, and the rest of the struct that it begins (none for a reducer alone) -/
structure Fu where
  fu : Int
  more : List Value
  ty : TypeId
  ok : ty ≠ 142 ∧ ty ≠ 93 ∧ ty ≠ 3
instance : Coe Int Fu := ⟨fun f => ⟨f, [], 125, by decide⟩⟩
/-- a reducer at R with its arena at A, its graph in rows of its own from lo on -/
structure RedW (R A lo : Nat) (c : Value) (fu : Fu) (st : Int) (g : List Ce) (w : World) : Prop where
  red : w.heap[R]? = some (.cells ⟨.pointer (some ⟨A, 0, none⟩) :: c :: .int .i64 fu.fu :: .int .i64 st :: fu.more⟩ fu.ty)
  are : ∃ ad cap, w.heap[A]? = some (.cells #[.slice ad g.length cap] 142) ∧ OwnC w lo (fun b => lo ≤ b) g (.slice ad g.length cap)
  loR : lo ≤ R
  loA : lo ≤ A
theorem RedW.noT {R A lo : Nat} {c : Value} {fu : Fu} {st : Int} {g : List Ce} {w : World} (h : RedW R A lo c fu st g w) {C : Array Value} {T : TypeId} {r : Nat × Nat} (hT : T = 142 ∨ T = 93 ∨ T = 3) (hh : w.heap[R]? = some (.cells C T r)) : False := by
  rw [h.red] at hh
  simp only [Option.some.injEq, Obj.cells.injEq] at hh
  obtain ⟨-, e, -⟩ := hh
  obtain ⟨f1, f2, f3⟩ := fu.ok
  rcases hT with rfl | rfl | rfl
  · exact f1 e
  · exact f2 e
  · exact f3 e
theorem RedW.blk {R A lo : Nat} {c : Value} {fu : Fu} {st : Int} {g : List Ce} {w : World} (h : RedW R A lo c fu st g w) (h0 : 0 < g.length) : ∃ b cap, w.heap[A]? = some (.cells #[.slice (some ⟨b, 0, none⟩) g.length cap] 142) ∧ OwnC w lo (fun b => lo ≤ b) g (.slice (some ⟨b, 0, none⟩) g.length cap) ∧ lo ≤ b ∧ b < w.heap.size ∧ b ≠ A ∧ b ≠ R := by
  obtain ⟨ad, cap, h1, h2⟩ := h.are
  obtain ⟨ys, hys⟩ := h2.row
  rcases hys.2 with ⟨-, hz⟩ | ⟨b5, c5, cur5, e5, hlo, hh, -⟩
  · omega
  · simp only [Value.slice.injEq] at e5
    obtain ⟨rfl, -, rfl⟩ := e5
    refine ⟨b5, cap, h1, h2, hlo, (Array.getElem?_eq_some_iff.1 hh).1, ?_, ?_⟩
    · rintro rfl; rw [h1] at hh; simp at hh
    · rintro rfl; exact h.noT (Or.inr (Or.inl rfl)) hh
/-- it stays where all blocks from lo on stay -/
theorem RedW.keep {R A lo : Nat} {c : Value} {fu : Fu} {st : Int} {g : List Ce} {w w' : World} (h : RedW R A lo c fu st g w) (hb : ∀ k, lo ≤ k → k < w.heap.size → w'.heap[k]? = w.heap[k]?) : RedW R A lo c fu st g w' := by
  obtain ⟨ad, cap, h1, h2⟩ := h.are
  exact ⟨(hb R h.loR (Array.getElem?_eq_some_iff.1 h.red).1).trans h.red, ⟨ad, cap, (hb A h.loA (Array.getElem?_eq_some_iff.1 h1).1).trans h1, h2.next (fun _ h _ => h) (fun k hk hz => hb k (by obtain ⟨ys, hy⟩ := h2.row; exact (hy.lt k hk.symm).1) hz) (fun k hk hz => hb k hk hz)⟩, h.loR, h.loA⟩
theorem RedW.next {R A lo : Nat} {c : Value} {fu : Fu} {st : Int} {g : List Ce} {w w' : World} (h : RedW R A lo c fu st g w) (hb : Below w.heap.size w w') : RedW R A lo c fu st g w' := h.keep fun k _ hk => hb.block k hk
/-- the graph can be read -/
theorem RedW.inn {R A lo : Nat} {c : Value} {fu : Fu} {st : Int} {g : List Ce} {w : World} (h : RedW R A lo c fu st g w) : ∃ ad cap, w.heap[A]? = some (.cells #[.slice ad g.length cap] 142) ∧ CIn w g (.slice ad g.length cap) := by
  obtain ⟨ad, cap, h1, h2⟩ := h.are
  exact ⟨ad, cap, h1, (h2.own fun k hk _ => hk).inn⟩
/-- a cell is overwritten, its operands in a block that is laid for them -/
theorem RedW.set {R A lo b cap : Nat} {c : Value} {fu : Fu} {st : Int} {g : List Ce} {w : World} (h : RedW R A lo c fu st g w) (hA : w.heap[A]? = some (.cells #[.slice (some ⟨b, 0, none⟩) g.length cap] 142)) (hO : OwnC w lo (fun b => lo ≤ b) g (.slice (some ⟨b, 0, none⟩) g.length cap)) (hbA : b ≠ A) (hbR : b ≠ R)
    (hlo : lo ≤ w.heap.size) (o : Obj) {at' : Nat} (hat : at' < g.length) {ce : Ce} {kv : Value} (hc : I64 ce.op ∧ I64 ce.num) (hk : KRowS (w.alloc o) (fun x => x = w.heap.size) ce.kids w.heap.size kv) :
    RedW R A lo c fu st (g.set at' ce) (st3 (w.alloc o) b at' ce.op ce.num kv) := by
  have hRl := (Array.getElem?_eq_some_iff.1 h.red).1
  have hAl := (Array.getElem?_eq_some_iff.1 hA).1
  refine ⟨?_, ⟨some ⟨b, 0, none⟩, cap, ?_, ?_⟩, h.loR, h.loA⟩
  · rw [st3_block hbR.symm, Deep.blk_alloc_lt _ _ _ hRl]; exact h.red
  · rw [st3_block hbA.symm, Deep.blk_alloc_lt _ _ _ hAl, List.length_set]; exact hA
  · have hoa : OwnC (w.alloc o) lo (fun b => lo ≤ b ∧ b < w.heap.size) g (.slice (some ⟨b, 0, none⟩) g.length cap) :=
      hO.next (fun k hk hz => ⟨hk, hz⟩) (fun k _ hz => Deep.blk_alloc_lt _ _ _ hz) (fun k _ hz => Deep.blk_alloc_lt _ _ _ hz)
    have hset := hoa.setc at' hat (c := ce) hc hk (by rintro ⟨-, h⟩; omega)
    rw [List.length_set]
    exact hset.next (fun k hk _ => by rcases hk with h | h; exact h.1; omega) (fun _ _ _ => rfl) (fun _ _ _ => rfl)
theorem RedW.arw {R A lo : Nat} {c : Value} {fu : Fu} {st : Int} {g : List Ce} {w : World} (h : RedW R A lo c fu st g w) : ArW A lo g w := ⟨h.are, h.loA⟩
theorem RedW.noR {R A lo : Nat} {c : Value} {fu : Fu} {st : Int} {g : List Ce} {w : World} (h : RedW R A lo c fu st g w) : NoCe w R := by intro C r e; exact h.noT (Or.inr (Or.inl rfl)) e
theorem RedW.of {R A lo : Nat} {c : Value} {fu : Fu} {st : Int} {g g' : List Ce} {w w' : World} (h : RedW R A lo c fu st g w) (ha : ReAr A lo g' w w') : RedW R A lo c fu st g' w' :=
  ⟨(ha.2 R (Array.getElem?_eq_some_iff.1 h.red).1 (h.arw.notRow h.noR)).trans h.red, ha.1.are, h.loR, h.loA⟩
/-- what lies outside the reducer, its arena and the row of its cells stays -/
def Kp (R A : Nat) (w w' : World) : Prop := w.heap.size ≤ w'.heap.size ∧ ∀ j, j < w.heap.size → NotRow w A j → j ≠ A → j ≠ R → w'.heap[j]? = w.heap[j]? ∧ NotRow w' A j
theorem Kp.trans {R A : Nat} {w w1 w2 : World} (h1 : Kp R A w w1) (h2 : Kp R A w1 w2) : Kp R A w w2 := ⟨Nat.le_trans h1.1 h2.1, fun j hj hn ha hr => by
  obtain ⟨e1, n1⟩ := h1.2 j hj hn ha hr
  obtain ⟨e2, n2⟩ := h2.2 j (Nat.lt_of_lt_of_le hj h1.1) n1 ha hr
  exact ⟨e2.trans e1, n2⟩⟩
theorem Kp.below {R A : Nat} {w w' : World} (hb : Below w.heap.size w w') (hA : A < w.heap.size) : Kp R A w w' := ⟨hb.size, fun j hj hn _ _ => ⟨hb.block j hj, fun o n cap e => hn o n cap (by rw [← hb.block A hA]; exact e)⟩⟩
theorem Kp.ofX {R A : Nat} {w w' : World} (hs : w.heap.size ≤ w'.heap.size) (hx : ∀ j, j < w.heap.size → NotRow w A j → w'.heap[j]? = w.heap[j]?) (hA : A < w.heap.size) (hn : NotRow w A A) : Kp R A w w' := ⟨hs, fun j hj hj2 _ _ => ⟨hx j hj hj2, fun o n cap e => hj2 o n cap (by rw [← hx A hA hn]; exact e)⟩⟩
theorem Kp.st3 {R A b n cap i : Nat} {o m : Int} {kv : Value} {w : World} (hA : w.heap[A]? = some (.cells #[.slice (some ⟨b, 0, none⟩) n cap] 142)) (hbA : b ≠ A) : Kp R A w (st3 w b i o m kv) := ⟨Nat.le_of_eq st3_size.symm, fun j hj hn _ _ => by
  have hjb : j ≠ b := by rintro rfl; exact hn _ _ _ hA
  exact ⟨st3_block hjb, fun o n cap e => hn o n cap (by rw [← st3_block hbA.symm]; exact e)⟩⟩
theorem RedW.neAR {R A lo : Nat} {c : Value} {fu : Fu} {st : Int} {g : List Ce} {w : World} (h : RedW R A lo c fu st g w) : A ≠ R := by
  rintro rfl
  obtain ⟨ad, cap, h1, -⟩ := h.are
  exact h.noT (Or.inl rfl) h1
theorem RedW.ltA {R A lo : Nat} {c : Value} {fu : Fu} {st : Int} {g : List Ce} {w : World} (h : RedW R A lo c fu st g w) : A < w.heap.size := by
  obtain ⟨ad, cap, h1, -⟩ := h.are
  exact (Array.getElem?_eq_some_iff.1 h1).1
/-- a cell stands for another one; all but the row of the cells stays -/
def RedX (R A lo : Nat) (c : Value) (fu : Fu) (st : Int) (g : List Ce) (w : World) (e : Ending) (w' : World) : Prop := e = .returned (.tuple #[]) ∧ RedW R A lo c fu st g w' ∧ Below lo w w' ∧ ∀ j, j < w.heap.size → NotRow w A j → w'.heap[j]? = w.heap[j]?
theorem redirectX_calls (R A lo at' k : Nat) (c : Value) (fu : Fu) (st : Int) (g : List Ce) (w : World) (h : RedW R A lo c fu st g w) (hlo : lo ≤ w.heap.size) (hat : at' < g.length) (hg : g.length ≤ 1048576) :
    Calls Tryz.prog 122 #[.pointer (some ⟨A, 0, none⟩), .int .i64 (at' : Int), .int .i64 (k : Int)] w (RedX R A lo c fu st (g.set at' (indTo k)) w) :=
  (redirectA_calls A lo at' k g w h.arw hlo hat hg).mono fun _ _ h2 => ⟨h2.1, h.of h2.2.1, h2.2.2, h2.2.1.2⟩
theorem notRow_of {w w' : World} {A b n cap j : Nat} (hA : w.heap[A]? = some (.cells #[.slice (some ⟨b, 0, none⟩) n cap] 142)) (hj : j ≠ b) (he : w'.heap[A]? = w.heap[A]?) : NotRow w' A j := by
  intro o n2 cap2 e
  rw [he, hA] at e
  simp only [Option.some.injEq, Obj.cells.injEq, Array.mk.injEq, List.cons.injEq, Value.slice.injEq, Addr.mk.injEq, and_true] at e
  exact hj e.1.1.symm
end Go.Proofs.YtiipcgnkfhjpeaaGreatDoor
/-
  THE PROGRAM's (*reducer).operand AND sumOf.
-/
namespace Go.Proofs.YtiipcgnkfhjpeaaGreatDoor
set_option linter.unusedVariables false
set_option linter.unusedSimpArgs false
open Go.RowKit

/-- a cell by value -/
def CellV (c : Ce) (w : World) (e : Ending) (w' : World) : Prop := ∃ v, e = .returned (.agg #[.int .i64 c.op, .int .i64 c.num, v]) ∧ IIn w' c.kids v ∧ Below w.heap.size w w'
set_option maxRecDepth 100000 in
set_option maxHeartbeats 1600000 in
theorem operand_calls (R A lo k b i : Nat) (c : Value) (fu : Fu) (st : Int) (g : List Ce) (op num : Int) (ks : List Int) (kv : Value) (w : World) (h : RedW R A lo c fu st g w) (hg : ∃ defs, graphB g defs = true) (hk : IIn w ks kv) (hi : i < ks.length) (hki : ks[i] = (k : Int)) (hkl : k < g.length) (hb : followN g g.length k = some b) (hbl : b < g.length) :
    Calls Tryz.prog 154 #[.pointer (some ⟨R, 0, none⟩), .agg #[.int .i64 op, .int .i64 num, kv], .int .i64 (i : Int)] w (CellV g[b] w) := by
  obtain ⟨ada, capa, hA, hC⟩ := h.inn
  have HC := mkHid hC
  have HGB := mkHid hg
  have HB := mkHid hb
  have HA := mkHid hA
  have HR := mkHid h.red
  obtain ⟨ad, cap, rfl, hcl, hcm, -⟩ := id hk
  obtain ⟨bk, ok, rfl, d0⟩ := hk.at i hi
  rw [hki] at d0
  unfold maxLen at hcm
  have hgl : g.length ≤ 400 := by obtain ⟨d, hd⟩ := hg; exact graphB_len hd
  have r0 := old_cell (old_cell (cell_of_blk h.red 0 _ rfl) (.cells #[.int .i64 op, .int .i64 num, .slice (some ⟨bk, ok, none⟩) ks.length cap] 93)) (.cells #[.int .i64 0, .int .i64 0, .slice none 0 0] 93)
  have a0 := old_cell (old_cell (cell_of_blk hA 0 _ rfl) (.cells #[.int .i64 op, .int .i64 num, .slice (some ⟨bk, ok, none⟩) ks.length cap] 93)) (.cells #[.int .i64 0, .int .i64 0, .slice none 0 0] 93)
  have dk := old_cell (old_cell d0 (.cells #[.int .i64 op, .int .i64 num, .slice (some ⟨bk, ok, none⟩) ks.length cap] 93)) (.cells #[.int .i64 0, .int .i64 0, .slice none 0 0] 93)
  have b2 := old_cell (box_cell w #[.int .i64 op, .int .i64 num, .slice (some ⟨bk, ok, none⟩) ks.length cap] 93 2 _ rfl) (.cells #[.int .i64 0, .int .i64 0, .slice none 0 0] 93)
  have hiI : (i : Int) < (ks.length : Int) := by omega
  have HBX : Hid (Below w.heap.size w ((w.alloc (.cells #[.int .i64 op, .int .i64 num, .slice (some ⟨bk, ok, none⟩) ks.length cap] 93)).alloc (.cells #[.int .i64 0, .int .i64 0, .slice none 0 0] 93))) := (box_below _ _).alloc (by rw [Deep.nblk_alloc]; omega) _
  have HXB : Hid (((w.alloc (.cells #[.int .i64 op, .int .i64 num, .slice (some ⟨bk, ok, none⟩) ks.length cap] 93)).alloc (.cells #[.int .i64 0, .int .i64 0, .slice none 0 0] 93)).heap[w.heap.size]? = some (.cells #[.int .i64 op, .int .i64 num, .slice (some ⟨bk, ok, none⟩) ks.length cap] 93)) := (Deep.blk_alloc_lt _ _ _ (by rw [Deep.nblk_alloc]; omega)).trans (Deep.blk_alloc_new _ _)
  have HZB : Hid (((w.alloc (.cells #[.int .i64 op, .int .i64 num, .slice (some ⟨bk, ok, none⟩) ks.length cap] 93)).alloc (.cells #[.int .i64 0, .int .i64 0, .slice none 0 0] 93)).heap[w.heap.size + 1]? = some (.cells #[.int .i64 0, .int .i64 0, .slice none 0 0] 93)) := by
    have h := Deep.blk_alloc_new (w.alloc (.cells #[.int .i64 op, .int .i64 num, .slice (some ⟨bk, ok, none⟩) ks.length cap] 93)) (.cells #[.int .i64 0, .int .i64 0, .slice none 0 0] 93)
    rw [Deep.nblk_alloc] at h; exact h
  have HSZ : Hid (((w.alloc (.cells #[.int .i64 op, .int .i64 num, .slice (some ⟨bk, ok, none⟩) ks.length cap] 93)).alloc (.cells #[.int .i64 0, .int .i64 0, .slice none 0 0] 93)).heap.size = w.heap.size + 2) := by rw [Hid, Deep.nblk_alloc, Deep.nblk_alloc]
  have HD := mkHid d0
  clear h hA hC hg hk hki hb d0
  go_enter Tryz.func154, Tryz.ntmps154
  go_wp2_with fail
  go_region_held3 (fun w' => w'.cell? ⟨R, 0, none⟩ = some (.pointer (some ⟨A, 0, none⟩)) ∧ w'.cell? ⟨A, 0, none⟩ = some (.slice ada g.length capa) ∧ w'.cell? ⟨w.heap.size, 2, none⟩ = some (.slice (some ⟨bk, ok, none⟩) ks.length cap) ∧ w'.cell? ⟨bk, ok + i, none⟩ = some (.int .i64 (k : Int)))
    (first
      | go_keep
      | exact ⟨m0, m1, m2, m3⟩
      | exact ⟨r0, a0, b2, dk⟩)
    (first
      | (go_at_call 114; refine (standsFor_calls g k _ ((w.alloc (.cells #[.int .i64 op, .int .i64 num, .slice (some ⟨bk, ok, none⟩) ks.length cap] 93)).alloc (.cells #[.int .i64 0, .int .i64 0, .slice none 0 0] 93)).drew (HC.out.next HBX.out.drew) HGB.out hkl).mono ?_; rintro e w1 ⟨rfl, hb1⟩; rw [HB.out, show folO (some b) = (b : Int) from rfl]; have HB1 : Hid (Below ((w.alloc (.cells #[.int .i64 op, .int .i64 num, .slice (some ⟨bk, ok, none⟩) ks.length cap] 93)).alloc (.cells #[.int .i64 0, .int .i64 0, .slice none 0 0] 93)).heap.size ((w.alloc (.cells #[.int .i64 op, .int .i64 num, .slice (some ⟨bk, ok, none⟩) ks.length cap] 93)).alloc (.cells #[.int .i64 0, .int .i64 0, .slice none 0 0] 93)) w1) := (Below.refl _ _).drew.trans hb1; have HBW : Hid (Below w.heap.size w w1) := HBX.out.trans (HB1.out.mono HBX.out.size); have m0 := cell_of_blk ((HBW.out.block _ (Array.getElem?_eq_some_iff.1 HR.out).1).trans HR.out) 0 _ rfl; have m1 := cell_of_blk ((HBW.out.block _ (Array.getElem?_eq_some_iff.1 HA.out).1).trans HA.out) 0 _ rfl; have HX1 := mkHid ((HB1.out.block w.heap.size (by rw [HSZ.out]; omega)).trans HXB.out); have m2 := cell_of_blk HX1.out 2 _ rfl; have m3 := (HBW.out.cell (p := ⟨bk, ok + i, none⟩) (cell_lt HD.out)).trans HD.out; have HZ1 := mkHid ((HB1.out.block (w.heap.size + 1) (by rw [HSZ.out]; omega)).trans HZB.out); clear hb1))
  obtain ⟨bg, og, rg, hea, g0w, g1w, g2w, -, -, hkk⟩ := HC.out.at b hbl
  subst hea
  have HKK := mkHid hkk
  obtain ⟨adk, capk, rfl, -, -, -⟩ := hkk
  have g0 := (HBW.out.cell (p := ⟨bg, og + b * 3, none⟩) (cell_lt g0w)).trans g0w
  have g1 := (HBW.out.cell (p := ⟨bg, og + b * 3 + 1, none⟩) (cell_lt g1w)).trans g1w
  have g2 := (HBW.out.cell (p := ⟨bg, og + b * 3 + 2, none⟩) (cell_lt g2w)).trans g2w
  have z0 := cell_of_blk HZ1.out 0 _ rfl
  have z1 := cell_of_blk HZ1.out 1 _ rfl
  have z2 := cell_of_blk HZ1.out 2 _ rfl
  have f0 := frz_of_blk HZ1.out 0
  have f1 := frz_of_blk HZ1.out 1
  have f2 := frz_of_blk HZ1.out 2
  have HFB : Hid (Below w.heap.size w (((w1.setCell ⟨w.heap.size + 1, 0, none⟩ (.int .i64 g[b].op)).setCell ⟨w.heap.size + 1, 1, none⟩ (.int .i64 g[b].num)).setCell ⟨w.heap.size + 1, 2, none⟩ (.slice adk g[b].kids.length capk))) := ((HBW.out.setCell (Nat.le_succ _) _).setCell (Nat.le_succ _) _).setCell (Nat.le_succ _) _
  clear m2 m3 r0 a0 b2 dk g0w g1w g2w
  go_wp2_with fail
  refine bodyPost_ret (v := .agg #[.int .i64 g[b].op, .int .i64 g[b].num, .slice adk g[b].kids.length capk]) (by simp [results, Tryz.results154, go_sem, z0, z1, z2, f0, f1, f2]) rfl ?_
  exact ⟨_, rfl, HKK.out.next HFB.out, HFB.out⟩
end Go.Proofs.YtiipcgnkfhjpeaaGreatDoor
