/-
  SLICES OF INTS IN MEMORY; the laws' own comparison and copy of them (eqIntS, toIntS).
-/
import Derived.Test.YtjpjikfmdaejeaaDoorMgExactNumberNeed6
import Derived.Test.YtjpjikfmdaejeaaDoorProg
import Derived.Deep.QuietTactic
import Derived.BigQuiet
import Derived.WalkSmall
import Derived.Test.YtjpjikfmdaejeaaDoorMgExactNumberNeed1
import Derived.Deep.RegionHeld3
import Derived.Deep.RegionWith
import Derived.Deep.DeepMust
namespace Go.Proofs.YtjpjikfmdaejeaaDoor
set_option linter.unusedVariables false
set_option linter.unusedSimpArgs false
open Go.RowKit

/-- a slice value that holds these numbers, its block out of S -/
def IntsOn (w : World) (S : Nat → Prop) (xs : List Int) (v : Value) : Prop :=
  ∃ ad cap, v = .slice ad xs.length cap ∧ xs.length ≤ cap ∧ cap ≤ maxLen ∧ (xs = [] ∨ ∃ bl off, ad = some ⟨bl, off, none⟩ ∧ S bl ∧ ∀ i (h : i < xs.length), w.cell? ⟨bl, off + i, none⟩ = some (.int .i64 xs[i]))
/-- .. in a row of its own, from block lo on -/
def IntRow (w : World) (lo : Nat) (xs : List Int) (v : Value) : Prop :=
  ∃ ad cap, v = .slice ad xs.length cap ∧ xs.length ≤ cap ∧ cap ≤ maxLen ∧ (xs = [] ∨ ∃ g f, ad = some ⟨g, 0, none⟩ ∧ lo ≤ g ∧ w.rowIs g 3 cap f ∧ ∀ i (h : i < xs.length), f i = .int .i64 xs[i])
theorem IntRow.on {w : World} {lo : Nat} {xs : List Int} {v : Value} (h : IntRow w lo xs v) : IntsOn w (fun k => lo ≤ k ∧ k < w.heap.size) xs v := by
  obtain ⟨ad, cap, e, l1, l2, h⟩ := h
  refine ⟨ad, cap, e, l1, l2, h.imp id ?_⟩
  rintro ⟨g, f, rfl, hg, hr, hf⟩
  refine ⟨g, 0, rfl, ⟨hg, hr.lt⟩, fun i hi => ?_⟩
  rw [Nat.zero_add, hr.cell (by omega), hf i hi]
theorem IntsOn.mono {w w' : World} {S S' : Nat → Prop} {xs : List Int} {v : Value} (h : IntsOn w S xs v) (hS : ∀ k, S k → S' k) (hw : ∀ k, S k → w'.heap[k]? = w.heap[k]?) : IntsOn w' S' xs v := by
  obtain ⟨ad, cap, e, l1, l2, h⟩ := h
  refine ⟨ad, cap, e, l1, l2, h.imp id ?_⟩
  rintro ⟨bl, off, rfl, hb, hc⟩
  exact ⟨bl, off, rfl, hS _ hb, fun i hi => (World.cell?_of_block (a := ⟨bl, off + i, none⟩) (hw _ hb)).trans (hc i hi)⟩
theorem IntRow.keep {w w' : World} {lo lo' : Nat} {xs : List Int} {v : Value} (h : IntRow w lo xs v) (hl : lo' ≤ lo) (hw : ∀ k, lo ≤ k → k < w.heap.size → w'.heap[k]? = w.heap[k]?) : IntRow w' lo' xs v := by
  obtain ⟨ad, cap, e, l1, l2, h⟩ := h
  refine ⟨ad, cap, e, l1, l2, h.imp id ?_⟩
  rintro ⟨g, f, rfl, hg, hr, hf⟩
  exact ⟨g, f, rfl, by omega, hr.of_block (hw g hg hr.lt), hf⟩
theorem IntRow.next {w w' : World} {lo : Nat} {xs : List Int} {v : Value} (h : IntRow w lo xs v) (hb : Below w.heap.size w w') : IntRow w' lo xs v := h.keep (Nat.le_refl _) fun k _ hk => hb.block k hk
/-- numbers that lie in a world, wherever -/
abbrev IIn (w : World) (xs : List Int) (v : Value) : Prop := IntsOn w (Lt w.heap.size) xs v
theorem IntRow.inn {w : World} {lo : Nat} {xs : List Int} {v : Value} (h : IntRow w lo xs v) : IIn w xs v := h.on.mono (fun k hk => hk.2) fun _ _ => rfl
theorem IntsOn.next {w w' : World} {xs : List Int} {v : Value} (h : IIn w xs v) (hb : Below w.heap.size w w') : IIn w' xs v :=
  h.mono (fun k (hk : k < _) => Nat.lt_of_lt_of_le hk hb.size) fun k hk => hb.block k hk

theorem IntRow.none (w : World) (lo : Nat) : IntRow w lo [] (.slice none 0 0) := ⟨_, _, rfl, Nat.le_refl _, by simp [maxLen], Or.inl rfl⟩
/-- the answer: the numbers in a row of their own -/
def NewInts (xs : List Int) (w : World) (e : Ending) (w' : World) : Prop := ∃ v, e = .returned v ∧ IntRow w' w.heap.size xs v ∧ Below w.heap.size w w'
end Go.Proofs.YtjpjikfmdaejeaaDoor
/-
  THE LAWS' OWN COPY OF A SLICE OF INTS (toIntS).
-/
namespace Go.Proofs.YtjpjikfmdaejeaaDoor
set_option linter.unusedVariables false
set_option linter.unusedSimpArgs false
open Go.RowKit

/-! ### The copy -/
/-- what holds of the copy behind k rounds -/
def ToIRel (xs : List Int) (w : World) (k : Nat) (wr : World) : Prop :=
  ∃ f : Nat → Value, wr.rowIs w.heap.size 3 xs.length f ∧ (∀ j (_ : j < k) (hj : j < xs.length), f j = .int .i64 xs[j]) ∧ Below w.heap.size w wr
theorem toIRel_start (xs : List Int) (w : World) : ToIRel xs w 0 (w.alloc (.cells (madeCells #[.int .i64 0] xs.length) 3)) :=
  ⟨_, zero_row w xs.length, fun j hj => absurd hj (by omega), (Below.refl _ _).alloc (Nat.le_refl _) _⟩
theorem toIRel_step {xs : List Int} {w wr : World} {k : Nat} (h : ToIRel xs w k wr) (hk : k < xs.length) : ToIRel xs w (k + 1) (wr.setCell ⟨w.heap.size, k, none⟩ (.int .i64 xs[k])) := by
  obtain ⟨f, hr, ht, hb⟩ := h
  refine ⟨_, hr.set k _, fun j hj hl => ?_, hb.setCell (Nat.le_refl _) _⟩
  by_cases hjk : j = k
  · subst hjk; simp
  · simp [hjk, ht j (by omega) hl]

theorem toIRel_end {xs : List Int} {w wr : World} (h : ToIRel xs w xs.length wr) (hl : xs.length ≤ 1048576) : NewInts xs w (.returned (.slice (some ⟨w.heap.size, 0, none⟩) xs.length xs.length)) wr := by
  obtain ⟨f, hr, ht, hb⟩ := h
  exact ⟨_, rfl, ⟨_, _, rfl, Nat.le_refl _, by unfold maxLen; omega, Or.inr ⟨_, f, rfl, Nat.le_refl _, hr, fun i hi => ht i hi hi⟩⟩, hb⟩

end Go.Proofs.YtjpjikfmdaejeaaDoor
/-
  GRAPHS IN MEMORY: a slice of cells (Op, N, Kids), three cells of memory each, the operands a slice of ints. The laws' own count, copy and comparison of graphs.
-/
namespace Go.Proofs.YtjpjikfmdaejeaaDoor
set_option linter.unusedVariables false
set_option linter.unusedSimpArgs false
open Go.RowKit

/-- a cell of a graph -/
structure Ce where
  op : Int
  num : Int
  kids : List Int
instance : Inhabited Ce := ⟨⟨0, 0, []⟩⟩

/-- a slice value that holds these cells, its blocks out of S -/
def CellsOn (w : World) (S : Nat → Prop) (g : List Ce) (v : Value) : Prop :=
  ∃ ad cap, v = .slice ad g.length cap ∧ g.length ≤ cap ∧ cap ≤ maxLen ∧ (g = [] ∨ ∃ bl off, ad = some ⟨bl, off, none⟩ ∧ S bl ∧ ∀ i (hi : i < g.length), ∃ c,
    w.cell? ⟨bl, off + i * 3, none⟩ = some (.int .i64 g[i].op) ∧ w.cell? ⟨bl, off + i * 3 + 1, none⟩ = some (.int .i64 g[i].num) ∧ w.cell? ⟨bl, off + i * 3 + 2, none⟩ = some c ∧ I64 g[i].op ∧ I64 g[i].num ∧ IntsOn w S g[i].kids c)
theorem CellsOn.mono {w w' : World} {S S' : Nat → Prop} {g : List Ce} {v : Value} (h : CellsOn w S g v) (hS : ∀ k, S k → S' k) (hw : ∀ k, S k → w'.heap[k]? = w.heap[k]?) : CellsOn w' S' g v := by
  obtain ⟨ad, cap, e, l1, l2, h5⟩ := h
  refine ⟨ad, cap, e, l1, l2, ?_⟩
  rcases h5 with h5 | ⟨bl, off, e, s, r⟩
  · exact Or.inl h5
  · refine Or.inr ⟨bl, off, e, hS _ s, fun i hi => ?_⟩
    obtain ⟨c, h1, h2, h3, i1, i2, g3⟩ := r i hi
    refine ⟨c, ?_, ?_, ?_, i1, i2, g3.mono hS hw⟩
    all_goals rw [World.cell?_of_block (w := w) (hw bl s)]; assumption
/-- cells that lie in a world, wherever -/
abbrev CIn (w : World) (g : List Ce) (v : Value) : Prop := CellsOn w (Lt w.heap.size) g v
theorem CellsOn.next {w w' : World} {g : List Ce} {v : Value} (h : CIn w g v) (hb : Below w.heap.size w w') : CIn w' g v :=
  h.mono (fun k (hk : k < w.heap.size) => Nat.lt_of_lt_of_le hk hb.size) (fun k hk => hb.block k hk)
theorem CellsOn.drew {w : World} {g : List Ce} {v : Value} (h : CIn w g v) : CIn w.drew g v := h.next ((Below.refl _ _).drew)
theorem IntsOn.drew {w : World} {xs : List Int} {v : Value} (h : IIn w xs v) : IIn w.drew xs v := h.next ((Below.refl _ _).drew)

/-- element i, opened -/
theorem CellsOn.at {w : World} {g : List Ce} {ad : Option Addr} {n cap : Nat} (h : CIn w g (.slice ad n cap)) (i : Nat) (hi : i < g.length) :
    ∃ bl off c, ad = some ⟨bl, off, none⟩ ∧ w.cell? ⟨bl, off + i * 3, none⟩ = some (.int .i64 g[i].op) ∧ w.cell? ⟨bl, off + i * 3 + 1, none⟩ = some (.int .i64 g[i].num) ∧ w.cell? ⟨bl, off + i * 3 + 2, none⟩ = some c ∧ I64 g[i].op ∧ I64 g[i].num ∧ IIn w g[i].kids c := by
  obtain ⟨ad', cap', he, -, -, hr⟩ := h
  cases he
  rcases hr with rfl | ⟨bl, off, rfl, -, r⟩
  · simp at hi
  obtain ⟨c, h1, h2, h3, i1, i2, h4⟩ := r i hi
  exact ⟨bl, off, c, rfl, h1, h2, h3, i1, i2, h4⟩
/-- number i of a list of ints, opened -/
theorem IntsOn.at {w : World} {xs : List Int} {ad : Option Addr} {n cap : Nat} (h : IIn w xs (.slice ad n cap)) (i : Nat) (hi : i < xs.length) :
    ∃ bl off, ad = some ⟨bl, off, none⟩ ∧ w.cell? ⟨bl, off + i, none⟩ = some (.int .i64 xs[i]) := by
  obtain ⟨ad', cap', he, -, -, hr⟩ := h
  cases he
  rcases hr with rfl | ⟨bl, off, rfl, -, r⟩
  · simp at hi
  exact ⟨bl, off, rfl, r i hi⟩

/-! ### The count -/
/-- the operands of the first cells -/
def sumK (l : List Ce) : Nat := (l.map (·.kids.length)).sum
theorem sumK_append (a b : List Ce) : sumK (a ++ b) = sumK a + sumK b := by simp [sumK]
theorem sumK_take_succ (l : List Ce) (i : Nat) (h : i < l.length) : sumK (l.take (i + 1)) = sumK (l.take i) + l[i].kids.length := by
  rw [List.take_succ_eq_append_getElem h, sumK_append]; simp [sumK]
theorem sumK_take_le (l : List Ce) (i : Nat) : sumK (l.take i) ≤ sumK l := by
  conv => rhs; rw [← List.take_append_drop i l, sumK_append]
  omega
theorem kids_le_sumK (l : List Ce) (i : Nat) (h : i < l.length) : l[i].kids.length ≤ sumK l := by
  have := sumK_take_succ l i h
  have := sumK_take_le l (i + 1)
  omega
/-- what the law's own count of a graph leaves of a budget -/
def szC (g : List Ce) (left : Int) : Int := if (g.length : Int) + sumK g ≤ left then left - (g.length + sumK g) else -1
theorem szC_range (g : List Ce) (left : Int) (h : 0 ≤ left) : -1 ≤ szC g left ∧ szC g left ≤ left := by unfold szC; split <;> omega
def szCAt (g : List Ce) (left : Int) (k : Nat) : Int := left - g.length - sumK (g.take k)

theorem szC_kid (g : List Ce) (left : Int) (k : Nat) (hk : k < g.length) (h : (g[k].kids.length : Int) ≤ szCAt g left k) : szCAt g left k - g[k].kids.length = szCAt g left (k + 1) := by
  have e := sumK_take_succ g k hk
  unfold szCAt; rw [e]; omega
theorem szC_neg (g : List Ce) (left : Int) (k : Nat) (hk : k < g.length) (h : ¬ (g[k].kids.length : Int) ≤ szCAt g left k) : szC g left = -1 := by
  have e := sumK_take_succ g k hk
  have e2 := sumK_take_le g (k + 1)
  unfold szC; rw [if_neg]; unfold szCAt at h; omega
theorem szC_end (g : List Ce) (left : Int) (h : 0 ≤ szCAt g left g.length) : szC g left = szCAt g left g.length := by
  unfold szCAt at h ⊢; rw [List.take_length] at h ⊢; unfold szC; rw [if_pos (by omega)]; omega

/-! ### The copy -/
/-- a slice value that holds these cells in a row of its own, the operands in such rows too, from block lo on -/
def CellRow (w : World) (lo : Nat) (g : List Ce) (v : Value) : Prop :=
  ∃ ad cap, v = .slice ad g.length cap ∧ g.length ≤ cap ∧ cap ≤ maxLen ∧ (g = [] ∨ ∃ b f, ad = some ⟨b, 0, none⟩ ∧ lo ≤ b ∧ w.rowIs b 64 (cap * 3) f ∧ ∀ i (h : i < g.length), f (i * 3) = .int .i64 g[i].op ∧ f (i * 3 + 1) = .int .i64 g[i].num ∧ I64 g[i].op ∧ I64 g[i].num ∧ IntRow w lo g[i].kids (f (i * 3 + 2)))
theorem CellRow.inn {w : World} {lo : Nat} {g : List Ce} {v : Value} (h : CellRow w lo g v) : CIn w g v := by
  obtain ⟨ad, cap, e, l1, l2, h⟩ := h
  refine ⟨ad, cap, e, l1, l2, h.imp id ?_⟩
  rintro ⟨b, f, rfl, hg, hr, hf⟩
  refine ⟨b, 0, rfl, hr.lt, fun i hi => ?_⟩
  obtain ⟨f0, f1, i0, i1, f2⟩ := hf i hi
  refine ⟨_, ?_, ?_, ?_, i0, i1, f2.inn⟩
  · rw [Nat.zero_add, hr.cell (by omega), f0]
  · rw [Nat.zero_add, hr.cell (by omega), f1]
  · rw [Nat.zero_add, hr.cell (by omega)]
theorem CellRow.keep {w w' : World} {lo lo' : Nat} {g : List Ce} {v : Value} (h : CellRow w lo g v) (hl : lo' ≤ lo) (hw : ∀ k, lo ≤ k → k < w.heap.size → w'.heap[k]? = w.heap[k]?) : CellRow w' lo' g v := by
  obtain ⟨ad, cap, e, l1, l2, h⟩ := h
  refine ⟨ad, cap, e, l1, l2, h.imp id ?_⟩
  rintro ⟨b, f, rfl, hg, hr, hf⟩
  refine ⟨b, f, rfl, by omega, hr.of_block (hw b hg hr.lt), fun i hi => ?_⟩
  obtain ⟨f0, f1, i0, i1, f2⟩ := hf i hi
  exact ⟨f0, f1, i0, i1, f2.keep hl hw⟩
theorem CellRow.next {w w' : World} {lo : Nat} {g : List Ce} {v : Value} (h : CellRow w lo g v) (hb : Below w.heap.size w w') : CellRow w' lo g v := h.keep (Nat.le_refl _) fun k _ hk => hb.block k hk

def NewCell (op num : Int) (xs : List Int) (w : World) (e : Ending) (w' : World) : Prop := ∃ v, e = .returned (.agg #[.int .i64 op, .int .i64 num, v]) ∧ IntRow w' w.heap.size xs v ∧ Below w.heap.size w w'
def NewCells (g : List Ce) (w : World) (e : Ending) (w' : World) : Prop := ∃ v, e = .returned v ∧ CellRow w' w.heap.size g v ∧ Below w.heap.size w w'
theorem IntRow.setCell {w : World} {lo : Nat} {xs : List Int} {v : Value} (h : IntRow w lo xs v) {a : Addr} (ha : a.block < lo) (u : Value) : IntRow (w.setCell a u) lo xs v :=
  h.keep (Nat.le_refl _) fun k hk _ => Below.heap_setCell _ _ _ _ (fun e => by omega)
theorem IntRow.down {w : World} {lo lo' : Nat} {xs : List Int} {v : Value} (h : IntRow w lo xs v) (hl : lo' ≤ lo) : IntRow w lo' xs v := h.keep hl fun _ _ _ => rfl

theorem infoC : (Tryd.prog.info? 64).map (fun i => (i.zero, i.size, i.bytes)) = some (some (.agg #[.int .i64 0, .int .i64 0, .slice none 0 0]), 3, 40) := by kernel_rfl
theorem make_cells (n : Nat) (h : n ≤ 1048576) : ∃ C : Array Value, C.size = n * 3 ∧ ∀ w : World, (Instr.makeSlice 57 (.int .i64 (n : Int)) (.int .i64 (n : Int))).run Tryd.prog w = .ok (.slice (some ⟨w.heap.size, 0, none⟩) n n) (w.alloc (.cells C 64)) := by
  obtain ⟨i, hi, hzz⟩ := Option.map_eq_some_iff.1 infoC
  simp only [Prod.mk.injEq] at hzz
  obtain ⟨hz, hs, hb⟩ := hzz
  refine ⟨madeCells (Value.agg #[.int .i64 0, .int .i64 0, .slice none 0 0]).cells (n * 3), size_madeCells _ _, fun w => ?_⟩
  have hr := run_make (P := Tryd.prog) w 57 64 i _ Tryd.underlying57 hi hz .i64 .i64 n n (by omega) (Int.le_refl _) (by rw [hb]; omega) (by omega)
  simp only [Int.toNat_natCast, hs] at hr
  exact hr

/-- what holds of the copy of a graph behind k rounds -/
def ToCRel (g : List Ce) (w : World) (k : Nat) (wr : World) : Prop :=
  ∃ f : Nat → Value, wr.rowIs w.heap.size 64 (g.length * 3) f ∧ (∀ j (_ : j < k) (hj : j < g.length), f (j * 3) = .int .i64 g[j].op ∧ f (j * 3 + 1) = .int .i64 g[j].num ∧ I64 g[j].op ∧ I64 g[j].num ∧ IntRow wr (w.heap.size + 1) g[j].kids (f (j * 3 + 2))) ∧ Below w.heap.size w wr
theorem toCRel_start (g : List Ce) (w : World) (C : Array Value) (h : C.size = g.length * 3) : ToCRel g w 0 (w.alloc (.cells C 64)) := by
  refine ⟨fun i => C.getD i undef, ⟨C, Deep.blk_alloc_new _ _, h, fun i hi => ?_⟩, fun j hj => absurd hj (by omega), (Below.refl _ _).alloc (Nat.le_refl _) _⟩
  simp [Array.getElem?_eq_getElem (h ▸ hi : i < C.size), Array.getD, (h ▸ hi : i < C.size)]
/-- the world behind the three stores -/
def stC (w1 : World) (b k : Nat) (c : Ce) (v : Value) : World :=
  ((w1.setCell ⟨b, k * 3, none⟩ (.int .i64 c.op)).setCell ⟨b, k * 3 + 1, none⟩ (.int .i64 c.num)).setCell ⟨b, k * 3 + 2, none⟩ v
theorem toCRel_step (g : List Ce) (w wr w1 : World) (k : Nat) (hk : k < g.length) (h : ToCRel g w k wr) (v : Value) (hb : Below wr.heap.size wr w1) (hv : IntRow w1 wr.heap.size (g[k]).kids v) (ho : I64 (g[k]).op) (hn : I64 (g[k]).num) :
    ToCRel g w (k + 1) (stC w1 w.heap.size k g[k] v) := by
  unfold stC
  obtain ⟨f, hr, ht, hbw⟩ := h
  have hlt := hr.lt
  have hr1 : w1.rowIs w.heap.size 64 (g.length * 3) f := hr.of_block (hb.block _ hlt)
  have hsz := hb.size
  have keep : ∀ (xs : List Int) (u : Value), IntRow w1 (w.heap.size + 1) xs u → IntRow (((w1.setCell ⟨w.heap.size, k * 3, none⟩ (.int .i64 g[k].op)).setCell ⟨w.heap.size, k * 3 + 1, none⟩ (.int .i64 g[k].num)).setCell ⟨w.heap.size, k * 3 + 2, none⟩ v) (w.heap.size + 1) xs u :=
    fun xs u q => ((q.setCell (by simp) _).setCell (by simp) _).setCell (by simp) _
  refine ⟨_, ((hr1.set (k * 3) _).set (k * 3 + 1) _).set (k * 3 + 2) _, fun j hj hjl => ?_, ?_⟩
  · by_cases hjk : j = k
    · subst hjk
      have : IntRow w1 (w.heap.size + 1) g[j].kids v := hv.down (by omega)
      refine ⟨by simp, by simp, ho, hn, ?_⟩
      simpa using keep _ _ this
    · obtain ⟨h00, h01, i0, i1, h02⟩ := ht j (by omega) hjl
      have h1 : IntRow w1 (w.heap.size + 1) g[j].kids (f (j * 3 + 2)) := h02.next hb
      have h2 := keep _ _ h1
      have e1 : ∀ m, m < 3 → j * 3 + m ≠ k * 3 + 2 ∧ j * 3 + m ≠ k * 3 + 1 ∧ j * 3 + m ≠ k * 3 := fun m hm => by omega
      have a0 := e1 0 (by omega)
      have a1 := e1 1 (by omega)
      have a2 := e1 2 (by omega)
      simp only [Nat.add_zero] at a0
      refine ⟨?_, ?_, i0, i1, ?_⟩
      · simp only [if_neg a0.1, if_neg a0.2.1, if_neg a0.2.2]; exact h00
      · simp only [if_neg a1.1, if_neg a1.2.1, if_neg a1.2.2]; exact h01
      · simp only [if_neg a2.1, if_neg a2.2.1, if_neg a2.2.2]; exact h2
  · exact (((hbw.trans (hb.mono (Nat.le_of_lt hlt))).setCell (by simp) _).setCell (by simp) _).setCell (by simp) _
theorem toCRel_end (g : List Ce) (w wr : World) (h : ToCRel g w g.length wr) (hl : g.length ≤ 1048576) : NewCells g w (.returned (.slice (some ⟨w.heap.size, 0, none⟩) g.length g.length)) wr := by
  obtain ⟨f, hr, ht, hbw⟩ := h
  refine ⟨_, rfl, ⟨_, _, rfl, Nat.le_refl _, by unfold maxLen; omega, Or.inr ⟨_, f, rfl, Nat.le_refl _, hr, fun i hi => ?_⟩⟩, hbw⟩
  obtain ⟨g1, g2, i0, i1, g3⟩ := ht i hi hi
  exact ⟨g1, g2, i0, i1, g3.down (by omega)⟩

end Go.Proofs.YtjpjikfmdaejeaaDoor
