/-
  THE LAWS' OWN COMPARISON (eqExpr, eqExprS): of equal trees it answers true; nothing that was there is changed.
-/
import Derived.Test.YtjdlfpdljmohiaaMb1
import Derived.Test.YtjdlfpdljmohiaaProg
import Derived.Deep.RegionHeld3
import Derived.Deep.RegionWith
import Derived.Deep.DeepMust
import Derived.Test.YtjdlfpdljmohiaaMb5
import Derived.Test.YtjdlfpdljmohiaaMb3
import Derived.Deep.QuietTactic
import Derived.BigQuiet
namespace Go.Proofs.Ytjdlfpdljmohiaa
set_option linter.unusedVariables false
set_option linter.unusedSimpArgs false
open Go.RowKit

end Go.Proofs.Ytjdlfpdljmohiaa
/-
  PROGRAMS IN MEMORY: a slice of functions (Arity, Body), four cells each. The laws' own count, copy and comparison of programs.
-/
namespace Go.Proofs.Ytjdlfpdljmohiaa
set_option linter.unusedVariables false
set_option linter.unusedSimpArgs false
open Go.RowKit

/-- a function: its arity and its body -/
abbrev Df := Int × Tr

/-- the four cells of a function -/
def DfOn (w : World) (S : Nat → Prop) (d : Df) (a b c e : Value) : Prop := a = .int .i64 d.1 ∧ I64 d.1 ∧ TrOn w S d.2 b c e

/-- a slice value that holds these functions -/
def DefsOn (w : World) (S : Nat → Prop) (ds : List Df) (v : Value) : Prop :=
  ∃ ad cap, v = .slice ad ds.length cap ∧ ds.length ≤ cap ∧ cap ≤ maxLen ∧ (ds = [] ∨ ∃ bl off, ad = some ⟨bl, off, none⟩ ∧ S bl ∧ ∀ i (hi : i < ds.length), ∃ a b c e,
    w.cell? ⟨bl, off + i * 4, none⟩ = some a ∧ w.cell? ⟨bl, off + i * 4 + 1, none⟩ = some b ∧ w.cell? ⟨bl, off + i * 4 + 2, none⟩ = some c ∧ w.cell? ⟨bl, off + i * 4 + 3, none⟩ = some e ∧ DfOn w S ds[i] a b c e)

theorem DefsOn.mono {w w' : World} {S S' : Nat → Prop} {ds : List Df} {v : Value} (h : DefsOn w S ds v) (hS : ∀ k, S k → S' k) (hw : ∀ k, S k → w'.heap[k]? = w.heap[k]?) : DefsOn w' S' ds v := by
  obtain ⟨ad, cap, e, l1, l2, h5⟩ := h
  refine ⟨ad, cap, e, l1, l2, ?_⟩
  rcases h5 with h5 | ⟨bl, off, e, s, r⟩
  · exact Or.inl h5
  · refine Or.inr ⟨bl, off, e, hS _ s, fun i hi => ?_⟩
    obtain ⟨a, b, c, x, h1, h2, h3, h4, g1, g2, g3⟩ := r i hi
    refine ⟨a, b, c, x, ?_, ?_, ?_, ?_, g1, g2, g3.mono hS hw⟩
    all_goals rw [World.cell?_of_block (w := w) (hw bl s)]; assumption
abbrev DIn (w : World) (ds : List Df) (v : Value) : Prop := DefsOn w (Lt w.heap.size) ds v
theorem DefsOn.next {w w' : World} {ds : List Df} {v : Value} (h : DIn w ds v) (hb : Below w.heap.size w w') : DIn w' ds v :=
  h.mono (fun k (hk : k < w.heap.size) => Nat.lt_of_lt_of_le hk hb.size) (fun k hk => hb.block k hk)
theorem DefsOn.drew {w : World} {ds : List Df} {v : Value} (h : DIn w ds v) : DIn w.drew ds v := h.next ((Below.refl _ _).drew)
theorem DefsOn.btw_in {w : World} {lo : Nat} {ds : List Df} {v : Value} (h : DefsOn w (Btw lo w.heap.size) ds v) : DIn w ds v :=
  h.mono (fun _ hk => hk.2) (fun _ _ => rfl)

/-- element i, opened -/
theorem DefsOn.at {w : World} {ds : List Df} {ad : Option Addr} {n cap : Nat} (h : DIn w ds (.slice ad n cap)) (i : Nat) (hi : i < ds.length) :
    ∃ bl off c, ad = some ⟨bl, off, none⟩ ∧ w.cell? ⟨bl, off + i * 4, none⟩ = some (.int .i64 ds[i].1) ∧ w.cell? ⟨bl, off + i * 4 + 1, none⟩ = some (.int .i64 ds[i].2.op) ∧ w.cell? ⟨bl, off + i * 4 + 2, none⟩ = some (.int .i64 ds[i].2.num) ∧ w.cell? ⟨bl, off + i * 4 + 3, none⟩ = some c ∧ I64 ds[i].1 ∧ I64 ds[i].2.op ∧ I64 ds[i].2.num ∧ In w ds[i].2.kids c := by
  obtain ⟨ad', cap', he, -, -, hr⟩ := h
  cases he
  rcases hr with rfl | ⟨bl, off, rfl, -, r⟩
  · simp at hi
  obtain ⟨a, b, c, e, h1, h2, h3, h4, rfl, g2, g3⟩ := r i hi
  obtain ⟨rfl, rfl, g5, g6, g7⟩ := trOn_iff.1 g3
  exact ⟨bl, off, e, rfl, h1, h2, h3, h4, g2, g5, g6, g7⟩

/-- the bodies -/
def bodies (ds : List Df) : List Tr := ds.map (·.2)
theorem bodies_length (ds : List Df) : (bodies ds).length = ds.length := by simp [bodies]
theorem bodies_at (ds : List Df) (i : Nat) (hi : i < ds.length) : (bodies ds)[i]'(by rw [bodies_length]; exact hi) = ds[i].2 := by simp [bodies]

/-! ### The copy -/
def NewDf (a o n : Int) (ks : List Tr) (w : World) (e : Ending) (w' : World) : Prop := ∃ v, e = .returned (.agg #[.int .i64 a, .int .i64 o, .int .i64 n, v]) ∧ KidsOn w' (Btw w.heap.size w'.heap.size) ks v ∧ Below w.heap.size w w'
def NewDefs (ds : List Df) (w : World) (e : Ending) (w' : World) : Prop := ∃ v, e = .returned v ∧ DefsOn w' (Btw w.heap.size w'.heap.size) ds v ∧ Below w.heap.size w w'

theorem infoD : (Try.prog.info? 137).map (fun i => (i.zero, i.size, i.bytes)) = some (some (.agg #[.int .i64 0, .int .i64 0, .int .i64 0, .slice none 0 0]), 4, 48) := by kernel_rfl
theorem make_defs (n : Nat) (h : n ≤ 1048576) : ∃ C : Array Value, C.size = n * 4 ∧ ∀ w : World, (Instr.makeSlice 67 (.int .i64 (n : Int)) (.int .i64 (n : Int))).run Try.prog w = .ok (.slice (some ⟨w.heap.size, 0, none⟩) n n) (w.alloc (.cells C 137)) := by
  obtain ⟨i, hi, hzz⟩ := Option.map_eq_some_iff.1 infoD
  simp only [Prod.mk.injEq] at hzz
  obtain ⟨hz, hs, hb⟩ := hzz
  refine ⟨madeCells (Value.agg #[.int .i64 0, .int .i64 0, .int .i64 0, .slice none 0 0]).cells (n * 4), size_madeCells _ _, fun w => ?_⟩
  have hr := run_make (P := Try.prog) w 67 137 i _ Try.underlying67 hi hz .i64 .i64 n n (by omega) (Int.le_refl _) (by rw [hb]; omega) (by omega)
  simp only [Int.toNat_natCast, hs] at hr
  exact hr

/-- what holds of the copy of a program behind k rounds -/
def ToDRel (ds : List Df) (w : World) (k : Nat) (wr : World) : Prop :=
  ∃ f : Nat → Value, wr.rowIs w.heap.size 137 (ds.length * 4) f ∧ (∀ j (_ : j < k) (hj : j < ds.length), DfOn wr (Btw (w.heap.size + 1) wr.heap.size) ds[j] (f (j * 4)) (f (j * 4 + 1)) (f (j * 4 + 2)) (f (j * 4 + 3))) ∧ Below w.heap.size w wr

theorem toDRel_start (ds : List Df) (w : World) (C : Array Value) (h : C.size = ds.length * 4) : ToDRel ds w 0 (w.alloc (.cells C 137)) := by
  refine ⟨fun i => C.getD i undef, ⟨C, Deep.blk_alloc_new _ _, h, fun i hi => ?_⟩, fun j hj => absurd hj (by omega), (Below.refl _ _).alloc (Nat.le_refl _) _⟩
  simp [Array.getElem?_eq_getElem (h ▸ hi : i < C.size), Array.getD, (h ▸ hi : i < C.size)]

/-- the world behind the four stores -/
def stD (w1 : World) (b k : Nat) (d : Df) (v : Value) : World :=
  (((w1.setCell ⟨b, k * 4, none⟩ (.int .i64 d.1)).setCell ⟨b, k * 4 + 1, none⟩ (.int .i64 d.2.op)).setCell ⟨b, k * 4 + 2, none⟩ (.int .i64 d.2.num)).setCell ⟨b, k * 4 + 3, none⟩ v

theorem toDRel_step (ds : List Df) (w wr w1 : World) (k : Nat) (hk : k < ds.length) (h : ToDRel ds w k wr) (v : Value) (hb : Below wr.heap.size wr w1) (hv : KidsOn w1 (Btw wr.heap.size w1.heap.size) (ds[k]).2.kids v) (ha : I64 (ds[k]).1) (ho : I64 (ds[k]).2.op) (hn : I64 (ds[k]).2.num) :
    ToDRel ds w (k + 1) (stD w1 w.heap.size k ds[k] v) := by
  unfold stD
  obtain ⟨f, hr, ht, hbw⟩ := h
  have hlt := hr.lt
  have hr1 : w1.rowIs w.heap.size 137 (ds.length * 4) f := hr.of_block (hb.block _ hlt)
  have hsz := hb.size
  have keep : ∀ (t : Tr) (a b c : Value), TrOn w1 (Btw (w.heap.size + 1) w1.heap.size) t a b c → TrOn ((((w1.setCell ⟨w.heap.size, k * 4, none⟩ (.int .i64 ds[k].1)).setCell ⟨w.heap.size, k * 4 + 1, none⟩ (.int .i64 ds[k].2.op)).setCell ⟨w.heap.size, k * 4 + 2, none⟩ (.int .i64 ds[k].2.num)).setCell ⟨w.heap.size, k * 4 + 3, none⟩ v) (Btw (w.heap.size + 1) w1.heap.size) t a b c :=
    fun t a b c g => (((g.setCell (by simp [Btw] <;> omega) _).setCell (by simp [Btw] <;> omega) _).setCell (by simp [Btw] <;> omega) _).setCell (by simp [Btw] <;> omega) _
  refine ⟨_, (((hr1.set (k * 4) _).set (k * 4 + 1) _).set (k * 4 + 2) _).set (k * 4 + 3) _, fun j hj hjl => ?_, ?_⟩
  · simp only [size_setCell]
    by_cases hjk : j = k
    · subst hjk
      have : TrOn w1 (Btw (w.heap.size + 1) w1.heap.size) ds[j].2 (.int .i64 (ds[j]).2.op) (.int .i64 (ds[j]).2.num) v := trOn_iff.2 ⟨rfl, rfl, ho, hn, hv.mono (fun k hk => ⟨by have := hk.1; omega, hk.2⟩) (fun _ _ => rfl)⟩
      refine ⟨by simp, ha, ?_⟩
      simpa using keep _ _ _ _ this
    · obtain ⟨h01, h02, h03⟩ := ht j (by omega) hjl
      have h1 : TrOn w1 (Btw (w.heap.size + 1) w1.heap.size) ds[j].2 (f (j * 4 + 1)) (f (j * 4 + 2)) (f (j * 4 + 3)) := h03.mono (fun k hk => ⟨hk.1, by have := hk.2; omega⟩) (fun k hk => hb.block k hk.2)
      have h2 := keep _ _ _ _ h1
      have e1 : ∀ m, m < 4 → j * 4 + m ≠ k * 4 + 3 ∧ j * 4 + m ≠ k * 4 + 2 ∧ j * 4 + m ≠ k * 4 + 1 ∧ j * 4 + m ≠ k * 4 := fun m hm => by omega
      have a0 := e1 0 (by omega)
      have a1 := e1 1 (by omega)
      have a2 := e1 2 (by omega)
      have a3 := e1 3 (by omega)
      simp only [Nat.add_zero] at a0
      refine ⟨?_, h02, ?_⟩
      · simp only [if_neg a0.1, if_neg a0.2.1, if_neg a0.2.2.1, if_neg a0.2.2.2]; exact h01
      · simp only [if_neg a1.1, if_neg a1.2.1, if_neg a1.2.2.1, if_neg a1.2.2.2, if_neg a2.1, if_neg a2.2.1, if_neg a2.2.2.1, if_neg a2.2.2.2, if_neg a3.1, if_neg a3.2.1, if_neg a3.2.2.1, if_neg a3.2.2.2]; exact h2
  · exact ((((hbw.trans (hb.mono (Nat.le_of_lt hlt))).setCell (by simp) _).setCell (by simp) _).setCell (by simp) _).setCell (by simp) _

theorem toDRel_end (ds : List Df) (w wr : World) (h : ToDRel ds w ds.length wr) (hl : ds.length ≤ 1048576) : NewDefs ds w (.returned (.slice (some ⟨w.heap.size, 0, none⟩) ds.length ds.length)) wr := by
  obtain ⟨f, hr, ht, hbw⟩ := h
  have hlt := hr.lt
  refine ⟨_, rfl, ⟨_, _, rfl, Nat.le_refl _, by unfold maxLen; omega, Or.inr ⟨_, _, rfl, ⟨Nat.le_refl _, hlt⟩, fun i hi => ?_⟩⟩, hbw⟩
  obtain ⟨g1, g2, g3⟩ := ht i hi hi
  refine ⟨f (i * 4), f (i * 4 + 1), f (i * 4 + 2), f (i * 4 + 3), ?_, ?_, ?_, ?_, g1, g2, g3.mono (fun k hk => ⟨by have := hk.1; omega, hk.2⟩) (fun _ _ => rfl)⟩
  · simpa using hr.cell (i := i * 4) (by omega)
  · simpa [Nat.zero_add] using hr.cell (i := i * 4 + 1) (by omega)
  · simpa [Nat.zero_add] using hr.cell (i := i * 4 + 2) (by omega)
  · simpa [Nat.zero_add] using hr.cell (i := i * 4 + 3) (by omega)

theorem szL_body_le (ds : List Df) (k : Nat) (hk : k < ds.length) : szL ds[k].2.kids ≤ szL (bodies ds) := by
  have h := szL_kids_lt (bodies ds) k (by rw [bodies_length]; exact hk)
  rw [bodies_at ds k hk] at h
  omega

end Go.Proofs.Ytjdlfpdljmohiaa
/-
  THE PROGRAM's ExprValid (opOf, nodeOf, the four kinds' fits, nodesLeft, ExprValid): which trees it takes for valid; nothing that was there is changed.
-/
namespace Go.Proofs.Ytjdlfpdljmohiaa
set_option linter.unusedVariables false
set_option linter.unusedSimpArgs false
open Go.RowKit

/-- how nodes of a kind with operands are written -/
def opKids (op : Int) : Int := if op = 4 then 2 else if op = 5 then 2 else if op = 6 then 1 else if op = 7 then 1 else if op = 8 then 2 else if op = 9 then 2 else if op = 10 then 3 else 0
def opMarks (op : Int) : ByteArray := if op = 4 then ⟨#[40, 32, 41]⟩ else if op = 5 then ⟨#[60, 44, 62]⟩ else if op = 6 then ⟨#[126]⟩ else if op = 7 then ⟨#[94]⟩ else if op = 8 then ⟨#[40, 43, 41]⟩ else if op = 9 then ⟨#[40, 45, 41]⟩ else if op = 10 then ⟨#[91, 63, 58, 93]⟩ else ⟨#[]⟩
def opOk (op : Int) : Bool := decide (4 ≤ op ∧ op ≤ 10)

/-- opOf has handed back the row of a kind -/
def OpRow (op : Int) (w : World) (e : Ending) (w' : World) : Prop := e = .returned (.tuple #[.agg #[.int .i64 (opKids op), .string (opMarks op)], .bool (opOk op)]) ∧ Below w.heap.size w w'

theorem opRow_4 {op : Int} (h : (op == 4) = true) : opKids op = 2 ∧ opMarks op = ⟨#[40, 32, 41]⟩ ∧ opOk op = true := by
  have e : op = 4 := by simpa using h
  subst e
  exact ⟨rfl, rfl, rfl⟩
theorem opRow_5 {op : Int} (h : (op == 5) = true) : opKids op = 2 ∧ opMarks op = ⟨#[60, 44, 62]⟩ ∧ opOk op = true := by
  have e : op = 5 := by simpa using h
  subst e
  exact ⟨rfl, rfl, rfl⟩
theorem opRow_6 {op : Int} (h : (op == 6) = true) : opKids op = 1 ∧ opMarks op = ⟨#[126]⟩ ∧ opOk op = true := by
  have e : op = 6 := by simpa using h
  subst e
  exact ⟨rfl, rfl, rfl⟩
theorem opRow_7 {op : Int} (h : (op == 7) = true) : opKids op = 1 ∧ opMarks op = ⟨#[94]⟩ ∧ opOk op = true := by
  have e : op = 7 := by simpa using h
  subst e
  exact ⟨rfl, rfl, rfl⟩
theorem opRow_8 {op : Int} (h : (op == 8) = true) : opKids op = 2 ∧ opMarks op = ⟨#[40, 43, 41]⟩ ∧ opOk op = true := by
  have e : op = 8 := by simpa using h
  subst e
  exact ⟨rfl, rfl, rfl⟩
theorem opRow_9 {op : Int} (h : (op == 9) = true) : opKids op = 2 ∧ opMarks op = ⟨#[40, 45, 41]⟩ ∧ opOk op = true := by
  have e : op = 9 := by simpa using h
  subst e
  exact ⟨rfl, rfl, rfl⟩
theorem opRow_10 {op : Int} (h : (op == 10) = true) : opKids op = 3 ∧ opMarks op = ⟨#[91, 63, 58, 93]⟩ ∧ opOk op = true := by
  have e : op = 10 := by simpa using h
  subst e
  exact ⟨rfl, rfl, rfl⟩
theorem opRow_no {op : Int} (h4 : (op == 4) = false) (h5 : (op == 5) = false) (h6 : (op == 6) = false) (h7 : (op == 7) = false) (h8 : (op == 8) = false) (h9 : (op == 9) = false) (h10 : (op == 10) = false) : opKids op = 0 ∧ opMarks op = ⟨#[]⟩ ∧ opOk op = false := by
  simp only [beq_eq_false_iff_ne] at *
  refine ⟨?_, ?_, ?_⟩
  · unfold opKids; rw [if_neg h4, if_neg h5, if_neg h6, if_neg h7, if_neg h8, if_neg h9, if_neg h10]
  · unfold opMarks; rw [if_neg h4, if_neg h5, if_neg h6, if_neg h7, if_neg h8, if_neg h9, if_neg h10]
  · unfold opOk; rw [decide_eq_false]; omega

set_option maxHeartbeats 400000 in
theorem opOf_calls (op : Int) (w : World) : Calls Try.prog 91 #[.int .i64 op] w (OpRow op w) := by
  go_enter Try.func91, Try.ntmps91
  go_wp2_with fail
  all_goals first
    | (rename (op == 4) = true => ht; obtain ⟨e1, e2, e3⟩ := opRow_4 ht; refine bodyPost_ret (v := .tuple #[.agg #[.int .i64 2, .string ⟨#[40, 32, 41]⟩], .bool true]) (by simp [results, Try.results91, go_sem]) rfl ⟨by rw [e1, e2, e3], box_below _ _⟩)
    | (rename (op == 5) = true => ht; obtain ⟨e1, e2, e3⟩ := opRow_5 ht; refine bodyPost_ret (v := .tuple #[.agg #[.int .i64 2, .string ⟨#[60, 44, 62]⟩], .bool true]) (by simp [results, Try.results91, go_sem]) rfl ⟨by rw [e1, e2, e3], box_below _ _⟩)
    | (rename (op == 6) = true => ht; obtain ⟨e1, e2, e3⟩ := opRow_6 ht; refine bodyPost_ret (v := .tuple #[.agg #[.int .i64 1, .string ⟨#[126]⟩], .bool true]) (by simp [results, Try.results91, go_sem]) rfl ⟨by rw [e1, e2, e3], box_below _ _⟩)
    | (rename (op == 7) = true => ht; obtain ⟨e1, e2, e3⟩ := opRow_7 ht; refine bodyPost_ret (v := .tuple #[.agg #[.int .i64 1, .string ⟨#[94]⟩], .bool true]) (by simp [results, Try.results91, go_sem]) rfl ⟨by rw [e1, e2, e3], box_below _ _⟩)
    | (rename (op == 8) = true => ht; obtain ⟨e1, e2, e3⟩ := opRow_8 ht; refine bodyPost_ret (v := .tuple #[.agg #[.int .i64 2, .string ⟨#[40, 43, 41]⟩], .bool true]) (by simp [results, Try.results91, go_sem]) rfl ⟨by rw [e1, e2, e3], box_below _ _⟩)
    | (rename (op == 9) = true => ht; obtain ⟨e1, e2, e3⟩ := opRow_9 ht; refine bodyPost_ret (v := .tuple #[.agg #[.int .i64 2, .string ⟨#[40, 45, 41]⟩], .bool true]) (by simp [results, Try.results91, go_sem]) rfl ⟨by rw [e1, e2, e3], box_below _ _⟩)
    | (rename (op == 10) = true => ht; obtain ⟨e1, e2, e3⟩ := opRow_10 ht; refine bodyPost_ret (v := .tuple #[.agg #[.int .i64 3, .string ⟨#[91, 63, 58, 93]⟩], .bool true]) (by simp [results, Try.results91, go_sem]) rfl ⟨by rw [e1, e2, e3], box_below _ _⟩)
    | (rename (op == 4) = false => h4; rename (op == 5) = false => h5; rename (op == 6) = false => h6; rename (op == 7) = false => h7; rename (op == 8) = false => h8; rename (op == 9) = false => h9; rename (op == 10) = false => h10; obtain ⟨e1, e2, e3⟩ := opRow_no h4 h5 h6 h7 h8 h9 h10; refine bodyPost_ret (v := .tuple #[.agg #[.int .i64 0, .string ⟨#[]⟩], .bool false]) (by simp [results, Try.results91, go_sem]) rfl ⟨by rw [e1, e2, e3], box_below _ _⟩)

set_option maxHeartbeats 400000 in
theorem nodeOf_1 (n : Int) (len : Nat) (w : World) : Calls Try.prog 79 #[.int .i64 1, .int .i64 n, .int .i64 (len : Int)] w fun e w' => e = .returned (.tuple #[.iface 119 (.int .i64 n), .bool ((len : Int) == 0)]) ∧ Below w.heap.size w w' := by
  go_enter Try.func79, Try.ntmps79
  go_wp2_with fail
  go_ret2
  exact ⟨rfl, Below.refl _ _⟩

set_option maxHeartbeats 400000 in
theorem nodeOf_2 (n : Int) (len : Nat) (w : World) : Calls Try.prog 79 #[.int .i64 2, .int .i64 n, .int .i64 (len : Int)] w fun e w' => e = .returned (.tuple #[.iface 120 (.int .i64 n), .bool ((len : Int) == 0)]) ∧ Below w.heap.size w w' := by
  go_enter Try.func79, Try.ntmps79
  go_wp2_with fail
  go_ret2
  exact ⟨rfl, Below.refl _ _⟩

set_option maxHeartbeats 400000 in
theorem nodeOf_3 (n : Int) (len : Nat) (w : World) : Calls Try.prog 79 #[.int .i64 3, .int .i64 n, .int .i64 (len : Int)] w fun e w' => e = .returned (.tuple #[.iface 121 (.int .i64 n), .bool ((len : Int) == 0)]) ∧ Below w.heap.size w w' := by
  go_enter Try.func79, Try.ntmps79
  go_wp2_with fail
  go_ret2
  exact ⟨rfl, Below.refl _ _⟩

theorem ret_node {v : Value} {a b : Bool} (h : a = b) : Ending.returned (.tuple #[v, .bool a]) = .returned (.tuple #[v, .bool b]) := by rw [h]
/-- nodeOf has handed back a node with operands -/
def OpNode (op : Int) (b : Bool) (w : World) (e : Ending) (w' : World) : Prop := e = .returned (.tuple #[.iface 123 (.agg #[.int .i64 (opKids op), .string (opMarks op)]), .bool b]) ∧ Below w.heap.size w w'
theorem opKids_range (op : Int) : 0 ≤ opKids op ∧ opKids op ≤ 3 := by
  unfold opKids
  repeat' split
  all_goals omega

set_option maxHeartbeats 800000 in
theorem nodeOf_op (op n : Int) (len : Nat) (w : World) (t1 : (op == 1) = false) (t2 : (op == 2) = false) (t3 : (op == 3) = false) :
    Calls Try.prog 79 #[.int .i64 op, .int .i64 n, .int .i64 (len : Int)] w (OpNode op (opOk op && ((n == 0) && ((len : Int) == opKids op))) w) := by
  have hkr := opKids_range op
  go_enter Try.func79, Try.ntmps79
  go_wp2_with fail
  refine (opOf_calls op _).mono ?_
  rintro e w1 ⟨rfl, hb⟩
  have HB : Hid (Below w.heap.size w w1) := hb
  have hle : w.heap.size ≤ w1.heap.size := hb.size
  clear hb
  cases hok : opOk op with
  | false =>
    have HV : Hid ((opOk op && ((n == 0) && ((len : Int) == opKids op))) = false) := by simp [Hid, hok]
    go_wp2_with fail
    have k3 := cell_regrown (box_cell w1 #[.int .i64 (opKids op), .string (opMarks op)] 123 0 _ rfl)
    have k4 := cell_regrown (box_cell w1 #[.int .i64 (opKids op), .string (opMarks op)] 123 1 _ rfl)
    refine wp_region_quiet_below (by kernel_rfl) (by kernel_rfl) ?_
    repeat (any_goals (first | go_big_quiet_step (fail) | quiet_step (fail)))
    refine wpQuiet_nil ?_
    intro _ hw'
    obtain ⟨⟨dq, osq⟩, hw''⟩ := hw'
    subst hw''
    clear k3 k4
    go_wp2_with fail
    go_ret2
    exact ⟨ret_node HV.out.symm, HB.out.trans ((box_below _ _).trans ((below_regrown _ _ _).mono (by rw [Deep.nblk_alloc]; omega)) |>.mono hle)⟩
  | true =>
    by_cases hn : n = 0
    · subst hn
      by_cases hl : (len : Int) = opKids op
      · have hl' : ((len : Int) == opKids op) = true := by simpa using hl
        have HV : Hid ((opOk op && (((0 : Int) == 0) && ((len : Int) == opKids op))) = true) := by simp [Hid, hok, hl']
        clear hl
        go_wp2_with fail
        have k3 := cell_regrown (box_cell w1 #[.int .i64 (opKids op), .string (opMarks op)] 123 0 _ rfl)
        have k4 := cell_regrown (box_cell w1 #[.int .i64 (opKids op), .string (opMarks op)] 123 1 _ rfl)
        refine wp_region_quiet_below (by kernel_rfl) (by kernel_rfl) ?_
        repeat (any_goals (first | go_big_quiet_step (fail) | quiet_step (fail)))
        refine wpQuiet_nil ?_
        intro _ hw'
        obtain ⟨⟨dq, osq⟩, hw''⟩ := hw'
        subst hw''
        clear k3 k4
        go_wp2_with fail
        go_ret2
        exact ⟨ret_node HV.out.symm, HB.out.trans ((box_below _ _).trans ((below_regrown _ _ _).mono (by rw [Deep.nblk_alloc]; omega)) |>.mono hle)⟩
      · have hl' : ((len : Int) == opKids op) = false := by simpa using hl
        have HV : Hid ((opOk op && (((0 : Int) == 0) && ((len : Int) == opKids op))) = false) := by simp [Hid, hok, hl']
        clear hl
        go_wp2_with fail
        have k3 := cell_regrown (box_cell w1 #[.int .i64 (opKids op), .string (opMarks op)] 123 0 _ rfl)
        have k4 := cell_regrown (box_cell w1 #[.int .i64 (opKids op), .string (opMarks op)] 123 1 _ rfl)
        refine wp_region_quiet_below (by kernel_rfl) (by kernel_rfl) ?_
        repeat (any_goals (first | go_big_quiet_step (fail) | quiet_step (fail)))
        refine wpQuiet_nil ?_
        intro _ hw'
        obtain ⟨⟨dq, osq⟩, hw''⟩ := hw'
        subst hw''
        clear k3 k4
        go_wp2_with fail
        go_ret2
        exact ⟨ret_node HV.out.symm, HB.out.trans ((box_below _ _).trans ((below_regrown _ _ _).mono (by rw [Deep.nblk_alloc]; omega)) |>.mono hle)⟩
    · have hn' : (n == 0) = false := by simpa using hn
      have HV : Hid ((opOk op && ((n == 0) && ((len : Int) == opKids op))) = false) := by simp [Hid, hok, hn']
      go_wp2_with fail
      have k3 := cell_regrown (box_cell w1 #[.int .i64 (opKids op), .string (opMarks op)] 123 0 _ rfl)
      have k4 := cell_regrown (box_cell w1 #[.int .i64 (opKids op), .string (opMarks op)] 123 1 _ rfl)
      refine wp_region_quiet_below (by kernel_rfl) (by kernel_rfl) ?_
      repeat (any_goals (first | go_big_quiet_step (fail) | quiet_step (fail)))
      refine wpQuiet_nil ?_
      intro _ hw'
      obtain ⟨⟨dq, osq⟩, hw''⟩ := hw'
      subst hw''
      clear k3 k4
      go_wp2_with fail
      go_ret2
      exact ⟨ret_node HV.out.symm, HB.out.trans ((box_below _ _).trans ((below_regrown _ _ _).mono (by rw [Deep.nblk_alloc]; omega)) |>.mono hle)⟩
end Go.Proofs.Ytjdlfpdljmohiaa
/-
  A NODE OF THE PROGRAM: nodeOf's answer, the method fits that it leads to, and that one's answer.
-/
namespace Go.Proofs.Ytjdlfpdljmohiaa
set_option linter.unusedVariables false
set_option linter.unusedSimpArgs false
open Go.RowKit

/-- is a node right at its top? -/
def topC (op num : Int) (n : Nat) (vars defs : Int) : Bool := decide ((n : Int) = arity op) && ownB op num vars defs
def topB (t : Tr) (vars defs : Int) : Bool := topC t.op t.num t.kids.length vars defs

/-- what is known of the node at a tree's top: nodeOf's answer, the method that it leads to, and that one's answer -/
structure NodeAt (vars defs op num : Int) (n : Nat) (T : TypeId) (x : Value) (K : FuncId) (ok fit : Bool) : Prop where
  node : ∀ (w : World), Calls Try.prog 79 #[.int .i64 op, .int .i64 num, .int .i64 (n : Int)] w fun e w' => e = .returned (.tuple #[.iface T x, .bool ok]) ∧ Below w.heap.size w w'
  meth : ∀ w : World, (method 268 T x "loop.example/graphreducer/impl.fits").run Try.prog w = .ok (K, x) w
  enters : ∀ (args : Array Value) (w : World), (callFunc K args).run Try.prog w = .ok (.enter K args) w
  fits : ok = true → ∀ w : World, Calls Try.prog K #[x, .int .i64 vars, .int .i64 defs] w fun e w' => e = .returned (.bool fit) ∧ Below w.heap.size w w'
  top : (ok && fit) = topC op num n vars defs

set_option maxHeartbeats 400000 in
theorem fits_1 (n vars defs : Int) (w : World) : Calls Try.prog 127 #[.int .i64 n, .int .i64 vars, .int .i64 defs] w fun e w' => e = .returned (.bool (ownB 1 n vars defs)) ∧ Below w.heap.size w w' := by
  by_cases h0 : 0 ≤ n
  · go_enter Try.func127, Try.ntmps127
    go_wp2_with fail
    go_ret
    exact ⟨ret_bool (by simp [ownB, h0]), Below.refl _ _⟩
  · have h1 : decide (0 ≤ n) = false := by simpa using h0
    go_enter Try.func127, Try.ntmps127
    go_wp2_with fail
    go_ret
    exact ⟨ret_bool (by simp [ownB]; omega), Below.refl _ _⟩
theorem meth_1 (n : Int) (w : World) : (method 268 119 (.int .i64 n) "loop.example/graphreducer/impl.fits").run Try.prog w = .ok (127, .int .i64 n) w := by kernel_rfl
theorem enters_1 (args : Array Value) (w : World) : (callFunc 127 args).run Try.prog w = .ok (.enter 127 args) w := by kernel_rfl
theorem nodeAt_1 (vars defs op num : Int) (n : Nat) (h : op = 1) : NodeAt vars defs op num n 119 (.int .i64 num) 127 ((n : Int) == 0) (ownB op num vars defs) where
  node w := by rw [h]; exact nodeOf_1 num n w
  meth w := meth_1 _ w
  enters := enters_1
  fits _ w := by rw [h]; exact fits_1 _ _ _ w
  top := by unfold topC; rw [h, show arity 1 = 0 from rfl]; rfl

set_option maxHeartbeats 400000 in
theorem fits_2 (n vars defs : Int) (w : World) : Calls Try.prog 129 #[.int .i64 n, .int .i64 vars, .int .i64 defs] w fun e w' => e = .returned (.bool (ownB 2 n vars defs)) ∧ Below w.heap.size w w' := by
  by_cases h0 : 0 ≤ n
  · go_enter Try.func129, Try.ntmps129
    go_wp2_with fail
    go_ret
    exact ⟨ret_bool (by simp [ownB, h0]), Below.refl _ _⟩
  · have h1 : decide (0 ≤ n) = false := by simpa using h0
    go_enter Try.func129, Try.ntmps129
    go_wp2_with fail
    go_ret
    exact ⟨ret_bool (by simp [ownB]; omega), Below.refl _ _⟩
theorem meth_2 (n : Int) (w : World) : (method 268 120 (.int .i64 n) "loop.example/graphreducer/impl.fits").run Try.prog w = .ok (129, .int .i64 n) w := by kernel_rfl
theorem enters_2 (args : Array Value) (w : World) : (callFunc 129 args).run Try.prog w = .ok (.enter 129 args) w := by kernel_rfl
theorem nodeAt_2 (vars defs op num : Int) (n : Nat) (h : op = 2) : NodeAt vars defs op num n 120 (.int .i64 num) 129 ((n : Int) == 0) (ownB op num vars defs) where
  node w := by rw [h]; exact nodeOf_2 num n w
  meth w := meth_2 _ w
  enters := enters_2
  fits _ w := by rw [h]; exact fits_2 _ _ _ w
  top := by unfold topC; rw [h, show arity 2 = 0 from rfl]; rfl

set_option maxHeartbeats 400000 in
theorem fits_3 (n vars defs : Int) (w : World) : Calls Try.prog 131 #[.int .i64 n, .int .i64 vars, .int .i64 defs] w fun e w' => e = .returned (.bool (ownB 3 n vars defs)) ∧ Below w.heap.size w w' := by
  by_cases h0 : 0 ≤ n
  · go_enter Try.func131, Try.ntmps131
    go_wp2_with fail
    go_ret
    exact ⟨ret_bool (by simp [ownB, h0]), Below.refl _ _⟩
  · have h1 : decide (0 ≤ n) = false := by simpa using h0
    go_enter Try.func131, Try.ntmps131
    go_wp2_with fail
    go_ret
    exact ⟨ret_bool (by simp [ownB]; omega), Below.refl _ _⟩
theorem meth_3 (n : Int) (w : World) : (method 268 121 (.int .i64 n) "loop.example/graphreducer/impl.fits").run Try.prog w = .ok (131, .int .i64 n) w := by kernel_rfl
theorem enters_3 (args : Array Value) (w : World) : (callFunc 131 args).run Try.prog w = .ok (.enter 131 args) w := by kernel_rfl
theorem nodeAt_3 (vars defs op num : Int) (n : Nat) (h : op = 3) : NodeAt vars defs op num n 121 (.int .i64 num) 131 ((n : Int) == 0) (ownB op num vars defs) where
  node w := by rw [h]; exact nodeOf_3 num n w
  meth w := meth_3 _ w
  enters := enters_3
  fits _ w := by rw [h]; exact fits_3 _ _ _ w
  top := by unfold topC; rw [h, show arity 3 = 0 from rfl]; rfl

set_option maxHeartbeats 400000 in
theorem fits_o (k : Int) (m : ByteArray) (vars defs : Int) (w : World) : Calls Try.prog 133 #[.agg #[.int .i64 k, .string m], .int .i64 vars, .int .i64 defs] w fun e w' => e = .returned (.bool true) ∧ Below w.heap.size w w' := by
  go_enter Try.func133, Try.ntmps133
  go_wp2_with fail
  go_ret
  exact ⟨rfl, box_below _ _⟩
theorem meth_o (k : Int) (m : ByteArray) (w : World) : (method 268 123 (.agg #[.int .i64 k, .string m]) "loop.example/graphreducer/impl.fits").run Try.prog w = .ok (133, .agg #[.int .i64 k, .string m]) w := by kernel_rfl
theorem enters_o (args : Array Value) (w : World) : (callFunc 133 args).run Try.prog w = .ok (.enter 133 args) w := by kernel_rfl
theorem nodeAt_o (vars defs op num : Int) (n : Nat) (h1 : op ≠ 1) (h2 : op ≠ 2) (h3 : op ≠ 3) : NodeAt vars defs op num n 123 (.agg #[.int .i64 (opKids op), .string (opMarks op)]) 133 (opOk op && ((num == 0) && ((n : Int) == opKids op))) true where
  node w := nodeOf_op op num n w (by simpa using h1) (by simpa using h2) (by simpa using h3)
  meth w := meth_o _ _ w
  enters := enters_o
  fits _ w := fits_o _ _ _ _ w
  top := by
    unfold topC ownB
    rw [if_neg h1, if_neg h2, if_neg h3, Bool.and_true]
    by_cases hr : 4 ≤ op ∧ op ≤ 10
    · have e : opKids op = arity op := by
        have : op = 4 ∨ op = 5 ∨ op = 6 ∨ op = 7 ∨ op = 8 ∨ op = 9 ∨ op = 10 := by omega
        rcases this with h | h | h | h | h | h | h <;> rw [h] <;> rfl
      have e2 : opOk op = true := by unfold opOk; rw [decide_eq_true hr]
      rw [e, e2, Bool.true_and, Bool.and_comm]
      rfl
    · have e2 : opOk op = false := by unfold opOk; rw [decide_eq_false hr]
      have e3 : arity op = -1 := by
        unfold arity
        rw [if_neg (by omega), if_neg (by omega), if_neg (by omega), if_neg (by omega)]
      rw [e2, e3, Bool.false_and, decide_eq_false (by omega), Bool.false_and]
end Go.Proofs.Ytjdlfpdljmohiaa
/-
  THE PROGRAM's nodesLeft AND ExprValid: which trees they take for valid; nothing that was there is changed.
-/
namespace Go.Proofs.Ytjdlfpdljmohiaa
set_option linter.unusedVariables false
set_option linter.unusedSimpArgs false
open Go.RowKit

def NlSaid (vars defs : Int) (d : Nat) (t : Tr) : Prop := ∀ (c : Value) (nodes : Int) (w : World), In w t.kids c → 0 ≤ nodes → nodes ≤ 1000 →
  Calls Try.prog 52 #[.agg #[.int .i64 t.op, .int .i64 t.num, c], .int .i64 vars, .int .i64 defs, .int .i64 (d : Int), .int .i64 nodes] w fun e w' => e = .returned (.int .i64 (nlOut vars defs d t nodes)) ∧ Below w.heap.size w w'

theorem nlOut_bad (vars defs : Int) (d : Nat) (t : Tr) (nodes : Int) (h : topB t vars defs = false) : nlOut vars defs d t nodes = -1 := by
  unfold nlOut
  rw [if_neg]
  rintro ⟨h1, _⟩
  cases d with
  | zero => simp [shB] at h1
  | succ d =>
    simp only [shB, Bool.and_eq_true] at h1
    simp only [topB, topC] at h
    rw [h1.1.1, h1.1.2] at h
    simp at h
theorem nlOut_zero (vars defs : Int) (t : Tr) (nodes : Int) : nlOut vars defs 0 t nodes = -1 := by
  unfold nlOut; rw [if_neg]; rintro ⟨h1, _⟩; simp [shB] at h1
theorem nlOut_none (vars defs : Int) (d : Nat) (t : Tr) : nlOut vars defs d t 0 = -1 := by
  unfold nlOut; rw [if_neg]; rintro ⟨_, h⟩; omega

/-- what is left behind the first k operands -/
def nlAt (t : Tr) (nodes : Int) (k : Nat) : Int := nodes - 1 - szL (t.kids.take k)
theorem nlOut_kid (vars defs : Int) (d : Nat) (t : Tr) (nodes : Int) (k : Nat) (hk : k < t.kids.length) (h : 0 ≤ nlOut vars defs d t.kids[k] (nlAt t nodes k)) :
    nlOut vars defs d t.kids[k] (nlAt t nodes k) = nlAt t nodes (k + 1) ∧ shB vars defs d t.kids[k] = true := by
  have e := szL_take_succ t.kids k hk
  unfold nlOut at h ⊢
  split at h
  · rename_i h1
    rw [if_pos h1]
    unfold nlAt
    rw [e]
    exact ⟨by omega, h1.1⟩
  · omega
theorem nlOut_kid_bad (vars defs : Int) (d : Nat) (t : Tr) (nodes : Int) (k : Nat) (hk : k < t.kids.length) (h : nlOut vars defs d t.kids[k] (nlAt t nodes k) < 0) (h0 : 0 ≤ nlAt t nodes k) : nlOut vars defs (d + 1) t nodes = -1 := by
  have e := szL_take_succ t.kids k hk
  have e2 := szL_take_le t.kids (k + 1)
  unfold nlOut
  rw [if_neg]
  rintro ⟨h1, h2⟩
  simp only [shB, Bool.and_eq_true, List.all_eq_true] at h1
  have h3 := h1.2 _ (List.getElem_mem hk)
  unfold nlOut at h
  rw [if_pos] at h
  · rw [szT_eq t] at h2; unfold nlAt at *; omega
  · refine ⟨h3, ?_⟩
    rw [szT_eq t] at h2; unfold nlAt; omega
theorem nlOut_end (vars defs : Int) (d : Nat) (t : Tr) (nodes : Int) (ht : topB t vars defs = true) (ha : (t.kids.take t.kids.length).all (shB vars defs d) = true) (h0 : 0 ≤ nlAt t nodes t.kids.length) : nlOut vars defs (d + 1) t nodes = nlAt t nodes t.kids.length := by
  rw [List.take_length] at ha
  unfold nlAt at *
  rw [List.take_length] at *
  unfold nlOut
  rw [if_pos, szT_eq]
  · omega
  · refine ⟨?_, by rw [szT_eq]; omega⟩
    simp only [topB, topC, Bool.and_eq_true] at ht
    simp only [shB, ha, ht.1, ht.2, Bool.and_true]
theorem nlOut_range (vars defs : Int) (d : Nat) (t : Tr) (nodes : Int) (h : 0 ≤ nodes) : -1 ≤ nlOut vars defs d t nodes ∧ nlOut vars defs d t nodes ≤ nodes := by
  unfold nlOut; split <;> omega

set_option maxRecDepth 100000 in
set_option maxHeartbeats 800000 in
/-- the node is not right at its top, or nothing is left -/
theorem nl_leave (vars defs : Int) (d : Nat) (t : Tr) (T : TypeId) (x : Value) (K : FuncId) (ok fit : Bool) (hn : NodeAt vars defs t.op t.num t.kids.length T x K ok fit) (ad : Option Addr) (cap : Nat) (nodes : Int) (w : World)
    (h : topB t vars defs = false ∨ d = 0 ∨ nodes = 0) :
    Calls Try.prog 52 #[.agg #[.int .i64 t.op, .int .i64 t.num, .slice ad t.kids.length cap], .int .i64 vars, .int .i64 defs, .int .i64 (d : Int), .int .i64 nodes] w fun e w' => e = .returned (.int .i64 (nlOut vars defs d t nodes)) ∧ Below w.heap.size w w' := by
  have HV : Hid (nlOut vars defs d t nodes = -1) := by
    rcases h with h | rfl | rfl
    · exact nlOut_bad _ _ _ _ _ h
    · exact nlOut_zero _ _ _ _
    · exact nlOut_none _ _ _ _
  have HN : Hid (NodeAt vars defs t.op t.num t.kids.length T x K ok fit) := hn
  have hme := hn.meth
  have hen := hn.enters
  have htop : (ok && fit) = topB t vars defs := hn.top
  clear hn
  cases hok : ok with
  | false =>
    clear htop h
    subst hok
    clear hme hen
    go_enter Try.func52, Try.ntmps52
    go_wp2_with fail
    refine (HN.out.node _).mono ?_
    rintro e w1 ⟨rfl, hb⟩
    have HB : Hid (Below w.heap.size w w1) := (box_below _ _).trans (hb.mono (by rw [Deep.nblk_alloc]; omega))
    clear hb
    go_wp2_with fail
    go_ret
    exact ⟨ret_int HV.out.symm, HB.out⟩
  | true =>
    subst hok
    rw [Bool.true_and] at htop
    rw [← htop] at h
    clear htop
    cases hfit : fit with
    | false =>
      subst hfit
      clear h
      go_enter Try.func52, Try.ntmps52
      go_wp2_with fail
      refine (HN.out.node _).mono ?_
      rintro e w1 ⟨rfl, hb⟩
      have HB : Hid (Below w.heap.size w w1) := (box_below _ _).trans (hb.mono (by rw [Deep.nblk_alloc]; omega))
      clear hb
      go_wp2_with fail
      refine (HN.out.fits rfl _).mono ?_
      rintro e w2 ⟨rfl, hb⟩
      have HB2 : Hid (Below w.heap.size w w2) := HB.out.trans (hb.mono HB.out.size)
      clear hb
      go_wp2_with fail
      go_ret
      exact ⟨ret_int HV.out.symm, HB2.out⟩
    | true =>
      subst hfit
      by_cases hd : d = 0
      · subst hd
        clear h
        have hd' : (((0 : Nat) : Int) == 0) = true := rfl
        go_enter Try.func52, Try.ntmps52
        go_wp2_with fail
        refine (HN.out.node _).mono ?_
        rintro e w1 ⟨rfl, hb⟩
        have HB : Hid (Below w.heap.size w w1) := (box_below _ _).trans (hb.mono (by rw [Deep.nblk_alloc]; omega))
        clear hb
        go_wp2_with fail
        refine (HN.out.fits rfl _).mono ?_
        rintro e w2 ⟨rfl, hb⟩
        have HB2 : Hid (Below w.heap.size w w2) := HB.out.trans (hb.mono HB.out.size)
        clear hb
        go_wp2_with fail
        go_ret
        exact ⟨ret_int HV.out.symm, HB2.out⟩
      · have hn0 : nodes = 0 := by
          rcases h with h | h | h
          · simp at h
          · exact absurd h hd
          · exact h
        subst hn0
        clear h
        have hd' : ((d : Int) == 0) = false := by simpa using hd
        go_enter Try.func52, Try.ntmps52
        go_wp2_with fail
        refine (HN.out.node _).mono ?_
        rintro e w1 ⟨rfl, hb⟩
        have HB : Hid (Below w.heap.size w w1) := (box_below _ _).trans (hb.mono (by rw [Deep.nblk_alloc]; omega))
        clear hb
        go_wp2_with fail
        refine (HN.out.fits rfl _).mono ?_
        rintro e w2 ⟨rfl, hb⟩
        have HB2 : Hid (Below w.heap.size w w2) := HB.out.trans (hb.mono HB.out.size)
        clear hb
        go_wp2_with fail
        go_ret
        exact ⟨ret_int HV.out.symm, HB2.out⟩

set_option maxRecDepth 100000 in
set_option maxHeartbeats 800000 in
/-- the node is right at its top, and something is left: its operands -/
theorem nl_go (vars defs : Int) (d : Nat) (t : Tr) (T : TypeId) (x : Value) (K : FuncId) (ok fit : Bool) (hn : NodeAt vars defs t.op t.num t.kids.length T x K ok fit) (c : Value) (nodes : Int) (w : World)
    (ih : ∀ i (hi : i < t.kids.length), NlSaid vars defs d (t.kids[i])) (hk : In w t.kids c) (ht : topB t vars defs = true) (h0 : 0 < nodes) (h1 : nodes ≤ 1000) (hd : d ≤ 100) :
    Calls Try.prog 52 #[.agg #[.int .i64 t.op, .int .i64 t.num, c], .int .i64 vars, .int .i64 defs, .int .i64 ((d + 1 : Nat) : Int), .int .i64 nodes] w fun e w' => e = .returned (.int .i64 (nlOut vars defs (d + 1) t nodes)) ∧ Below w.heap.size w w' := by
  have HI : Hid (∀ i (hi : i < t.kids.length), NlSaid vars defs d (t.kids[i])) := ih
  have HK : Hid (In w t.kids c) := hk
  have HT : Hid (topB t vars defs = true) := ht
  have HN : Hid (NodeAt vars defs t.op t.num t.kids.length T x K ok fit) := hn
  have hme := hn.meth
  have hen := hn.enters
  have htop : (ok && fit) = topB t vars defs := hn.top
  rw [ht, Bool.and_eq_true] at htop
  obtain ⟨rfl, rfl⟩ := htop
  clear hn ih ht
  obtain ⟨ad, cap, rfl, hl, hm, -⟩ := hk
  unfold maxLen at hm
  have d1 : ((d : Int) + 1 == 0) = false := by simp; omega
  have n1 : (nodes == 0) = false := by simp; omega
  go_enter Try.func52, Try.ntmps52
  go_wp2_with fail
  refine (HN.out.node _).mono ?_
  rintro e w1 ⟨rfl, hb⟩
  have HB : Hid (Below w.heap.size w w1) := (box_below _ _).trans (hb.mono (by rw [Deep.nblk_alloc]; omega))
  have hz : w.heap.size < w1.heap.size := by have := hb.size; rw [Deep.nblk_alloc] at this; omega
  have c2 := (hb.cell (p := ⟨w.heap.size, 2, none⟩) (by rw [Deep.nblk_alloc]; exact Nat.lt_succ_self _)).trans (box_cell w #[.int .i64 t.op, .int .i64 t.num, .slice ad t.kids.length cap] 30 2 _ rfl)
  have C2 : Hid (w1.cell? ⟨w.heap.size, 2, none⟩ = some (.slice ad t.kids.length cap)) := c2
  clear hb c2
  go_wp2_with fail
  refine (HN.out.fits rfl _).mono ?_
  rintro e w2 ⟨rfl, hb⟩
  have HB2 : Hid (Below w.heap.size w w2) := HB.out.trans (hb.mono HB.out.size)
  have c2 := (hb.cell (p := ⟨w.heap.size, 2, none⟩) hz).trans C2.out
  clear hb hme hen
  go_wp2_with fail
  clear c2
  go_loopw [4, 48] (fun n i wr => ∃ k : Nat, k ≤ t.kids.length ∧ i = .int .i64 k ∧ n = .int .i64 (nlAt t nodes k) ∧ 0 ≤ nlAt t nodes k ∧ (t.kids.take k).all (shB vars defs d) = true ∧ Below w.heap.size w wr) (fun _ i _ => t.kids.length - (intOf i).toNat)
  case atStart => exact ⟨0, Nat.zero_le _, rfl, by simp [nlAt, szL], by simp [nlAt, szL]; omega, by simp, HB2.out⟩
  case round =>
    obtain ⟨k, hk, rfl, rfl, hpos, hall, hb⟩ := hrel
    have HA : Hid ((t.kids.take k).all (shB vars defs d) = true) := hall
    have HBW : Hid (Below w.heap.size w wr) := hb
    have hle : nlAt t nodes k ≤ nodes := by unfold nlAt; omega
    clear hall
    by_cases hlt : k < t.kids.length
    · have hrow' := HK.out.next hb
      clear hb
      obtain ⟨ad', cap', he, -, -, hr⟩ := hrow'
      cases he
      rcases hr with hnil | ⟨bl, off, rfl, -, hr⟩
      · rw [hnil] at hlt; simp at hlt
      obtain ⟨p, q, r, e0, e1, e2, ht⟩ := RowOn.at t.kids off k hlt hr
      obtain ⟨rfl, rfl, -, -, hkk⟩ := trOn_iff.1 ht
      obtain ⟨ad2, cap2, rfl, -, -, -⟩ := id hkk
      have HKK : Hid (In wr t.kids[k].kids (.slice ad2 t.kids[k].kids.length cap2)) := hkk
      clear hkk ht hr
      go_wp2_with fail
      refine (HI.out k hlt (.slice ad2 t.kids[k].kids.length cap2) _ _ ?_ hpos (by omega)).mono ?_
      · exact HKK.out.next (box_below _ _)
      rintro e w3 ⟨rfl, hb3⟩
      have HB3 : Hid (Below w.heap.size w w3) := HBW.out.trans (((box_below _ _).trans (hb3.mono (by rw [Deep.nblk_alloc]; omega))).mono HBW.out.size)
      clear hb3
      have hrg := nlOut_range vars defs d t.kids[k] (nlAt t nodes k) hpos
      by_cases hneg : nlOut vars defs d t.kids[k] (nlAt t nodes k) < 0
      · have HV : Hid (nlOut vars defs (d + 1) t nodes = -1) := nlOut_kid_bad vars defs d t nodes k hlt hneg hpos
        go_wp2_with fail
        go_ret
        exact ⟨ret_int HV.out.symm, HB3.out⟩
      · have hkid := nlOut_kid vars defs d t nodes k hlt (by omega)
        have HV : Hid (nlOut vars defs d t.kids[k] (nlAt t nodes k) = nlAt t nodes (k + 1)) := hkid.1
        have HA2 : Hid ((t.kids.take (k + 1)).all (shB vars defs d) = true) := by rw [Hid, all_take_succ _ _ _ hlt, HA.out, hkid.2]; rfl
        have hnn : 0 ≤ nlAt t nodes (k + 1) := by rw [← HV.out]; omega
        clear hkid
        go_wp2_with fail
        go_roundw
        case rel => exact ⟨k + 1, by omega, by go_num, by rw [HV.out], hnn, HA2.out, HB3.out⟩
        case measure => simp [intOf]; omega
    · have hke : t.kids.length = k := by omega
      have HV : Hid (nlOut vars defs (d + 1) t nodes = nlAt t nodes k) := by
        have h2 := HA.out
        rw [← hke] at hpos h2 ⊢
        exact nlOut_end vars defs d t nodes HT.out h2 hpos
      clear hke hb
      go_wp2_with fail
      go_ret
      exact ⟨ret_int HV.out.symm, HBW.out⟩
theorem nl_step (vars defs : Int) (d : Nat) (t : Tr) (hd : d ≤ 100) (ih : ∀ i (hi : i < t.kids.length), ∀ d', d' < d → NlSaid vars defs d' (t.kids[i])) : NlSaid vars defs d t := by
  intro c nodes w hk h0 h1
  have key : ∀ (T : TypeId) (x : Value) (K : FuncId) (ok fit : Bool), NodeAt vars defs t.op t.num t.kids.length T x K ok fit →
      Calls Try.prog 52 #[.agg #[.int .i64 t.op, .int .i64 t.num, c], .int .i64 vars, .int .i64 defs, .int .i64 (d : Int), .int .i64 nodes] w fun e w' => e = .returned (.int .i64 (nlOut vars defs d t nodes)) ∧ Below w.heap.size w w' := by
    intro T x K ok fit hn
    by_cases hl : topB t vars defs = false ∨ d = 0 ∨ nodes = 0
    · obtain ⟨ad, cap, rfl, -, -, -⟩ := hk
      exact nl_leave vars defs d t T x K ok fit hn ad cap nodes w hl
    · simp only [not_or, Bool.not_eq_false] at hl
      obtain ⟨e, rfl⟩ : ∃ e, d = e + 1 := ⟨d - 1, by omega⟩
      exact nl_go vars defs e t T x K ok fit hn c nodes w (fun i hi => ih i hi e (by omega)) hk hl.1 (by omega) h1 (by omega)
  by_cases e1 : t.op = 1
  · exact key _ _ _ _ _ (nodeAt_1 vars defs t.op t.num t.kids.length e1)
  by_cases e2 : t.op = 2
  · exact key _ _ _ _ _ (nodeAt_2 vars defs t.op t.num t.kids.length e2)
  by_cases e3 : t.op = 3
  · exact key _ _ _ _ _ (nodeAt_3 vars defs t.op t.num t.kids.length e3)
  exact key _ _ _ _ _ (nodeAt_o vars defs t.op t.num t.kids.length e1 e2 e3)

theorem nl_any (vars defs : Int) : ∀ (d : Nat) (t : Tr), d ≤ 100 → NlSaid vars defs d t := by
  intro d
  induction d using Nat.strongRecOn with
  | ind d ih => intro t h; exact nl_step vars defs d t h fun i hi d' hd' => ih d' hd' _ (by omega)

set_option maxHeartbeats 400000 in
/-- THE PROGRAM's ExprValid -/
theorem implValid_calls (t : Tr) (vars defs : Int) (c : Value) (w : World) (hk : In w t.kids c) : Calls Try.prog 25 #[.agg #[.int .i64 t.op, .int .i64 t.num, c], .int .i64 vars, .int .i64 defs] w fun e w' => e = .returned (.bool (validB t vars defs)) ∧ Below w.heap.size w w' := by
  have HK : Hid (In w t.kids c) := hk
  clear hk
  have HBX : Hid (Below w.heap.size w (w.alloc (.cells #[.int .i64 t.op, .int .i64 t.num, c] 30))) := box_below _ _
  by_cases hv0 : 0 ≤ vars
  · by_cases hv4 : vars ≤ 4
    · by_cases hd0 : 0 ≤ defs
      · by_cases hd6 : defs ≤ 6
        · have HV : Hid (validB t vars defs = decide (0 ≤ nlOut vars defs 16 t 60)) := by
            simp only [Hid, validB]
            rw [decide_eq_true (show 0 ≤ vars ∧ vars ≤ 4 ∧ 0 ≤ defs ∧ defs ≤ 6 from ⟨hv0, hv4, hd0, hd6⟩), Bool.true_and]
            unfold nlOut
            cases hs : shB vars defs 16 t with
            | false => simp
            | true =>
              simp only [true_and, Bool.true_and]
              rw [decide_eq_decide]
              split <;> omega
          have hrg := nlOut_range vars defs 16 t 60 (by omega)
          go_enter Try.func25, Try.ntmps25
          go_wp2_with fail
          refine (nl_any vars defs 16 t (by omega) c _ _ (HK.out.next HBX.out) (by omega) (by omega)).mono ?_
          rintro e w2 ⟨rfl, hb2⟩
          have HB2 : Hid (Below w.heap.size w w2) := HBX.out.trans (hb2.mono HBX.out.size)
          clear hb2
          go_wp2_with fail
          go_ret
          exact ⟨ret_bool HV.out.symm, HB2.out⟩
        · have HV : Hid (validB t vars defs = false) := by
            simp only [Hid, validB]
            rw [decide_eq_false (show ¬ (0 ≤ vars ∧ vars ≤ 4 ∧ 0 ≤ defs ∧ defs ≤ 6) by omega), Bool.false_and]
          go_enter Try.func25, Try.ntmps25
          go_wp2_with fail
          go_ret
          exact ⟨ret_bool HV.out.symm, HBX.out⟩
      · have HV : Hid (validB t vars defs = false) := by
          simp only [Hid, validB]
          rw [decide_eq_false (show ¬ (0 ≤ vars ∧ vars ≤ 4 ∧ 0 ≤ defs ∧ defs ≤ 6) by omega), Bool.false_and]
        go_enter Try.func25, Try.ntmps25
        go_wp2_with fail
        go_ret
        exact ⟨ret_bool HV.out.symm, HBX.out⟩
    · have HV : Hid (validB t vars defs = false) := by
        simp only [Hid, validB]
        rw [decide_eq_false (show ¬ (0 ≤ vars ∧ vars ≤ 4 ∧ 0 ≤ defs ∧ defs ≤ 6) by omega), Bool.false_and]
      go_enter Try.func25, Try.ntmps25
      go_wp2_with fail
      go_ret
      exact ⟨ret_bool HV.out.symm, HBX.out⟩
  · have HV : Hid (validB t vars defs = false) := by
      simp only [Hid, validB]
      rw [decide_eq_false (show ¬ (0 ≤ vars ∧ vars ≤ 4 ∧ 0 ≤ defs ∧ defs ≤ 6) by omega), Bool.false_and]
    go_enter Try.func25, Try.ntmps25
    go_wp2_with fail
    go_ret
    exact ⟨ret_bool HV.out.symm, HBX.out⟩
end Go.Proofs.Ytjdlfpdljmohiaa
/-
  THE MODEL's AND THE PROGRAM's ProgramValid: which programs they take for valid; nothing that was there is changed.
-/
namespace Go.Proofs.Ytjdlfpdljmohiaa
set_option linter.unusedVariables false
set_option linter.unusedSimpArgs false
open Go.RowKit

/-- a valid program -/
def progB (ds : List Df) : Bool := decide (ds.length ≤ 6) && ds.all fun d => validB d.2 d.1 ds.length

theorem progB_long (ds : List Df) (h : 6 < ds.length) : progB ds = false := by unfold progB; rw [decide_eq_false (by omega), Bool.false_and]
theorem progB_bad (ds : List Df) (k : Nat) (hk : k < ds.length) (h : validB ds[k].2 ds[k].1 ds.length = false) : progB ds = false := by
  unfold progB
  rw [Bool.and_eq_false_iff]
  right
  rw [List.all_eq_false]
  exact ⟨ds[k], List.getElem_mem hk, by simp [h]⟩
theorem progB_end (ds : List Df) (h : ds.length ≤ 6) (ha : (ds.take ds.length).all (fun d => validB d.2 d.1 ds.length) = true) : progB ds = true := by
  rw [List.take_length] at ha
  unfold progB
  rw [ha, decide_eq_true h]; rfl
theorem all_take_succ' {α : Type} (p : α → Bool) (l : List α) (i : Nat) (h : i < l.length) : (l.take (i + 1)).all p = ((l.take i).all p && p l[i]) := by
  rw [List.take_succ_eq_append_getElem h, List.all_append]; simp
theorem validB_is (t : Tr) (v d : Int) (h : 0 ≤ v ∧ v ≤ 4 ∧ 0 ≤ d ∧ d ≤ 6) : validB t v d = isB t v d := by
  simp only [validB, isB]
  rw [decide_eq_true h, Bool.true_and]
  congr 1
  rw [decide_eq_decide]
  omega
theorem validB_no (t : Tr) (v d : Int) (h : ¬ (0 ≤ v ∧ v ≤ 4 ∧ 0 ≤ d ∧ d ≤ 6)) : validB t v d = false := by
  simp only [validB]; rw [decide_eq_false h, Bool.false_and]

theorem is_val (b : Bool) (t : Tr) (vars defs : Int) (c : Value) (W : World) (hk : In W t.kids c) (h : isB t vars defs = b) : Calls Try.prog 88 #[.agg #[.int .i64 t.op, .int .i64 t.num, c], .int .i64 vars, .int .i64 defs] W fun e w' => e = .returned (.bool b) ∧ Below W.heap.size W w' := by
  have := l1Is_calls t vars defs c W hk; rwa [h] at this

theorem is_quiet (b : Bool) (t : Tr) (vars defs : Int) (c : Value) (wr : World) (hk : In wr t.kids c) (h : isB t vars defs = b) (dq : Nat) (osq : Array Obj) :
    Calls Try.prog 88 #[.agg #[.int .i64 t.op, .int .i64 t.num, c], .int .i64 vars, .int .i64 defs] (Sort.grow (redrawn wr dq) osq) fun e w'' => e = .returned (.bool b) ∧ ∃ p : Regrown, w'' = Sort.grow (redrawn wr p.d) p.os :=
  quietB (fun W hW => is_val b t vars defs c W (hk.next hW) h) dq osq

set_option maxRecDepth 100000 in
set_option maxHeartbeats 800000 in
theorem specProg_calls (ds : List Df) (c : Value) (w : World) (hk : DIn w ds c) : Calls Try.prog 99 #[c] w fun e w' => e = .returned (.bool (progB ds)) ∧ Below w.heap.size w w' := by
  have HK : Hid (DIn w ds c) := hk
  obtain ⟨ad, cap, rfl, hl, hm, -⟩ := hk
  unfold maxLen at hm
  go_enter Try.func99, Try.ntmps99
  go_wp2_with fail
  go_loopw [3] (fun i wr => ∃ k : Nat, k ≤ ds.length ∧ i = .int .i64 k ∧ (ds.take k).all (fun d => validB d.2 d.1 ds.length || decide (6 < ds.length)) = true ∧ Below w.heap.size w wr) (fun i _ => ds.length - (intOf i).toNat)
  case atStart => exact ⟨0, Nat.zero_le _, rfl, by simp, Below.refl _ _⟩
  case round =>
    obtain ⟨k, hk, rfl, hall, hb⟩ := hrel
    have HA : Hid ((ds.take k).all (fun d => validB d.2 d.1 ds.length || decide (6 < ds.length)) = true) := hall
    have HBW : Hid (Below w.heap.size w wr) := hb
    clear hall
    by_cases hlt : k < ds.length
    · by_cases h6 : (k : Int) ≤ 6
      · obtain ⟨bl, off, r, rfl, c0, c1, c2, c3, -, -, -, hkk⟩ := (HK.out.next hb).at k hlt
        have HKK : Hid (In wr ds[k].2.kids r) := hkk
        clear hkk hb
        have k0 := cell_regrown c0
        have k1 := cell_regrown c1
        have k2 := cell_regrown c2
        have k3 := cell_regrown c3
        by_cases ha0 : ds[k].1 < 0
        · have hd0 : decide (ds[k].1 < 0) = true := by simpa using ha0
          have HV : Hid (progB ds = false) := progB_bad ds k hlt (validB_no _ _ _ (by omega))
          go_wp2_with fail
          refine wp_region_quiet_below (by kernel_rfl) (by kernel_rfl) ?_
          repeat (any_goals (first | go_big_quiet_step (fail) | quiet_step (fail)))
          refine wpQuiet_nil ?_
          intro _ hw'
          obtain ⟨⟨dq, osq⟩, hw''⟩ := hw'
          subst hw''
          clear k0 k1 k2 k3
          go_wp2_with fail
          go_ret
          exact ⟨ret_bool HV.out.symm, HBW.out.trans ((below_regrown _ _ _).mono HBW.out.size)⟩
        · have hd0 : decide (ds[k].1 < 0) = false := by simpa using ha0
          by_cases ha4 : 4 < ds[k].1
          · have hd4 : decide (4 < ds[k].1) = true := by simpa using ha4
            have HV : Hid (progB ds = false) := progB_bad ds k hlt (validB_no _ _ _ (by omega))
            go_wp2_with fail
            refine wp_region_quiet_below (by kernel_rfl) (by kernel_rfl) ?_
            repeat (any_goals (first | go_big_quiet_step (fail) | quiet_step (fail)))
            refine wpQuiet_nil ?_
            intro _ hw'
            obtain ⟨⟨dq, osq⟩, hw''⟩ := hw'
            subst hw''
            clear k0 k1 k2 k3
            go_wp2_with fail
            go_ret
            exact ⟨ret_bool HV.out.symm, HBW.out.trans ((below_regrown _ _ _).mono HBW.out.size)⟩
          · have hd4 : decide (4 < ds[k].1) = false := by simpa using ha4
            cases hib : isB ds[k].2 ds[k].1 ds.length with
            | false =>
              have HC : Hid (∀ (dq : Nat) (osq : Array Obj), Calls Try.prog 88 #[.agg #[.int .i64 ds[k].2.op, .int .i64 ds[k].2.num, r], .int .i64 ds[k].1, .int .i64 (ds.length : Int)] (Sort.grow (redrawn wr dq) osq) fun e w'' => e = .returned (.bool false) ∧ ∃ p : Regrown, w'' = Sort.grow (redrawn wr p.d) p.os) :=
                fun dq osq => is_quiet false ds[k].2 ds[k].1 ds.length r wr HKK.out hib dq osq
              have HV : Hid (progB ds = false) := by
                by_cases hl6 : 6 < ds.length
                · exact progB_long ds hl6
                · exact progB_bad ds k hlt (by rw [validB_is _ _ _ (by omega)]; exact hib)
              go_wp2_with fail
              refine wp_region_quiet_below (by kernel_rfl) (by kernel_rfl) ?_
              repeat (any_goals (first | go_big_quiet_step ((go_at_call 88; go_must (exact HC.out _ _))) | quiet_step ((go_at_call 88; go_must (exact HC.out _ _)))))
              refine wpQuiet_nil ?_
              intro _ hw'
              obtain ⟨⟨dq, osq⟩, hw''⟩ := hw'
              subst hw''
              clear k0 k1 k2 k3
              go_wp2_with fail
              go_ret
              exact ⟨ret_bool HV.out.symm, HBW.out.trans ((below_regrown _ _ _).mono HBW.out.size)⟩
            | true =>
              have HC : Hid (∀ (dq : Nat) (osq : Array Obj), Calls Try.prog 88 #[.agg #[.int .i64 ds[k].2.op, .int .i64 ds[k].2.num, r], .int .i64 ds[k].1, .int .i64 (ds.length : Int)] (Sort.grow (redrawn wr dq) osq) fun e w'' => e = .returned (.bool true) ∧ ∃ p : Regrown, w'' = Sort.grow (redrawn wr p.d) p.os) :=
                fun dq osq => is_quiet true ds[k].2 ds[k].1 ds.length r wr HKK.out hib dq osq
              have HV : Hid ((ds.take (k + 1)).all (fun d => validB d.2 d.1 ds.length || decide (6 < ds.length)) = true) := by
                rw [Hid, all_take_succ' _ _ _ hlt, HA.out, Bool.true_and]
                by_cases hl6 : 6 < ds.length
                · simp [hl6]
                · rw [validB_is _ _ _ (by omega), hib, Bool.true_or]
              go_wp2_with fail
              refine wp_region_quiet_below (by kernel_rfl) (by kernel_rfl) ?_
              repeat (any_goals (first | go_big_quiet_step ((go_at_call 88; go_must (exact HC.out _ _))) | quiet_step ((go_at_call 88; go_must (exact HC.out _ _)))))
              refine wpQuiet_nil ?_
              intro _ hw'
              obtain ⟨⟨dq, osq⟩, hw''⟩ := hw'
              subst hw''
              clear k0 k1 k2 k3
              have HB2 : Hid (Below w.heap.size w (Sort.grow (redrawn wr dq) osq)) := HBW.out.trans ((below_regrown _ _ _).mono HBW.out.size)
              clear hib
              go_wp2_with fail
              go_roundw
              case rel => exact ⟨k + 1, by omega, by go_num, HV.out, HB2.out⟩
              case measure => simp [intOf]; omega
      · have HV : Hid (progB ds = decide (ds.length ≤ 6)) := by
          rw [Hid, progB_long ds (by omega), decide_eq_false (by omega)]
        have hd6 : decide ((k : Int) ≤ 6) = false := by simpa using h6
        clear hb
        go_wp2_with fail
        go_ret
        exact ⟨ret_bool (by rw [HV.out, decide_eq_decide]; omega), HBW.out⟩
    · have HV : Hid (progB ds = decide (ds.length ≤ 6)) := by
        have hke : ds.length = k := by omega
        by_cases hl6 : 6 < ds.length
        · rw [Hid, progB_long ds hl6, decide_eq_false (by omega)]
        · rw [Hid, progB_end ds (by omega) _, decide_eq_true (by omega)]
          have h2 := HA.out
          rw [← hke] at h2
          simpa [hl6] using h2
      clear hb
      go_wp2_with fail
      go_ret
      exact ⟨ret_bool (by rw [HV.out, decide_eq_decide]; omega), HBW.out⟩

end Go.Proofs.Ytjdlfpdljmohiaa
/-
  THE MODEL's l1Program.
-/
namespace Go.Proofs.Ytjdlfpdljmohiaa
set_option linter.unusedVariables false
set_option linter.unusedSimpArgs false
open Go.RowKit

/-- a program's text, from a place on -/
def progT : Nat → List Df → List UInt8
  | _, [] => []
  | i, d :: ds => [byt (65 + i)] ++ decT d.1.toNat ++ [61] ++ textT d.2 ++ [10] ++ progT (i + 1) ds
def decB (n : Nat) : ByteArray := ⟨(decT n).toArray⟩
theorem app_mk (a b : List UInt8) : (⟨a.toArray⟩ : ByteArray) ++ ⟨b.toArray⟩ = ⟨(a ++ b).toArray⟩ := by rw [ByteArray.mk_append_mk]; first | done | simp

set_option maxRecDepth 100000 in
set_option maxHeartbeats 3200000 in
theorem l1Program_calls (ds : List Df) (v : Value) (w : World) (hk : DIn w ds v) (hp : progB ds = true) :
    Calls Try.prog 100 #[v] w fun e w' => e = .returned (.string ⟨(progT 0 ds).toArray⟩) ∧ Below w.heap.size w w' := by
  have hp6 : ds.length ≤ 6 := by by_cases h : ds.length ≤ 6; exact h; rw [progB_long ds (by omega)] at hp; exact absurd hp (by decide)
  have HVD : Hid (∀ d ∈ ds, validB d.2 d.1 ds.length = true) := by
    unfold progB at hp
    rw [Bool.and_eq_true, List.all_eq_true] at hp
    exact hp.2
  have HK := mkHid hk
  obtain ⟨ad, cap, rfl, hlc, hcm, -⟩ := id hk
  unfold maxLen at hcm
  obtain ⟨r, hr⟩ : ∃ r, r = progT 0 ds := ⟨_, rfl⟩
  rw [← hr]
  have HR := mkHid hr
  obtain ⟨n, hn⟩ : ∃ n, n = ds.length := ⟨_, rfl⟩
  have HN := mkHid hn
  rw [← hn] at HK hlc hp6 HVD ⊢
  clear hk hr hp hn
  go_enter Try.func100, Try.ntmps100
  go_wp2_with fail
  go_loopw [3, 4] (fun sv iv wr => ∃ (i : Nat) (S : ByteArray) (L : List UInt8), i ≤ n ∧ sv = .string S ∧ iv = .int .i64 (i : Int) ∧ S.size ≤ i * 300 ∧ Hid (S = ⟨L.toArray⟩) ∧ Hid (r = L ++ progT i (ds.drop i)) ∧ Hid (Below w.heap.size w wr)) (fun _ iv _ => n - (intOf iv).toNat)
  case atStart => exact ⟨0, ⟨#[]⟩, [], Nat.zero_le _, rfl, rfl, Nat.zero_le _, rfl, HR.out, Below.refl _ _⟩
  case round =>
    obtain ⟨i, S, L, hi, rfl, rfl, hsz, HS, HRR, HB⟩ := hrel
    by_cases hlt : i < n
    · have hid : i < ds.length := by rw [← HN.out]; exact hlt
      obtain ⟨bl, off, c, rfl, k0, k1, k2, k3, hI0, hI1, hI2, hIK⟩ := (DefsOn.next HK.out HB.out).at i hid
      have hvd : validB ds[i].2 ds[i].1 n = true := HVD.out _ (List.getElem_mem hid)
      have hsm : szT ds[i].2 ≤ 60 ∧ 0 ≤ ds[i].1 ∧ ds[i].1 ≤ 4 := by
        unfold validB at hvd
        simp only [Bool.and_eq_true, decide_eq_true_eq] at hvd
        omega
      have hsh := ShE.of_valid hvd
      obtain ⟨A, hA⟩ : ∃ A : Nat, ds[i].1 = (A : Int) := ⟨ds[i].1.toNat, by omega⟩
      obtain ⟨D, hD⟩ : ∃ D, D = decB A := ⟨_, rfl⟩
      obtain ⟨T, hT⟩ : ∃ T, T = textB ds[i].2 := ⟨_, rfl⟩
      obtain ⟨B1, hB1⟩ : ∃ B1 : ByteArray, B1 = ⟨#[byt (65 + i)]⟩ := ⟨_, rfl⟩
      have hA4 : A ≤ 4 := by omega
      have hDs : D.size ≤ 3 := by rw [hD]; show (decT A).toArray.size ≤ 3; rw [List.size_toArray]; exact decT_len A (by omega)
      have hTs : T.size ≤ 250 := by rw [hT, textB_size]; have := textT_len _ _ (Nat.le_refl _) hsh; omega
      have hBs : B1.size = 1 := by rw [hB1]; rfl
      have H1 : Hid (∀ W, Below wr.heap.size wr W → Calls Try.prog 104 #[.int .u8 65, .int .i64 (i : Int)] W fun e w' => e = .returned (.string B1) ∧ Below W.heap.size W w') := fun W _ => by rw [hB1]; exact l1Letter_calls 65 i W (by omega) (by decide)
      have H2 : Hid (∀ W, Below wr.heap.size wr W → Calls Try.prog 105 #[.int .i64 (A : Int)] W fun e w' => e = .returned (.string D) ∧ Below W.heap.size W w') := fun W _ => by rw [hD]; exact l16Dec_calls A W (by omega)
      have H3 : Hid (∀ W, Below wr.heap.size wr W → Calls Try.prog 103 #[.agg #[.int .i64 ds[i].2.op, .int .i64 ds[i].2.num, c]] W fun e w' => e = .returned (.string T) ∧ Below W.heap.size W w') := fun W h => by rw [hT]; exact l1Text_calls _ hsh (by omega) c W (hIK.next h) ⟨hI1, hI2⟩
      have HSS : Hid (S ++ B1 ++ D ++ (⟨#[61]⟩ : ByteArray) ++ T ++ (⟨#[10]⟩ : ByteArray) = ⟨(L ++ ([byt (65 + i)] ++ decT A ++ [61] ++ textT ds[i].2 ++ [10])).toArray⟩) := by
        have e1 : B1 = ⟨[byt (65 + i)].toArray⟩ := by rw [hB1]
        have e2 : (⟨#[61]⟩ : ByteArray) = ⟨[(61 : UInt8)].toArray⟩ := rfl
        have e3 : (⟨#[10]⟩ : ByteArray) = ⟨[(10 : UInt8)].toArray⟩ := rfl
        rw [Hid, HS.out, e1, hD, hT, decB, textB, e2, e3, app_mk, app_mk, app_mk, app_mk, app_mk]
        simp only [List.append_assoc]
      have HV : Hid (r = (L ++ ([byt (65 + i)] ++ decT A ++ [61] ++ textT ds[i].2 ++ [10])) ++ progT (i + 1) (ds.drop (i + 1))) := by
        rw [Hid, HRR.out, List.drop_eq_getElem_cons hid, progT, hA, Int.toNat_natCast]
        simp only [List.append_assoc]
      obtain ⟨adc, capc, rfl, -, -, -⟩ := hIK
      obtain ⟨o, ho⟩ : ∃ o, o = ds[i].2.op := ⟨_, rfl⟩
      obtain ⟨m, hm⟩ : ∃ m, m = ds[i].2.num := ⟨_, rfl⟩
      obtain ⟨z, hz⟩ : ∃ z, z = ds[i].2.kids.length := ⟨_, rfl⟩
      rw [← ho, ← hm, ← hz] at H3
      rw [hA] at k0
      rw [← ho] at k1
      rw [← hm] at k2
      rw [← hz] at k3
      have r0 := cell_regrown k0
      have r1 := cell_regrown k1
      have r2 := cell_regrown k2
      have r3 := cell_regrown k3
      obtain ⟨LL, hLL⟩ : ∃ LL, LL = L ++ ([byt (65 + i)] ++ decT A ++ [61] ++ textT ds[i].2 ++ [10]) := ⟨_, rfl⟩
      rw [← hLL] at HSS HV
      clear k0 k1 k2 k3 hI0 hI1 hI2 hvd hsm hsh hA hD hT hB1 ho hm hz hLL HRR HS
      go_wp2_with fail
      refine wp_region_quiet_below (by kernel_rfl) (by kernel_rfl) ?_
      iterate 2 (any_goals (first | go_big_quiet_step (fail) | quiet_step (fail)))
      any_goals (first | go_big_quiet_step (exact quietB (fun W h => H1.out W h) _ _) | quiet_step (exact quietB (fun W h => H1.out W h) _ _))
      iterate 6 (any_goals (first | go_big_quiet_step (fail) | quiet_step (fail)))
      any_goals (first | go_big_quiet_step (exact quietB (fun W h => H2.out W h) _ _) | quiet_step (exact quietB (fun W h => H2.out W h) _ _))
      iterate 7 (any_goals (first | go_big_quiet_step (fail) | quiet_step (fail)))
      any_goals (first | go_big_quiet_step (exact quietB (fun W h => H3.out W h) _ _) | quiet_step (exact quietB (fun W h => H3.out W h) _ _))
      iterate 3 (any_goals (first | go_big_quiet_step (fail) | quiet_step (fail)))
      refine wpQuiet_nil ?_
      intro _ hw'
      obtain ⟨⟨dq, osq⟩, hw''⟩ := hw'
      subst hw''
      clear r0 r1 r2 r3
      go_wp2_with fail
      have e61 : (⟨#[61]⟩ : ByteArray).size = 1 := rfl
      have e10 : (⟨#[10]⟩ : ByteArray).size = 1 := rfl
      exact ⟨⟨i + 1, _, LL, hlt, rfl, by simp, by simp only [ByteArray.size_append]; omega, HSS.out, HV.out, HB.out.trans ((below_regrown _ _ _).mono HB.out.size)⟩, by simp only [intOf]; omega⟩
    · have hin : i = n := by omega
      have HV : Hid (r = L) := by
        have e : ds.drop i = [] := List.drop_eq_nil_of_le (by rw [hin, HN.out]; exact Nat.le_refl _)
        rw [Hid, HRR.out, e]; simp [progT]
      subst hin
      go_wp2_with fail
      go_ret
      exact ⟨ret_str (by rw [HV.out]; exact HS.out), HB.out⟩
end Go.Proofs.Ytjdlfpdljmohiaa
/-
  THE MODEL's ParseProgram.
-/
namespace Go.Proofs.Ytjdlfpdljmohiaa
set_option linter.unusedVariables false
set_option linter.unusedSimpArgs false
open Go.RowKit

/-- a program's line -/
def lineT (l : ByteArray) : Option Df := if 4 ≤ l.size ∧ 48 ≤ bN l 1 ∧ bN l 1 ≤ 57 ∧ bN l 2 = 61 ∧ (parseE (l.extract 3 l.size)).2 = true then some (((bN l 1 - 48 : Nat) : Int), (parseE (l.extract 3 l.size)).1) else none
def linesT : List ByteArray → Option (List Df)
  | [] => some []
  | l :: ls => (lineT l).bind fun d => (linesT ls).map (d :: ·)
/-- the lines that count -/
def linesOf (s : ByteArray) : List ByteArray := ((cutT s 10 (s.size + 1) 0 0).take ((cutT s 10 (s.size + 1) 0 0).length - 1)).take 7
def parseP (s : ByteArray) : Option (List Df) := (linesT (linesOf s)).bind fun ds => if progB ds = true ∧ (⟨(progT 0 ds).toArray⟩ : ByteArray) = s then some ds else none
/-- functions in a row of one's own, their bodies elsewhere -/
def OwnDf (w : World) (lo : Nat) (ds : List Df) (v : Value) : Prop :=
  ∃ xs, w.ownsRow lo 137 4 v ds.length xs ∧ ∀ j (hj : j < ds.length), ∃ a b c e, xs[j * 4]? = some a ∧ xs[j * 4 + 1]? = some b ∧ xs[j * 4 + 2]? = some c ∧ xs[j * 4 + 3]? = some e ∧ DfOn w (fun k => PN lo w k ∧ some k ≠ v.ownBlock) ds[j] a b c e
theorem DfOn.mono {w w' : World} {S S' : Nat → Prop} {d : Df} {a b c e : Value} (h : DfOn w S d a b c e) (hS : ∀ k, S k → S' k) (hw : ∀ k, S k → w'.heap[k]? = w.heap[k]?) : DfOn w' S' d a b c e :=
  ⟨h.1, h.2.1, h.2.2.mono hS hw⟩
theorem OwnDf.next {w w' : World} {lo : Nat} {ds : List Df} {v : Value} (h : OwnDf w lo ds v) (hb : Below w.heap.size w w') : OwnDf w' lo ds v := by
  obtain ⟨xs, h1, h2⟩ := h
  refine ⟨xs, own_keep h1 fun k _ hk => hb.block k hk, fun j hj => ?_⟩
  obtain ⟨a, b, c, e, e1, e2, e3, e4, e5⟩ := h2 j hj
  exact ⟨a, b, c, e, e1, e2, e3, e4, e5.mono (fun k hk => ⟨hk.1.go (Nat.le_refl _) (hb.block k hk.1.2.1), hk.2⟩) fun k hk => hb.block k hk.1.2.1⟩
theorem OwnDf.step {w w' : World} {lo : Nat} {ds : List Df} {v v' : Value} {d : Df} {a b c e : Value} (xs : List Value) (hx : w.ownsRow lo 137 4 v ds.length xs) (hlo : lo ≤ w.heap.size)
    (ht : ∀ j (hj : j < ds.length), ∃ a b c e, xs[j * 4]? = some a ∧ xs[j * 4 + 1]? = some b ∧ xs[j * 4 + 2]? = some c ∧ xs[j * 4 + 3]? = some e ∧ DfOn w (fun k => PN lo w k ∧ some k ≠ v.ownBlock) ds[j] a b c e)
    (hn : DfOn w (fun k => PN lo w k ∧ some k ≠ v.ownBlock) d a b c e)
    (hown : w'.ownsRow lo 137 4 v' (ds.length + 1) (xs ++ [a, b, c, e])) (hg : w.grownBy w' v.ownBlock) (hw : v'.ownBlock = v.ownBlock ∨ ∃ g, v'.ownBlock = some g ∧ w.heap.size ≤ g) : OwnDf w' lo (ds ++ [d]) v' := by
  have hlen := hx.1
  have keep : ∀ (s : Df) (x y z u : Value), DfOn w (fun k => PN lo w k ∧ some k ≠ v.ownBlock) s x y z u → DfOn w' (fun k => PN lo w' k ∧ some k ≠ v'.ownBlock) s x y z u := by
    intro s x y z u hs
    refine hs.mono (fun k hk => ⟨hk.1.go (Nat.le_refl _) (hg.block k hk.1.2.1 hk.2), ?_⟩) (fun k hk => hg.block k hk.1.2.1 hk.2)
    rcases hw with hw | ⟨g, hw, hge⟩
    · rw [hw]; exact hk.2
    · rw [hw]; intro e; simp only [Option.some.injEq] at e; have := hk.1.2.1; omega
  refine ⟨xs ++ [a, b, c, e], by simpa using hown, fun j hj => ?_⟩
  by_cases hjl : j < ds.length
  · obtain ⟨x, y, z, u, e1, e2, e3, e4, e5⟩ := ht j hjl
    have l1 : j * 4 + 3 < xs.length := by omega
    refine ⟨x, y, z, u, ?_, ?_, ?_, ?_, ?_⟩
    · rw [List.getElem?_append_left (by omega)]; exact e1
    · rw [List.getElem?_append_left (by omega)]; exact e2
    · rw [List.getElem?_append_left (by omega)]; exact e3
    · rw [List.getElem?_append_left (by omega)]; exact e4
    · rw [List.getElem_append_left hjl]; exact keep _ _ _ _ _ e5
  · have hj' : j = ds.length := by simp at hj; omega
    subst hj'
    refine ⟨a, b, c, e, ?_, ?_, ?_, ?_, ?_⟩
    · rw [List.getElem?_append_right (by omega)]; simp [hlen]
    · rw [List.getElem?_append_right (by omega)]; simp [hlen]
    · rw [List.getElem?_append_right (by omega)]; simp [hlen]
    · rw [List.getElem?_append_right (by omega)]; simp [hlen]
    · simpa using keep _ _ _ _ _ hn
theorem OwnDf.defs {w : World} {lo : Nat} {ds : List Df} {v : Value} (h : OwnDf w lo ds v) : DefsOn w (PN lo w) ds v := by
  obtain ⟨xs, h1, h2⟩ := h
  rcases h1.2 with ⟨rfl, h0⟩ | ⟨g, cap, cur, rfl, hg, hh, hn, hc, hs, htk⟩
  · obtain rfl : ds = [] := List.eq_nil_of_length_eq_zero h0
    exact ⟨none, 0, rfl, Nat.le_refl _, by simp [maxLen], Or.inl rfl⟩
  · refine ⟨_, cap, rfl, hn, hc, Or.inr ⟨g, 0, rfl, ⟨hg, (Array.getElem?_eq_some_iff.1 hh).1, _, _, hh⟩, fun i hi => ?_⟩⟩
    obtain ⟨a, b, c, e, e1, e2, e3, e4, e5⟩ := h2 i hi
    refine ⟨a, b, c, e, ?_, ?_, ?_, ?_, e5.mono (fun k hk => hk.1) (fun _ _ => rfl)⟩
    · rw [Nat.zero_add, h1.cellAt (i * 4) (by omega)]; exact e1
    · rw [Nat.zero_add, h1.cellAt (i * 4 + 1) (by omega)]; exact e2
    · rw [Nat.zero_add, h1.cellAt (i * 4 + 2) (by omega)]; exact e3
    · rw [Nat.zero_add, h1.cellAt (i * 4 + 3) (by omega)]; exact e4
theorem infoD4 : ∃ i z, Try.prog.info? 137 = some i ∧ i.zero = some z ∧ i.size = 4 ∧ i.bytes = 48 ∧ z.cells.size = 4 := by
  obtain ⟨i, hi, hzz⟩ := Option.map_eq_some_iff.1 infoD
  simp only [Prod.mk.injEq] at hzz
  obtain ⟨hz, hs, hb⟩ := hzz
  exact ⟨i, _, hi, hz, hs, hb, rfl⟩
theorem cutT_small (s : ByteArray) (c : Nat) : ∀ k i f, ∀ x ∈ cutT s c k i f, x.size ≤ s.size
  | 0, _, _ => by simp [cutT]
  | k + 1, i, f => by
    intro x hx
    unfold cutT at hx
    split at hx
    · rcases List.mem_cons.1 hx with rfl | h
      · rw [ByteArray.size_extract]; omega
      · exact cutT_small s c k _ _ x h
    · exact cutT_small s c k _ _ x hx
theorem cutT_pos (s : ByteArray) (c : Nat) : ∀ k i f, i + k = s.size → 1 ≤ (cutT s c (k + 1) i f).length
  | 0, i, f, h => by unfold cutT; rw [if_pos (Or.inl (by omega))]; simp
  | k + 1, i, f, h => by
    unfold cutT
    split
    · simp
    · exact cutT_pos s c k (i + 1) f (by omega)
end Go.Proofs.Ytjdlfpdljmohiaa
