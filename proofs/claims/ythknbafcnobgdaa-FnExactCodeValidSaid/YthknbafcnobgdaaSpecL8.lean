/-
  THE MODEL's l8Own AND l8Expr.
-/
import Derived.Test.YthknbafcnobgdaaFreshA
import Derived.Test.YthknbafcnobgdaaImplDc
import Derived.Test.YthknbafcnobgdaaSpecSk
import Derived.Test.YthknbafcnobgdaaSpecValid
namespace Go.Proofs.Ythknbafcnobgdaa
set_option linter.unusedVariables false
set_option linter.unusedSimpArgs false
open Go.RowKit

set_option maxHeartbeats 800000 in
theorem l8Own_calls (o n vars defs : Int) (w : World) : Calls Try.prog 42 #[.agg #[.int .i64 o, .int .i64 n], .int .i64 vars, .int .i64 defs] w fun e w' => e = .returned (.bool (decide (0 ≤ arity o) && ownB o n vars defs)) ∧ Below w.heap.size w w' := by
  have hq := l1Kids_calls o (w.alloc (.cells #[.int .i64 o, .int .i64 n] 66))
  have HB0 : Hid (Below w.heap.size w (w.alloc (.cells #[.int .i64 o, .int .i64 n] 66))) := box_below _ _
  by_cases h : 0 ≤ arity o
  · have hd : decide (0 ≤ arity o) = true := decide_eq_true h
    rw [hd, Bool.true_and]
    clear hd
    go_enter Try.func42, Try.ntmps42
    go_wp2_with fail
    refine hq.mono ?_
    rintro e w1 ⟨rfl, rfl⟩
    go_wp2_with fail
    refine (l1Own_calls o n vars defs _ _).mono ?_
    rintro e w2 ⟨rfl, hb⟩
    have HB2 : Hid (Below w.heap.size w w2) := HB0.out.trans (hb.mono HB0.out.size)
    clear hb
    go_wp2_with fail
    go_ret
    exact ⟨rfl, HB2.out⟩
  · have hd : decide (0 ≤ arity o) = false := decide_eq_false h
    rw [hd, Bool.false_and]
    have hn : ¬ (arity o ≥ 0) := h
    clear hd
    go_enter Try.func42, Try.ntmps42
    go_wp2_with fail
    refine hq.mono ?_
    rintro e w1 ⟨rfl, rfl⟩
    go_wp2_with fail
    go_ret
    exact ⟨rfl, HB0.out⟩

theorem fresh_below {wr W w3 : World} {G : Nat} (hb : Below wr.heap.size wr W) (hg : W.grownBy w3 (some G)) (hl : wr.heap.size ≤ G) : Below wr.heap.size wr w3 :=
  ⟨by rw [hg.os]; exact hb.os, by rw [hg.tape]; exact hb.tape, by rw [hg.output]; exact hb.output, Nat.le_trans hb.size hg.size, fun k hk => (hg.block k (Nat.lt_of_lt_of_le hk hb.size) (by simp only [ne_eq, Option.some.injEq]; omega)).trans (hb.block k hk)⟩
theorem alloc_at2 (w : World) (A B : Obj) : ((w.alloc A).alloc B).heap[w.heap.size + 1]? = some B := by
  have := Deep.blk_alloc_new (w.alloc A) B
  rw [Deep.nblk_alloc] at this
  exact this
theorem news_blk {W : World} {B : Nat} {x y z : Value} {T : TypeId} (h : W.heap[B]? = some (.cells #[x, y, z] T)) (j : Nat) (u : Value) (hu : [x, y, z][j]? = some u) : W.cell? ((⟨B, 0, none⟩ : Addr).add j) = some u := by
  rw [WideShapes.add_plain, Nat.zero_add]
  exact cell_of_blk h j u (by simpa using hu)
/-- the tree of code that leaves one, in new memory -/
def ExprGot (t : Tr) (w : World) (e : Ending) (w' : World) : Prop :=
  ∃ v, e = .returned (.agg #[.int .i64 t.op, .int .i64 t.num, v]) ∧ Fresh w' w.heap.size t.kids v ∧ Below w.heap.size w w'

set_option maxRecDepth 100000 in
set_option maxHeartbeats 3200000 in
theorem l8Expr_calls (cs : List Ins) (t : Tr) (c : Value) (w : World) (hk : InsIn w cs c) (hl : cs.length ≤ 1048576) (hw : ∀ c ∈ cs, I64 c.op ∧ I64 c.num) (hr : runC [] cs = some [t]) : Calls Try.prog 45 #[c] w (ExprGot t w) := by
  have HK : Hid (InsIn w cs c) := hk
  have HW := mkHid hw
  have HRC := mkHid hr
  obtain ⟨ad, cap, rfl, -, -, -⟩ := hk
  obtain ⟨iE, zE, hII⟩ := infoE3
  have HE := mkHid hII
  have HB0 : Hid (Below w.heap.size w (w.alloc (.cells #[.int .i64 0, .int .i64 0, .slice none 0 0] 37))) := box_below _ _
  have HZ0 : Hid ((w.alloc (.cells #[.int .i64 0, .int .i64 0, .slice none 0 0] 37)).heap[w.heap.size]? = some (.cells #[.int .i64 0, .int .i64 0, .slice none 0 0] 37)) := Deep.blk_alloc_new _ _
  have HS0 : Hid ((w.alloc (.cells #[.int .i64 0, .int .i64 0, .slice none 0 0] 37)).heap.size = w.heap.size + 1) := Deep.nblk_alloc _ _
  obtain ⟨w0, hw0⟩ : ∃ w0, w0 = w.alloc (.cells #[.int .i64 0, .int .i64 0, .slice none 0 0] 37) := ⟨_, rfl⟩
  clear hw hr hII
  go_enter Try.func45, Try.ntmps45
  go_wp2_with fail
  rw [← hw0]
  rw [← hw0] at HB0 HZ0 HS0
  clear hw0
  go_loopw [3, 4] (fun v i wr => ∃ (k : Nat) (s : List Tr) (g capg : Nat), k ≤ cs.length ∧ i = .int .i64 k ∧ v = .slice (some ⟨g, 0, none⟩) s.length capg ∧ Hid (runC [] (cs.take k) = some s) ∧ OwnF wr w0.heap.size wr.heap.size s v ∧ Below w0.heap.size w0 wr) (fun _ i _ => cs.length - (intOf i).toNat)
  case atStart =>
    rw [show w.heap.size + 1 = w0.heap.size from HS0.out.symm]
    refine ⟨0, [], w0.heap.size, 0, Nat.zero_le _, rfl, rfl, rfl, ⟨[], [], ?_, rfl, fun j hj => absurd hj (by simp), by simp, by simp⟩, box_below _ _⟩
    exact ⟨rfl, Or.inr ⟨w0.heap.size, 0, #[], rfl, Nat.le_refl _, Deep.blk_alloc_new w0 (.cells #[] 37), Nat.le_refl _, by unfold maxLen; omega, rfl, rfl⟩⟩
  case round =>
    obtain ⟨k, s, g, capg, hk, rfl, rfl, HR, hown, hb⟩ := hrel
    have HO := mkHid hown
    have HB := mkHid hb
    have HBA := mkHid (HB0.out.trans (hb.mono (HB0.out.size)))
    have hsl := runC_len HR.out hk
    obtain ⟨xs, hx, hx1⟩ := hown.one
    have HX := mkHid hx
    have hgl := hx.lt g rfl
    have hcap : s.length ≤ capg ∧ capg ≤ maxLen := by
      rcases hx.2 with ⟨e, -⟩ | ⟨g', cap', cur, e, -, -, h1, h2, -⟩
      · cases e
      · cases e; exact ⟨h1, h2⟩
    obtain ⟨hc1, hc2⟩ := hcap
    unfold maxLen at hc2
    clear hown hx
    by_cases hlt : k < cs.length
    · obtain ⟨bl, off, rfl, hbl, c0, c1⟩ := (HK.out.next HBA.out).at k hlt
      have HIW := mkHid (HW.out _ (List.getElem_mem hlt))
      by_cases hok : 0 ≤ arity cs[k].op ∧ arN cs[k].op ≤ s.length
      · have HN := mkHid (runC_some HR.out hlt hok.1 hok.2)
        have har : arity cs[k].op = (arN cs[k].op : Int) := by
          rcases arity_cases cs[k].op with e | ⟨-, e, -⟩
          · omega
          · exact e
        have hq := l1Kids_calls cs[k].op wr
        rw [har] at hq
        obtain ⟨m, hmm⟩ : ∃ m, m = s.length - arN cs[k].op := ⟨_, rfl⟩
        have hm : m ≤ s.length := by omega
        have hsub : IntKind.i64.wrap ((s.length : Int) - (arN cs[k].op : Int)) = (m : Int) := by rw [show (s.length : Int) - (arN cs[k].op : Int) = (m : Int) by omega]; exact IntWalk.i64_in _ (by omega)
        have hsub0 : (0 : Int) ≤ (m : Int) := by omega
        have hsub1 : (m : Int) ≤ (s.length : Int) := by omega
        have hmle : m ≤ capg := by omega
        rw [← hmm] at HN
        have HTL : Hid (ECells wr (s.length - m) (xs.drop (m * 3)) (.slice (if capg = m then some ⟨g, 0, none⟩ else some ⟨g, m * 3, none⟩) (s.length - m) (capg - m))) := own_tail HX.out hx1 hm _ (Or.inr ⟨g, rfl, rfl⟩)
        have HTK : Hid (ECells wr m (xs.take (m * 3)) (.slice (some ⟨g, 0, none⟩) m capg)) := own_head HX.out hx1 hm
        clear hok har hmm hx1
        go_wp2_with fail
        refine hq.mono ?_
        rintro e w1 ⟨rfl, rfl⟩
        go_upto_region 6 with fail
        go_cut [4, 5, 6] from 8 to 49 (fun s4 s5 s6 wx => s4 = .int .i64 (k : Int) ∧ s5 = .int .i64 (arN cs[k].op : Int) ∧ ∃ b ad3 n3 cap3, s6 = .pointer (some ⟨b, 0, none⟩) ∧ ERel wr (s.length - m) (xs.drop (m * 3)) cs[k].op cs[k].num (.slice ad3 n3 cap3) b wx)
        case first =>
          have hbl' : bl < wr.heap.size := hbl
          obtain ⟨W1, hW1⟩ : ∃ W : World, W = (wr.alloc (.cells #[] 37)).drew := ⟨_, rfl⟩
          obtain ⟨W2, hW2⟩ : ∃ W : World, W = ((wr.alloc (.cells #[] 37)).alloc (.cells #[.int .i64 0, .int .i64 0, .slice none 0 0] 37)).drew := ⟨_, rfl⟩
          obtain ⟨W3, hW3⟩ : ∃ W : World, W = ((wr.alloc (.cells #[.int .i64 0, .int .i64 0, .slice none 0 0] 37)).alloc (.cells #[] 37)).drew := ⟨_, rfl⟩
          have HA1 : Hid (Below wr.heap.size wr (wr.alloc (.cells #[] 37)).drew) := (box_below _ _).drew
          have HA2 : Hid (Below wr.heap.size wr ((wr.alloc (.cells #[] 37)).alloc (.cells #[.int .i64 0, .int .i64 0, .slice none 0 0] 37)).drew) := ((box_below _ _).alloc (by simp) _).drew
          have HA3 : Hid (Below wr.heap.size wr ((wr.alloc (.cells #[.int .i64 0, .int .i64 0, .slice none 0 0] 37)).alloc (.cells #[] 37)).drew) := ((box_below _ _).alloc (by simp) _).drew
          have HG2 : Hid (((wr.alloc (.cells #[] 37)).alloc (.cells #[.int .i64 0, .int .i64 0, .slice none 0 0] 37)).drew.heap[wr.heap.size]? = some (.cells #[] 37)) := (Deep.blk_alloc_lt (wr.alloc _) _ _ (by rw [Deep.nblk_alloc]; omega)).trans (Deep.blk_alloc_new _ _)
          have HZ2 : Hid (((wr.alloc (.cells #[] 37)).alloc (.cells #[.int .i64 0, .int .i64 0, .slice none 0 0] 37)).drew.heap[wr.heap.size + 1]? = some (.cells #[.int .i64 0, .int .i64 0, .slice none 0 0] 37)) := alloc_at2 _ _ _
          have HS2 : Hid (wr.heap.size + 1 < ((wr.alloc (.cells #[] 37)).alloc (.cells #[.int .i64 0, .int .i64 0, .slice none 0 0] 37)).drew.heap.size) := (by show _ < ((wr.alloc _).alloc _).heap.size; rw [Deep.nblk_alloc, Deep.nblk_alloc]; omega)
          have HG3 : Hid (((wr.alloc (.cells #[.int .i64 0, .int .i64 0, .slice none 0 0] 37)).alloc (.cells #[] 37)).drew.heap[wr.heap.size + 1]? = some (.cells #[] 37)) := alloc_at2 _ _ _
          have HZ3' : Hid (((wr.alloc (.cells #[.int .i64 0, .int .i64 0, .slice none 0 0] 37)).alloc (.cells #[] 37)).drew.heap[wr.heap.size]? = some (.cells #[.int .i64 0, .int .i64 0, .slice none 0 0] 37)) := (Deep.blk_alloc_lt (wr.alloc _) _ _ (by rw [Deep.nblk_alloc]; omega)).trans (Deep.blk_alloc_new _ _)
          have HS3 : Hid (wr.heap.size + 1 < ((wr.alloc (.cells #[.int .i64 0, .int .i64 0, .slice none 0 0] 37)).alloc (.cells #[] 37)).drew.heap.size) := (by show _ < ((wr.alloc _).alloc _).heap.size; rw [Deep.nblk_alloc, Deep.nblk_alloc]; omega)
          have HG1 : Hid (W1.heap[wr.heap.size]? = some (.cells #[] 37)) := by rw [hW1]; exact Deep.blk_alloc_new wr _
          rw [← hW1] at HA1
          rw [← hW2] at HA2 HG2 HZ2 HS2
          rw [← hW3] at HA3 HG3 HZ3' HS3
          have HW1 : Hid ((wr.alloc (.cells #[] 37)).drew = W1) := hW1.symm
          have HW2 : Hid (((wr.alloc (.cells #[] 37)).alloc (.cells #[.int .i64 0, .int .i64 0, .slice none 0 0] 37)).drew = W2) := hW2.symm
          have HW3 : Hid (((wr.alloc (.cells #[.int .i64 0, .int .i64 0, .slice none 0 0] 37)).alloc (.cells #[] 37)).drew = W3) := hW3.symm
          clear hW1 hW2 hW3
          have k0a : wr.drew.cell? ⟨bl, off + k * 2, none⟩ = some (.int .i64 cs[k].op) := c0
          have k0b : wr.drew.cell? ⟨bl, off + k * 2 + 1, none⟩ = some (.int .i64 cs[k].num) := c1
          have k1a : (wr.alloc (.cells #[] 37)).cell? ⟨bl, off + k * 2, none⟩ = some (.int .i64 cs[k].op) := old_cell c0 (.cells #[] 37)
          have k1b : (wr.alloc (.cells #[] 37)).cell? ⟨bl, off + k * 2 + 1, none⟩ = some (.int .i64 cs[k].num) := old_cell c1 (.cells #[] 37)
          have k2a : (wr.alloc (.cells #[] 37)).drew.cell? ⟨bl, off + k * 2, none⟩ = some (.int .i64 cs[k].op) := old_cell c0 (.cells #[] 37)
          have k2b : (wr.alloc (.cells #[] 37)).drew.cell? ⟨bl, off + k * 2 + 1, none⟩ = some (.int .i64 cs[k].num) := old_cell c1 (.cells #[] 37)
          have k3a : (wr.alloc (.cells #[.int .i64 0, .int .i64 0, .slice none 0 0] 37)).cell? ⟨bl, off + k * 2, none⟩ = some (.int .i64 cs[k].op) := old_cell c0 (.cells #[.int .i64 0, .int .i64 0, .slice none 0 0] 37)
          have k3b : (wr.alloc (.cells #[.int .i64 0, .int .i64 0, .slice none 0 0] 37)).cell? ⟨bl, off + k * 2 + 1, none⟩ = some (.int .i64 cs[k].num) := old_cell c1 (.cells #[.int .i64 0, .int .i64 0, .slice none 0 0] 37)
          have k4a : (wr.alloc (.cells #[.int .i64 0, .int .i64 0, .slice none 0 0] 37)).drew.cell? ⟨bl, off + k * 2, none⟩ = some (.int .i64 cs[k].op) := old_cell c0 (.cells #[.int .i64 0, .int .i64 0, .slice none 0 0] 37)
          have k4b : (wr.alloc (.cells #[.int .i64 0, .int .i64 0, .slice none 0 0] 37)).drew.cell? ⟨bl, off + k * 2 + 1, none⟩ = some (.int .i64 cs[k].num) := old_cell c1 (.cells #[.int .i64 0, .int .i64 0, .slice none 0 0] 37)
          have k5a : ((wr.alloc (.cells #[] 37)).alloc (.cells #[.int .i64 0, .int .i64 0, .slice none 0 0] 37)).cell? ⟨bl, off + k * 2, none⟩ = some (.int .i64 cs[k].op) := old_cell (old_cell c0 (.cells #[] 37)) (.cells #[.int .i64 0, .int .i64 0, .slice none 0 0] 37)
          have k5b : ((wr.alloc (.cells #[] 37)).alloc (.cells #[.int .i64 0, .int .i64 0, .slice none 0 0] 37)).cell? ⟨bl, off + k * 2 + 1, none⟩ = some (.int .i64 cs[k].num) := old_cell (old_cell c1 (.cells #[] 37)) (.cells #[.int .i64 0, .int .i64 0, .slice none 0 0] 37)
          have k6a : ((wr.alloc (.cells #[] 37)).alloc (.cells #[.int .i64 0, .int .i64 0, .slice none 0 0] 37)).drew.cell? ⟨bl, off + k * 2, none⟩ = some (.int .i64 cs[k].op) := old_cell (old_cell c0 (.cells #[] 37)) (.cells #[.int .i64 0, .int .i64 0, .slice none 0 0] 37)
          have k6b : ((wr.alloc (.cells #[] 37)).alloc (.cells #[.int .i64 0, .int .i64 0, .slice none 0 0] 37)).drew.cell? ⟨bl, off + k * 2 + 1, none⟩ = some (.int .i64 cs[k].num) := old_cell (old_cell c1 (.cells #[] 37)) (.cells #[.int .i64 0, .int .i64 0, .slice none 0 0] 37)
          have k7a : ((wr.alloc (.cells #[.int .i64 0, .int .i64 0, .slice none 0 0] 37)).alloc (.cells #[] 37)).cell? ⟨bl, off + k * 2, none⟩ = some (.int .i64 cs[k].op) := old_cell (old_cell c0 (.cells #[.int .i64 0, .int .i64 0, .slice none 0 0] 37)) (.cells #[] 37)
          have k7b : ((wr.alloc (.cells #[.int .i64 0, .int .i64 0, .slice none 0 0] 37)).alloc (.cells #[] 37)).cell? ⟨bl, off + k * 2 + 1, none⟩ = some (.int .i64 cs[k].num) := old_cell (old_cell c1 (.cells #[.int .i64 0, .int .i64 0, .slice none 0 0] 37)) (.cells #[] 37)
          have k8a : ((wr.alloc (.cells #[.int .i64 0, .int .i64 0, .slice none 0 0] 37)).alloc (.cells #[] 37)).drew.cell? ⟨bl, off + k * 2, none⟩ = some (.int .i64 cs[k].op) := old_cell (old_cell c0 (.cells #[.int .i64 0, .int .i64 0, .slice none 0 0] 37)) (.cells #[] 37)
          have k8b : ((wr.alloc (.cells #[.int .i64 0, .int .i64 0, .slice none 0 0] 37)).alloc (.cells #[] 37)).drew.cell? ⟨bl, off + k * 2 + 1, none⟩ = some (.int .i64 cs[k].num) := old_cell (old_cell c1 (.cells #[.int .i64 0, .int .i64 0, .slice none 0 0] 37)) (.cells #[] 37)
          go_region_held3 (fun w' => w'.cell? ⟨bl, off + k * 2, none⟩ = some (.int .i64 cs[k].op) ∧ w'.cell? ⟨bl, off + k * 2 + 1, none⟩ = some (.int .i64 cs[k].num))
            (first
              | go_keep
              | with_reducible exact ⟨c0, c1⟩
              | with_reducible exact ⟨k0a, k0b⟩
              | with_reducible exact ⟨k1a, k1b⟩
              | with_reducible exact ⟨k2a, k2b⟩
              | with_reducible exact ⟨k3a, k3b⟩
              | with_reducible exact ⟨k4a, k4b⟩
              | with_reducible exact ⟨k5a, k5b⟩
              | with_reducible exact ⟨k6a, k6b⟩
              | with_reducible exact ⟨k7a, k7b⟩
              | with_reducible exact ⟨k8a, k8b⟩
              | with_reducible exact ⟨d0, d1⟩
              | with_reducible exact ⟨old_cell d0 _, old_cell d1 _⟩
              | exact ⟨(set3_other HNB.out _ _ _ trivial).trans d0, (set3_other HNB.out _ _ _ trivial).trans d1⟩)
            (first
              | (rw [HW1.out]; generalize (if capg = m then (some ⟨g, 0, none⟩ : Option Addr) else some ⟨g, m * 3, none⟩) = tad at HTL ⊢; refine step_append_fresh (by rfl) (.tmp 30) (.tmp 36) (by rfl) wr.heap.size HG1.out (s.length - m) (xs.drop (m * 3)) (.slice tad (s.length - m) (capg - m)) (by rfl) (by rfl) (HTL.out.next HA1.out) (by omega) ?_; intro kv w3 hk3 hg3 hw3; have HK3 := mkHid (own_lower hk3 (show wr.heap.size ≤ wr.heap.size by omega)); have HB3 := mkHid (fresh_below HA1.out hg3 (show wr.heap.size ≤ wr.heap.size by omega)); have d0 := (HB3.out.cell (p := ⟨bl, off + k * 2, none⟩) hbl').trans c0; have d1 := (HB3.out.cell (p := ⟨bl, off + k * 2 + 1, none⟩) hbl').trans c1; obtain ⟨ad3, n3, cap3, rfl⟩ := own_slice hk3; clear hk3 hg3 hw3)
              | (rw [HW2.out]; generalize (if capg = m then (some ⟨g, 0, none⟩ : Option Addr) else some ⟨g, m * 3, none⟩) = tad at HTL ⊢; refine step_append_fresh (by rfl) (.tmp 30) (.tmp 36) (by rfl) wr.heap.size HG2.out (s.length - m) (xs.drop (m * 3)) (.slice tad (s.length - m) (capg - m)) (by rfl) (by rfl) (HTL.out.next HA2.out) (by omega) ?_; intro kv w3 hk3 hg3 hw3; have HK3 := mkHid (own_lower hk3 (show wr.heap.size ≤ wr.heap.size by omega)); have HB3 := mkHid (fresh_below HA2.out hg3 (show wr.heap.size ≤ wr.heap.size by omega)); have d0 := (HB3.out.cell (p := ⟨bl, off + k * 2, none⟩) hbl').trans c0; have d1 := (HB3.out.cell (p := ⟨bl, off + k * 2 + 1, none⟩) hbl').trans c1; have hz3 := (hg3.block (wr.heap.size + 1) HS2.out (by simp)).trans HZ2.out; have HNE3 : Hid (some (wr.heap.size + 1) ≠ kv.ownBlock) := (by unfold Hid; rcases hw3 with e | ⟨q, e, hq⟩ <;> rw [e] <;> simp only [ne_eq, Option.some.injEq] <;> (try have := HS2.out) <;> omega); have HZ3 := mkHid hz3; have z0 := cell_of_blk hz3 0 _ rfl; have z1 := cell_of_blk hz3 1 _ rfl; have z2 := cell_of_blk hz3 2 _ rfl; have zf := fun i => frz_of_blk hz3 i; have HNB : Hid (bl ≠ wr.heap.size + 1) := (by unfold Hid; omega); obtain ⟨ad3, n3, cap3, rfl⟩ := own_slice hk3; clear hk3 hg3 hw3 hz3)
              | (rw [HW3.out]; generalize (if capg = m then (some ⟨g, 0, none⟩ : Option Addr) else some ⟨g, m * 3, none⟩) = tad at HTL ⊢; refine step_append_fresh (by rfl) (.tmp 30) (.tmp 36) (by rfl) (wr.heap.size + 1) HG3.out (s.length - m) (xs.drop (m * 3)) (.slice tad (s.length - m) (capg - m)) (by rfl) (by rfl) (HTL.out.next HA3.out) (by omega) ?_; intro kv w3 hk3 hg3 hw3; have HK3 := mkHid (own_lower hk3 (show wr.heap.size ≤ wr.heap.size + 1 by omega)); have HB3 := mkHid (fresh_below HA3.out hg3 (show wr.heap.size ≤ wr.heap.size + 1 by omega)); have d0 := (HB3.out.cell (p := ⟨bl, off + k * 2, none⟩) hbl').trans c0; have d1 := (HB3.out.cell (p := ⟨bl, off + k * 2 + 1, none⟩) hbl').trans c1; have hz3 := (hg3.block wr.heap.size (Nat.lt_trans (Nat.lt_succ_self _) HS3.out) (by simp)).trans HZ3'.out; have HNE3 : Hid (some wr.heap.size ≠ kv.ownBlock) := (by unfold Hid; rcases hw3 with e | ⟨q, e, hq⟩ <;> rw [e] <;> simp only [ne_eq, Option.some.injEq] <;> (try have := HS3.out) <;> omega); have HZ3 := mkHid hz3; have z0 := cell_of_blk hz3 0 _ rfl; have z1 := cell_of_blk hz3 1 _ rfl; have z2 := cell_of_blk hz3 2 _ rfl; have zf := fun i => frz_of_blk hz3 i; have HNB : Hid (bl ≠ wr.heap.size) := (by unfold Hid; omega); obtain ⟨ad3, n3, cap3, rfl⟩ := own_slice hk3; clear hk3 hg3 hw3 hz3))
          all_goals
            go_wp2_with fail
            go_meet
            first
              | exact ⟨rfl, rfl, _, _, _, _, rfl, erel_alloc HK3.out HB3.out⟩
              | exact ⟨rfl, rfl, _, _, _, _, rfl, erel_set HK3.out HB3.out HZ3.out (Nat.le_succ _) HNE3.out⟩
              | exact ⟨rfl, rfl, _, _, _, _, rfl, erel_set HK3.out HB3.out HZ3.out (Nat.le_refl _) HNE3.out⟩
        case rest =>
          obtain ⟨rfl, rfl, b, ad3, n3, cap3, rfl, her⟩ := hcut
          have HER := mkHid her
          have hbl := (Array.getElem?_eq_some_iff.1 her.1).1
          have q0 := cell_of_blk her.1 0 _ rfl
          have q1 := cell_of_blk her.1 1 _ rfl
          have q2 := cell_of_blk her.1 2 _ rfl
          have HTC := mkHid (HTK.out.next her.2.2.1)
          clear her
          obtain ⟨V1, hV1⟩ : ∃ W : World, W = (wc.alloc (.cells #[] 37)).drew := ⟨_, rfl⟩
          obtain ⟨V2, hV2⟩ : ∃ W : World, W = ((wc.alloc (.cells #[] 37)).alloc (.cells #[.int .i64 cs[k].op, .int .i64 cs[k].num, .slice ad3 n3 cap3] 37)).drew := ⟨_, rfl⟩
          obtain ⟨V3, hV3⟩ : ∃ W : World, W = ((wc.alloc (.cells #[.int .i64 cs[k].op, .int .i64 cs[k].num, .slice ad3 n3 cap3] 37)).alloc (.cells #[] 37)).drew := ⟨_, rfl⟩
          have HC1 : Hid (Below wc.heap.size wc V1) := by rw [hV1]; exact (box_below _ _).drew
          have HC2 : Hid (Below wc.heap.size wc V2) := by rw [hV2]; exact ((box_below _ _).alloc (by simp) _).drew
          have HC3 : Hid (Below wc.heap.size wc V3) := by rw [hV3]; exact ((box_below _ _).alloc (by simp) _).drew
          have HH1 : Hid (V1.heap[wc.heap.size]? = some (.cells #[] 37)) := by rw [hV1]; exact Deep.blk_alloc_new wc _
          have HH2 : Hid (V2.heap[wc.heap.size]? = some (.cells #[] 37)) := by rw [hV2]; exact (Deep.blk_alloc_lt (wc.alloc _) _ _ (by rw [Deep.nblk_alloc]; omega)).trans (Deep.blk_alloc_new _ _)
          have HH3 : Hid (V3.heap[wc.heap.size + 1]? = some (.cells #[] 37)) := by rw [hV3]; exact alloc_at2 wc _ _
          have HN2 : Hid (V2.heap[wc.heap.size + 1]? = some (.cells #[.int .i64 cs[k].op, .int .i64 cs[k].num, .slice ad3 n3 cap3] 37)) := by rw [hV2]; exact alloc_at2 wc _ _
          have HN3 : Hid (V3.heap[wc.heap.size]? = some (.cells #[.int .i64 cs[k].op, .int .i64 cs[k].num, .slice ad3 n3 cap3] 37)) := by rw [hV3]; exact (Deep.blk_alloc_lt (wc.alloc _) _ _ (by rw [Deep.nblk_alloc]; omega)).trans (Deep.blk_alloc_new _ _)
          have HT2 : Hid (V2.heap.size = wc.heap.size + 2) := by rw [hV2]; show ((wc.alloc _).alloc _).heap.size = _; rw [Deep.nblk_alloc, Deep.nblk_alloc]
          have HT3 : Hid (V3.heap.size = wc.heap.size + 2) := by rw [hV3]; show ((wc.alloc _).alloc _).heap.size = _; rw [Deep.nblk_alloc, Deep.nblk_alloc]
          have HV1 : Hid ((wc.alloc (.cells #[] 37)).drew = V1) := hV1.symm
          have HV2 : Hid (((wc.alloc (.cells #[] 37)).alloc (.cells #[.int .i64 cs[k].op, .int .i64 cs[k].num, .slice ad3 n3 cap3] 37)).drew = V2) := hV2.symm
          have HV3 : Hid (((wc.alloc (.cells #[.int .i64 cs[k].op, .int .i64 cs[k].num, .slice ad3 n3 cap3] 37)).alloc (.cells #[] 37)).drew = V3) := hV3.symm
          have p0a : wc.cell? ⟨b, 0, none⟩ = some (.int .i64 cs[k].op) := q0
          have p0b : wc.cell? ⟨b, 1, none⟩ = some (.int .i64 cs[k].num) := q1
          have p0c : wc.cell? ⟨b, 2, none⟩ = some (.slice ad3 n3 cap3) := q2
          have p1a : wc.drew.cell? ⟨b, 0, none⟩ = some (.int .i64 cs[k].op) := q0
          have p1b : wc.drew.cell? ⟨b, 1, none⟩ = some (.int .i64 cs[k].num) := q1
          have p1c : wc.drew.cell? ⟨b, 2, none⟩ = some (.slice ad3 n3 cap3) := q2
          have p2a : (wc.alloc (.cells #[] 37)).cell? ⟨b, 0, none⟩ = some (.int .i64 cs[k].op) := old_cell q0 (.cells #[] 37)
          have p2b : (wc.alloc (.cells #[] 37)).cell? ⟨b, 1, none⟩ = some (.int .i64 cs[k].num) := old_cell q1 (.cells #[] 37)
          have p2c : (wc.alloc (.cells #[] 37)).cell? ⟨b, 2, none⟩ = some (.slice ad3 n3 cap3) := old_cell q2 (.cells #[] 37)
          have p3a : (wc.alloc (.cells #[] 37)).drew.cell? ⟨b, 0, none⟩ = some (.int .i64 cs[k].op) := old_cell q0 (.cells #[] 37)
          have p3b : (wc.alloc (.cells #[] 37)).drew.cell? ⟨b, 1, none⟩ = some (.int .i64 cs[k].num) := old_cell q1 (.cells #[] 37)
          have p3c : (wc.alloc (.cells #[] 37)).drew.cell? ⟨b, 2, none⟩ = some (.slice ad3 n3 cap3) := old_cell q2 (.cells #[] 37)
          have p4a : (wc.alloc (.cells #[.int .i64 cs[k].op, .int .i64 cs[k].num, .slice ad3 n3 cap3] 37)).cell? ⟨b, 0, none⟩ = some (.int .i64 cs[k].op) := old_cell q0 (.cells #[.int .i64 cs[k].op, .int .i64 cs[k].num, .slice ad3 n3 cap3] 37)
          have p4b : (wc.alloc (.cells #[.int .i64 cs[k].op, .int .i64 cs[k].num, .slice ad3 n3 cap3] 37)).cell? ⟨b, 1, none⟩ = some (.int .i64 cs[k].num) := old_cell q1 (.cells #[.int .i64 cs[k].op, .int .i64 cs[k].num, .slice ad3 n3 cap3] 37)
          have p4c : (wc.alloc (.cells #[.int .i64 cs[k].op, .int .i64 cs[k].num, .slice ad3 n3 cap3] 37)).cell? ⟨b, 2, none⟩ = some (.slice ad3 n3 cap3) := old_cell q2 (.cells #[.int .i64 cs[k].op, .int .i64 cs[k].num, .slice ad3 n3 cap3] 37)
          have p5a : (wc.alloc (.cells #[.int .i64 cs[k].op, .int .i64 cs[k].num, .slice ad3 n3 cap3] 37)).drew.cell? ⟨b, 0, none⟩ = some (.int .i64 cs[k].op) := old_cell q0 (.cells #[.int .i64 cs[k].op, .int .i64 cs[k].num, .slice ad3 n3 cap3] 37)
          have p5b : (wc.alloc (.cells #[.int .i64 cs[k].op, .int .i64 cs[k].num, .slice ad3 n3 cap3] 37)).drew.cell? ⟨b, 1, none⟩ = some (.int .i64 cs[k].num) := old_cell q1 (.cells #[.int .i64 cs[k].op, .int .i64 cs[k].num, .slice ad3 n3 cap3] 37)
          have p5c : (wc.alloc (.cells #[.int .i64 cs[k].op, .int .i64 cs[k].num, .slice ad3 n3 cap3] 37)).drew.cell? ⟨b, 2, none⟩ = some (.slice ad3 n3 cap3) := old_cell q2 (.cells #[.int .i64 cs[k].op, .int .i64 cs[k].num, .slice ad3 n3 cap3] 37)
          have p6a : ((wc.alloc (.cells #[] 37)).alloc (.cells #[.int .i64 cs[k].op, .int .i64 cs[k].num, .slice ad3 n3 cap3] 37)).cell? ⟨b, 0, none⟩ = some (.int .i64 cs[k].op) := old_cell (old_cell q0 (.cells #[] 37)) (.cells #[.int .i64 cs[k].op, .int .i64 cs[k].num, .slice ad3 n3 cap3] 37)
          have p6b : ((wc.alloc (.cells #[] 37)).alloc (.cells #[.int .i64 cs[k].op, .int .i64 cs[k].num, .slice ad3 n3 cap3] 37)).cell? ⟨b, 1, none⟩ = some (.int .i64 cs[k].num) := old_cell (old_cell q1 (.cells #[] 37)) (.cells #[.int .i64 cs[k].op, .int .i64 cs[k].num, .slice ad3 n3 cap3] 37)
          have p6c : ((wc.alloc (.cells #[] 37)).alloc (.cells #[.int .i64 cs[k].op, .int .i64 cs[k].num, .slice ad3 n3 cap3] 37)).cell? ⟨b, 2, none⟩ = some (.slice ad3 n3 cap3) := old_cell (old_cell q2 (.cells #[] 37)) (.cells #[.int .i64 cs[k].op, .int .i64 cs[k].num, .slice ad3 n3 cap3] 37)
          have p7a : ((wc.alloc (.cells #[] 37)).alloc (.cells #[.int .i64 cs[k].op, .int .i64 cs[k].num, .slice ad3 n3 cap3] 37)).drew.cell? ⟨b, 0, none⟩ = some (.int .i64 cs[k].op) := old_cell (old_cell q0 (.cells #[] 37)) (.cells #[.int .i64 cs[k].op, .int .i64 cs[k].num, .slice ad3 n3 cap3] 37)
          have p7b : ((wc.alloc (.cells #[] 37)).alloc (.cells #[.int .i64 cs[k].op, .int .i64 cs[k].num, .slice ad3 n3 cap3] 37)).drew.cell? ⟨b, 1, none⟩ = some (.int .i64 cs[k].num) := old_cell (old_cell q1 (.cells #[] 37)) (.cells #[.int .i64 cs[k].op, .int .i64 cs[k].num, .slice ad3 n3 cap3] 37)
          have p7c : ((wc.alloc (.cells #[] 37)).alloc (.cells #[.int .i64 cs[k].op, .int .i64 cs[k].num, .slice ad3 n3 cap3] 37)).drew.cell? ⟨b, 2, none⟩ = some (.slice ad3 n3 cap3) := old_cell (old_cell q2 (.cells #[] 37)) (.cells #[.int .i64 cs[k].op, .int .i64 cs[k].num, .slice ad3 n3 cap3] 37)
          have p8a : ((wc.alloc (.cells #[.int .i64 cs[k].op, .int .i64 cs[k].num, .slice ad3 n3 cap3] 37)).alloc (.cells #[] 37)).cell? ⟨b, 0, none⟩ = some (.int .i64 cs[k].op) := old_cell (old_cell q0 (.cells #[.int .i64 cs[k].op, .int .i64 cs[k].num, .slice ad3 n3 cap3] 37)) (.cells #[] 37)
          have p8b : ((wc.alloc (.cells #[.int .i64 cs[k].op, .int .i64 cs[k].num, .slice ad3 n3 cap3] 37)).alloc (.cells #[] 37)).cell? ⟨b, 1, none⟩ = some (.int .i64 cs[k].num) := old_cell (old_cell q1 (.cells #[.int .i64 cs[k].op, .int .i64 cs[k].num, .slice ad3 n3 cap3] 37)) (.cells #[] 37)
          have p8c : ((wc.alloc (.cells #[.int .i64 cs[k].op, .int .i64 cs[k].num, .slice ad3 n3 cap3] 37)).alloc (.cells #[] 37)).cell? ⟨b, 2, none⟩ = some (.slice ad3 n3 cap3) := old_cell (old_cell q2 (.cells #[.int .i64 cs[k].op, .int .i64 cs[k].num, .slice ad3 n3 cap3] 37)) (.cells #[] 37)
          have p9a : ((wc.alloc (.cells #[.int .i64 cs[k].op, .int .i64 cs[k].num, .slice ad3 n3 cap3] 37)).alloc (.cells #[] 37)).drew.cell? ⟨b, 0, none⟩ = some (.int .i64 cs[k].op) := old_cell (old_cell q0 (.cells #[.int .i64 cs[k].op, .int .i64 cs[k].num, .slice ad3 n3 cap3] 37)) (.cells #[] 37)
          have p9b : ((wc.alloc (.cells #[.int .i64 cs[k].op, .int .i64 cs[k].num, .slice ad3 n3 cap3] 37)).alloc (.cells #[] 37)).drew.cell? ⟨b, 1, none⟩ = some (.int .i64 cs[k].num) := old_cell (old_cell q1 (.cells #[.int .i64 cs[k].op, .int .i64 cs[k].num, .slice ad3 n3 cap3] 37)) (.cells #[] 37)
          have p9c : ((wc.alloc (.cells #[.int .i64 cs[k].op, .int .i64 cs[k].num, .slice ad3 n3 cap3] 37)).alloc (.cells #[] 37)).drew.cell? ⟨b, 2, none⟩ = some (.slice ad3 n3 cap3) := old_cell (old_cell q2 (.cells #[.int .i64 cs[k].op, .int .i64 cs[k].num, .slice ad3 n3 cap3] 37)) (.cells #[] 37)
          clear hV1 hV2 hV3
          go_wp2_with fail
          go_region_held3 (fun w' => w'.cell? ⟨b, 0, none⟩ = some (.int .i64 cs[k].op) ∧ w'.cell? ⟨b, 1, none⟩ = some (.int .i64 cs[k].num) ∧ w'.cell? ⟨b, 2, none⟩ = some (.slice ad3 n3 cap3))
            (first
              | go_keep
              | with_reducible exact ⟨p0a, p0b, p0c⟩
              | with_reducible exact ⟨p1a, p1b, p1c⟩
              | with_reducible exact ⟨p2a, p2b, p2c⟩
              | with_reducible exact ⟨p3a, p3b, p3c⟩
              | with_reducible exact ⟨p4a, p4b, p4c⟩
              | with_reducible exact ⟨p5a, p5b, p5c⟩
              | with_reducible exact ⟨p6a, p6b, p6c⟩
              | with_reducible exact ⟨p7a, p7b, p7c⟩
              | with_reducible exact ⟨p8a, p8b, p8c⟩
              | with_reducible exact ⟨p9a, p9b, p9c⟩
              | with_reducible exact ⟨d0, d1, d2⟩
              | with_reducible exact ⟨old_cell d0 _, old_cell d1 _, old_cell d2 _⟩
              | with_reducible exact ⟨r0, r1, r2⟩)
            (first
              | (rw [HV1.out]; refine step_append_fresh (by rfl) (.tmp 39) (.tmp 45) (by rfl) wc.heap.size HH1.out m (xs.take (m * 3)) (.slice (some ⟨g, 0, none⟩) m capg) (by rfl) (by rfl) (HTC.out.next HC1.out) (by omega) ?_; intro v4 w4 hk4 hg4 hw4; have HK4 := mkHid (own_lower hk4 (show wc.heap.size ≤ wc.heap.size by omega)); have HB4 := mkHid (fresh_below HC1.out hg4 (show wc.heap.size ≤ wc.heap.size by omega)); have d0 := (HB4.out.cell (p := ⟨b, 0, none⟩) hbl).trans q0; have d1 := (HB4.out.cell (p := ⟨b, 1, none⟩) hbl).trans q1; have d2 := (HB4.out.cell (p := ⟨b, 2, none⟩) hbl).trans q2; obtain ⟨ad4, n4, cap4, rfl⟩ := own_slice hk4; have HNA := mkHid True.intro; clear hk4 hg4 hw4)
              | (rw [HV2.out]; refine step_append_fresh (by rfl) (.tmp 39) (.tmp 45) (by rfl) wc.heap.size HH2.out m (xs.take (m * 3)) (.slice (some ⟨g, 0, none⟩) m capg) (by rfl) (by rfl) (HTC.out.next HC2.out) (by omega) ?_; intro v4 w4 hk4 hg4 hw4; have HK4 := mkHid (own_lower hk4 (show wc.heap.size ≤ wc.heap.size by omega)); have HB4 := mkHid (fresh_below HC2.out hg4 (show wc.heap.size ≤ wc.heap.size by omega)); have d0 := (HB4.out.cell (p := ⟨b, 0, none⟩) hbl).trans q0; have d1 := (HB4.out.cell (p := ⟨b, 1, none⟩) hbl).trans q1; have d2 := (HB4.out.cell (p := ⟨b, 2, none⟩) hbl).trans q2; have HNB2 : Hid (w4.heap[wc.heap.size + 1]? = some (.cells #[.int .i64 cs[k].op, .int .i64 cs[k].num, .slice ad3 n3 cap3] 37)) := (hg4.block _ (by have := HT2.out; omega) (by simp)).trans HN2.out; obtain ⟨ad4, n4, cap4, rfl⟩ := own_slice hk4; clear hk4 hg4 hw4)
              | (rw [HV3.out]; refine step_append_fresh (by rfl) (.tmp 39) (.tmp 45) (by rfl) (wc.heap.size + 1) HH3.out m (xs.take (m * 3)) (.slice (some ⟨g, 0, none⟩) m capg) (by rfl) (by rfl) (HTC.out.next HC3.out) (by omega) ?_; intro v4 w4 hk4 hg4 hw4; have HK4 := mkHid (own_lower hk4 (show wc.heap.size ≤ (wc.heap.size + 1) by omega)); have HB4 := mkHid (fresh_below HC3.out hg4 (show wc.heap.size ≤ (wc.heap.size + 1) by omega)); have d0 := (HB4.out.cell (p := ⟨b, 0, none⟩) hbl).trans q0; have d1 := (HB4.out.cell (p := ⟨b, 1, none⟩) hbl).trans q1; have d2 := (HB4.out.cell (p := ⟨b, 2, none⟩) hbl).trans q2; have HNB3 : Hid (w4.heap[wc.heap.size]? = some (.cells #[.int .i64 cs[k].op, .int .i64 cs[k].num, .slice ad3 n3 cap3] 37)) := (hg4.block _ (by have := HT3.out; omega) (by simp)).trans HN3.out; obtain ⟨ad4, n4, cap4, rfl⟩ := own_slice hk4; clear hk4 hg4 hw4)
              | (have tk := HNA; clear tk; refine step_append_where (w := w4.alloc (.cells #[.int .i64 cs[k].op, .int .i64 cs[k].num, .slice ad3 n3 cap3] 37)) (by rfl) (.tmp 46) (.tmp 48) 35 (by rfl) wc.heap.size 37 iE zE 3 40 Try.underlying35 HE.out.1 HE.out.2.1 HE.out.2.2.1 HE.out.2.2.2.1 HE.out.2.2.2.2 (by decide) (.slice ad4 n4 cap4) m (xs.take (m * 3)) (by rfl) (own_keep HK4.out (fun j _ hj => Deep.blk_alloc_lt w4 (.cells #[.int .i64 cs[k].op, .int .i64 cs[k].num, .slice ad3 n3 cap3] 37) _ hj)) ⟨w4.heap.size, 0, none⟩ 1 1 [.int .i64 cs[k].op, .int .i64 cs[k].num, .slice ad3 n3 cap3] (by rfl) (by rfl) (news3 w4 _ _ _) (by simp [Value.oneCell']) (by unfold maxLen; omega) (by omega) (HB4.out.alloc HB4.out.size (.cells #[.int .i64 cs[k].op, .int .i64 cs[k].num, .slice ad3 n3 cap3] 37)).size (by omega) ?_; intro v6 w6 hown6 hg6 hw6; have HB6 := mkHid (own_grown (own_keep HK4.out (fun j _ hj => Deep.blk_alloc_lt w4 (.cells #[.int .i64 cs[k].op, .int .i64 cs[k].num, .slice ad3 n3 cap3] 37) _ hj)) rfl (HB4.out.alloc HB4.out.size (.cells #[.int .i64 cs[k].op, .int .i64 cs[k].num, .slice ad3 n3 cap3] 37)) hg6); have HOWN6 := mkHid hown6; have r0 := (HB6.out.cell (p := ⟨b, 0, none⟩) hbl).trans q0; have r1 := (HB6.out.cell (p := ⟨b, 1, none⟩) hbl).trans q1; have r2 := (HB6.out.cell (p := ⟨b, 2, none⟩) hbl).trans q2; clear hown6 hg6 hw6)
              | (have tk := HNB2; clear tk; refine step_append_where (w := w4) (by rfl) (.tmp 46) (.tmp 48) 35 (by rfl) wc.heap.size 37 iE zE 3 40 Try.underlying35 HE.out.1 HE.out.2.1 HE.out.2.2.1 HE.out.2.2.2.1 HE.out.2.2.2.2 (by decide) (.slice ad4 n4 cap4) m (xs.take (m * 3)) (by rfl) HK4.out ⟨wc.heap.size + 1, 0, none⟩ 1 1 [.int .i64 cs[k].op, .int .i64 cs[k].num, .slice ad3 n3 cap3] (by rfl) (by rfl) (news_blk HNB2.out) (by simp [Value.oneCell']) (by unfold maxLen; omega) (by omega) HB4.out.size (by omega) ?_; intro v6 w6 hown6 hg6 hw6; have HB6 := mkHid (own_grown HK4.out rfl HB4.out hg6); have HOWN6 := mkHid hown6; have r0 := (HB6.out.cell (p := ⟨b, 0, none⟩) hbl).trans q0; have r1 := (HB6.out.cell (p := ⟨b, 1, none⟩) hbl).trans q1; have r2 := (HB6.out.cell (p := ⟨b, 2, none⟩) hbl).trans q2; clear hown6 hg6 hw6)
              | (have tk := HNB3; clear tk; refine step_append_where (w := w4) (by rfl) (.tmp 46) (.tmp 48) 35 (by rfl) wc.heap.size 37 iE zE 3 40 Try.underlying35 HE.out.1 HE.out.2.1 HE.out.2.2.1 HE.out.2.2.2.1 HE.out.2.2.2.2 (by decide) (.slice ad4 n4 cap4) m (xs.take (m * 3)) (by rfl) HK4.out ⟨wc.heap.size, 0, none⟩ 1 1 [.int .i64 cs[k].op, .int .i64 cs[k].num, .slice ad3 n3 cap3] (by rfl) (by rfl) (news_blk HNB3.out) (by simp [Value.oneCell']) (by unfold maxLen; omega) (by omega) HB4.out.size (by omega) ?_; intro v6 w6 hown6 hg6 hw6; have HB6 := mkHid (own_grown HK4.out rfl HB4.out hg6); have HOWN6 := mkHid hown6; have r0 := (HB6.out.cell (p := ⟨b, 0, none⟩) hbl).trans q0; have r1 := (HB6.out.cell (p := ⟨b, 1, none⟩) hbl).trans q1; have r2 := (HB6.out.cell (p := ⟨b, 2, none⟩) hbl).trans q2; clear hown6 hg6 hw6))
          all_goals
            obtain ⟨g6, cap6, rfl, hge, -⟩ := own_form HOWN6.out (Nat.succ_pos m)
            have HP : Hid (OwnF w6 w0.heap.size w6.heap.size (s.take m ++ [.node cs[k].op cs[k].num (s.drop m)]) (.slice (some ⟨g6, 0, none⟩) (m + 1) cap6)) := OwnF.popK HO.out rfl hm HB.out.size HX.out HER.out.2.2.1 HER.out.2.1 HIW.out.1 HIW.out.2 (own_lower HOWN6.out (Nat.le_trans HB.out.size HER.out.2.2.1.size)) (fun j hj _ => HB6.out.block j hj) HB6.out.size (Or.inr ⟨g6, rfl, hge⟩)
            have HBB : Hid (Below w0.heap.size w0 w6) := (HB.out.trans (HER.out.2.2.1.mono HB.out.size)).trans (HB6.out.mono (Nat.le_trans HB.out.size HER.out.2.2.1.size))
            go_wp2_with fail
            go_roundw
            case rel => exact ⟨k + 1, _, g6, cap6, by omega, by go_num, by rw [List.length_append, List.length_take, Nat.min_eq_left hm]; rfl, HN, HP.out, HBB.out⟩
            case measure => simp [intOf]; omega
      · exfalso
        have h := runC_no HR.out hlt hok
        rw [HRC.out] at h
        cases h
    · have hke : k = cs.length := by omega
      have hst : s = [t] := by
        have h := HR.out
        rw [hke, List.take_length] at h
        have h2 := HRC.out
        rw [h] at h2
        exact (Option.some.injEq _ _ ▸ h2 : s = [t])
      subst hst
      obtain ⟨g', capg', xa, xb, xc, hv, hg', hcg, y0, y1, y2, rfl, rfl, hf⟩ := HO.out.single
      cases hv
      have HF := mkHid hf
      obtain ⟨adk, capk, rfl, -, -, -⟩ := id hf.on.btw_in
      have hz := (HB.out.block w.heap.size (by have := HS0.out; omega)).trans HZ0.out
      have r0 := cell_of_blk hz 0 _ rfl
      have r1 := cell_of_blk hz 1 _ rfl
      have r2 := cell_of_blk hz 2 _ rfl
      have rf := fun i => frz_of_blk hz i
      have hone : (([t] : List Tr).length : Int) = 1 := rfl
      clear hke hb hf hz
      go_wp2_with fail
      refine bodyPost_ret (v := .agg #[.int .i64 t.op, .int .i64 t.num, .slice adk t.kids.length capk]) (by simp [results, Try.results45, go_sem, r0, r1, r2]) rfl ⟨_, rfl, ?_, ?_⟩
      · refine Fresh.mono (lo := w0.heap.size) ?_ (by have := HS0.out; omega) (fun _ _ _ => rfl)
        have hlt0 : w.heap.size < w0.heap.size := by have := HS0.out; omega
        repeat' (refine Fresh.setCell ?_ (by simpa using hlt0) _)
        exact HF.out
      · repeat' (refine Below.setCell ?_ (by simp) _)
        exact HBA.out
end Go.Proofs.Ythknbafcnobgdaa
