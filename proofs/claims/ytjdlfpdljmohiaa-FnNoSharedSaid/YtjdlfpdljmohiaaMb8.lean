/-
  THE MODEL's DRAWN EXPRESSION (l1Some): some tree in new memory, of at most 4^depth nodes, for at most 8 * 4^depth draws; nothing is changed but the reader's own block.
-/
import Derived.Test.YtjdlfpdljmohiaaMb7
import Derived.Test.YtjdlfpdljmohiaaMb5
namespace Go.Proofs.Ytjdlfpdljmohiaa
set_option linter.unusedVariables false
set_option linter.unusedSimpArgs false
open Go.RowKit

/-- the depth of a drawn expression -/
def ddp (d : Nat) : Nat := if d < 2 then 1 else d
/-- of so many nodes at most, and well formed -/
def SzSh (vars defs : Int) (d : Nat) (t : Tr) : Prop := 1 + szL t.kids ≤ 4 ^ d ∧ shB vars defs (ddp d) t = true
def LsSh (vars defs : Int) (d k : Nat) (ts : List Tr) : Prop := szL ts ≤ k * 4 ^ d ∧ ∀ t ∈ ts, shB vars defs (ddp d) t = true
theorem leaf_shB {o n vars defs : Int} (h : arity o = 0 ∧ ownB o n vars defs = true) (d : Nat) : shB vars defs (ddp d) (.node o n []) = true := by
  have hd : ∃ e, ddp d = e + 1 := by
    unfold ddp
    split
    · exact ⟨0, rfl⟩
    · exact ⟨d - 1, by omega⟩
  obtain ⟨e, he⟩ := hd
  rw [he]
  simp [shB, h.1, h.2]
theorem leaf1 {n vars defs : Int} (h : 0 ≤ n ∧ n < vars) : arity 1 = 0 ∧ ownB 1 n vars defs = true := ⟨by simp [arity], by simp [ownB]; omega⟩
theorem leaf2 {n vars defs : Int} (h : 0 ≤ n ∧ n ≤ 999) : arity 2 = 0 ∧ ownB 2 n vars defs = true := ⟨by simp [arity], by simp [ownB]; omega⟩
theorem leaf3 {n vars defs : Int} (h : 0 ≤ n ∧ n < defs) : arity 3 = 0 ∧ ownB 3 n vars defs = true := ⟨by simp [arity], by simp [ownB]; omega⟩
theorem ar_pos {op : Int} (h : 4 ≤ op ∧ op ≤ 10) : 1 ≤ arity op := by
  unfold arity
  repeat' split
  all_goals omega
theorem node_shB {op vars defs : Int} {d : Nat} {ts : List Tr} (hl : (ts.length : Int) = arity op) (ho : 4 ≤ op) (h : ∀ t ∈ ts, shB vars defs (ddp (d + 1)) t = true) : shB vars defs (ddp (d + 2)) (.node op 0 ts) = true := by
  have h1 : ddp (d + 2) = (d + 1) + 1 := by unfold ddp; rw [if_neg (by omega)]
  have h2 : ddp (d + 1) = d + 1 := by unfold ddp; split <;> omega
  rw [h1, shB]
  rw [h2] at h
  simp only [Tr.kids_node, Tr.op_node, Tr.num_node, Bool.and_eq_true, decide_eq_true_eq, List.all_eq_true]
  refine ⟨⟨decide_eq_true hl, ?_⟩, h⟩
  unfold ownB
  rw [if_neg (by omega), if_neg (by omega), if_neg (by omega)]
  rfl
def SomeTr (vars defs : Int) (d : Nat) (w : World) (b p : Nat) (e : Ending) (w' : World) : Prop :=
  ∃ (t : Tr) (c : Value) (p' : Nat), e = .returned (.agg #[.int .i64 t.op, .int .i64 t.num, c]) ∧ I64 t.op ∧ I64 t.num ∧ KidsOn w' (Btw w.heap.size w'.heap.size) t.kids c ∧ SzSh vars defs d t ∧ RdOn w' b p' ∧ p' ≤ p + 8 * 4 ^ d ∧ But b w w'

def SmSaid (d : Nat) : Prop := ∀ (vars defs : Int) (w : World) (b p : Nat), vars ≤ 1000000 → defs ≤ 1000000 → RdOn w b p → p + 8 * 4 ^ d ≤ 1099511627776 →
  Calls Try.prog 62 #[.pointer (some ⟨b, 0, none⟩), .int .i64 vars, .int .i64 defs, .int .i64 (d : Int)] w (SomeTr vars defs d w b p)

/-- the result's block -/
abbrev zeroE : Obj := .cells #[.int .i64 0, .int .i64 0, .slice none 0 0] 30

/-- a leaf -/
theorem leaf_end {vars defs : Int} {d : Nat} {w wx : World} {b p p' : Nat} (hb : But b w wx) (hlt : w.heap.size < wx.heap.size) (hR : wx.heap[w.heap.size]? = some zeroE) (hr : RdOn wx b p') (hbw : b < w.heap.size) (hp : p' ≤ p + 8) (o n : Int) (ho : I64 o) (hn : I64 n) (hsh : arity o = 0 ∧ ownB o n vars defs = true) :
    SomeTr vars defs d w b p (.returned (.agg #[.int .i64 o, .int .i64 n, .slice none 0 0])) (((wx.setCell ⟨w.heap.size, 0, none⟩ (.int .i64 o)).setCell ⟨w.heap.size, 1, none⟩ (.int .i64 n)).setCell ⟨w.heap.size, 2, none⟩ (.slice none 0 0)) := by
  have h4 : 1 ≤ 4 ^ d := Nat.one_le_pow _ _ (by omega)
  refine ⟨.node o n [], .slice none 0 0, p', rfl, ho, hn, ⟨none, 0, rfl, Nat.le_refl _, by simp [maxLen], Or.inl rfl⟩, ⟨by simpa [szL] using h4, leaf_shB hsh d⟩, ?_, by omega, ?_⟩
  · exact ((hr.setCell (by exact hbw) _).setCell (by exact hbw) _).setCell (by exact hbw) _
  · exact ((hb.setNew (by exact Nat.le_refl _) _).setNew (by exact Nat.le_refl _) _).setNew (by exact Nat.le_refl _) _

/-- a list of numbers that was just laid -/
theorem ints_at (W : World) (g : Nat) (hg : W.heap.size = g) (b : Nat) (L : List Int) (C : Array Value) (hb : b < g) (hC : C.size = L.length) (hc : ∀ i (hi : i < L.length), C[i]? = some (.int .i64 L[i])) :
    IntsBut (W.alloc (.cells C 3)) b L (.slice (some ⟨g, 0, none⟩) L.length L.length) := by
  subst hg
  exact ⟨W.heap.size, 0, L.length, rfl, by omega, by rw [Deep.nblk_alloc]; omega, fun i hi => by rw [Nat.zero_add]; exact box_cell W C _ i _ (hc i hi)⟩
theorem ints6 : ∀ i (hi : i < [(0 : Int), 1, 2, 3, 999, 10].length), (#[.int .i64 0, .int .i64 1, .int .i64 2, .int .i64 3, .int .i64 999, .int .i64 10] : Array Value)[i]? = some (.int .i64 [(0 : Int), 1, 2, 3, 999, 10][i]) := by
  intro i hi
  match i, hi with
  | 0, _ => rfl
  | 1, _ => rfl
  | 2, _ => rfl
  | 3, _ => rfl
  | 4, _ => rfl
  | 5, _ => rfl

set_option maxRecDepth 100000 in
set_option maxHeartbeats 3200000 in
theorem sm_leaf0 (d : Nat) (hd : d < 2) (vars defs : Int) (w : World) (b p : Nat) (h : RdOn w b p) (hv : vars ≤ 1000000) (hf : defs ≤ 1000000) (hp : p + 8 ≤ 1099511627776) :
    Calls Try.prog 62 #[.pointer (some ⟨b, 0, none⟩), .int .i64 vars, .int .i64 defs, .int .i64 (d : Int)] w (SomeTr vars defs d w b p) := by
  have hbw := h.lt
  have HR0 : Hid (RdOn (w.alloc zeroE) b p) := h.next (box_below _ _)
  have HB0 : Hid (But b w (w.alloc zeroE)) := But.of_below (box_below _ _)
  have HZ0 : Hid ((w.alloc zeroE).heap[w.heap.size]? = some zeroE) := Deep.blk_alloc_new _ _
  have lt0 : w.heap.size < (w.alloc zeroE).heap.size := by rw [Deep.nblk_alloc]; omega
  have d1 : decide ((d : Int) < 2) = true := by simp; omega
  clear h
  go_enter Try.func62, Try.ntmps62
  by_cases hv0 : 0 < vars
  · go_wp2_with fail
    refine (pick_calls 2 _ b _ HR0.out (by omega) (by omega)).mono ?_
    rintro e w1 ⟨x1, rfl, x1l, x1u, x1z, hr1, hb1⟩
    have HR1 : Hid (RdOn w1 b _) := hr1
    have HB1 : Hid (But b w w1) := HB0.out.trans hb1
    have HZ1 : Hid (w1.heap[w.heap.size]? = some zeroE) := (hb1.block _ lt0 (by omega)).trans HZ0.out
    have lt1 : w.heap.size < w1.heap.size := Nat.lt_of_lt_of_le lt0 hb1.size
    clear hr1 hb1
    by_cases x1e : x1 = 0
    · subst x1e
      clear x1u x1z x1l
      go_wp2_with fail
      refine (pick_calls vars _ b _ HR1.out (by omega) (by omega)).mono ?_
      rintro e w2 ⟨x2, rfl, x2l, x2u, x2z, hr2, hb2⟩
      have HR2 : Hid (RdOn w2 b _) := hr2
      have HB2 : Hid (But b w w2) := HB1.out.trans hb2
      have HZ2 : Hid (w2.heap[w.heap.size]? = some zeroE) := (hb2.block _ lt1 (by omega)).trans HZ1.out
      have lt2 : w.heap.size < w2.heap.size := Nat.lt_of_lt_of_le lt1 hb2.size
      clear hr2 hb2
      have x2v := x2u hv0
      clear x2u x2z
      have r0 := cell_of_blk HZ2.out 0 _ rfl
      have r1 := cell_of_blk HZ2.out 1 _ rfl
      have r2 := cell_of_blk HZ2.out 2 _ rfl
      have q0 := frz_of_blk HZ2.out 0
      have q1 := frz_of_blk HZ2.out 1
      have q2 := frz_of_blk HZ2.out 2
      have HE : Hid _ := leaf_end (vars := vars) (defs := defs) (d := d) HB2.out lt2 HZ2.out HR2.out hbw (p := p) (by omega) 1 x2 (by unfold I64; omega) (by unfold I64; omega) (leaf1 (by omega))
      go_wp2_with fail
      refine bodyPost_ret (v := .agg #[.int .i64 1, .int .i64 x2, .slice none 0 0]) (by simp [results, Try.results62, go_sem, r0, r1, r2]) rfl ?_
      exact HE.out
    · have x1b : (x1 == 0) = false := by simpa using x1e
      clear x1u x1z
      by_cases hd0 : 0 < defs
      · go_wp2_with fail
        refine (pick_calls 3 _ b _ HR1.out (by omega) (by omega)).mono ?_
        rintro e w3 ⟨x3, rfl, x3l, x3u, x3z, hr3, hb3⟩
        have HR3 : Hid (RdOn w3 b _) := hr3
        have HB3 : Hid (But b w w3) := HB1.out.trans hb3
        have HZ3 : Hid (w3.heap[w.heap.size]? = some zeroE) := (hb3.block _ lt1 (by omega)).trans HZ1.out
        have lt3 : w.heap.size < w3.heap.size := Nat.lt_of_lt_of_le lt1 hb3.size
        clear hr3 hb3
        by_cases x3e : x3 = 0
        · subst x3e
          clear x3u x3z x3l
          go_wp2_with fail
          refine (pick_calls defs _ b _ HR3.out (by omega) (by omega)).mono ?_
          rintro e w4 ⟨x4, rfl, x4l, x4u, x4z, hr4, hb4⟩
          have HR4 : Hid (RdOn w4 b _) := hr4
          have HB4 : Hid (But b w w4) := HB3.out.trans hb4
          have HZ4 : Hid (w4.heap[w.heap.size]? = some zeroE) := (hb4.block _ lt3 (by omega)).trans HZ3.out
          have lt4 : w.heap.size < w4.heap.size := Nat.lt_of_lt_of_le lt3 hb4.size
          clear hr4 hb4
          have x4v := x4u hd0
          clear x4u x4z
          have r0 := cell_of_blk HZ4.out 0 _ rfl
          have r1 := cell_of_blk HZ4.out 1 _ rfl
          have r2 := cell_of_blk HZ4.out 2 _ rfl
          have q0 := frz_of_blk HZ4.out 0
          have q1 := frz_of_blk HZ4.out 1
          have q2 := frz_of_blk HZ4.out 2
          have HE : Hid _ := leaf_end (vars := vars) (defs := defs) (d := d) HB4.out lt4 HZ4.out HR4.out hbw (p := p) (by omega) 3 x4 (by unfold I64; omega) (by unfold I64; omega) (leaf3 (by omega))
          go_wp2_with fail
          refine bodyPost_ret (v := .agg #[.int .i64 3, .int .i64 x4, .slice none 0 0]) (by simp [results, Try.results62, go_sem, r0, r1, r2]) rfl ?_
          exact HE.out
        · have x3b : (x3 == 0) = false := by simpa using x3e
          clear x3u x3z
          go_wp2_with fail
          refine (num_calls [0, 1, 2, 3, 999, 10] (.slice (some ⟨w3.heap.size, 0, none⟩) 6 6) _ b _ (HR3.out.next (box_below _ _)) (by omega) (ints_at w3 w3.heap.size rfl b [0, 1, 2, 3, 999, 10] #[.int .i64 0, .int .i64 1, .int .i64 2, .int .i64 3, .int .i64 999, .int .i64 10] (by have := lt3; omega) rfl ints6) (by simp) (by simp)).mono ?_
          rintro e w5 ⟨y5, rfl, hy5, hr5, hb5⟩
          have HR5 : Hid (RdOn w5 b _) := hr5
          have hbb5 : But b w3 w5 := (But.of_below (box_below _ _)).trans hb5
          have HB5 : Hid (But b w w5) := HB3.out.trans hbb5
          have HZ5 : Hid (w5.heap[w.heap.size]? = some zeroE) := (hbb5.block _ lt3 (by omega)).trans HZ3.out
          have lt5 : w.heap.size < w5.heap.size := Nat.lt_of_lt_of_le lt3 hbb5.size
          have rg5 : 0 ≤ y5 ∧ y5 ≤ 999 := by simp at hy5; omega
          clear hr5 hb5 hbb5 hy5
          have r0 := cell_of_blk HZ5.out 0 _ rfl
          have r1 := cell_of_blk HZ5.out 1 _ rfl
          have r2 := cell_of_blk HZ5.out 2 _ rfl
          have q0 := frz_of_blk HZ5.out 0
          have q1 := frz_of_blk HZ5.out 1
          have q2 := frz_of_blk HZ5.out 2
          have HE : Hid _ := leaf_end (vars := vars) (defs := defs) (d := d) HB5.out lt5 HZ5.out HR5.out hbw (p := p) (by omega) 2 y5 (by unfold I64; omega) (by unfold I64; omega) (leaf2 (by omega))
          go_wp2_with fail
          refine bodyPost_ret (v := .agg #[.int .i64 2, .int .i64 y5, .slice none 0 0]) (by simp [results, Try.results62, go_sem, r0, r1, r2]) rfl ?_
          exact HE.out
      · have hd0' : decide (0 < defs) = false := by simpa using hd0
        go_wp2_with fail
        refine (num_calls [0, 1, 2, 3, 999, 10] (.slice (some ⟨w1.heap.size, 0, none⟩) 6 6) _ b _ (HR1.out.next (box_below _ _)) (by omega) (ints_at w1 w1.heap.size rfl b [0, 1, 2, 3, 999, 10] #[.int .i64 0, .int .i64 1, .int .i64 2, .int .i64 3, .int .i64 999, .int .i64 10] (by have := lt1; omega) rfl ints6) (by simp) (by simp)).mono ?_
        rintro e w6 ⟨y6, rfl, hy6, hr6, hb6⟩
        have HR6 : Hid (RdOn w6 b _) := hr6
        have hbb6 : But b w1 w6 := (But.of_below (box_below _ _)).trans hb6
        have HB6 : Hid (But b w w6) := HB1.out.trans hbb6
        have HZ6 : Hid (w6.heap[w.heap.size]? = some zeroE) := (hbb6.block _ lt1 (by omega)).trans HZ1.out
        have lt6 : w.heap.size < w6.heap.size := Nat.lt_of_lt_of_le lt1 hbb6.size
        have rg6 : 0 ≤ y6 ∧ y6 ≤ 999 := by simp at hy6; omega
        clear hr6 hb6 hbb6 hy6
        have r0 := cell_of_blk HZ6.out 0 _ rfl
        have r1 := cell_of_blk HZ6.out 1 _ rfl
        have r2 := cell_of_blk HZ6.out 2 _ rfl
        have q0 := frz_of_blk HZ6.out 0
        have q1 := frz_of_blk HZ6.out 1
        have q2 := frz_of_blk HZ6.out 2
        have HE : Hid _ := leaf_end (vars := vars) (defs := defs) (d := d) HB6.out lt6 HZ6.out HR6.out hbw (p := p) (by omega) 2 y6 (by unfold I64; omega) (by unfold I64; omega) (leaf2 (by omega))
        go_wp2_with fail
        refine bodyPost_ret (v := .agg #[.int .i64 2, .int .i64 y6, .slice none 0 0]) (by simp [results, Try.results62, go_sem, r0, r1, r2]) rfl ?_
        exact HE.out
  · have hv0' : decide (0 < vars) = false := by simpa using hv0
    by_cases hd0 : 0 < defs
    · go_wp2_with fail
      refine (pick_calls 3 _ b _ HR0.out (by omega) (by omega)).mono ?_
      rintro e w7 ⟨x7, rfl, x7l, x7u, x7z, hr7, hb7⟩
      have HR7 : Hid (RdOn w7 b _) := hr7
      have HB7 : Hid (But b w w7) := HB0.out.trans hb7
      have HZ7 : Hid (w7.heap[w.heap.size]? = some zeroE) := (hb7.block _ lt0 (by omega)).trans HZ0.out
      have lt7 : w.heap.size < w7.heap.size := Nat.lt_of_lt_of_le lt0 hb7.size
      clear hr7 hb7
      by_cases x7e : x7 = 0
      · subst x7e
        clear x7u x7z x7l
        go_wp2_with fail
        refine (pick_calls defs _ b _ HR7.out (by omega) (by omega)).mono ?_
        rintro e w8 ⟨x8, rfl, x8l, x8u, x8z, hr8, hb8⟩
        have HR8 : Hid (RdOn w8 b _) := hr8
        have HB8 : Hid (But b w w8) := HB7.out.trans hb8
        have HZ8 : Hid (w8.heap[w.heap.size]? = some zeroE) := (hb8.block _ lt7 (by omega)).trans HZ7.out
        have lt8 : w.heap.size < w8.heap.size := Nat.lt_of_lt_of_le lt7 hb8.size
        clear hr8 hb8
        have x8v := x8u hd0
        clear x8u x8z
        have r0 := cell_of_blk HZ8.out 0 _ rfl
        have r1 := cell_of_blk HZ8.out 1 _ rfl
        have r2 := cell_of_blk HZ8.out 2 _ rfl
        have q0 := frz_of_blk HZ8.out 0
        have q1 := frz_of_blk HZ8.out 1
        have q2 := frz_of_blk HZ8.out 2
        have HE : Hid _ := leaf_end (vars := vars) (defs := defs) (d := d) HB8.out lt8 HZ8.out HR8.out hbw (p := p) (by omega) 3 x8 (by unfold I64; omega) (by unfold I64; omega) (leaf3 (by omega))
        go_wp2_with fail
        refine bodyPost_ret (v := .agg #[.int .i64 3, .int .i64 x8, .slice none 0 0]) (by simp [results, Try.results62, go_sem, r0, r1, r2]) rfl ?_
        exact HE.out
      · have x7b : (x7 == 0) = false := by simpa using x7e
        clear x7u x7z
        go_wp2_with fail
        refine (num_calls [0, 1, 2, 3, 999, 10] (.slice (some ⟨w7.heap.size, 0, none⟩) 6 6) _ b _ (HR7.out.next (box_below _ _)) (by omega) (ints_at w7 w7.heap.size rfl b [0, 1, 2, 3, 999, 10] #[.int .i64 0, .int .i64 1, .int .i64 2, .int .i64 3, .int .i64 999, .int .i64 10] (by have := lt7; omega) rfl ints6) (by simp) (by simp)).mono ?_
        rintro e w9 ⟨y9, rfl, hy9, hr9, hb9⟩
        have HR9 : Hid (RdOn w9 b _) := hr9
        have hbb9 : But b w7 w9 := (But.of_below (box_below _ _)).trans hb9
        have HB9 : Hid (But b w w9) := HB7.out.trans hbb9
        have HZ9 : Hid (w9.heap[w.heap.size]? = some zeroE) := (hbb9.block _ lt7 (by omega)).trans HZ7.out
        have lt9 : w.heap.size < w9.heap.size := Nat.lt_of_lt_of_le lt7 hbb9.size
        have rg9 : 0 ≤ y9 ∧ y9 ≤ 999 := by simp at hy9; omega
        clear hr9 hb9 hbb9 hy9
        have r0 := cell_of_blk HZ9.out 0 _ rfl
        have r1 := cell_of_blk HZ9.out 1 _ rfl
        have r2 := cell_of_blk HZ9.out 2 _ rfl
        have q0 := frz_of_blk HZ9.out 0
        have q1 := frz_of_blk HZ9.out 1
        have q2 := frz_of_blk HZ9.out 2
        have HE : Hid _ := leaf_end (vars := vars) (defs := defs) (d := d) HB9.out lt9 HZ9.out HR9.out hbw (p := p) (by omega) 2 y9 (by unfold I64; omega) (by unfold I64; omega) (leaf2 (by omega))
        go_wp2_with fail
        refine bodyPost_ret (v := .agg #[.int .i64 2, .int .i64 y9, .slice none 0 0]) (by simp [results, Try.results62, go_sem, r0, r1, r2]) rfl ?_
        exact HE.out
    · have hd0' : decide (0 < defs) = false := by simpa using hd0
      go_wp2_with fail
      refine (num_calls [0, 1, 2, 3, 999, 10] (.slice (some ⟨(w.heap.size + 1), 0, none⟩) 6 6) _ b _ (HR0.out.next (box_below _ _)) (by omega) (ints_at (w.alloc zeroE) (w.heap.size + 1) (Deep.nblk_alloc _ _) b [0, 1, 2, 3, 999, 10] #[.int .i64 0, .int .i64 1, .int .i64 2, .int .i64 3, .int .i64 999, .int .i64 10] (by have := lt0; omega) rfl ints6) (by simp) (by simp)).mono ?_
      rintro e w10 ⟨y10, rfl, hy10, hr10, hb10⟩
      have HR10 : Hid (RdOn w10 b _) := hr10
      have hbb10 : But b (w.alloc zeroE) w10 := (But.of_below (box_below _ _)).trans hb10
      have HB10 : Hid (But b w w10) := HB0.out.trans hbb10
      have HZ10 : Hid (w10.heap[w.heap.size]? = some zeroE) := (hbb10.block _ lt0 (by omega)).trans HZ0.out
      have lt10 : w.heap.size < w10.heap.size := Nat.lt_of_lt_of_le lt0 hbb10.size
      have rg10 : 0 ≤ y10 ∧ y10 ≤ 999 := by simp at hy10; omega
      clear hr10 hb10 hbb10 hy10
      have r0 := cell_of_blk HZ10.out 0 _ rfl
      have r1 := cell_of_blk HZ10.out 1 _ rfl
      have r2 := cell_of_blk HZ10.out 2 _ rfl
      have q0 := frz_of_blk HZ10.out 0
      have q1 := frz_of_blk HZ10.out 1
      have q2 := frz_of_blk HZ10.out 2
      have HE : Hid _ := leaf_end (vars := vars) (defs := defs) (d := d) HB10.out lt10 HZ10.out HR10.out hbw (p := p) (by omega) 2 y10 (by unfold I64; omega) (by unfold I64; omega) (leaf2 (by omega))
      go_wp2_with fail
      refine bodyPost_ret (v := .agg #[.int .i64 2, .int .i64 y10, .slice none 0 0]) (by simp [results, Try.results62, go_sem, r0, r1, r2]) rfl ?_
      exact HE.out
end Go.Proofs.Ytjdlfpdljmohiaa
/-
  THE MODEL's DRAWN EXPRESSION (l1Some): the nodes with operands.
-/
namespace Go.Proofs.Ytjdlfpdljmohiaa
set_option linter.unusedVariables false
set_option linter.unusedSimpArgs false
open Go.RowKit

theorem RdOn.drew {w : World} {b p : Nat} (h : RdOn w b p) : RdOn w.drew b p := h.next ((Below.refl _ _).drew)

/-- what holds behind k rounds -/
def SmRel (vars defs : Int) (op : Int) (d : Nat) (w : World) (b p B : Nat) (k : Nat) (wr : World) : Prop :=
  ∃ ts v p', ts.length = k ∧ ApRel op 0 ts B (B + 1) v wr ∧ RdOn wr b p' ∧ LsSh vars defs d k ts ∧ p' ≤ p + 3 + k * (1 + 8 * 4 ^ d) ∧ But b w wr ∧ wr.heap[w.heap.size]? = some zeroE ∧ B + 1 ≤ wr.heap.size

theorem smRel_step {vars defs : Int} {op : Int} {d : Nat} {w : World} {b p B k : Nat} {wr w1 w3 : World} {ts : List Tr} {v v' : Value} {p1 : Nat} {t : Tr} {c : Value} {xs : List Value} (hlen : ts.length = k) (hap : ApRel op 0 ts B (B + 1) v wr) (hbw : b < w.heap.size) (hBw : w.heap.size < B) (hB1 : B + 1 ≤ wr.heap.size) (hbut : But b w wr) (hR : wr.heap[w.heap.size]? = some zeroE)
    (hb1 : But b wr w1) (hr1 : RdOn w1 b p1) (hk : KidsOn w1 (Btw wr.heap.size w1.heap.size) t.kids c) (ho : I64 t.op) (hn : I64 t.num)
    (hx : (w1.alloc (.cells #[.int .i64 t.op, .int .i64 t.num, c] 30)).ownsRow (B + 1) 30 3 v ts.length xs)
    (hown : w3.ownsRow (B + 1) 30 3 v' (k + 1) (xs ++ [.int .i64 t.op, .int .i64 t.num, c])) (hg : (w1.alloc (.cells #[.int .i64 t.op, .int .i64 t.num, c] 30)).grownBy w3 v.ownBlock) (hw : v'.ownBlock = v.ownBlock ∨ ∃ g, v'.ownBlock = some g ∧ (w1.alloc (.cells #[.int .i64 t.op, .int .i64 t.num, c] 30)).heap.size ≤ g)
    (hxs : ∀ j (hj : j < ts.length), ∃ a b c', xs[j * 3]? = some a ∧ xs[j * 3 + 1]? = some b ∧ xs[j * 3 + 2]? = some c' ∧ TrOn (w1.alloc (.cells #[.int .i64 t.op, .int .i64 t.num, c] 30)) (fun k => B + 1 ≤ k ∧ k < (w1.alloc (.cells #[.int .i64 t.op, .int .i64 t.num, c] 30)).heap.size ∧ some k ≠ v.ownBlock) ts[j] a b c')
    (hsz : LsSh vars defs d k ts) (ht : SzSh vars defs d t) (hp : p1 ≤ p + 3 + (k + 1) * (1 + 8 * 4 ^ d)) : SmRel vars defs op d w b p B (k + 1) (w3.setCell ⟨B, 2, none⟩ v') := by
  obtain ⟨hsz, hsh⟩ := hsz
  obtain ⟨ht, hth⟩ := ht
  have hs1 := hb1.size
  have hs3 : w1.heap.size ≤ w3.heap.size := by have := hg.size; rw [Deep.nblk_alloc] at this; omega
  have hoth := fun j hj hjw => apBut_other (B := B) (b := b) hap hs1 hg j hj hjw
  refine ⟨ts ++ [t], v', p1, by simp [hlen], apBut_step hap (by omega) (by omega) (by omega) hB1 hb1 hk ho hn xs hx (by rw [hlen]; exact hown) hg hw hxs, ?_, ?_, hp, ?_, ?_, by rw [size_setCell]; omega⟩
  · refine hr1.keep fun j hj => ?_
    rw [Below.heap_setCell _ _ _ _ (by show j ≠ B; omega)]
    exact hoth j (by omega) (by omega)
  · refine ⟨?_, fun x hx => ?_⟩
    · rw [szL_append]
      simp only [szL]
      rw [szT_eq, Nat.add_mul]
      omega
    · rw [List.mem_append, List.mem_singleton] at hx
      rcases hx with hx | rfl
      · exact hsh x hx
      · exact hth
  · have h2 := hbut.trans hb1
    refine ⟨?_, ?_, ?_, ?_, fun j hj hjb => ?_⟩
    · show w3.os = w.os; rw [hg.os]; exact h2.os
    · show w3.tape = w.tape; rw [hg.tape]; exact h2.tape
    · show w3.output = w.output; rw [hg.output]; exact h2.output
    · rw [size_setCell]; exact Nat.le_trans h2.size hs3
    · rw [Below.heap_setCell _ _ _ _ (by show j ≠ B; omega), hoth j (by omega) (by have := h2.size; omega)]
      exact h2.block j hj hjb
  · rw [Below.heap_setCell _ _ _ _ (by show w.heap.size ≠ B; omega), hoth _ (by omega) (by omega), hb1.block _ (by omega) (by omega)]
    exact hR

theorem ApRel.but {o n : Int} {ts : List Tr} {B lo b : Nat} {v : Value} {w w' : World} (h : ApRel o n ts B lo v w) (hb : But b w w') (hlo : b < lo) (hB : B ≠ b) : ApRel o n ts B lo v w' :=
  ⟨h.1.next hb.size (fun k h1 h2 => hb.block k h2 (by omega)), (hb.block B (Array.getElem?_eq_some_iff.1 h.2).1 hB).trans h.2⟩
theorem smRel_start {vars defs : Int} {op : Int} {d : Nat} {w w2 : World} {b p p' : Nat} (hb : But b w w2) (hr : RdOn w2 b p') (hp : p' ≤ p + 3) (hR : w2.heap[w.heap.size]? = some zeroE) (hlt : w.heap.size < w2.heap.size) :
    SmRel vars defs op d w b p w2.heap.size 0 (w2.alloc (.cells #[.int .i64 op, .int .i64 0, .slice none 0 0] 30)) := by
  refine ⟨[], .slice none 0 0, p', rfl, ⟨OwnTr.nil _ _, Deep.blk_alloc_new _ _⟩, hr.next (box_below _ _), ⟨by simp [szL], by simp⟩, by omega, hb.trans (But.of_below (box_below _ _)), ?_, by rw [Deep.nblk_alloc]; omega⟩
  rw [Deep.blk_alloc_lt _ _ _ hlt]; exact hR
/-- the end of the loop -/
theorem smRel_end {vars defs : Int} {op : Int} {d : Nat} {w wr : World} {b p B k : Nat} {ts : List Tr} {v : Value} {p' : Nat} (hlen : ts.length = k) (hap : ApRel op 0 ts B (B + 1) v wr) (hr : RdOn wr b p') (hsz : LsSh vars defs (d + 1) k ts) (hp' : p' ≤ p + 3 + k * (1 + 8 * 4 ^ (d + 1))) (hbut : But b w wr) (hbw : b < w.heap.size) (hBw : w.heap.size < B) (hk : k ≤ 3) (ho : I64 op) (ha : (k : Int) = arity op) (h4o : 4 ≤ op) :
    SomeTr vars defs (d + 2) w b p (.returned (.agg #[.int .i64 op, .int .i64 0, v])) (((wr.setCell ⟨w.heap.size, 0, none⟩ (.int .i64 op)).setCell ⟨w.heap.size, 1, none⟩ (.int .i64 0)).setCell ⟨w.heap.size, 2, none⟩ v) := by
  obtain ⟨hsz, hsh⟩ := hsz
  have h1 : 1 ≤ 4 ^ (d + 1) := Nat.one_le_pow _ _ (by omega)
  have h2 : 4 ^ (d + 2) = 4 * 4 ^ (d + 1) := by rw [Nat.pow_succ 4 (d + 1)]; omega
  have h3 : k * 4 ^ (d + 1) ≤ 3 * 4 ^ (d + 1) := Nat.mul_le_mul_right _ hk
  have h4 : k * (1 + 8 * 4 ^ (d + 1)) ≤ 3 * (1 + 8 * 4 ^ (d + 1)) := Nat.mul_le_mul_right _ hk
  refine ⟨.node op 0 ts, v, p', rfl, ho, by show I64 0; unfold I64; omega, ?_, ⟨by simp only [Tr.kids_node]; omega, node_shB (by rw [hlen]; exact ha) h4o hsh⟩, ?_, by omega, ?_⟩
  · simp only [size_setCell]
    have hkk := hap.1.kids
    exact (((hkk.setCell (by simp [Btw] <;> omega) _).setCell (by simp [Btw] <;> omega) _).setCell (by simp [Btw] <;> omega) _).mono (fun k hk => ⟨by have := hk.1; omega, hk.2⟩) (fun _ _ => rfl)
  · exact ((hr.setCell (by exact hbw) _).setCell (by exact hbw) _).setCell (by exact hbw) _
  · exact ((hbut.setNew (by exact Nat.le_refl _) _).setNew (by exact Nat.le_refl _) _).setNew (by exact Nat.le_refl _) _

theorem ints10 : ∀ i (hi : i < [(4 : Int), 4, 5, 6, 7, 8, 9, 10, 4, 8].length), (#[.int .i64 4, .int .i64 4, .int .i64 5, .int .i64 6, .int .i64 7, .int .i64 8, .int .i64 9, .int .i64 10, .int .i64 4, .int .i64 8] : Array Value)[i]? = some (.int .i64 [(4 : Int), 4, 5, 6, 7, 8, 9, 10, 4, 8][i]) := by
  intro i hi
  match i, hi with
  | 0, _ => rfl
  | 1, _ => rfl
  | 2, _ => rfl
  | 3, _ => rfl
  | 4, _ => rfl
  | 5, _ => rfl
  | 6, _ => rfl
  | 7, _ => rfl
  | 8, _ => rfl
  | 9, _ => rfl
theorem ops_range (i : Nat) (hi : i < [(4 : Int), 4, 5, 6, 7, 8, 9, 10, 4, 8].length) : 4 ≤ [(4 : Int), 4, 5, 6, 7, 8, 9, 10, 4, 8][i] ∧ [(4 : Int), 4, 5, 6, 7, 8, 9, 10, 4, 8][i] ≤ 10 := by
  match i, hi with
  | 0, _ => simp
  | 1, _ => simp
  | 2, _ => simp
  | 3, _ => simp
  | 4, _ => simp
  | 5, _ => simp
  | 6, _ => simp
  | 7, _ => simp
  | 8, _ => simp
  | 9, _ => simp
theorem arity_range (op : Int) : -1 ≤ arity op ∧ arity op ≤ 3 := by
  unfold arity
  repeat' split
  all_goals omega

set_option maxRecDepth 100000 in
set_option maxHeartbeats 12800000 in
theorem sm_succ (d : Nat) (hd : d ≤ 100) (ih : SmSaid (d + 1)) : SmSaid (d + 2) := by
  intro vars defs w b p hv hf h hp
  have HI : Hid (∀ (vars defs : Int) (w : World) (b p : Nat), vars ≤ 1000000 → defs ≤ 1000000 → RdOn w b p → p + 8 * 4 ^ (d + 1) ≤ 1099511627776 → Calls Try.prog 62 #[.pointer (some ⟨b, 0, none⟩), .int .i64 vars, .int .i64 defs, .int .i64 ((d : Int) + 1)] w (SomeTr vars defs (d + 1) w b p)) := by
    intro vars defs w b p hv hf hr hp
    have h := ih vars defs w b p hv hf hr hp
    rw [show ((d + 1 : Nat) : Int) = (d : Int) + 1 from by omega] at h
    exact h
  have hp0 : p + 8 ≤ 1099511627776 := by have : 1 ≤ 4 ^ (d + 2) := Nat.one_le_pow _ _ (by omega); omega
  have hbw := h.lt
  have HR0 : Hid (RdOn (w.alloc zeroE) b p) := h.next (box_below _ _)
  have HB0 : Hid (But b w (w.alloc zeroE)) := But.of_below (box_below _ _)
  have HZ0 : Hid ((w.alloc zeroE).heap[w.heap.size]? = some zeroE) := Deep.blk_alloc_new _ _
  have lt0 : w.heap.size < (w.alloc zeroE).heap.size := by rw [Deep.nblk_alloc]; omega
  have d1 : decide ((d : Int) + 1 + 1 < 2) = false := by simp; omega
  have HWR : Hid (IntKind.i64.wrap ((d : Int) + 1) = (d : Int) + 1) := by unfold Hid; rw [IntKind.wrap_i64]; omega
  have HPP : Hid (p + 8 * 4 ^ (d + 2) ≤ 1099511627776) := hp
  clear h ih hp
  push_cast
  go_enter Try.func62, Try.ntmps62
  go_wp2_with fail
  refine (pick_calls 5 _ b _ HR0.out (by omega) (by omega)).mono ?_
  rintro e w101 ⟨x101, rfl, x101l, x101u, x101z, hr101, hb101⟩
  have HR101 : Hid (RdOn w101 b _) := hr101
  have HB101 : Hid (But b w w101) := HB0.out.trans hb101
  have HZ101 : Hid (w101.heap[w.heap.size]? = some zeroE) := (hb101.block _ lt0 (by omega)).trans HZ0.out
  have lt101 : w.heap.size < w101.heap.size := Nat.lt_of_lt_of_le lt0 hb101.size
  clear hr101 hb101
  by_cases x101e : x101 = 0
  · subst x101e
    clear x101u x101z x101l
    by_cases hv0 : 0 < vars
    · go_wp2_with fail
      refine (pick_calls 2 _ b _ HR101.out (by omega) (by omega)).mono ?_
      rintro e w102 ⟨x102, rfl, x102l, x102u, x102z, hr102, hb102⟩
      have HR102 : Hid (RdOn w102 b _) := hr102
      have HB102 : Hid (But b w w102) := HB101.out.trans hb102
      have HZ102 : Hid (w102.heap[w.heap.size]? = some zeroE) := (hb102.block _ lt101 (by omega)).trans HZ101.out
      have lt102 : w.heap.size < w102.heap.size := Nat.lt_of_lt_of_le lt101 hb102.size
      clear hr102 hb102
      by_cases x102e : x102 = 0
      · subst x102e
        clear x102u x102z x102l
        go_wp2_with fail
        refine (pick_calls vars _ b _ HR102.out (by omega) (by omega)).mono ?_
        rintro e w103 ⟨x103, rfl, x103l, x103u, x103z, hr103, hb103⟩
        have HR103 : Hid (RdOn w103 b _) := hr103
        have HB103 : Hid (But b w w103) := HB102.out.trans hb103
        have HZ103 : Hid (w103.heap[w.heap.size]? = some zeroE) := (hb103.block _ lt102 (by omega)).trans HZ102.out
        have lt103 : w.heap.size < w103.heap.size := Nat.lt_of_lt_of_le lt102 hb103.size
        clear hr103 hb103
        have x103v := x103u hv0
        clear x103u x103z
        have r0 := cell_of_blk HZ103.out 0 _ rfl
        have r1 := cell_of_blk HZ103.out 1 _ rfl
        have r2 := cell_of_blk HZ103.out 2 _ rfl
        have q0 := frz_of_blk HZ103.out 0
        have q1 := frz_of_blk HZ103.out 1
        have q2 := frz_of_blk HZ103.out 2
        have HE : Hid _ := leaf_end (vars := vars) (defs := defs) (d := d + 2) HB103.out lt103 HZ103.out HR103.out hbw (p := p) (by omega) 1 x103 (by unfold I64; omega) (by unfold I64; omega) (leaf1 (by omega))
        go_wp2_with fail
        refine bodyPost_ret (v := .agg #[.int .i64 1, .int .i64 x103, .slice none 0 0]) (by simp [results, Try.results62, go_sem, r0, r1, r2]) rfl ?_
        exact HE.out
      · have x102b : (x102 == 0) = false := by simpa using x102e
        clear x102u x102z
        by_cases hd0 : 0 < defs
        · go_wp2_with fail
          refine (pick_calls 3 _ b _ HR102.out (by omega) (by omega)).mono ?_
          rintro e w104 ⟨x104, rfl, x104l, x104u, x104z, hr104, hb104⟩
          have HR104 : Hid (RdOn w104 b _) := hr104
          have HB104 : Hid (But b w w104) := HB102.out.trans hb104
          have HZ104 : Hid (w104.heap[w.heap.size]? = some zeroE) := (hb104.block _ lt102 (by omega)).trans HZ102.out
          have lt104 : w.heap.size < w104.heap.size := Nat.lt_of_lt_of_le lt102 hb104.size
          clear hr104 hb104
          by_cases x104e : x104 = 0
          · subst x104e
            clear x104u x104z x104l
            go_wp2_with fail
            refine (pick_calls defs _ b _ HR104.out (by omega) (by omega)).mono ?_
            rintro e w105 ⟨x105, rfl, x105l, x105u, x105z, hr105, hb105⟩
            have HR105 : Hid (RdOn w105 b _) := hr105
            have HB105 : Hid (But b w w105) := HB104.out.trans hb105
            have HZ105 : Hid (w105.heap[w.heap.size]? = some zeroE) := (hb105.block _ lt104 (by omega)).trans HZ104.out
            have lt105 : w.heap.size < w105.heap.size := Nat.lt_of_lt_of_le lt104 hb105.size
            clear hr105 hb105
            have x105v := x105u hd0
            clear x105u x105z
            have r0 := cell_of_blk HZ105.out 0 _ rfl
            have r1 := cell_of_blk HZ105.out 1 _ rfl
            have r2 := cell_of_blk HZ105.out 2 _ rfl
            have q0 := frz_of_blk HZ105.out 0
            have q1 := frz_of_blk HZ105.out 1
            have q2 := frz_of_blk HZ105.out 2
            have HE : Hid _ := leaf_end (vars := vars) (defs := defs) (d := d + 2) HB105.out lt105 HZ105.out HR105.out hbw (p := p) (by omega) 3 x105 (by unfold I64; omega) (by unfold I64; omega) (leaf3 (by omega))
            go_wp2_with fail
            refine bodyPost_ret (v := .agg #[.int .i64 3, .int .i64 x105, .slice none 0 0]) (by simp [results, Try.results62, go_sem, r0, r1, r2]) rfl ?_
            exact HE.out
          · have x104b : (x104 == 0) = false := by simpa using x104e
            clear x104u x104z
            go_wp2_with fail
            refine (num_calls [0, 1, 2, 3, 999, 10] (.slice (some ⟨w104.heap.size, 0, none⟩) 6 6) _ b _ (HR104.out.next (box_below _ _)) (by omega) (ints_at w104 w104.heap.size rfl b [0, 1, 2, 3, 999, 10] #[.int .i64 0, .int .i64 1, .int .i64 2, .int .i64 3, .int .i64 999, .int .i64 10] (by have := lt104; omega) rfl ints6) (by simp) (by simp)).mono ?_
            rintro e w106 ⟨y106, rfl, hy106, hr106, hb106⟩
            have HR106 : Hid (RdOn w106 b _) := hr106
            have hbb106 : But b w104 w106 := (But.of_below (box_below _ _)).trans hb106
            have HB106 : Hid (But b w w106) := HB104.out.trans hbb106
            have HZ106 : Hid (w106.heap[w.heap.size]? = some zeroE) := (hbb106.block _ lt104 (by omega)).trans HZ104.out
            have lt106 : w.heap.size < w106.heap.size := Nat.lt_of_lt_of_le lt104 hbb106.size
            have rg106 : 0 ≤ y106 ∧ y106 ≤ 999 := by simp at hy106; omega
            clear hr106 hb106 hbb106 hy106
            have r0 := cell_of_blk HZ106.out 0 _ rfl
            have r1 := cell_of_blk HZ106.out 1 _ rfl
            have r2 := cell_of_blk HZ106.out 2 _ rfl
            have q0 := frz_of_blk HZ106.out 0
            have q1 := frz_of_blk HZ106.out 1
            have q2 := frz_of_blk HZ106.out 2
            have HE : Hid _ := leaf_end (vars := vars) (defs := defs) (d := d + 2) HB106.out lt106 HZ106.out HR106.out hbw (p := p) (by omega) 2 y106 (by unfold I64; omega) (by unfold I64; omega) (leaf2 (by omega))
            go_wp2_with fail
            refine bodyPost_ret (v := .agg #[.int .i64 2, .int .i64 y106, .slice none 0 0]) (by simp [results, Try.results62, go_sem, r0, r1, r2]) rfl ?_
            exact HE.out
        · have hd0' : decide (0 < defs) = false := by simpa using hd0
          go_wp2_with fail
          refine (num_calls [0, 1, 2, 3, 999, 10] (.slice (some ⟨w102.heap.size, 0, none⟩) 6 6) _ b _ (HR102.out.next (box_below _ _)) (by omega) (ints_at w102 w102.heap.size rfl b [0, 1, 2, 3, 999, 10] #[.int .i64 0, .int .i64 1, .int .i64 2, .int .i64 3, .int .i64 999, .int .i64 10] (by have := lt102; omega) rfl ints6) (by simp) (by simp)).mono ?_
          rintro e w107 ⟨y107, rfl, hy107, hr107, hb107⟩
          have HR107 : Hid (RdOn w107 b _) := hr107
          have hbb107 : But b w102 w107 := (But.of_below (box_below _ _)).trans hb107
          have HB107 : Hid (But b w w107) := HB102.out.trans hbb107
          have HZ107 : Hid (w107.heap[w.heap.size]? = some zeroE) := (hbb107.block _ lt102 (by omega)).trans HZ102.out
          have lt107 : w.heap.size < w107.heap.size := Nat.lt_of_lt_of_le lt102 hbb107.size
          have rg107 : 0 ≤ y107 ∧ y107 ≤ 999 := by simp at hy107; omega
          clear hr107 hb107 hbb107 hy107
          have r0 := cell_of_blk HZ107.out 0 _ rfl
          have r1 := cell_of_blk HZ107.out 1 _ rfl
          have r2 := cell_of_blk HZ107.out 2 _ rfl
          have q0 := frz_of_blk HZ107.out 0
          have q1 := frz_of_blk HZ107.out 1
          have q2 := frz_of_blk HZ107.out 2
          have HE : Hid _ := leaf_end (vars := vars) (defs := defs) (d := d + 2) HB107.out lt107 HZ107.out HR107.out hbw (p := p) (by omega) 2 y107 (by unfold I64; omega) (by unfold I64; omega) (leaf2 (by omega))
          go_wp2_with fail
          refine bodyPost_ret (v := .agg #[.int .i64 2, .int .i64 y107, .slice none 0 0]) (by simp [results, Try.results62, go_sem, r0, r1, r2]) rfl ?_
          exact HE.out
    · have hv0' : decide (0 < vars) = false := by simpa using hv0
      by_cases hd0 : 0 < defs
      · go_wp2_with fail
        refine (pick_calls 3 _ b _ HR101.out (by omega) (by omega)).mono ?_
        rintro e w108 ⟨x108, rfl, x108l, x108u, x108z, hr108, hb108⟩
        have HR108 : Hid (RdOn w108 b _) := hr108
        have HB108 : Hid (But b w w108) := HB101.out.trans hb108
        have HZ108 : Hid (w108.heap[w.heap.size]? = some zeroE) := (hb108.block _ lt101 (by omega)).trans HZ101.out
        have lt108 : w.heap.size < w108.heap.size := Nat.lt_of_lt_of_le lt101 hb108.size
        clear hr108 hb108
        by_cases x108e : x108 = 0
        · subst x108e
          clear x108u x108z x108l
          go_wp2_with fail
          refine (pick_calls defs _ b _ HR108.out (by omega) (by omega)).mono ?_
          rintro e w109 ⟨x109, rfl, x109l, x109u, x109z, hr109, hb109⟩
          have HR109 : Hid (RdOn w109 b _) := hr109
          have HB109 : Hid (But b w w109) := HB108.out.trans hb109
          have HZ109 : Hid (w109.heap[w.heap.size]? = some zeroE) := (hb109.block _ lt108 (by omega)).trans HZ108.out
          have lt109 : w.heap.size < w109.heap.size := Nat.lt_of_lt_of_le lt108 hb109.size
          clear hr109 hb109
          have x109v := x109u hd0
          clear x109u x109z
          have r0 := cell_of_blk HZ109.out 0 _ rfl
          have r1 := cell_of_blk HZ109.out 1 _ rfl
          have r2 := cell_of_blk HZ109.out 2 _ rfl
          have q0 := frz_of_blk HZ109.out 0
          have q1 := frz_of_blk HZ109.out 1
          have q2 := frz_of_blk HZ109.out 2
          have HE : Hid _ := leaf_end (vars := vars) (defs := defs) (d := d + 2) HB109.out lt109 HZ109.out HR109.out hbw (p := p) (by omega) 3 x109 (by unfold I64; omega) (by unfold I64; omega) (leaf3 (by omega))
          go_wp2_with fail
          refine bodyPost_ret (v := .agg #[.int .i64 3, .int .i64 x109, .slice none 0 0]) (by simp [results, Try.results62, go_sem, r0, r1, r2]) rfl ?_
          exact HE.out
        · have x108b : (x108 == 0) = false := by simpa using x108e
          clear x108u x108z
          go_wp2_with fail
          refine (num_calls [0, 1, 2, 3, 999, 10] (.slice (some ⟨w108.heap.size, 0, none⟩) 6 6) _ b _ (HR108.out.next (box_below _ _)) (by omega) (ints_at w108 w108.heap.size rfl b [0, 1, 2, 3, 999, 10] #[.int .i64 0, .int .i64 1, .int .i64 2, .int .i64 3, .int .i64 999, .int .i64 10] (by have := lt108; omega) rfl ints6) (by simp) (by simp)).mono ?_
          rintro e w110 ⟨y110, rfl, hy110, hr110, hb110⟩
          have HR110 : Hid (RdOn w110 b _) := hr110
          have hbb110 : But b w108 w110 := (But.of_below (box_below _ _)).trans hb110
          have HB110 : Hid (But b w w110) := HB108.out.trans hbb110
          have HZ110 : Hid (w110.heap[w.heap.size]? = some zeroE) := (hbb110.block _ lt108 (by omega)).trans HZ108.out
          have lt110 : w.heap.size < w110.heap.size := Nat.lt_of_lt_of_le lt108 hbb110.size
          have rg110 : 0 ≤ y110 ∧ y110 ≤ 999 := by simp at hy110; omega
          clear hr110 hb110 hbb110 hy110
          have r0 := cell_of_blk HZ110.out 0 _ rfl
          have r1 := cell_of_blk HZ110.out 1 _ rfl
          have r2 := cell_of_blk HZ110.out 2 _ rfl
          have q0 := frz_of_blk HZ110.out 0
          have q1 := frz_of_blk HZ110.out 1
          have q2 := frz_of_blk HZ110.out 2
          have HE : Hid _ := leaf_end (vars := vars) (defs := defs) (d := d + 2) HB110.out lt110 HZ110.out HR110.out hbw (p := p) (by omega) 2 y110 (by unfold I64; omega) (by unfold I64; omega) (leaf2 (by omega))
          go_wp2_with fail
          refine bodyPost_ret (v := .agg #[.int .i64 2, .int .i64 y110, .slice none 0 0]) (by simp [results, Try.results62, go_sem, r0, r1, r2]) rfl ?_
          exact HE.out
      · have hd0' : decide (0 < defs) = false := by simpa using hd0
        go_wp2_with fail
        refine (num_calls [0, 1, 2, 3, 999, 10] (.slice (some ⟨w101.heap.size, 0, none⟩) 6 6) _ b _ (HR101.out.next (box_below _ _)) (by omega) (ints_at w101 w101.heap.size rfl b [0, 1, 2, 3, 999, 10] #[.int .i64 0, .int .i64 1, .int .i64 2, .int .i64 3, .int .i64 999, .int .i64 10] (by have := lt101; omega) rfl ints6) (by simp) (by simp)).mono ?_
        rintro e w111 ⟨y111, rfl, hy111, hr111, hb111⟩
        have HR111 : Hid (RdOn w111 b _) := hr111
        have hbb111 : But b w101 w111 := (But.of_below (box_below _ _)).trans hb111
        have HB111 : Hid (But b w w111) := HB101.out.trans hbb111
        have HZ111 : Hid (w111.heap[w.heap.size]? = some zeroE) := (hbb111.block _ lt101 (by omega)).trans HZ101.out
        have lt111 : w.heap.size < w111.heap.size := Nat.lt_of_lt_of_le lt101 hbb111.size
        have rg111 : 0 ≤ y111 ∧ y111 ≤ 999 := by simp at hy111; omega
        clear hr111 hb111 hbb111 hy111
        have r0 := cell_of_blk HZ111.out 0 _ rfl
        have r1 := cell_of_blk HZ111.out 1 _ rfl
        have r2 := cell_of_blk HZ111.out 2 _ rfl
        have q0 := frz_of_blk HZ111.out 0
        have q1 := frz_of_blk HZ111.out 1
        have q2 := frz_of_blk HZ111.out 2
        have HE : Hid _ := leaf_end (vars := vars) (defs := defs) (d := d + 2) HB111.out lt111 HZ111.out HR111.out hbw (p := p) (by omega) 2 y111 (by unfold I64; omega) (by unfold I64; omega) (leaf2 (by omega))
        go_wp2_with fail
        refine bodyPost_ret (v := .agg #[.int .i64 2, .int .i64 y111, .slice none 0 0]) (by simp [results, Try.results62, go_sem, r0, r1, r2]) rfl ?_
        exact HE.out
  · have x101b : (x101 == 0) = false := by simpa using x101e
    clear x101u x101z
    go_wp2_with fail
    refine (pick_calls 10 _ b _ (HR101.out.next (box_below _ _)) (by omega) (by omega)).mono ?_
    rintro e w2 ⟨y, rfl, y0, y1, -, hr2, hb2⟩
    have HR2 : Hid (RdOn w2 b _) := hr2
    have hbb : But b w101 w2 := (But.of_below (box_below _ _)).trans hb2
    have HB2 : Hid (But b w w2) := HB101.out.trans hbb
    have HZ2 : Hid (w2.heap[w.heap.size]? = some zeroE) := (hbb.block _ lt101 (by omega)).trans HZ101.out
    have lt2 : w.heap.size < w2.heap.size := Nat.lt_of_lt_of_le lt101 hbb.size
    have hy1 := y1 (by omega)
    obtain ⟨j, rfl⟩ := Int.eq_ofNat_of_zero_le y0
    have hj : j < [(4 : Int), 4, 5, 6, 7, 8, 9, 10, 4, 8].length := by simp; omega
    have cj : w2.cell? ⟨w101.heap.size, j, none⟩ = some (.int .i64 [(4 : Int), 4, 5, 6, 7, 8, 9, 10, 4, 8][j]) := (hb2.cell (p := ⟨w101.heap.size, j, none⟩) (by rw [Deep.nblk_alloc]; exact Nat.lt_succ_self _) (by show w101.heap.size ≠ b; have := lt101; omega)).trans (box_cell w101 #[.int .i64 4, .int .i64 4, .int .i64 5, .int .i64 6, .int .i64 7, .int .i64 8, .int .i64 9, .int .i64 10, .int .i64 4, .int .i64 8] _ j _ (ints10 j hj))
    obtain ⟨op, hop⟩ : ∃ op, op = [(4 : Int), 4, 5, 6, 7, 8, 9, 10, 4, 8][j] := ⟨_, rfl⟩
    have hor : 4 ≤ op ∧ op ≤ 10 := by rw [hop]; exact ops_range j hj
    rw [← hop] at cj
    clear hop hr2 hb2 hbb y1
    go_wp2_with fail
    obtain ⟨iE, zE, hiE, hzE, hsE, hbE, hcE⟩ := infoE3
    have HE : Hid (Try.prog.info? 30 = some iE ∧ iE.zero = some zE ∧ iE.size = 3 ∧ iE.bytes = 40 ∧ zE.cells.size = 3) := ⟨hiE, hzE, hsE, hbE, hcE⟩
    clear hiE hzE hsE hbE hcE cj
    have har := arity_range op
    have HST : Hid (SmRel vars defs op (d + 1) w b p w2.heap.size 0 (w2.alloc (.cells #[.int .i64 op, .int .i64 0, .slice none 0 0] 30))) := smRel_start HB2.out HR2.out (by omega) HZ2.out lt2
    obtain ⟨B, hBdef⟩ : ∃ B, B = w2.heap.size := ⟨_, rfl⟩
    have hBw : w.heap.size < B := by omega
    rw [← hBdef] at HST
    rw [← hBdef]
    generalize w2.alloc (.cells #[.int .i64 op, .int .i64 0, .slice none 0 0] 30) = w3 at *
    clear hBdef
    go_loopw [11] (fun i wr => ∃ k : Nat, (k : Int) ≤ max (arity op) 0 ∧ i = .int .i64 k ∧ SmRel vars defs op (d + 1) w b p B k wr) (fun i _ => (arity op).toNat - (intOf i).toNat)
    case atStart => exact ⟨0, by omega, rfl, HST.out⟩
    case round =>
      obtain ⟨k, hk, rfl, ts, v, p', hlen0, hap, hr, hsz0, hp0', hbut, hR, hB1⟩ := hrel
      have hlen : Hid (ts.length = k) := hlen0
      have HKL : Hid (ts.length = k) := hlen0
      have HSZ : Hid (LsSh vars defs (d + 1) k ts) := hsz0
      have HPB : Hid (p' ≤ p + 3 + k * (1 + 8 * 4 ^ (d + 1))) := hp0'
      have HAP : Hid (ApRel op 0 ts B (B + 1) v wr) := hap
      have HR : Hid (RdOn wr b p') := hr
      have HBW : Hid (But b w wr) := hbut
      have HZ : Hid (wr.heap[w.heap.size]? = some zeroE) := hR
      have o0 := cell_of_blk hap.2 0 _ rfl
      have o1 := cell_of_blk hap.2 1 _ rfl
      have o2 := cell_of_blk hap.2 2 _ rfl
      have f2 := frz_of_blk hap.2 2
      clear hlen0 hsz0 hp0' hap hr hbut hR
      by_cases hlt : (k : Int) < arity op
      · have hk2 : k ≤ 2 := by omega
        have HPQ2 : Hid (p' + 1 + 8 * 4 ^ (d + 1) ≤ 1099511627776) := by
          have h1 : 1 ≤ 4 ^ (d + 1) := Nat.one_le_pow _ _ (by omega)
          have h2 : 4 ^ (d + 2) = 4 * 4 ^ (d + 1) := by rw [Nat.pow_succ 4 (d + 1)]; omega
          have h4 : k * (1 + 8 * 4 ^ (d + 1)) ≤ 2 * (1 + 8 * 4 ^ (d + 1)) := Nat.mul_le_mul_right _ hk2
          have h5 := HPB.out
          have h6 := HPP.out
          unfold Hid
          omega
        have HPQ : Hid (p' + 8 * 4 ^ (d + 1) ≤ 1099511627776) := by have := HPQ2.out; unfold Hid; omega
        have hpp1 : p' + 1 ≤ 1099511627776 := by have := HPQ2.out; omega
        go_wp2_with fail
        refine (l1Kids_calls op _).mono ?_
        rintro e wk ⟨rfl, rfl⟩
        by_cases hk0 : k = 0
        · have t1 : ((k : Int) == 0) = true := by simp; omega
          clear hk0
          by_cases h4 : op = 4
          · have t2 : (op == 4) = true := by simp; omega
            clear h4
            by_cases hdf : 0 < defs
            · have t3 : decide (0 < defs) = true := by simpa using hdf
              go_wp2_with fail
              refine (pick_calls 3 _ b _ HR.out (by omega) (by omega)).mono ?_
              rintro e w5 ⟨x5, rfl, x5l, x5u, -, hr5, hb5⟩
              have HR5 : Hid (RdOn w5 b (p' + 1)) := hr5
              have HBW5 : Hid (But b w w5) := HBW.out.trans hb5
              have HZ5 : Hid (w5.heap[w.heap.size]? = some zeroE) := (hb5.block _ (by omega) (by omega)).trans HZ.out
              have HAP5 : Hid (ApRel op 0 ts B (B + 1) v w5) := HAP.out.but hb5 (by omega) (by omega)
              have hB15 : B + 1 ≤ w5.heap.size := Nat.le_trans hB1 hb5.size
              clear o0 o1 o2 f2 hr5 hb5 x5u
              have o0 := cell_of_blk HAP5.out.2 0 _ rfl
              have o1 := cell_of_blk HAP5.out.2 1 _ rfl
              have o2 := cell_of_blk HAP5.out.2 2 _ rfl
              have f2 := frz_of_blk HAP5.out.2 2
              by_cases h5 : 0 < x5
              · have t4 : decide (0 < x5) = true := by simpa using h5
                go_wp2_with fail
                go_region_law (first
                  | (go_simp; go_at_call 59; go_must (refine (pick_calls defs _ b (p' + 1) ?_ ?_ ?_).mono ?_); go_must (exact HR5.out.drew); go_must (omega); go_must (omega); go_must (rintro e wz ⟨yg, rfl, yl, yu, yz, tr, tb⟩); go_must (have hyu := yu hdf); go_must (have HTR : Hid (RdOn wz b _) := tr); go_must (have HBB : Hid (But b w5 wz) := (But.refl _ _).drew.trans tb); go_must (have z2 := (HBB.out.cell (p := ⟨B, 2, none⟩) (by show B < w5.heap.size; omega) (by show B ≠ b; omega)).trans o2); go_must (have hz1 : B < wz.heap.size := by have := HBB.out.size; omega); clear tr tb yu yz; go_wp2_with fail)
                  | (go_must (obtain ⟨xs, hx, hxs⟩ := apBut_mid HAP5.out HBB.out (by omega) (.cells #[.int .i64 3, .int .i64 yg, .slice none 0 0] 30)); go_must (have HX : Hid _ := hx); go_must (rw [HKL.out] at hx); go_must (refine step_append_where rfl (.tmp 80) (.tmp 85) 28 rfl (B + 1) 30 iE zE 3 40 Try.underlying28 HE.out.1 HE.out.2.1 HE.out.2.2.1 HE.out.2.2.2.1 HE.out.2.2.2.2 (by decide) v k xs (by simp [Act.eval, Act.put]) hx ⟨wz.heap.size, 0, none⟩ 1 1 [.int .i64 3, .int .i64 yg, .slice none 0 0] (by simp [Act.eval, Act.put]) rfl (news3 wz _ _ _) (by simp [Value.oneCell']) (by unfold maxLen; omega) (by omega) (by rw [Deep.nblk_alloc]; have := HBB.out.size; omega) (by omega) ?_); go_must (intro v' w9 hown hg hw); go_must (obtain ⟨g', c', rfl⟩ := Joins.ownsRow_form hown (by omega)); go_must (have hB3 : w9.heap[B]? = some (.cells #[.int .i64 op, .int .i64 0, v] 30) := (apBut_other (B := B) (b := b) HAP5.out HBB.out.size hg B (by omega) (by have := HBB.out.size; omega)).trans ((HBB.out.block B (by omega) (by omega)).trans HAP5.out.2)); go_must (have s2 := cell_of_blk hB3 2 _ rfl); go_must (have sf := frz_of_blk hB3 2); clear hB3))
                all_goals
                  have HV : Hid (SmRel vars defs op (d + 1) w b p B (k + 1) (w9.setCell ⟨B, 2, none⟩ (.slice (some ⟨g', 0, none⟩) (k + 1) c'))) :=
                    smRel_step (t := .node 3 yg []) (c := .slice none 0 0) hlen.out HAP5.out hbw hBw hB15 HBW5.out HZ5.out HBB.out HTR.out ⟨none, 0, rfl, Nat.le_refl _, by simp [maxLen], Or.inl rfl⟩ (by unfold I64; simp) (by unfold I64; simp only [Tr.num_node]; omega) HX.out hown hg hw hxs HSZ.out ⟨by simp [szL]; exact Nat.one_le_pow _ _ (by omega), leaf_shB (leaf3 ⟨yl, hyu⟩) _⟩ (by have := HPB.out; have h9 : 1 ≤ 4 ^ (d + 1) := Nat.one_le_pow _ _ (by omega); rw [Nat.add_mul, Nat.one_mul]; omega)
                  clear hg hw hown hxs hx s2 sf
                  go_wp2_with fail
                  go_roundw
                  case rel => exact ⟨k + 1, by omega, by go_num, HV.out⟩
                  case measure => simp [intOf]; omega
              · have t4 : decide (0 < x5) = false := by simpa using h5
                have HPQ' := HPQ
                clear HPQ
                have HPQ := HPQ2
                go_wp2_with fail
                go_region_law (first
                  | (go_simp; go_at_call 62; rw [HWR.out]; go_must (refine (HI.out vars defs _ b (p' + 1) hv hf ?_ ?_).mono ?_); go_must (exact HR5.out.drew); go_must (exact HPQ.out); go_must (rintro e wz ⟨t, c, pz, rfl, tqo, tn, tk, tsz, tr, tp, tb⟩); go_must (obtain ⟨ad2, cap2, rfl, _, _, _⟩ := id tk); go_must (have HTK : Hid (KidsOn wz (Btw w5.heap.size wz.heap.size) t.kids (.slice ad2 t.kids.length cap2)) := tk); go_must (have HTR : Hid (RdOn wz b pz) := tr); go_must (have HBB : Hid (But b w5 wz) := (But.refl _ _).drew.trans tb); go_must (have z2 := (HBB.out.cell (p := ⟨B, 2, none⟩) (by show B < w5.heap.size; omega) (by show B ≠ b; omega)).trans o2); go_must (have hz1 : B < wz.heap.size := by have := HBB.out.size; omega); go_must (have HTS : Hid (SzSh vars defs (d + 1) t) := tsz); go_must (have HTP : Hid (pz ≤ (p' + 1) + 8 * 4 ^ (d + 1)) := tp); clear tk tr tb tsz tp; go_wp2_with fail)
                  | (go_must (obtain ⟨xs, hx, hxs⟩ := apBut_mid HAP5.out HBB.out (by omega) (.cells #[.int .i64 t.op, .int .i64 t.num, .slice ad2 t.kids.length cap2] 30)); go_must (have HX : Hid _ := hx); go_must (rw [HKL.out] at hx); go_must (refine step_append_where rfl (.tmp 89) (.tmp 96) 28 rfl (B + 1) 30 iE zE 3 40 Try.underlying28 HE.out.1 HE.out.2.1 HE.out.2.2.1 HE.out.2.2.2.1 HE.out.2.2.2.2 (by decide) v k xs (by simp [Act.eval, Act.put]) hx ⟨wz.heap.size, 0, none⟩ 1 1 [.int .i64 t.op, .int .i64 t.num, .slice ad2 t.kids.length cap2] (by simp [Act.eval, Act.put]) rfl (news3 wz _ _ _) (by simp [Value.oneCell']) (by unfold maxLen; omega) (by omega) (by rw [Deep.nblk_alloc]; have := HBB.out.size; omega) (by omega) ?_); go_must (intro v' w9 hown hg hw); go_must (obtain ⟨g', c', rfl⟩ := Joins.ownsRow_form hown (by omega)); go_must (have hB3 : w9.heap[B]? = some (.cells #[.int .i64 op, .int .i64 0, v] 30) := (apBut_other (B := B) (b := b) HAP5.out HBB.out.size hg B (by omega) (by have := HBB.out.size; omega)).trans ((HBB.out.block B (by omega) (by omega)).trans HAP5.out.2)); go_must (have s2 := cell_of_blk hB3 2 _ rfl); go_must (have sf := frz_of_blk hB3 2); clear hB3))
                all_goals
                  have HV : Hid (SmRel vars defs op (d + 1) w b p B (k + 1) (w9.setCell ⟨B, 2, none⟩ (.slice (some ⟨g', 0, none⟩) (k + 1) c'))) :=
                    smRel_step hlen.out HAP5.out hbw hBw hB15 HBW5.out HZ5.out HBB.out HTR.out HTK.out tqo tn HX.out hown hg hw hxs HSZ.out HTS.out (by have := HTP.out; have := HPB.out; rw [Nat.add_mul, Nat.one_mul]; omega)
                  clear hg hw hown hxs hx s2 sf
                  go_wp2_with fail
                  go_roundw
                  case rel => exact ⟨k + 1, by omega, by go_num, HV.out⟩
                  case measure => simp [intOf]; omega
            · have t3 : decide (0 < defs) = false := by simpa using hdf
              go_wp2_with fail
              go_region_law (first
                | (go_simp; go_at_call 62; rw [HWR.out]; go_must (refine (HI.out vars defs _ b p' hv hf ?_ ?_).mono ?_); go_must (exact HR.out.drew); go_must (exact HPQ.out); go_must (rintro e wz ⟨t, c, pz, rfl, tqo, tn, tk, tsz, tr, tp, tb⟩); go_must (obtain ⟨ad2, cap2, rfl, _, _, _⟩ := id tk); go_must (have HTK : Hid (KidsOn wz (Btw wr.heap.size wz.heap.size) t.kids (.slice ad2 t.kids.length cap2)) := tk); go_must (have HTR : Hid (RdOn wz b pz) := tr); go_must (have HBB : Hid (But b wr wz) := (But.refl _ _).drew.trans tb); go_must (have z2 := (HBB.out.cell (p := ⟨B, 2, none⟩) (by show B < wr.heap.size; omega) (by show B ≠ b; omega)).trans o2); go_must (have hz1 : B < wz.heap.size := by have := HBB.out.size; omega); go_must (have HTS : Hid (SzSh vars defs (d + 1) t) := tsz); go_must (have HTP : Hid (pz ≤ p' + 8 * 4 ^ (d + 1)) := tp); clear tk tr tb tsz tp; go_wp2_with fail)
                | (go_must (obtain ⟨xs, hx, hxs⟩ := apBut_mid HAP.out HBB.out (by omega) (.cells #[.int .i64 t.op, .int .i64 t.num, .slice ad2 t.kids.length cap2] 30)); go_must (have HX : Hid _ := hx); go_must (rw [HKL.out] at hx); go_must (refine step_append_where rfl (.tmp 89) (.tmp 96) 28 rfl (B + 1) 30 iE zE 3 40 Try.underlying28 HE.out.1 HE.out.2.1 HE.out.2.2.1 HE.out.2.2.2.1 HE.out.2.2.2.2 (by decide) v k xs (by simp [Act.eval, Act.put]) hx ⟨wz.heap.size, 0, none⟩ 1 1 [.int .i64 t.op, .int .i64 t.num, .slice ad2 t.kids.length cap2] (by simp [Act.eval, Act.put]) rfl (news3 wz _ _ _) (by simp [Value.oneCell']) (by unfold maxLen; omega) (by omega) (by rw [Deep.nblk_alloc]; have := HBB.out.size; omega) (by omega) ?_); go_must (intro v' w9 hown hg hw); go_must (obtain ⟨g', c', rfl⟩ := Joins.ownsRow_form hown (by omega)); go_must (have hB3 : w9.heap[B]? = some (.cells #[.int .i64 op, .int .i64 0, v] 30) := (apBut_other (B := B) (b := b) HAP.out HBB.out.size hg B (by omega) (by have := HBB.out.size; omega)).trans ((HBB.out.block B (by omega) (by omega)).trans HAP.out.2)); go_must (have s2 := cell_of_blk hB3 2 _ rfl); go_must (have sf := frz_of_blk hB3 2); clear hB3))
              all_goals
                have HV : Hid (SmRel vars defs op (d + 1) w b p B (k + 1) (w9.setCell ⟨B, 2, none⟩ (.slice (some ⟨g', 0, none⟩) (k + 1) c'))) :=
                  smRel_step hlen.out HAP.out hbw hBw hB1 HBW.out HZ.out HBB.out HTR.out HTK.out tqo tn HX.out hown hg hw hxs HSZ.out HTS.out (by have := HTP.out; have := HPB.out; rw [Nat.add_mul, Nat.one_mul]; omega)
                clear hg hw hown hxs hx s2 sf
                go_wp2_with fail
                go_roundw
                case rel => exact ⟨k + 1, by omega, by go_num, HV.out⟩
                case measure => simp [intOf]; omega
          · have t2 : (op == 4) = false := by simpa using h4
            go_wp2_with fail
            go_region_law (first
              | (go_simp; go_at_call 62; rw [HWR.out]; go_must (refine (HI.out vars defs _ b p' hv hf ?_ ?_).mono ?_); go_must (exact HR.out.drew); go_must (exact HPQ.out); go_must (rintro e wz ⟨t, c, pz, rfl, tqo, tn, tk, tsz, tr, tp, tb⟩); go_must (obtain ⟨ad2, cap2, rfl, _, _, _⟩ := id tk); go_must (have HTK : Hid (KidsOn wz (Btw wr.heap.size wz.heap.size) t.kids (.slice ad2 t.kids.length cap2)) := tk); go_must (have HTR : Hid (RdOn wz b pz) := tr); go_must (have HBB : Hid (But b wr wz) := (But.refl _ _).drew.trans tb); go_must (have z2 := (HBB.out.cell (p := ⟨B, 2, none⟩) (by show B < wr.heap.size; omega) (by show B ≠ b; omega)).trans o2); go_must (have hz1 : B < wz.heap.size := by have := HBB.out.size; omega); go_must (have HTS : Hid (SzSh vars defs (d + 1) t) := tsz); go_must (have HTP : Hid (pz ≤ p' + 8 * 4 ^ (d + 1)) := tp); clear tk tr tb tsz tp; go_wp2_with fail)
              | (go_must (obtain ⟨xs, hx, hxs⟩ := apBut_mid HAP.out HBB.out (by omega) (.cells #[.int .i64 t.op, .int .i64 t.num, .slice ad2 t.kids.length cap2] 30)); go_must (have HX : Hid _ := hx); go_must (rw [HKL.out] at hx); go_must (refine step_append_where rfl (.tmp 89) (.tmp 96) 28 rfl (B + 1) 30 iE zE 3 40 Try.underlying28 HE.out.1 HE.out.2.1 HE.out.2.2.1 HE.out.2.2.2.1 HE.out.2.2.2.2 (by decide) v k xs (by simp [Act.eval, Act.put]) hx ⟨wz.heap.size, 0, none⟩ 1 1 [.int .i64 t.op, .int .i64 t.num, .slice ad2 t.kids.length cap2] (by simp [Act.eval, Act.put]) rfl (news3 wz _ _ _) (by simp [Value.oneCell']) (by unfold maxLen; omega) (by omega) (by rw [Deep.nblk_alloc]; have := HBB.out.size; omega) (by omega) ?_); go_must (intro v' w9 hown hg hw); go_must (obtain ⟨g', c', rfl⟩ := Joins.ownsRow_form hown (by omega)); go_must (have hB3 : w9.heap[B]? = some (.cells #[.int .i64 op, .int .i64 0, v] 30) := (apBut_other (B := B) (b := b) HAP.out HBB.out.size hg B (by omega) (by have := HBB.out.size; omega)).trans ((HBB.out.block B (by omega) (by omega)).trans HAP.out.2)); go_must (have s2 := cell_of_blk hB3 2 _ rfl); go_must (have sf := frz_of_blk hB3 2); clear hB3))
            all_goals
              have HV : Hid (SmRel vars defs op (d + 1) w b p B (k + 1) (w9.setCell ⟨B, 2, none⟩ (.slice (some ⟨g', 0, none⟩) (k + 1) c'))) :=
                smRel_step hlen.out HAP.out hbw hBw hB1 HBW.out HZ.out HBB.out HTR.out HTK.out tqo tn HX.out hown hg hw hxs HSZ.out HTS.out (by have := HTP.out; have := HPB.out; rw [Nat.add_mul, Nat.one_mul]; omega)
              clear hg hw hown hxs hx s2 sf
              go_wp2_with fail
              go_roundw
              case rel => exact ⟨k + 1, by omega, by go_num, HV.out⟩
              case measure => simp [intOf]; omega
        · have t1 : ((k : Int) == 0) = false := by simp; omega
          go_wp2_with fail
          go_region_law (first
            | (go_simp; go_at_call 62; rw [HWR.out]; go_must (refine (HI.out vars defs _ b p' hv hf ?_ ?_).mono ?_); go_must (exact HR.out.drew); go_must (exact HPQ.out); go_must (rintro e wz ⟨t, c, pz, rfl, tqo, tn, tk, tsz, tr, tp, tb⟩); go_must (obtain ⟨ad2, cap2, rfl, _, _, _⟩ := id tk); go_must (have HTK : Hid (KidsOn wz (Btw wr.heap.size wz.heap.size) t.kids (.slice ad2 t.kids.length cap2)) := tk); go_must (have HTR : Hid (RdOn wz b pz) := tr); go_must (have HBB : Hid (But b wr wz) := (But.refl _ _).drew.trans tb); go_must (have z2 := (HBB.out.cell (p := ⟨B, 2, none⟩) (by show B < wr.heap.size; omega) (by show B ≠ b; omega)).trans o2); go_must (have hz1 : B < wz.heap.size := by have := HBB.out.size; omega); go_must (have HTS : Hid (SzSh vars defs (d + 1) t) := tsz); go_must (have HTP : Hid (pz ≤ p' + 8 * 4 ^ (d + 1)) := tp); clear tk tr tb tsz tp; go_wp2_with fail)
            | (go_must (obtain ⟨xs, hx, hxs⟩ := apBut_mid HAP.out HBB.out (by omega) (.cells #[.int .i64 t.op, .int .i64 t.num, .slice ad2 t.kids.length cap2] 30)); go_must (have HX : Hid _ := hx); go_must (rw [HKL.out] at hx); go_must (refine step_append_where rfl (.tmp 89) (.tmp 96) 28 rfl (B + 1) 30 iE zE 3 40 Try.underlying28 HE.out.1 HE.out.2.1 HE.out.2.2.1 HE.out.2.2.2.1 HE.out.2.2.2.2 (by decide) v k xs (by simp [Act.eval, Act.put]) hx ⟨wz.heap.size, 0, none⟩ 1 1 [.int .i64 t.op, .int .i64 t.num, .slice ad2 t.kids.length cap2] (by simp [Act.eval, Act.put]) rfl (news3 wz _ _ _) (by simp [Value.oneCell']) (by unfold maxLen; omega) (by omega) (by rw [Deep.nblk_alloc]; have := HBB.out.size; omega) (by omega) ?_); go_must (intro v' w9 hown hg hw); go_must (obtain ⟨g', c', rfl⟩ := Joins.ownsRow_form hown (by omega)); go_must (have hB3 : w9.heap[B]? = some (.cells #[.int .i64 op, .int .i64 0, v] 30) := (apBut_other (B := B) (b := b) HAP.out HBB.out.size hg B (by omega) (by have := HBB.out.size; omega)).trans ((HBB.out.block B (by omega) (by omega)).trans HAP.out.2)); go_must (have s2 := cell_of_blk hB3 2 _ rfl); go_must (have sf := frz_of_blk hB3 2); clear hB3))
          all_goals
            have HV : Hid (SmRel vars defs op (d + 1) w b p B (k + 1) (w9.setCell ⟨B, 2, none⟩ (.slice (some ⟨g', 0, none⟩) (k + 1) c'))) :=
              smRel_step hlen.out HAP.out hbw hBw hB1 HBW.out HZ.out HBB.out HTR.out HTK.out tqo tn HX.out hown hg hw hxs HSZ.out HTS.out (by have := HTP.out; have := HPB.out; rw [Nat.add_mul, Nat.one_mul]; omega)
            clear hg hw hown hxs hx s2 sf
            go_wp2_with fail
            go_roundw
            case rel => exact ⟨k + 1, by omega, by go_num, HV.out⟩
            case measure => simp [intOf]; omega
      · have hk3 : k ≤ 3 := by omega
        have HEND : Hid (SomeTr vars defs (d + 2) w b p (.returned (.agg #[.int .i64 op, .int .i64 0, v])) (((wr.setCell ⟨w.heap.size, 0, none⟩ (.int .i64 op)).setCell ⟨w.heap.size, 1, none⟩ (.int .i64 0)).setCell ⟨w.heap.size, 2, none⟩ v)) :=
          smRel_end hlen.out HAP.out HR.out HSZ.out HPB.out HBW.out hbw hBw hk3 (by unfold I64; omega) (by have := ar_pos hor; omega) (by omega)
        have hform : (v = .slice none 0 0 ∧ True) ∨ ∃ g c, v = .slice (some ⟨g, 0, none⟩) ts.length c := by
          obtain ⟨xs, h1, _⟩ := HAP.out.1
          rcases Joins.ownsRow_forms h1 with ⟨h, _⟩ | h
          · exact Or.inl ⟨h, trivial⟩
          · exact Or.inr h
        have r0 := cell_of_blk HZ.out 0 _ rfl
        have r1 := cell_of_blk HZ.out 1 _ rfl
        have r2 := cell_of_blk HZ.out 2 _ rfl
        have q0 := frz_of_blk HZ.out 0
        have q1 := frz_of_blk HZ.out 1
        have q2 := frz_of_blk HZ.out 2
        rcases hform with ⟨rfl, -⟩ | ⟨g, c', rfl⟩
        all_goals
          go_wp2_with fail
          refine (l1Kids_calls op _).mono ?_
          rintro e wk ⟨rfl, rfl⟩
          go_wp2_with fail
          refine bodyPost_ret (v := .agg #[.int .i64 op, .int .i64 0, _]) (by simp [results, Try.results62, go_sem, r0, r1, r2]; rfl) rfl ?_
          exact HEND.out

/-- THE DRAWN EXPRESSION, FOR EVERY DEPTH UP TO 100 -/
theorem sm_any : ∀ (d : Nat), d ≤ 100 → SmSaid d := by
  intro d
  induction d using Nat.strongRecOn with
  | ind d ih =>
    intro hd
    by_cases h2 : d < 2
    · intro vars defs w b p hv hf h hp
      exact sm_leaf0 d h2 vars defs w b p h hv hf (by have : 1 ≤ 4 ^ d := Nat.one_le_pow _ _ (by omega); omega)
    · obtain ⟨e, rfl⟩ : ∃ e, d = e + 2 := ⟨d - 2, by omega⟩
      exact sm_succ e (by omega) (ih (e + 1) (by omega) (by omega))
end Go.Proofs.Ytjdlfpdljmohiaa
/-
  WHAT A DRAWN EXPRESSION IS, plainly: valid, and of forty nodes at most.
-/
namespace Go.Proofs.Ytjdlfpdljmohiaa
set_option linter.unusedVariables false
set_option linter.unusedSimpArgs false
open Go.RowKit

/-! ### A drawn expression is valid -/
def bndT : Nat → Nat
  | 0 => 0
  | d + 1 => 1 + 3 * bndT d
theorem sumT_bound (ks : List Tr) (B : Nat) (h : ∀ k ∈ ks, 1 + szT k ≤ B) : szL ks ≤ ks.length * B := by
  induction ks with
  | nil => simp [szL]
  | cons t ts ih =>
    have h1 := h t (by simp)
    have h2 := ih (fun k hk => h k (by simp [hk]))
    simp only [szL, List.length_cons, Nat.add_mul, Nat.one_mul]
    omega
theorem shB_size {vars defs : Int} : ∀ (d : Nat) (t : Tr), shB vars defs d t = true → 1 + szT t ≤ bndT d
  | 0, _, h => by simp [shB] at h
  | d + 1, t, h => by
    simp only [shB, Bool.and_eq_true, List.all_eq_true, decide_eq_true_eq] at h
    obtain ⟨⟨h1, h2⟩, h3⟩ := h
    have h4 := sumT_bound t.kids (bndT d) (fun k hk => shB_size d k (h3 k hk))
    have h5 : t.kids.length ≤ 3 := by
      have := (arity_range t.op).2
      omega
    have h6 : t.kids.length * bndT d ≤ 3 * bndT d := Nat.mul_le_mul_right _ h5
    rw [szT_eq, bndT]
    omega
theorem shB_deeper {vars defs : Int} : ∀ (d e : Nat) (t : Tr), d ≤ e → shB vars defs d t = true → shB vars defs e t = true
  | 0, _, _, _, h => by simp [shB] at h
  | d + 1, 0, _, hd, _ => by omega
  | d + 1, e + 1, t, hd, h => by
    simp only [shB, Bool.and_eq_true, List.all_eq_true] at h ⊢
    exact ⟨h.1, fun k hk => shB_deeper d e k (by omega) (h.2 k hk)⟩
theorem ints_gen (L : List Int) : ∀ i (hi : i < L.length), ((L.map fun (a : Int) => Value.int .i64 a).toArray)[i]? = some (.int .i64 L[i]) := by
  intro i hi
  simp [hi]

/-- a drawn expression is valid -/
theorem some_valid {vars defs : Int} {d : Nat} {t : Tr} (h : SzSh vars defs d t) (hd : d ≤ 4) (hv : 0 ≤ vars ∧ vars ≤ 4) (hf : 0 ≤ defs ∧ defs ≤ 6) : validB t vars defs = true ∧ 1 + szT t ≤ 40 := by
  have hdd : ddp d ≤ 4 := by unfold ddp; split <;> omega
  have h1 := shB_deeper (ddp d) 4 t hdd h.2
  have h2 := shB_size 4 t h1
  have h3 : bndT 4 = 40 := rfl
  refine ⟨?_, by omega⟩
  have h4 := shB_deeper 4 16 t (by omega) h1
  unfold validB
  rw [h4]
  simp
  omega
end Go.Proofs.Ytjdlfpdljmohiaa
