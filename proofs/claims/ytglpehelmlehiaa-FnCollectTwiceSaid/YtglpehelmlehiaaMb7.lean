/-
  THE MODEL's DRAWN EXPRESSION (l1Some): the nodes with operands.
-/
import Derived.Test.YtglpehelmlehiaaMb6
import Derived.Test.YtglpehelmlehiaaMb1
import Derived.Test.YtglpehelmlehiaaProg
import Derived.Deep.QuietTactic
import Derived.BigQuiet
import Derived.WalkSmall
namespace Go.Proofs.Ytglpehelmlehiaa
set_option linter.unusedVariables false
set_option linter.unusedSimpArgs false
open Go.RowKit

theorem RdOn.drew {w : World} {b p : Nat} (h : RdOn w b p) : RdOn w.drew b p := h.next ((Below.refl _ _).drew)

/-- what holds behind k rounds -/
def SmRel (vars defs : Int) (op : Int) (d : Nat) (w : World) (b p B : Nat) (k : Nat) (wr : World) : Prop :=
  ∃ ts v p', ts.length = k ∧ ApRel op 0 ts B (B + 1) v wr ∧ RdOn wr b p' ∧ LsSh vars defs d k ts ∧ p' ≤ p + 3 + k * (1 + 8 * 4 ^ d) ∧ But b w wr ∧ wr.heap[w.heap.size]? = some zeroE ∧ B + 1 ≤ wr.heap.size

theorem smRel_step {vars defs : Int} {op : Int} {d : Nat} {w : World} {b p B k : Nat} {wr w1 w3 : World} {ts : List Tr} {v v' : Value} {p1 : Nat} {t : Tr} {c : Value} {xs : List Value} (hlen : ts.length = k) (hap : ApRel op 0 ts B (B + 1) v wr) (hbw : b < w.heap.size) (hBw : w.heap.size < B) (hB1 : B + 1 ≤ wr.heap.size) (hbut : But b w wr) (hR : wr.heap[w.heap.size]? = some zeroE)
    (hb1 : But b wr w1) (hr1 : RdOn w1 b p1) (hk : KidsOn w1 (Btw wr.heap.size w1.heap.size) t.kids c) (ho : I64 t.op) (hn : I64 t.num)
    (hx : (w1.alloc (.cells #[.int .i64 t.op, .int .i64 t.num, c] 32)).ownsRow (B + 1) 32 3 v ts.length xs)
    (hown : w3.ownsRow (B + 1) 32 3 v' (k + 1) (xs ++ [.int .i64 t.op, .int .i64 t.num, c])) (hg : (w1.alloc (.cells #[.int .i64 t.op, .int .i64 t.num, c] 32)).grownBy w3 v.ownBlock) (hw : v'.ownBlock = v.ownBlock ∨ ∃ g, v'.ownBlock = some g ∧ (w1.alloc (.cells #[.int .i64 t.op, .int .i64 t.num, c] 32)).heap.size ≤ g)
    (hxs : ∀ j (hj : j < ts.length), ∃ a b c', xs[j * 3]? = some a ∧ xs[j * 3 + 1]? = some b ∧ xs[j * 3 + 2]? = some c' ∧ TrOn (w1.alloc (.cells #[.int .i64 t.op, .int .i64 t.num, c] 32)) (fun k => B + 1 ≤ k ∧ k < (w1.alloc (.cells #[.int .i64 t.op, .int .i64 t.num, c] 32)).heap.size ∧ some k ≠ v.ownBlock) ts[j] a b c')
    (hsz : LsSh vars defs d k ts) (ht : SzSh vars defs d t) (hp : p1 ≤ p + 3 + (k + 1) * (1 + 8 * 4 ^ d)) : SmRel vars defs op d w b p B (k + 1) (w3.setCell ⟨B, 2, none⟩ v') := by
  obtain ⟨hsz, hsh⟩ := hsz
  obtain ⟨ht, hth⟩ := ht
  have hs1 := hb1.size
  have hs3 : w1.heap.size ≤ w3.heap.size := by have := hg.size; rw [Deep.nblk_alloc] at this; omega
  have hoth := fun j hj hjw => apBut_other (B := B) (b := b) hap hs1 hg j hj hjw
  refine ⟨ts ++ [t], v', p1, by simp [hlen], apBut_step hap (by omega) (by omega) (by omega) hB1 hb1 hk ho hn xs hx (by rw [hlen]; exact hown) hg hw hxs, ?_, ?_, hp, ?_, ?_, by rw [size_setCell]; omega⟩
  · refine hr1.keep fun j hj => ?_
    rw [Below.heap_setCell _ _ _ _ (by show j ≠ B; omega)]
    exact hoth j (by omega) (by omega)
  · refine ⟨?_, fun x hx => ?_⟩
    · rw [szL_append]
      simp only [szL]
      rw [szT_eq, Nat.add_mul]
      omega
    · rw [List.mem_append, List.mem_singleton] at hx
      rcases hx with hx | rfl
      · exact hsh x hx
      · exact hth
  · have h2 := hbut.trans hb1
    refine ⟨?_, ?_, ?_, ?_, fun j hj hjb => ?_⟩
    · show w3.os = w.os; rw [hg.os]; exact h2.os
    · show w3.tape = w.tape; rw [hg.tape]; exact h2.tape
    · show w3.output = w.output; rw [hg.output]; exact h2.output
    · rw [size_setCell]; exact Nat.le_trans h2.size hs3
    · rw [Below.heap_setCell _ _ _ _ (by show j ≠ B; omega), hoth j (by omega) (by have := h2.size; omega)]
      exact h2.block j hj hjb
  · rw [Below.heap_setCell _ _ _ _ (by show w.heap.size ≠ B; omega), hoth _ (by omega) (by omega), hb1.block _ (by omega) (by omega)]
    exact hR

theorem ApRel.but {o n : Int} {ts : List Tr} {B lo b : Nat} {v : Value} {w w' : World} (h : ApRel o n ts B lo v w) (hb : But b w w') (hlo : b < lo) (hB : B ≠ b) : ApRel o n ts B lo v w' :=
  ⟨h.1.next hb.size (fun k h1 h2 => hb.block k h2 (by omega)), (hb.block B (Array.getElem?_eq_some_iff.1 h.2).1 hB).trans h.2⟩
theorem smRel_start {vars defs : Int} {op : Int} {d : Nat} {w w2 : World} {b p p' : Nat} (hb : But b w w2) (hr : RdOn w2 b p') (hp : p' ≤ p + 3) (hR : w2.heap[w.heap.size]? = some zeroE) (hlt : w.heap.size < w2.heap.size) :
    SmRel vars defs op d w b p w2.heap.size 0 (w2.alloc (.cells #[.int .i64 op, .int .i64 0, .slice none 0 0] 32)) := by
  refine ⟨[], .slice none 0 0, p', rfl, ⟨OwnTr.nil _ _, Deep.blk_alloc_new _ _⟩, hr.next (box_below _ _), ⟨by simp [szL], by simp⟩, by omega, hb.trans (But.of_below (box_below _ _)), ?_, by rw [Deep.nblk_alloc]; omega⟩
  rw [Deep.blk_alloc_lt _ _ _ hlt]; exact hR
/-- the end of the loop -/
theorem smRel_end {vars defs : Int} {op : Int} {d : Nat} {w wr : World} {b p B k : Nat} {ts : List Tr} {v : Value} {p' : Nat} (hlen : ts.length = k) (hap : ApRel op 0 ts B (B + 1) v wr) (hr : RdOn wr b p') (hsz : LsSh vars defs (d + 1) k ts) (hp' : p' ≤ p + 3 + k * (1 + 8 * 4 ^ (d + 1))) (hbut : But b w wr) (hbw : b < w.heap.size) (hBw : w.heap.size < B) (hk : k ≤ 3) (ho : I64 op) (ha : (k : Int) = arity op) (h4o : 4 ≤ op) :
    SomeTr vars defs (d + 2) w b p (.returned (.agg #[.int .i64 op, .int .i64 0, v])) (((wr.setCell ⟨w.heap.size, 0, none⟩ (.int .i64 op)).setCell ⟨w.heap.size, 1, none⟩ (.int .i64 0)).setCell ⟨w.heap.size, 2, none⟩ v) := by
  obtain ⟨hsz, hsh⟩ := hsz
  have h1 : 1 ≤ 4 ^ (d + 1) := Nat.one_le_pow _ _ (by omega)
  have h2 : 4 ^ (d + 2) = 4 * 4 ^ (d + 1) := by rw [Nat.pow_succ 4 (d + 1)]; omega
  have h3 : k * 4 ^ (d + 1) ≤ 3 * 4 ^ (d + 1) := Nat.mul_le_mul_right _ hk
  have h4 : k * (1 + 8 * 4 ^ (d + 1)) ≤ 3 * (1 + 8 * 4 ^ (d + 1)) := Nat.mul_le_mul_right _ hk
  refine ⟨.node op 0 ts, v, p', rfl, ho, by show I64 0; unfold I64; omega, ?_, ⟨by simp only [Tr.kids_node]; omega, node_shB (by rw [hlen]; exact ha) h4o hsh⟩, ?_, by omega, ?_⟩
  · simp only [size_setCell]
    have hkk := hap.1.kids
    exact (((hkk.setCell (by simp [Btw] <;> omega) _).setCell (by simp [Btw] <;> omega) _).setCell (by simp [Btw] <;> omega) _).mono (fun k hk => ⟨by have := hk.1; omega, hk.2⟩) (fun _ _ => rfl)
  · exact ((hr.setCell (by exact hbw) _).setCell (by exact hbw) _).setCell (by exact hbw) _
  · exact ((hbut.setNew (by exact Nat.le_refl _) _).setNew (by exact Nat.le_refl _) _).setNew (by exact Nat.le_refl _) _

theorem ints10 : ∀ i (hi : i < [(4 : Int), 4, 5, 6, 7, 8, 9, 10, 4, 8].length), (#[.int .i64 4, .int .i64 4, .int .i64 5, .int .i64 6, .int .i64 7, .int .i64 8, .int .i64 9, .int .i64 10, .int .i64 4, .int .i64 8] : Array Value)[i]? = some (.int .i64 [(4 : Int), 4, 5, 6, 7, 8, 9, 10, 4, 8][i]) := by
  intro i hi
  match i, hi with
  | 0, _ => rfl
  | 1, _ => rfl
  | 2, _ => rfl
  | 3, _ => rfl
  | 4, _ => rfl
  | 5, _ => rfl
  | 6, _ => rfl
  | 7, _ => rfl
  | 8, _ => rfl
  | 9, _ => rfl
theorem ops_range (i : Nat) (hi : i < [(4 : Int), 4, 5, 6, 7, 8, 9, 10, 4, 8].length) : 4 ≤ [(4 : Int), 4, 5, 6, 7, 8, 9, 10, 4, 8][i] ∧ [(4 : Int), 4, 5, 6, 7, 8, 9, 10, 4, 8][i] ≤ 10 := by
  match i, hi with
  | 0, _ => simp
  | 1, _ => simp
  | 2, _ => simp
  | 3, _ => simp
  | 4, _ => simp
  | 5, _ => simp
  | 6, _ => simp
  | 7, _ => simp
  | 8, _ => simp
  | 9, _ => simp
theorem arity_range (op : Int) : -1 ≤ arity op ∧ arity op ≤ 3 := by
  unfold arity
  repeat' split
  all_goals omega

set_option maxRecDepth 100000 in
set_option maxHeartbeats 12800000 in
theorem sm_succ (d : Nat) (hd : d ≤ 100) (ih : SmSaid (d + 1)) : SmSaid (d + 2) := by
  intro vars defs w b p hv hf h hp
  have HI : Hid (∀ (vars defs : Int) (w : World) (b p : Nat), vars ≤ 1000000 → defs ≤ 1000000 → RdOn w b p → p + 8 * 4 ^ (d + 1) ≤ 1099511627776 → Calls Try.prog 109 #[.pointer (some ⟨b, 0, none⟩), .int .i64 vars, .int .i64 defs, .int .i64 ((d : Int) + 1)] w (SomeTr vars defs (d + 1) w b p)) := by
    intro vars defs w b p hv hf hr hp
    have h := ih vars defs w b p hv hf hr hp
    rw [show ((d + 1 : Nat) : Int) = (d : Int) + 1 from by omega] at h
    exact h
  have hp0 : p + 8 ≤ 1099511627776 := by have : 1 ≤ 4 ^ (d + 2) := Nat.one_le_pow _ _ (by omega); omega
  have hbw := h.lt
  have HR0 : Hid (RdOn (w.alloc zeroE) b p) := h.next (box_below _ _)
  have HB0 : Hid (But b w (w.alloc zeroE)) := But.of_below (box_below _ _)
  have HZ0 : Hid ((w.alloc zeroE).heap[w.heap.size]? = some zeroE) := Deep.blk_alloc_new _ _
  have lt0 : w.heap.size < (w.alloc zeroE).heap.size := by rw [Deep.nblk_alloc]; omega
  have d1 : decide ((d : Int) + 1 + 1 < 2) = false := by simp; omega
  have HWR : Hid (IntKind.i64.wrap ((d : Int) + 1) = (d : Int) + 1) := by unfold Hid; rw [IntKind.wrap_i64]; omega
  have HPP : Hid (p + 8 * 4 ^ (d + 2) ≤ 1099511627776) := hp
  clear h ih hp
  push_cast
  go_enter Try.func109, Try.ntmps109
  go_wp2_with fail
  refine (pick_calls 5 _ b _ HR0.out (by omega) (by omega)).mono ?_
  rintro e w101 ⟨x101, rfl, x101l, x101u, x101z, hr101, hb101⟩
  have HR101 : Hid (RdOn w101 b _) := hr101
  have HB101 : Hid (But b w w101) := HB0.out.trans hb101
  have HZ101 : Hid (w101.heap[w.heap.size]? = some zeroE) := (hb101.block _ lt0 (by omega)).trans HZ0.out
  have lt101 : w.heap.size < w101.heap.size := Nat.lt_of_lt_of_le lt0 hb101.size
  clear hr101 hb101
  by_cases x101e : x101 = 0
  · subst x101e
    clear x101u x101z x101l
    by_cases hv0 : 0 < vars
    · go_wp2_with fail
      refine (pick_calls 2 _ b _ HR101.out (by omega) (by omega)).mono ?_
      rintro e w102 ⟨x102, rfl, x102l, x102u, x102z, hr102, hb102⟩
      have HR102 : Hid (RdOn w102 b _) := hr102
      have HB102 : Hid (But b w w102) := HB101.out.trans hb102
      have HZ102 : Hid (w102.heap[w.heap.size]? = some zeroE) := (hb102.block _ lt101 (by omega)).trans HZ101.out
      have lt102 : w.heap.size < w102.heap.size := Nat.lt_of_lt_of_le lt101 hb102.size
      clear hr102 hb102
      by_cases x102e : x102 = 0
      · subst x102e
        clear x102u x102z x102l
        go_wp2_with fail
        refine (pick_calls vars _ b _ HR102.out (by omega) (by omega)).mono ?_
        rintro e w103 ⟨x103, rfl, x103l, x103u, x103z, hr103, hb103⟩
        have HR103 : Hid (RdOn w103 b _) := hr103
        have HB103 : Hid (But b w w103) := HB102.out.trans hb103
        have HZ103 : Hid (w103.heap[w.heap.size]? = some zeroE) := (hb103.block _ lt102 (by omega)).trans HZ102.out
        have lt103 : w.heap.size < w103.heap.size := Nat.lt_of_lt_of_le lt102 hb103.size
        clear hr103 hb103
        have x103v := x103u hv0
        clear x103u x103z
        have r0 := cell_of_blk HZ103.out 0 _ rfl
        have r1 := cell_of_blk HZ103.out 1 _ rfl
        have r2 := cell_of_blk HZ103.out 2 _ rfl
        have q0 := frz_of_blk HZ103.out 0
        have q1 := frz_of_blk HZ103.out 1
        have q2 := frz_of_blk HZ103.out 2
        have HE : Hid _ := leaf_end (vars := vars) (defs := defs) (d := d + 2) HB103.out lt103 HZ103.out HR103.out hbw (p := p) (by omega) 1 x103 (by unfold I64; omega) (by unfold I64; omega) (leaf1 (by omega))
        go_wp2_with fail
        refine bodyPost_ret (v := .agg #[.int .i64 1, .int .i64 x103, .slice none 0 0]) (by simp [results, Try.results109, go_sem, r0, r1, r2]) rfl ?_
        exact HE.out
      · have x102b : (x102 == 0) = false := by simpa using x102e
        clear x102u x102z
        by_cases hd0 : 0 < defs
        · go_wp2_with fail
          refine (pick_calls 3 _ b _ HR102.out (by omega) (by omega)).mono ?_
          rintro e w104 ⟨x104, rfl, x104l, x104u, x104z, hr104, hb104⟩
          have HR104 : Hid (RdOn w104 b _) := hr104
          have HB104 : Hid (But b w w104) := HB102.out.trans hb104
          have HZ104 : Hid (w104.heap[w.heap.size]? = some zeroE) := (hb104.block _ lt102 (by omega)).trans HZ102.out
          have lt104 : w.heap.size < w104.heap.size := Nat.lt_of_lt_of_le lt102 hb104.size
          clear hr104 hb104
          by_cases x104e : x104 = 0
          · subst x104e
            clear x104u x104z x104l
            go_wp2_with fail
            refine (pick_calls defs _ b _ HR104.out (by omega) (by omega)).mono ?_
            rintro e w105 ⟨x105, rfl, x105l, x105u, x105z, hr105, hb105⟩
            have HR105 : Hid (RdOn w105 b _) := hr105
            have HB105 : Hid (But b w w105) := HB104.out.trans hb105
            have HZ105 : Hid (w105.heap[w.heap.size]? = some zeroE) := (hb105.block _ lt104 (by omega)).trans HZ104.out
            have lt105 : w.heap.size < w105.heap.size := Nat.lt_of_lt_of_le lt104 hb105.size
            clear hr105 hb105
            have x105v := x105u hd0
            clear x105u x105z
            have r0 := cell_of_blk HZ105.out 0 _ rfl
            have r1 := cell_of_blk HZ105.out 1 _ rfl
            have r2 := cell_of_blk HZ105.out 2 _ rfl
            have q0 := frz_of_blk HZ105.out 0
            have q1 := frz_of_blk HZ105.out 1
            have q2 := frz_of_blk HZ105.out 2
            have HE : Hid _ := leaf_end (vars := vars) (defs := defs) (d := d + 2) HB105.out lt105 HZ105.out HR105.out hbw (p := p) (by omega) 3 x105 (by unfold I64; omega) (by unfold I64; omega) (leaf3 (by omega))
            go_wp2_with fail
            refine bodyPost_ret (v := .agg #[.int .i64 3, .int .i64 x105, .slice none 0 0]) (by simp [results, Try.results109, go_sem, r0, r1, r2]) rfl ?_
            exact HE.out
          · have x104b : (x104 == 0) = false := by simpa using x104e
            clear x104u x104z
            go_wp2_with fail
            refine (num_calls [0, 1, 2, 3, 999, 10] (.slice (some ⟨w104.heap.size, 0, none⟩) 6 6) _ b _ (HR104.out.next (box_below _ _)) (by omega) (ints_at w104 w104.heap.size rfl b [0, 1, 2, 3, 999, 10] #[.int .i64 0, .int .i64 1, .int .i64 2, .int .i64 3, .int .i64 999, .int .i64 10] (by have := lt104; omega) rfl ints6) (by simp) (by simp)).mono ?_
            rintro e w106 ⟨y106, rfl, hy106, hr106, hb106⟩
            have HR106 : Hid (RdOn w106 b _) := hr106
            have hbb106 : But b w104 w106 := (But.of_below (box_below _ _)).trans hb106
            have HB106 : Hid (But b w w106) := HB104.out.trans hbb106
            have HZ106 : Hid (w106.heap[w.heap.size]? = some zeroE) := (hbb106.block _ lt104 (by omega)).trans HZ104.out
            have lt106 : w.heap.size < w106.heap.size := Nat.lt_of_lt_of_le lt104 hbb106.size
            have rg106 : 0 ≤ y106 ∧ y106 ≤ 999 := by simp at hy106; omega
            clear hr106 hb106 hbb106 hy106
            have r0 := cell_of_blk HZ106.out 0 _ rfl
            have r1 := cell_of_blk HZ106.out 1 _ rfl
            have r2 := cell_of_blk HZ106.out 2 _ rfl
            have q0 := frz_of_blk HZ106.out 0
            have q1 := frz_of_blk HZ106.out 1
            have q2 := frz_of_blk HZ106.out 2
            have HE : Hid _ := leaf_end (vars := vars) (defs := defs) (d := d + 2) HB106.out lt106 HZ106.out HR106.out hbw (p := p) (by omega) 2 y106 (by unfold I64; omega) (by unfold I64; omega) (leaf2 (by omega))
            go_wp2_with fail
            refine bodyPost_ret (v := .agg #[.int .i64 2, .int .i64 y106, .slice none 0 0]) (by simp [results, Try.results109, go_sem, r0, r1, r2]) rfl ?_
            exact HE.out
        · have hd0' : decide (0 < defs) = false := by simpa using hd0
          go_wp2_with fail
          refine (num_calls [0, 1, 2, 3, 999, 10] (.slice (some ⟨w102.heap.size, 0, none⟩) 6 6) _ b _ (HR102.out.next (box_below _ _)) (by omega) (ints_at w102 w102.heap.size rfl b [0, 1, 2, 3, 999, 10] #[.int .i64 0, .int .i64 1, .int .i64 2, .int .i64 3, .int .i64 999, .int .i64 10] (by have := lt102; omega) rfl ints6) (by simp) (by simp)).mono ?_
          rintro e w107 ⟨y107, rfl, hy107, hr107, hb107⟩
          have HR107 : Hid (RdOn w107 b _) := hr107
          have hbb107 : But b w102 w107 := (But.of_below (box_below _ _)).trans hb107
          have HB107 : Hid (But b w w107) := HB102.out.trans hbb107
          have HZ107 : Hid (w107.heap[w.heap.size]? = some zeroE) := (hbb107.block _ lt102 (by omega)).trans HZ102.out
          have lt107 : w.heap.size < w107.heap.size := Nat.lt_of_lt_of_le lt102 hbb107.size
          have rg107 : 0 ≤ y107 ∧ y107 ≤ 999 := by simp at hy107; omega
          clear hr107 hb107 hbb107 hy107
          have r0 := cell_of_blk HZ107.out 0 _ rfl
          have r1 := cell_of_blk HZ107.out 1 _ rfl
          have r2 := cell_of_blk HZ107.out 2 _ rfl
          have q0 := frz_of_blk HZ107.out 0
          have q1 := frz_of_blk HZ107.out 1
          have q2 := frz_of_blk HZ107.out 2
          have HE : Hid _ := leaf_end (vars := vars) (defs := defs) (d := d + 2) HB107.out lt107 HZ107.out HR107.out hbw (p := p) (by omega) 2 y107 (by unfold I64; omega) (by unfold I64; omega) (leaf2 (by omega))
          go_wp2_with fail
          refine bodyPost_ret (v := .agg #[.int .i64 2, .int .i64 y107, .slice none 0 0]) (by simp [results, Try.results109, go_sem, r0, r1, r2]) rfl ?_
          exact HE.out
    · have hv0' : decide (0 < vars) = false := by simpa using hv0
      by_cases hd0 : 0 < defs
      · go_wp2_with fail
        refine (pick_calls 3 _ b _ HR101.out (by omega) (by omega)).mono ?_
        rintro e w108 ⟨x108, rfl, x108l, x108u, x108z, hr108, hb108⟩
        have HR108 : Hid (RdOn w108 b _) := hr108
        have HB108 : Hid (But b w w108) := HB101.out.trans hb108
        have HZ108 : Hid (w108.heap[w.heap.size]? = some zeroE) := (hb108.block _ lt101 (by omega)).trans HZ101.out
        have lt108 : w.heap.size < w108.heap.size := Nat.lt_of_lt_of_le lt101 hb108.size
        clear hr108 hb108
        by_cases x108e : x108 = 0
        · subst x108e
          clear x108u x108z x108l
          go_wp2_with fail
          refine (pick_calls defs _ b _ HR108.out (by omega) (by omega)).mono ?_
          rintro e w109 ⟨x109, rfl, x109l, x109u, x109z, hr109, hb109⟩
          have HR109 : Hid (RdOn w109 b _) := hr109
          have HB109 : Hid (But b w w109) := HB108.out.trans hb109
          have HZ109 : Hid (w109.heap[w.heap.size]? = some zeroE) := (hb109.block _ lt108 (by omega)).trans HZ108.out
          have lt109 : w.heap.size < w109.heap.size := Nat.lt_of_lt_of_le lt108 hb109.size
          clear hr109 hb109
          have x109v := x109u hd0
          clear x109u x109z
          have r0 := cell_of_blk HZ109.out 0 _ rfl
          have r1 := cell_of_blk HZ109.out 1 _ rfl
          have r2 := cell_of_blk HZ109.out 2 _ rfl
          have q0 := frz_of_blk HZ109.out 0
          have q1 := frz_of_blk HZ109.out 1
          have q2 := frz_of_blk HZ109.out 2
          have HE : Hid _ := leaf_end (vars := vars) (defs := defs) (d := d + 2) HB109.out lt109 HZ109.out HR109.out hbw (p := p) (by omega) 3 x109 (by unfold I64; omega) (by unfold I64; omega) (leaf3 (by omega))
          go_wp2_with fail
          refine bodyPost_ret (v := .agg #[.int .i64 3, .int .i64 x109, .slice none 0 0]) (by simp [results, Try.results109, go_sem, r0, r1, r2]) rfl ?_
          exact HE.out
        · have x108b : (x108 == 0) = false := by simpa using x108e
          clear x108u x108z
          go_wp2_with fail
          refine (num_calls [0, 1, 2, 3, 999, 10] (.slice (some ⟨w108.heap.size, 0, none⟩) 6 6) _ b _ (HR108.out.next (box_below _ _)) (by omega) (ints_at w108 w108.heap.size rfl b [0, 1, 2, 3, 999, 10] #[.int .i64 0, .int .i64 1, .int .i64 2, .int .i64 3, .int .i64 999, .int .i64 10] (by have := lt108; omega) rfl ints6) (by simp) (by simp)).mono ?_
          rintro e w110 ⟨y110, rfl, hy110, hr110, hb110⟩
          have HR110 : Hid (RdOn w110 b _) := hr110
          have hbb110 : But b w108 w110 := (But.of_below (box_below _ _)).trans hb110
          have HB110 : Hid (But b w w110) := HB108.out.trans hbb110
          have HZ110 : Hid (w110.heap[w.heap.size]? = some zeroE) := (hbb110.block _ lt108 (by omega)).trans HZ108.out
          have lt110 : w.heap.size < w110.heap.size := Nat.lt_of_lt_of_le lt108 hbb110.size
          have rg110 : 0 ≤ y110 ∧ y110 ≤ 999 := by simp at hy110; omega
          clear hr110 hb110 hbb110 hy110
          have r0 := cell_of_blk HZ110.out 0 _ rfl
          have r1 := cell_of_blk HZ110.out 1 _ rfl
          have r2 := cell_of_blk HZ110.out 2 _ rfl
          have q0 := frz_of_blk HZ110.out 0
          have q1 := frz_of_blk HZ110.out 1
          have q2 := frz_of_blk HZ110.out 2
          have HE : Hid _ := leaf_end (vars := vars) (defs := defs) (d := d + 2) HB110.out lt110 HZ110.out HR110.out hbw (p := p) (by omega) 2 y110 (by unfold I64; omega) (by unfold I64; omega) (leaf2 (by omega))
          go_wp2_with fail
          refine bodyPost_ret (v := .agg #[.int .i64 2, .int .i64 y110, .slice none 0 0]) (by simp [results, Try.results109, go_sem, r0, r1, r2]) rfl ?_
          exact HE.out
      · have hd0' : decide (0 < defs) = false := by simpa using hd0
        go_wp2_with fail
        refine (num_calls [0, 1, 2, 3, 999, 10] (.slice (some ⟨w101.heap.size, 0, none⟩) 6 6) _ b _ (HR101.out.next (box_below _ _)) (by omega) (ints_at w101 w101.heap.size rfl b [0, 1, 2, 3, 999, 10] #[.int .i64 0, .int .i64 1, .int .i64 2, .int .i64 3, .int .i64 999, .int .i64 10] (by have := lt101; omega) rfl ints6) (by simp) (by simp)).mono ?_
        rintro e w111 ⟨y111, rfl, hy111, hr111, hb111⟩
        have HR111 : Hid (RdOn w111 b _) := hr111
        have hbb111 : But b w101 w111 := (But.of_below (box_below _ _)).trans hb111
        have HB111 : Hid (But b w w111) := HB101.out.trans hbb111
        have HZ111 : Hid (w111.heap[w.heap.size]? = some zeroE) := (hbb111.block _ lt101 (by omega)).trans HZ101.out
        have lt111 : w.heap.size < w111.heap.size := Nat.lt_of_lt_of_le lt101 hbb111.size
        have rg111 : 0 ≤ y111 ∧ y111 ≤ 999 := by simp at hy111; omega
        clear hr111 hb111 hbb111 hy111
        have r0 := cell_of_blk HZ111.out 0 _ rfl
        have r1 := cell_of_blk HZ111.out 1 _ rfl
        have r2 := cell_of_blk HZ111.out 2 _ rfl
        have q0 := frz_of_blk HZ111.out 0
        have q1 := frz_of_blk HZ111.out 1
        have q2 := frz_of_blk HZ111.out 2
        have HE : Hid _ := leaf_end (vars := vars) (defs := defs) (d := d + 2) HB111.out lt111 HZ111.out HR111.out hbw (p := p) (by omega) 2 y111 (by unfold I64; omega) (by unfold I64; omega) (leaf2 (by omega))
        go_wp2_with fail
        refine bodyPost_ret (v := .agg #[.int .i64 2, .int .i64 y111, .slice none 0 0]) (by simp [results, Try.results109, go_sem, r0, r1, r2]) rfl ?_
        exact HE.out
  · have x101b : (x101 == 0) = false := by simpa using x101e
    clear x101u x101z
    go_wp2_with fail
    refine (pick_calls 10 _ b _ (HR101.out.next (box_below _ _)) (by omega) (by omega)).mono ?_
    rintro e w2 ⟨y, rfl, y0, y1, -, hr2, hb2⟩
    have HR2 : Hid (RdOn w2 b _) := hr2
    have hbb : But b w101 w2 := (But.of_below (box_below _ _)).trans hb2
    have HB2 : Hid (But b w w2) := HB101.out.trans hbb
    have HZ2 : Hid (w2.heap[w.heap.size]? = some zeroE) := (hbb.block _ lt101 (by omega)).trans HZ101.out
    have lt2 : w.heap.size < w2.heap.size := Nat.lt_of_lt_of_le lt101 hbb.size
    have hy1 := y1 (by omega)
    obtain ⟨j, rfl⟩ := Int.eq_ofNat_of_zero_le y0
    have hj : j < [(4 : Int), 4, 5, 6, 7, 8, 9, 10, 4, 8].length := by simp; omega
    have cj : w2.cell? ⟨w101.heap.size, j, none⟩ = some (.int .i64 [(4 : Int), 4, 5, 6, 7, 8, 9, 10, 4, 8][j]) := (hb2.cell (p := ⟨w101.heap.size, j, none⟩) (by rw [Deep.nblk_alloc]; exact Nat.lt_succ_self _) (by show w101.heap.size ≠ b; have := lt101; omega)).trans (box_cell w101 #[.int .i64 4, .int .i64 4, .int .i64 5, .int .i64 6, .int .i64 7, .int .i64 8, .int .i64 9, .int .i64 10, .int .i64 4, .int .i64 8] _ j _ (ints10 j hj))
    obtain ⟨op, hop⟩ : ∃ op, op = [(4 : Int), 4, 5, 6, 7, 8, 9, 10, 4, 8][j] := ⟨_, rfl⟩
    have hor : 4 ≤ op ∧ op ≤ 10 := by rw [hop]; exact ops_range j hj
    rw [← hop] at cj
    clear hop hr2 hb2 hbb y1
    go_wp2_with fail
    obtain ⟨iE, zE, hiE, hzE, hsE, hbE, hcE⟩ := infoE3
    have HE : Hid (Try.prog.info? 32 = some iE ∧ iE.zero = some zE ∧ iE.size = 3 ∧ iE.bytes = 40 ∧ zE.cells.size = 3) := ⟨hiE, hzE, hsE, hbE, hcE⟩
    clear hiE hzE hsE hbE hcE cj
    have har := arity_range op
    have HST : Hid (SmRel vars defs op (d + 1) w b p w2.heap.size 0 (w2.alloc (.cells #[.int .i64 op, .int .i64 0, .slice none 0 0] 32))) := smRel_start HB2.out HR2.out (by omega) HZ2.out lt2
    obtain ⟨B, hBdef⟩ : ∃ B, B = w2.heap.size := ⟨_, rfl⟩
    have hBw : w.heap.size < B := by omega
    rw [← hBdef] at HST
    rw [← hBdef]
    generalize w2.alloc (.cells #[.int .i64 op, .int .i64 0, .slice none 0 0] 32) = w3 at *
    clear hBdef
    go_loopw [11] (fun i wr => ∃ k : Nat, (k : Int) ≤ max (arity op) 0 ∧ i = .int .i64 k ∧ SmRel vars defs op (d + 1) w b p B k wr) (fun i _ => (arity op).toNat - (intOf i).toNat)
    case atStart => exact ⟨0, by omega, rfl, HST.out⟩
    case round =>
      obtain ⟨k, hk, rfl, ts, v, p', hlen0, hap, hr, hsz0, hp0', hbut, hR, hB1⟩ := hrel
      have hlen : Hid (ts.length = k) := hlen0
      have HKL : Hid (ts.length = k) := hlen0
      have HSZ : Hid (LsSh vars defs (d + 1) k ts) := hsz0
      have HPB : Hid (p' ≤ p + 3 + k * (1 + 8 * 4 ^ (d + 1))) := hp0'
      have HAP : Hid (ApRel op 0 ts B (B + 1) v wr) := hap
      have HR : Hid (RdOn wr b p') := hr
      have HBW : Hid (But b w wr) := hbut
      have HZ : Hid (wr.heap[w.heap.size]? = some zeroE) := hR
      have o0 := cell_of_blk hap.2 0 _ rfl
      have o1 := cell_of_blk hap.2 1 _ rfl
      have o2 := cell_of_blk hap.2 2 _ rfl
      have f2 := frz_of_blk hap.2 2
      clear hlen0 hsz0 hp0' hap hr hbut hR
      by_cases hlt : (k : Int) < arity op
      · have hk2 : k ≤ 2 := by omega
        have HPQ2 : Hid (p' + 1 + 8 * 4 ^ (d + 1) ≤ 1099511627776) := by
          have h1 : 1 ≤ 4 ^ (d + 1) := Nat.one_le_pow _ _ (by omega)
          have h2 : 4 ^ (d + 2) = 4 * 4 ^ (d + 1) := by rw [Nat.pow_succ 4 (d + 1)]; omega
          have h4 : k * (1 + 8 * 4 ^ (d + 1)) ≤ 2 * (1 + 8 * 4 ^ (d + 1)) := Nat.mul_le_mul_right _ hk2
          have h5 := HPB.out
          have h6 := HPP.out
          unfold Hid
          omega
        have HPQ : Hid (p' + 8 * 4 ^ (d + 1) ≤ 1099511627776) := by have := HPQ2.out; unfold Hid; omega
        have hpp1 : p' + 1 ≤ 1099511627776 := by have := HPQ2.out; omega
        go_wp2_with fail
        refine (l1Kids_calls op _).mono ?_
        rintro e wk ⟨rfl, rfl⟩
        by_cases hk0 : k = 0
        · have t1 : ((k : Int) == 0) = true := by simp; omega
          clear hk0
          by_cases h4 : op = 4
          · have t2 : (op == 4) = true := by simp; omega
            clear h4
            by_cases hdf : 0 < defs
            · have t3 : decide (0 < defs) = true := by simpa using hdf
              go_wp2_with fail
              refine (pick_calls 3 _ b _ HR.out (by omega) (by omega)).mono ?_
              rintro e w5 ⟨x5, rfl, x5l, x5u, -, hr5, hb5⟩
              have HR5 : Hid (RdOn w5 b (p' + 1)) := hr5
              have HBW5 : Hid (But b w w5) := HBW.out.trans hb5
              have HZ5 : Hid (w5.heap[w.heap.size]? = some zeroE) := (hb5.block _ (by omega) (by omega)).trans HZ.out
              have HAP5 : Hid (ApRel op 0 ts B (B + 1) v w5) := HAP.out.but hb5 (by omega) (by omega)
              have hB15 : B + 1 ≤ w5.heap.size := Nat.le_trans hB1 hb5.size
              clear o0 o1 o2 f2 hr5 hb5 x5u
              have o0 := cell_of_blk HAP5.out.2 0 _ rfl
              have o1 := cell_of_blk HAP5.out.2 1 _ rfl
              have o2 := cell_of_blk HAP5.out.2 2 _ rfl
              have f2 := frz_of_blk HAP5.out.2 2
              by_cases h5 : 0 < x5
              · have t4 : decide (0 < x5) = true := by simpa using h5
                go_wp2_with fail
                go_region_law (first
                  | (go_simp; go_at_call 50; go_must (refine (pick_calls defs _ b (p' + 1) ?_ ?_ ?_).mono ?_); go_must (exact HR5.out.drew); go_must (omega); go_must (omega); go_must (rintro e wz ⟨yg, rfl, yl, yu, yz, tr, tb⟩); go_must (have hyu := yu hdf); go_must (have HTR : Hid (RdOn wz b _) := tr); go_must (have HBB : Hid (But b w5 wz) := (But.refl _ _).drew.trans tb); go_must (have z2 := (HBB.out.cell (p := ⟨B, 2, none⟩) (by show B < w5.heap.size; omega) (by show B ≠ b; omega)).trans o2); go_must (have hz1 : B < wz.heap.size := by have := HBB.out.size; omega); clear tr tb yu yz; go_wp2_with fail)
                  | (go_must (obtain ⟨xs, hx, hxs⟩ := apBut_mid HAP5.out HBB.out (by omega) (.cells #[.int .i64 3, .int .i64 yg, .slice none 0 0] 32)); go_must (have HX : Hid _ := hx); go_must (rw [HKL.out] at hx); go_must (refine step_append_where rfl (.tmp 80) (.tmp 85) 30 rfl (B + 1) 32 iE zE 3 40 Try.underlying30 HE.out.1 HE.out.2.1 HE.out.2.2.1 HE.out.2.2.2.1 HE.out.2.2.2.2 (by decide) v k xs (by simp [Act.eval, Act.put]) hx ⟨wz.heap.size, 0, none⟩ 1 1 [.int .i64 3, .int .i64 yg, .slice none 0 0] (by simp [Act.eval, Act.put]) rfl (news3 wz _ _ _) (by simp [Value.oneCell']) (by unfold maxLen; omega) (by omega) (by rw [Deep.nblk_alloc]; have := HBB.out.size; omega) (by omega) ?_); go_must (intro v' w9 hown hg hw); go_must (obtain ⟨g', c', rfl⟩ := Joins.ownsRow_form hown (by omega)); go_must (have hB3 : w9.heap[B]? = some (.cells #[.int .i64 op, .int .i64 0, v] 32) := (apBut_other (B := B) (b := b) HAP5.out HBB.out.size hg B (by omega) (by have := HBB.out.size; omega)).trans ((HBB.out.block B (by omega) (by omega)).trans HAP5.out.2)); go_must (have s2 := cell_of_blk hB3 2 _ rfl); go_must (have sf := frz_of_blk hB3 2); clear hB3))
                all_goals
                  have HV : Hid (SmRel vars defs op (d + 1) w b p B (k + 1) (w9.setCell ⟨B, 2, none⟩ (.slice (some ⟨g', 0, none⟩) (k + 1) c'))) :=
                    smRel_step (t := .node 3 yg []) (c := .slice none 0 0) hlen.out HAP5.out hbw hBw hB15 HBW5.out HZ5.out HBB.out HTR.out ⟨none, 0, rfl, Nat.le_refl _, by simp [maxLen], Or.inl rfl⟩ (by unfold I64; simp) (by unfold I64; simp only [Tr.num_node]; omega) HX.out hown hg hw hxs HSZ.out ⟨by simp [szL]; exact Nat.one_le_pow _ _ (by omega), leaf_shB (leaf3 ⟨yl, hyu⟩) _⟩ (by have := HPB.out; have h9 : 1 ≤ 4 ^ (d + 1) := Nat.one_le_pow _ _ (by omega); rw [Nat.add_mul, Nat.one_mul]; omega)
                  clear hg hw hown hxs hx s2 sf
                  go_wp2_with fail
                  go_roundw
                  case rel => exact ⟨k + 1, by omega, by go_num, HV.out⟩
                  case measure => simp [intOf]; omega
              · have t4 : decide (0 < x5) = false := by simpa using h5
                have HPQ' := HPQ
                clear HPQ
                have HPQ := HPQ2
                go_wp2_with fail
                go_region_law (first
                  | (go_simp; go_at_call 109; rw [HWR.out]; go_must (refine (HI.out vars defs _ b (p' + 1) hv hf ?_ ?_).mono ?_); go_must (exact HR5.out.drew); go_must (exact HPQ.out); go_must (rintro e wz ⟨t, c, pz, rfl, tqo, tn, tk, tsz, tr, tp, tb⟩); go_must (obtain ⟨ad2, cap2, rfl, _, _, _⟩ := id tk); go_must (have HTK : Hid (KidsOn wz (Btw w5.heap.size wz.heap.size) t.kids (.slice ad2 t.kids.length cap2)) := tk); go_must (have HTR : Hid (RdOn wz b pz) := tr); go_must (have HBB : Hid (But b w5 wz) := (But.refl _ _).drew.trans tb); go_must (have z2 := (HBB.out.cell (p := ⟨B, 2, none⟩) (by show B < w5.heap.size; omega) (by show B ≠ b; omega)).trans o2); go_must (have hz1 : B < wz.heap.size := by have := HBB.out.size; omega); go_must (have HTS : Hid (SzSh vars defs (d + 1) t) := tsz); go_must (have HTP : Hid (pz ≤ (p' + 1) + 8 * 4 ^ (d + 1)) := tp); clear tk tr tb tsz tp; go_wp2_with fail)
                  | (go_must (obtain ⟨xs, hx, hxs⟩ := apBut_mid HAP5.out HBB.out (by omega) (.cells #[.int .i64 t.op, .int .i64 t.num, .slice ad2 t.kids.length cap2] 32)); go_must (have HX : Hid _ := hx); go_must (rw [HKL.out] at hx); go_must (refine step_append_where rfl (.tmp 89) (.tmp 96) 30 rfl (B + 1) 32 iE zE 3 40 Try.underlying30 HE.out.1 HE.out.2.1 HE.out.2.2.1 HE.out.2.2.2.1 HE.out.2.2.2.2 (by decide) v k xs (by simp [Act.eval, Act.put]) hx ⟨wz.heap.size, 0, none⟩ 1 1 [.int .i64 t.op, .int .i64 t.num, .slice ad2 t.kids.length cap2] (by simp [Act.eval, Act.put]) rfl (news3 wz _ _ _) (by simp [Value.oneCell']) (by unfold maxLen; omega) (by omega) (by rw [Deep.nblk_alloc]; have := HBB.out.size; omega) (by omega) ?_); go_must (intro v' w9 hown hg hw); go_must (obtain ⟨g', c', rfl⟩ := Joins.ownsRow_form hown (by omega)); go_must (have hB3 : w9.heap[B]? = some (.cells #[.int .i64 op, .int .i64 0, v] 32) := (apBut_other (B := B) (b := b) HAP5.out HBB.out.size hg B (by omega) (by have := HBB.out.size; omega)).trans ((HBB.out.block B (by omega) (by omega)).trans HAP5.out.2)); go_must (have s2 := cell_of_blk hB3 2 _ rfl); go_must (have sf := frz_of_blk hB3 2); clear hB3))
                all_goals
                  have HV : Hid (SmRel vars defs op (d + 1) w b p B (k + 1) (w9.setCell ⟨B, 2, none⟩ (.slice (some ⟨g', 0, none⟩) (k + 1) c'))) :=
                    smRel_step hlen.out HAP5.out hbw hBw hB15 HBW5.out HZ5.out HBB.out HTR.out HTK.out tqo tn HX.out hown hg hw hxs HSZ.out HTS.out (by have := HTP.out; have := HPB.out; rw [Nat.add_mul, Nat.one_mul]; omega)
                  clear hg hw hown hxs hx s2 sf
                  go_wp2_with fail
                  go_roundw
                  case rel => exact ⟨k + 1, by omega, by go_num, HV.out⟩
                  case measure => simp [intOf]; omega
            · have t3 : decide (0 < defs) = false := by simpa using hdf
              go_wp2_with fail
              go_region_law (first
                | (go_simp; go_at_call 109; rw [HWR.out]; go_must (refine (HI.out vars defs _ b p' hv hf ?_ ?_).mono ?_); go_must (exact HR.out.drew); go_must (exact HPQ.out); go_must (rintro e wz ⟨t, c, pz, rfl, tqo, tn, tk, tsz, tr, tp, tb⟩); go_must (obtain ⟨ad2, cap2, rfl, _, _, _⟩ := id tk); go_must (have HTK : Hid (KidsOn wz (Btw wr.heap.size wz.heap.size) t.kids (.slice ad2 t.kids.length cap2)) := tk); go_must (have HTR : Hid (RdOn wz b pz) := tr); go_must (have HBB : Hid (But b wr wz) := (But.refl _ _).drew.trans tb); go_must (have z2 := (HBB.out.cell (p := ⟨B, 2, none⟩) (by show B < wr.heap.size; omega) (by show B ≠ b; omega)).trans o2); go_must (have hz1 : B < wz.heap.size := by have := HBB.out.size; omega); go_must (have HTS : Hid (SzSh vars defs (d + 1) t) := tsz); go_must (have HTP : Hid (pz ≤ p' + 8 * 4 ^ (d + 1)) := tp); clear tk tr tb tsz tp; go_wp2_with fail)
                | (go_must (obtain ⟨xs, hx, hxs⟩ := apBut_mid HAP.out HBB.out (by omega) (.cells #[.int .i64 t.op, .int .i64 t.num, .slice ad2 t.kids.length cap2] 32)); go_must (have HX : Hid _ := hx); go_must (rw [HKL.out] at hx); go_must (refine step_append_where rfl (.tmp 89) (.tmp 96) 30 rfl (B + 1) 32 iE zE 3 40 Try.underlying30 HE.out.1 HE.out.2.1 HE.out.2.2.1 HE.out.2.2.2.1 HE.out.2.2.2.2 (by decide) v k xs (by simp [Act.eval, Act.put]) hx ⟨wz.heap.size, 0, none⟩ 1 1 [.int .i64 t.op, .int .i64 t.num, .slice ad2 t.kids.length cap2] (by simp [Act.eval, Act.put]) rfl (news3 wz _ _ _) (by simp [Value.oneCell']) (by unfold maxLen; omega) (by omega) (by rw [Deep.nblk_alloc]; have := HBB.out.size; omega) (by omega) ?_); go_must (intro v' w9 hown hg hw); go_must (obtain ⟨g', c', rfl⟩ := Joins.ownsRow_form hown (by omega)); go_must (have hB3 : w9.heap[B]? = some (.cells #[.int .i64 op, .int .i64 0, v] 32) := (apBut_other (B := B) (b := b) HAP.out HBB.out.size hg B (by omega) (by have := HBB.out.size; omega)).trans ((HBB.out.block B (by omega) (by omega)).trans HAP.out.2)); go_must (have s2 := cell_of_blk hB3 2 _ rfl); go_must (have sf := frz_of_blk hB3 2); clear hB3))
              all_goals
                have HV : Hid (SmRel vars defs op (d + 1) w b p B (k + 1) (w9.setCell ⟨B, 2, none⟩ (.slice (some ⟨g', 0, none⟩) (k + 1) c'))) :=
                  smRel_step hlen.out HAP.out hbw hBw hB1 HBW.out HZ.out HBB.out HTR.out HTK.out tqo tn HX.out hown hg hw hxs HSZ.out HTS.out (by have := HTP.out; have := HPB.out; rw [Nat.add_mul, Nat.one_mul]; omega)
                clear hg hw hown hxs hx s2 sf
                go_wp2_with fail
                go_roundw
                case rel => exact ⟨k + 1, by omega, by go_num, HV.out⟩
                case measure => simp [intOf]; omega
          · have t2 : (op == 4) = false := by simpa using h4
            go_wp2_with fail
            go_region_law (first
              | (go_simp; go_at_call 109; rw [HWR.out]; go_must (refine (HI.out vars defs _ b p' hv hf ?_ ?_).mono ?_); go_must (exact HR.out.drew); go_must (exact HPQ.out); go_must (rintro e wz ⟨t, c, pz, rfl, tqo, tn, tk, tsz, tr, tp, tb⟩); go_must (obtain ⟨ad2, cap2, rfl, _, _, _⟩ := id tk); go_must (have HTK : Hid (KidsOn wz (Btw wr.heap.size wz.heap.size) t.kids (.slice ad2 t.kids.length cap2)) := tk); go_must (have HTR : Hid (RdOn wz b pz) := tr); go_must (have HBB : Hid (But b wr wz) := (But.refl _ _).drew.trans tb); go_must (have z2 := (HBB.out.cell (p := ⟨B, 2, none⟩) (by show B < wr.heap.size; omega) (by show B ≠ b; omega)).trans o2); go_must (have hz1 : B < wz.heap.size := by have := HBB.out.size; omega); go_must (have HTS : Hid (SzSh vars defs (d + 1) t) := tsz); go_must (have HTP : Hid (pz ≤ p' + 8 * 4 ^ (d + 1)) := tp); clear tk tr tb tsz tp; go_wp2_with fail)
              | (go_must (obtain ⟨xs, hx, hxs⟩ := apBut_mid HAP.out HBB.out (by omega) (.cells #[.int .i64 t.op, .int .i64 t.num, .slice ad2 t.kids.length cap2] 32)); go_must (have HX : Hid _ := hx); go_must (rw [HKL.out] at hx); go_must (refine step_append_where rfl (.tmp 89) (.tmp 96) 30 rfl (B + 1) 32 iE zE 3 40 Try.underlying30 HE.out.1 HE.out.2.1 HE.out.2.2.1 HE.out.2.2.2.1 HE.out.2.2.2.2 (by decide) v k xs (by simp [Act.eval, Act.put]) hx ⟨wz.heap.size, 0, none⟩ 1 1 [.int .i64 t.op, .int .i64 t.num, .slice ad2 t.kids.length cap2] (by simp [Act.eval, Act.put]) rfl (news3 wz _ _ _) (by simp [Value.oneCell']) (by unfold maxLen; omega) (by omega) (by rw [Deep.nblk_alloc]; have := HBB.out.size; omega) (by omega) ?_); go_must (intro v' w9 hown hg hw); go_must (obtain ⟨g', c', rfl⟩ := Joins.ownsRow_form hown (by omega)); go_must (have hB3 : w9.heap[B]? = some (.cells #[.int .i64 op, .int .i64 0, v] 32) := (apBut_other (B := B) (b := b) HAP.out HBB.out.size hg B (by omega) (by have := HBB.out.size; omega)).trans ((HBB.out.block B (by omega) (by omega)).trans HAP.out.2)); go_must (have s2 := cell_of_blk hB3 2 _ rfl); go_must (have sf := frz_of_blk hB3 2); clear hB3))
            all_goals
              have HV : Hid (SmRel vars defs op (d + 1) w b p B (k + 1) (w9.setCell ⟨B, 2, none⟩ (.slice (some ⟨g', 0, none⟩) (k + 1) c'))) :=
                smRel_step hlen.out HAP.out hbw hBw hB1 HBW.out HZ.out HBB.out HTR.out HTK.out tqo tn HX.out hown hg hw hxs HSZ.out HTS.out (by have := HTP.out; have := HPB.out; rw [Nat.add_mul, Nat.one_mul]; omega)
              clear hg hw hown hxs hx s2 sf
              go_wp2_with fail
              go_roundw
              case rel => exact ⟨k + 1, by omega, by go_num, HV.out⟩
              case measure => simp [intOf]; omega
        · have t1 : ((k : Int) == 0) = false := by simp; omega
          go_wp2_with fail
          go_region_law (first
            | (go_simp; go_at_call 109; rw [HWR.out]; go_must (refine (HI.out vars defs _ b p' hv hf ?_ ?_).mono ?_); go_must (exact HR.out.drew); go_must (exact HPQ.out); go_must (rintro e wz ⟨t, c, pz, rfl, tqo, tn, tk, tsz, tr, tp, tb⟩); go_must (obtain ⟨ad2, cap2, rfl, _, _, _⟩ := id tk); go_must (have HTK : Hid (KidsOn wz (Btw wr.heap.size wz.heap.size) t.kids (.slice ad2 t.kids.length cap2)) := tk); go_must (have HTR : Hid (RdOn wz b pz) := tr); go_must (have HBB : Hid (But b wr wz) := (But.refl _ _).drew.trans tb); go_must (have z2 := (HBB.out.cell (p := ⟨B, 2, none⟩) (by show B < wr.heap.size; omega) (by show B ≠ b; omega)).trans o2); go_must (have hz1 : B < wz.heap.size := by have := HBB.out.size; omega); go_must (have HTS : Hid (SzSh vars defs (d + 1) t) := tsz); go_must (have HTP : Hid (pz ≤ p' + 8 * 4 ^ (d + 1)) := tp); clear tk tr tb tsz tp; go_wp2_with fail)
            | (go_must (obtain ⟨xs, hx, hxs⟩ := apBut_mid HAP.out HBB.out (by omega) (.cells #[.int .i64 t.op, .int .i64 t.num, .slice ad2 t.kids.length cap2] 32)); go_must (have HX : Hid _ := hx); go_must (rw [HKL.out] at hx); go_must (refine step_append_where rfl (.tmp 89) (.tmp 96) 30 rfl (B + 1) 32 iE zE 3 40 Try.underlying30 HE.out.1 HE.out.2.1 HE.out.2.2.1 HE.out.2.2.2.1 HE.out.2.2.2.2 (by decide) v k xs (by simp [Act.eval, Act.put]) hx ⟨wz.heap.size, 0, none⟩ 1 1 [.int .i64 t.op, .int .i64 t.num, .slice ad2 t.kids.length cap2] (by simp [Act.eval, Act.put]) rfl (news3 wz _ _ _) (by simp [Value.oneCell']) (by unfold maxLen; omega) (by omega) (by rw [Deep.nblk_alloc]; have := HBB.out.size; omega) (by omega) ?_); go_must (intro v' w9 hown hg hw); go_must (obtain ⟨g', c', rfl⟩ := Joins.ownsRow_form hown (by omega)); go_must (have hB3 : w9.heap[B]? = some (.cells #[.int .i64 op, .int .i64 0, v] 32) := (apBut_other (B := B) (b := b) HAP.out HBB.out.size hg B (by omega) (by have := HBB.out.size; omega)).trans ((HBB.out.block B (by omega) (by omega)).trans HAP.out.2)); go_must (have s2 := cell_of_blk hB3 2 _ rfl); go_must (have sf := frz_of_blk hB3 2); clear hB3))
          all_goals
            have HV : Hid (SmRel vars defs op (d + 1) w b p B (k + 1) (w9.setCell ⟨B, 2, none⟩ (.slice (some ⟨g', 0, none⟩) (k + 1) c'))) :=
              smRel_step hlen.out HAP.out hbw hBw hB1 HBW.out HZ.out HBB.out HTR.out HTK.out tqo tn HX.out hown hg hw hxs HSZ.out HTS.out (by have := HTP.out; have := HPB.out; rw [Nat.add_mul, Nat.one_mul]; omega)
            clear hg hw hown hxs hx s2 sf
            go_wp2_with fail
            go_roundw
            case rel => exact ⟨k + 1, by omega, by go_num, HV.out⟩
            case measure => simp [intOf]; omega
      · have hk3 : k ≤ 3 := by omega
        have HEND : Hid (SomeTr vars defs (d + 2) w b p (.returned (.agg #[.int .i64 op, .int .i64 0, v])) (((wr.setCell ⟨w.heap.size, 0, none⟩ (.int .i64 op)).setCell ⟨w.heap.size, 1, none⟩ (.int .i64 0)).setCell ⟨w.heap.size, 2, none⟩ v)) :=
          smRel_end hlen.out HAP.out HR.out HSZ.out HPB.out HBW.out hbw hBw hk3 (by unfold I64; omega) (by have := ar_pos hor; omega) (by omega)
        have hform : (v = .slice none 0 0 ∧ True) ∨ ∃ g c, v = .slice (some ⟨g, 0, none⟩) ts.length c := by
          obtain ⟨xs, h1, _⟩ := HAP.out.1
          rcases Joins.ownsRow_forms h1 with ⟨h, _⟩ | h
          · exact Or.inl ⟨h, trivial⟩
          · exact Or.inr h
        have r0 := cell_of_blk HZ.out 0 _ rfl
        have r1 := cell_of_blk HZ.out 1 _ rfl
        have r2 := cell_of_blk HZ.out 2 _ rfl
        have q0 := frz_of_blk HZ.out 0
        have q1 := frz_of_blk HZ.out 1
        have q2 := frz_of_blk HZ.out 2
        rcases hform with ⟨rfl, -⟩ | ⟨g, c', rfl⟩
        all_goals
          go_wp2_with fail
          refine (l1Kids_calls op _).mono ?_
          rintro e wk ⟨rfl, rfl⟩
          go_wp2_with fail
          refine bodyPost_ret (v := .agg #[.int .i64 op, .int .i64 0, _]) (by simp [results, Try.results109, go_sem, r0, r1, r2]; rfl) rfl ?_
          exact HEND.out

/-- THE DRAWN EXPRESSION, FOR EVERY DEPTH UP TO 100 -/
theorem sm_any : ∀ (d : Nat), d ≤ 100 → SmSaid d := by
  intro d
  induction d using Nat.strongRecOn with
  | ind d ih =>
    intro hd
    by_cases h2 : d < 2
    · intro vars defs w b p hv hf h hp
      exact sm_leaf0 d h2 vars defs w b p h hv hf (by have : 1 ≤ 4 ^ d := Nat.one_le_pow _ _ (by omega); omega)
    · obtain ⟨e, rfl⟩ : ∃ e, d = e + 2 := ⟨d - 2, by omega⟩
      exact sm_succ e (by omega) (ih (e + 1) (by omega) (by omega))
end Go.Proofs.Ytglpehelmlehiaa
/-
  WHAT A DRAWN EXPRESSION IS, plainly: valid, and of forty nodes at most.
-/
namespace Go.Proofs.Ytglpehelmlehiaa
set_option linter.unusedVariables false
set_option linter.unusedSimpArgs false
open Go.RowKit

/-! ### A drawn expression is valid -/
def bndT : Nat → Nat
  | 0 => 0
  | d + 1 => 1 + 3 * bndT d
theorem sumT_bound (ks : List Tr) (B : Nat) (h : ∀ k ∈ ks, 1 + szT k ≤ B) : szL ks ≤ ks.length * B := by
  induction ks with
  | nil => simp [szL]
  | cons t ts ih =>
    have h1 := h t (by simp)
    have h2 := ih (fun k hk => h k (by simp [hk]))
    simp only [szL, List.length_cons, Nat.add_mul, Nat.one_mul]
    omega
theorem shB_size {vars defs : Int} : ∀ (d : Nat) (t : Tr), shB vars defs d t = true → 1 + szT t ≤ bndT d
  | 0, _, h => by simp [shB] at h
  | d + 1, t, h => by
    simp only [shB, Bool.and_eq_true, List.all_eq_true, decide_eq_true_eq] at h
    obtain ⟨⟨h1, h2⟩, h3⟩ := h
    have h4 := sumT_bound t.kids (bndT d) (fun k hk => shB_size d k (h3 k hk))
    have h5 : t.kids.length ≤ 3 := by
      have := (arity_range t.op).2
      omega
    have h6 : t.kids.length * bndT d ≤ 3 * bndT d := Nat.mul_le_mul_right _ h5
    rw [szT_eq, bndT]
    omega
theorem shB_deeper {vars defs : Int} : ∀ (d e : Nat) (t : Tr), d ≤ e → shB vars defs d t = true → shB vars defs e t = true
  | 0, _, _, _, h => by simp [shB] at h
  | d + 1, 0, _, hd, _ => by omega
  | d + 1, e + 1, t, hd, h => by
    simp only [shB, Bool.and_eq_true, List.all_eq_true] at h ⊢
    exact ⟨h.1, fun k hk => shB_deeper d e k (by omega) (h.2 k hk)⟩
theorem ints_gen (L : List Int) : ∀ i (hi : i < L.length), ((L.map fun (a : Int) => Value.int .i64 a).toArray)[i]? = some (.int .i64 L[i]) := by
  intro i hi
  simp [hi]

/-- a drawn expression is valid -/
theorem some_valid {vars defs : Int} {d : Nat} {t : Tr} (h : SzSh vars defs d t) (hd : d ≤ 4) (hv : 0 ≤ vars ∧ vars ≤ 4) (hf : 0 ≤ defs ∧ defs ≤ 6) : validB t vars defs = true ∧ 1 + szT t ≤ 40 := by
  have hdd : ddp d ≤ 4 := by unfold ddp; split <;> omega
  have h1 := shB_deeper (ddp d) 4 t hdd h.2
  have h2 := shB_size 4 t h1
  have h3 : bndT 4 = 40 := rfl
  refine ⟨?_, by omega⟩
  have h4 := shB_deeper 4 16 t (by omega) h1
  unfold validB
  rw [h4]
  simp
  omega
end Go.Proofs.Ytglpehelmlehiaa
/-
  THE MODEL's l2Goal: a program and a closed expression for it.
-/
namespace Go.Proofs.Ytglpehelmlehiaa
set_option linter.unusedVariables false
set_option linter.unusedSimpArgs false
open Go.RowKit

/-- a program and a closed expression for it were drawn -/
def GoalD (w : World) (b p : Nat) (e : Ending) (w' : World) : Prop :=
  ∃ ds t pv kv p', e = .returned (.tuple #[pv, .agg #[.int .i64 t.op, .int .i64 t.num, kv]]) ∧ progB ds = true ∧ validB t 0 ds.length = true ∧ I64 t.op ∧ I64 t.num ∧ DefsOn w' (PN w.heap.size w') ds pv ∧ KidsOn w' (Btw w.heap.size w'.heap.size) t.kids kv ∧ RdOn w' b p' ∧ p' ≤ p + 5000 ∧ But b w w'
theorem goalD_of {ds : List Df} {t : Tr} {pv kv : Value} {w w' : World} {b p p' : Nat} (h1 : progB ds = true) (h2 : validB t 0 ds.length = true) (h3 : I64 t.op ∧ I64 t.num) (h4 : DefsOn w' (PN w.heap.size w') ds pv) (h5 : KidsOn w' (Btw w.heap.size w'.heap.size) t.kids kv) (h6 : RdOn w' b p') (h7 : p' ≤ p + 5000) (h8 : But b w w') :
    GoalD w b p (.returned (.tuple #[pv, .agg #[.int .i64 t.op, .int .i64 t.num, kv]])) w' := ⟨ds, t, pv, kv, p', rfl, h1, h2, h3.1, h3.2, h4, h5, h6, h7, h8⟩
theorem parseE_i64 (s : ByteArray) : I64 (parseE s).1.op ∧ I64 (parseE s).1.num := by
  unfold parseE
  split
  · have h := parseT_rng s 16 0
    have h1 := h.2.1
    have h2 := h.2.2
    simp only [I64]
    omega
  · unfold I64; decide
theorem GoalD.drew {w w' : World} {b p : Nat} {e : Ending} (h : GoalD w b p e w') : GoalD w b p e w'.drew := by
  obtain ⟨ds, t, pv, kv, p', h0, h1, h2, h3, h3', h4, h5, h6, h7, h8⟩ := h
  exact ⟨ds, t, pv, kv, p', h0, h1, h2, h3, h3', h4.mono (fun k hk => hk.go (Nat.le_refl _) rfl) fun _ _ => rfl, h5.mono (fun _ hk => hk) fun _ _ => rfl, h6.drew, h7, h8.drew⟩
theorem some_le {d : Nat} (hd : d ≤ 4) : 8 * 4 ^ d ≤ 2048 := by
  have : 4 ^ d ≤ 4 ^ 4 := Nat.pow_le_pow_right (by omega) hd
  omega
theorem small_of {L : List Int} {y : Int} (hy : y ∈ L) (hL : ∀ z ∈ L, 0 ≤ z ∧ z ≤ 4) : ∃ d : Nat, d ≤ 4 ∧ y = (d : Int) := ⟨y.toNat, by have := hL y hy; omega, by have := hL y hy; omega⟩
theorem valid_of_sh {t : Tr} {vars defs : Int} {d : Nat} (h : shB vars defs d t = true) (hd : d ≤ 16) (hs : 1 + szT t ≤ 60) (hv : 0 ≤ vars ∧ vars ≤ 4) (hf : 0 ≤ defs ∧ defs ≤ 6) : validB t vars defs = true := by
  have h4 := shB_deeper d 16 t hd h
  unfold validB
  rw [h4]
  simp
  omega
theorem sh_add {t u : Tr} {vars defs : Int} {d : Nat} (h : shB vars defs d t = true) (h2 : shB vars defs d u = true) : shB vars defs (d + 1) (.node 8 0 [t, u]) = true := by
  simp [shB, h, h2, arity, ownB]
theorem add_size (t u : Tr) : szT (.node 8 0 [t, u]) = (1 + szT t) + (1 + szT u) := by
  rw [szT_eq]; simp only [Tr.kids_node, szL, szT_eq]; omega
/-- a world behind the result's three stores -/
theorem But.set3 {b B : Nat} {w W : World} (h : But b w W) (hB : w.heap.size ≤ B) (x y z : Value) : But b w (((W.setCell ⟨B, 0, none⟩ x).setCell ⟨B, 1, none⟩ y).setCell ⟨B, 2, none⟩ z) :=
  ((h.setNew (by exact hB) _).setNew (by exact hB) _).setNew (by exact hB) _
theorem RdOn.set3 {b p B : Nat} {W : World} (h : RdOn W b p) (hB : b < B) (x y z : Value) : RdOn (((W.setCell ⟨B, 0, none⟩ x).setCell ⟨B, 1, none⟩ y).setCell ⟨B, 2, none⟩ z) b p :=
  ((h.setCell (by exact hB) _).setCell (by exact hB) _).setCell (by exact hB) _
theorem set3_size (W : World) (B : Nat) (x y z : Value) : (((W.setCell ⟨B, 0, none⟩ x).setCell ⟨B, 1, none⟩ y).setCell ⟨B, 2, none⟩ z).heap.size = W.heap.size := by
  rw [size_setCell, size_setCell, size_setCell]
theorem defs_set3 {W : World} {lo lo' B : Nat} {ds : List Df} {v : Value} (h : DefsOn W (PN lo W) ds v) (hB : B < lo) (hl : lo' ≤ lo) (x y z : Value) :
    DefsOn (((W.setCell ⟨B, 0, none⟩ x).setCell ⟨B, 1, none⟩ y).setCell ⟨B, 2, none⟩ z) (PN lo' (((W.setCell ⟨B, 0, none⟩ x).setCell ⟨B, 1, none⟩ y).setCell ⟨B, 2, none⟩ z)) ds v :=
  h.mono (fun k hk => hk.go hl (set3_heap _ _ _ _ _ _ (by have := hk.1; omega))) fun k hk => set3_heap _ _ _ _ _ _ (by have := hk.1; omega)
theorem kids_set3 {W : World} {lo lo' hi B : Nat} {ks : List Tr} {v : Value} (h : KidsOn W (Btw lo hi) ks v) (hB : B < lo) (hl : lo' ≤ lo) (hh : hi ≤ W.heap.size) (x y z : Value) :
    KidsOn (((W.setCell ⟨B, 0, none⟩ x).setCell ⟨B, 1, none⟩ y).setCell ⟨B, 2, none⟩ z) (Btw lo' (((W.setCell ⟨B, 0, none⟩ x).setCell ⟨B, 1, none⟩ y).setCell ⟨B, 2, none⟩ z).heap.size) ks v :=
  h.mono (fun k hk => ⟨by have := hk.1; omega, by rw [set3_size]; have := hk.2; omega⟩) fun k hk => set3_heap _ _ _ _ _ _ (by have := hk.1; omega)
/-- a drawn program goes on -/
theorem defs_but {w w' : World} {b lo : Nat} {ds : List Df} {v : Value} (h : DefsOn w (PN lo w) ds v) (hb : But b w w') (hl : b < lo) : DefsOn w' (PN lo w') ds v :=
  h.mono (fun k hk => hk.go (Nat.le_refl _) (hb.block k hk.2.1 (by have := hk.1; omega))) fun k hk => hb.block k hk.2.1 (by have := hk.1; omega)
theorem kids_but {w w' : World} {b lo hi : Nat} {ks : List Tr} {v : Value} (h : KidsOn w (Btw lo hi) ks v) (hb : But b w w') (hl : b < lo) (hh : hi ≤ w.heap.size) : KidsOn w' (Btw lo hi) ks v :=
  h.mono (fun _ hk => hk) fun k hk => hb.block k (by have := hk.2; omega) (by have := hk.1; omega)
theorem boxed {w w1 : World} {o : Obj} (hb1 : Below (w.alloc o).heap.size (w.alloc o) w1) : w1.heap[w.heap.size]? = some o ∧ Below w.heap.size w w1 ∧ w.heap.size + 1 ≤ w1.heap.size := by
  have hs := hb1.size
  rw [Deep.nblk_alloc] at hs
  exact ⟨(hb1.block _ (by rw [Deep.nblk_alloc]; omega)).trans (Deep.blk_alloc_new _ _), (box_below _ _).trans (hb1.mono (by rw [Deep.nblk_alloc]; omega)), hs⟩

/-! ### A sum of two expressions is laid -/
def AddW (w : World) (E : Nat) (o1 n1 : Int) (k1 : Value) (o2 n2 : Int) (k2 : Value) : World :=
  (((w.setCell ⟨E, 0, none⟩ (.int .i64 8)).setCell ⟨E, 1, none⟩ (.int .i64 0)).setCell ⟨E, 2, none⟩ (.slice (some ⟨w.heap.size, 0, none⟩) 2 2)).alloc (.cells #[.int .i64 o1, .int .i64 n1, k1, .int .i64 o2, .int .i64 n2, k2] 32)
theorem addW_size (w : World) (E : Nat) (o1 n1 : Int) (k1 : Value) (o2 n2 : Int) (k2 : Value) : (AddW w E o1 n1 k1 o2 n2 k2).heap.size = w.heap.size + 1 := by
  unfold AddW; rw [Deep.nblk_alloc, set3_size]
theorem addW_old (w : World) (E : Nat) (o1 n1 : Int) (k1 : Value) (o2 n2 : Int) (k2 : Value) {k : Nat} (hk : k < w.heap.size) (hE : k ≠ E) : (AddW w E o1 n1 k1 o2 n2 k2).heap[k]? = w.heap[k]? := by
  unfold AddW; rw [Deep.blk_alloc_lt _ _ _ (by rw [set3_size]; exact hk)]; exact set3_heap _ _ _ _ _ _ hE
theorem addW_new (w : World) (E : Nat) (o1 n1 : Int) (k1 : Value) (o2 n2 : Int) (k2 : Value) : (AddW w E o1 n1 k1 o2 n2 k2).heap[w.heap.size]? = some (.cells #[.int .i64 o1, .int .i64 n1, k1, .int .i64 o2, .int .i64 n2, k2] 32) := by
  have h := Deep.blk_alloc_new (((w.setCell ⟨E, 0, none⟩ (.int .i64 8)).setCell ⟨E, 1, none⟩ (.int .i64 0)).setCell ⟨E, 2, none⟩ (.slice (some ⟨w.heap.size, 0, none⟩) 2 2)) (.cells #[.int .i64 o1, .int .i64 n1, k1, .int .i64 o2, .int .i64 n2, k2] 32)
  rw [set3_size] at h
  exact h
theorem addW_box {w : World} {E : Nat} {a b c : Value} {T : TypeId} (h : w.heap[E]? = some (.cells #[a, b, c] T)) (o1 n1 : Int) (k1 : Value) (o2 n2 : Int) (k2 : Value) :
    (AddW w E o1 n1 k1 o2 n2 k2).heap[E]? = some (.cells #[.int .i64 8, .int .i64 0, .slice (some ⟨w.heap.size, 0, none⟩) 2 2] T) := by
  have hl : E < w.heap.size := (Array.getElem?_eq_some_iff.1 h).1
  unfold AddW
  rw [Deep.blk_alloc_lt _ _ _ (by rw [set3_size]; exact hl)]
  simp [World.setCell, Array.getElem?_modify, h]
theorem addW_but {w : World} {E b : Nat} {w0 : World} (h : But b w0 w) (hE : w0.heap.size ≤ E) (o1 n1 : Int) (k1 : Value) (o2 n2 : Int) (k2 : Value) : But b w0 (AddW w E o1 n1 k1 o2 n2 k2) :=
  (h.set3 hE _ _ _).trans (But.of_below (box_below _ _))
theorem addW_kids {w : World} {E lo hi : Nat} {t u : Tr} {k1 k2 : Value} (ht : I64 t.op ∧ I64 t.num) (hu : I64 u.op ∧ I64 u.num) (h1 : KidsOn w (Btw lo E) t.kids k1) (h2 : KidsOn w (Btw hi w.heap.size) u.kids k2) (hE : E < hi) (hl : lo ≤ E) (hw : hi ≤ w.heap.size) :
    KidsOn (AddW w E t.op t.num k1 u.op u.num k2) (Btw lo (w.heap.size + 1)) [t, u] (.slice (some ⟨w.heap.size, 0, none⟩) 2 2) := by
  refine ⟨_, 2, rfl, Nat.le_refl _, by simp [maxLen], Or.inr ⟨w.heap.size, 0, rfl, ⟨by omega, by omega⟩, ?_⟩⟩
  have hn := addW_new w E t.op t.num k1 u.op u.num k2
  have e1 : KidsOn (AddW w E t.op t.num k1 u.op u.num k2) (Btw lo (w.heap.size + 1)) t.kids k1 := h1.mono (fun k hk => ⟨hk.1, by have := hk.2; omega⟩) fun k hk => addW_old _ _ _ _ _ _ _ _ (by have := hk.2; omega) (by have := hk.2; omega)
  have e2 : KidsOn (AddW w E t.op t.num k1 u.op u.num k2) (Btw lo (w.heap.size + 1)) u.kids k2 := h2.mono (fun k hk => ⟨by have := hk.1; omega, by have := hk.2; omega⟩) fun k hk => addW_old _ _ _ _ _ _ _ _ (by have := hk.2; omega) (by have := hk.1; omega)
  simp only [RowOn]
  exact ⟨⟨_, _, _, cell_of_blk hn 0 _ rfl, cell_of_blk hn 1 _ rfl, cell_of_blk hn 2 _ rfl, trOn_iff.2 ⟨rfl, rfl, ht.1, ht.2, e1⟩⟩, ⟨_, _, _, cell_of_blk hn 3 _ rfl, cell_of_blk hn 4 _ rfl, cell_of_blk hn 5 _ rfl, trOn_iff.2 ⟨rfl, rfl, hu.1, hu.2, e2⟩⟩, trivial⟩

set_option maxRecDepth 100000 in
set_option maxHeartbeats 1600000 in
theorem l2Goal_calls (w : World) (b p : Nat) (h : RdOn w b p) (hp : p ≤ 1000000) : Calls Try.prog 106 #[.pointer (some ⟨b, 0, none⟩)] w (GoalD w b p) := by
  have hbw := h.lt
  have HR := mkHid h
  clear h
  go_enter Try.func106, Try.ntmps106
  go_wp2_with fail
  refine (l1TextsAt_calls _).mono ?_
  rintro e w1 ⟨g, rfl, hg1, hg2, hgc, hb1⟩
  obtain ⟨hx1, hbl1, hs1⟩ := boxed hb1
  have HX1 := mkHid hx1
  have HB1 : Hid (But b w w1) := But.of_below hbl1
  have HR1 : Hid (RdOn w1 b p) := HR.out.next hbl1
  clear hg1 hg2 hgc hb1 hx1 hbl1
  go_wp2_with fail
  refine (pick_calls 12 _ b p HR1.out (by omega) (by decide)).mono ?_
  rintro e w2 ⟨x, rfl, h0, h1, -, hr2, hb2⟩
  have HR2 := mkHid hr2
  have HB2 : Hid (But b w w2) := HB1.out.trans hb2
  have HX2 := mkHid ((hb2.block _ (by omega) (by omega)).trans HX1.out)
  have hs2 : w.heap.size + 1 ≤ w2.heap.size := Nat.le_trans hs1 hb2.size
  have hx : x < 12 := h1 (by decide)
  obtain ⟨k, rfl⟩ := Int.eq_ofNat_of_zero_le h0
  have hk : k < 12 := by omega
  clear h1 hr2 hb2 h0 hx
  go_wp2_with fail
  refine (l1TextsAt_calls w2).mono ?_
  rintro e w3 ⟨g3, rfl, hg1, hg2, hgc, hb3⟩
  have c3 : w3.cell? ⟨g3, k, none⟩ = some (.string (txS k)) := hgc k hk
  have HPP := mkHid (specParseProgram_calls (txS k) w3 (by have := txS_size k hk; omega))
  have HR3 := mkHid (HR2.out.next hb3)
  have HB3 : Hid (But b w w3) := HB2.out.trans (But.of_below hb3)
  have HX3 := mkHid ((hb3.block _ (by omega)).trans HX2.out)
  have hs3 : w.heap.size + 1 ≤ w3.heap.size := Nat.le_trans hs2 hb3.size
  clear hgc hb3
  go_wp2_with fail
  refine HPP.out.mono ?_
  rintro e w4 ⟨v, rfl, hd4, hb4⟩
  have HV := mkHid (parseP_valid (txS k))
  have HGV : Hid (∀ j, j < goN k → shB 0 ((parseP (txS k)).getD []).length 8 (parseE (goS k j)).1 = true ∧ 1 + szT (parseE (goS k j)).1 ≤ 40) := fun j hj => goals_valid k j hk hj
  obtain ⟨ok, hok⟩ : ∃ ok, ok = (parseP (txS k)).isSome := ⟨_, rfl⟩
  obtain ⟨ds, hds⟩ : ∃ ds, ds = (parseP (txS k)).getD [] := ⟨_, rfl⟩
  rw [← hok]
  rw [← hds] at hd4 HV HGV
  have HD4 : Hid (DefsOn w4 (PN (w.heap.size + 1) w4) ds v) := hd4.mono (fun k hk => hk.go hs3 rfl) fun _ _ => rfl
  have HR4 := mkHid (HR3.out.next hb4)
  have HB4 : Hid (But b w w4) := HB3.out.trans (But.of_below hb4)
  have HX4 := mkHid ((hb4.block _ (by omega)).trans HX3.out)
  have hs4 : w.heap.size + 1 ≤ w4.heap.size := Nat.le_trans hs3 hb4.size
  have hn6 : ds.length ≤ 6 := by
    have h := HV.out
    unfold progB at h
    simp only [Bool.and_eq_true, decide_eq_true_eq] at h
    exact h.1
  obtain ⟨adp, capp, rfl, hcp1, hcp2, -⟩ := id hd4
  unfold maxLen at hcp2
  clear hd4 hb4 hok hds c3 HPP
  go_wp2_with fail
  refine (pick_calls 4 _ b (p + 1) HR4.out (by omega) (by decide)).mono ?_
  rintro e w5 ⟨y, rfl, h0, h1, -, hr5, hb5⟩
  have HR5 := mkHid hr5
  have HB5 : Hid (But b w w5) := HB4.out.trans hb5
  have HX5 := mkHid ((hb5.block _ (by omega) (by omega)).trans HX4.out)
  have hs5 : w.heap.size + 1 ≤ w5.heap.size := Nat.le_trans hs4 hb5.size
  have HD5 := mkHid (defs_but HD4.out hb5 (by omega))
  clear h0 h1 hr5 hb5
  by_cases hy0 : y = 0
  · subst hy0
    go_wp2_with fail
    refine (num_calls [3, 4, 2] (.slice (some ⟨w5.heap.size, 0, none⟩) 3 3) _ b (p + 1 + 1) (HR5.out.next (box_below _ _)) (by omega) (ints_at w5 w5.heap.size rfl b [3, 4, 2] #[.int .i64 3, .int .i64 4, .int .i64 2] (by omega) rfl (ints_gen [3, 4, 2])) (by simp) (by simp)).mono ?_
    rintro e w6 ⟨z, rfl, hz, hr6, hb6⟩
    have hbb : But b w5 w6 := (But.of_below (box_below _ _)).trans hb6
    have HR6 := mkHid hr6
    have HB6 : Hid (But b w w6) := HB5.out.trans hbb
    have HX6 := mkHid ((hbb.block _ (by omega) (by omega)).trans HX5.out)
    have hs6 : w.heap.size + 1 ≤ w6.heap.size := Nat.le_trans hs5 hbb.size
    have HD6 := mkHid (defs_but HD5.out hbb (by omega))
    obtain ⟨d, hd, rfl⟩ := small_of hz (by decide)
    have h8 := some_le hd
    have HDL := mkHid hd
    clear hz hr6 hb6 hbb hd
    go_wp2_with fail
    refine (sm_any d (by have := HDL.out; omega) 0 ds.length w6 b (p + 1 + 1 + 1) (by omega) (by omega) HR6.out (by omega)).mono ?_
    rintro e w7 ⟨t, c, p7, rfl, hto, htn, hk7, hsz, hr7, hp7, hb7⟩
    have HT := mkHid (And.intro hto htn)
    have HVT := mkHid (some_valid hsz HDL.out (by omega) (by omega)).1
    have HB7 : Hid (But b w w7) := HB6.out.trans hb7
    have HX7 := (hb7.block _ (by omega) (by omega)).trans HX6.out
    have HD7 := mkHid (defs_but HD6.out hb7 (by omega))
    have HK7 := mkHid hk7
    have HR7 := mkHid hr7
    have hp7' : p7 ≤ p + 5000 := by omega
    have q0 := cell_of_blk HX7 0 _ rfl
    have q1 := cell_of_blk HX7 1 _ rfl
    have q2 := cell_of_blk HX7 2 _ rfl
    have qf := fun i => frz_of_blk HX7 i
    have hl7 := (Array.getElem?_eq_some_iff.1 HX7).1
    obtain ⟨ad7, cap7, rfl, -, -, -⟩ := id hk7
    clear hto htn hk7 hsz hr7 hp7 hb7 h8 HX7
    go_wp2_with fail
    refine bodyPost_ret (v := .tuple #[.slice adp ds.length capp, .agg #[.int .i64 t.op, .int .i64 t.num, .slice ad7 t.kids.length cap7]]) (by simp [results, Try.results106, go_sem, q0, q1, q2, qf, hl7]) rfl ?_
    exact goalD_of HV.out HVT.out HT.out (defs_set3 HD7.out (by omega) (by omega) _ _ _) (kids_set3 HK7.out (by omega) (by omega) (Nat.le_refl _) _ _ _) (HR7.out.set3 hbw _ _ _) hp7' (HB7.out.set3 (Nat.le_refl _) _ _ _)
  have hyb : (y == 0) = false := by simpa using hy0
  clear hy0
  go_wp2_with fail
  refine (l2Goals_calls w5).mono ?_
  rintro e w6 ⟨g6, rfl, hg1, hg2, hgc, hb6⟩
  obtain ⟨b6, hbl6, hbl6', c6, hgs⟩ := hgc k hk
  have HGS := mkHid hgs
  obtain ⟨hn2, hn7⟩ := goN_rng k hk
  obtain ⟨n, hn⟩ : ∃ n, n = goN k := ⟨_, rfl⟩
  rw [← hn] at c6 hn2 hn7 HGS HGV
  have HR6 := mkHid (HR5.out.next hb6)
  have HB6 : Hid (But b w w6) := HB5.out.trans (But.of_below hb6)
  have HX6 := mkHid ((hb6.block _ (by omega)).trans HX5.out)
  have hs6 : w.heap.size + 1 ≤ w6.heap.size := Nat.le_trans hs5 hb6.size
  have HD6 := mkHid (defs_but HD5.out (But.of_below (b := b) hb6) (by omega))
  clear hgc hb6 hgs hn
  go_wp2_with fail
  refine (pick_calls (n : Int) _ b (p + 1 + 1) HR6.out (by omega) (by omega)).mono ?_
  rintro e w7 ⟨z, rfl, h0, h1, -, hr7, hb7⟩
  obtain ⟨j, rfl⟩ := Int.eq_ofNat_of_zero_le h0
  have hj : j < n := by have := h1 (by omega); omega
  have HR7 := mkHid hr7
  have HB7 : Hid (But b w w7) := HB6.out.trans hb7
  have HX7 := mkHid ((hb7.block _ (by omega) (by omega)).trans HX6.out)
  have hs7 : w.heap.size + 1 ≤ w7.heap.size := Nat.le_trans hs6 hb7.size
  have HD7 := mkHid (defs_but HD6.out hb7 (by omega))
  have c7 : w7.cell? ⟨b6, j, none⟩ = some (.string (goS k j)) := (hb7.cell (p := ⟨b6, j, none⟩) hbl6' (by show b6 ≠ b; omega)).trans (HGS.out j hj)
  have HPE := mkHid (specParseExpr_calls (goS k j) w7 (by have := goS_size k j hk (by omega); omega))
  clear h0 h1 hr7 hb7
  go_wp2_with fail
  refine HPE.out.mono ?_
  rintro e w8 ⟨kv, rfl, hk8, hb8⟩
  have HVE := mkHid (HGV.out j hj)
  have HIE : Hid (I64 (parseE (goS k j)).1.op ∧ I64 (parseE (goS k j)).1.num) := parseE_i64 _
  obtain ⟨te, hte⟩ : ∃ te, te = (parseE (goS k j)).1 := ⟨_, rfl⟩
  obtain ⟨oke, hoke⟩ : ∃ oke, oke = (parseE (goS k j)).2 := ⟨_, rfl⟩
  rw [← hte, ← hoke]
  rw [← hte] at hk8 HVE HIE
  have HR8 := mkHid (HR7.out.next hb8)
  have HB8 : Hid (But b w w8) := HB7.out.trans (But.of_below hb8)
  have HX8 := mkHid ((hb8.block _ (by omega)).trans HX7.out)
  have hs8 : w.heap.size + 1 ≤ w8.heap.size := Nat.le_trans hs7 hb8.size
  have HD8 := mkHid (defs_but HD7.out (But.of_below (b := b) hb8) (by omega))
  have HK8 : Hid (KidsOn w8 (Btw (w.heap.size + 1) w8.heap.size) te.kids kv) := hk8.mono (fun k hk => ⟨Nat.le_trans hs7 hk.1, hk.2.1⟩) fun _ _ => rfl
  obtain ⟨ade, cape, rfl, -, -, -⟩ := id hk8
  clear hk8 hb8 hte hoke c7 HPE
  go_wp2_with fail
  refine (pick_calls 5 _ b (p + 1 + 1 + 1) (HR8.out.next (box_below _ _)) (by omega) (by decide)).mono ?_
  rintro e w9 ⟨y2, rfl, h0, h1, -, hr9, hb9⟩
  have hbb : But b w8 w9 := (But.of_below (box_below _ _)).trans hb9
  have HE9 := mkHid ((hb9.block w8.heap.size (by rw [Deep.nblk_alloc]; omega) (by omega)).trans (Deep.blk_alloc_new w8 _))
  have hs9 : w8.heap.size + 1 ≤ w9.heap.size := by have := hb9.size; rw [Deep.nblk_alloc] at this; omega
  have HR9 := mkHid hr9
  have HB9 : Hid (But b w w9) := HB8.out.trans hbb
  have HX9 := mkHid ((hbb.block _ (by omega) (by omega)).trans HX8.out)
  have HD9 := mkHid (defs_but HD8.out hbb (by omega))
  have HK9 := mkHid (kids_but HK8.out hbb (by omega) (Nat.le_refl _))
  have HB89 : Hid (But b w8 w9) := hbb
  clear h0 h1 hr9 hb9 hbb
  by_cases hy2 : y2 = 0
  · subst hy2
    have a0 := cell_of_blk HE9.out 0 _ rfl
    have a1 := cell_of_blk HE9.out 1 _ rfl
    have a2 := cell_of_blk HE9.out 2 _ rfl
    go_wp2_with fail
    have hw8 : w8.heap.size < w9.heap.size := by omega
    have HC : Hid (Calls Try.prog 109 #[.pointer (some ⟨b, 0, none⟩), .int .i64 0, .int .i64 (ds.length : Int), .int .i64 2] w9.drew (SomeTr 0 ds.length 2 w9.drew b (p + 1 + 1 + 1 + 1))) := sm_any 2 (by omega) 0 ds.length w9.drew b (p + 1 + 1 + 1 + 1) (by omega) (by omega) HR9.out.drew (by omega)
    go_region_with ((go_at_call 109; go_must (refine HC.out.mono ?_); go_must (rintro e w10 ⟨t2, c2, p10, rfl, hto, htn, hk10, hsz, hr10, hp10, hb10'⟩); go_must (have hb10 : But b w9 w10 := (But.refl b w9).drew.trans hb10'); go_must (have HB8A : Hid (But b w8 w10) := HB89.out.trans hb10); go_must (have HX10 := mkHid ((hb10.block _ (by omega) (by omega)).trans HX9.out)); go_must (have HE10 := mkHid ((hb10.block _ (by omega) (by omega)).trans HE9.out)); go_must (have HD10 := mkHid (defs_but HD9.out hb10 (by omega))); go_must (have HK10 := mkHid (kids_but HK9.out hb10 (by omega) (by omega))); go_must (have HK2 := mkHid hk10); go_must (have HR10 := mkHid hr10); go_must (have HB10 : Hid (But b w w10) := HB9.out.trans hb10); go_must (have HS10 : Hid (w9.heap.size ≤ w10.heap.size) := hb10.size); go_must (have HT2 := mkHid (And.intro hto htn)); go_must (have HZ2 := mkHid (some_valid hsz (by omega) (by omega) (by omega))); go_must (have HSH := mkHid hsz); go_must (have hp10' : p10 ≤ p + 1000 := by omega); go_must (have b0 := cell_of_blk HE10.out 0 _ rfl); go_must (have b1 := cell_of_blk HE10.out 1 _ rfl); go_must (have b2 := cell_of_blk HE10.out 2 _ rfl); go_must (have bl10 : w8.heap.size < w10.heap.size := Nat.lt_of_lt_of_le hw8 HS10.out); go_must (have bf := fun i => frz_of_blk HE10.out i); go_must (have ba := fun (o : Obj) i => frz_of_blk ((Deep.blk_alloc_lt w10 o _ bl10).trans HE10.out) i);  go_must (obtain ⟨ad10, cap10, rfl, -, -, -⟩ := id hk10); go_must (clear hto htn hk10 hsz hr10 hp10 hb10 hb10')))
    all_goals
      obtain ⟨W, hW⟩ : ∃ W, W = AddW w10 w8.heap.size te.op te.num (.slice ade te.kids.length cape) t2.op t2.num (.slice ad10 t2.kids.length cap10) := ⟨_, rfl⟩
      have hW' := hW
      unfold AddW at hW'
      rw [← hW']
      have hz8 : w.heap.size + 1 ≤ w8.heap.size := hs8
      have HWB : Hid (But b w W) := by rw [hW]; exact addW_but HB10.out (by omega) _ _ _ _ _ _
      have HWR : Hid (RdOn W b p10) := by rw [hW]; exact HR10.out.keep fun k hk => addW_old _ _ _ _ _ _ _ _ (by omega) (by omega)
      have HWX : Hid (W.heap[w.heap.size]? = some zeroE) := by rw [hW]; exact (addW_old _ _ _ _ _ _ _ _ (by omega) (by omega)).trans HX10.out
      have HWE : Hid (W.heap[w8.heap.size]? = some (.cells #[.int .i64 8, .int .i64 0, .slice (some ⟨w10.heap.size, 0, none⟩) 2 2] 32)) := by rw [hW]; exact addW_box HE10.out _ _ _ _ _ _
      have HWS : Hid (W.heap.size = w10.heap.size + 1) := by rw [hW]; exact addW_size _ _ _ _ _ _ _ _
      have HWK : Hid (KidsOn W (Btw (w.heap.size + 1) (w10.heap.size + 1)) [te, t2] (.slice (some ⟨w10.heap.size, 0, none⟩) 2 2)) := by rw [hW]; exact addW_kids HIE.out HT2.out HK10.out HK2.out (by show w8.heap.size < w9.heap.size; omega) (by omega) HS10.out
      have HWD : Hid (DefsOn W (PN (w.heap.size + 1) W) ds (.slice adp ds.length capp)) := by
        have heq : ∀ k, PN (w.heap.size + 1) w8 k → W.heap[k]? = w8.heap[k]? := fun k hk => by
          have h1 := hk.1
          have h2 := hk.2.1
          rw [hW]
          exact (addW_old _ _ _ _ _ _ _ _ (by have := HB8A.out.size; omega) (by omega)).trans (HB8A.out.block k h2 (by omega))
        exact HD8.out.mono (fun k hk => hk.go (Nat.le_refl _) (heq k hk)) heq
      have HVT : Hid (validB (.node 8 0 [te, t2]) 0 ds.length = true) := by
        have h1 := HVE.out
        have h2 := HZ2.out
        have h3 := shB_deeper (ddp 2) 8 t2 (by decide) HSH.out.2
        exact valid_of_sh (sh_add h1.1 h3) (by omega) (by rw [add_size]; have := HSH.out.1; rw [← szT_eq] at this; have : (4 : Nat) ^ 2 = 16 := rfl; omega) (by omega) (by omega)
      clear hW hW'
      have q0 := cell_of_blk HWX.out 0 _ rfl
      have q1 := cell_of_blk HWX.out 1 _ rfl
      have q2 := cell_of_blk HWX.out 2 _ rfl
      have qf := fun i => frz_of_blk HWX.out i
      have hlW := (Array.getElem?_eq_some_iff.1 HWX.out).1
      have e0 := cell_of_blk HWE.out 0 _ rfl
      have e1 := cell_of_blk HWE.out 1 _ rfl
      have e2 := cell_of_blk HWE.out 2 _ rfl
      have hne : w8.heap.size ≠ w.heap.size := by omega
      have hne2 : w.heap.size ≠ w8.heap.size := by omega
      clear a0 a1 a2 b0 b1 b2 bf ba
      go_wp2_with fail
      go_region
      go_wp2_with fail
      refine bodyPost_ret (v := .tuple #[.slice adp ds.length capp, .agg #[.int .i64 8, .int .i64 0, .slice (some ⟨w10.heap.size, 0, none⟩) 2 2]]) (by simp [results, Try.results106, go_sem, q0, q1, q2, qf, hlW]) rfl ?_
      refine GoalD.drew ?_
      exact goalD_of (t := .node 8 0 [te, t2]) HV.out HVT.out ⟨by simp [I64], by simp [I64]⟩ (defs_set3 HWD.out (by omega) (by omega) _ _ _) (kids_set3 HWK.out (by omega) (by omega) (by rw [HWS.out]; exact Nat.le_refl _) _ _ _) (HWR.out.set3 hbw _ _ _) (by omega) (HWB.out.set3 (Nat.le_refl _) _ _ _)
  have hy2b : (y2 == 0) = false := by simpa using hy2
  clear hy2
  have a0 := cell_of_blk HE9.out 0 _ rfl
  have a1 := cell_of_blk HE9.out 1 _ rfl
  have a2 := cell_of_blk HE9.out 2 _ rfl
  have q0 := cell_of_blk HX9.out 0 _ rfl
  have q1 := cell_of_blk HX9.out 1 _ rfl
  have q2 := cell_of_blk HX9.out 2 _ rfl
  have qf := fun i => frz_of_blk HX9.out i
  have hl9 := (Array.getElem?_eq_some_iff.1 HX9.out).1
  have hne : w8.heap.size ≠ w.heap.size := by omega
  have hne2 : w.heap.size ≠ w8.heap.size := by omega
  have HVT : Hid (validB te 0 ds.length = true) := valid_of_sh HVE.out.1 (by omega) (by have := HVE.out.2; omega) (by omega) (by omega)
  go_wp2_with fail
  go_region
  go_wp2_with fail
  refine bodyPost_ret (v := .tuple #[.slice adp ds.length capp, .agg #[.int .i64 te.op, .int .i64 te.num, .slice ade te.kids.length cape]]) (by simp [results, Try.results106, go_sem, q0, q1, q2, qf, hl9]) rfl ?_
  refine GoalD.drew ?_
  exact goalD_of HV.out HVT.out HIE.out (defs_set3 HD9.out (by omega) (by omega) _ _ _) (kids_set3 HK9.out (by omega) (by omega) (by omega) _ _ _) (HR9.out.set3 hbw _ _ _) (by omega) (HB9.out.set3 (Nat.le_refl _) _ _ _)
end Go.Proofs.Ytglpehelmlehiaa
/-
  make, OF SO MANY INTS: a new row of zeros.
-/
namespace Go.Proofs.Ytglpehelmlehiaa
set_option linter.unusedVariables false
set_option linter.unusedSimpArgs false
open Go.RowKit

theorem infoI : (Try.prog.info? 3).map (fun i => (i.zero, i.size, i.bytes)) = some (some (.int .i64 0), 1, 8) := by kernel_rfl
/-- make, of so many ints: a new row of zeros -/
theorem make_ints (n : Nat) (h : n ≤ 1048576) : ∀ w : World, (Instr.makeSlice 37 (.int .i64 (n : Int)) (.int .i64 (n : Int))).run Try.prog w = .ok (.slice (some ⟨w.heap.size, 0, none⟩) n n) (w.alloc (.cells (madeCells #[.int .i64 0] n) 3)) := by
  obtain ⟨i, hi, hzz⟩ := Option.map_eq_some_iff.1 infoI
  simp only [Prod.mk.injEq] at hzz
  obtain ⟨hz, hs, hb⟩ := hzz
  intro w
  have hr := run_make (P := Try.prog) w 37 3 i _ Try.underlying37 hi hz .i64 .i64 n n (by omega) (Int.le_refl _) (by rw [hb]; omega) (by omega)
  simp only [Int.toNat_natCast, hs, Nat.mul_one] at hr
  exact hr
theorem zero_row (w : World) (n : Nat) : (w.alloc (.cells (madeCells #[.int .i64 0] n) 3)).rowIs w.heap.size 3 n (fun i => .int .i64 (((fun _ => 0 : Nat → Nat) i : Nat) : Int)) := by
  have hl : (madeCells #[.int .i64 0] n).toList = List.replicate n (.int .i64 0) := toList_madeCells_one _ _
  have hsz : (madeCells #[.int .i64 0] n).size = n := by rw [← Array.length_toList, hl, List.length_replicate]
  refine ⟨_, Deep.blk_alloc_new _ _, hsz, fun i hi => ?_⟩
  rw [← Array.getElem?_toList, hl, List.getElem?_replicate, if_pos hi]
  rfl
end Go.Proofs.Ytglpehelmlehiaa
/-
  SLICES OF INTS IN MEMORY; the laws' own comparison and copy of them (eqIntS, toIntS).
-/
namespace Go.Proofs.Ytglpehelmlehiaa
set_option linter.unusedVariables false
set_option linter.unusedSimpArgs false
open Go.RowKit

/-- a slice value that holds these numbers, its block out of S -/
def IntsOn (w : World) (S : Nat → Prop) (xs : List Int) (v : Value) : Prop :=
  ∃ ad cap, v = .slice ad xs.length cap ∧ xs.length ≤ cap ∧ cap ≤ maxLen ∧ (xs = [] ∨ ∃ bl off, ad = some ⟨bl, off, none⟩ ∧ S bl ∧ ∀ i (h : i < xs.length), w.cell? ⟨bl, off + i, none⟩ = some (.int .i64 xs[i]))
/-- .. in a row of its own, from block lo on -/
def IntRow (w : World) (lo : Nat) (xs : List Int) (v : Value) : Prop :=
  ∃ ad cap, v = .slice ad xs.length cap ∧ xs.length ≤ cap ∧ cap ≤ maxLen ∧ (xs = [] ∨ ∃ g f, ad = some ⟨g, 0, none⟩ ∧ lo ≤ g ∧ w.rowIs g 3 cap f ∧ ∀ i (h : i < xs.length), f i = .int .i64 xs[i])
theorem IntRow.on {w : World} {lo : Nat} {xs : List Int} {v : Value} (h : IntRow w lo xs v) : IntsOn w (fun k => lo ≤ k ∧ k < w.heap.size) xs v := by
  obtain ⟨ad, cap, e, l1, l2, h⟩ := h
  refine ⟨ad, cap, e, l1, l2, h.imp id ?_⟩
  rintro ⟨g, f, rfl, hg, hr, hf⟩
  refine ⟨g, 0, rfl, ⟨hg, hr.lt⟩, fun i hi => ?_⟩
  rw [Nat.zero_add, hr.cell (by omega), hf i hi]
theorem IntsOn.mono {w w' : World} {S S' : Nat → Prop} {xs : List Int} {v : Value} (h : IntsOn w S xs v) (hS : ∀ k, S k → S' k) (hw : ∀ k, S k → w'.heap[k]? = w.heap[k]?) : IntsOn w' S' xs v := by
  obtain ⟨ad, cap, e, l1, l2, h⟩ := h
  refine ⟨ad, cap, e, l1, l2, h.imp id ?_⟩
  rintro ⟨bl, off, rfl, hb, hc⟩
  exact ⟨bl, off, rfl, hS _ hb, fun i hi => (World.cell?_of_block (a := ⟨bl, off + i, none⟩) (hw _ hb)).trans (hc i hi)⟩
theorem IntRow.keep {w w' : World} {lo lo' : Nat} {xs : List Int} {v : Value} (h : IntRow w lo xs v) (hl : lo' ≤ lo) (hw : ∀ k, lo ≤ k → k < w.heap.size → w'.heap[k]? = w.heap[k]?) : IntRow w' lo' xs v := by
  obtain ⟨ad, cap, e, l1, l2, h⟩ := h
  refine ⟨ad, cap, e, l1, l2, h.imp id ?_⟩
  rintro ⟨g, f, rfl, hg, hr, hf⟩
  exact ⟨g, f, rfl, by omega, hr.of_block (hw g hg hr.lt), hf⟩
theorem IntRow.next {w w' : World} {lo : Nat} {xs : List Int} {v : Value} (h : IntRow w lo xs v) (hb : Below w.heap.size w w') : IntRow w' lo xs v := h.keep (Nat.le_refl _) fun k _ hk => hb.block k hk
/-- numbers that lie in a world, wherever -/
abbrev IIn (w : World) (xs : List Int) (v : Value) : Prop := IntsOn w (Lt w.heap.size) xs v
theorem IntRow.inn {w : World} {lo : Nat} {xs : List Int} {v : Value} (h : IntRow w lo xs v) : IIn w xs v := h.on.mono (fun k hk => hk.2) fun _ _ => rfl
theorem IntsOn.next {w w' : World} {xs : List Int} {v : Value} (h : IIn w xs v) (hb : Below w.heap.size w w') : IIn w' xs v :=
  h.mono (fun k (hk : k < _) => Nat.lt_of_lt_of_le hk hb.size) fun k hk => hb.block k hk

theorem IntRow.none (w : World) (lo : Nat) : IntRow w lo [] (.slice none 0 0) := ⟨_, _, rfl, Nat.le_refl _, by simp [maxLen], Or.inl rfl⟩
/-- the answer: the numbers in a row of their own -/
def NewInts (xs : List Int) (w : World) (e : Ending) (w' : World) : Prop := ∃ v, e = .returned v ∧ IntRow w' w.heap.size xs v ∧ Below w.heap.size w w'
end Go.Proofs.Ytglpehelmlehiaa
/-
  THE LAWS' OWN COPY OF A SLICE OF INTS (toIntS).
-/
namespace Go.Proofs.Ytglpehelmlehiaa
set_option linter.unusedVariables false
set_option linter.unusedSimpArgs false
open Go.RowKit

/-! ### The copy -/
/-- what holds of the copy behind k rounds -/
def ToIRel (xs : List Int) (w : World) (k : Nat) (wr : World) : Prop :=
  ∃ f : Nat → Value, wr.rowIs w.heap.size 3 xs.length f ∧ (∀ j (_ : j < k) (hj : j < xs.length), f j = .int .i64 xs[j]) ∧ Below w.heap.size w wr
theorem toIRel_start (xs : List Int) (w : World) : ToIRel xs w 0 (w.alloc (.cells (madeCells #[.int .i64 0] xs.length) 3)) :=
  ⟨_, zero_row w xs.length, fun j hj => absurd hj (by omega), (Below.refl _ _).alloc (Nat.le_refl _) _⟩
theorem toIRel_step {xs : List Int} {w wr : World} {k : Nat} (h : ToIRel xs w k wr) (hk : k < xs.length) : ToIRel xs w (k + 1) (wr.setCell ⟨w.heap.size, k, none⟩ (.int .i64 xs[k])) := by
  obtain ⟨f, hr, ht, hb⟩ := h
  refine ⟨_, hr.set k _, fun j hj hl => ?_, hb.setCell (Nat.le_refl _) _⟩
  by_cases hjk : j = k
  · subst hjk; simp
  · simp [hjk, ht j (by omega) hl]

theorem toIRel_end {xs : List Int} {w wr : World} (h : ToIRel xs w xs.length wr) (hl : xs.length ≤ 1048576) : NewInts xs w (.returned (.slice (some ⟨w.heap.size, 0, none⟩) xs.length xs.length)) wr := by
  obtain ⟨f, hr, ht, hb⟩ := h
  exact ⟨_, rfl, ⟨_, _, rfl, Nat.le_refl _, by unfold maxLen; omega, Or.inr ⟨_, f, rfl, Nat.le_refl _, hr, fun i hi => ht i hi hi⟩⟩, hb⟩

end Go.Proofs.Ytglpehelmlehiaa
