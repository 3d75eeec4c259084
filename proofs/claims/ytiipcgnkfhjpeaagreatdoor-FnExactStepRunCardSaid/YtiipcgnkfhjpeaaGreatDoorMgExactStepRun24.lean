/-
  THE MODEL's l3Add: the cells of an expression, added to a graph that is being built.
-/
import Derived.Test.YtiipcgnkfhjpeaaGreatDoorMgExactStepRun10
import Derived.Test.YtiipcgnkfhjpeaaGreatDoorMgExactStepRun11
import Derived.Test.YtiipcgnkfhjpeaaGreatDoorMgExactStepRun13
import Derived.Test.YtiipcgnkfhjpeaaGreatDoorMgExactStepRun19
import Derived.Test.YtiipcgnkfhjpeaaGreatDoorMgExactStepRun23
import Derived.Deep.DeepCutAuto
import Derived.Deep.RegionWith
namespace Go.Proofs.YtiipcgnkfhjpeaaGreatDoor
set_option linter.unusedVariables false
set_option linter.unusedSimpArgs false
open Go.RowKit

/-- what l3Add hands back: the graph with the cells, in its own rows; nothing is written but the row of the cells -/
def AddRes (r : List Ce × Nat) (lo : Nat) (S : Nat → Prop) (gv : Value) (w : World) (e : Ending) (w' : World) : Prop :=
  ∃ gv', e = .returned (.tuple #[gv', .int .i64 (r.2 : Int)]) ∧ OwnC w' lo (fun b => S b ∨ w.heap.size ≤ b) r.1 gv' ∧ w.grownBy w' gv.ownBlock ∧ (gv'.ownBlock = gv.ownBlock ∨ ∃ g, gv'.ownBlock = some g ∧ w.heap.size ≤ g)
def AdSaid (args : List Nat) (t : Tr) : Prop := ∀ (gv av c : Value) (lo : Nat) (S : Nat → Prop) (cs : List Ce) (w : World), OwnC w lo S cs gv → lo ≤ w.heap.size → IntsOn w (Lt lo) (args.map fun (a : Nat) => (a : Int)) av → KidsOn w (Lt lo) t.kids c →
  cs.length + szT t ≤ 500000 → args.length ≤ 1048576 → I64 t.op → I64 t.num → AllT (VarOk args.length) t →
  Calls Tryz.prog 66 #[gv, .agg #[.int .i64 t.op, .int .i64 t.num, c], av] w (AddRes (addT args t cs) lo S gv w)

theorem grown_box {w w1 : World} {row : Option Nat} (h : Below w.heap.size w w1) : w.grownBy w1 row := ⟨h.os, h.tape, h.output, h.size, fun k hk _ => h.block k hk⟩
/-- where the operands' rows of the graph lie while the operands of a cell are gathered in kv -/
def SK (w : World) (S : Nat → Prop) (kv : Value) : Nat → Prop := fun b => ((S b ∧ b < w.heap.size) ∨ w.heap.size + 2 ≤ b) ∧ some b ≠ kv.ownBlock
/-- what holds behind k operands -/
structure AdRel (args : List Nat) (t : Tr) (cs : List Ce) (lo : Nat) (S : Nat → Prop) (gv0 ebox : Value) (w : World) (k : Nat) (gv kv : Value) (wr : World) : Prop where
  graph : OwnC wr lo (SK w S kv) (addL args (t.kids.take k) cs).1 gv
  kids : Stk wr (w.heap.size + 2) (addL args (t.kids.take k) cs).2 kv
  box : wr.heap[w.heap.size + 1]? = some (.cells #[.int .i64 t.op, .int .i64 t.num, kv] 93)
  ebx : wr.heap[w.heap.size]? = some (.cells #[.int .i64 t.op, .int .i64 t.num, ebox] 48)
  old : ∀ b, b < w.heap.size → some b ≠ gv0.ownBlock → wr.heap[b]? = w.heap[b]?
  os : wr.os = w.os
  tape : wr.tape = w.tape
  output : wr.output = w.output
  size : w.heap.size + 2 ≤ wr.heap.size
  own : gv.ownBlock = gv0.ownBlock ∨ ∃ g, gv.ownBlock = some g ∧ w.heap.size + 2 ≤ g

/-- a row of cells is no row of ints -/
theorem own_ne {w : World} {b1 b2 n1 n2 s1 s2 : Nat} {v1 v2 : Value} {x1 x2 : List Value} (h1 : w.ownsRow b1 93 s1 v1 n1 x1) (h2 : w.ownsRow b2 3 s2 v2 n2 x2) : ∀ k, some k = v1.ownBlock → some k ≠ v2.ownBlock := by
  intro k e1 e2
  rcases h1.2 with ⟨rfl, -⟩ | ⟨g, cap, cur, rfl, -, hh, -⟩
  · simp [Value.ownBlock] at e1
  · rcases h2.2 with ⟨rfl, -⟩ | ⟨g2, cap2, cur2, rfl, -, hh2, -⟩
    · simp [Value.ownBlock] at e2
    · simp only [Value.ownBlock, Option.some.injEq] at e1 e2
      subst e1
      subst e2
      rw [hh] at hh2
      simp at hh2
theorem news1 (w : World) (n : Nat) : ∀ j u, [Value.int .i64 (n : Int)][j]? = some u → (w.alloc (.cells #[.int .i64 (n : Int)] 3)).cell? ((⟨w.heap.size, 0, none⟩ : Addr).add j) = some u := by
  intro j u hu
  have hj : j = 0 := by
    rcases Nat.lt_or_ge j 1 with h | h
    · omega
    · rw [List.getElem?_eq_none (by simpa using h)] at hu; cases hu
  subst hj
  simp only [List.getElem?_cons_zero, Option.some.injEq] at hu
  subst hu
  rw [WideShapes.add_plain]
  exact box_cell w #[.int .i64 (n : Int)] 3 0 _ rfl
theorem stk_snoc {w : World} {lo n : Nat} {ws : List Nat} {v : Value} (h : w.ownsRow lo 3 1 v (ws.length + 1) (plV ws ++ [.int .i64 (n : Int)])) : Stk w lo (ws ++ [n]) v := by
  unfold Stk
  rw [show plV (ws ++ [n]) = plV ws ++ [.int .i64 (n : Int)] by simp [plV], List.length_append]
  exact h
theorem AdRel.kept {args : List Nat} {t : Tr} {cs : List Ce} {lo : Nat} {S : Nat → Prop} {gv0 ebox : Value} {w : World} {k : Nat} {gv kv : Value} {wr : World} (h : AdRel args t cs lo S gv0 ebox w k gv kv wr) (hg0 : ∀ b, gv0.ownBlock = some b → b < w.heap.size) {w2 : World} (hgr : wr.grownBy w2 gv.ownBlock) :
    (∀ b, b < w.heap.size → some b ≠ gv0.ownBlock → w2.heap[b]? = w.heap[b]?) ∧ w2.heap[w.heap.size]? = wr.heap[w.heap.size]? ∧ w2.heap[w.heap.size + 1]? = wr.heap[w.heap.size + 1]? ∧ Stk w2 (w.heap.size + 2) (addL args (t.kids.take k) cs).2 kv := by
  have hs := h.size
  have ho : ∀ b, some b = gv.ownBlock → some b = gv0.ownBlock ∨ w.heap.size + 2 ≤ b := by
    intro b hb
    rcases h.own with e | ⟨g, e, hg⟩
    · exact Or.inl (hb.trans e)
    · rw [e] at hb; simp only [Option.some.injEq] at hb; exact Or.inr (by omega)
  refine ⟨fun b hb hn => (hgr.block b (by omega) fun e => ?_).trans (h.old b hb hn), hgr.block _ (by omega) fun e => ?_, hgr.block _ (by omega) fun e => ?_, ?_⟩
  · rcases ho b e with e | e
    · exact hn e
    · omega
  · rcases ho _ e with e | e
    · have := hg0 _ e.symm; omega
    · omega
  · rcases ho _ e with e | e
    · have := hg0 _ e.symm; omega
    · omega
  · obtain ⟨ys, hy⟩ := h.graph.row
    refine ⟨h.kids.1, ?_⟩
    rcases h.kids.2 with h' | ⟨g, cap, cur, rfl, hg, hh, r⟩
    · exact Or.inl h'
    · exact Or.inr ⟨g, cap, cur, rfl, hg, (hgr.block g (Array.getElem?_eq_some_iff.1 hh).1 fun e => own_ne hy h.kids g e rfl).trans hh, r⟩
/-- one operand more -/
theorem ad_push {args : List Nat} {t : Tr} {cs : List Ce} {lo : Nat} {S : Nat → Prop} {gv0 ebox : Value} {w : World} {k : Nat} {gv kv : Value} {wr : World} (h : AdRel args t cs lo S gv0 ebox w k gv kv wr) (hk : k < t.kids.length) (hg0 : ∀ b, gv0.ownBlock = some b → b < w.heap.size) {gv' : Value} {w2 : World}
    (hg : OwnC w2 lo (fun b => SK w S kv b ∨ wr.heap.size ≤ b) (addT args t.kids[k] (addL args (t.kids.take k) cs).1).1 gv') (hgr : wr.grownBy w2 gv.ownBlock) (how : gv'.ownBlock = gv.ownBlock ∨ ∃ g, gv'.ownBlock = some g ∧ wr.heap.size ≤ g) (o : Obj) {kv' : Value} {w5 : World}
    (hst : Stk w5 (w.heap.size + 2) ((addL args (t.kids.take k) cs).2 ++ [(addT args t.kids[k] (addL args (t.kids.take k) cs).1).2]) kv') (hgr5 : (w2.alloc o).grownBy w5 kv.ownBlock) (hw5 : kv'.ownBlock = kv.ownBlock ∨ ∃ g, kv'.ownBlock = some g ∧ (w2.alloc o).heap.size ≤ g) :
    AdRel args t cs lo S gv0 ebox w (k + 1) gv' kv' (w5.setCell ⟨w.heap.size + 1, 2, none⟩ kv') := by
  obtain ⟨q1, q2, q3, q4⟩ := h.kept hg0 hgr
  have hs := h.size
  have hs2 := hgr.size
  have hs5 := hgr5.size
  rw [Deep.nblk_alloc] at hs5 hw5
  have hkv : ∀ b, some b = kv.ownBlock → w.heap.size + 2 ≤ b ∧ b < wr.heap.size := fun b e => own_some h.kids b e.symm
  have k5 : ∀ b, b < w2.heap.size → some b ≠ kv.ownBlock → w5.heap[b]? = w2.heap[b]? := fun b hb hn => (hgr5.block b (by rw [Deep.nblk_alloc]; omega) hn).trans (Deep.blk_alloc_lt _ _ _ hb)
  have k6 : ∀ b, b < w2.heap.size → some b ≠ kv.ownBlock → b ≠ w.heap.size + 1 → (w5.setCell ⟨w.heap.size + 1, 2, none⟩ kv').heap[b]? = w2.heap[b]? := fun b hb hn hne => (Below.heap_setCell _ _ _ _ hne).trans (k5 b hb hn)
  have ho : ∀ b, some b = gv'.ownBlock → some b = gv0.ownBlock ∨ w.heap.size + 2 ≤ b := by
    intro b hb
    rcases how with e | ⟨g, e, hg⟩
    · rw [e] at hb
      rcases h.own with e | ⟨g, e, hg⟩
      · exact Or.inl (hb.trans e)
      · rw [e] at hb; simp only [Option.some.injEq] at hb; exact Or.inr (by omega)
    · rw [e] at hb; simp only [Option.some.injEq] at hb; exact Or.inr (by omega)
  have e1 : addL args (t.kids.take (k + 1)) cs = _ := addL_take_succ args t.kids cs k hk
  refine ⟨?_, ?_, ?_, ?_, ?_, ?_, ?_, ?_, ?_, ?_⟩
  · rw [e1]
    refine hg.next (fun b hb hb2 => ?_) (fun b e hb => ?_) (fun b hS hb => ?_)
    · refine ⟨?_, fun e => ?_⟩
      · rcases hb with hb | hb
        · exact hb.1
        · exact Or.inr (by omega)
      · rcases hw5 with e5 | ⟨g, e5, hg5⟩
        · rw [e5] at e
          rcases hb with hb | hb
          · exact hb.2 e
          · have := (hkv b e).2; omega
        · rw [e5] at e
          simp only [Option.some.injEq] at e
          omega
    · obtain ⟨ys, hy⟩ := hg.row
      refine k6 b hb (own_ne hy q4 b e) fun e6 => ?_
      rcases ho b e with e | e
      · have := hg0 _ e.symm; omega
      · omega
    · rcases hS with hS | hS
      · exact k6 b hb hS.2 fun e6 => by rcases hS.1 with h7 | h7 <;> omega
      · exact k6 b hb (fun e => by have := (hkv b e).2; omega) (by omega)
  · rw [e1]
    exact Stk.keep hst fun b h1 h2 => Below.heap_setCell _ _ _ _ (by show b ≠ w.heap.size + 1; omega)
  · refine box_set (a := .int .i64 t.op) (b := .int .i64 t.num) (c := kv) ?_ _
    rw [k5 _ (by omega) fun e => by have := (hkv _ e).1; omega, q3]
    exact h.box
  · rw [k6 _ (by omega) (fun e => by have := (hkv _ e).1; omega) (by omega), q2]
    exact h.ebx
  · intro b hb hn
    rw [k6 b (by omega) (fun e => by have := (hkv _ e).1; omega) (by omega)]
    exact q1 b hb hn
  · show w5.os = w.os
    rw [hgr5.os]; exact hgr.os.trans h.os
  · show w5.tape = w.tape
    rw [hgr5.tape]; exact hgr.tape.trans h.tape
  · show w5.output = w.output
    rw [hgr5.output]; exact hgr.output.trans h.output
  · rw [size_setCell]; omega
  · rcases how with e | ⟨g, e, hg⟩
    · rw [e]; exact h.own
    · exact Or.inr ⟨g, e, by omega⟩

/-- behind all operands: the cell -/
theorem ad_end {args : List Nat} {t : Tr} {cs : List Ce} {lo : Nat} {S : Nat → Prop} {gv0 ebox : Value} {w : World} {k : Nat} {gv kv : Value} {wr : World} (h : AdRel args t cs lo S gv0 ebox w k gv kv wr) (hk : k = t.kids.length) (hg0 : ∀ b, gv0.ownBlock = some b → b < w.heap.size) (ho : I64 t.op) (hn : I64 t.num) (o : Obj) {xs : List Value}
    (hx : (wr.alloc o).ownsRow lo 93 3 gv (addL args t.kids cs).1.length xs) {v' : Value} {w5 : World}
    (hown : w5.ownsRow lo 93 3 v' ((addL args t.kids cs).1.length + 1) (xs ++ [.int .i64 t.op, .int .i64 t.num, kv])) (hg : (wr.alloc o).grownBy w5 gv.ownBlock) (hw : v'.ownBlock = gv.ownBlock ∨ ∃ g, v'.ownBlock = some g ∧ (wr.alloc o).heap.size ≤ g) :
    OwnC w5 lo (fun b => S b ∨ w.heap.size ≤ b) ((addL args t.kids cs).1 ++ [⟨t.op, t.num, (addL args t.kids cs).2.map fun (a : Nat) => (a : Int)⟩]) v' ∧ w.grownBy w5 gv0.ownBlock ∧ (v'.ownBlock = gv0.ownBlock ∨ ∃ g, v'.ownBlock = some g ∧ w.heap.size ≤ g) := by
  have hs := h.size
  have hs5 := hg.size
  rw [Deep.nblk_alloc] at hs5 hw
  have e1 : t.kids.take k = t.kids := by rw [hk, List.take_length]
  have hG := h.graph
  have hK := h.kids
  rw [e1] at hG hK
  have hG4 : OwnC (wr.alloc o) lo (SK w S kv) (addL args t.kids cs).1 gv := hG.next (fun _ h _ => h) (fun b _ hb => Deep.blk_alloc_lt _ _ _ hb) (fun b _ hb => Deep.blk_alloc_lt _ _ _ hb)
  obtain ⟨blk, hb1, hb2, hb3⟩ : ∃ blk, w.heap.size ≤ blk ∧ ¬ SK w S kv blk ∧ KRowS (wr.alloc o) (fun b => b = blk) ((addL args t.kids cs).2.map fun (a : Nat) => (a : Int)) blk kv := by
    obtain ⟨blk, h1, h2⟩ := stk_krow (hK.alloc o)
    by_cases he : (addL args t.kids cs).2 = []
    · refine ⟨w.heap.size, Nat.le_refl _, fun h => by rcases h.1 with h | h <;> omega, ?_⟩
      obtain ⟨ad, cap, e, l1, l2, -⟩ := h2
      exact ⟨ad, cap, e, l1, l2, Or.inl (by rw [he]; rfl)⟩
    · exact ⟨blk, by have := (own_some hK blk (h1 he)).1; omega, fun h => h.2 (h1 he).symm, h2⟩
  have hst := hG4.step (c := ⟨t.op, t.num, (addL args t.kids cs).2.map fun (a : Nat) => (a : Int)⟩) (v' := v') ⟨ho, hn⟩ hb3 hb2 xs hx hown hg
  have hown' : ∀ b, some b = gv.ownBlock → some b = gv0.ownBlock ∨ w.heap.size + 2 ≤ b := by
    intro b hb
    rcases h.own with e | ⟨g, e, hg⟩
    · exact Or.inl (hb.trans e)
    · rw [e] at hb; simp only [Option.some.injEq] at hb; exact Or.inr (by omega)
  refine ⟨hst.next (fun b hb _ => ?_) (fun _ _ _ => rfl) (fun _ _ _ => rfl), ⟨?_, ?_, ?_, by omega, fun b hb hn => ?_⟩, ?_⟩
  · rcases hb with hb | rfl
    · rcases hb.1 with hb | hb
      · exact Or.inl hb.1
      · exact Or.inr (by omega)
    · exact Or.inr hb1
  · rw [hg.os]; exact h.os
  · rw [hg.tape]; exact h.tape
  · rw [hg.output]; exact h.output
  · refine ((hg.block b (by rw [Deep.nblk_alloc]; omega) fun e => ?_).trans (Deep.blk_alloc_lt _ _ _ (by omega))).trans (h.old b hb hn)
    rcases hown' b e with e | e
    · exact hn e
    · omega
  · rcases hw with e | ⟨g, e, hg⟩
    · rw [e]
      rcases h.own with e | ⟨g, e, hg⟩
      · exact Or.inl e
      · exact Or.inr ⟨g, e, by omega⟩
    · exact Or.inr ⟨g, e, by omega⟩

set_option maxRecDepth 100000 in
set_option maxHeartbeats 1600000 in
theorem ad_step (args : List Nat) (t : Tr) (ih : ∀ i (hi : i < t.kids.length), AdSaid args (t.kids[i])) : AdSaid args t := by
  intro gv av c lo S cs w hg hlo ha hk hz hal ho hn hp
  have HI : Hid (∀ i (hi : i < t.kids.length), AdSaid args (t.kids[i])) := ih
  have HG : Hid (OwnC w lo S cs gv) := hg
  have HA : Hid (IntsOn w (Lt lo) (args.map fun (a : Nat) => (a : Int)) av) := ha
  have HK : Hid (KidsOn w (Lt lo) t.kids c) := hk
  have HT : Hid (I64 t.op ∧ I64 t.num) := ⟨ho, hn⟩
  have HPT : Hid (AllT (VarOk args.length) t) := hp
  have HG0 : Hid (∀ b, gv.ownBlock = some b → b < w.heap.size) := fun b hb => by obtain ⟨ys, hy⟩ := hg.row; exact (own_some hy b hb).2
  obtain ⟨adg, capg, rfl⟩ := hg.form
  obtain ⟨ad, cap, rfl, hl, hm, -⟩ := hk
  obtain ⟨ada, capa, rfl, hl2, hm2, -⟩ := ha
  unfold maxLen at hm hm2
  clear ih hg ho hn hp
  by_cases h1 : t.op = 1
  · have t1 : (t.op == 1) = true := by simpa using h1
    obtain ⟨p1, p2, p3⟩ := ((allT_iff _ t).1 HPT.out).1 h1
    obtain ⟨n, hnn⟩ : ∃ n : Nat, t.num = n := ⟨t.num.toNat, by omega⟩
    have hlt : n < args.length := by omega
    have HV : Hid (addT args t cs = (cs, args[n])) := by rw [Hid, addT_var cs h1, hnn]; simp [hlt]
    obtain ⟨bl, off, rfl, hbl, d0⟩ := IntsOn.atS HA.out n (by simpa using hlt)
    have hblw : bl < w.heap.size := by have : bl < lo := hbl; omega
    simp only [List.getElem_map] at d0
    have d1 := old_cell d0 (.cells #[.int .i64 t.op, .int .i64 (n : Int), .slice ad t.kids.length cap] 48)
    rw [hnn]
    rw [List.length_map]
    clear h1 p1 p2 p3 hnn hbl d0
    go_enter Tryz.func66, Tryz.ntmps66
    go_wp2_with fail
    go_quiet (fail)
    go_wp2_with fail
    go_ret2
    rw [HV.out]
    have hbx : Below w.heap.size w ((w.alloc (.cells #[.int .i64 t.op, .int .i64 (n : Int), .slice ad t.kids.length cap] 48)).drewN nq) := below_drewN (box_below _ _) _
    exact ⟨_, rfl, HG.out.next (fun b hb _ => Or.inl hb) (fun b _ hb => hbx.block b hb) (fun b _ hb => hbx.block b hb), grown_box hbx, Or.inl rfl⟩
  · have t1 : (t.op == 1) = false := by simpa using h1
    have HV : Hid (addT args t cs = ((addL args t.kids cs).1 ++ [⟨t.op, t.num, (addL args t.kids cs).2.map fun (a : Nat) => (a : Int)⟩], (addL args t.kids cs).1.length)) := addT_other cs h1
    clear h1
    rw [List.length_map]
    go_enter Tryz.func66, Tryz.ntmps66
    obtain ⟨wC, hwC⟩ : ∃ wC : World, wC = (w.alloc (.cells #[.int .i64 t.op, .int .i64 t.num, .slice ad t.kids.length cap] 48)).alloc (.cells #[.int .i64 t.op, .int .i64 t.num, .slice none 0 0] 93) := ⟨_, rfl⟩
    have HWC : Hid (wC = (w.alloc (.cells #[.int .i64 t.op, .int .i64 t.num, .slice ad t.kids.length cap] 48)).alloc (.cells #[.int .i64 t.op, .int .i64 t.num, .slice none 0 0] 93)) := hwC
    have HST : Hid (AdRel args t cs lo S (.slice adg cs.length capg) (.slice ad t.kids.length cap) w 0 (.slice adg cs.length capg) (.slice none 0 0) wC) := by
      have hz2 : wC.heap.size = w.heap.size + 2 := by rw [hwC, Deep.nblk_alloc, Deep.nblk_alloc]
      have hbl : ∀ b, b < w.heap.size → wC.heap[b]? = w.heap[b]? := fun b hb => by rw [hwC, Deep.blk_alloc_lt _ _ _ (by rw [Deep.nblk_alloc]; omega), Deep.blk_alloc_lt _ _ _ hb]
      refine ⟨?_, ?_, ?_, ?_, fun b hb _ => hbl b hb, by rw [hwC]; rfl, by rw [hwC]; rfl, by rw [hwC]; rfl, by omega, Or.inl rfl⟩
      · simp only [List.take_zero, addL]
        exact HG.out.next (fun b hb hb2 => ⟨Or.inl ⟨hb, hb2⟩, by simp [Value.ownBlock]⟩) (fun b _ hb => hbl b hb) (fun b _ hb => hbl b hb)
      · simp only [List.take_zero, addL]
        exact World.ownsRow_nil _ _ _ _
      · have h := Deep.blk_alloc_new (w.alloc (.cells #[.int .i64 t.op, .int .i64 t.num, .slice ad t.kids.length cap] 48)) (.cells #[.int .i64 t.op, .int .i64 t.num, .slice none 0 0] 93)
        rw [Deep.nblk_alloc, ← hwC] at h
        exact h
      · rw [hwC, Deep.blk_alloc_lt _ _ _ (by rw [Deep.nblk_alloc]; omega)]; exact Deep.blk_alloc_new _ _
    clear hwC
    go_wp2_with fail
    rw [← HWC.out]
    go_loopw [0, 9] (fun gvv i wr => ∃ (k : Nat) (kv : Value), k ≤ t.kids.length ∧ i = .int .i64 k ∧ AdRel args t cs lo S (.slice adg cs.length capg) (.slice ad t.kids.length cap) w k gvv kv wr) (fun _ i _ => t.kids.length - (intOf i).toNat)
    case atStart => exact ⟨0, _, Nat.zero_le _, rfl, HST.out⟩
    case round =>
      obtain ⟨k, kv, hk, rfl, hrd⟩ := hrel
      have HRD : Hid (AdRel args t cs lo S (.slice adg cs.length capg) (.slice ad t.kids.length cap) w k _ kv wr) := hrd
      have heb := hrd.ebx
      have o2 := cell_of_blk heb 2 _ rfl
      have hsz := hrd.size
      obtain ⟨adv, capv, rfl⟩ := hrd.graph.form
      have HOLD : Hid (∀ b, Lt lo b → wr.heap[b]? = w.heap[b]?) := fun b hb => hrd.old b (Nat.lt_of_lt_of_le hb hlo) (fun e => by obtain ⟨ys, hy⟩ := HG.out.row; have := (own_some hy b e.symm).1; have h2 : b < lo := hb; omega)
      clear hrd heb
      by_cases hlt : k < t.kids.length
      · have hkk := HK.out.mono (fun _ h => h) HOLD.out
        obtain ⟨adx, capx, hxe, -, -, hr⟩ := hkk
        cases hxe
        rcases hr with hnil | ⟨bl, off, rfl, hbl, hr⟩
        · rw [hnil] at hlt; simp at hlt
        obtain ⟨p, q, r, e0, e1, e2, ht⟩ := RowOn.at t.kids off k hlt hr
        obtain ⟨rfl, rfl, io, iN, hkc⟩ := trOn_iff.1 ht
        obtain ⟨adk, capk, rfl, -, -, -⟩ := id hkc
        have HKC : Hid (KidsOn wr (Lt lo) (t.kids[k]).kids (.slice adk (t.kids[k]).kids.length capk)) := hkc
        have HIO : Hid (I64 (t.kids[k]).op ∧ I64 (t.kids[k]).num) := ⟨io, iN⟩
        clear hr ht hkc io iN hbl
        have HSZ : Hid (szL (t.kids.take k) + 1 + szT t.kids[k] ≤ szT t) := by
          have h1 := szL_take_succ t.kids k hlt
          have h2 := szL_take_le t.kids (k + 1)
          rw [Hid, szT_eq t]; omega
        have HSL := addL_size args (t.kids.take k) cs
        have hc1 : AdSaid args t.kids[k] := HI.out k hlt
        have hc2 : OwnC wr lo (SK w S kv) (addL args (t.kids.take k) cs).1 (.slice adv (addL args (t.kids.take k) cs).1.length capv) := HRD.out.graph
        have hc3 : IntsOn wr (Lt lo) (args.map fun (a : Nat) => (a : Int)) (.slice ada args.length capa) := by
          have h := HA.out.mono (fun _ h => h) HOLD.out
          rw [List.length_map] at h
          exact h
        have hc4 : (addL args (t.kids.take k) cs).1.length + szT t.kids[k] ≤ 500000 := by have := HSZ.out; have := HSL.2.1; omega
        have hc5 : lo ≤ wr.heap.size := by omega
        have HCALL : Hid (Calls Tryz.prog 66 #[.slice adv (addL args (t.kids.take k) cs).1.length capv, .agg #[.int .i64 t.kids[k].op, .int .i64 t.kids[k].num, .slice adk (t.kids[k]).kids.length capk], .slice ada args.length capa] wr (AddRes (addT args t.kids[k] (addL args (t.kids.take k) cs).1) lo (SK w S kv) (.slice adv (addL args (t.kids.take k) cs).1.length capv) wr)) := hc1 _ _ _ lo _ _ wr hc2 hc5 hc3 HKC.out hc4 hal HIO.out.1 HIO.out.2 (HPT.out.kid k hlt)
        clear hc1 hc2 hc3 hc4 hc5
        go_wp2_with fail
        refine HCALL.out.mono ?_
        rintro e w2 ⟨gv', rfl, hg2, hgr2, how2⟩
        obtain ⟨nk, hnk⟩ : ∃ nk, nk = (addT args t.kids[k] (addL args (t.kids.take k) cs).1).2 := ⟨_, rfl⟩
        have HNK : Hid (nk = (addT args t.kids[k] (addL args (t.kids.take k) cs).1).2) := hnk
        have HG2 : Hid (OwnC w2 lo (fun b => SK w S kv b ∨ wr.heap.size ≤ b) (addT args t.kids[k] (addL args (t.kids.take k) cs).1).1 gv') := hg2
        have HGR2 : Hid (wr.grownBy w2 (Value.slice adv (addL args (t.kids.take k) cs).1.length capv).ownBlock) := hgr2
        have HOW2 : Hid (gv'.ownBlock = (Value.slice adv (addL args (t.kids.take k) cs).1.length capv).ownBlock ∨ ∃ g, gv'.ownBlock = some g ∧ wr.heap.size ≤ g) := how2
        obtain ⟨-, -, q3, q4⟩ := HRD.out.kept HG0.out hgr2
        have hbx2 := q3.trans HRD.out.box
        have p2 := cell_of_blk hbx2 2 _ rfl
        have p3 := old_cell p2 (.cells #[.int .i64 (nk : Int)] 3)
        have HBX2 : Hid (w2.heap[w.heap.size + 1]? = some (.cells #[.int .i64 t.op, .int .i64 t.num, kv] 93)) := hbx2
        have HST2 : Hid (Stk (w2.alloc (.cells #[.int .i64 (nk : Int)] 3)) (w.heap.size + 2) (addL args (t.kids.take k) cs).2 kv) := q4.alloc _
        obtain ⟨adq, capq, rfl⟩ := q4.len
        have HZ2 : Hid (w.heap.size + 2 ≤ w2.heap.size) := by have := hgr2.size; rw [Hid]; omega
        have HNB : Hid ((addL args (t.kids.take k) cs).2.length = k) := by rw [Hid, addL_length, List.length_take]; omega
        obtain ⟨iI, zI, hII⟩ := infoI1
        have HII : Hid (Tryz.prog.info? 3 = some iI ∧ iI.zero = some zI ∧ iI.size = 1 ∧ iI.bytes = 8 ∧ zI.cells.size = 1) := hII
        have hkm : k < 1048576 := by
          have h := HSZ.out
          rw [szL_sum, List.length_take] at h
          omega
        rw [← hnk]
        clear hII hg2 hgr2 how2 q3 q4 hbx2 hnk
        go_wp2_with (at_builtin; go_must (refine wpList_append_where _ rfl _ _ 88 rfl (w.heap.size + 2) 3 iI zI 1 8 Tryz.underlying88 HII.out.1 HII.out.2.1 HII.out.2.2.1 HII.out.2.2.2.1 HII.out.2.2.2.2 (by decide) (.slice adq (addL args (t.kids.take k) cs).2.length capq) (addL args (t.kids.take k) cs).2.length (plV (addL args (t.kids.take k) cs).2) rfl HST2.out ⟨w2.heap.size, 0, none⟩ 1 1 [.int .i64 (nk : Int)] rfl rfl (news1 w2 _) (by simp [Value.oneCell']) (by rw [HNB.out]; unfold maxLen; omega) (by rw [HNB.out]; omega) (by rw [Deep.nblk_alloc]; have := HZ2.out; omega) (by omega) ?_); go_must (intro v' w5 hown hgr5 hw5); go_must (have HST5 : Hid (Stk w5 (w.heap.size + 2) ((addL args (t.kids.take k) cs).2 ++ [nk]) v') := stk_snoc hown); go_must (have HGR5 : Hid ((w2.alloc (.cells #[.int .i64 (nk : Int)] 3)).grownBy w5 (Value.slice adq (addL args (t.kids.take k) cs).2.length capq).ownBlock) := hgr5); go_must (have HW5 : Hid (v'.ownBlock = (Value.slice adq (addL args (t.kids.take k) cs).2.length capq).ownBlock ∨ ∃ g, v'.ownBlock = some g ∧ (w2.alloc (.cells #[.int .i64 (nk : Int)] 3)).heap.size ≤ g) := hw5); go_must (have hbx5 := ((hgr5.block _ (by rw [Deep.nblk_alloc]; have := HZ2.out; omega) fun e => by have := (own_some HST2.out _ e.symm).1; omega).trans (Deep.blk_alloc_lt _ _ _ (by have := HZ2.out; omega))).trans HBX2.out); go_must (obtain ⟨adz, capz, rfl⟩ := stk_form HST5.out HNB.out); go_must (have s2 := cell_of_blk hbx5 2 _ rfl); go_must (have sf := frz_of_blk hbx5 2); clear hown hgr5 hw5 hbx5 p2 p3)
        go_roundw
        case rel => exact ⟨k + 1, _, by omega, by go_num, ad_push HRD.out hlt HG0.out HG2.out HGR2.out HOW2.out _ (by rw [← HNK.out]; exact HST5.out) HGR5.out HW5.out⟩
        case measure => simp [intOf]; omega
      · have hke : k = t.kids.length := by omega
        subst hke
        have htk : t.kids.take t.kids.length = t.kids := List.take_length
        have HG4 : Hid (OwnC wr lo (SK w S kv) (addL args t.kids cs).1 (.slice adv (addL args t.kids cs).1.length capv)) := by
          have h := HRD.out.graph
          rw [htk] at h
          exact h
        have HRD2 : Hid (AdRel args t cs lo S (.slice adg cs.length capg) (.slice ad t.kids.length cap) w t.kids.length (.slice adv (addL args t.kids cs).1.length capv) kv wr) := by
          have h := HRD.out
          rw [htk] at h
          exact h
        rw [htk]
        clear htk HRD
        have hrk : Stk wr (w.heap.size + 2) (addL args t.kids cs).2 kv := by
          have h := HRD2.out.kids
          rw [List.take_length] at h
          exact h
        obtain ⟨adq, capq, rfl⟩ := hrk.len
        have hbx := HRD2.out.box
        have r0 := cell_of_blk hbx 0 _ rfl
        have r1 := cell_of_blk hbx 1 _ rfl
        have r2 := cell_of_blk hbx 2 _ rfl
        obtain ⟨xs, hx⟩ := (HG4.out.next (w' := (wr.alloc (.cells #[.int .i64 t.op, .int .i64 t.num, .slice adq (addL args t.kids cs).2.length capq] 93))) (fun _ h _ => h) (fun b _ hb => Deep.blk_alloc_lt _ _ _ hb) (fun b _ hb => Deep.blk_alloc_lt _ _ _ hb)).row
        have HX : Hid ((wr.alloc (.cells #[.int .i64 t.op, .int .i64 t.num, .slice adq (addL args t.kids cs).2.length capq] 93)).ownsRow lo 93 3 (.slice adv (addL args t.kids cs).1.length capv) (addL args t.kids cs).1.length xs) := hx
        obtain ⟨iC, zC, hII⟩ := infoC1
        have HII : Hid (Tryz.prog.info? 93 = some iC ∧ iC.zero = some zC ∧ iC.size = 3 ∧ iC.bytes = 40 ∧ zC.cells.size = 3) := hII
        have hgl : (addL args t.kids cs).1.length ≤ 500000 := by
          have h := (addL_size args t.kids cs).2.1
          rw [szT_eq t] at hz
          omega
        clear hII hbx hrk hx
        go_wp2_with (at_builtin; go_must (refine wpList_append_where _ rfl _ _ 28 rfl lo 93 iC zC 3 40 Tryz.underlying28 HII.out.1 HII.out.2.1 HII.out.2.2.1 HII.out.2.2.2.1 HII.out.2.2.2.2 (by decide) (.slice adv (addL args t.kids cs).1.length capv) (addL args t.kids cs).1.length xs rfl HX.out ⟨wr.heap.size, 0, none⟩ 1 1 [.int .i64 t.op, .int .i64 t.num, .slice adq (addL args t.kids cs).2.length capq] rfl rfl (news3c wr _ _ _) (by simp [Value.oneCell']) (by unfold maxLen; omega) (by omega) (by rw [Deep.nblk_alloc]; omega) (by omega) ?_); go_must (intro v' w5 hown hg5 hw5); go_must (have HOWN : Hid (w5.ownsRow lo 93 3 v' ((addL args t.kids cs).1.length + 1) (xs ++ [.int .i64 t.op, .int .i64 t.num, .slice adq (addL args t.kids cs).2.length capq])) := hown); go_must (have HG5 : Hid ((wr.alloc (.cells #[.int .i64 t.op, .int .i64 t.num, .slice adq (addL args t.kids cs).2.length capq] 93)).grownBy w5 (Value.slice adv (addL args t.kids cs).1.length capv).ownBlock) := hg5); go_must (have HW5 : Hid (v'.ownBlock = (Value.slice adv (addL args t.kids cs).1.length capv).ownBlock ∨ ∃ g, v'.ownBlock = some g ∧ (wr.alloc (.cells #[.int .i64 t.op, .int .i64 t.num, .slice adq (addL args t.kids cs).2.length capq] 93)).heap.size ≤ g) := hw5); clear hown hg5 hw5)
        go_ret2
        obtain ⟨z1, z2, z3⟩ := ad_end HRD2.out rfl HG0.out HT.out.1 HT.out.2 _ HX.out HOWN.out HG5.out HW5.out
        rw [HV.out]
        exact ⟨v', rfl, z1, z2, z3⟩
theorem ad_calls (args : List Nat) : ∀ t : Tr, AdSaid args t
  | .node op n ks => ad_step args (.node op n ks) fun i hi => ad_calls args _
termination_by t => szT t
decreasing_by
  simp only [szT, Tr.kids_node] at *
  exact szT_lt_szL ks i hi
end Go.Proofs.YtiipcgnkfhjpeaaGreatDoor
/-
  SMALL FACTS for the model's BuildGraph and AddExpr.
-/
namespace Go.Proofs.YtiipcgnkfhjpeaaGreatDoor
set_option linter.unusedVariables false
set_option linter.unusedSimpArgs false
open Go.RowKit

theorem below_grown {w w1 w2 : World} {v : Value} (hb : Below w.heap.size w w1) (h : w1.grownBy w2 v.ownBlock) (ho : ∀ k, v.ownBlock = some k → w.heap.size ≤ k) : Below w.heap.size w w2 :=
  ⟨h.os.trans hb.os, h.tape.trans hb.tape, h.output.trans hb.output, Nat.le_trans hb.size h.size, fun k hk => (h.block k (Nat.lt_of_lt_of_le hk hb.size) fun e => by have := ho k e.symm; omega).trans (hb.block k hk)⟩
end Go.Proofs.YtiipcgnkfhjpeaaGreatDoor
