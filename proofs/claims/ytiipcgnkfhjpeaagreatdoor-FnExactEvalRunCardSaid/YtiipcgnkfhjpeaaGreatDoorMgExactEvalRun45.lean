/-
  WHAT THE PROGRAM's call DOES.
-/
import Derived.Test.YtiipcgnkfhjpeaaGreatDoorMgExactEvalRun35
import Derived.Test.YtiipcgnkfhjpeaaGreatDoorMgExactEvalRun43
import Derived.Test.YtiipcgnkfhjpeaaGreatDoorMgExactEvalRun31
import Derived.Test.YtiipcgnkfhjpeaaGreatDoorMgExactEvalRun23
import Derived.Test.YtiipcgnkfhjpeaaGreatDoorMgExactEvalRun44
namespace Go.Proofs.YtiipcgnkfhjpeaaGreatDoor
set_option linter.unusedVariables false
set_option linter.unusedSimpArgs false
open Go.RowKit

attribute [local go_sem] Oper.semAt_some
/-- function i of a program, opened, its blocks in S -/
theorem DefsOn.atG {w : World} {S : Nat → Prop} {ds : List Df} {ad : Option Addr} {n cap : Nat} (h : DefsOn w S ds (.slice ad n cap)) (i : Nat) (hi : i < ds.length) :
    ∃ bl off c, ad = some ⟨bl, off, none⟩ ∧ S bl ∧ w.cell? ⟨bl, off + i * 4 + 1, none⟩ = some (.int .i64 ds[i].2.op) ∧ w.cell? ⟨bl, off + i * 4 + 2, none⟩ = some (.int .i64 ds[i].2.num) ∧ w.cell? ⟨bl, off + i * 4 + 3, none⟩ = some c ∧ I64 ds[i].2.op ∧ I64 ds[i].2.num ∧ KidsOn w S ds[i].2.kids c := by
  obtain ⟨ad', cap', he, -, -, hr⟩ := h
  cases he
  rcases hr with rfl | ⟨bl, off, rfl, hs, r⟩
  · simp at hi
  obtain ⟨a, b, c, e, h1, h2, h3, h4, rfl, g2, g3⟩ := r i hi
  obtain ⟨rfl, rfl, g5, g6, g7⟩ := trOn_iff.1 g3
  exact ⟨bl, off, e, rfl, hs, h2, h3, h4, g5, g6, g7⟩

/-- the arguments that have come -/
def AppAt (g : List Ce) (x : Int) : Prop := ∃ a : Nat, x = (a : Int) ∧ a < g.length ∧ opAt g a = 4
def argsP (g : List Ce) (pre : List (Bk (AppAt g))) : List Nat := pre.map fun x => kidAt g x.1.2.toNat 1
/-- what holds between two rounds: the arguments lie in the box; nothing else has changed -/
def ArgsI (g : List Ce) (w2 : World) (u : Value) (pre : List (Bk (AppAt g))) (W : World) : Prop := ((∃ v, Boxed W w2.heap.size 88 v ∧ W.ownsRow w2.heap.size 3 1 v (argsP g pre).length (plV (argsP g pre)) ∧ True) ∧ Boxed W (w2.heap.size + 1) 88 u) ∧ Below w2.heap.size w2 W
theorem boxed_own1 {β : Type} (B : Nat) (t : TypeId) (v : Value) : Own (fun (_ : β) W => Boxed W B t v) := by
  intro s X Y row hv hg hrow
  refine hv.kept hg fun e => ?_
  obtain ⟨o, ho, hc⟩ := hrow B e.symm
  rw [show X.heap[B]? = _ from hv] at ho; cases ho; cases hc
theorem argsI_own (g : List Ce) (w2 : World) (u : Value) (B : Nat) (hB : w2.heap.size ≤ B) : OwnFrom B (ArgsI g w2 u) :=
  OwnFrom.and (OwnFrom.and (Own.from (holdsRow_own w2.heap.size w2.heap.size 88 3 1 (fun pre : List (Bk (AppAt g)) => (argsP g pre).length) (fun pre => plV (argsP g pre)) (fun _ _ => True)) _) (Own.from (boxed_own1 _ _ _) _)) (ownFrom_below (Nat.le_refl _) hB)
theorem argsP_snoc (g : List Ce) (pre : List (Bk (AppAt g))) (x : Bk (AppAt g)) {a : Nat} (hx : x.1.2 = (a : Int)) : argsP g (pre ++ [x]) = argsP g pre ++ [kidAt g a 1] := by
  unfold argsP; rw [List.map_append]; simp [hx]
/-- the blocks that the iterator reads -/
def BackK (B : Nat) (ad : Option Addr) (k : Nat) : Prop := k = B + 1 ∨ (k < B ∧ ∃ o, ad = some ⟨k, o, none⟩)
theorem backK_put (B : Nat) (ad : Option Addr) {w : World} (hw : B + 1 < w.heap.size) (W : World) (lw : Nat) (o o' : Obj) (hlw : w.heap.size ≤ lw) (_ : W.heap[lw]? = some o) (_ : o.isCells = false) (_ : o.isWalk = false) : KeepK (BackK B ad) W (W.putObj lw o') :=
  fun k hk => World.putObj_heap_other (by rcases hk with rfl | hk <;> omega)

/-- an argument more: behind the append -/
theorem args_push {g : List Ce} {w2 : World} {u : Value} {pre : List (Bk (AppAt g))} {x : Bk (AppAt g)} {W w' : World} {a : Nat} {v v' : Value} {o : Obj} (hv : Boxed W w2.heap.size 88 v) (hr : W.ownsRow w2.heap.size 3 1 v (argsP g pre).length (plV (argsP g pre))) (hu : Boxed W (w2.heap.size + 1) 88 u) (hB : Below w2.heap.size w2 W) (hx : x.1.2 = (a : Int))
    (hst : Stk w' w2.heap.size (argsP g pre ++ [kidAt g a 1]) v') (hg : (W.alloc o).drew.grownBy w' v.ownBlock) :
    Boxed w' w2.heap.size 88 v ∧ (∀ b, b < w2.heap.size → w'.heap[b]? = W.heap[b]?) ∧ KeepsOthers W (w'.setCell ⟨w2.heap.size, 0, none⟩ v') ∧ (∀ ad, KeepK (BackK w2.heap.size ad) W (w'.setCell ⟨w2.heap.size, 0, none⟩ v')) ∧ ArgsI g w2 u (pre ++ [x]) (w'.setCell ⟨w2.heap.size, 0, none⟩ v') := by
  have hg2 : (W.alloc o).grownBy w' v.ownBlock := ⟨hg.os, hg.tape, hg.output, hg.size, hg.block⟩
  have hbs := hB.size
  obtain ⟨c1, c2, c3, c4, c5⟩ := Boxed.appended hv (by decide) hr hbs (Nat.le_refl _) hst hg2
  have hlo : ∀ b, b < w2.heap.size → w'.heap[b]? = W.heap[b]? := fun b hb => (hg2.block b (by rw [Deep.nblk_alloc]; omega) (fun e => by have := own_lo hr e; omega)).trans (Deep.blk_alloc_lt _ _ _ (by omega))
  have hub : w'.heap[w2.heap.size + 1]? = W.heap[w2.heap.size + 1]? := (hg2.block _ (by rw [Deep.nblk_alloc]; have := hu.lt; omega) (hu.not_row (by decide) hr)).trans (Deep.blk_alloc_lt _ _ _ hu.lt)
  refine ⟨c1, hlo, c4, fun ad k hk => ?_, ⟨⟨⟨v', c2, ?_, trivial⟩, ?_⟩, hB.trans c5⟩⟩
  · rcases hk with rfl | ⟨hk, -⟩
    · exact (Below.heap_setCell _ _ _ _ (by simp)).trans hub
    · exact (Below.heap_setCell _ _ _ _ (by show k ≠ w2.heap.size; omega)).trans (hlo k hk)
  · rw [argsP_snoc g pre x hx]
    exact c3
  · exact ((Below.heap_setCell _ _ _ _ (by simp)).trans hub).trans hu

theorem argsP_all {g : List Ce} {l : List Nat} {ys : List (Bk (AppAt g))} (h : ys.map (·.1) = dnL (plI l) (plI l).length) : argsP g ys = argsL g l := by
  have e : argsP g ys = (ys.map (·.1)).map fun y => kidAt g y.2.toNat 1 := by unfold argsP; rw [List.map_map]; rfl
  rw [e, h, dnL_map (plI l) (fun z => kidAt g z.toNat 1)]
  unfold argsL plI
  rw [List.map_map]
  rfl
/-- a list that a call has built, in its own block -/
theorem stk_on {w : World} {lo : Nat} {ws : List Nat} {v : Value} (h : Stk w lo ws v) : IntsOn w (fun b => some b = v.ownBlock) (ws.map fun (a : Nat) => (a : Int)) v := by
  obtain ⟨ad, cap, e, l1, l2, h5⟩ := h.row
  refine ⟨ad, cap, e, l1, l2, h5.imp id ?_⟩
  rintro ⟨b, f, rfl, -, h6, h7⟩
  refine ⟨b, 0, rfl, by rw [e]; rfl, fun i hi => ?_⟩
  rw [Nat.zero_add, h6.cell (by omega), h7 i hi]
/-- the graph behind a fold, in the reducer -/
theorem redW_fold {R A lo : Nat} {c gv gv' : Value} {fu : Fu} {st : Int} {g g' : List Ce} {w w' : World} (h : RedW R A lo c fu st g w) (hg : OwnC w' lo (fun b => lo ≤ b ∨ w.drew.heap.size ≤ b) g' gv') (hA : w'.heap[A]? = some (.cells #[gv'] 142)) (hk : Kept w.drew w' A gv.ownBlock) (hlo : lo ≤ w.heap.size) (hR : w'.heap[R]? = w.heap[R]?) : RedW R A lo c fu st g' w' := by
  obtain ⟨ad, cap, rfl⟩ := hg.form
  exact ⟨hR.trans h.red, ⟨ad, cap, hA, hg.next (fun k hk _ => hk.elim id (fun h => Nat.le_trans hlo h)) (fun _ _ _ => rfl) (fun _ _ _ => rfl)⟩, h.loR, h.loA⟩
theorem notRow_fold {A b : Nat} {gv' : Value} {n cap k N : Nat} {w' : World} (hA : w'.heap[A]? = some (.cells #[gv'] 142)) (how : gv'.ownBlock = (Value.slice (some ⟨b, 0, none⟩) n cap).ownBlock ∨ ∃ g, gv'.ownBlock = some g ∧ N ≤ g) (h1 : k < N) (h2 : k ≠ b) : NotRow w' A k := by
  intro o n2 cap2 e
  rw [hA] at e
  simp only [Option.some.injEq, Obj.cells.injEq, Array.mk.injEq, List.cons.injEq, and_true] at e
  obtain ⟨rfl, -⟩ := e
  rcases how with how | ⟨g, how, hg⟩
  · simp only [Value.ownBlock, Option.some.injEq] at how
    exact h2 how
  · simp only [Value.ownBlock, Option.some.injEq] at how
    omega
theorem kept_below {lo A b n cap : Nat} {w w' : World} (hk : Kept w.drew w' A (Value.slice (some ⟨b, 0, none⟩) n cap).ownBlock) (hlo : lo ≤ w.heap.size) (hb : lo ≤ b) (hA : lo ≤ A) : Below lo w w' :=
  ⟨hk.os, hk.tape, hk.output, hk.size, fun k hk2 => hk.block k (Nat.lt_of_lt_of_le hk2 hlo) (by simp only [Value.ownBlock, ne_eq, Option.some.injEq]; omega) (by omega)⟩
/-- a block that is no cells may change -/
theorem RedW.putObj {R A lo D : Nat} {c : Value} {fu : Fu} {st : Int} {g : List Ce} {w : World} {o : Obj} (h : RedW R A lo c fu st g w) (hD : w.heap[D]? = some (.deferred (some []))) : RedW R A lo c fu st g (w.putObj D o) := by
  obtain ⟨ad, cap, h1, h2⟩ := h.are
  have hne : ∀ (k : Nat) (C : Array Value) (T : TypeId) (r : Nat × Nat), w.heap[k]? = some (Obj.cells C T r) → (w.putObj D o).heap[k]? = w.heap[k]? := fun k C T r hk => World.putObj_heap_other (by rintro rfl; rw [hD] at hk; cases hk)
  refine ⟨(hne R _ _ _ h.red).trans h.red, ⟨ad, cap, (hne A _ _ _ h1).trans h1, h2.next2 (fun _ hk _ => hk) (fun k hk hz => ?_) (fun k C _ _ hC => hne k _ _ _ hC)⟩, h.loR, h.loA⟩
  obtain ⟨ys, hys⟩ := h2.row
  rcases hys.2 with ⟨e, -⟩ | ⟨b, c5, cur, e, -, hh, -⟩
  · rw [e] at hk; simp [Value.ownBlock] at hk
  · rw [e] at hk
    simp only [Value.ownBlock, Option.some.injEq] at hk
    subst hk
    exact hne k _ _ _ hh
theorem below_putObj {lo D : Nat} {w w' : World} {o : Obj} (h : Below lo w w') (hD : lo ≤ D) : Below lo w (w'.putObj D o) :=
  ⟨h.os, h.tape, h.output, by rw [World.putObj_size]; exact h.size, fun k hk => (World.putObj_heap_other (by omega)).trans (h.block k hk)⟩
set_option maxRecDepth 100000 in
set_option maxHeartbeats 3200000 in
theorem call_said : CallSaid := by
  intro aF aS aL ds g R A lo at' c fu st w hE h hlo hd hg hp ha hcr
  obtain ⟨ho, f, l, n, hs, h3, hn, hnl, hl⟩ := hcr
  have hpt := call_parts hg hp ha hs hn hnl hl
  have hok := spine_ok hg ha hs
  have hff := hok.1
  rw [numAt_at f hff] at hn
  have h400 : g.length ≤ 400 := graphB_len hg
  have HW := mkHid h
  have HE := mkHid hE
  have HD := mkHid hd
  have HG := mkHid hg
  have HPT := mkHid hpt
  have HOK := mkHid hok
  have HLO := mkHid hlo
  have HS := mkHid hs
  have HN := mkHid hn
  obtain ⟨b5, cap, hA, hO, hbl5, hbz5, hbA, hbR⟩ := h.blk (by omega)
  have HC := mkHid (hO.own fun k hk _ => hk).inn
  have HAA := mkHid hA
  have HRR := mkHid h.red
  have HZ50 := mkHid hbz5
  have HR5 := mkHid hbR.symm
  have HL5 := mkHid hbl5
  have HA5N := mkHid hbA.symm
  -- the receiver's box
  have HBA : Hid (Below w.heap.size w (w.alloc (.cells #[.pointer (some ⟨R, 0, none⟩)] 208))) := box_below _ _
  have HBX : Hid ((w.alloc (.cells #[.pointer (some ⟨R, 0, none⟩)] 208)).heap[w.heap.size]? = some (.cells #[.pointer (some ⟨R, 0, none⟩)] 208)) := Deep.blk_alloc_new _ _
  have HSA : Hid ((w.alloc (.cells #[.pointer (some ⟨R, 0, none⟩)] 208)).heap.size = w.heap.size + 1) := Deep.nblk_alloc _ _
  have r0 := old_cell (cell_of_blk HRR.out 0 _ rfl) (.cells #[.pointer (some ⟨R, 0, none⟩)] 208)
  have a0 := old_cell (cell_of_blk HAA.out 0 _ rfl) (.cells #[.pointer (some ⟨R, 0, none⟩)] 208)
  clear h hE hd hg hp hpt hok hlo hs hn hA hO hbl5 hbz5 hbA hbR ho h3 hl
  refine (callsIn_wide (n := 5)).1 ?_
  refine callsIn_of_wp_marks Tryz.func156 rfl trivial ?_ rfl
  refine (wpIn_wide (n := 5)).2 ?_
  simp only [Tryz.ntmps156, List.size_toArray, List.length_cons, List.length_nil, Nat.reduceAdd, Nat.reduceSub, Array.replicate_succ, Array.replicate_zero, List.push_toArray, List.append_toArray, List.nil_append, List.cons_append]
  go_wp2_with fail
  refine (spineFrom_calls g at' _ _ (HC.out.next HBA.out) ⟨_, HG.out⟩ ha).mono ?_
  rintro e w1 ⟨apv, rfl, hap, hb1⟩
  rw [HS.out] at hap ⊢
  rw [show spF (some (f, l)) = (f : Int) from rfl]
  have hap : IntRow w1 (w.alloc (.cells #[.pointer (some ⟨R, 0, none⟩)] 208)).heap.size (plI l) apv := hap
  -- what lies where behind it
  have HB1 : Hid (Below w.heap.size w w1) := HBA.out.trans (hb1.mono (by rw [HSA.out]; omega))
  have HX1 := mkHid ((hb1.block w.heap.size (by rw [HSA.out]; omega)).trans HBX.out)
  have HAP := mkHid hap
  have HW1 := mkHid (HW.out.next HB1.out)
  have hD1 : DefsOn w1 (fun k => k < lo ∧ Pl w1 k) ds c := HD.out.mono (fun k hk => ⟨hk.1, hk.2.next HB1.out⟩) (fun k hk => HB1.out.block k hk.2.1)
  obtain ⟨adp, capp, rfl, hpl, hpm, -⟩ := id hD1
  obtain ⟨bp, op, cb, rfl, hbp, p1, p2, p3, i1, i2, HKB⟩ := hD1.atG n hnl
  have HKB := mkHid HKB
  have hIn : InP w1 ds[n].2.kids cb := HKB.out.mono (fun k hk => hk.2) (fun _ _ => rfl)
  obtain ⟨adb, capb, rfl, -, -, -⟩ := id hIn
  have HIN := mkHid hIn
  have HII := mkHid (And.intro i1 i2)
  obtain ⟨b6, of6, r6, hea, -, q1, -, -, -, -⟩ := (HC.out.next HB1.out).at f hff
  cases hea
  rw [Nat.zero_add, HN.out] at q1
  have x0 := cell_of_blk HX1.out 0 _ rfl
  have rr0 := cell_of_blk HW1.out.red 0 _ rfl
  have rr1 := cell_of_blk HW1.out.red 1 _ rfl
  have aa0 := cell_of_blk ((HB1.out.block A (cellsOf_ltI HAA.out)).trans HAA.out) 0 _ rfl
  have hfI : (f : Int) < (g.length : Int) := by omega
  have hnI : (n : Int) < (ds.length : Int) := by omega
  obtain ⟨ada, capa, rfl, hal, ham, -⟩ := id hap
  clear hD1 hIn i1 i2 hap hb1 r0 a0
  go_wp2_with fail
  go_region_held3 (fun w' => w'.cell? ⟨w.heap.size, 0, none⟩ = some (.pointer (some ⟨R, 0, none⟩)) ∧ w'.cell? ⟨R, 0, none⟩ = some (.pointer (some ⟨A, 0, none⟩)) ∧ w'.cell? ⟨R, 1, none⟩ = some (.slice (some ⟨bp, op, none⟩) ds.length capp) ∧ w'.cell? ⟨A, 0, none⟩ = some (.slice (some ⟨b5, 0, none⟩) g.length cap) ∧ w'.cell? ⟨b5, f * 3 + 1, none⟩ = some (.int .i64 (n : Int)) ∧ w'.cell? ⟨bp, op + n * 4 + 1, none⟩ = some (.int .i64 ds[n].2.op) ∧ w'.cell? ⟨bp, op + n * 4 + 2, none⟩ = some (.int .i64 ds[n].2.num) ∧ w'.cell? ⟨bp, op + n * 4 + 3, none⟩ = some (.slice adb ds[n].2.kids.length capb))
    (first
      | go_keep
      | exact ⟨x0, rr0, rr1, aa0, q1, p1, p2, p3⟩
      | exact ⟨old_cell x0 _, old_cell rr0 _, old_cell rr1 _, old_cell aa0 _, old_cell q1 _, old_cell p1 _, old_cell p2 _, old_cell p3 _⟩)
    (fail)
  have HBD : Hid (Below w1.heap.size w1 (w1.alloc (.cells #[.int .i64 ds[n].2.op, .int .i64 ds[n].2.num, .slice adb ds[n].2.kids.length capb] 48)).drew) := (box_below _ _).drew
  have HSD : Hid ((w1.alloc (.cells #[.int .i64 ds[n].2.op, .int .i64 ds[n].2.num, .slice adb ds[n].2.kids.length capb] 48)).drew.heap.size = w1.heap.size + 1) := Deep.nblk_alloc _ _
  have HXD : Hid ((w1.alloc (.cells #[.int .i64 ds[n].2.op, .int .i64 ds[n].2.num, .slice adb ds[n].2.kids.length capb] 48)).drew.heap[w1.heap.size]? = some (.cells #[.int .i64 ds[n].2.op, .int .i64 ds[n].2.num, .slice adb ds[n].2.kids.length capb] 48)) := Deep.blk_alloc_new _ _
  have HZB : Hid (1 + szT ds[n].2 ≤ 60) := HPT.out.2.2.2.1
  clear x0 rr0 rr1 aa0 q1 p1 p2 p3
  go_wp2_with fail
  refine (cntNoV_calls ds[n].2 _ _ (HIN.out.mono (fun k hk => hk.next HBD.out) (fun k hk => HBD.out.block k hk.1)) HII.out (by have := HZB.out; omega)).mono ?_
  rintro e w2 ⟨rfl, hb2⟩
  have HB2 : Hid (Below w1.heap.size w1 w2) := HBD.out.trans (hb2.mono (by rw [HSD.out]; omega))
  have HBW2 : Hid (Below w.heap.size w w2) := HB1.out.trans (HB2.out.mono HB1.out.size)
  have HX2 := mkHid ((HB2.out.block w.heap.size (cellsOf_ltI HX1.out)).trans HX1.out)
  have HXD2 := mkHid ((hb2.block w1.heap.size (by rw [HSD.out]; omega)).trans HXD.out)
  have HW2 := mkHid (HW1.out.next HB2.out)
  have hA2 := (HBW2.out.block A (cellsOf_ltI HAA.out)).trans HAA.out
  have HA2 := mkHid hA2
  have x0 := cell_of_blk HX2.out 0 _ rfl
  have rr0 := cell_of_blk HW2.out.red 0 _ rfl
  have aa0 := cell_of_blk hA2 0 _ rfl
  obtain ⟨cn, hcn⟩ : ∃ cn, cn = cntT noV ds[n].2 := ⟨_, rfl⟩
  have hcl : cn ≤ 60 := by rw [hcn]; have := cntT_le noV ds[n].2; have := HZB.out; omega
  have HAL : Hid (callG ds g at' = if g.length + cn ≤ 400 then ((addT (argsL g l) ds[n].2 g).1.set at' (indTo (addT (argsL g l) ds[n].2 g).2), 0) else (g, 3)) := by
    show _ = _
    unfold callG
    rw [HPT.out.1, addT_len _ _ _ _ (varOk_of_sh _ _ _ _ HPT.out.2.2.1), ← hcn]
  rw [← hcn]
  clear hb2 hA2 hcn
  by_cases hbig : g.length + cn ≤ 400
  case neg =>
    have hbI : (400 : Int) < (g.length : Int) + (cn : Int) := by omega
    have HV : Hid (callG ds g at' = (g, 3)) := by rw [Hid, HAL.out, if_neg hbig]
    have e0 := (HE.out.next HBW2.out).cL
    clear hbig
    go_wp2_with fail
    exact ⟨_, results_tmp rfl _ _ _, by rw [HV.out]; rfl, by rw [HV.out]; exact HW2.out, HBW2.out.mono HLO.out, Kp.below HBW2.out HW.out.ltA⟩
  have hbI : ¬ (400 : Int) < (g.length : Int) + (cn : Int) := by omega
  have HV : Hid (callG ds g at' = ((addT (argsL g l) ds[n].2 g).1.set at' (indTo (addT (argsL g l) ds[n].2 g).2), 0)) := by rw [Hid, HAL.out, if_pos hbig]
  have HBIG := mkHid hbig
  clear hbig HAL
  go_wp2_with fail
  refine (backward_calls ada (plI l).length capa _).mono ?_
  rintro e w5 ⟨rfl, hx5, hb5⟩
  have HSQ : Hid ((w2.alloc (.cells #[.slice none 0 0] 88)).heap.size = w2.heap.size + 1) := Deep.nblk_alloc _ _
  have HBQ : Hid (Below w2.heap.size w2 (w2.alloc (.cells #[.slice none 0 0] 88))) := box_below _ _
  have HB5 : Hid (Below w2.heap.size w2 w5) := HBQ.out.trans (hb5.mono (by rw [HSQ.out]; omega))
  have HX5 : Hid (w5.heap[w2.heap.size + 1]? = some (.cells #[.slice ada (plI l).length capa] 88)) := by have h := hx5; rw [HSQ.out] at h; exact h
  have HBX5 : Hid (Boxed w5 w2.heap.size 88 (.slice none 0 0)) := (hb5.block _ (by rw [HSQ.out]; omega)).trans (Deep.blk_alloc_new _ _)
  rw [HSQ.out]
  clear hx5 hb5
  go_wp2_with fail
  -- the list of applications, for the iterator
  have hap5 : IntsOn w5 (BackK w2.heap.size ada) (plI l) (.slice ada (plI l).length capa) := by
    obtain ⟨ad', cap', e1, e2, e3, e4⟩ := HAP.out
    cases e1
    refine ⟨_, _, rfl, e2, e3, e4.imp id ?_⟩
    rintro ⟨b8, f8, rfl, -, h8, h9⟩
    have hb8 := h8.lt
    refine ⟨b8, 0, rfl, Or.inr ⟨Nat.lt_of_lt_of_le hb8 HB2.out.size, 0, rfl⟩, fun i hi => ?_⟩
    rw [Nat.zero_add]
    refine (World.cell?_of_block ((HB5.out.block b8 (Nat.lt_of_lt_of_le hb8 HB2.out.size)).trans (HB2.out.block b8 hb8))).trans ?_
    rw [h8.cell (by omega), h9 i hi]
  have HAP5 := mkHid hap5
  have hz5 : w2.heap.size + 1 < w5.heap.size := (Array.getElem?_eq_some_iff.1 HX5.out).1
  have HZ5 := mkHid hz5
  obtain ⟨iI, zI, hIE⟩ := infoI1
  have HIE := mkHid hIE
  have HLL : Hid (l.length ≤ 4) := HPT.out.2.2.2.2.1
  have HAPA : Hid (∀ x ∈ plI l, AppAt g x) := fun x hx => by
    simp only [plI, List.mem_map] at hx
    obtain ⟨a, hx, rfl⟩ := hx
    exact ⟨a, rfl, HOK.out.2.2.2.1 a hx⟩
  have HPL : Hid ((plI l).length ≤ 1048576) := by have := HLL.out; simp [Hid, plI]; omega
  clear hap5 hIE hz5
  refine (wpIn_wide (n := 5)).1 ?_
  refine' wpIn_rangeFunc_ownF (F := Fence.wide) (n := 5) rfl (by omega) (gf := 162) (lb := #[.pointer (some ⟨w2.heap.size + 1, 0, none⟩)]) rfl trivial (enters_of Tryz.func162 (by kernel_rfl) rfl)
    (backward_stops (5 - 1) (by omega) (w2.heap.size + 1) (BackK w2.heap.size ada) (AppAt g) (plI l) _ HPL.out HAPA.out w5 (Or.inl rfl) (fun k hk => by have := HZ5.out; rcases hk with rfl | hk; exact this; omega) HX5.out HAP5.out)
    (fun h h2 => KeepK.trans h h2) (backK_put _ _ HZ5.out) (Below.refl _ _) (fun _ => rfl)
    (ArgsI g w2 (.slice ada (plI l).length capa)) (fun _ _ _ => False) (argsI_own g w2 _ _ (by have := HZ5.out; omega)) (fun _ _ _ _ _ hs _ _ => hs)
    ⟨⟨⟨_, HBX5.out, World.ownsRow_nil _ _ _ _, trivial⟩, HX5.out⟩, HB5.out⟩
    _ _ _ _ _
  case' refine'_2 =>
    intro l9 x W9 K9 hK9
    gi_wp2
    exact hK9
  case' refine'_3 =>
    rintro l9 pre x9 W9 ⟨⟨⟨v9, hv9, hrow9, -⟩, hu9⟩, hB9⟩ hlt9
    have HU9 := mkHid hu9
    have HPN : Hid ((argsP g pre).length + 1 ≤ 1048576) := by show (argsP g pre).length + 1 ≤ _; have := HPL.out; unfold argsP; rw [List.length_map]; omega
    obtain ⟨a, hxa, hal9, ho4⟩ := x9.2
    rw [hxa]
    have HXA := mkHid hxa
    have HB9 := mkHid hB9
    have HV9 := mkHid hv9
    have HR9 := mkHid hrow9
    have HBW9 : Hid (Below w.heap.size w W9) := HBW2.out.trans (hB9.mono HBW2.out.size)
    have hk4 : g[a].kids.length = 2 := by
      have h1 := kids_count HG.out a hal9
      rw [opAt_at a hal9] at ho4
      rw [ho4] at h1
      have e : cArity 4 = 2 := by decide
      omega
    obtain ⟨hke, -⟩ := kidAt_get HG.out a hal9 1 (by omega)
    obtain ⟨b8, of8, r8, hea, -, -, g2W, -, -, hkk⟩ := HC.out.at a hal9
    cases hea
    rw [Nat.zero_add] at g2W
    obtain ⟨adk, capk, rfl, -, -, -⟩ := id hkk
    obtain ⟨bk, ok, rfl, d1W⟩ := hkk.at 1 (by omega)
    rw [hke] at d1W
    have g2 := (HBW9.out.cell (p := ⟨b5, a * 3 + 2, none⟩) (cell_lt g2W)).trans g2W
    have d1 := (HBW9.out.cell (p := ⟨bk, ok + 1, none⟩) (cell_lt d1W)).trans d1W
    have s0 := hv9.cell
    have s1 := cell_of_blk ((hB9.block w.heap.size (cellsOf_ltI HX2.out)).trans HX2.out) 0 _ rfl
    have s2 := cell_of_blk ((hB9.block R (cellsOf_ltI HW2.out.red)).trans HW2.out.red) 0 _ rfl
    have s3 := cell_of_blk ((hB9.block A (cellsOf_ltI HA2.out)).trans HA2.out) 0 _ rfl
    have haI : (a : Int) < (g.length : Int) := by omega
    have hkI : (1 : Int) < (g[a].kids.length : Int) := by omega
    have HB5L : Hid (b5 < w2.heap.size) := Nat.lt_of_lt_of_le (cell_lt g2W) HBW2.out.size
    have HBKL : Hid (bk < w2.heap.size) := Nat.lt_of_lt_of_le (cell_lt d1W) HBW2.out.size
    clear hB9 hv9 hrow9 hkk hk4 hke ho4 hxa hu9 g2W d1W
    obtain ⟨ad9, cap9, rfl⟩ := (show Stk W9 w2.heap.size (argsP g pre) v9 from HR9.out).len
    gi_wp2
    refine wpIn_region_held (S := fun w' => w'.cell? ⟨w.heap.size, 0, none⟩ = some (.pointer (some ⟨R, 0, none⟩)) ∧ w'.cell? ⟨R, 0, none⟩ = some (.pointer (some ⟨A, 0, none⟩)) ∧ w'.cell? ⟨A, 0, none⟩ = some (.slice (some ⟨b5, 0, none⟩) g.length cap) ∧ w'.cell? ⟨b5, a * 3 + 2, none⟩ = some (.slice (some ⟨bk, ok, none⟩) g[a].kids.length capk) ∧ w'.cell? ⟨bk, ok + 1, none⟩ = some (.int .i64 (kidAt g a 1 : Int))) (by kernel_rfl) (by kernel_rfl) (fun _ _ h => h) ⟨s1, s2, s3, g2, d1⟩ (fun hHeld => ?_)
    refine' wpAnyH_take (i := 1) (oi := { dst := some 63, op := _, type := _, pos := _, after := _, guard := none }) rfl (by kernel_rfl) (by kernel_rfl) (by kernel_rfl) (fun _ _ _ h => h) (Or.inl ⟨by rfl, ?y1⟩) hHeld ?r1
    case y1 => (intro wS hSw; (try dsimp only at hSw); go_simp; try rfl)
    try simp only [Act.put, List.setIfInBounds_toArray, List.set_cons_zero, List.set_cons_succ]
    refine' wpAnyH_take (i := 2) (oi := { dst := some 64, op := _, type := _, pos := _, after := _, guard := none }) rfl (by kernel_rfl) (by kernel_rfl) (by kernel_rfl) (fun _ _ _ h => h) (Or.inl ⟨by rfl, ?y2⟩) hHeld ?r2
    case y2 => (intro wS hSw; (try dsimp only at hSw); go_simp; try rfl)
    try simp only [Act.put, List.setIfInBounds_toArray, List.set_cons_zero, List.set_cons_succ]
    refine' wpAnyH_take (i := 3) (oi := { dst := some 65, op := _, type := _, pos := _, after := _, guard := none }) rfl (by kernel_rfl) (by kernel_rfl) (by kernel_rfl) (fun _ _ _ h => h) (Or.inl ⟨by rfl, ?y3⟩) hHeld ?r3
    case y3 => (intro wS hSw; (try dsimp only at hSw); go_simp; try rfl)
    try simp only [Act.put, List.setIfInBounds_toArray, List.set_cons_zero, List.set_cons_succ]
    refine' wpAnyH_take (i := 4) (oi := { dst := some 66, op := _, type := _, pos := _, after := _, guard := none }) rfl (by kernel_rfl) (by kernel_rfl) (by kernel_rfl) (fun _ _ _ h => h) (Or.inl ⟨by rfl, ?y4⟩) hHeld ?r4
    case y4 => (intro wS hSw; (try dsimp only at hSw); go_simp; try rfl)
    try simp only [Act.put, List.setIfInBounds_toArray, List.set_cons_zero, List.set_cons_succ]
    refine' wpAnyH_take (i := 5) (oi := { dst := some 67, op := _, type := _, pos := _, after := _, guard := none }) rfl (by kernel_rfl) (by kernel_rfl) (by kernel_rfl) (fun _ _ _ h => h) (Or.inl ⟨by rfl, ?y5⟩) hHeld ?r5
    case y5 => (intro wS hSw; (try dsimp only at hSw); go_simp; try rfl)
    try simp only [Act.put, List.setIfInBounds_toArray, List.set_cons_zero, List.set_cons_succ]
    refine' wpAnyH_take (i := 6) (oi := { dst := some 68, op := _, type := _, pos := _, after := _, guard := none }) rfl (by kernel_rfl) (by kernel_rfl) (by kernel_rfl) (fun _ _ _ h => h) (Or.inl ⟨by rfl, ?y6⟩) hHeld ?r6
    case y6 => (intro wS hSw; (try dsimp only at hSw); go_simp; try rfl)
    try simp only [Act.put, List.setIfInBounds_toArray, List.set_cons_zero, List.set_cons_succ]
    refine' wpAnyH_take (i := 7) (oi := { dst := some 69, op := _, type := _, pos := _, after := _, guard := none }) rfl (by kernel_rfl) (by kernel_rfl) (by kernel_rfl) (fun _ _ _ h => h) (Or.inl ⟨by rfl, ?y7⟩) hHeld ?r7
    case y7 => (intro wS hSw; (try dsimp only at hSw); go_simp; try rfl)
    try simp only [Act.put, List.setIfInBounds_toArray, List.set_cons_zero, List.set_cons_succ]
    refine' wpAnyH_take (i := 8) (oi := { dst := some 70, op := _, type := _, pos := _, after := _, guard := none }) rfl (by kernel_rfl) (by kernel_rfl) (by kernel_rfl) (fun _ _ _ h => h) (Or.inl ⟨by rfl, ?y8⟩) hHeld ?r8
    case y8 => (intro wS hSw; (try dsimp only at hSw); go_simp; try rfl)
    try simp only [Act.put, List.setIfInBounds_toArray, List.set_cons_zero, List.set_cons_succ]
    refine' wpAnyH_take (i := 9) (oi := { dst := some 71, op := _, type := _, pos := _, after := _, guard := none }) rfl (by kernel_rfl) (by kernel_rfl) (by kernel_rfl) (fun _ _ _ h => h) (Or.inl ⟨by rfl, ?y9⟩) hHeld ?r9
    case y9 => (intro wS hSw; (try dsimp only at hSw); go_simp; try rfl)
    try simp only [Act.put, List.setIfInBounds_toArray, List.set_cons_zero, List.set_cons_succ]
    refine' wpAnyH_take (i := 10) (oi := { dst := some 72, op := _, type := _, pos := _, after := _, guard := none }) rfl (by kernel_rfl) (by kernel_rfl) (by kernel_rfl) (fun _ _ _ h => h) (Or.inl ⟨by rfl, ?y10⟩) hHeld ?r10
    case y10 => (intro wS hSw; (try dsimp only at hSw); go_simp; try rfl)
    try simp only [Act.put, List.setIfInBounds_toArray, List.set_cons_zero, List.set_cons_succ]
    refine' wpAnyH_take (i := 11) (oi := { dst := some 73, op := _, type := _, pos := _, after := _, guard := none }) rfl (by kernel_rfl) (by kernel_rfl) (by kernel_rfl) (fun _ _ _ h => h) (Or.inl ⟨by rfl, ?y11⟩) hHeld ?r11
    case y11 => (intro wS hSw; (try dsimp only at hSw); go_simp; try rfl)
    try simp only [Act.put, List.setIfInBounds_toArray, List.set_cons_zero, List.set_cons_succ]
    refine' wpAnyH_take (i := 12) (oi := { dst := some 74, op := _, type := _, pos := _, after := _, guard := none }) rfl (by kernel_rfl) (by kernel_rfl) (by kernel_rfl) (fun _ _ _ h => h) (Or.inl ⟨by rfl, ?y12⟩) hHeld ?r12
    case y12 => (intro wS hSw; (try dsimp only at hSw); go_simp; try rfl)
    try simp only [Act.put, List.setIfInBounds_toArray, List.set_cons_zero, List.set_cons_succ]
    refine' wpAnyH_take (i := 13) (oi := { dst := some 75, op := _, type := _, pos := _, after := _, guard := none }) rfl (by kernel_rfl) (by kernel_rfl) (by kernel_rfl) (fun _ _ _ h => h) (Or.inl ⟨by rfl, ?y13⟩) hHeld ?r13
    case y13 => (intro wS hSw; (try dsimp only at hSw); go_simp; try rfl)
    try simp only [Act.put, List.setIfInBounds_toArray, List.set_cons_zero, List.set_cons_succ]
    refine wpAnyH_ready (rs := [0, 14]) (by kernel_rfl) (by simp) ?_
    refine AllReadyH.cons (o := { dst := some 62, op := _, type := _, pos := _, after := _, guard := none }) rfl (fun K0 hK0 => ?_) (AllReadyH.cons (o := { dst := some 76, op := _, type := _, pos := _, after := _, guard := none }) rfl (fun K14 hK14 => ?_) AllReadyH.nil)
    · go_simp
      refine hK0.out _ _ ⟨s1, s2, s3, g2, d1⟩ (fun hHeld0 => ?_)
      try simp only [Act.put, List.setIfInBounds_toArray, List.set_cons_zero, List.set_cons_succ]
      refine wpAnyH_ready (rs := [14]) (by kernel_rfl) (by simp) ?_
      refine AllReadyH.cons (o := { dst := some 76, op := _, type := _, pos := _, after := _, guard := none }) rfl (fun K14 hK14 => ?_) AllReadyH.nil
      go_simp
      refine hK14.out _ _ ⟨old_cell s1 _, old_cell s2 _, old_cell s3 _, old_cell g2 _, old_cell d1 _⟩ (fun hHeld14 => ?_)
      try simp only [Act.put, List.setIfInBounds_toArray, List.set_cons_zero, List.set_cons_succ]
      refine wpAnyH_ready (rs := [15]) (by kernel_rfl) (by simp) ?_
      refine AllReadyH.cons (o := { dst := some 77, op := _, type := _, pos := _, after := _, guard := none }) rfl (fun K15 hK15 => ?_) AllReadyH.nil
      refine step_push rfl (.tmp 62) (.tmp 76) rfl w2.heap.size (argsP g pre) [kidAt g a 1] (.slice ad9 (argsP g pre).length cap9) (.slice (some ⟨W9.heap.size, 0, none⟩) 1 1) (by rfl) (((show Stk W9 w2.heap.size (argsP g pre) (.slice ad9 (argsP g pre).length cap9) from HR9.out).alloc _).keep (fun _ _ _ => rfl)) (by rfl) (one_in W9 (kidAt g a 1)).drew (by rfl) (by show w2.heap.size ≤ (W9.alloc _).heap.size; rw [Deep.nblk_alloc]; have := HB9.out.size; omega) (by have := HPN.out; simp only [List.length_cons, List.length_nil]; omega) ?_
      intro v10 w10 hst10 hg10
      have hpush := args_push (x := x9) HV9.out HR9.out HU9.out HB9.out HXA.out hst10 hg10
      obtain ⟨ad10, cap10, rfl⟩ := stk_form hst10 rfl
      have HPU := mkHid hpush
      have t0 := hpush.1.cell
      have t0f := hpush.1.frozen
      have t1 := (World.cell?_of_block (hpush.2.1 w.heap.size (cellsOf_ltI HX2.out))).trans s1
      have t2 := (World.cell?_of_block (hpush.2.1 R (cellsOf_ltI HW2.out.red))).trans s2
      have t3 := (World.cell?_of_block (hpush.2.1 A (cellsOf_ltI HA2.out))).trans s3
      have t4 := (World.cell?_of_block (hpush.2.1 b5 HB5L.out)).trans g2
      have t5 := (World.cell?_of_block (hpush.2.1 bk HBKL.out)).trans d1
      clear hpush hst10 hg10
      refine hK15.out _ _ ⟨t1, t2, t3, t4, t5⟩ (fun hHeld15 => ?_)
      try simp only [Act.put, List.setIfInBounds_toArray, List.set_cons_zero, List.set_cons_succ]
      refine wpAnyH_ready (rs := [16]) (by kernel_rfl) (by simp) ?_
      refine AllReadyH.cons (o := { dst := none, op := _, type := _, pos := _, after := _, guard := none }) rfl (fun K16 hK16 => ?_) AllReadyH.nil
      go_simp
      refine hK16.out _ _ ⟨(World.cell?_setCell_far _ _ _ _ (by show w2.heap.size ≠ w.heap.size; have := cellsOf_ltI HX2.out; omega)).trans t1, (World.cell?_setCell_far _ _ _ _ (by show w2.heap.size ≠ R; have := cellsOf_ltI HW2.out.red; omega)).trans t2, (World.cell?_setCell_far _ _ _ _ (by show w2.heap.size ≠ A; have := cellsOf_ltI HA2.out; omega)).trans t3, (World.cell?_setCell_far _ _ _ _ (by show w2.heap.size ≠ b5; have := HB5L.out; omega)).trans t4, (World.cell?_setCell_far _ _ _ _ (by show w2.heap.size ≠ bk; have := HBKL.out; omega)).trans t5⟩ (fun hHeld16 => ?_)
      refine wpAnyH_done (by kernel_rfl) ?_ _
      exact ⟨HPU.out.2.2.1, HPU.out.2.2.2.1 _, HPU.out.2.2.2.2⟩
    · go_simp
      refine hK14.out _ _ ⟨old_cell s1 _, old_cell s2 _, old_cell s3 _, old_cell g2 _, old_cell d1 _⟩ (fun hHeld14 => ?_)
      try simp only [Act.put, List.setIfInBounds_toArray, List.set_cons_zero, List.set_cons_succ]
      have s0' := old_cell s0 (.cells #[.int .i64 (kidAt g a 1 : Int)] 3)
      refine wpAnyH_ready (rs := [0]) (by kernel_rfl) (by simp) ?_
      refine AllReadyH.cons (o := { dst := some 62, op := _, type := _, pos := _, after := _, guard := none }) rfl (fun K0 hK0 => ?_) AllReadyH.nil
      go_simp
      refine hK0.out _ _ ⟨old_cell s1 _, old_cell s2 _, old_cell s3 _, old_cell g2 _, old_cell d1 _⟩ (fun hHeld0 => ?_)
      try simp only [Act.put, List.setIfInBounds_toArray, List.set_cons_zero, List.set_cons_succ]
      refine wpAnyH_ready (rs := [15]) (by kernel_rfl) (by simp) ?_
      refine AllReadyH.cons (o := { dst := some 77, op := _, type := _, pos := _, after := _, guard := none }) rfl (fun K15 hK15 => ?_) AllReadyH.nil
      refine step_push rfl (.tmp 62) (.tmp 76) rfl w2.heap.size (argsP g pre) [kidAt g a 1] (.slice ad9 (argsP g pre).length cap9) (.slice (some ⟨W9.heap.size, 0, none⟩) 1 1) (by rfl) (((show Stk W9 w2.heap.size (argsP g pre) (.slice ad9 (argsP g pre).length cap9) from HR9.out).alloc _).keep (fun _ _ _ => rfl)) (by rfl) (one_in W9 (kidAt g a 1)).drew (by rfl) (by show w2.heap.size ≤ (W9.alloc _).heap.size; rw [Deep.nblk_alloc]; have := HB9.out.size; omega) (by have := HPN.out; simp only [List.length_cons, List.length_nil]; omega) ?_
      intro v10 w10 hst10 hg10
      have hpush := args_push (x := x9) HV9.out HR9.out HU9.out HB9.out HXA.out hst10 hg10
      obtain ⟨ad10, cap10, rfl⟩ := stk_form hst10 rfl
      have HPU := mkHid hpush
      have t0 := hpush.1.cell
      have t0f := hpush.1.frozen
      have t1 := (World.cell?_of_block (hpush.2.1 w.heap.size (cellsOf_ltI HX2.out))).trans s1
      have t2 := (World.cell?_of_block (hpush.2.1 R (cellsOf_ltI HW2.out.red))).trans s2
      have t3 := (World.cell?_of_block (hpush.2.1 A (cellsOf_ltI HA2.out))).trans s3
      have t4 := (World.cell?_of_block (hpush.2.1 b5 HB5L.out)).trans g2
      have t5 := (World.cell?_of_block (hpush.2.1 bk HBKL.out)).trans d1
      clear hpush hst10 hg10
      refine hK15.out _ _ ⟨t1, t2, t3, t4, t5⟩ (fun hHeld15 => ?_)
      try simp only [Act.put, List.setIfInBounds_toArray, List.set_cons_zero, List.set_cons_succ]
      refine wpAnyH_ready (rs := [16]) (by kernel_rfl) (by simp) ?_
      refine AllReadyH.cons (o := { dst := none, op := _, type := _, pos := _, after := _, guard := none }) rfl (fun K16 hK16 => ?_) AllReadyH.nil
      go_simp
      refine hK16.out _ _ ⟨(World.cell?_setCell_far _ _ _ _ (by show w2.heap.size ≠ w.heap.size; have := cellsOf_ltI HX2.out; omega)).trans t1, (World.cell?_setCell_far _ _ _ _ (by show w2.heap.size ≠ R; have := cellsOf_ltI HW2.out.red; omega)).trans t2, (World.cell?_setCell_far _ _ _ _ (by show w2.heap.size ≠ A; have := cellsOf_ltI HA2.out; omega)).trans t3, (World.cell?_setCell_far _ _ _ _ (by show w2.heap.size ≠ b5; have := HB5L.out; omega)).trans t4, (World.cell?_setCell_far _ _ _ _ (by show w2.heap.size ≠ bk; have := HBKL.out; omega)).trans t5⟩ (fun hHeld16 => ?_)
      refine wpAnyH_done (by kernel_rfl) ?_ _
      exact ⟨HPU.out.2.2.1, HPU.out.2.2.2.1 _, HPU.out.2.2.2.2⟩
  case' refine'_5 =>
    rintro D c9 pre W9 _ _ h9 _
    exact h9.elim
  rintro D ys W hD hys ⟨⟨⟨v9, hv9, hrow9, -⟩, hu9⟩, hB9⟩ hK9
  rw [argsP_all hys] at hrow9
  have hst9 : Stk W w2.heap.size (argsL g l) v9 := hrow9
  have HST9 := mkHid hst9
  have HV9 := mkHid hv9
  have HB9 := mkHid hB9
  have HK9 := mkHid hK9
  have HDD := mkHid hD
  have s0 := hv9.cell
  have s1 := cell_of_blk ((hB9.block w.heap.size (cellsOf_ltI HX2.out)).trans HX2.out) 0 _ rfl
  have s2 := cell_of_blk ((hB9.block R (cellsOf_ltI HW2.out.red)).trans HW2.out.red) 0 _ rfl
  have hxd := (hB9.block w1.heap.size (cellsOf_ltI HXD2.out)).trans HXD2.out
  have s3 := cell_of_blk hxd 0 _ rfl
  have s4 := cell_of_blk hxd 1 _ rfl
  have s5 := cell_of_blk hxd 2 _ rfl
  obtain ⟨ad9, cap9, rfl⟩ := hst9.len
  clear hst9 hrow9 hv9 hu9 hB9 hK9 hD hxd
  have HLO9 : Hid (lo ≤ W.heap.size) := Nat.le_trans HLO.out (Nat.le_trans HBW2.out.size HB9.out.size)
  have HBW9 : Hid (Below w.heap.size w W) := HBW2.out.trans (HB9.out.mono HBW2.out.size)
  have HW9 := mkHid (HW.out.next HBW9.out)
  have hA9 := (HBW9.out.block A (cellsOf_ltI HAA.out)).trans HAA.out
  have HA9 := mkHid hA9
  have hO9 := HW9.out.ownAt hA9
  have hb59 : b5 < W.heap.size ∧ b5 < w2.heap.size := ⟨Nat.lt_of_lt_of_le HZ50.out HBW9.out.size, Nat.lt_of_lt_of_le HZ50.out HBW2.out.size⟩
  have hT : Free (fun b => b < lo ∨ some b = (Value.slice ad9 (argsL g l).length cap9).ownBlock) W A (.slice (some ⟨b5, 0, none⟩) g.length cap) := by
    intro b hb
    have hA3 := cellsOf_ltI HAA.out
    have hA4 := HBW2.out.size
    have hloA := HW.out.loA
    have hlo5 := HL5.out
    have hsz := HBW9.out.size
    rcases hb with hb | hb
    · exact ⟨by omega, by simp only [Value.ownBlock, ne_eq, Option.some.injEq]; omega, by omega⟩
    · have h1 := own_some HST9.out b hb.symm
      exact ⟨h1.2, by simp only [Value.ownBlock, ne_eq, Option.some.injEq]; omega, by omega⟩
  have hkb : KidsOn W (fun b => b < lo ∨ some b = (Value.slice ad9 (argsL g l).length cap9).ownBlock) ds[n].2.kids (.slice adb ds[n].2.kids.length capb) := HKB.out.mono (fun k hk => Or.inl hk.1) (fun k hk => (HB9.out.block k (Nat.lt_of_lt_of_le hk.2.1 HB2.out.size)).trans (HB2.out.block k hk.2.1))
  have hax := ax_callsT (argsL g l) ds[n].2 (.slice (some ⟨b5, 0, none⟩) g.length cap) (.slice adb ds[n].2.kids.length capb) ad9 (argsL g l).length cap9 lo A (fun b => lo ≤ b) (fun b => b < lo ∨ some b = (Value.slice ad9 (argsL g l).length cap9).ownBlock) g W.drew
    (hO9.next (fun _ h _ => h) (fun _ _ _ => rfl) (fun _ _ _ => rfl)) hA9 (Nat.le_trans HLO.out HBW9.out.size) hT ((stk_on HST9.out).mono (fun k hk => Or.inr hk) (fun _ _ => rfl)) (hkb.mono (fun _ h => h) (fun _ _ => rfl)) (by have := HZB.out; omega) (by rw [HPT.out.2.1]; have := HLL.out; omega) HII.out.1 HII.out.2 (varOk_of_sh _ _ _ _ HPT.out.2.2.1)
  have HAX := mkHid hax
  obtain ⟨rk, hrk⟩ : ∃ rk, rk = (addT (argsL g l) ds[n].2 g).2 := ⟨_, rfl⟩
  have HRK := mkHid hrk
  have HG1 : Hid ((addT (argsL g l) ds[n].2 g).1.length ≤ 1048576 ∧ at' < (addT (argsL g l) ds[n].2 g).1.length) := by
    have h1 := (addT_size (argsL g l) ds[n].2 g).1
    have h2 := (addT_size (argsL g l) ds[n].2 g).2.1
    have := HZB.out
    exact ⟨by omega, by omega⟩
  have HD9 : Hid (D < W.heap.size ∧ w2.heap.size ≤ D) := ⟨(Array.getElem?_eq_some_iff.1 HK9.out).1, by have := HDD.out; have := HB5.out.size; omega⟩
  have HNE : Hid (w.heap.size ≠ b5 ∧ w.heap.size ≠ A ∧ R ≠ b5 ∧ w1.heap.size ≠ b5 ∧ w1.heap.size ≠ A ∧ w2.heap.size ≠ b5 ∧ w2.heap.size ≠ A ∧ D ≠ b5 ∧ D ≠ A ∧ R ≠ A) := by
    have h1 := HZ50.out
    have h2 := cellsOf_ltI HAA.out
    have h3 := HB1.out.size
    have h4 := HB2.out.size
    have h5 := HD9.out.2
    refine ⟨by omega, by omega, HR5.out, by omega, by omega, by omega, by omega, by omega, by omega, ?_⟩
    rintro rfl
    have h6 := HRR.out
    rw [HAA.out] at h6
    simp at h6
  have HLT : Hid (w.heap.size < W.heap.size ∧ R < W.heap.size ∧ w1.heap.size < W.heap.size ∧ w2.heap.size < W.heap.size) := ⟨by have := cellsOf_ltI HX2.out; have := HB9.out.size; omega, by have := cellsOf_ltI HRR.out; have := HBW9.out.size; omega, by have := cellsOf_ltI HXD2.out; have := HB9.out.size; omega, HV9.out.lt⟩
  clear hax hrk hkb hT hb59 hO9 hA9
  go_wp2_with fail
  go_region_held3 (fun w' => w'.cell? ⟨w2.heap.size, 0, none⟩ = some (.slice ad9 (argsL g l).length cap9) ∧ w'.cell? ⟨w.heap.size, 0, none⟩ = some (.pointer (some ⟨R, 0, none⟩)) ∧ w'.cell? ⟨R, 0, none⟩ = some (.pointer (some ⟨A, 0, none⟩)) ∧ w'.cell? ⟨w1.heap.size, 0, none⟩ = some (.int .i64 ds[n].2.op) ∧ w'.cell? ⟨w1.heap.size, 1, none⟩ = some (.int .i64 ds[n].2.num) ∧ w'.cell? ⟨w1.heap.size, 2, none⟩ = some (.slice adb ds[n].2.kids.length capb))
    (first
      | go_keep
      | exact ⟨n0, n1, n2, n3, n4, n5⟩
      | exact ⟨m0, m1, m2, m3, m4, m5⟩
      | exact ⟨s0, s1, s2, s3, s4, s5⟩)
    (first
      | (go_at_call 117; refine HAX.out.mono ?_; rintro e w6 hr6; have hr6' := hr6; obtain ⟨gv6, rfl, hg6, hA6, hk6, how6⟩ := hr6; have hbk : ∀ k, k < W.heap.size → k ≠ b5 → k ≠ A → w6.heap[k]? = W.heap[k]? := fun k h1 h2 h3 => hk6.block k h1 (by simp only [Value.ownBlock, ne_eq, Option.some.injEq]; omega) h3; have HBK := mkHid hbk; have m0 := (World.cell?_of_block (HBK.out w2.heap.size HLT.out.2.2.2 HNE.out.2.2.2.2.2.1 HNE.out.2.2.2.2.2.2.1)).trans s0; have m1 := (World.cell?_of_block (HBK.out w.heap.size HLT.out.1 HNE.out.1 HNE.out.2.1)).trans s1; have m2 := (World.cell?_of_block (HBK.out R HLT.out.2.1 HNE.out.2.2.1 HNE.out.2.2.2.2.2.2.2.2.2)).trans s2; have m3 := (World.cell?_of_block (HBK.out w1.heap.size HLT.out.2.2.1 HNE.out.2.2.2.1 HNE.out.2.2.2.2.1)).trans s3; have m4 := (World.cell?_of_block (HBK.out w1.heap.size HLT.out.2.2.1 HNE.out.2.2.2.1 HNE.out.2.2.2.2.1)).trans s4; have m5 := (World.cell?_of_block (HBK.out w1.heap.size HLT.out.2.2.1 HNE.out.2.2.2.1 HNE.out.2.2.2.2.1)).trans s5; have HR6 := mkHid hr6'; have HA6 := mkHid hA6; have HOW6 := mkHid how6; have HK6 := mkHid hk6; have HG6 := mkHid hg6; rw [← HRK.out]; clear hr6' hg6 hA6 hk6 how6 hbk)
      | (go_at_call 122; refine (redirectX_calls R A lo at' rk _ fu st (addT (argsL g l) ds[n].2 g).1 w6 (redW_fold HW9.out HG6.out HA6.out HK6.out HLO9.out (HBK.out R HLT.out.2.1 HNE.out.2.2.1 HNE.out.2.2.2.2.2.2.2.2.2)) (Nat.le_trans HLO9.out HK6.out.size) HG1.out.2 HG1.out.1).mono ?_; rintro e w7 ⟨rfl, hw7, hb7, hn7⟩; have HW7 := mkHid hw7; have HB7 := mkHid hb7; have HA7 : Hid (w7.heap[A]? = w6.heap[A]?) := hn7 A (cellsOf_ltI HA6.out) (notRow_fold HA6.out HOW6.out HW9.out.ltA HA5N.out); have HN7 : Hid (∀ k, k < W.heap.size → k ≠ b5 → k ≠ A → w7.heap[k]? = W.heap[k]?) := (fun k h1 h2 h3 => (hn7 k (Nat.lt_of_lt_of_le h1 HK6.out.size) (notRow_fold HA6.out HOW6.out h1 h2)).trans (HBK.out k h1 h2 h3)); have n0 := (World.cell?_of_block (HN7.out w2.heap.size HLT.out.2.2.2 HNE.out.2.2.2.2.2.1 HNE.out.2.2.2.2.2.2.1)).trans s0; have n1 := (World.cell?_of_block (HN7.out w.heap.size HLT.out.1 HNE.out.1 HNE.out.2.1)).trans s1; have n2 := (World.cell?_of_block (HN7.out R HLT.out.2.1 HNE.out.2.2.1 HNE.out.2.2.2.2.2.2.2.2.2)).trans s2; have n3 := (World.cell?_of_block (HN7.out w1.heap.size HLT.out.2.2.1 HNE.out.2.2.2.1 HNE.out.2.2.2.2.1)).trans s3; have n4 := (World.cell?_of_block (HN7.out w1.heap.size HLT.out.2.2.1 HNE.out.2.2.2.1 HNE.out.2.2.2.2.1)).trans s4; have n5 := (World.cell?_of_block (HN7.out w1.heap.size HLT.out.2.2.1 HNE.out.2.2.2.1 HNE.out.2.2.2.2.1)).trans s5; clear hw7 hb7 hn7))
  go_wp2_with fail
  have hD7 := (HN7.out D HD9.out.1 HNE.out.2.2.2.2.2.2.2.1 HNE.out.2.2.2.2.2.2.2.2.1).trans HK9.out
  refine ⟨by simp, .inl ⟨_, _, rfl, run_takeDeferred hD7, ?_⟩⟩
  refine ⟨_, results_tmp rfl _ _ _, by rw [HV.out]; rfl, ?_, ?_, ?_⟩
  · rw [HV.out, ← HRK.out]
    exact HW7.out.putObj hD7
  · exact below_putObj (((HBW9.out.mono HLO.out).trans (kept_below HK6.out HLO9.out HL5.out HW.out.loA)).trans HB7.out) (Nat.le_trans (Nat.le_trans HLO.out HBW2.out.size) HD9.out.2)
  · refine ⟨by rw [World.putObj_size]; exact Nat.le_trans HBW9.out.size (Nat.le_trans HK6.out.size HB7.out.size), fun j hj hn ha _ => ?_⟩
    have hj5 : j ≠ b5 := by rintro rfl; exact hn _ _ _ HAA.out
    have hjW : j < W.heap.size := Nat.lt_of_lt_of_le hj HBW9.out.size
    have hjD : j ≠ D := by have h1 := HBW2.out.size; have h2 := HD9.out.2; omega
    have hAD : A ≠ D := HNE.out.2.2.2.2.2.2.2.2.1.symm
    refine ⟨(World.putObj_heap_other hjD).trans ((HN7.out j hjW hj5 ha).trans (HBW9.out.block j hj)), fun o n cap e => ?_⟩
    rw [World.putObj_heap_other hAD] at e
    exact notRow_fold (HA7.out.trans HA6.out) HOW6.out hjW hj5 o n cap e
end Go.Proofs.YtiipcgnkfhjpeaaGreatDoor
