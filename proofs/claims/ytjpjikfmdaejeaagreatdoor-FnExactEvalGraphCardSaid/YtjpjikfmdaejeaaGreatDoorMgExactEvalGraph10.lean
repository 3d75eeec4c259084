/-
  WHAT THE PROGRAM's call DOES.
-/
import Derived.Test.YtjpjikfmdaejeaaGreatDoorMgExactEvalGraph8
import Derived.Test.YtjpjikfmdaejeaaGreatDoorMgExactEvalGraph9
import Derived.Test.YtjpjikfmdaejeaaGreatDoorMgExactEvalGraph7
import Derived.Test.YtjpjikfmdaejeaaGreatDoorMgExactEvalGraph4
import Derived.Test.YtjpjikfmdaejeaaGreatDoorMgExactEvalGraph5
namespace Go.Proofs.YtjpjikfmdaejeaaGreatDoor
set_option linter.unusedVariables false
set_option linter.unusedSimpArgs false
open Go.RowKit

attribute [local go_sem] Oper.semAt_some
/-- function i of a program, opened, its blocks in S -/
theorem DefsOn.atG {w : World} {S : Nat → Prop} {ds : List Df} {ad : Option Addr} {n cap : Nat} (h : DefsOn w S ds (.slice ad n cap)) (i : Nat) (hi : i < ds.length) :
    ∃ bl off c, ad = some ⟨bl, off, none⟩ ∧ S bl ∧ w.cell? ⟨bl, off + i * 4 + 1, none⟩ = some (.int .i64 ds[i].2.op) ∧ w.cell? ⟨bl, off + i * 4 + 2, none⟩ = some (.int .i64 ds[i].2.num) ∧ w.cell? ⟨bl, off + i * 4 + 3, none⟩ = some c ∧ I64 ds[i].2.op ∧ I64 ds[i].2.num ∧ KidsOn w S ds[i].2.kids c := by
  obtain ⟨ad', cap', he, -, -, hr⟩ := h
  cases he
  rcases hr with rfl | ⟨bl, off, rfl, hs, r⟩
  · simp at hi
  obtain ⟨a, b, c, e, h1, h2, h3, h4, rfl, g2, g3⟩ := r i hi
  obtain ⟨rfl, rfl, g5, g6, g7⟩ := trOn_iff.1 g3
  exact ⟨bl, off, e, rfl, hs, h2, h3, h4, g5, g6, g7⟩

/-- the arguments that have come -/
def AppAt (g : List Ce) (x : Int) : Prop := ∃ a : Nat, x = (a : Int) ∧ a < g.length ∧ opAt g a = 4
def argsP (g : List Ce) (pre : List (Bk (AppAt g))) : List Nat := pre.map fun x => kidAt g x.1.2.toNat 1
/-- what holds between two rounds: the arguments lie in the box; nothing else has changed -/
def ArgsI (g : List Ce) (w2 : World) (u : Value) (pre : List (Bk (AppAt g))) (W : World) : Prop := ((∃ v, Boxed W w2.heap.size 47 v ∧ W.ownsRow w2.heap.size 3 1 v (argsP g pre).length (plV (argsP g pre)) ∧ True) ∧ Boxed W (w2.heap.size + 1) 47 u) ∧ Below w2.heap.size w2 W
theorem boxed_own1 {β : Type} (B : Nat) (t : TypeId) (v : Value) : Own (fun (_ : β) W => Boxed W B t v) := by
  intro s X Y row hv hg hrow
  refine hv.kept hg fun e => ?_
  obtain ⟨o, ho, hc⟩ := hrow B e.symm
  rw [show X.heap[B]? = _ from hv] at ho; cases ho; cases hc
theorem argsI_own (g : List Ce) (w2 : World) (u : Value) (B : Nat) (hB : w2.heap.size ≤ B) : OwnFrom B (ArgsI g w2 u) :=
  OwnFrom.and (OwnFrom.and (Own.from (holdsRow_own w2.heap.size w2.heap.size 47 3 1 (fun pre : List (Bk (AppAt g)) => (argsP g pre).length) (fun pre => plV (argsP g pre)) (fun _ _ => True)) _) (Own.from (boxed_own1 _ _ _) _)) (ownFrom_below (Nat.le_refl _) hB)
theorem argsP_snoc (g : List Ce) (pre : List (Bk (AppAt g))) (x : Bk (AppAt g)) {a : Nat} (hx : x.1.2 = (a : Int)) : argsP g (pre ++ [x]) = argsP g pre ++ [kidAt g a 1] := by
  unfold argsP; rw [List.map_append]; simp [hx]
/-- the blocks that the iterator reads -/
def BackK (B : Nat) (ad : Option Addr) (k : Nat) : Prop := k = B + 1 ∨ (k < B ∧ ∃ o, ad = some ⟨k, o, none⟩)
theorem backK_put (B : Nat) (ad : Option Addr) {w : World} (hw : B + 1 < w.heap.size) (W : World) (lw : Nat) (o o' : Obj) (hlw : w.heap.size ≤ lw) (_ : W.heap[lw]? = some o) (_ : o.isCells = false) (_ : o.isWalk = false) : KeepK (BackK B ad) W (W.putObj lw o') :=
  fun k hk => World.putObj_heap_other (by rcases hk with rfl | hk <;> omega)

/-- an argument more: behind the append -/
theorem args_push {g : List Ce} {w2 : World} {u : Value} {pre : List (Bk (AppAt g))} {x : Bk (AppAt g)} {W w' : World} {a : Nat} {v v' : Value} {o : Obj} (hv : Boxed W w2.heap.size 47 v) (hr : W.ownsRow w2.heap.size 3 1 v (argsP g pre).length (plV (argsP g pre))) (hu : Boxed W (w2.heap.size + 1) 47 u) (hB : Below w2.heap.size w2 W) (hx : x.1.2 = (a : Int))
    (hst : Stk w' w2.heap.size (argsP g pre ++ [kidAt g a 1]) v') (hg : (W.alloc o).drew.grownBy w' v.ownBlock) :
    Boxed w' w2.heap.size 47 v ∧ (∀ b, b < w2.heap.size → w'.heap[b]? = W.heap[b]?) ∧ KeepsOthers W (w'.setCell ⟨w2.heap.size, 0, none⟩ v') ∧ (∀ ad, KeepK (BackK w2.heap.size ad) W (w'.setCell ⟨w2.heap.size, 0, none⟩ v')) ∧ ArgsI g w2 u (pre ++ [x]) (w'.setCell ⟨w2.heap.size, 0, none⟩ v') := by
  have hg2 : (W.alloc o).grownBy w' v.ownBlock := ⟨hg.os, hg.tape, hg.output, hg.size, hg.block⟩
  have hbs := hB.size
  obtain ⟨c1, c2, c3, c4, c5⟩ := Boxed.appended hv (by decide) hr hbs (Nat.le_refl _) hst hg2
  have hlo : ∀ b, b < w2.heap.size → w'.heap[b]? = W.heap[b]? := fun b hb => (hg2.block b (by rw [Deep.nblk_alloc]; omega) (fun e => by have := own_lo hr e; omega)).trans (Deep.blk_alloc_lt _ _ _ (by omega))
  have hub : w'.heap[w2.heap.size + 1]? = W.heap[w2.heap.size + 1]? := (hg2.block _ (by rw [Deep.nblk_alloc]; have := hu.lt; omega) (hu.not_row (by decide) hr)).trans (Deep.blk_alloc_lt _ _ _ hu.lt)
  refine ⟨c1, hlo, c4, fun ad k hk => ?_, ⟨⟨⟨v', c2, ?_, trivial⟩, ?_⟩, hB.trans c5⟩⟩
  · rcases hk with rfl | ⟨hk, -⟩
    · exact (Below.heap_setCell _ _ _ _ (by simp)).trans hub
    · exact (Below.heap_setCell _ _ _ _ (by show k ≠ w2.heap.size; omega)).trans (hlo k hk)
  · rw [argsP_snoc g pre x hx]
    exact c3
  · exact ((Below.heap_setCell _ _ _ _ (by simp)).trans hub).trans hu

theorem argsP_all {g : List Ce} {l : List Nat} {ys : List (Bk (AppAt g))} (h : ys.map (·.1) = dnL (plI l) (plI l).length) : argsP g ys = argsL g l := by
  have e : argsP g ys = (ys.map (·.1)).map fun y => kidAt g y.2.toNat 1 := by unfold argsP; rw [List.map_map]; rfl
  rw [e, h, dnL_map (plI l) (fun z => kidAt g z.toNat 1)]
  unfold argsL plI
  rw [List.map_map]
  rfl
/-- a list that a call has built, in its own block -/
theorem stk_on {w : World} {lo : Nat} {ws : List Nat} {v : Value} (h : Stk w lo ws v) : IntsOn w (fun b => some b = v.ownBlock) (ws.map fun (a : Nat) => (a : Int)) v := by
  obtain ⟨ad, cap, e, l1, l2, h5⟩ := h.row
  refine ⟨ad, cap, e, l1, l2, h5.imp id ?_⟩
  rintro ⟨b, f, rfl, -, h6, h7⟩
  refine ⟨b, 0, rfl, by rw [e]; rfl, fun i hi => ?_⟩
  rw [Nat.zero_add, h6.cell (by omega), h7 i hi]
/-- the graph behind a fold, in the reducer -/
theorem redW_fold {R A lo : Nat} {c gv gv' : Value} {fu st : Int} {g g' : List Ce} {w w' : World} (h : RedW R A lo c fu st g w) (hg : OwnC w' lo (fun b => lo ≤ b ∨ w.drew.heap.size ≤ b) g' gv') (hA : w'.heap[A]? = some (.cells #[gv'] 66)) (hk : Kept w.drew w' A gv.ownBlock) (hlo : lo ≤ w.heap.size) (hR : w'.heap[R]? = w.heap[R]?) : RedW R A lo c fu st g' w' := by
  obtain ⟨ad, cap, rfl⟩ := hg.form
  exact ⟨hR.trans h.red, ⟨ad, cap, hA, hg.next (fun k hk _ => hk.elim id (fun h => Nat.le_trans hlo h)) (fun _ _ _ => rfl) (fun _ _ _ => rfl)⟩, h.loR, h.loA⟩
theorem notRow_fold {A b : Nat} {gv' : Value} {n cap k N : Nat} {w' : World} (hA : w'.heap[A]? = some (.cells #[gv'] 66)) (how : gv'.ownBlock = (Value.slice (some ⟨b, 0, none⟩) n cap).ownBlock ∨ ∃ g, gv'.ownBlock = some g ∧ N ≤ g) (h1 : k < N) (h2 : k ≠ b) : NotRow w' A k := by
  intro o n2 cap2 e
  rw [hA] at e
  simp only [Option.some.injEq, Obj.cells.injEq, Array.mk.injEq, List.cons.injEq, and_true] at e
  obtain ⟨rfl, -⟩ := e
  rcases how with how | ⟨g, how, hg⟩
  · simp only [Value.ownBlock, Option.some.injEq] at how
    exact h2 how
  · simp only [Value.ownBlock, Option.some.injEq] at how
    omega
theorem kept_below {lo A b n cap : Nat} {w w' : World} (hk : Kept w.drew w' A (Value.slice (some ⟨b, 0, none⟩) n cap).ownBlock) (hlo : lo ≤ w.heap.size) (hb : lo ≤ b) (hA : lo ≤ A) : Below lo w w' :=
  ⟨hk.os, hk.tape, hk.output, hk.size, fun k hk2 => hk.block k (Nat.lt_of_lt_of_le hk2 hlo) (by simp only [Value.ownBlock, ne_eq, Option.some.injEq]; omega) (by omega)⟩
/-- a block that is no cells may change -/
theorem RedW.putObj {R A lo D : Nat} {c : Value} {fu st : Int} {g : List Ce} {w : World} {o : Obj} (h : RedW R A lo c fu st g w) (hD : w.heap[D]? = some (.deferred (some []))) : RedW R A lo c fu st g (w.putObj D o) := by
  obtain ⟨ad, cap, h1, h2⟩ := h.are
  have hne : ∀ (k : Nat) (C : Array Value) (T : TypeId) (r : Nat × Nat), w.heap[k]? = some (Obj.cells C T r) → (w.putObj D o).heap[k]? = w.heap[k]? := fun k C T r hk => World.putObj_heap_other (by rintro rfl; rw [hD] at hk; cases hk)
  refine ⟨(hne R _ _ _ h.red).trans h.red, ⟨ad, cap, (hne A _ _ _ h1).trans h1, h2.next2 (fun _ hk _ => hk) (fun k hk hz => ?_) (fun k C _ _ hC => hne k _ _ _ hC)⟩, h.loR, h.loA⟩
  obtain ⟨ys, hys⟩ := h2.row
  rcases hys.2 with ⟨e, -⟩ | ⟨b, c5, cur, e, -, hh, -⟩
  · rw [e] at hk; simp [Value.ownBlock] at hk
  · rw [e] at hk
    simp only [Value.ownBlock, Option.some.injEq] at hk
    subst hk
    exact hne k _ _ _ hh
theorem below_putObj {lo D : Nat} {w w' : World} {o : Obj} (h : Below lo w w') (hD : lo ≤ D) : Below lo w (w'.putObj D o) :=
  ⟨h.os, h.tape, h.output, by rw [World.putObj_size]; exact h.size, fun k hk => (World.putObj_heap_other (by omega)).trans (h.block k hk)⟩
set_option maxRecDepth 100000 in
set_option maxHeartbeats 3200000 in
theorem call_said : CallSaid := by
  intro aF aS aL ds g R A lo at' c fu st w hE h hlo hd hg hp ha hcr
  obtain ⟨ho, f, l, n, hs, h3, hn, hnl, hl⟩ := hcr
  have hpt := call_parts hg hp ha hs hn hnl hl
  have hok := spine_ok hg ha hs
  have hff := hok.1
  rw [numAt_at f hff] at hn
  have h400 : g.length ≤ 400 := graphB_len hg
  have HW := mkHid h
  have HE := mkHid hE
  have HD := mkHid hd
  have HG := mkHid hg
  have HPT := mkHid hpt
  have HOK := mkHid hok
  have HLO := mkHid hlo
  have HS := mkHid hs
  have HN := mkHid hn
  obtain ⟨b5, cap, hA, hO, hbl5, hbz5, hbA, hbR⟩ := h.blk (by omega)
  have HC := mkHid (hO.own fun k hk _ => hk).inn
  have HAA := mkHid hA
  have HRR := mkHid h.red
  have HZ50 := mkHid hbz5
  have HR5 := mkHid hbR.symm
  have HL5 := mkHid hbl5
  -- the receiver's box
  have HBA : Hid (Below w.heap.size w (w.alloc (.cells #[.pointer (some ⟨R, 0, none⟩)] 60))) := box_below _ _
  have HBX : Hid ((w.alloc (.cells #[.pointer (some ⟨R, 0, none⟩)] 60)).heap[w.heap.size]? = some (.cells #[.pointer (some ⟨R, 0, none⟩)] 60)) := Deep.blk_alloc_new _ _
  have HSA : Hid ((w.alloc (.cells #[.pointer (some ⟨R, 0, none⟩)] 60)).heap.size = w.heap.size + 1) := Deep.nblk_alloc _ _
  have r0 := old_cell (cell_of_blk HRR.out 0 _ rfl) (.cells #[.pointer (some ⟨R, 0, none⟩)] 60)
  have a0 := old_cell (cell_of_blk HAA.out 0 _ rfl) (.cells #[.pointer (some ⟨R, 0, none⟩)] 60)
  clear h hE hd hg hp hpt hok hlo hs hn hA hO hbl5 hbz5 hbA hbR ho h3 hl
  refine (callsIn_wide (n := 5)).1 ?_
  refine callsIn_of_wp_marks Tryz.func76 rfl trivial ?_ rfl
  refine (wpIn_wide (n := 5)).2 ?_
  simp only [Tryz.ntmps76, List.size_toArray, List.length_cons, List.length_nil, Nat.reduceAdd, Nat.reduceSub, Array.replicate_succ, Array.replicate_zero, List.push_toArray, List.append_toArray, List.nil_append, List.cons_append]
  go_wp2_with fail
  refine (spineFrom_calls g at' _ _ (HC.out.next HBA.out) ⟨_, HG.out⟩ ha).mono ?_
  rintro e w1 ⟨apv, rfl, hap, hb1⟩
  rw [HS.out] at hap ⊢
  rw [show spF (some (f, l)) = (f : Int) from rfl]
  have hap : IntRow w1 (w.alloc (.cells #[.pointer (some ⟨R, 0, none⟩)] 60)).heap.size (plI l) apv := hap
  -- what lies where behind it
  have HB1 : Hid (Below w.heap.size w w1) := HBA.out.trans (hb1.mono (by rw [HSA.out]; omega))
  have HX1 := mkHid ((hb1.block w.heap.size (by rw [HSA.out]; omega)).trans HBX.out)
  have HAP := mkHid hap
  have HW1 := mkHid (HW.out.next HB1.out)
  have hD1 : DefsOn w1 (fun k => k < lo ∧ Pl w1 k) ds c := HD.out.mono (fun k hk => ⟨hk.1, hk.2.next HB1.out⟩) (fun k hk => HB1.out.block k hk.2.1)
  obtain ⟨adp, capp, rfl, hpl, hpm, -⟩ := id hD1
  obtain ⟨bp, op, cb, rfl, hbp, p1, p2, p3, i1, i2, HKB⟩ := hD1.atG n hnl
  have HKB := mkHid HKB
  have hIn : InP w1 ds[n].2.kids cb := HKB.out.mono (fun k hk => hk.2) (fun _ _ => rfl)
  obtain ⟨adb, capb, rfl, -, -, -⟩ := id hIn
  have HIN := mkHid hIn
  have HII := mkHid (And.intro i1 i2)
  obtain ⟨b6, of6, r6, hea, -, q1, -, -, -, -⟩ := (HC.out.next HB1.out).at f hff
  cases hea
  rw [Nat.zero_add, HN.out] at q1
  have x0 := cell_of_blk HX1.out 0 _ rfl
  have rr0 := cell_of_blk HW1.out.red 0 _ rfl
  have rr1 := cell_of_blk HW1.out.red 1 _ rfl
  have aa0 := cell_of_blk ((HB1.out.block A (cellsOf_ltI HAA.out)).trans HAA.out) 0 _ rfl
  have hfI : (f : Int) < (g.length : Int) := by omega
  have hnI : (n : Int) < (ds.length : Int) := by omega
  obtain ⟨ada, capa, rfl, hal, ham, -⟩ := id hap
  clear hD1 hIn i1 i2 hap hb1 r0 a0
  go_wp2_with fail
  go_region_held3 (fun w' => w'.cell? ⟨w.heap.size, 0, none⟩ = some (.pointer (some ⟨R, 0, none⟩)) ∧ w'.cell? ⟨R, 0, none⟩ = some (.pointer (some ⟨A, 0, none⟩)) ∧ w'.cell? ⟨R, 1, none⟩ = some (.slice (some ⟨bp, op, none⟩) ds.length capp) ∧ w'.cell? ⟨A, 0, none⟩ = some (.slice (some ⟨b5, 0, none⟩) g.length cap) ∧ w'.cell? ⟨b5, f * 3 + 1, none⟩ = some (.int .i64 (n : Int)) ∧ w'.cell? ⟨bp, op + n * 4 + 1, none⟩ = some (.int .i64 ds[n].2.op) ∧ w'.cell? ⟨bp, op + n * 4 + 2, none⟩ = some (.int .i64 ds[n].2.num) ∧ w'.cell? ⟨bp, op + n * 4 + 3, none⟩ = some (.slice adb ds[n].2.kids.length capb))
    (first
      | go_keep
      | exact ⟨x0, rr0, rr1, aa0, q1, p1, p2, p3⟩
      | exact ⟨old_cell x0 _, old_cell rr0 _, old_cell rr1 _, old_cell aa0 _, old_cell q1 _, old_cell p1 _, old_cell p2 _, old_cell p3 _⟩)
    (fail)
  have HBD : Hid (Below w1.heap.size w1 (w1.alloc (.cells #[.int .i64 ds[n].2.op, .int .i64 ds[n].2.num, .slice adb ds[n].2.kids.length capb] 54)).drew) := (box_below _ _).drew
  have HSD : Hid ((w1.alloc (.cells #[.int .i64 ds[n].2.op, .int .i64 ds[n].2.num, .slice adb ds[n].2.kids.length capb] 54)).drew.heap.size = w1.heap.size + 1) := Deep.nblk_alloc _ _
  have HXD : Hid ((w1.alloc (.cells #[.int .i64 ds[n].2.op, .int .i64 ds[n].2.num, .slice adb ds[n].2.kids.length capb] 54)).drew.heap[w1.heap.size]? = some (.cells #[.int .i64 ds[n].2.op, .int .i64 ds[n].2.num, .slice adb ds[n].2.kids.length capb] 54)) := Deep.blk_alloc_new _ _
  have HZB : Hid (1 + szT ds[n].2 ≤ 60) := HPT.out.2.2.2.1
  clear x0 rr0 rr1 aa0 q1 p1 p2 p3
  go_wp2_with fail
  refine (cntNoV_calls ds[n].2 _ _ (HIN.out.mono (fun k hk => hk.next HBD.out) (fun k hk => HBD.out.block k hk.1)) HII.out (by have := HZB.out; omega)).mono ?_
  rintro e w2 ⟨rfl, hb2⟩
  have HB2 : Hid (Below w1.heap.size w1 w2) := HBD.out.trans (hb2.mono (by rw [HSD.out]; omega))
  have HBW2 : Hid (Below w.heap.size w w2) := HB1.out.trans (HB2.out.mono HB1.out.size)
  have HX2 := mkHid ((HB2.out.block w.heap.size (cellsOf_ltI HX1.out)).trans HX1.out)
  have HXD2 := mkHid ((hb2.block w1.heap.size (by rw [HSD.out]; omega)).trans HXD.out)
  have HW2 := mkHid (HW1.out.next HB2.out)
  have hA2 := (HBW2.out.block A (cellsOf_ltI HAA.out)).trans HAA.out
  have HA2 := mkHid hA2
  have x0 := cell_of_blk HX2.out 0 _ rfl
  have rr0 := cell_of_blk HW2.out.red 0 _ rfl
  have aa0 := cell_of_blk hA2 0 _ rfl
  obtain ⟨cn, hcn⟩ : ∃ cn, cn = cntT noV ds[n].2 := ⟨_, rfl⟩
  have hcl : cn ≤ 60 := by rw [hcn]; have := cntT_le noV ds[n].2; have := HZB.out; omega
  have HAL : Hid (callG ds g at' = if g.length + cn ≤ 400 then ((addT (argsL g l) ds[n].2 g).1.set at' (indTo (addT (argsL g l) ds[n].2 g).2), 0) else (g, 3)) := by
    show _ = _
    unfold callG
    rw [HPT.out.1, addT_len _ _ _ _ (varOk_of_sh _ _ _ _ HPT.out.2.2.1), ← hcn]
  rw [← hcn]
  clear hb2 hA2 hcn
  by_cases hbig : g.length + cn ≤ 400
  case neg =>
    have hbI : (400 : Int) < (g.length : Int) + (cn : Int) := by omega
    have HV : Hid (callG ds g at' = (g, 3)) := by rw [Hid, HAL.out, if_neg hbig]
    have e0 := (HE.out.next HBW2.out).cL
    clear hbig
    go_wp2_with fail
    exact ⟨_, results_tmp rfl _ _ _, by rw [HV.out]; rfl, by rw [HV.out]; exact HW2.out, HBW2.out.mono HLO.out⟩
  have hbI : ¬ (400 : Int) < (g.length : Int) + (cn : Int) := by omega
  have HV : Hid (callG ds g at' = ((addT (argsL g l) ds[n].2 g).1.set at' (indTo (addT (argsL g l) ds[n].2 g).2), 0)) := by rw [Hid, HAL.out, if_pos hbig]
  have HBIG := mkHid hbig
  clear hbig HAL
  go_wp2_with fail
  refine (backward_calls ada (plI l).length capa _).mono ?_
  rintro e w5 ⟨rfl, hx5, hb5⟩
  have HSQ : Hid ((w2.alloc (.cells #[.slice none 0 0] 47)).heap.size = w2.heap.size + 1) := Deep.nblk_alloc _ _
  have HBQ : Hid (Below w2.heap.size w2 (w2.alloc (.cells #[.slice none 0 0] 47))) := box_below _ _
  have HB5 : Hid (Below w2.heap.size w2 w5) := HBQ.out.trans (hb5.mono (by rw [HSQ.out]; omega))
  have HX5 : Hid (w5.heap[w2.heap.size + 1]? = some (.cells #[.slice ada (plI l).length capa] 47)) := by have h := hx5; rw [HSQ.out] at h; exact h
  have HBX5 : Hid (Boxed w5 w2.heap.size 47 (.slice none 0 0)) := (hb5.block _ (by rw [HSQ.out]; omega)).trans (Deep.blk_alloc_new _ _)
  rw [HSQ.out]
  clear hx5 hb5
  go_wp2_with fail
  -- the list of applications, for the iterator
  have hap5 : IntsOn w5 (BackK w2.heap.size ada) (plI l) (.slice ada (plI l).length capa) := by
    obtain ⟨ad', cap', e1, e2, e3, e4⟩ := HAP.out
    cases e1
    refine ⟨_, _, rfl, e2, e3, e4.imp id ?_⟩
    rintro ⟨b8, f8, rfl, -, h8, h9⟩
    have hb8 := h8.lt
    refine ⟨b8, 0, rfl, Or.inr ⟨Nat.lt_of_lt_of_le hb8 HB2.out.size, 0, rfl⟩, fun i hi => ?_⟩
    rw [Nat.zero_add]
    refine (World.cell?_of_block ((HB5.out.block b8 (Nat.lt_of_lt_of_le hb8 HB2.out.size)).trans (HB2.out.block b8 hb8))).trans ?_
    rw [h8.cell (by omega), h9 i hi]
  have HAP5 := mkHid hap5
  have hz5 : w2.heap.size + 1 < w5.heap.size := (Array.getElem?_eq_some_iff.1 HX5.out).1
  have HZ5 := mkHid hz5
  obtain ⟨iI, zI, hIE⟩ := infoI1
  have HIE := mkHid hIE
  have HLL : Hid (l.length ≤ 4) := HPT.out.2.2.2.2.1
  have HAPA : Hid (∀ x ∈ plI l, AppAt g x) := fun x hx => by
    simp only [plI, List.mem_map] at hx
    obtain ⟨a, hx, rfl⟩ := hx
    exact ⟨a, rfl, HOK.out.2.2.2.1 a hx⟩
  have HPL : Hid ((plI l).length ≤ 1048576) := by have := HLL.out; simp [Hid, plI]; omega
  clear hap5 hIE hz5
  refine (wpIn_wide (n := 5)).1 ?_
  refine' wpIn_rangeFunc_ownF (F := Fence.wide) (n := 5) rfl (by omega) (gf := 94) (lb := #[.pointer (some ⟨w2.heap.size + 1, 0, none⟩)]) rfl trivial (enters_of Tryz.func94 (by kernel_rfl) rfl)
    (backward_stops (5 - 1) (by omega) (w2.heap.size + 1) (BackK w2.heap.size ada) (AppAt g) (plI l) _ HPL.out HAPA.out w5 (Or.inl rfl) (fun k hk => by have := HZ5.out; rcases hk with rfl | hk; exact this; omega) HX5.out HAP5.out)
    (fun h h2 => KeepK.trans h h2) (backK_put _ _ HZ5.out) (Below.refl _ _) (fun _ => rfl)
    (ArgsI g w2 (.slice ada (plI l).length capa)) (fun _ _ _ => False) (argsI_own g w2 _ _ (by have := HZ5.out; omega)) (fun _ _ _ _ _ hs _ _ => hs)
    ⟨⟨⟨_, HBX5.out, World.ownsRow_nil _ _ _ _, trivial⟩, HX5.out⟩, HB5.out⟩
    _ _ _ _ _
  case' refine'_2 =>
    intro l9 x W9 K9 hK9
    gi_wp2
    exact hK9
  case' refine'_3 =>
    rintro l9 pre x9 W9 ⟨⟨⟨v9, hv9, hrow9, -⟩, hu9⟩, hB9⟩ hlt9
    have HU9 := mkHid hu9
    have HPN : Hid ((argsP g pre).length + 1 ≤ 1048576) := by show (argsP g pre).length + 1 ≤ _; have := HPL.out; unfold argsP; rw [List.length_map]; omega
    obtain ⟨a, hxa, hal9, ho4⟩ := x9.2
    rw [hxa]
    have HXA := mkHid hxa
    have HB9 := mkHid hB9
    have HV9 := mkHid hv9
    have HR9 := mkHid hrow9
    have HBW9 : Hid (Below w.heap.size w W9) := HBW2.out.trans (hB9.mono HBW2.out.size)
    have hk4 : g[a].kids.length = 2 := by
      have h1 := kids_count HG.out a hal9
      rw [opAt_at a hal9] at ho4
      rw [ho4] at h1
      have e : cArity 4 = 2 := by decide
      omega
    obtain ⟨hke, -⟩ := kidAt_get HG.out a hal9 1 (by omega)
    obtain ⟨b8, of8, r8, hea, -, -, g2W, -, -, hkk⟩ := HC.out.at a hal9
    cases hea
    rw [Nat.zero_add] at g2W
    obtain ⟨adk, capk, rfl, -, -, -⟩ := id hkk
    obtain ⟨bk, ok, rfl, d1W⟩ := hkk.at 1 (by omega)
    rw [hke] at d1W
    have g2 := (HBW9.out.cell (p := ⟨b5, a * 3 + 2, none⟩) (cell_lt g2W)).trans g2W
    have d1 := (HBW9.out.cell (p := ⟨bk, ok + 1, none⟩) (cell_lt d1W)).trans d1W
    have s0 := hv9.cell
    have s1 := cell_of_blk ((hB9.block w.heap.size (cellsOf_ltI HX2.out)).trans HX2.out) 0 _ rfl
    have s2 := cell_of_blk ((hB9.block R (cellsOf_ltI HW2.out.red)).trans HW2.out.red) 0 _ rfl
    have s3 := cell_of_blk ((hB9.block A (cellsOf_ltI HA2.out)).trans HA2.out) 0 _ rfl
    have haI : (a : Int) < (g.length : Int) := by omega
    have hkI : (1 : Int) < (g[a].kids.length : Int) := by omega
    have HB5L : Hid (b5 < w2.heap.size) := Nat.lt_of_lt_of_le (cell_lt g2W) HBW2.out.size
    have HBKL : Hid (bk < w2.heap.size) := Nat.lt_of_lt_of_le (cell_lt d1W) HBW2.out.size
    clear hB9 hv9 hrow9 hkk hk4 hke ho4 hxa hu9 g2W d1W
    obtain ⟨ad9, cap9, rfl⟩ := (show Stk W9 w2.heap.size (argsP g pre) v9 from HR9.out).len
    gi_wp2
    refine wpIn_region_held (S := fun w' => w'.cell? ⟨w.heap.size, 0, none⟩ = some (.pointer (some ⟨R, 0, none⟩)) ∧ w'.cell? ⟨R, 0, none⟩ = some (.pointer (some ⟨A, 0, none⟩)) ∧ w'.cell? ⟨A, 0, none⟩ = some (.slice (some ⟨b5, 0, none⟩) g.length cap) ∧ w'.cell? ⟨b5, a * 3 + 2, none⟩ = some (.slice (some ⟨bk, ok, none⟩) g[a].kids.length capk) ∧ w'.cell? ⟨bk, ok + 1, none⟩ = some (.int .i64 (kidAt g a 1 : Int))) (by kernel_rfl) (by kernel_rfl) (fun _ _ h => h) ⟨s1, s2, s3, g2, d1⟩ (fun hHeld => ?_)
    refine' wpAnyH_take (i := 1) (oi := { dst := some 63, op := _, type := _, pos := _, after := _, guard := none }) rfl (by kernel_rfl) (by kernel_rfl) (by kernel_rfl) (fun _ _ _ h => h) (Or.inl ⟨by rfl, ?y1⟩) hHeld ?r1
    case y1 => (intro wS hSw; (try dsimp only at hSw); go_simp; try rfl)
    try simp only [Act.put, List.setIfInBounds_toArray, List.set_cons_zero, List.set_cons_succ]
    refine' wpAnyH_take (i := 2) (oi := { dst := some 64, op := _, type := _, pos := _, after := _, guard := none }) rfl (by kernel_rfl) (by kernel_rfl) (by kernel_rfl) (fun _ _ _ h => h) (Or.inl ⟨by rfl, ?y2⟩) hHeld ?r2
    case y2 => (intro wS hSw; (try dsimp only at hSw); go_simp; try rfl)
    try simp only [Act.put, List.setIfInBounds_toArray, List.set_cons_zero, List.set_cons_succ]
    refine' wpAnyH_take (i := 3) (oi := { dst := some 65, op := _, type := _, pos := _, after := _, guard := none }) rfl (by kernel_rfl) (by kernel_rfl) (by kernel_rfl) (fun _ _ _ h => h) (Or.inl ⟨by rfl, ?y3⟩) hHeld ?r3
    case y3 => (intro wS hSw; (try dsimp only at hSw); go_simp; try rfl)
    try simp only [Act.put, List.setIfInBounds_toArray, List.set_cons_zero, List.set_cons_succ]
    refine' wpAnyH_take (i := 4) (oi := { dst := some 66, op := _, type := _, pos := _, after := _, guard := none }) rfl (by kernel_rfl) (by kernel_rfl) (by kernel_rfl) (fun _ _ _ h => h) (Or.inl ⟨by rfl, ?y4⟩) hHeld ?r4
    case y4 => (intro wS hSw; (try dsimp only at hSw); go_simp; try rfl)
    try simp only [Act.put, List.setIfInBounds_toArray, List.set_cons_zero, List.set_cons_succ]
    refine' wpAnyH_take (i := 5) (oi := { dst := some 67, op := _, type := _, pos := _, after := _, guard := none }) rfl (by kernel_rfl) (by kernel_rfl) (by kernel_rfl) (fun _ _ _ h => h) (Or.inl ⟨by rfl, ?y5⟩) hHeld ?r5
    case y5 => (intro wS hSw; (try dsimp only at hSw); go_simp; try rfl)
    try simp only [Act.put, List.setIfInBounds_toArray, List.set_cons_zero, List.set_cons_succ]
    refine' wpAnyH_take (i := 6) (oi := { dst := some 68, op := _, type := _, pos := _, after := _, guard := none }) rfl (by kernel_rfl) (by kernel_rfl) (by kernel_rfl) (fun _ _ _ h => h) (Or.inl ⟨by rfl, ?y6⟩) hHeld ?r6
    case y6 => (intro wS hSw; (try dsimp only at hSw); go_simp; try rfl)
    try simp only [Act.put, List.setIfInBounds_toArray, List.set_cons_zero, List.set_cons_succ]
    refine' wpAnyH_take (i := 7) (oi := { dst := some 69, op := _, type := _, pos := _, after := _, guard := none }) rfl (by kernel_rfl) (by kernel_rfl) (by kernel_rfl) (fun _ _ _ h => h) (Or.inl ⟨by rfl, ?y7⟩) hHeld ?r7
    case y7 => (intro wS hSw; (try dsimp only at hSw); go_simp; try rfl)
    try simp only [Act.put, List.setIfInBounds_toArray, List.set_cons_zero, List.set_cons_succ]
    refine' wpAnyH_take (i := 8) (oi := { dst := some 70, op := _, type := _, pos := _, after := _, guard := none }) rfl (by kernel_rfl) (by kernel_rfl) (by kernel_rfl) (fun _ _ _ h => h) (Or.inl ⟨by rfl, ?y8⟩) hHeld ?r8
    case y8 => (intro wS hSw; (try dsimp only at hSw); go_simp; try rfl)
    try simp only [Act.put, List.setIfInBounds_toArray, List.set_cons_zero, List.set_cons_succ]
    refine' wpAnyH_take (i := 9) (oi := { dst := some 71, op := _, type := _, pos := _, after := _, guard := none }) rfl (by kernel_rfl) (by kernel_rfl) (by kernel_rfl) (fun _ _ _ h => h) (Or.inl ⟨by rfl, ?y9⟩) hHeld ?r9
    case y9 => (intro wS hSw; (try dsimp only at hSw); go_simp; try rfl)
    try simp only [Act.put, List.setIfInBounds_toArray, List.set_cons_zero, List.set_cons_succ]
    refine' wpAnyH_take (i := 10) (oi := { dst := some 72, op := _, type := _, pos := _, after := _, guard := none }) rfl (by kernel_rfl) (by kernel_rfl) (by kernel_rfl) (fun _ _ _ h => h) (Or.inl ⟨by rfl, ?y10⟩) hHeld ?r10
    case y10 => (intro wS hSw; (try dsimp only at hSw); go_simp; try rfl)
    try simp only [Act.put, List.setIfInBounds_toArray, List.set_cons_zero, List.set_cons_succ]
    refine' wpAnyH_take (i := 11) (oi := { dst := some 73, op := _, type := _, pos := _, after := _, guard := none }) rfl (by kernel_rfl) (by kernel_rfl) (by kernel_rfl) (fun _ _ _ h => h) (Or.inl ⟨by rfl, ?y11⟩) hHeld ?r11
    case y11 => (intro wS hSw; (try dsimp only at hSw); go_simp; try rfl)
    try simp only [Act.put, List.setIfInBounds_toArray, List.set_cons_zero, List.set_cons_succ]
    refine' wpAnyH_take (i := 12) (oi := { dst := some 74, op := _, type := _, pos := _, after := _, guard := none }) rfl (by kernel_rfl) (by kernel_rfl) (by kernel_rfl) (fun _ _ _ h => h) (Or.inl ⟨by rfl, ?y12⟩) hHeld ?r12
    case y12 => (intro wS hSw; (try dsimp only at hSw); go_simp; try rfl)
    try simp only [Act.put, List.setIfInBounds_toArray, List.set_cons_zero, List.set_cons_succ]
    refine' wpAnyH_take (i := 13) (oi := { dst := some 75, op := _, type := _, pos := _, after := _, guard := none }) rfl (by kernel_rfl) (by kernel_rfl) (by kernel_rfl) (fun _ _ _ h => h) (Or.inl ⟨by rfl, ?y13⟩) hHeld ?r13
    case y13 => (intro wS hSw; (try dsimp only at hSw); go_simp; try rfl)
    try simp only [Act.put, List.setIfInBounds_toArray, List.set_cons_zero, List.set_cons_succ]
    refine wpAnyH_ready (rs := [0, 14]) (by kernel_rfl) (by simp) ?_
    refine AllReadyH.cons (o := { dst := some 62, op := _, type := _, pos := _, after := _, guard := none }) rfl (fun K0 hK0 => ?_) (AllReadyH.cons (o := { dst := some 76, op := _, type := _, pos := _, after := _, guard := none }) rfl (fun K14 hK14 => ?_) AllReadyH.nil)
    · go_simp
      refine hK0.out _ _ ⟨s1, s2, s3, g2, d1⟩ (fun hHeld0 => ?_)
      try simp only [Act.put, List.setIfInBounds_toArray, List.set_cons_zero, List.set_cons_succ]
      refine wpAnyH_ready (rs := [14]) (by kernel_rfl) (by simp) ?_
      refine AllReadyH.cons (o := { dst := some 76, op := _, type := _, pos := _, after := _, guard := none }) rfl (fun K14 hK14 => ?_) AllReadyH.nil
      go_simp
      refine hK14.out _ _ ⟨old_cell s1 _, old_cell s2 _, old_cell s3 _, old_cell g2 _, old_cell d1 _⟩ (fun hHeld14 => ?_)
      try simp only [Act.put, List.setIfInBounds_toArray, List.set_cons_zero, List.set_cons_succ]
      refine wpAnyH_ready (rs := [15]) (by kernel_rfl) (by simp) ?_
      refine AllReadyH.cons (o := { dst := some 77, op := _, type := _, pos := _, after := _, guard := none }) rfl (fun K15 hK15 => ?_) AllReadyH.nil
      refine step_push rfl (.tmp 62) (.tmp 76) rfl w2.heap.size (argsP g pre) [kidAt g a 1] (.slice ad9 (argsP g pre).length cap9) (.slice (some ⟨W9.heap.size, 0, none⟩) 1 1) (by rfl) (((show Stk W9 w2.heap.size (argsP g pre) (.slice ad9 (argsP g pre).length cap9) from HR9.out).alloc _).keep (fun _ _ _ => rfl)) (by rfl) (one_in W9 (kidAt g a 1)).drew (by rfl) (by show w2.heap.size ≤ (W9.alloc _).heap.size; rw [Deep.nblk_alloc]; have := HB9.out.size; omega) (by have := HPN.out; simp only [List.length_cons, List.length_nil]; omega) ?_
      intro v10 w10 hst10 hg10
      have hpush := args_push (x := x9) HV9.out HR9.out HU9.out HB9.out HXA.out hst10 hg10
      obtain ⟨ad10, cap10, rfl⟩ := stk_form hst10 rfl
      have HPU := mkHid hpush
      have t0 := hpush.1.cell
      have t0f := hpush.1.frozen
      have t1 := (World.cell?_of_block (hpush.2.1 w.heap.size (cellsOf_ltI HX2.out))).trans s1
      have t2 := (World.cell?_of_block (hpush.2.1 R (cellsOf_ltI HW2.out.red))).trans s2
      have t3 := (World.cell?_of_block (hpush.2.1 A (cellsOf_ltI HA2.out))).trans s3
      have t4 := (World.cell?_of_block (hpush.2.1 b5 HB5L.out)).trans g2
      have t5 := (World.cell?_of_block (hpush.2.1 bk HBKL.out)).trans d1
      clear hpush hst10 hg10
      refine hK15.out _ _ ⟨t1, t2, t3, t4, t5⟩ (fun hHeld15 => ?_)
      try simp only [Act.put, List.setIfInBounds_toArray, List.set_cons_zero, List.set_cons_succ]
      refine wpAnyH_ready (rs := [16]) (by kernel_rfl) (by simp) ?_
      refine AllReadyH.cons (o := { dst := none, op := _, type := _, pos := _, after := _, guard := none }) rfl (fun K16 hK16 => ?_) AllReadyH.nil
      go_simp
      refine hK16.out _ _ ⟨(World.cell?_setCell_far _ _ _ _ (by show w2.heap.size ≠ w.heap.size; have := cellsOf_ltI HX2.out; omega)).trans t1, (World.cell?_setCell_far _ _ _ _ (by show w2.heap.size ≠ R; have := cellsOf_ltI HW2.out.red; omega)).trans t2, (World.cell?_setCell_far _ _ _ _ (by show w2.heap.size ≠ A; have := cellsOf_ltI HA2.out; omega)).trans t3, (World.cell?_setCell_far _ _ _ _ (by show w2.heap.size ≠ b5; have := HB5L.out; omega)).trans t4, (World.cell?_setCell_far _ _ _ _ (by show w2.heap.size ≠ bk; have := HBKL.out; omega)).trans t5⟩ (fun hHeld16 => ?_)
      refine wpAnyH_done (by kernel_rfl) ?_ _
      exact ⟨HPU.out.2.2.1, HPU.out.2.2.2.1 _, HPU.out.2.2.2.2⟩
    · go_simp
      refine hK14.out _ _ ⟨old_cell s1 _, old_cell s2 _, old_cell s3 _, old_cell g2 _, old_cell d1 _⟩ (fun hHeld14 => ?_)
      try simp only [Act.put, List.setIfInBounds_toArray, List.set_cons_zero, List.set_cons_succ]
      have s0' := old_cell s0 (.cells #[.int .i64 (kidAt g a 1 : Int)] 3)
      refine wpAnyH_ready (rs := [0]) (by kernel_rfl) (by simp) ?_
      refine AllReadyH.cons (o := { dst := some 62, op := _, type := _, pos := _, after := _, guard := none }) rfl (fun K0 hK0 => ?_) AllReadyH.nil
      go_simp
      refine hK0.out _ _ ⟨old_cell s1 _, old_cell s2 _, old_cell s3 _, old_cell g2 _, old_cell d1 _⟩ (fun hHeld0 => ?_)
      try simp only [Act.put, List.setIfInBounds_toArray, List.set_cons_zero, List.set_cons_succ]
      refine wpAnyH_ready (rs := [15]) (by kernel_rfl) (by simp) ?_
      refine AllReadyH.cons (o := { dst := some 77, op := _, type := _, pos := _, after := _, guard := none }) rfl (fun K15 hK15 => ?_) AllReadyH.nil
      refine step_push rfl (.tmp 62) (.tmp 76) rfl w2.heap.size (argsP g pre) [kidAt g a 1] (.slice ad9 (argsP g pre).length cap9) (.slice (some ⟨W9.heap.size, 0, none⟩) 1 1) (by rfl) (((show Stk W9 w2.heap.size (argsP g pre) (.slice ad9 (argsP g pre).length cap9) from HR9.out).alloc _).keep (fun _ _ _ => rfl)) (by rfl) (one_in W9 (kidAt g a 1)).drew (by rfl) (by show w2.heap.size ≤ (W9.alloc _).heap.size; rw [Deep.nblk_alloc]; have := HB9.out.size; omega) (by have := HPN.out; simp only [List.length_cons, List.length_nil]; omega) ?_
      intro v10 w10 hst10 hg10
      have hpush := args_push (x := x9) HV9.out HR9.out HU9.out HB9.out HXA.out hst10 hg10
      obtain ⟨ad10, cap10, rfl⟩ := stk_form hst10 rfl
      have HPU := mkHid hpush
      have t0 := hpush.1.cell
      have t0f := hpush.1.frozen
      have t1 := (World.cell?_of_block (hpush.2.1 w.heap.size (cellsOf_ltI HX2.out))).trans s1
      have t2 := (World.cell?_of_block (hpush.2.1 R (cellsOf_ltI HW2.out.red))).trans s2
      have t3 := (World.cell?_of_block (hpush.2.1 A (cellsOf_ltI HA2.out))).trans s3
      have t4 := (World.cell?_of_block (hpush.2.1 b5 HB5L.out)).trans g2
      have t5 := (World.cell?_of_block (hpush.2.1 bk HBKL.out)).trans d1
      clear hpush hst10 hg10
      refine hK15.out _ _ ⟨t1, t2, t3, t4, t5⟩ (fun hHeld15 => ?_)
      try simp only [Act.put, List.setIfInBounds_toArray, List.set_cons_zero, List.set_cons_succ]
      refine wpAnyH_ready (rs := [16]) (by kernel_rfl) (by simp) ?_
      refine AllReadyH.cons (o := { dst := none, op := _, type := _, pos := _, after := _, guard := none }) rfl (fun K16 hK16 => ?_) AllReadyH.nil
      go_simp
      refine hK16.out _ _ ⟨(World.cell?_setCell_far _ _ _ _ (by show w2.heap.size ≠ w.heap.size; have := cellsOf_ltI HX2.out; omega)).trans t1, (World.cell?_setCell_far _ _ _ _ (by show w2.heap.size ≠ R; have := cellsOf_ltI HW2.out.red; omega)).trans t2, (World.cell?_setCell_far _ _ _ _ (by show w2.heap.size ≠ A; have := cellsOf_ltI HA2.out; omega)).trans t3, (World.cell?_setCell_far _ _ _ _ (by show w2.heap.size ≠ b5; have := HB5L.out; omega)).trans t4, (World.cell?_setCell_far _ _ _ _ (by show w2.heap.size ≠ bk; have := HBKL.out; omega)).trans t5⟩ (fun hHeld16 => ?_)
      refine wpAnyH_done (by kernel_rfl) ?_ _
      exact ⟨HPU.out.2.2.1, HPU.out.2.2.2.1 _, HPU.out.2.2.2.2⟩
  case' refine'_5 =>
    rintro D c9 pre W9 _ _ h9 _
    exact h9.elim
  rintro D ys W hD hys ⟨⟨⟨v9, hv9, hrow9, -⟩, hu9⟩, hB9⟩ hK9
  rw [argsP_all hys] at hrow9
  have hst9 : Stk W w2.heap.size (argsL g l) v9 := hrow9
  have HST9 := mkHid hst9
  have HV9 := mkHid hv9
  have HB9 := mkHid hB9
  have HK9 := mkHid hK9
  have HDD := mkHid hD
  have s0 := hv9.cell
  have s1 := cell_of_blk ((hB9.block w.heap.size (cellsOf_ltI HX2.out)).trans HX2.out) 0 _ rfl
  have s2 := cell_of_blk ((hB9.block R (cellsOf_ltI HW2.out.red)).trans HW2.out.red) 0 _ rfl
  have hxd := (hB9.block w1.heap.size (cellsOf_ltI HXD2.out)).trans HXD2.out
  have s3 := cell_of_blk hxd 0 _ rfl
  have s4 := cell_of_blk hxd 1 _ rfl
  have s5 := cell_of_blk hxd 2 _ rfl
  obtain ⟨ad9, cap9, rfl⟩ := hst9.len
  clear hst9 hrow9 hv9 hu9 hB9 hK9 hD hxd
  have HLO9 : Hid (lo ≤ W.heap.size) := Nat.le_trans HLO.out (Nat.le_trans HBW2.out.size HB9.out.size)
  have HBW9 : Hid (Below w.heap.size w W) := HBW2.out.trans (HB9.out.mono HBW2.out.size)
  have HW9 := mkHid (HW.out.next HBW9.out)
  have hA9 := (HBW9.out.block A (cellsOf_ltI HAA.out)).trans HAA.out
  have HA9 := mkHid hA9
  have hO9 := HW9.out.ownAt hA9
  have hb59 : b5 < W.heap.size ∧ b5 < w2.heap.size := ⟨Nat.lt_of_lt_of_le HZ50.out HBW9.out.size, Nat.lt_of_lt_of_le HZ50.out HBW2.out.size⟩
  have hT : Free (fun b => b < lo ∨ some b = (Value.slice ad9 (argsL g l).length cap9).ownBlock) W A (.slice (some ⟨b5, 0, none⟩) g.length cap) := by
    intro b hb
    have hA3 := cellsOf_ltI HAA.out
    have hA4 := HBW2.out.size
    have hloA := HW.out.loA
    have hlo5 := HL5.out
    have hsz := HBW9.out.size
    rcases hb with hb | hb
    · exact ⟨by omega, by simp only [Value.ownBlock, ne_eq, Option.some.injEq]; omega, by omega⟩
    · have h1 := own_some HST9.out b hb.symm
      exact ⟨h1.2, by simp only [Value.ownBlock, ne_eq, Option.some.injEq]; omega, by omega⟩
  have hkb : KidsOn W (fun b => b < lo ∨ some b = (Value.slice ad9 (argsL g l).length cap9).ownBlock) ds[n].2.kids (.slice adb ds[n].2.kids.length capb) := HKB.out.mono (fun k hk => Or.inl hk.1) (fun k hk => (HB9.out.block k (Nat.lt_of_lt_of_le hk.2.1 HB2.out.size)).trans (HB2.out.block k hk.2.1))
  have hax := ax_callsT (argsL g l) ds[n].2 (.slice (some ⟨b5, 0, none⟩) g.length cap) (.slice adb ds[n].2.kids.length capb) ad9 (argsL g l).length cap9 lo A (fun b => lo ≤ b) (fun b => b < lo ∨ some b = (Value.slice ad9 (argsL g l).length cap9).ownBlock) g W.drew
    (hO9.next (fun _ h _ => h) (fun _ _ _ => rfl) (fun _ _ _ => rfl)) hA9 (Nat.le_trans HLO.out HBW9.out.size) hT ((stk_on HST9.out).mono (fun k hk => Or.inr hk) (fun _ _ => rfl)) (hkb.mono (fun _ h => h) (fun _ _ => rfl)) (by have := HZB.out; omega) (by rw [HPT.out.2.1]; have := HLL.out; omega) HII.out.1 HII.out.2 (varOk_of_sh _ _ _ _ HPT.out.2.2.1)
  have HAX := mkHid hax
  obtain ⟨rk, hrk⟩ : ∃ rk, rk = (addT (argsL g l) ds[n].2 g).2 := ⟨_, rfl⟩
  have HRK := mkHid hrk
  have HG1 : Hid ((addT (argsL g l) ds[n].2 g).1.length ≤ 1048576 ∧ at' < (addT (argsL g l) ds[n].2 g).1.length) := by
    have h1 := (addT_size (argsL g l) ds[n].2 g).1
    have h2 := (addT_size (argsL g l) ds[n].2 g).2.1
    have := HZB.out
    exact ⟨by omega, by omega⟩
  have HD9 : Hid (D < W.heap.size ∧ w2.heap.size ≤ D) := ⟨(Array.getElem?_eq_some_iff.1 HK9.out).1, by have := HDD.out; have := HB5.out.size; omega⟩
  have HNE : Hid (w.heap.size ≠ b5 ∧ w.heap.size ≠ A ∧ R ≠ b5 ∧ w1.heap.size ≠ b5 ∧ w1.heap.size ≠ A ∧ w2.heap.size ≠ b5 ∧ w2.heap.size ≠ A ∧ D ≠ b5 ∧ D ≠ A ∧ R ≠ A) := by
    have h1 := HZ50.out
    have h2 := cellsOf_ltI HAA.out
    have h3 := HB1.out.size
    have h4 := HB2.out.size
    have h5 := HD9.out.2
    refine ⟨by omega, by omega, HR5.out, by omega, by omega, by omega, by omega, by omega, by omega, ?_⟩
    rintro rfl
    have h6 := HRR.out
    rw [HAA.out] at h6
    simp at h6
  have HLT : Hid (w.heap.size < W.heap.size ∧ R < W.heap.size ∧ w1.heap.size < W.heap.size ∧ w2.heap.size < W.heap.size) := ⟨by have := cellsOf_ltI HX2.out; have := HB9.out.size; omega, by have := cellsOf_ltI HRR.out; have := HBW9.out.size; omega, by have := cellsOf_ltI HXD2.out; have := HB9.out.size; omega, HV9.out.lt⟩
  clear hax hrk hkb hT hb59 hO9 hA9
  go_wp2_with fail
  go_region_held3 (fun w' => w'.cell? ⟨w2.heap.size, 0, none⟩ = some (.slice ad9 (argsL g l).length cap9) ∧ w'.cell? ⟨w.heap.size, 0, none⟩ = some (.pointer (some ⟨R, 0, none⟩)) ∧ w'.cell? ⟨R, 0, none⟩ = some (.pointer (some ⟨A, 0, none⟩)) ∧ w'.cell? ⟨w1.heap.size, 0, none⟩ = some (.int .i64 ds[n].2.op) ∧ w'.cell? ⟨w1.heap.size, 1, none⟩ = some (.int .i64 ds[n].2.num) ∧ w'.cell? ⟨w1.heap.size, 2, none⟩ = some (.slice adb ds[n].2.kids.length capb))
    (first
      | go_keep
      | exact ⟨n0, n1, n2, n3, n4, n5⟩
      | exact ⟨m0, m1, m2, m3, m4, m5⟩
      | exact ⟨s0, s1, s2, s3, s4, s5⟩)
    (first
      | (go_at_call 91; refine HAX.out.mono ?_; rintro e w6 hr6; have hr6' := hr6; obtain ⟨gv6, rfl, hg6, hA6, hk6, how6⟩ := hr6; have hbk : ∀ k, k < W.heap.size → k ≠ b5 → k ≠ A → w6.heap[k]? = W.heap[k]? := fun k h1 h2 h3 => hk6.block k h1 (by simp only [Value.ownBlock, ne_eq, Option.some.injEq]; omega) h3; have HBK := mkHid hbk; have m0 := (World.cell?_of_block (HBK.out w2.heap.size HLT.out.2.2.2 HNE.out.2.2.2.2.2.1 HNE.out.2.2.2.2.2.2.1)).trans s0; have m1 := (World.cell?_of_block (HBK.out w.heap.size HLT.out.1 HNE.out.1 HNE.out.2.1)).trans s1; have m2 := (World.cell?_of_block (HBK.out R HLT.out.2.1 HNE.out.2.2.1 HNE.out.2.2.2.2.2.2.2.2.2)).trans s2; have m3 := (World.cell?_of_block (HBK.out w1.heap.size HLT.out.2.2.1 HNE.out.2.2.2.1 HNE.out.2.2.2.2.1)).trans s3; have m4 := (World.cell?_of_block (HBK.out w1.heap.size HLT.out.2.2.1 HNE.out.2.2.2.1 HNE.out.2.2.2.2.1)).trans s4; have m5 := (World.cell?_of_block (HBK.out w1.heap.size HLT.out.2.2.1 HNE.out.2.2.2.1 HNE.out.2.2.2.2.1)).trans s5; have HR6 := mkHid hr6'; have HA6 := mkHid hA6; have HOW6 := mkHid how6; have HK6 := mkHid hk6; have HG6 := mkHid hg6; rw [← HRK.out]; clear hr6' hg6 hA6 hk6 how6 hbk)
      | (go_at_call 72; refine (redirectX_calls R A lo at' rk _ fu st (addT (argsL g l) ds[n].2 g).1 w6 (redW_fold HW9.out HG6.out HA6.out HK6.out HLO9.out (HBK.out R HLT.out.2.1 HNE.out.2.2.1 HNE.out.2.2.2.2.2.2.2.2.2)) (Nat.le_trans HLO9.out HK6.out.size) HG1.out.2 HG1.out.1).mono ?_; rintro e w7 ⟨rfl, hw7, hb7, hn7⟩; have HW7 := mkHid hw7; have HB7 := mkHid hb7; have HN7 : Hid (∀ k, k < W.heap.size → k ≠ b5 → k ≠ A → w7.heap[k]? = W.heap[k]?) := (fun k h1 h2 h3 => (hn7 k (Nat.lt_of_lt_of_le h1 HK6.out.size) (notRow_fold HA6.out HOW6.out h1 h2)).trans (HBK.out k h1 h2 h3)); have n0 := (World.cell?_of_block (HN7.out w2.heap.size HLT.out.2.2.2 HNE.out.2.2.2.2.2.1 HNE.out.2.2.2.2.2.2.1)).trans s0; have n1 := (World.cell?_of_block (HN7.out w.heap.size HLT.out.1 HNE.out.1 HNE.out.2.1)).trans s1; have n2 := (World.cell?_of_block (HN7.out R HLT.out.2.1 HNE.out.2.2.1 HNE.out.2.2.2.2.2.2.2.2.2)).trans s2; have n3 := (World.cell?_of_block (HN7.out w1.heap.size HLT.out.2.2.1 HNE.out.2.2.2.1 HNE.out.2.2.2.2.1)).trans s3; have n4 := (World.cell?_of_block (HN7.out w1.heap.size HLT.out.2.2.1 HNE.out.2.2.2.1 HNE.out.2.2.2.2.1)).trans s4; have n5 := (World.cell?_of_block (HN7.out w1.heap.size HLT.out.2.2.1 HNE.out.2.2.2.1 HNE.out.2.2.2.2.1)).trans s5; clear hw7 hb7 hn7))
  go_wp2_with fail
  have hD7 := (HN7.out D HD9.out.1 HNE.out.2.2.2.2.2.2.2.1 HNE.out.2.2.2.2.2.2.2.2.1).trans HK9.out
  refine ⟨by simp, .inl ⟨_, _, rfl, run_takeDeferred hD7, ?_⟩⟩
  refine ⟨_, results_tmp rfl _ _ _, by rw [HV.out]; rfl, ?_, ?_⟩
  · rw [HV.out, ← HRK.out]
    exact HW7.out.putObj hD7
  · exact below_putObj (((HBW9.out.mono HLO.out).trans (kept_below HK6.out HLO9.out HL5.out HW.out.loA)).trans HB7.out) (Nat.le_trans (Nat.le_trans HLO.out HBW2.out.size) HD9.out.2)
end Go.Proofs.YtjpjikfmdaejeaaGreatDoor
/-
  THE MODEL's l2Number AND l4Change.
-/
namespace Go.Proofs.YtjpjikfmdaejeaaGreatDoor
set_option linter.unusedVariables false
set_option linter.unusedSimpArgs false
open Go.RowKit

set_option maxHeartbeats 800000 in
theorem l2Number_calls (op a b : Int) (ho : op = 8 ∨ op = 9) (ha : 0 ≤ a ∧ a ≤ 999) (hb : 0 ≤ b ∧ b ≤ 999) (w : World) :
    Calls Tryz.prog 64 #[.int .i64 op, .int .i64 a, .int .i64 b] w fun e w' => e = .returned (.int .i64 (numberOf op a b)) ∧ w = w' := by
  obtain ⟨a0, a1⟩ := ha
  obtain ⟨b0, b1⟩ := hb
  rcases ho with rfl | rfl
  · have HV : Hid (numberOf 8 a b = (a + b) % 1000) := rfl
    go_enter Tryz.func64, Tryz.ntmps64
    go_wp2_with fail
    go_ret
    exact ⟨ret_int (by rw [HV.out]), rfl⟩
  · have HV : Hid (numberOf 9 a b = (a + (1000 - b)) % 1000) := rfl
    have h0 : 0 ≤ 1000 - b := by omega
    have h1 : 1000 - b ≤ 1000 := by omega
    go_enter Tryz.func64, Tryz.ntmps64
    go_wp2_with fail
    go_ret
    exact ⟨ret_int (by rw [HV.out]), rfl⟩

/-- a graph with one cell overwritten, in memory -/
theorem set_fin {w w4 : World} {lo b5 cap5 : Nat} {S : Nat → Prop} {G : List Ce} {at' : Nat} {c : Ce} {kv : Value} {o : Obj} (h : OwnC w4 lo S G (.slice (some ⟨b5, 0, none⟩) G.length cap5)) (hS : ∀ k, S k → lo ≤ k) (hat : at' < G.length) (hlo : lo ≤ w4.heap.size) (hb : Below w.heap.size w w4) (hw : w.heap.size ≤ lo)
    (hc : I64 c.op ∧ I64 c.num) (hk : KRowS (w4.alloc o) (fun x => x = w4.heap.size) c.kids w4.heap.size kv) :
    CIn (st3 (w4.alloc o) b5 at' c.op c.num kv) (G.set at' c) (.slice (some ⟨b5, 0, none⟩) G.length cap5) ∧ Below w.heap.size w (st3 (w4.alloc o) b5 at' c.op c.num kv) := by
  obtain ⟨ys, hys⟩ := h.row
  have hb5 := (hys.lt b5 rfl)
  have hoa : OwnC (w4.alloc o) lo (fun b => lo ≤ b ∧ b < w4.heap.size) G (.slice (some ⟨b5, 0, none⟩) G.length cap5) :=
    h.next (fun k hk hz => ⟨hS k hk, hz⟩) (fun k _ hz => Deep.blk_alloc_lt _ _ _ hz) (fun k _ hz => Deep.blk_alloc_lt _ _ _ hz)
  have hset := hoa.setc at' hat (c := c) hc hk (by rintro ⟨-, h⟩; omega)
  exact ⟨(hset.own (fun k hk _ => by rcases hk with h | h; exact h.1; omega)).inn, st3_below (hb.alloc hb.size _) (Nat.le_trans hw hb5.1)⟩
/-- .. with a cell without operands, no block more -/
theorem set_fin0 {w w4 : World} {lo b5 cap5 : Nat} {S : Nat → Prop} {G : List Ce} {at' : Nat} {c : Ce} {kv : Value} (h : OwnC w4 lo S G (.slice (some ⟨b5, 0, none⟩) G.length cap5)) (hS : ∀ k, S k → lo ≤ k) (hat : at' < G.length) (hlo : lo ≤ w4.heap.size) (hb : Below w.heap.size w w4) (hw : w.heap.size ≤ lo)
    (hc : I64 c.op ∧ I64 c.num) (hk : KRowS w4 (fun x => x = w4.heap.size) c.kids w4.heap.size kv) :
    CIn (st3 w4 b5 at' c.op c.num kv) (G.set at' c) (.slice (some ⟨b5, 0, none⟩) G.length cap5) ∧ Below w.heap.size w (st3 w4 b5 at' c.op c.num kv) := by
  obtain ⟨ys, hys⟩ := h.row
  have hb5 := (hys.lt b5 rfl)
  have hoa : OwnC w4 lo (fun b => lo ≤ b ∧ b < w4.heap.size) G (.slice (some ⟨b5, 0, none⟩) G.length cap5) :=
    h.next (fun k hk hz => ⟨hS k hk, hz⟩) (fun k _ hz => rfl) (fun k _ hz => rfl)
  have hset := hoa.setc at' hat (c := c) hc hk (by rintro ⟨-, h⟩; omega)
  exact ⟨(hset.own (fun k hk _ => by rcases hk with h | h; exact h.1; omega)).inn, st3_below hb (Nat.le_trans hw hb5.1)⟩
theorem num_range {g : List Ce} {defs : Int} (h : graphB g defs = true) (f : Nat) (hf : f < g.length) (ho : g[f].op = 2) : 0 ≤ g[f].num ∧ g[f].num ≤ 999 := by
  have hc := graphB_cell h f hf
  unfold cellB fitsB ownB at hc
  simp only [ho, Bool.and_eq_true, decide_eq_true_eq] at hc
  simpa using hc.1.2
/-- the row of a graph that has a cell -/
theorem OwnC.blk {w : World} {lo : Nat} {S : Nat → Prop} {g : List Ce} {ad : Option Addr} {cap : Nat} (h : OwnC w lo S g (.slice ad g.length cap)) (h0 : 0 < g.length) : ∃ b, ad = some ⟨b, 0, none⟩ := by
  obtain ⟨ys, hys⟩ := h.row
  rcases hys.2 with ⟨-, hz⟩ | ⟨b5, c5, cur5, e5, -⟩
  · omega
  · simp only [Value.slice.injEq] at e5; exact ⟨b5, e5.1⟩

set_option maxRecDepth 100000 in
set_option maxHeartbeats 12800000 in
theorem l4Change_calls (ds : List Df) (g : List Ce) (at' : Nat) (c v : Value) (w : World) (hd : DIn w ds c) (hk : CIn w g v) (hg : graphB g ds.length = true) (hp : progB ds = true) (hr : Ready ds g at') :
    Calls Tryz.prog 45 #[c, v, .int .i64 (at' : Int)] w (StG (changeG ds g at') w) := by
  obtain ⟨ha, hr⟩ := hr
  have HD : Hid (DIn w ds c) := hd
  have HK : Hid (CIn w g v) := hk
  have HG := mkHid hg
  have HP := mkHid hp
  obtain ⟨ad, cap, rfl, hlg, hm, -⟩ := hk
  have h400 : g.length ≤ 400 := graphB_len hg
  have HOA : Hid (opAt g at' = g[at'].op) := opAt_at at' ha
  obtain ⟨bl, off, r, rfl, c0, c1, c2, -, -, hkk⟩ := HK.out.at at' ha
  obtain ⟨adk, capk, rfl, -, -, -⟩ := id hkk
  have HKK := mkHid hkk
  have HC0 := mkHid c0
  have HBX : Hid (Below w.heap.size w (w.alloc (.cells #[.int .i64 g[at'].op, .int .i64 g[at'].num, .slice adk g[at'].kids.length capk] 58))) := box_below _ _
  unfold maxLen at hm
  clear hg hp hkk
  rcases hr with hr | hr
  · obtain ⟨ho, f, l, n, hs, h3, hn, hnl, hl⟩ := hr
    have HV : Hid (changeG ds g at' = callG ds g at') := by unfold Hid changeG; rw [if_pos ho]
    have HCALL : Hid (∀ W : World, Below w.heap.size w W → Calls Tryz.prog 63 #[c, .slice (some ⟨bl, off, none⟩) g.length cap, .int .i64 (at' : Int)] W (StG (callG ds g at') W)) := fun W hW => l4Call_calls ds g at' f n l c _ W (HD.out.next hW) (HK.out.next hW) HG.out HP.out ha hs h3 hn hnl hl
    rw [HOA.out] at ho
    clear hs h3 hn hl hnl
    go_enter Tryz.func45, Tryz.ntmps45
    rcases ho with ho | ho
    · have t4 : (g[at'].op == 4) = false := by simp [ho]
      have t3 : (g[at'].op == 3) = true := by simp [ho]
      clear ho
      go_wp2_with fail
      refine (HCALL.out _ HBX.out).mono ?_
      rintro e w1 ⟨v1, rfl, hi1, hb1⟩
      have HI := mkHid hi1
      have HB1 : Hid (Below w.heap.size w w1) := HBX.out.trans (hb1.mono HBX.out.size)
      obtain ⟨ad1, cap1, rfl, -, -, -⟩ := hi1
      clear hb1
      go_wp2_with fail
      go_ret2
      rw [HV.out]
      exact ⟨_, rfl, HI.out, HB1.out⟩
    · have t4 : (g[at'].op == 4) = true := by simp [ho]
      clear ho
      go_wp2_with fail
      refine (HCALL.out _ HBX.out).mono ?_
      rintro e w1 ⟨v1, rfl, hi1, hb1⟩
      have HI := mkHid hi1
      have HB1 : Hid (Below w.heap.size w w1) := HBX.out.trans (hb1.mono HBX.out.size)
      obtain ⟨ad1, cap1, rfl, -, -, -⟩ := hi1
      clear hb1
      go_wp2_with fail
      go_ret2
      rw [HV.out]
      exact ⟨_, rfl, HI.out, HB1.out⟩
  · have hno := ready_op (ds := ds) hr
    have HV : Hid (changeG ds g at' = (g.set at' (opCell g at'), 0)) := by unfold Hid changeG; rw [if_neg hno]
    have hr0 := hr
    have HR := mkHid hr0
    rw [HOA.out] at hno
    have t4 : (g[at'].op == 4) = false := by simp; omega
    have t3 : (g[at'].op == 3) = false := by simp; omega
    -- the first operand
    obtain ⟨b0, hb0, hk0⟩ : ∃ b0, followN g g.length (kidAt g at' 0) = some b0 ∧ 0 < g[at'].kids.length := by
      have h1 := kids_op HG.out at' ha
      rcases hr with ⟨h67, b, hb, hb5⟩ | ⟨h10, b, hb, hb2⟩ | ⟨h89, ⟨b, hb, hb2⟩, -⟩
      · refine ⟨b, hb, ?_⟩
        rcases h67 with h | h <;> rw [h] at h1 <;> have e : cArity 6 = 1 ∧ cArity 7 = 1 := by decide
        all_goals omega
      · refine ⟨b, hb, ?_⟩
        rw [h10] at h1; have e : cArity 10 = 3 := by decide
        omega
      · refine ⟨b, hb, ?_⟩
        rcases h89 with h | h <;> rw [h] at h1 <;> have e : cArity 8 = 2 ∧ cArity 9 = 2 := by decide
        all_goals omega
    have HB0 := mkHid hb0
    obtain ⟨hke, hkl⟩ := kidAt_get HG.out at' ha 0 hk0
    have HKL := mkHid hkl
    have HKE := mkHid hke
    have hbl0 := (followN_lt HG.out _ _ _ hkl hb0).1
    clear hr hr0 hno hb0 hke hkl
    go_enter Tryz.func45, Tryz.ntmps45
    -- the cell is copied
    go_wp2_with fail
    refine (l3Copy_calls g _ _ (HK.out.next HBX.out) ⟨_, HG.out⟩).mono ?_
    rintro e w2 ⟨gv, rfl, hog, hb2⟩
    obtain ⟨ad2, cap2, rfl⟩ := hog.form
    obtain ⟨b5, rfl⟩ := hog.blk (by omega)
    have hlo : (w.alloc (.cells #[.int .i64 g[at'].op, .int .i64 g[at'].num, .slice adk g[at'].kids.length capk] 58)).heap.size = w.heap.size + 1 := Deep.nblk_alloc _ _
    rw [hlo] at hog
    have HOG := mkHid hog
    have HB2 : Hid (Below w.heap.size w w2) := HBX.out.trans (hb2.mono (by rw [hlo]; omega))
    have HX2 : Hid (w2.heap[w.heap.size]? = some (.cells #[.int .i64 g[at'].op, .int .i64 g[at'].num, .slice adk g[at'].kids.length capk] 58)) := (hb2.block _ (by rw [hlo]; omega)).trans (Deep.blk_alloc_new _ _)
    have HS2 : Hid (w.heap.size + 1 ≤ w2.heap.size) := by have := hb2.size; rw [hlo] at this; exact this
    have x0 := cell_of_blk HX2.out 0 _ rfl
    have x2 := cell_of_blk HX2.out 2 _ rfl
    obtain ⟨blk, offk, rfl, d0w⟩ := HKK.out.at 0 hk0
    rw [HKE.out] at d0w
    have d0 := (HB2.out.cell (p := ⟨blk, offk + 0, none⟩) (cell_lt d0w)).trans d0w
    rw [Nat.add_zero] at d0
    clear hog hb2 hlo d0w c0 c1 c2
    go_wp2_with fail
    refine (l3Follow_calls g (kidAt g at' 0) _ w2 (HK.out.next HB2.out) ⟨_, HG.out⟩ HKL.out).mono ?_
    rintro e w3 ⟨rfl, hb3⟩
    rw [follow_enough HG.out _ HKL.out, HB0.out]
    have e2 : folI (some b0) = (b0 : Int) := rfl
    rw [e2]
    have HB3 : Hid (Below w.heap.size w w3) := HB2.out.trans (hb3.mono HB2.out.size)
    have HX3 : Hid (w3.heap[w.heap.size]? = some (.cells #[.int .i64 g[at'].op, .int .i64 g[at'].num, .slice (some ⟨blk, offk, none⟩) g[at'].kids.length capk] 58)) := (hb3.block _ (by have := HS2.out; omega)).trans HX2.out
    have HS3 : Hid (w.heap.size + 1 ≤ w3.heap.size) := Nat.le_trans HS2.out hb3.size
    have HO3 : Hid (OwnC w3 (w.heap.size + 1) (fun b => w.heap.size + 1 ≤ b) g (.slice (some ⟨b5, 0, none⟩) g.length cap2)) := HOG.out.next (fun _ h _ => h) (fun k _ hz => hb3.block k hz) (fun k _ hz => hb3.block k hz)
    obtain ⟨bl3, off3, r0, he3, g0, g1, g2, -, -, hkk0⟩ := (HK.out.next HB3.out).at b0 hbl0
    cases he3
    obtain ⟨ad0, cap0, rfl, -, -, -⟩ := id hkk0
    have HKK0 := mkHid hkk0
    clear hb3 x0 x2 d0 hkk0
    obtain ⟨w4, hw4⟩ : ∃ w4 : World, w4 = w3.alloc (.cells #[.int .i64 g[b0].op, .int .i64 g[b0].num, .slice ad0 g[b0].kids.length cap0] 58) := ⟨_, rfl⟩
    have HW4 := mkHid hw4
    have hb34 : Below w3.heap.size w3 w4 := by rw [hw4]; exact box_below _ _
    have HB34 := mkHid hb34
    have HB4 : Hid (Below w.heap.size w w4) := HB3.out.trans (hb34.mono HB3.out.size)
    have HX4 : Hid (w4.heap[w.heap.size]? = some (.cells #[.int .i64 g[at'].op, .int .i64 g[at'].num, .slice (some ⟨blk, offk, none⟩) g[at'].kids.length capk] 58)) := (hb34.block _ (by have := HS3.out; omega)).trans HX3.out
    have HF4 : Hid (w4.heap[w3.heap.size]? = some (.cells #[.int .i64 g[b0].op, .int .i64 g[b0].num, .slice ad0 g[b0].kids.length cap0] 58)) := by rw [hw4]; exact Deep.blk_alloc_new _ _
    have HO4 : Hid (OwnC w4 (w.heap.size + 1) (fun b => w.heap.size + 1 ≤ b) g (.slice (some ⟨b5, 0, none⟩) g.length cap2)) := HO3.out.next (fun _ h _ => h) (fun k _ hz => hb34.block k hz) (fun k _ hz => hb34.block k hz)
    have HS4 : Hid (w.heap.size + 1 ≤ w4.heap.size) := Nat.le_trans HS3.out hb34.size
    have x0 := old_cell (cell_of_blk HX3.out 0 _ rfl) (.cells #[.int .i64 g[b0].op, .int .i64 g[b0].num, .slice ad0 g[b0].kids.length cap0] 58)
    have x2 := old_cell (cell_of_blk HX3.out 2 _ rfl) (.cells #[.int .i64 g[b0].op, .int .i64 g[b0].num, .slice ad0 g[b0].kids.length cap0] 58)
    rw [← hw4] at x0 x2
    have z1 := cell_of_blk HF4.out 1 _ rfl
    have z2 := cell_of_blk HF4.out 2 _ rfl
    have hatI : (at' : Int) < (g.length : Int) := by omega
    have HOB : Hid (opAt g b0 = g[b0].op) := opAt_at b0 hbl0
    clear hw4 hb34
    obtain ⟨ys, hys⟩ := HO4.out.row
    have HYS := mkHid hys
    clear hys
    rcases HR.out with ⟨h67, b, hb, hb5⟩ | ⟨h10, b, hb, hb2⟩ | ⟨h89, -, b1, hb1, hb12⟩
    · obtain rfl : b0 = b := Option.some.inj (HB0.out.symm.trans hb)
      have hk2 : g[b0].kids.length = 2 := by
        have h1 := kids_op HG.out b0 hbl0
        rw [hb5] at h1
        have e : cArity 5 = 2 := by decide
        omega
      rcases h67 with h6 | h7
      · obtain ⟨hke0, -⟩ := kidAt_get HG.out b0 hbl0 0 (by omega)
        have HVC : Hid (opCell g at' = indTo (kidAt g b0 0)) := by
          unfold Hid opCell; rw [if_pos h6, folAt_some HB0.out]
        obtain ⟨bk0, ok0, rfl, dkw⟩ := HKK0.out.at 0 (by omega)
        rw [hke0] at dkw
        have dk := (HB34.out.cell (p := ⟨bk0, ok0 + 0, none⟩) (cell_lt dkw)).trans dkw
        rw [Nat.add_zero] at dk
        have hkl2 : 1 < g[b0].kids.length := by omega
        obtain ⟨kv, hkv⟩ : ∃ kv, kv = kidAt g b0 0 := ⟨_, rfl⟩
        rw [← hkv] at HVC dk
        have hys2 := World.ownsRow.alloc HYS.out (.cells #[.int .i64 (kv : Int)] 3)
        obtain ⟨q0, y0⟩ := own_cell hys2 (at' * 3) (by omega)
        have f0 := hys2.frozenAt (at' * 3)
        obtain ⟨q1, y1⟩ := own_cell hys2 (at' * 3 + 1) (by omega)
        have f1 := hys2.frozenAt (at' * 3 + 1)
        obtain ⟨q2, y2⟩ := own_cell hys2 (at' * 3 + 2) (by omega)
        have f2 := hys2.frozenAt (at' * 3 + 2)
        have HFIN := mkHid (set_fin (o := .cells #[.int .i64 (kv : Int)] 3) (c := indTo kv) (kv := .slice (some ⟨w4.heap.size, 0, none⟩) 1 1) (at' := at') HO4.out (fun _ h => h) ha HS4.out HB4.out (Nat.le_succ _) (ind_i64 kv) (krow_one w4 kv))
        have hz4 : w4.heap.size = w3.heap.size + 1 := by rw [HW4.out]; exact Deep.nblk_alloc _ _
        rw [hz4] at HFIN
        clear hys2 hkv hz4
        rw [HOA.out] at h6
        have t6 : (g[at'].op == 6) = true := by simp [h6]
        clear h6 hb hb5 hke0 dkw hk2
        have hw4 := HW4.out
        clear HW4
        subst hw4
        go_wp2_with fail
        go_ret2
        rw [HV.out, HVC.out]
        exact ⟨_, rfl, HFIN.out.1, HFIN.out.2⟩
      · obtain ⟨hke0, -⟩ := kidAt_get HG.out b0 hbl0 1 (by omega)
        have HVC : Hid (opCell g at' = indTo (kidAt g b0 1)) := by
          unfold Hid opCell; rw [if_neg (by omega), if_pos h7, folAt_some HB0.out]
        obtain ⟨bk0, ok0, rfl, dkw⟩ := HKK0.out.at 1 (by omega)
        rw [hke0] at dkw
        have dk := (HB34.out.cell (p := ⟨bk0, ok0 + 1, none⟩) (cell_lt dkw)).trans dkw
        have hkl2 : 1 < g[b0].kids.length := by omega
        obtain ⟨kv, hkv⟩ : ∃ kv, kv = kidAt g b0 1 := ⟨_, rfl⟩
        rw [← hkv] at HVC dk
        have hys2 := World.ownsRow.alloc HYS.out (.cells #[.int .i64 (kv : Int)] 3)
        obtain ⟨q0, y0⟩ := own_cell hys2 (at' * 3) (by omega)
        have f0 := hys2.frozenAt (at' * 3)
        obtain ⟨q1, y1⟩ := own_cell hys2 (at' * 3 + 1) (by omega)
        have f1 := hys2.frozenAt (at' * 3 + 1)
        obtain ⟨q2, y2⟩ := own_cell hys2 (at' * 3 + 2) (by omega)
        have f2 := hys2.frozenAt (at' * 3 + 2)
        have HFIN := mkHid (set_fin (o := .cells #[.int .i64 (kv : Int)] 3) (c := indTo kv) (kv := .slice (some ⟨w4.heap.size, 0, none⟩) 1 1) (at' := at') HO4.out (fun _ h => h) ha HS4.out HB4.out (Nat.le_succ _) (ind_i64 kv) (krow_one w4 kv))
        have hz4 : w4.heap.size = w3.heap.size + 1 := by rw [HW4.out]; exact Deep.nblk_alloc _ _
        rw [hz4] at HFIN
        clear hys2 hkv hz4
        rw [HOA.out] at h7
        have t6 : (g[at'].op == 6) = false := by simp [h7]
        have t7 : (g[at'].op == 7) = true := by simp [h7]
        clear h7 hb hb5 hke0 dkw hk2
        have hw4 := HW4.out
        clear HW4
        subst hw4
        go_wp2_with fail
        go_ret2
        rw [HV.out, HVC.out]
        exact ⟨_, rfl, HFIN.out.1, HFIN.out.2⟩
    · obtain rfl : b0 = b := Option.some.inj (HB0.out.symm.trans hb)
      have hk3 : g[at'].kids.length = 3 := by
        have h1 := kids_op HG.out at' ha
        rw [h10] at h1
        have e : cArity 10 = 3 := by decide
        omega
      have HNB : Hid (numAt g b0 = g[b0].num) := numAt_at b0 hbl0
      by_cases hz : g[b0].num = 0
      · obtain ⟨hke0, -⟩ := kidAt_get HG.out at' ha 1 (by omega)
        have HVC : Hid (opCell g at' = indTo (kidAt g at' 1)) := by
          unfold Hid opCell; rw [if_neg (by omega), if_neg (by omega), if_pos h10, folAt_some HB0.out, HNB.out, if_pos hz]
        obtain ⟨bk0, ok0, hek, dkw⟩ := HKK.out.at 1 (by omega)
        cases hek
        rw [hke0] at dkw
        have dk := (HB4.out.cell (p := ⟨blk, offk + 1, none⟩) (cell_lt dkw)).trans dkw
        have hkl2 : 2 < g[at'].kids.length := by omega
        obtain ⟨kv, hkv⟩ : ∃ kv, kv = kidAt g at' 1 := ⟨_, rfl⟩
        rw [← hkv] at HVC dk
        have hys2 := World.ownsRow.alloc HYS.out (.cells #[.int .i64 (kv : Int)] 3)
        obtain ⟨q0, y0⟩ := own_cell hys2 (at' * 3) (by omega)
        have f0 := hys2.frozenAt (at' * 3)
        obtain ⟨q1, y1⟩ := own_cell hys2 (at' * 3 + 1) (by omega)
        have f1 := hys2.frozenAt (at' * 3 + 1)
        obtain ⟨q2, y2⟩ := own_cell hys2 (at' * 3 + 2) (by omega)
        have f2 := hys2.frozenAt (at' * 3 + 2)
        have HFIN := mkHid (set_fin (o := .cells #[.int .i64 (kv : Int)] 3) (c := indTo kv) (kv := .slice (some ⟨w4.heap.size, 0, none⟩) 1 1) (at' := at') HO4.out (fun _ h => h) ha HS4.out HB4.out (Nat.le_succ _) (ind_i64 kv) (krow_one w4 kv))
        have hz4 : w4.heap.size = w3.heap.size + 1 := by rw [HW4.out]; exact Deep.nblk_alloc _ _
        rw [hz4] at HFIN
        clear hys2 hkv hz4
        rw [HOA.out] at h10
        have t6 : (g[at'].op == 6) = false := by simp [h10]
        have t7 : (g[at'].op == 7) = false := by simp [h10]
        have t10 : (g[at'].op == 10) = true := by simp [h10]
        have tz : (g[b0].num == 0) = true := by simp [hz]
        clear h10 hb hb2 hke0 dkw hz hk3
        have hw4 := HW4.out
        clear HW4
        subst hw4
        go_wp2_with fail
        go_ret2
        rw [HV.out, HVC.out]
        exact ⟨_, rfl, HFIN.out.1, HFIN.out.2⟩
      · obtain ⟨hke0, -⟩ := kidAt_get HG.out at' ha 2 (by omega)
        have HVC : Hid (opCell g at' = indTo (kidAt g at' 2)) := by
          unfold Hid opCell; rw [if_neg (by omega), if_neg (by omega), if_pos h10, folAt_some HB0.out, HNB.out, if_neg hz]
        obtain ⟨bk0, ok0, hek, dkw⟩ := HKK.out.at 2 (by omega)
        cases hek
        rw [hke0] at dkw
        have dk := (HB4.out.cell (p := ⟨blk, offk + 2, none⟩) (cell_lt dkw)).trans dkw
        have hkl2 : 2 < g[at'].kids.length := by omega
        obtain ⟨kv, hkv⟩ : ∃ kv, kv = kidAt g at' 2 := ⟨_, rfl⟩
        rw [← hkv] at HVC dk
        have hys2 := World.ownsRow.alloc HYS.out (.cells #[.int .i64 (kv : Int)] 3)
        obtain ⟨q0, y0⟩ := own_cell hys2 (at' * 3) (by omega)
        have f0 := hys2.frozenAt (at' * 3)
        obtain ⟨q1, y1⟩ := own_cell hys2 (at' * 3 + 1) (by omega)
        have f1 := hys2.frozenAt (at' * 3 + 1)
        obtain ⟨q2, y2⟩ := own_cell hys2 (at' * 3 + 2) (by omega)
        have f2 := hys2.frozenAt (at' * 3 + 2)
        have HFIN := mkHid (set_fin (o := .cells #[.int .i64 (kv : Int)] 3) (c := indTo kv) (kv := .slice (some ⟨w4.heap.size, 0, none⟩) 1 1) (at' := at') HO4.out (fun _ h => h) ha HS4.out HB4.out (Nat.le_succ _) (ind_i64 kv) (krow_one w4 kv))
        have hz4 : w4.heap.size = w3.heap.size + 1 := by rw [HW4.out]; exact Deep.nblk_alloc _ _
        rw [hz4] at HFIN
        clear hys2 hkv hz4
        rw [HOA.out] at h10
        have t6 : (g[at'].op == 6) = false := by simp [h10]
        have t7 : (g[at'].op == 7) = false := by simp [h10]
        have t10 : (g[at'].op == 10) = true := by simp [h10]
        have tz : (g[b0].num == 0) = false := by simp [hz]
        clear h10 hb hb2 hke0 dkw hz hk3
        have hw4 := HW4.out
        clear HW4
        subst hw4
        go_wp2_with fail
        go_ret2
        rw [HV.out, HVC.out]
        exact ⟨_, rfl, HFIN.out.1, HFIN.out.2⟩
    · obtain ⟨b, hb, hb2⟩ : ∃ b, followN g g.length (kidAt g at' 0) = some b ∧ opAt g b = 2 := by
        rcases HR.out with ⟨h, -⟩ | ⟨h, -⟩ | ⟨-, h, -⟩
        · omega
        · omega
        · exact h
      obtain rfl : b0 = b := Option.some.inj (HB0.out.symm.trans hb)
      have hk1 : 1 < g[at'].kids.length := by
        have h1 := kids_op HG.out at' ha
        rcases h89 with h | h <;> rw [h] at h1 <;> have e : cArity 8 = 2 ∧ cArity 9 = 2 := by decide
        all_goals omega
      obtain ⟨hke1, hkl1⟩ := kidAt_get HG.out at' ha 1 hk1
      have hbl1 := (followN_lt HG.out _ _ _ hkl1 hb1).1
      have HKL1 := mkHid hkl1
      have HBF1 := mkHid hb1
      have HR0 := mkHid (num_range HG.out b0 hbl0 (by rw [← HOB.out]; exact hb2))
      have HR1 := mkHid (num_range HG.out b1 hbl1 (by rw [← opAt_at b1 hbl1]; exact hb12))
      obtain ⟨nv, hnv⟩ : ∃ nv, nv = numberOf g[at'].op g[b0].num g[b1].num := ⟨_, rfl⟩
      have HVC : Hid (opCell g at' = numC nv) := by
        unfold Hid opCell
        rw [if_neg (by omega), if_neg (by omega), if_neg (by omega), folAt_some HB0.out, folAt_some hb1, numAt_at b0 hbl0, numAt_at b1 hbl1, HOA.out, hnv]
      have HNR : Hid (0 ≤ nv ∧ nv ≤ 999) := by rw [hnv]; exact numberOf_range _ _ _
      have HCN : Hid (∀ W : World, Calls Tryz.prog 64 #[.int .i64 g[at'].op, .int .i64 g[b0].num, .int .i64 g[b1].num] W fun e w' => e = .returned (.int .i64 nv) ∧ W = w') := fun W => by
        rw [hnv]; exact l2Number_calls _ _ _ (by rw [← HOA.out]; exact h89) HR0.out HR1.out W
      obtain ⟨bk1, ok1, hek, dkw⟩ := HKK.out.at 1 hk1
      cases hek
      rw [hke1] at dkw
      have dk := (HB4.out.cell (p := ⟨blk, offk + 1, none⟩) (cell_lt dkw)).trans dkw
      have HDK := mkHid dkw
      rw [HOA.out] at h89
      have t6 : (g[at'].op == 6) = false := by simp; omega
      have t7 : (g[at'].op == 7) = false := by simp; omega
      have t10 : (g[at'].op == 10) = false := by simp; omega
      have hw4 := HW4.out
      clear HW4 hb hb2 hb1 hb12 hnv hke1 hkl1 dkw h89
      subst hw4
      go_wp2_with fail
      refine (l3Follow_calls g (kidAt g at' 1) _ _ (HK.out.next HB4.out) ⟨_, HG.out⟩ HKL1.out).mono ?_
      rintro e w5 ⟨rfl, hb5⟩
      rw [follow_enough HG.out _ HKL1.out, HBF1.out]
      have e3 : folI (some b1) = (b1 : Int) := rfl
      rw [e3]
      have HB5 : Hid (Below w.heap.size w w5) := HB4.out.trans (hb5.mono HB4.out.size)
      have hz4 : (w3.alloc (.cells #[.int .i64 g[b0].op, .int .i64 g[b0].num, .slice ad0 g[b0].kids.length cap0] 58)).heap.size = w3.heap.size + 1 := Deep.nblk_alloc _ _
      have HX5 := mkHid ((hb5.block _ (by have := HS4.out; omega)).trans HX4.out)
      have HF5 := mkHid ((hb5.block _ (by rw [hz4]; omega)).trans HF4.out)
      have HO5 : Hid (OwnC w5 (w.heap.size + 1) (fun b => w.heap.size + 1 ≤ b) g (.slice (some ⟨b5, 0, none⟩) g.length cap2)) := HO4.out.next (fun _ h _ => h) (fun k _ hz => hb5.block k hz) (fun k _ hz => hb5.block k hz)
      have HS5 : Hid (w.heap.size + 1 ≤ w5.heap.size) := Nat.le_trans HS4.out hb5.size
      obtain ⟨bl6, off6, r1, he6, g10, g11, g12, -, -, hkk1⟩ := (HK.out.next HB5.out).at b1 hbl1
      cases he6
      obtain ⟨ad1, cap1, rfl, -, -, -⟩ := id hkk1
      clear hb5 hkk1 x0 x2 z1 z2 dk
      have x0 := old_cell (cell_of_blk HX5.out 0 _ rfl) (.cells #[.int .i64 g[b1].op, .int .i64 g[b1].num, .slice ad1 g[b1].kids.length cap1] 58)
      have z1 := old_cell (cell_of_blk HF5.out 1 _ rfl) (.cells #[.int .i64 g[b1].op, .int .i64 g[b1].num, .slice ad1 g[b1].kids.length cap1] 58)
      have s1 := box_cell w5 #[.int .i64 g[b1].op, .int .i64 g[b1].num, .slice ad1 g[b1].kids.length cap1] 58 1 _ rfl
      obtain ⟨ys5, hys5⟩ := HO5.out.row
      have hys2 := World.ownsRow.alloc hys5 (.cells #[.int .i64 g[b1].op, .int .i64 g[b1].num, .slice ad1 g[b1].kids.length cap1] 58)
      obtain ⟨q0, y0⟩ := own_cell hys2 (at' * 3) (by omega)
      obtain ⟨q1, y1⟩ := own_cell hys2 (at' * 3 + 1) (by omega)
      obtain ⟨q2, y2⟩ := own_cell hys2 (at' * 3 + 2) (by omega)
      have f0 := hys2.frozenAt (at' * 3)
      have f1 := hys2.frozenAt (at' * 3 + 1)
      have f2 := hys2.frozenAt (at' * 3 + 2)
      have HFIN := mkHid (set_fin (o := .cells #[.int .i64 g[b1].op, .int .i64 g[b1].num, .slice ad1 g[b1].kids.length cap1] 58) (c := numC nv) (kv := .slice none 0 0) (at' := at') HO5.out (fun _ h => h) ha HS5.out HB5.out (Nat.le_succ _) (num_i64 HNR.out.1 HNR.out.2) (krow_nil _ _ _))
      clear hys5 hys2 hz4
      go_wp2_with fail
      refine (HCN.out _).mono ?_
      rintro e w7 ⟨rfl, rfl⟩
      go_wp2_with fail
      go_ret2
      rw [HV.out, HVC.out]
      exact ⟨_, rfl, HFIN.out.1, HFIN.out.2⟩
end Go.Proofs.YtjpjikfmdaejeaaGreatDoor
/-
  THE MODEL's l4Redex.
-/
namespace Go.Proofs.YtjpjikfmdaejeaaGreatDoor
set_option linter.unusedVariables false
set_option linter.unusedSimpArgs false
open Go.RowKit

theorem ret_ii {a b c d : Int} (h : a = b) (h' : c = d) : Ending.returned (.tuple #[.int .i64 a, .int .i64 c]) = .returned (.tuple #[.int .i64 b, .int .i64 d]) := by rw [h, h']
/-- the contract of l4Redex with n operands left -/
def L4R (ds : List Df) (g : List Ce) (n : Nat) : Prop := ∀ (seen a : Nat) (c v : Value) (w : World), DIn w ds c → CIn w g v → a < g.length → seen + n = g.length + 1 → valB (arsOf ds) g a = false →
  Calls Tryz.prog 44 #[c, v, .int .i64 (a : Int), .int .i64 (seen : Int)] w fun e w' => e = .returned (.tuple #[.int .i64 (rdI (redexN (arsOf ds) g n a)), .int .i64 (rdC (redexN (arsOf ds) g n a) : Int)]) ∧ Below w.heap.size w w'

set_option maxRecDepth 100000 in
set_option maxHeartbeats 6400000 in
theorem l4R_step (ds : List Df) (g : List Ce) (n : Nat) (hg : graphB g ds.length = true) (hp : progB ds = true) (ih : ∀ m, n = m + 1 → L4R ds g m) : L4R ds g n := by
  intro seen a c v w hd hk ha hsn hv
  have HD : Hid (DIn w ds c) := hd
  have HK : Hid (CIn w g v) := hk
  have HG := mkHid hg
  have HP := mkHid hp
  have HIH := mkHid ih
  have HVA := mkHid hv
  have HSN := mkHid hsn
  obtain ⟨ad, cap, rfl, hl, hm, -⟩ := hk
  obtain ⟨adp, capp, rfl, hlp, hmp, -⟩ := hd
  have h400 : g.length ≤ 400 := graphB_len hg
  have hseen : seen ≤ 401 := by omega
  unfold maxLen at hm hmp
  clear hg hp ih hv hsn
  go_enter Tryz.func44, Tryz.ntmps44
  go_wp2_with fail
  refine (l4Spine_calls g a _ _ HK.out ⟨_, HG.out⟩ ha).mono ?_
  rintro e w1 ⟨xs, v1, hxs, rfl, hi1, hb1⟩
  have HB1 : Hid (Below w.heap.size w w1) := hb1
  have HXS := mkHid hxs
  have HI1 : Hid (IntRow w1 w.heap.size (plI xs) v1) := hi1
  have hlx : xs.length ≤ 9223372036854775807 := by
    obtain ⟨ad2, cap2, rfl, l1, l2, -⟩ := hi1
    rw [plI_length] at l1
    unfold maxLen at l2
    omega
  obtain ⟨ad2, cap2, rfl, -, -, -⟩ := hi1
  rw [plI_length]
  rw [plI_length] at HI1
  clear hb1 hxs
  cases hs : spine g a with
  | none =>
    have HV : Hid (redexN (arsOf ds) g n a = none) := redexN_none hs
    have e1 : spI none = -1 := rfl
    rw [e1]
    clear hs
    go_wp2_with fail
    go_ret2
    exact ⟨ret_ii (by rw [HV.out]; rfl) (by rw [HV.out]; rfl), HB1.out⟩
  | some x =>
    obtain ⟨f, ws⟩ := x
    obtain rfl : xs = ws := HXS.out _ hs
    have hok := spine_ok HG.out ha hs
    have hff : f < g.length := hok.1
    have HOK := mkHid hok
    have HS : Hid (spine g a = some (f, xs)) := hs
    have e1 : spI (some (f, xs)) = (f : Int) := rfl
    rw [e1]
    have hbn : ¬ ((f : Int) < 0) := by omega
    have HOP : Hid (opAt g f = g[f].op) := opAt_at f hff
    clear hs hok
    by_cases hsl : g.length < seen
    · have HV : Hid (redexN (arsOf ds) g n a = none) := by
        have : n = 0 := by have := HSN.out; omega
        subst this; rfl
      go_wp2_with fail
      go_ret2
      exact ⟨ret_ii (by rw [HV.out]; rfl) (by rw [HV.out]; rfl), HB1.out⟩
    obtain ⟨m, rfl⟩ : ∃ m, n = m + 1 := ⟨n - 1, by have := HSN.out; omega⟩
    have HIM : Hid (L4R ds g m) := HIH.out m rfl
    obtain ⟨bl, off, r, rfl, c0, c1, c2, -, -, hkk⟩ := (HK.out.next HB1.out).at f hff
    obtain ⟨adk, capk, rfl, -, -, -⟩ := id hkk
    clear HIH
    by_cases ho3 : g[f].op = 3
    · obtain ⟨nn, hn, hnl⟩ := glob_num HG.out f hff ho3
      have hnl' : nn < ds.length := by omega
      have h0 := prog_ar HP.out nn hnl'
      have hle := call_idx (n := nn) HS.out (by rw [HOP.out]; exact ho3) (by rw [numAt_at f hff]; exact hn) hnl' HVA.out
      obtain ⟨ar, har⟩ : ∃ ar : Nat, ds[nn].1 = (ar : Int) := ⟨ds[nn].1.toNat, by omega⟩
      have hrd : redexN (arsOf ds) g (m + 1) a = some (callAt f xs (ar : Int)) := by
        rw [redexN_glob HS.out (by rw [HOP.out]; exact ho3), numAt_at f hff, hn, arOf_at ds nn hnl', har]
      have t3 : (g[f].op == 3) = true := by simp [ho3]
      obtain ⟨blp, offp, rp, rfl, d0, d1, d2, d3, -⟩ := (HD.out.next HB1.out).at nn hnl'
      rw [hn] at c1
      rw [har] at d0
      rw [har] at hle
      have hle2 : ar ≤ xs.length := by omega
      by_cases hz : ar = 0
      · subst hz
        have HV : Hid (redexN (arsOf ds) g (m + 1) a = some f) := by rw [Hid, hrd, Int.ofNat_zero, callAt_zero]
        have d0' : w1.cell? ⟨blp, offp + nn * 4, none⟩ = some (.int .i64 0) := d0
        clear ho3 hn d1 d2 d3 hrd har hkk h0 hle hle2 d0
        go_wp2_with fail
        go_ret2
        exact ⟨ret_ii (by rw [HV.out]; rfl) (by rw [HV.out]; rfl), HB1.out⟩
      · obtain ⟨q, hq⟩ : ∃ q, q + ar = xs.length := ⟨xs.length - ar, by omega⟩
        have hql : q < xs.length := by omega
        have HV : Hid (redexN (arsOf ds) g (m + 1) a = some xs[q]) := by rw [Hid, hrd, callAt_at hz hq]
        obtain ⟨ad4, cap4, he4, hcl4, -, hr4⟩ := HI1.out
        rw [plI_length] at hcl4
        simp only [Value.slice.injEq] at he4
        obtain ⟨rfl, -, rfl⟩ := he4
        have hne : ¬ plI xs = [] := by intro e; have h1 := plI_length xs; rw [e, List.length_nil] at h1; omega
        rcases hr4 with hr4 | ⟨gb, fb, rfl, hlo, hrow, hfb⟩
        · exact absurd hr4 hne
        have q0 : w1.cell? ⟨gb, xs.length - ar, none⟩ = some (.int .i64 (xs[q] : Int)) := by
          have hqe : xs.length - ar = q := by omega
          have hqp : q < (plI xs).length := by rw [plI_length]; exact hql
          have h1 := hfb q hqp
          rw [hqe, hrow.cell (by omega), h1]
          simp [plI]
        have tq : ((xs.length : Int) - (ar : Int) == (xs.length : Int)) = false := by rw [beq_eq_false_iff_ne]; omega
        have hq0 : 0 ≤ (xs.length : Int) - (ar : Int) := by omega
        have hq1 : (xs.length : Int) - (ar : Int) < (xs.length : Int) := by omega
        clear ho3 hn d1 d2 d3 hrd har hkk h0 hle hrow hfb hne hcl4
        go_wp2_with fail
        go_ret2
        exact ⟨ret_ii (by rw [HV.out]; rfl) (by rw [HV.out]; rfl), HB1.out⟩
    have t3 : (g[f].op == 3) = false := by simp [ho3]
    have HO3 := mkHid ho3
    have HC0 := mkHid c0
    have HC1 := mkHid c1
    have HC2 := mkHid c2
    have HKK := mkHid hkk
    clear c1 c2 hkk ho3
    go_wp2_with fail
    refine (l4Value_calls ds g f _ _ _ (HD.out.next HB1.out) (HK.out.next HB1.out) HG.out hff).mono ?_
    rintro e w2 ⟨rfl, hb2⟩
    have HB2 : Hid (Below w.heap.size w w2) := HB1.out.trans (hb2.mono HB1.out.size)
    have HS12 : Hid (Below w1.heap.size w1 w2) := hb2
    clear hb2 c0 t3
    have hself : spine g f = some (f, []) := spine_self hff HOK.out.2.1 HOK.out.2.2.1
    by_cases ho25 : g[f].op = 2 ∨ g[f].op = 5
    · have HV : Hid (redexN (arsOf ds) g (m + 1) a = none) := redexN_val HS.out (by rw [HOP.out]; exact ho25)
      have hvf : valB (arsOf ds) g f = true := by rw [valB_num hself (by rw [HOP.out]; exact ho25)]; rfl
      rw [hvf]
      clear ho25 hself hvf
      go_wp2_with fail
      go_ret2
      exact ⟨ret_ii (by rw [HV.out]; rfl) (by rw [HV.out]; rfl), HB2.out⟩
    have hvf : valB (arsOf ds) g f = false := valB_no hself (by rw [HOP.out]; omega) (by rw [HOP.out]; omega) (by rw [HOP.out]; exact HO3.out)
    rw [hvf]
    have hkinds := op_kinds HG.out f hff (by rw [← HOP.out]; exact HOK.out.2.1) (by rw [← HOP.out]; exact HOK.out.2.2.1) (by omega) HO3.out (by omega)
    have HRN : Hid (redexN (arsOf ds) g (m + 1) a = (match waits (arsOf ds) g f with | none => none | some none => some f | some (some k) => redexN (arsOf ds) g m k)) := redexN_op HS.out (by rw [HOP.out]; exact HO3.out) (by rw [HOP.out]; omega) (by rw [HOP.out]; omega)
    have HKI := mkHid hkinds
    have hk0 : 0 < g[f].kids.length := by have := hkinds.2; split at this <;> (try split at this) <;> omega
    obtain ⟨hk0e, hk0l⟩ := kidAt_get HG.out f hff 0 hk0
    have HK0 := mkHid hk0l
    clear hself hvf ho25 hkinds
    -- the cell in a box
    have c0 := (World.cell?_of_block (a := ⟨bl, off + f * 3, none⟩) (HS12.out.block bl (cell_lt HC0.out))).trans HC0.out
    have c1 := (World.cell?_of_block (a := ⟨bl, off + f * 3 + 1, none⟩) (HS12.out.block bl (cell_lt HC0.out))).trans HC1.out
    have c2 := (World.cell?_of_block (a := ⟨bl, off + f * 3 + 2, none⟩) (HS12.out.block bl (cell_lt HC0.out))).trans HC2.out
    obtain ⟨bl2, off2, rfl, d0w⟩ := HKK.out.at 0 hk0
    rw [hk0e, Nat.add_zero] at d0w
    obtain ⟨w3, hw3⟩ : ∃ w3 : World, w3 = w2.alloc (.cells #[.int .i64 g[f].op, .int .i64 g[f].num, .slice (some ⟨bl2, off2, none⟩) g[f].kids.length capk] 58) := ⟨_, rfl⟩
    have HB23 : Hid (Below w2.heap.size w2 w3) := by rw [hw3]; exact box_below _ _
    have HB3 : Hid (Below w.heap.size w w3) := HB2.out.trans (HB23.out.mono HB2.out.size)
    have HBX3 : Hid (w3.heap[w2.heap.size]? = some (.cells #[.int .i64 g[f].op, .int .i64 g[f].num, .slice (some ⟨bl2, off2, none⟩) g[f].kids.length capk] 58)) := by rw [hw3]; exact Deep.blk_alloc_new _ _
    have HW3 := mkHid hw3
    have HD3 : Hid (w3.cell? ⟨bl2, off2, none⟩ = some (.int .i64 (kidAt g f 0 : Int))) := ((HS12.out.trans (HB23.out.mono HS12.out.size)).cell (p := ⟨bl2, off2, none⟩) (cell_lt d0w)).trans d0w
    have hd2 : w2.cell? ⟨bl2, off2, none⟩ = some (.int .i64 (kidAt g f 0 : Int)) := (HS12.out.cell (p := ⟨bl2, off2, none⟩) (cell_lt d0w)).trans d0w
    have hd3 := old_cell hd2 (.cells #[.int .i64 g[f].op, .int .i64 g[f].num, .slice (some ⟨bl2, off2, none⟩) g[f].kids.length capk] 58)
    clear d0w hk0e hw3 hd2 hk0l
    go_wp2_with fail
    rw [← HW3.out]
    clear c0 c1 c2 hd3
    refine (l4Value_calls ds g (kidAt g f 0) _ _ w3 (HD.out.next HB3.out) (HK.out.next HB3.out) HG.out HK0.out).mono ?_
    rintro e w4 ⟨rfl, hb4⟩
    have HB34 : Hid (Below w3.heap.size w3 w4) := hb4
    have HB4 : Hid (Below w.heap.size w w4) := HB3.out.trans (hb4.mono HB3.out.size)
    have HBX4 : Hid (w4.heap[w2.heap.size]? = some (.cells #[.int .i64 g[f].op, .int .i64 g[f].num, .slice (some ⟨bl2, off2, none⟩) g[f].kids.length capk] 58)) := (hb4.block _ (cellsOf_lt HBX3.out)).trans HBX3.out
    have HD4 : Hid (w4.cell? ⟨bl2, off2, none⟩ = some (.int .i64 (kidAt g f 0 : Int))) := (hb4.cell (p := ⟨bl2, off2, none⟩) (cell_lt HD3.out)).trans HD3.out
    clear hb4
    have b0 := cell_of_blk HBX4.out 0 _ rfl
    have b2 := cell_of_blk HBX4.out 2 _ rfl
    have d4 := HD4.out
    cases hv0 : valB (arsOf ds) g (kidAt g f 0) with
    | false =>
      have HV : Hid (redexN (arsOf ds) g (m + 1) a = redexN (arsOf ds) g m (kidAt g f 0)) := by
        have hw : waits (arsOf ds) g f = some (some (kidAt g f 0)) := by
          unfold waits
          repeat' split
          all_goals exact wait_go hv0
        rw [Hid, HRN.out, hw]
      have HV0 := mkHid hv0
      clear hv0
      go_wp2_with fail
      have hsn2 : seen + 1 + m = g.length + 1 := by have := HSN.out; omega
      have hcall := HIM.out (seen + 1) (kidAt g f 0) _ _ w4 (HD.out.next HB4.out) (HK.out.next HB4.out) HK0.out hsn2 HV0.out
      rw [Int.natCast_add, Int.natCast_one] at hcall
      refine hcall.mono ?_
      rintro e w5 ⟨rfl, hb5⟩
      have HB5 : Hid (Below w.heap.size w w5) := HB4.out.trans (hb5.mono HB4.out.size)
      clear hb5 hcall
      go_wp2_with fail
      go_ret2
      exact ⟨ret_ii (by rw [HV.out]) (by rw [HV.out]), HB5.out⟩
    | true =>
      obtain ⟨b, hbf⟩ := val_follow hv0
      have HV0 := mkHid hv0
      have HBF := mkHid hbf
      have hbl := (followN_lt HG.out _ _ _ HK0.out hbf).1
      clear hv0 hbf
      go_wp2_with fail
      refine (l3Follow_calls g (kidAt g f 0) _ w4 (HK.out.next HB4.out) ⟨_, HG.out⟩ HK0.out).mono ?_
      rintro e w5 ⟨rfl, hb5⟩
      rw [follow_enough HG.out _ HK0.out, HBF.out]
      have e2 : folI (some b) = (b : Int) := rfl
      rw [e2]
      have HB45 : Hid (Below w4.heap.size w4 w5) := hb5
      have HB5 : Hid (Below w.heap.size w w5) := HB4.out.trans (hb5.mono HB4.out.size)
      have HBX5 : Hid (w5.heap[w2.heap.size]? = some (.cells #[.int .i64 g[f].op, .int .i64 g[f].num, .slice (some ⟨bl2, off2, none⟩) g[f].kids.length capk] 58)) := (hb5.block _ (cellsOf_lt HBX4.out)).trans HBX4.out
      clear b0 b2 d4
      have b0 := cell_of_blk HBX5.out 0 _ rfl
      have b2 := cell_of_blk HBX5.out 2 _ rfl
      obtain ⟨bl6, off6, r6, he6, f0, -, -, -, -, -⟩ := (HK.out.next HB5.out).at b hbl
      cases he6
      have HOB : Hid (opAt g b = g[b].op) := opAt_at b hbl
      clear hb5
      by_cases h67 : g[f].op = 6 ∨ g[f].op = 7
      · have HW : Hid (waits (arsOf ds) g f = waitOne (arsOf ds) g (kidAt g f 0) 5 (some none)) := waits1 (by rw [HOP.out]; exact h67)
        by_cases h5 : g[b].op = 5
        · have HV : Hid (redexN (arsOf ds) g (m + 1) a = some f) := by rw [Hid, HRN.out, HW.out, wait_ok HV0.out HBF.out (by rw [HOB.out]; exact h5)]
          have t5 : (g[b].op != 5) = false := by simp [h5]
          clear h5
          rcases h67 with h6 | h7
          · have t6 : (g[f].op == 6) = true := by simp [h6]
            clear h6
            go_wp2_with fail
            go_ret2
            exact ⟨ret_ii (by rw [HV.out]; rfl) (by rw [HV.out]; rfl), HB5.out⟩
          · have t6 : (g[f].op == 6) = false := by simp [h7]
            have t7 : (g[f].op == 7) = true := by simp [h7]
            clear h7
            go_wp2_with fail
            go_ret2
            exact ⟨ret_ii (by rw [HV.out]; rfl) (by rw [HV.out]; rfl), HB5.out⟩
        · have HV : Hid (redexN (arsOf ds) g (m + 1) a = none) := by rw [Hid, HRN.out, HW.out, wait_stuck HV0.out HBF.out (by rw [HOB.out]; exact h5)]
          have t5 : (g[b].op != 5) = true := by simp [h5]
          clear h5
          rcases h67 with h6 | h7
          · have t6 : (g[f].op == 6) = true := by simp [h6]
            clear h6
            go_wp2_with fail
            go_ret2
            exact ⟨ret_ii (by rw [HV.out]; rfl) (by rw [HV.out]; rfl), HB5.out⟩
          · have t6 : (g[f].op == 6) = false := by simp [h7]
            have t7 : (g[f].op == 7) = true := by simp [h7]
            clear h7
            go_wp2_with fail
            go_ret2
            exact ⟨ret_ii (by rw [HV.out]; rfl) (by rw [HV.out]; rfl), HB5.out⟩
      have t6 : (g[f].op == 6) = false := by simp; omega
      have t7 : (g[f].op == 7) = false := by simp; omega
      by_cases h2 : g[b].op = 2
      · have t2 : (g[b].op != 2) = false := by simp [h2]
        have HB2E : Hid (opAt g b = 2) := by rw [Hid, HOB.out]; exact h2
        by_cases h10 : g[f].op = 10
        · have HV : Hid (redexN (arsOf ds) g (m + 1) a = some f) := by rw [Hid, HRN.out, waits10 (by rw [HOP.out]; exact h10), wait_ok HV0.out HBF.out HB2E.out]
          have t10 : (g[f].op == 10) = true := by simp [h10]
          clear h2 h10 h67
          go_wp2_with fail
          go_ret2
          exact ⟨ret_ii (by rw [HV.out]; rfl) (by rw [HV.out]; rfl), HB5.out⟩
        · have t10 : (g[f].op == 10) = false := by simp [h10]
          have h89 : opAt g f = 8 ∨ opAt g f = 9 := by rw [HOP.out]; have := HKI.out.1; omega
          have HW : Hid (waits (arsOf ds) g f = waitOne (arsOf ds) g (kidAt g f 1) 2 (some none)) := by rw [Hid, waits2 h89, wait_ok HV0.out HBF.out HB2E.out]
          have hk1 : 1 < g[f].kids.length := by have := HKI.out.2; rw [if_neg h67, if_neg h10] at this; omega
          obtain ⟨hk1e, hk1l⟩ := kidAt_get HG.out f hff 1 hk1
          have HK1 := mkHid hk1l
          obtain ⟨bl7, off7, he7, d1w⟩ := HKK.out.at 1 hk1
          cases he7
          rw [hk1e] at d1w
          have HD15 : Hid (w5.cell? ⟨bl2, off2 + 1, none⟩ = some (.int .i64 (kidAt g f 1 : Int))) := by
            have h15 : Below w1.heap.size w1 w5 := HS12.out.trans ((HB23.out.trans ((HB34.out.trans (HB45.out.mono HB34.out.size)).mono HB23.out.size)).mono HS12.out.size)
            exact (h15.cell (p := ⟨bl2, off2 + 1, none⟩) (cell_lt d1w)).trans d1w
          have d5 := HD15.out
          clear h2 h10 h67 h89 hk1e hk1l d1w
          go_wp2_with fail
          refine (l4Value_calls ds g (kidAt g f 1) _ _ w5 (HD.out.next HB5.out) (HK.out.next HB5.out) HG.out HK1.out).mono ?_
          rintro e w6 ⟨rfl, hb6⟩
          have HB6 : Hid (Below w.heap.size w w6) := HB5.out.trans (hb6.mono HB5.out.size)
          have HBX6 : Hid (w6.heap[w2.heap.size]? = some (.cells #[.int .i64 g[f].op, .int .i64 g[f].num, .slice (some ⟨bl2, off2, none⟩) g[f].kids.length capk] 58)) := (hb6.block _ (cellsOf_lt HBX5.out)).trans HBX5.out
          have d6 := (hb6.cell (p := ⟨bl2, off2 + 1, none⟩) (cell_lt HD15.out)).trans HD15.out
          clear hb6 b0 b2 d5 f0
          have b2 := cell_of_blk HBX6.out 2 _ rfl
          cases hv1 : valB (arsOf ds) g (kidAt g f 1) with
          | false =>
            have HV : Hid (redexN (arsOf ds) g (m + 1) a = redexN (arsOf ds) g m (kidAt g f 1)) := by rw [Hid, HRN.out, HW.out, wait_go hv1]
            have HV1 := mkHid hv1
            clear hv1
            go_wp2_with fail
            have hsn2 : seen + 1 + m = g.length + 1 := by have := HSN.out; omega
            have hcall := HIM.out (seen + 1) (kidAt g f 1) _ _ w6 (HD.out.next HB6.out) (HK.out.next HB6.out) HK1.out hsn2 HV1.out
            rw [Int.natCast_add, Int.natCast_one] at hcall
            refine hcall.mono ?_
            rintro e w7 ⟨rfl, hb7⟩
            have HB7 : Hid (Below w.heap.size w w7) := HB6.out.trans (hb7.mono HB6.out.size)
            clear hb7 hcall
            go_wp2_with fail
            go_ret2
            exact ⟨ret_ii (by rw [HV.out]) (by rw [HV.out]), HB7.out⟩
          | true =>
            obtain ⟨b1, hbf1⟩ := val_follow hv1
            have HV1 := mkHid hv1
            have HBF1 := mkHid hbf1
            have hbl1 := (followN_lt HG.out _ _ _ HK1.out hbf1).1
            clear hv1 hbf1
            go_wp2_with fail
            refine (l3Follow_calls g (kidAt g f 1) _ w6 (HK.out.next HB6.out) ⟨_, HG.out⟩ HK1.out).mono ?_
            rintro e w7 ⟨rfl, hb7⟩
            rw [follow_enough HG.out _ HK1.out, HBF1.out]
            have e3 : folI (some b1) = (b1 : Int) := rfl
            rw [e3]
            have HB7 : Hid (Below w.heap.size w w7) := HB6.out.trans (hb7.mono HB6.out.size)
            obtain ⟨bl8, off8, r8, he8, f1, -, -, -, -, -⟩ := (HK.out.next HB7.out).at b1 hbl1
            cases he8
            have HOB1 : Hid (opAt g b1 = g[b1].op) := opAt_at b1 hbl1
            clear hb7 b2 d6
            by_cases h2 : g[b1].op = 2
            · have HV : Hid (redexN (arsOf ds) g (m + 1) a = some f) := by rw [Hid, HRN.out, HW.out, wait_ok HV1.out HBF1.out (by rw [HOB1.out]; exact h2)]
              have t2 : (g[b1].op != 2) = false := by simp [h2]
              clear h2
              go_wp2_with fail
              go_ret2
              exact ⟨ret_ii (by rw [HV.out]; rfl) (by rw [HV.out]; rfl), HB7.out⟩
            · have HV : Hid (redexN (arsOf ds) g (m + 1) a = none) := by rw [Hid, HRN.out, HW.out, wait_stuck HV1.out HBF1.out (by rw [HOB1.out]; exact h2)]
              have t2 : (g[b1].op != 2) = true := by simp [h2]
              clear h2
              go_wp2_with fail
              go_ret2
              exact ⟨ret_ii (by rw [HV.out]; rfl) (by rw [HV.out]; rfl), HB7.out⟩
      · have t2 : (g[b].op != 2) = true := by simp [h2]
        have HV : Hid (redexN (arsOf ds) g (m + 1) a = none) := by
          rw [Hid, HRN.out]
          have hw : waits (arsOf ds) g f = none := by
            by_cases h10 : g[f].op = 10
            · rw [waits10 (by rw [HOP.out]; exact h10), wait_stuck HV0.out HBF.out (by rw [HOB.out]; exact h2)]
            · rw [waits2 (by rw [HOP.out]; have := HKI.out.1; omega), wait_stuck HV0.out HBF.out (by rw [HOB.out]; exact h2)]
          rw [hw]
        clear h2 h67
        go_wp2_with fail
        go_ret2
        exact ⟨ret_ii (by rw [HV.out]; rfl) (by rw [HV.out]; rfl), HB5.out⟩

theorem l4R_all (ds : List Df) (g : List Ce) (hg : graphB g ds.length = true) (hp : progB ds = true) : ∀ n, L4R ds g n
  | 0 => l4R_step ds g 0 hg hp (fun m h => by omega)
  | n + 1 => l4R_step ds g (n + 1) hg hp (fun m h => by
    obtain rfl : n = m := by omega
    exact l4R_all ds g hg hp n)
end Go.Proofs.YtjpjikfmdaejeaaGreatDoor
