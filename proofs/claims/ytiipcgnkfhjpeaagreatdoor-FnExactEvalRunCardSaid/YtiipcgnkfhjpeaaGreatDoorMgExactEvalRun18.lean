/-
  THE MODEL's GraphValid AND FollowInd (l3Cell, GraphValid, l3Follow, FollowInd); nothing that was there is changed.
-/
import Derived.Test.YtiipcgnkfhjpeaaGreatDoorMgExactEvalRun5
import Derived.Test.YtiipcgnkfhjpeaaGreatDoorMgExactEvalRun4
import Derived.Test.YtiipcgnkfhjpeaaGreatDoorMgExactEvalRun11
import Derived.Test.YtiipcgnkfhjpeaaGreatDoorMgExactEvalRun8
import Derived.Deep.DeepCutAuto
import Derived.Deep.RegionWith
import Derived.Deep.RegionHeld3
import Derived.Test.YtiipcgnkfhjpeaaGreatDoorMgExactEvalRun17
import Derived.Test.YtiipcgnkfhjpeaaGreatDoorMgExactEvalRun15
namespace Go.Proofs.YtiipcgnkfhjpeaaGreatDoor
set_option linter.unusedVariables false
set_option linter.unusedSimpArgs false
open Go.RowKit

theorem all_end {α : Type} {p : α → Bool} {l : List α} {k : Nat} (h : (l.take k).all p = true) (e : l.length = k) : l.all p = true := by
  subst e; rwa [List.take_length] at h
theorem isAt_lo {cells k : Int} (h : k < 0) : isAt cells k = false := by unfold isAt; rw [decide_eq_false]; omega
theorem isAt_hi {cells k : Int} (h : ¬ k < cells) : isAt cells k = false := by unfold isAt; rw [decide_eq_false]; omega
theorem isAt_in {cells k : Int} (h0 : 0 ≤ k) (h : k < cells) : isAt cells k = true := by unfold isAt; rw [decide_eq_true]; exact ⟨h0, h⟩

theorem graphB_no {g : List Ce} {defs : Int} (h : ¬ ((g.length : Int) ≤ 400 ∧ 0 ≤ defs ∧ defs ≤ 6)) : graphB g defs = false := by unfold graphB; rw [decide_eq_false h]; rfl
theorem graphB_cellNo {g : List Ce} {defs : Int} (k : Nat) (hk : k < g.length) (h : cellB g.length defs g[k] = false) : graphB g defs = false := by
  unfold graphB; rw [allI_false_of _ _ k hk h]; simp
theorem graphB_yes {g : List Ce} {defs : Int} (h : (g.length : Int) ≤ 400 ∧ 0 ≤ defs ∧ defs ≤ 6) (ha : g.all (cellB g.length defs) = true) : graphB g defs = true := by
  unfold graphB; rw [decide_eq_true h, ha]; rfl

end Go.Proofs.YtiipcgnkfhjpeaaGreatDoor
/-
  ELEMENTS OF ROWS OUT OF A SET OF BLOCKS.
-/
namespace Go.Proofs.YtiipcgnkfhjpeaaGreatDoor
set_option linter.unusedVariables false
set_option linter.unusedSimpArgs false
open Go.RowKit

/-- element i of a graph out of a set of blocks -/
theorem CellsOn.atS {w : World} {S : Nat → Prop} {g : List Ce} {ad : Option Addr} {n cap : Nat} (h : CellsOn w S g (.slice ad n cap)) (i : Nat) (hi : i < g.length) :
    ∃ bl off c, ad = some ⟨bl, off, none⟩ ∧ S bl ∧ w.cell? ⟨bl, off + i * 3, none⟩ = some (.int .i64 g[i].op) ∧ w.cell? ⟨bl, off + i * 3 + 1, none⟩ = some (.int .i64 g[i].num) ∧ w.cell? ⟨bl, off + i * 3 + 2, none⟩ = some c ∧ I64 g[i].op ∧ I64 g[i].num ∧ IntsOn w S g[i].kids c := by
  obtain ⟨ad', cap', he, -, -, hr⟩ := h
  cases he
  rcases hr with rfl | ⟨bl, off, rfl, hs, r⟩
  · simp at hi
  obtain ⟨c, h1, h2, h3, i1, i2, h4⟩ := r i hi
  exact ⟨bl, off, c, rfl, hs, h1, h2, h3, i1, i2, h4⟩
theorem IntsOn.atS {w : World} {S : Nat → Prop} {xs : List Int} {ad : Option Addr} {n cap : Nat} (h : IntsOn w S xs (.slice ad n cap)) (i : Nat) (hi : i < xs.length) :
    ∃ bl off, ad = some ⟨bl, off, none⟩ ∧ S bl ∧ w.cell? ⟨bl, off + i, none⟩ = some (.int .i64 xs[i]) := by
  obtain ⟨ad', cap', he, -, -, hr⟩ := h
  cases he
  rcases hr with rfl | ⟨bl, off, rfl, hs, r⟩
  · simp at hi
  exact ⟨bl, off, rfl, hs, r i hi⟩
end Go.Proofs.YtiipcgnkfhjpeaaGreatDoor
/-
  THE BLOCK OF A ROW THAT A CALL OWNS; three cells of a box.
-/
namespace Go.Proofs.YtiipcgnkfhjpeaaGreatDoor
set_option linter.unusedVariables false
set_option linter.unusedSimpArgs false
open Go.RowKit

theorem own_some {w : World} {base n size : Nat} {e : TypeId} {v : Value} {xs : List Value} (h : w.ownsRow base e size v n xs) : ∀ k, v.ownBlock = some k → base ≤ k ∧ k < w.heap.size := by
  intro k hk
  rcases h.2 with ⟨rfl, -⟩ | ⟨g, cap, cur, rfl, hb, hh, -⟩
  · simp [Value.ownBlock] at hk
  · simp only [Value.ownBlock, Option.some.injEq] at hk
    subst hk
    exact ⟨hb, (Array.getElem?_eq_some_iff.1 hh).1⟩
theorem box_set {w : World} {B : Nat} {a b c : Value} {T : TypeId} (h : w.heap[B]? = some (.cells #[a, b, c] T)) (v : Value) : (w.setCell ⟨B, 2, none⟩ v).heap[B]? = some (.cells #[a, b, v] T) := by
  simp [World.setCell, Array.getElem?_modify, h]
end Go.Proofs.YtiipcgnkfhjpeaaGreatDoor
/-
  LISTS OF PLACES IN MEMORY: reading one; one more, at a step; other rows stay.
-/
namespace Go.Proofs.YtiipcgnkfhjpeaaGreatDoor
set_option linter.unusedVariables false
set_option linter.unusedSimpArgs false
open Go.RowKit

/-- a call has handed back these places, in a row of its own -/
def NewStk (ws : List Nat) (w : World) (e : Ending) (w' : World) : Prop := ∃ v, e = .returned v ∧ Stk w' w.heap.size ws v ∧ Below w.heap.size w w'
theorem pl_form {w : World} {rs : List Nat} {v : Value} (h : IIn w (plI rs) v) : ∃ ad cap, v = .slice ad rs.length cap ∧ rs.length ≤ cap ∧ cap ≤ maxLen := by
  obtain ⟨ad, cap, e, l1, l2, -⟩ := h
  rw [plI_length] at e l1
  exact ⟨ad, cap, e, l1, l2⟩
theorem pl_at {w : World} {rs : List Nat} {ad : Option Addr} {n cap : Nat} (h : IIn w (plI rs) (.slice ad n cap)) (k : Nat) (hk : k < rs.length) :
    ∃ bl off x, ad = some ⟨bl, off, none⟩ ∧ bl < w.heap.size ∧ rs[k]? = some x ∧ x ∈ rs ∧ w.cell? ⟨bl, off + k, none⟩ = some (.int .i64 (x : Int)) := by
  obtain ⟨bl, off, e, hc⟩ := h.at k (by rw [plI_length]; exact hk)
  refine ⟨bl, off, rs[k], e, cell_lt hc, List.getElem?_eq_getElem hk, List.getElem_mem hk, ?_⟩
  rw [hc]; simp [plI]
theorem Stk.pin {w : World} {lo : Nat} {ws : List Nat} {v : Value} (h : Stk w lo ws v) : IIn w (plI ws) v := h.row.inn
theorem Stk.lower {w : World} {lo lo' : Nat} {ws : List Nat} {v : Value} (h : Stk w lo ws v) (hl : lo' ≤ lo) : Stk w lo' ws v := by
  refine ⟨h.1, ?_⟩
  rcases h.2 with h | ⟨g, cap, cur, rfl, hg, r⟩
  · exact Or.inl h
  · exact Or.inr ⟨g, cap, cur, rfl, Nat.le_trans hl hg, r⟩
theorem Stk.next {w w' : World} {lo : Nat} {ws : List Nat} {v : Value} (h : Stk w lo ws v) (hb : Below w.heap.size w w') : Stk w' lo ws v := h.keep fun k _ hk => hb.block k hk
theorem kids_pl {w : World} {g : List Ce} {defs : Int} {a : Nat} {v : Value} (hg : graphB g defs = true) (ha : a < g.length) (h : IIn w g[a].kids v) : IIn w (plI (kidsN g a)) v := by
  rw [kids_back hg a ha] at h; exact h
/-- an empty row of places -/
theorem stk_zero {w : World} {lo b : Nat} (h : w.heap[b]? = some (.cells #[] 3)) (hb : lo ≤ b) : Stk w lo [] (.slice (some ⟨b, 0, none⟩) 0 0) :=
  ⟨rfl, Or.inr ⟨b, 0, #[], rfl, hb, h, Nat.le_refl _, by simp [maxLen], rfl, rfl⟩⟩
/-- append of places, at a step of a region that draws -/
theorem step_push {ops : Array Oper} {o : Oper} {a : Act} {w : World} {K : Act → World → Prop} {Q : Exit → Act → World → Prop} {E : Prop} (hgd : o.guard = none) (s x : Operand)
    (ho : o.op = .call { callee := .builtin .append, args := #[s, x], argTypes := #[88, 88] })
    (lo : Nat) (ws news : List Nat) (v xv : Value) (hs : a.eval s = v) (hst : Stk w lo ws v) (hxe : a.eval x = xv) {xs : List Int} (hx : IIn w xs xv) (hxs : xs = news.map fun (a : Nat) => (a : Int)) (hlo : lo ≤ w.heap.size) (hb : ws.length + news.length ≤ 1048576)
    (h : ∀ v' w', Stk w' lo (ws ++ news) v' → w.grownBy w' v.ownBlock → K (a.put o.dst v') w') : if Region.wanted o (yielded ops a.tmps) = true then Oper.wp Tryz.prog o a w K Q else E := by
  have hw : Region.wanted o (yielded ops a.tmps) = true := by simp [Region.wanted, hgd]
  rw [if_pos hw]
  obtain ⟨v', w', hrun, h2, h3⟩ := run_push w lo ws news v xv o.type hst hx hxs hlo hb
  unfold Oper.wp
  simp [execOp, ho, resolve, invoke, builtin, hs, hxe, hrun, Result.andThen]
  exact h _ _ h2 h3
theorem stk_len2 {w : World} {lo n : Nat} {ws : List Nat} {v : Value} (h : Stk w lo ([] ++ ws) v) (hn : ws.length = n) : ∃ ad cap, v = .slice ad n cap := by
  obtain ⟨a, c, e⟩ := h.len
  exact ⟨a, c, by rw [e, List.nil_append, hn]⟩
/-- a row of another type is not the row of places -/
theorem own_other {w : World} {lo : Nat} {ws : List Nat} {v : Value} {b n : Nat} {T : TypeId} {f : Nat → Value} (h : Stk w lo ws v) (hr : w.rowIs b T n f) (hT : T ≠ 3) : some b ≠ v.ownBlock := by
  intro e
  rcases h.2 with ⟨rfl, -⟩ | ⟨g, cap, cur, rfl, -, hh, -⟩
  · simp [Value.ownBlock] at e
  · simp only [Value.ownBlock, Option.some.injEq] at e
    subst e
    obtain ⟨C, hC, -⟩ := hr
    rw [hh] at hC
    simp only [Option.some.injEq, Obj.cells.injEq] at hC
    exact hT hC.2.1.symm
theorem Stk.mark {w : World} {lo : Nat} {ws : List Nat} {v : Value} {b n : Nat} {T : TypeId} {f : Nat → Value} (h : Stk w lo ws v) (hr : w.rowIs b T n f) (hT : T ≠ 3) (i : Nat) (u : Value) : Stk (w.setCell ⟨b, i, none⟩ u) lo ws v := by
  have hne := own_other h hr hT
  refine ⟨h.1, ?_⟩
  rcases h.2 with h' | ⟨g, cap, cur, rfl, hg, hh, r⟩
  · exact Or.inl h'
  · refine Or.inr ⟨g, cap, cur, rfl, hg, (Below.heap_setCell _ _ _ _ ?_).trans hh, r⟩
    intro e
    exact hne (by simp only [Value.ownBlock, Option.some.injEq]; exact e.symm)
/-- the world behind append: nothing older has changed -/
theorem push_below {w wb w5 : World} {B lo : Nat} {ws : List Nat} {v : Value} (hst : Stk wb lo ws v) (hb : Below B w wb) (hlo : B ≤ lo) (hg : wb.grownBy w5 v.ownBlock) (hB : B ≤ w.heap.size) : Below B w w5 :=
  ⟨by rw [hg.os]; exact hb.os, by rw [hg.tape]; exact hb.tape, by rw [hg.output]; exact hb.output, Nat.le_trans hb.size hg.size, fun k hk =>
    (hg.block k (by have := hb.size; omega) (fun e => by have := own_lo hst e; omega)).trans (hb.block k hk)⟩
/-- a row of another type stays behind append -/
theorem row_push {w w5 : World} {lo : Nat} {ws : List Nat} {v : Value} {b n : Nat} {T : TypeId} {f : Nat → Value} (hr : w.rowIs b T n f) (hst : Stk w lo ws v) (hg : w.grownBy w5 v.ownBlock) (hT : T ≠ 3) : w5.rowIs b T n f :=
  hr.of_block (hg.block b hr.lt (own_other hst hr hT))
end Go.Proofs.YtiipcgnkfhjpeaaGreatDoor
/-
  THE MODEL's l5Order: the cells in the order in which they are copied.
-/
namespace Go.Proofs.YtiipcgnkfhjpeaaGreatDoor
set_option linter.unusedVariables false
set_option linter.unusedSimpArgs false
open Go.RowKit

theorem bool_ne_int : (4 : TypeId) ≠ 3 := by decide

set_option maxRecDepth 100000 in
set_option maxHeartbeats 1600000 in
theorem l5Order_calls (g : List Ce) (rs : List Nat) (v rv : Value) (w : World) (hk : CIn w g v) (hr : IIn w (plI rs) rv) (hg : graphB g 6 = true) (hlt : ∀ x ∈ rs, x < g.length) (h20 : rs.length ≤ 20) :
    Calls Tryz.prog 110 #[v, rv] w (NewStk (orderG g rs) w) := by
  have HK : Hid (CIn w g v) := hk
  have HR : Hid (IIn w (plI rs) rv) := hr
  have HG : Hid (graphB g 6 = true) := hg
  have HLT : Hid (∀ x ∈ rs, x < g.length) := hlt
  have h400 : g.length ≤ 400 := graphB_len hg
  obtain ⟨ad, cap, rfl, hl, hm, -⟩ := hk
  obtain ⟨adr, capr, rfl, hlr, hmr⟩ := pl_form hr
  unfold maxLen at hm hmr
  have hmk := make_bools g.length (by omega)
  have HM0 : Hid (Marks ((w.alloc (.cells #[] 3)).alloc (.cells (madeCells #[.bool false] g.length) 4)) (w.heap.size + 1) g.length (memB [])) := by
    have h := no_marks (w.alloc (.cells #[] 3)) g.length
    rw [Deep.nblk_alloc] at h
    rw [memB_nil]; exact h
  have HS0 : Hid (Stk ((w.alloc (.cells #[] 3)).alloc (.cells (madeCells #[.bool false] g.length) 4)) w.heap.size [] (.slice (some ⟨w.heap.size, 0, none⟩) 0 0)) := (stk_zero (Deep.blk_alloc_new w _) (Nat.le_refl _)).alloc _
  clear hg hlt hr
  go_enter Tryz.func110, Tryz.ntmps110
  go_wp2_with fail
  go_loopw [5, 7] (fun out i wr => ∃ (k : Nat) (o : List Nat), k ≤ rs.length ∧ i = .int .i64 k ∧ o = visitL [] (rs.take k) ∧ Cs g.length o ∧ Stk wr w.heap.size o out ∧ Marks wr (w.heap.size + 1) g.length (memB o) ∧ Below w.heap.size w wr) (fun _ i _ => rs.length - (intOf i).toNat)
  case atStart => exact ⟨0, [], Nat.zero_le _, rfl, rfl, Cs.nil _, HS0.out, HM0.out, ((Below.refl _ _).alloc (Nat.le_refl _) _).alloc (by simp) _⟩
  case round =>
    obtain ⟨k, o, hk, rfl, ho, hcs, hst, hmk2, hb⟩ := hrel
    have HO : Hid (o = visitL [] (rs.take k)) := ho
    have HC : Hid (Cs g.length o) := hcs
    have hol := hcs.len
    have HB : Hid (Below w.heap.size w wr) := hb
    have HMK : Hid (Marks wr (w.heap.size + 1) g.length (memB o)) := hmk2
    have HS : Hid (Stk wr w.heap.size o u5) := hst
    obtain ⟨ad5, cap5, rfl⟩ := hst.len
    clear ho hcs hst
    by_cases hlt : k < rs.length
    · obtain ⟨bl, off, x, rfl, hbl, hx, hxm, d0w⟩ := pl_at HR.out k hlt
      have hxl := HLT.out x hxm
      have HX : Hid (rs[k]? = some x) := hx
      have d0 := (hb.cell (p := ⟨bl, off + k, none⟩) hbl).trans d0w
      have cm := hmk2.cell (i := x) hxl
      have fm := hmk2.frozen x
      clear hx hxm d0w hmk2 hb
      cases hf : memB o x with
      | true =>
        have HO2 : Hid (o = visitL [] (rs.take (k + 1))) := by rw [Hid, take_snoc HX.out, visitL_snoc, ← HO.out]; exact (memB_yes hf).symm
        rw [hf] at cm
        go_wp2_with fail
        go_roundw
        case rel => exact ⟨k + 1, o, by omega, by go_num, HO2.out, HC.out, HS.out, HMK.out, HB.out⟩
        case measure => simp [intOf]; omega
      | false =>
        have HO2 : Hid (o ++ [x] = visitL [] (rs.take (k + 1))) := by rw [Hid, take_snoc HX.out, visitL_snoc, ← HO.out]; exact (memB_no hf).symm
        have HC2 : Hid (Cs g.length (o ++ [x])) := by rw [Hid, ← memB_no hf]; exact HC.out.visit hxl
        rw [hf] at cm
        have hz3 : (wr.setCell ⟨w.heap.size + 1, x, none⟩ (.bool true)).heap.size = wr.heap.size := size_setCell _ _ _
        have HB3 : Hid (Below w.heap.size w (wr.setCell ⟨w.heap.size + 1, x, none⟩ (.bool true))) := HB.out.setCell (by simp) _
        have HS3 : Hid (Stk ((wr.setCell ⟨w.heap.size + 1, x, none⟩ (.bool true)).alloc (.cells #[.int .i64 (x : Int)] 3)) w.heap.size o (.slice ad5 o.length cap5)) := (HS.out.mark HMK.out bool_ne_int _ _).alloc _
        have HK3 : Hid (IIn ((wr.setCell ⟨w.heap.size + 1, x, none⟩ (.bool true)).alloc (.cells #[.int .i64 (x : Int)] 3)) [(x : Int)] (.slice (some ⟨wr.heap.size, 0, none⟩) 1 1)) := by
          have h := one_in (wr.setCell ⟨w.heap.size + 1, x, none⟩ (.bool true)) x
          rw [hz3] at h; exact h
        have HMK3 : Hid (Marks ((wr.setCell ⟨w.heap.size + 1, x, none⟩ (.bool true)).alloc (.cells #[.int .i64 (x : Int)] 3)) (w.heap.size + 1) g.length (memB (o ++ [x]))) := by
          have h : Marks (wr.setCell ⟨w.heap.size + 1, x, none⟩ (.bool true)) (w.heap.size + 1) g.length (setF (memB o) x) := HMK.out.mark x
          rw [Hid, memB_snoc]
          exact h.of_block (Deep.blk_alloc_lt _ _ _ h.lt)
        have HLO : Hid (w.heap.size ≤ ((wr.setCell ⟨w.heap.size + 1, x, none⟩ (.bool true)).alloc (.cells #[.int .i64 (x : Int)] 3)).heap.size) := by rw [Hid, Deep.nblk_alloc]; have := HB3.out.size; omega
        have d3 : (wr.setCell ⟨w.heap.size + 1, x, none⟩ (.bool true)).cell? ⟨bl, off + k, none⟩ = some (.int .i64 (x : Int)) := (World.cell?_of_block (Below.heap_setCell _ _ _ _ (by show bl ≠ w.heap.size + 1; omega))).trans d0
        clear hf hz3
        go_wp2_with (at_builtin; go_must (refine wpList_push rfl _ _ rfl _ w.heap.size o [x] (.slice ad5 o.length cap5) (.slice (some ⟨wr.heap.size, 0, none⟩) 1 1) rfl HS3.out rfl HK3.out rfl HLO.out (by simp; omega) ?_); go_must (intro v' w5 hst5 hg5); go_must (have HS5 : Hid (Stk w5 w.heap.size (o ++ [x]) v') := hst5); go_must (have HM5 : Hid (Marks w5 (w.heap.size + 1) g.length (memB (o ++ [x]))) := row_push HMK3.out HS3.out hg5 bool_ne_int); go_must (have HB5 : Hid (Below w.heap.size w w5) := push_below HS3.out (HB3.out.alloc HB3.out.size _) (Nat.le_refl _) hg5 (Nat.le_refl _)); clear hst5 hg5 d0 d3 cm fm)
        go_roundw
        case rel => first | exact ⟨k + 1, o ++ [x], by omega, by go_num, HO2.out, HC2.out, HS5.out, HM5.out, HB5.out⟩ | ((repeat apply Exists.intro); exact ⟨⟨k + 1, o ++ [x], by omega, by go_num, HO2.out, HC2.out, HS5.out, HM5.out, HB5.out⟩, rfl⟩)
        case measure => simp [intOf]; omega
    · have hke : k = rs.length := by omega
      have HE : Hid (OrdRel g rs 0 o) := by
        have h := HO.out
        rw [hke, List.take_length] at h
        rw [Hid, h]; exact OrdRel.start HLT.out
      clear hke hmk2 hb
      clear HO HC hol
      go_wp2_with fail
      go_loopw [5, 8] (fun out a wr => ∃ (i : Nat) (o : List Nat), a = .int .i64 i ∧ OrdRel g rs i o ∧ Stk wr w.heap.size o out ∧ Marks wr (w.heap.size + 1) g.length (memB o) ∧ Below w.heap.size w wr) (fun _ a _ => g.length - (intOf a).toNat)
      case atStart => exact ⟨0, o, rfl, HE.out, HS.out, HMK.out, HB.out⟩
      case round =>
        obtain ⟨i, o, rfl, hor, hst, hmk2, hb⟩ := hrel
        obtain ⟨wo, rfl⟩ : ∃ wo : World, wo = wr := ⟨_, rfl⟩
        have HE : Hid (OrdRel g rs i o) := hor
        have hol := hor.cs.len
        have hile := hor.le
        have HB : Hid (Below w.heap.size w wo) := hb
        have HMK : Hid (Marks wo (w.heap.size + 1) g.length (memB o)) := hmk2
        have HS : Hid (Stk wo w.heap.size o u5) := hst
        obtain ⟨ad5, cap5, rfl⟩ := hst.len
        clear hor
        by_cases hlt : i < o.length
        · obtain ⟨blo, offo, a, rfl, hblo, ha, ham, dow⟩ := pl_at HS.out.pin i hlt
          have hal := HE.out.lt a ham
          obtain ⟨bl, off, r2, rfl, c0w, c1w, c2w, -, -, hkk⟩ := HK.out.at a hal
          have hbl3 : bl < w.heap.size := cell_lt c0w
          have c2 := (hb.cell (p := ⟨bl, off + a * 3 + 2, none⟩) hbl3).trans c2w
          obtain ⟨ks, hks⟩ : ∃ ks, ks = kidsN g a := ⟨_, rfl⟩
          have HKK : Hid (IIn w (plI ks) r2) := by rw [Hid, hks]; exact kids_pl HG.out hal hkk
          obtain ⟨adk, capk, rfl, hlk, hmk⟩ := pl_form HKK.out
          have HNX : Hid (OrdRel g rs (i + 1) (visitL o ks)) := by
            have h := HE.out.step HG.out hlt
            rw [List.getD_eq_getElem?_getD, ha] at h
            rw [Hid, hks]; exact h
          have hk3 : ks.length ≤ 3 := by rw [hks]; exact kidsN_len HG.out a hal
          have HKL : Hid (∀ x ∈ ks, x < g.length) := by rw [hks]; exact fun x hx => kidsN_lt HG.out a hal x hx
          have HC0 : Hid (Cs g.length o) := HE.out.cs
          clear ha ham hkk hks c0w c1w c2w hst hmk2 hb
          go_wp2_with fail
          go_loopw [5, 10] (fun out z wr => ∃ (k : Nat) (p : List Nat), k ≤ ks.length ∧ z = .int .i64 k ∧ p = visitL o (ks.take k) ∧ Cs g.length p ∧ Stk wr w.heap.size p out ∧ Marks wr (w.heap.size + 1) g.length (memB p) ∧ Below w.heap.size w wr) (fun _ z _ => ks.length - (intOf z).toNat)
          case atStart => exact ⟨0, o, Nat.zero_le _, rfl, rfl, HC0.out, HS.out, HMK.out, HB.out⟩
          case round =>
            obtain ⟨k, p, hk, rfl, hp, hcs, hst, hmk2, hb⟩ := hrel
            have HO : Hid (p = visitL o (ks.take k)) := hp
            have HC : Hid (Cs g.length p) := hcs
            have hpl := hcs.len
            have HB : Hid (Below w.heap.size w wr) := hb
            have HMK : Hid (Marks wr (w.heap.size + 1) g.length (memB p)) := hmk2
            have HS : Hid (Stk wr w.heap.size p u5) := hst
            obtain ⟨ad5, cap5, rfl⟩ := hst.len
            clear hp hcs hst dow c2
            by_cases hltk : k < ks.length
            · obtain ⟨bl, off, x, rfl, hbl, hx, hxm, d0w⟩ := pl_at HKK.out k hltk
              have hxl := HKL.out x hxm
              have HX : Hid (ks[k]? = some x) := hx
              have d0 := (hb.cell (p := ⟨bl, off + k, none⟩) hbl).trans d0w
              have cm := hmk2.cell (i := x) hxl
              have fm := hmk2.frozen x
              clear hx hxm d0w hmk2 hb
              cases hf : memB p x with
              | true =>
                have HO2 : Hid (p = visitL o (ks.take (k + 1))) := by rw [Hid, take_snoc HX.out, visitL_snoc, ← HO.out]; exact (memB_yes hf).symm
                rw [hf] at cm
                go_wp2_with fail
                go_roundw
                case rel => exact ⟨k + 1, p, by omega, by go_num, HO2.out, HC.out, HS.out, HMK.out, HB.out⟩
                case measure => simp [intOf]; omega
              | false =>
                have HO2 : Hid (p ++ [x] = visitL o (ks.take (k + 1))) := by rw [Hid, take_snoc HX.out, visitL_snoc, ← HO.out]; exact (memB_no hf).symm
                have HC2 : Hid (Cs g.length (p ++ [x])) := by rw [Hid, ← memB_no hf]; exact HC.out.visit hxl
                rw [hf] at cm
                have hz3 : (wr.setCell ⟨w.heap.size + 1, x, none⟩ (.bool true)).heap.size = wr.heap.size := size_setCell _ _ _
                have HB3 : Hid (Below w.heap.size w (wr.setCell ⟨w.heap.size + 1, x, none⟩ (.bool true))) := HB.out.setCell (by simp) _
                have HS3 : Hid (Stk ((wr.setCell ⟨w.heap.size + 1, x, none⟩ (.bool true)).alloc (.cells #[.int .i64 (x : Int)] 3)) w.heap.size p (.slice ad5 p.length cap5)) := (HS.out.mark HMK.out bool_ne_int _ _).alloc _
                have HK3 : Hid (IIn ((wr.setCell ⟨w.heap.size + 1, x, none⟩ (.bool true)).alloc (.cells #[.int .i64 (x : Int)] 3)) [(x : Int)] (.slice (some ⟨wr.heap.size, 0, none⟩) 1 1)) := by
                  have h := one_in (wr.setCell ⟨w.heap.size + 1, x, none⟩ (.bool true)) x
                  rw [hz3] at h; exact h
                have HMK3 : Hid (Marks ((wr.setCell ⟨w.heap.size + 1, x, none⟩ (.bool true)).alloc (.cells #[.int .i64 (x : Int)] 3)) (w.heap.size + 1) g.length (memB (p ++ [x]))) := by
                  have h : Marks (wr.setCell ⟨w.heap.size + 1, x, none⟩ (.bool true)) (w.heap.size + 1) g.length (setF (memB p) x) := HMK.out.mark x
                  rw [Hid, memB_snoc]
                  exact h.of_block (Deep.blk_alloc_lt _ _ _ h.lt)
                have HLO : Hid (w.heap.size ≤ ((wr.setCell ⟨w.heap.size + 1, x, none⟩ (.bool true)).alloc (.cells #[.int .i64 (x : Int)] 3)).heap.size) := by rw [Hid, Deep.nblk_alloc]; have := HB3.out.size; omega
                have d3 : (wr.setCell ⟨w.heap.size + 1, x, none⟩ (.bool true)).cell? ⟨bl, off + k, none⟩ = some (.int .i64 (x : Int)) := (World.cell?_of_block (Below.heap_setCell _ _ _ _ (by show bl ≠ w.heap.size + 1; omega))).trans d0
                clear hf hz3
                go_wp2_with (at_builtin; go_must (refine wpList_push rfl _ _ rfl _ w.heap.size p [x] (.slice ad5 p.length cap5) (.slice (some ⟨wr.heap.size, 0, none⟩) 1 1) rfl HS3.out rfl HK3.out rfl HLO.out (by simp; omega) ?_); go_must (intro v' w5 hst5 hg5); go_must (have HS5 : Hid (Stk w5 w.heap.size (p ++ [x]) v') := hst5); go_must (have HM5 : Hid (Marks w5 (w.heap.size + 1) g.length (memB (p ++ [x]))) := row_push HMK3.out HS3.out hg5 bool_ne_int); go_must (have HB5 : Hid (Below w.heap.size w w5) := push_below HS3.out (HB3.out.alloc HB3.out.size _) (Nat.le_refl _) hg5 (Nat.le_refl _)); clear hst5 hg5 d0 d3 cm fm)
                go_roundw
                case rel => first | exact ⟨k + 1, p ++ [x], by omega, by go_num, HO2.out, HC2.out, HS5.out, HM5.out, HB5.out⟩ | ((repeat apply Exists.intro); exact ⟨⟨k + 1, p ++ [x], by omega, by go_num, HO2.out, HC2.out, HS5.out, HM5.out, HB5.out⟩, rfl⟩)
                case measure => simp [intOf]; omega
            · have hke : k = ks.length := by omega
              have HE2 : Hid (OrdRel g rs (i + 1) p) := by
                have h := HO.out
                rw [hke, List.take_length] at h
                rw [Hid, h]; exact HNX.out
              clear hke hmk2 hb
              go_wp2_with fail
              go_roundw
              case rel => exact ⟨i + 1, p, by go_num, HE2.out, HS.out, HMK.out, HB.out⟩
              case measure => simp [intOf]; omega
        · have HV : Hid (o = orderG g rs) := HE.out.fin hlt
          clear hst hmk2 hb
          go_wp2_with fail
          go_ret
          exact ⟨_, rfl, by rw [← HV.out]; exact HS.out, HB.out⟩
end Go.Proofs.YtiipcgnkfhjpeaaGreatDoor
/-
  THE MODEL's l5Places: the places of copies.
-/
namespace Go.Proofs.YtiipcgnkfhjpeaaGreatDoor
set_option linter.unusedVariables false
set_option linter.unusedSimpArgs false
open Go.RowKit

/-- a row of places of copies -/
abbrev PlW (w : World) (b n : Nat) (o : List Nat) : Prop := w.rowIs b 3 n (fun x => .int .i64 (placeV o x))
def NewPl (n : Nat) (o : List Nat) (w : World) (e : Ending) (w' : World) : Prop :=
  ∃ b, e = .returned (.slice (some ⟨b, 0, none⟩) n n) ∧ w.heap.size ≤ b ∧ PlW w' b n o ∧ Below w.heap.size w w'

set_option maxRecDepth 100000 in
set_option maxHeartbeats 1600000 in
theorem l5Places_calls (n : Nat) (o : List Nat) (ov : Value) (w : World) (ho : IIn w (plI o) ov) (hc : Cs n o) (hn : n ≤ 400) :
    Calls Tryz.prog 111 #[.int .i64 (n : Int), ov] w (NewPl n o w) := by
  have HO : Hid (IIn w (plI o) ov) := ho
  have HC : Hid (Cs n o) := hc
  obtain ⟨ad, cap, rfl, hl, hm⟩ := pl_form ho
  unfold maxLen at hm
  have hol := hc.len
  have hmk := make_ints n (by omega)
  have HZ : Hid ((w.alloc (.cells (madeCells #[.int .i64 0] n) 3)).rowIs w.heap.size 3 n (fun x => .int .i64 (if x < 0 then -1 else 0))) := World.rowIs.congr (zero_row w n) fun i _ => by simp
  clear hc ho
  go_enter Tryz.func111, Tryz.ntmps111
  go_wp2_with fail
  go_loopw [6] (fun i wr => ∃ k : Nat, k ≤ n ∧ i = .int .i64 k ∧ wr.rowIs w.heap.size 3 n (fun x => .int .i64 (if x < k then -1 else 0)) ∧ Below w.heap.size w wr) (fun i _ => n - (intOf i).toNat)
  case atStart => exact ⟨0, Nat.zero_le _, rfl, HZ.out, (Below.refl _ _).alloc (Nat.le_refl _) _⟩
  case round =>
    obtain ⟨k, hk, rfl, hrow, hb⟩ := hrel
    have HB : Hid (Below w.heap.size w wr) := hb
    have HR : Hid (wr.rowIs w.heap.size 3 n (fun x => .int .i64 (if x < k then -1 else 0))) := hrow
    by_cases hlt : k < n
    · have cm : wr.cell? ⟨w.heap.size, k, none⟩ = some (.int .i64 0) := by have h := hrow.cell (i := k) hlt; simpa using h
      have fm := hrow.frozen k
      have HR2 : Hid ((wr.setCell ⟨w.heap.size, k, none⟩ (.int .i64 (-1))).rowIs w.heap.size 3 n (fun x => .int .i64 (if x < k + 1 then -1 else 0))) := by
        refine World.rowIs.congr (hrow.set k _) fun x _ => ?_
        by_cases e : x = k
        · subst e; simp
        · have : (x < k + 1) = (x < k) := by apply propext; omega
          simp [e, this]
      have HB2 : Hid (Below w.heap.size w (wr.setCell ⟨w.heap.size, k, none⟩ (.int .i64 (-1)))) := hb.setCell (Nat.le_refl _) _
      clear hrow hb
      go_wp2_with fail
      go_roundw
      case rel => exact ⟨k + 1, by omega, by go_num, HR2.out, HB2.out⟩
      case measure => simp [intOf]; omega
    · have hke : k = n := by omega
      have HP : Hid (PlW wr w.heap.size n (o.take 0)) := by
        refine World.rowIs.congr HR.out fun x hx => ?_
        simp [placeV_nil, hke, hx]
      clear hke hrow hb
      go_wp2_with fail
      go_loopw [7] (fun i wr => ∃ k : Nat, k ≤ o.length ∧ i = .int .i64 k ∧ PlW wr w.heap.size n (o.take k) ∧ Below w.heap.size w wr) (fun i _ => o.length - (intOf i).toNat)
      case atStart => exact ⟨0, Nat.zero_le _, rfl, HP.out, HB.out⟩
      case round =>
        obtain ⟨k, hk, rfl, hrow, hb⟩ := hrel
        have HB : Hid (Below w.heap.size w wr) := hb
        have HR : Hid (PlW wr w.heap.size n (o.take k)) := hrow
        by_cases hlt : k < o.length
        · obtain ⟨bl, off, x, rfl, hbl, hx, hxm, d0w⟩ := pl_at HO.out k hlt
          have hxl := HC.out.2 x hxm
          have d0 := (hb.cell (p := ⟨bl, off + k, none⟩) hbl).trans d0w
          have cm := hrow.cell (i := x) hxl
          have fm := hrow.frozen x
          have HR2 : Hid (PlW (wr.setCell ⟨w.heap.size, x, none⟩ (.int .i64 (k : Int))) w.heap.size n (o.take (k + 1))) := by
            refine World.rowIs.congr (hrow.set x _) fun y _ => ?_
            rw [take_snoc hx, placeV_snoc (take_not HC.out.1 hx), List.length_take, Nat.min_eq_left (by omega)]
            by_cases e : y = x
            · simp [e]
            · simp [e]
          have HB2 : Hid (Below w.heap.size w (wr.setCell ⟨w.heap.size, x, none⟩ (.int .i64 (k : Int)))) := hb.setCell (Nat.le_refl _) _
          clear hx hxm d0w hrow hb
          go_wp2_with fail
          go_roundw
          case rel => exact ⟨k + 1, by omega, by go_num, HR2.out, HB2.out⟩
          case measure => simp [intOf]; omega
        · have hke : k = o.length := by omega
          have HV : Hid (PlW wr w.heap.size n o) := by
            have h := HR.out
            rw [hke, List.take_length] at h; exact h
          clear hke hrow hb
          go_wp2_with fail
          go_ret
          exact ⟨_, rfl, Nat.le_refl _, HV.out, HB.out⟩
end Go.Proofs.YtiipcgnkfhjpeaaGreatDoor
