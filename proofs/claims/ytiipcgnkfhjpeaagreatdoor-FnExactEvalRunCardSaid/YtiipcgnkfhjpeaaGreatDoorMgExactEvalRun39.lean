/-
  THE PROGRAM's selections: the cells that are selections.
-/
import Derived.Test.YtiipcgnkfhjpeaaGreatDoorMgExactEvalRun38
import Derived.Test.YtiipcgnkfhjpeaaGreatDoorMgExactEvalRun18
import Derived.Test.YtiipcgnkfhjpeaaGreatDoorMgExactEvalRun20
import Derived.Test.YtiipcgnkfhjpeaaGreatDoorMgExactEvalRun35
import Derived.Maps.GroupsBeside
import Derived.Test.YtiipcgnkfhjpeaaGreatDoorMgExactEvalRun11
import Derived.Test.YtiipcgnkfhjpeaaGreatDoorMgExactEvalRun16
import Derived.Test.YtiipcgnkfhjpeaaGreatDoorMgExactEvalRun19
import Derived.WalkSpells
namespace Go.Proofs.YtiipcgnkfhjpeaaGreatDoor
set_option linter.unusedVariables false
set_option linter.unusedSimpArgs false
open Go.RowKit

def selL (g : List Ce) (k : Nat) : List Nat := (List.range k).filter fun i => selB (cellD g i)
theorem selL_yes {g : List Ce} {k : Nat} (h : selB (cellD g k) = true) : selL g (k + 1) = selL g k ++ [k] := by
  unfold selL; rw [List.range_succ, List.filter_append]; simp [h]
theorem selL_no {g : List Ce} {k : Nat} (h : selB (cellD g k) = false) : selL g (k + 1) = selL g k := by
  unfold selL; rw [List.range_succ, List.filter_append]; simp [h]
theorem selL_len (g : List Ce) (k : Nat) : (selL g k).length ≤ k := by
  unfold selL; have := List.length_filter_le (fun i => selB (cellD g i)) (List.range k); rw [List.length_range] at this; exact this
theorem selL_nodup (g : List Ce) (k : Nat) : (selL g k).Nodup := List.Nodup.sublist List.filter_sublist List.nodup_range
theorem selL_mem (g : List Ce) (i : Nat) : i ∈ selL g g.length ↔ isSel g i := by
  unfold selL
  rw [List.mem_filter, List.mem_range, isSel_B]
  exact ⟨fun h => h.2, fun h => ⟨isSel_lt ((isSel_B g i).2 h), h⟩⟩
theorem cellD_at {g : List Ce} {k : Nat} (h : k < g.length) : cellD g k = g[k] := getD_at _ _ _ h

set_option maxRecDepth 100000 in
set_option maxHeartbeats 1600000 in
theorem selections_calls (A : Nat) (g : List Ce) (gv : Value) (w : World) (hA : w.heap[A]? = some (.cells #[gv] 142)) (hC : CIn w g gv) (h400 : g.length ≤ 400) :
    Calls Tryz.prog 121 #[.pointer (some ⟨A, 0, none⟩)] w (NewStk (selL g g.length) w) := by
  have HC := mkHid hC
  obtain ⟨ad, cap, rfl, hl, hm, -⟩ := hC
  unfold maxLen at hm
  have a0 := cell_of_blk hA 0 _ rfl
  have HST : Hid (Stk w w.heap.size (selL g 0) (.slice none 0 0)) := World.ownsRow_nil _ _ _ _
  clear hA
  go_enter Tryz.func121, Tryz.ntmps121
  go_wp2_with fail
  go_loopw [3, 11] (fun pv z wr => ∃ k : Nat, k ≤ g.length ∧ z = .int .i64 k ∧ Stk wr w.heap.size (selL g k) pv ∧ Below w.heap.size w wr) (fun _ z _ => g.length - (intOf z).toNat)
  case atStart => exact ⟨0, Nat.zero_le _, rfl, HST.out, Below.refl _ _⟩
  case round =>
    obtain ⟨k, hk, rfl, hst, hb⟩ := hrel
    have HS := mkHid hst
    have HB : Hid (Below w.heap.size w wr) := hb
    have hsw := hb.size
    have hll := selL_len g k
    obtain ⟨n, hn⟩ : ∃ n, n = (selL g k).length := ⟨_, rfl⟩
    have HN := mkHid hn
    obtain ⟨adp, capp, rfl⟩ : ∃ ad cap, u3 = .slice ad n cap := by obtain ⟨x, y, e⟩ := hst.len; rw [← hn] at e; exact ⟨x, y, e⟩
    rw [← hn] at hll
    clear hst hn
    by_cases hlt : k < g.length
    · obtain ⟨bl, off, r2, rfl, c0, c1, c2, -, -, hkk⟩ := (HC.out.next hb).at k hlt
      obtain ⟨adk, capk, rfl, -, -, -⟩ := id hkk
      have HBX : Hid (Below wr.heap.size wr (wr.alloc (.cells #[.int .i64 g[k].op, .int .i64 g[k].num, .slice adk g[k].kids.length capk] 93))) := box_below _ _
      have HCD := mkHid (cellD_at hlt)
      clear hb hkk
      go_wp2_with fail
      refine (isSel_calls g[k].op g[k].num adk g[k].kids.length capk g[k].kids _).mono ?_
      rintro e w1 ⟨rfl, hb1⟩
      have HB0 : Hid (Below wr.heap.size wr w1) := HBX.out.trans (hb1.mono (by rw [Deep.nblk_alloc]; omega))
      have HB1 : Hid (Below w.heap.size w w1) := HB.out.trans (HB0.out.mono HB.out.size)
      have HS1 : Hid (Stk w1 w.heap.size (selL g k) (.slice adp n capp)) := HS.out.next HB0.out
      have hzw := HB1.out.size
      clear hb1 c0 c1 c2
      cases hsb : selB ⟨g[k].op, g[k].num, g[k].kids⟩ with
      | false =>
        have HV : Hid (selL g (k + 1) = selL g k) := selL_no (by rw [HCD.out]; exact hsb)
        clear hsb
        go_wp2_with fail
        go_roundw
        case rel => exact ⟨k + 1, by omega, by go_num, by rw [HV.out]; exact HS1.out, HB1.out⟩
        case measure => simp [intOf]; omega
      | true =>
        have HV : Hid (selL g (k + 1) = selL g k ++ [k]) := selL_yes (by rw [HCD.out]; exact hsb)
        have HS3 : Hid (Stk (w1.alloc (.cells #[.int .i64 (k : Int)] 3)) w.heap.size (selL g k) (.slice adp n capp)) := HS1.out.alloc _
        have HK3 : Hid (IIn (w1.alloc (.cells #[.int .i64 (k : Int)] 3)) [(k : Int)] (.slice (some ⟨w1.heap.size, 0, none⟩) 1 1)) := one_in w1 k
        have HLO : Hid (w.heap.size ≤ (w1.alloc (.cells #[.int .i64 (k : Int)] 3)).heap.size) := by rw [Hid, Deep.nblk_alloc]; omega
        clear hsb
        go_wp2_with (at_builtin; go_must (refine wpList_push rfl _ _ rfl _ w.heap.size (selL g k) [k] (.slice adp n capp) (.slice (some ⟨w1.heap.size, 0, none⟩) 1 1) rfl HS3.out rfl HK3.out rfl HLO.out (by rw [← HN.out]; simp; omega) ?_); go_must (intro v' w5 hst5 hg5); go_must (have HS5 := mkHid hst5); go_must (have HB5 : Hid (Below w.heap.size w w5) := push_below HS3.out (HB1.out.alloc hzw _) (Nat.le_refl _) hg5 (Nat.le_refl _)); clear hst5 hg5)
        go_roundw
        case rel => first | exact ⟨k + 1, by omega, by go_num, by rw [HV.out]; exact HS5.out, HB5.out⟩ | ((repeat apply Exists.intro); exact ⟨⟨k + 1, by omega, by go_num, by rw [HV.out]; exact HS5.out, HB5.out⟩, rfl⟩)
        case measure => simp [intOf]; omega
    · have hke : k = g.length := by omega
      have HV : Hid (Stk wr w.heap.size (selL g g.length) (.slice adp n capp)) := by
        have h := HS.out
        rw [hke] at h; exact h
      clear hb hke
      go_wp2_with fail
      go_ret
      exact ⟨_, rfl, HV.out, HB.out⟩
end Go.Proofs.YtiipcgnkfhjpeaaGreatDoor
/-
  selectParts IN MEMORY: an arena, a list of work, a map of those that wait; what each operation leaves of them.
-/
namespace Go.Proofs.YtiipcgnkfhjpeaaGreatDoor
set_option linter.unusedVariables false
set_option linter.unusedSimpArgs false
open Go.RowKit Go.Maps Go.ChangeShapes

/-! ### append of places, with where the new row lies -/
theorem run_push_at (w : World) (lo : Nat) (ws news : List Nat) (v x : Value) (ty : TypeId) (hst : Stk w lo ws v) {xs : List Int} (hx : IIn w xs x) (hxs : xs = news.map fun (a : Nat) => (a : Int)) (hlo : lo ≤ w.heap.size) (hb : ws.length + news.length ≤ 1048576) :
    ∃ v' w', (Builtin.append_ #[88, 88] ty #[v, x]).run Tryz.prog w = .ok v' w' ∧ Stk w' lo (ws ++ news) v' ∧ w.grownBy w' v.ownBlock ∧ (v'.ownBlock = v.ownBlock ∨ v'.ownBlock = some w.heap.size) := by
  obtain ⟨i, z, hi, hz, hs, hby, hzs⟩ := infoI1
  have hlen : xs.length = news.length := by rw [hxs]; simp
  have hx2 := hx
  obtain ⟨ad, cap, rfl, -, -, hr⟩ := hx2
  rcases ad with _ | ad
  · have hnil : news = [] := by
      rcases hr with h | ⟨_, _, h, -⟩
      · rw [h] at hlen; exact List.eq_nil_of_length_eq_zero hlen.symm
      · simp at h
    subst hnil
    rw [hlen]
    refine ⟨v, w, ?_, by simpa using hst, ⟨rfl, rfl, rfl, Nat.le_refl _, fun _ _ _ => rfl⟩, Or.inl rfl⟩
    rcases hst.2 with ⟨rfl, h0⟩ | ⟨g, cap, cur, rfl, _, _, hnc, _⟩
    · simp [Builtin.append_, run_underlying Tryz.underlying88, sizeOf, typeInfo, hi, Builtin.lenOf, Builtin.firstCells]
    · simp [Builtin.append_, run_underlying Tryz.underlying88, sizeOf, typeInfo, hi, Builtin.lenOf, Builtin.firstCells, hnc, storeCells]
  · obtain ⟨v', w', hrun, hown, hg, -, hwh⟩ := run_append_own_at (P := Tryz.prog) w lo 88 ty 3 i z 1 8 Tryz.underlying88 hi hz hs hby hzs (by decide) v ws.length (plV ws) hst ad news.length cap (plV news) (by rw [plV_length, Nat.mul_one]) (ints_news hx hxs) (plV_one _) (by unfold maxLen; omega) (by omega) hlo
    rw [← hlen] at hrun
    refine ⟨v', w', hrun, ?_, hg, hwh⟩
    unfold Stk
    have e : plV (ws ++ news) = plV ws ++ plV news := by simp [plV]
    rw [e, List.length_append]
    exact hown
theorem wpList_push_at {ops : Array Oper} {rest : List Oper} {o : Oper} {a : Act} {Q : Exit → Act → World → Prop} (hgd : o.guard = none) (s x : Operand)
    (ho : o.op = .call { callee := .builtin .append, args := #[s, x], argTypes := #[88, 88] })
    (w : World) (lo : Nat) (ws news : List Nat) (v xv : Value) (hs : a.eval s = v) (hst : Stk w lo ws v) (hxe : a.eval x = xv) {xs : List Int} (hx : IIn w xs xv) (hxs : xs = news.map fun (a : Nat) => (a : Int)) (hlo : lo ≤ w.heap.size) (hb : ws.length + news.length ≤ 1048576)
    (h : ∀ v' w', Stk w' lo (ws ++ news) v' → w.grownBy w' v.ownBlock → (v'.ownBlock = v.ownBlock ∨ v'.ownBlock = some w.heap.size) → wpList Tryz.prog ops Q rest (a.put o.dst v') w') : wpList Tryz.prog ops Q (o :: rest) a w := by
  refine wpList_plain hgd fun K hK => ?_
  obtain ⟨v', w', hrun, h2, h3, h4⟩ := run_push_at w lo ws news v xv o.type hst hx hxs hlo hb
  unfold Oper.wp
  simp [execOp, ho, resolve, invoke, builtin, hs, hxe, hrun, Result.andThen]
  exact hK _ _ (h v' w' h2 h3 h4)

theorem OwnC.next3 {w w' : World} {lo : Nat} {S S' : Nat → Prop} {g : List Ce} {v : Value} (h : OwnC w lo S g v) (hS : ∀ k, S k → k < w.heap.size → S' k) (hr : ∀ k, some k = v.ownBlock → k < w.heap.size → w'.heap[k]? = w.heap[k]?) (hb : ∀ k C, S k → k < w.heap.size → w.heap[k]? = some (.cells C 3 (0, 0)) → w'.heap[k]? = w.heap[k]?) : OwnC w' lo S' g v := by
  obtain ⟨hi0, xs, kb, h1, h2, h3⟩ := h
  refine ⟨hi0, xs, kb, ?_, fun j hj => ?_, h3⟩
  · refine ⟨h1.1, ?_⟩
    rcases h1.2 with h | ⟨b, cap, cur, rfl, hg, hh, r⟩
    · exact Or.inl h
    · exact Or.inr ⟨b, cap, cur, rfl, hg, (hr b rfl (Array.getElem?_eq_some_iff.1 hh).1).trans hh, r⟩
  · obtain ⟨kv, e0, e1, e2, e3⟩ := h2 j hj
    exact ⟨kv, e0, e1, e2, e3.keep hS fun C h1 h2 hC => hb _ C h1 h2 hC⟩

/-! ### The map of those that wait -/
/-- D holds for each place a list of places -/
def MapG (D : DataW Unit) (wt : Nat → List Nat) : Prop := ∀ x : Nat, x ≤ 1048576 → (D.atKey (.int .i64 (x : Int)) .nil = .nil ∧ wt x = []) ∨ D.atKey (.int .i64 (x : Int)) .nil = .slice (lits .i64 (plI (wt x))) []
def GrpW (w : World) (M n : Nat) (wt : Nat → List Nat) : Prop := ∃ D : DataW Unit, w.ownsGroups Tryz.prog 3 (M + 1) 3 .i64 M n D ∧ MapG D wt
theorem GrpW.made (w : World) : GrpW (w.alloc (.map #[] 0)) w.heap.size 0 (fun _ => []) := ⟨_, World.ownsGroups_made w _ _ _ _, fun x _ => Or.inl ⟨by simp [DataW.atKey], rfl⟩⟩
theorem lits_inj {a b : List Int} (h : (lits .i64 a : List (DataW Unit)) = lits .i64 b) : a = b := (List.map_inj_right (fun x y e => by simpa using e)).1 h
theorem grp_at {w : World} {M x : Nat} {D : DataW Unit} {wt : Nat → List Nat} {v : Value} {zs : List Int} (h : MapG D wt) (hx : x ≤ 1048576) (ha : D.atKey (.int .i64 (x : Int)) .nil = rowDatum .i64 v zs) (ho : w.ownsInts (M + 1) 3 .i64 v zs) : zs = plI (wt x) ∧ Stk w (M + 1) (wt x) v := by
  have e : zs = plI (wt x) := by
    rcases h x hx with ⟨h1, h2⟩ | h1 <;> rw [ha] at h1 <;> rcases ho.datum (H := Unit) with ⟨h3, h4⟩ | h3 <;> rw [h3] at h1
    · rw [h4, h2]; rfl
    · cases h1
    · cases h1
    · simp only [DataW.slice.injEq, and_true] at h1
      exact lits_inj h1
  refine ⟨e, ?_⟩
  have h1 := ho.1
  rw [e] at h1
  unfold Stk
  rw [plI_length] at h1
  have e2 : (plI (wt x)).map (Value.int .i64) = plV (wt x) := by simp [plI, plV]
  rw [e2] at h1
  exact h1
theorem grp_put {D : DataW Unit} {wt : Nat → List Nat} {x : Nat} {ws : List Nat} {v : Value} {w : World} {M : Nat} (h : MapG D wt) (hm : IsMap D) (ho : w.ownsInts (M + 1) 3 .i64 v (plI ws)) (hne : ws ≠ []) : MapG (D.put (.int .i64 (x : Int)) (rowDatum .i64 v (plI ws))) (fun y => if y = x then ws else wt y) := by
  intro y hy
  by_cases e : y = x
  · subst e
    rw [atKey_put_same hm (keyLitI y)]
    dsimp only
    rw [if_pos rfl]
    refine Or.inr (ho.datum_pos fun e => hne ?_)
    have := congrArg List.length e
    rw [plI_length] at this
    exact List.eq_nil_of_length_eq_zero this
  · rw [atKey_put_other (litI_ne e)]
    dsimp only
    rw [if_neg e]
    exact h y hy
theorem ints_of {w : World} {lo : Nat} {ws : List Nat} {v : Value} (h : Stk w lo ws v) (hb : ∀ x ∈ ws, x ≤ 1048576) : w.ownsInts lo 3 .i64 v (plI ws) := by
  refine ⟨?_, fun z hz => ?_⟩
  · rw [plI_length]
    have e2 : (plI ws).map (Value.int .i64) = plV ws := by simp [plI, plV]
    rw [e2]; exact h
  · simp only [plI, List.mem_map] at hz
    obtain ⟨a, ha, rfl⟩ := hz
    exact litI_wf a (hb a ha)
theorem grp_isMap {w : World} {M n : Nat} {D : DataW Unit} (h : w.ownsGroups Tryz.prog 3 (M + 1) 3 .i64 M n D) : IsMap D := by
  obtain ⟨es, clock, -, -, -, rfl, -⟩ := h
  exact ⟨_, rfl⟩
theorem grp_lt {w : World} {M n : Nat} {wt : Nat → List Nat} (h : GrpW w M n wt) : M < w.heap.size := by
  obtain ⟨D, ⟨es, clock, h1, -⟩, -⟩ := h
  exact (Array.getElem?_eq_some_iff.1 h1).1
theorem grp_row {w : World} {M n b : Nat} {wt : Nat → List Nat} {C : Array Value} {T : TypeId} (h : GrpW w M n wt) (hb : w.heap[b]? = some (.cells C T)) : b ≠ M := by
  rintro rfl
  obtain ⟨D, ⟨es, clock, h1, -⟩, -⟩ := h
  rw [h1] at hb; cases hb
theorem zeroIS (w : World) : (zeroValue 88).run Tryz.prog w = .ok (.slice none 0 0) w := by kernel_rfl

/-! ### All of it -/
/-- the blocks that the map's rows are not -/
def NoG (S : Nat → Prop) (A : Nat) (gv wv : Value) (k : Nat) : Prop := S k ∨ k = A ∨ some k = gv.ownBlock ∨ some k = wv.ownBlock
structure SpM (A M lo n : Nat) (work : List Nat) (wt : Nat → List Nat) (G : List Ce) (S : Nat → Prop) (gv wv : Value) (w : World) : Prop where
  box : w.heap[A]? = some (.cells #[gv] 142)
  own : OwnC w lo S G gv
  wk : Stk w lo work wv
  mp : GrpW w M n wt
  wsep : ∀ k, some k = wv.ownBlock → ¬ S k
  msep : w.Shuns M (NoG S A gv wv)
  sl : ∀ k, S k → lo ≤ k ∧ k < w.heap.size
  la : lo ≤ A
  lm : lo ≤ M
theorem SpM.alt {A M lo n : Nat} {work : List Nat} {wt : Nat → List Nat} {G : List Ce} {S : Nat → Prop} {gv wv : Value} {w : World} (h : SpM A M lo n work wt G S gv wv w) : A < w.heap.size := (Array.getElem?_eq_some_iff.1 h.box).1
theorem SpM.gb {A M lo n : Nat} {work : List Nat} {wt : Nat → List Nat} {G : List Ce} {S : Nat → Prop} {gv wv : Value} {w : World} (h : SpM A M lo n work wt G S gv wv w) : ∀ k, some k = gv.ownBlock → lo ≤ k ∧ k < w.heap.size ∧ k ≠ A ∧ some k ≠ wv.ownBlock ∧ k ≠ M := by
  intro k e
  obtain ⟨xs, hx⟩ := h.own.row
  rcases hx.2 with ⟨rfl, -⟩ | ⟨b, cap, cur, rfl, hg, hh, -⟩
  · simp [Value.ownBlock] at e
  · simp only [Value.ownBlock, Option.some.injEq] at e
    subst e
    refine ⟨hg, (Array.getElem?_eq_some_iff.1 hh).1, fun e => ?_, fun e => ?_, grp_row h.mp hh⟩
    · rw [e, h.box] at hh; simp at hh
    · rcases h.wk.2 with ⟨e2, -⟩ | ⟨b2, cap2, cur2, e2, -, hh2, -⟩
      · rw [e2] at e; simp [Value.ownBlock] at e
      · rw [e2] at e
        simp only [Value.ownBlock, Option.some.injEq] at e
        subst e
        rw [hh2] at hh; simp at hh
theorem SpM.wb {A M lo n : Nat} {work : List Nat} {wt : Nat → List Nat} {G : List Ce} {S : Nat → Prop} {gv wv : Value} {w : World} (h : SpM A M lo n work wt G S gv wv w) : ∀ k, some k = wv.ownBlock → lo ≤ k ∧ k < w.heap.size ∧ k ≠ A ∧ k ≠ M := by
  intro k e
  rcases h.wk.2 with ⟨rfl, -⟩ | ⟨b, cap, cur, rfl, hg, hh, -⟩
  · simp [Value.ownBlock] at e
  · simp only [Value.ownBlock, Option.some.injEq] at e
    subst e
    refine ⟨hg, (Array.getElem?_eq_some_iff.1 hh).1, fun e => ?_, grp_row h.mp hh⟩
    rw [e, h.box] at hh; simp at hh
/-- what is kept by a change of one row that is no row of the map -/
theorem GrpW.kept {w w' : World} {M n : Nat} {wt : Nat → List Nat} {row : Option Nat} {No : Nat → Prop} (h : GrpW w M n wt) (hs : w.Shuns M No) (hg : w.grownBy w' row) (hr : ∀ k, row = some k → No k ∧ k ≠ M) : GrpW w' M n wt ∧ w'.Shuns M No := by
  have hM := grp_lt h
  have hne : some M ≠ row := fun e => (hr M e.symm).2 rfl
  obtain ⟨D, h1, h2⟩ := h
  exact ⟨⟨D, h1.kept hg hne (hs.rowsOff fun k e => (hr k e).1), h2⟩, hs.kept hg hM hne⟩
theorem grown_ofBelow {w w' : World} (h : Below w.heap.size w w') : w.grownBy w' none := ⟨h.os, h.tape, h.output, h.size, fun k hk _ => h.block k hk⟩
theorem GrpW.reno {w : World} {M n : Nat} {wt : Nat → List Nat} {No No' : Nat → Prop} (h : GrpW w M n wt) (hs : w.Shuns M No) (hn : ∀ k, No' k → No k ∨ w.heap.size ≤ k) : w.Shuns M No' := by
  obtain ⟨D, h1, -⟩ := h
  exact hs.reno h1 hn
/-- new blocks alone -/
theorem SpM.next {A M lo n : Nat} {work : List Nat} {wt : Nat → List Nat} {G : List Ce} {S : Nat → Prop} {gv wv : Value} {w w' : World} (h : SpM A M lo n work wt G S gv wv w) (hb : Below w.heap.size w w') : SpM A M lo n work wt G S gv wv w' := by
  obtain ⟨h1, h2⟩ := h.mp.kept h.msep (grown_ofBelow hb) (fun k e => by cases e)
  exact ⟨(hb.block A h.alt).trans h.box, h.own.next (fun _ h _ => h) (fun k _ hz => hb.block k hz) (fun k _ hz => hb.block k hz), h.wk.keep (fun k _ hk => hb.block k hk), h1, h.wsep, h2, fun k hk => ⟨(h.sl k hk).1, Nat.lt_of_lt_of_le (h.sl k hk).2 hb.size⟩, h.la, h.lm⟩
/-- the last of the work is taken -/
theorem SpM.pop {A M lo n i : Nat} {rest : List Nat} {wt : Nat → List Nat} {G : List Ce} {S : Nat → Prop} {gv wv : Value} {w : World} (h : SpM A M lo n (rest ++ [i]) wt G S gv wv w) :
    ∃ g cap, wv = .slice (some ⟨g, 0, none⟩) (rest.length + 1) cap ∧ rest.length + 1 ≤ cap ∧ cap ≤ maxLen ∧ w.cell? ⟨g, rest.length, none⟩ = some (.int .i64 (i : Int)) ∧ SpM A M lo n rest wt G S gv (.slice (some ⟨g, 0, none⟩) rest.length cap) w := by
  obtain ⟨g, cap, rfl, hg, hgz, hc, hm, hcell, hst⟩ := h.wk.top
  exact ⟨g, cap, rfl, hc, hm, hcell, h.box, h.own, hst, h.mp, h.wsep, h.msep, h.sl, h.la, h.lm⟩
/-- a cell becomes an indirection -/
theorem SpM.ind {A M lo n b cap N : Nat} {work : List Nat} {wt : Nat → List Nat} {G : List Ce} {S : Nat → Prop} {wv : Value} {w : World} (h : SpM A M lo n work wt G S (.slice (some ⟨b, 0, none⟩) N cap) wv w) (hN : N = G.length) (hlo : lo ≤ w.heap.size) (i k : Nat) (hi : i < G.length) :
    SpM A M lo n work wt (G.set i (indTo k)) (fun x => S x ∨ x = w.heap.size) (.slice (some ⟨b, 0, none⟩) N cap) wv (st3 (w.alloc (.cells #[.int .i64 (k : Int)] 3)) b i 11 0 (.slice (some ⟨w.heap.size, 0, none⟩) 1 1)) := by
  have hgb := h.gb b rfl
  have h1 := h.next (box_below w (.cells #[.int .i64 (k : Int)] 3))
  have hkeep : ∀ x, x ≠ b → (st3 (w.alloc (.cells #[.int .i64 (k : Int)] 3)) b i 11 0 (.slice (some ⟨w.heap.size, 0, none⟩) 1 1)).heap[x]? = (w.alloc (.cells #[.int .i64 (k : Int)] 3)).heap[x]? := fun x hx => st3_block hx
  have hgrow : (w.alloc (.cells #[.int .i64 (k : Int)] 3)).grownBy (st3 (w.alloc (.cells #[.int .i64 (k : Int)] 3)) b i 11 0 (.slice (some ⟨w.heap.size, 0, none⟩) 1 1)) (some b) := ⟨rfl, rfl, rfl, Nat.le_of_eq st3_size.symm, fun x _ hn => hkeep x fun e => hn (by rw [e])⟩
  obtain ⟨m1, m2⟩ := h1.mp.kept h1.msep hgrow (fun x e => by simp only [Option.some.injEq] at e; subst e; exact ⟨Or.inr (Or.inr (Or.inl rfl)), hgb.2.2.2.2⟩)
  have hz : (st3 (w.alloc (.cells #[.int .i64 (k : Int)] 3)) b i 11 0 (.slice (some ⟨w.heap.size, 0, none⟩) 1 1)).heap.size = w.heap.size + 1 := by rw [st3_size, Deep.nblk_alloc]
  subst hN
  refine ⟨(hkeep A hgb.2.2.1.symm).trans h1.box, ?_, ?_, m1, fun x e hx => ?_, ?_, fun x hx => ?_, h.la, h.lm⟩
  · exact h1.own.setc i hi (c := indTo k) (ind_i64W k) (krow_one w k) fun hs => by have := (h.sl _ hs).2; omega
  · refine ⟨h1.wk.1, ?_⟩
    rcases h1.wk.2 with h' | ⟨b2, cap2, cur, e, hg, hh, r⟩
    · exact Or.inl h'
    · exact Or.inr ⟨b2, cap2, cur, e, hg, (hkeep b2 fun e2 => hgb.2.2.2.1 (by rw [e, e2]; rfl)).trans hh, r⟩
  · rcases hx with hx | hx
    · exact h.wsep x e hx
    · have := (h.wb x e).2.1; omega
  · have hs2 : w.Shuns M (NoG (fun x => S x ∨ x = w.heap.size) A (.slice (some ⟨b, 0, none⟩) G.length cap) wv) := h.mp.reno h.msep fun x hx => by
      rcases hx with (hx | hx) | hx
      · exact Or.inl (Or.inl hx)
      · exact Or.inr (by omega)
      · exact Or.inl (Or.inr hx)
    have hM := grp_lt h.mp
    exact (hs2.kept (grown_ofBelow (box_below w _)) hM (by simp)).kept hgrow (by rw [Deep.nblk_alloc]; omega) (by simp only [ne_eq, Option.some.injEq]; exact hgb.2.2.2.2.symm)
  · rw [hz]
    rcases hx with hx | hx
    · exact ⟨(h.sl x hx).1, by have := (h.sl x hx).2; omega⟩
    · exact ⟨by omega, by omega⟩
/-- more work -/
theorem SpM.push {A M lo n : Nat} {work news : List Nat} {wt : Nat → List Nat} {G : List Ce} {S : Nat → Prop} {gv wv v' : Value} {w w' : World} (h : SpM A M lo n work wt G S gv wv w) (hst : Stk w' lo (work ++ news) v') (hg : w.grownBy w' wv.ownBlock) (hw : v'.ownBlock = wv.ownBlock ∨ v'.ownBlock = some w.heap.size) :
    SpM A M lo n (work ++ news) wt G S gv v' w' := by
  have hs := hg.size
  obtain ⟨m1, m2⟩ := h.mp.kept h.msep hg (fun k e => ⟨Or.inr (Or.inr (Or.inr e.symm)), (h.wb k e.symm).2.2.2⟩)
  have hv : ∀ k, some k = v'.ownBlock → some k = wv.ownBlock ∨ k = w.heap.size := fun k e => by
    rcases hw with hw | hw
    · exact Or.inl (e.trans hw)
    · rw [hw] at e; simp only [Option.some.injEq] at e; exact Or.inr e
  refine ⟨(hg.block A h.alt fun e => (h.wb A e).2.2.1 rfl).trans h.box, ?_, hst, m1, fun k e hk => ?_, ?_, fun k hk => ⟨(h.sl k hk).1, Nat.lt_of_lt_of_le (h.sl k hk).2 hs⟩, h.la, h.lm⟩
  · exact h.own.next (fun _ h _ => h) (fun k e hz => hg.block k hz fun e2 => (h.gb k e).2.2.2.1 e2) (fun k hk hz => hg.block k hz fun e2 => h.wsep k e2 hk)
  · rcases hv k e with e | e
    · exact h.wsep k e hk
    · have := (h.sl k hk).2; omega
  · have hs2 : w.Shuns M (NoG S A gv v') := h.mp.reno h.msep fun k hk => by
      rcases hk with hk | hk | hk | hk
      · exact Or.inl (Or.inl hk)
      · exact Or.inl (Or.inr (Or.inl hk))
      · exact Or.inl (Or.inr (Or.inr (Or.inl hk)))
      · rcases hv k hk with e | e
        · exact Or.inl (Or.inr (Or.inr (Or.inr e)))
        · exact Or.inr (by omega)
    exact hs2.kept hg (grp_lt h.mp) fun e => (h.wb M e).2.2.2 rfl
/-- the look-up of those that wait for a cell -/
theorem wpList_lookG {ops : Array Oper} {rest : List Oper} {o1 : Oper} {a : Act} {Q : Exit → Act → World → Prop} (w : World) (hg : o1.guard = none) (m x : Operand) (hop : o1.op = Op.lookup 179 m x false) (M n : Nat) (wt : Nat → List Nat) (No : Nat → Prop) (hM : GrpW w M n wt) (hS : w.Shuns M No) (hn : n ≤ 1048576) (hm : a.eval m = .map (some M)) (q : Nat) (hq : q ≤ 1048576)
    (hx : a.eval x = .int .i64 (q : Int))
    (hK : ∀ v (D : DataW Unit), Stk w (M + 1) (wt q) v → (∀ k, some k = v.ownBlock → ¬ No k) → w.ownsGroups Tryz.prog 3 (M + 1) 3 .i64 M n D → MapG D wt → (wt q).length ≤ n → w.groupBack Tryz.prog 179 3 (M + 1) 3 .i64 M n D (.int .i64 (q : Int)) (.int .i64 (q : Int)) v → wpList Tryz.prog ops Q rest (a.put o1.dst v) w) : wpList Tryz.prog ops Q (o1 :: rest) a w := by
  obtain ⟨D, hown, hD⟩ := hM
  refine wpList_lookup_groups_shuns w hg m x 179 hop 3 88 3 .i64 keyedI Tryz.underlying179 (zeroIS w) (M + 1) M n D hm hown (by unfold maxLen; omega) (.int .i64 (q : Int)) (.int .i64 (q : Int)) hx (keyOf_int_mk Tryz.underlying3 (litI_wf q hq)) ?_
  intro v zs hat hoi hzl hback hsh
  obtain ⟨rfl, hst⟩ := grp_at hD hq hat hoi
  rw [plI_length] at hzl
  exact hK v D hst (fun k e => hsh No hS k e.symm) hown hD hzl hback
/-- a cell waits for another one -/
theorem SpM.store {A M lo n q : Nat} {work ws : List Nat} {wt : Nat → List Nat} {G : List Ce} {S : Nat → Prop} {gv wv v : Value} {w w3 w4 : World} {D' : DataW Unit} (h : SpM A M lo n work wt G S gv wv w)
    (hv : ∀ k, some k = v.ownBlock → ¬ NoG S A gv wv k ∧ k ≠ M) (hg : w.grownBy w3 v.ownBlock) (hg4 : w3.grownBy w4 (some M)) (h4 : w4.ownsGroups Tryz.prog 3 (M + 1) 3 .i64 M (n + 1) D') (hD' : MapG D' (fun y => if y = q then ws else wt y)) (hs4 : w4.Shuns M (NoG S A gv wv)) :
    SpM A M lo (n + 1) work (fun y => if y = q then ws else wt y) G S gv wv w4 := by
  have hM := grp_lt h.mp
  have keep : ∀ k, k < w.heap.size → NoG S A gv wv k → k ≠ M → w4.heap[k]? = w.heap[k]? := fun k hk hN hne => (hg4.block k (Nat.lt_of_lt_of_le hk hg.size) (by simpa using hne)).trans (hg.block k hk fun e => (hv k e).1 hN)
  have hSM : ∀ k, S k → k < w.heap.size → w.heap[k]? ≠ none := fun k _ hk e => by simp [hk] at e
  refine ⟨(keep A h.alt (Or.inr (Or.inl rfl)) (fun e => grp_row h.mp h.box e)).trans h.box, ?_, ?_, ⟨D', h4, hD'⟩, h.wsep, hs4, fun k hk => ⟨(h.sl k hk).1, Nat.lt_of_lt_of_le (h.sl k hk).2 (Nat.le_trans hg.size hg4.size)⟩, h.la, h.lm⟩
  · exact h.own.next3 (fun _ h _ => h) (fun k e hk => keep k hk (Or.inr (Or.inr (Or.inl e))) (h.gb k e).2.2.2.2) (fun k C hS hk hC => keep k hk (Or.inl hS) (grp_row h.mp hC))
  · refine ⟨h.wk.1, ?_⟩
    rcases h.wk.2 with h' | ⟨b2, cap2, cur, e, hgl, hh, r⟩
    · exact Or.inl h'
    · have e2 : some b2 = wv.ownBlock := by rw [e]; rfl
      exact Or.inr ⟨b2, cap2, cur, e, hgl, (keep b2 (Array.getElem?_eq_some_iff.1 hh).1 (Or.inr (Or.inr (Or.inr e2))) (h.wb b2 e2).2.2.2).trans hh, r⟩
end Go.Proofs.YtiipcgnkfhjpeaaGreatDoor
/-
  slices.Clone of a list of places.
-/
namespace Go.Proofs.YtiipcgnkfhjpeaaGreatDoor
set_option linter.unusedVariables false
set_option linter.unusedSimpArgs false
open Go.RowKit

/-- a copy, in a row of its own -/
def CloneRes (ws : List Nat) (w : World) (e : Ending) (w' : World) : Prop := ∃ v, e = .returned v ∧ Stk w' w.heap.size ws v ∧ Below w.heap.size w w'
theorem clone_below {wr w1 : World} {o : Obj} (h : (wr.alloc o).grownBy w1 (Value.slice (some ⟨wr.heap.size, 0, none⟩) 0 0).ownBlock) : Below wr.heap.size wr w1 :=
  ⟨h.os, h.tape, h.output, by have h1 : (wr.alloc o).heap.size ≤ w1.heap.size := h.size; rw [Deep.nblk_alloc] at h1; omega, fun k hk => (h.block k (by show k < (wr.alloc o).heap.size; rw [Deep.nblk_alloc]; omega) (by simp only [Value.ownBlock, ne_eq, Option.some.injEq]; omega)).trans (Deep.blk_alloc_lt _ _ _ hk)⟩
set_option maxRecDepth 100000 in
set_option maxHeartbeats 1600000 in
theorem cloneI_calls (ws : List Nat) (v : Value) (w : World) (hk : IIn w (ws.map fun (a : Nat) => (a : Int)) v) (hl : ws.length ≤ 1048576) : Calls Tryz.prog 99 #[v] w (CloneRes ws w) := by
  have HK : Hid (IIn w (ws.map fun (a : Nat) => (a : Int)) v) := hk
  obtain ⟨ad, cap, rfl, hlc, hm, hr⟩ := hk
  unfold maxLen at hm
  rcases ad with _ | ad
  · have hnil : ws = [] := by
      rcases hr with h | ⟨_, _, h, -⟩
      · simpa using h
      · simp at h
    subst hnil
    clear hr HK
    have q : (binOp .eql 88 (.slice none 0 cap) (.slice none 0 0)).run Tryz.prog w = .ok (.bool true) w := Lib.run_eql_slice_nil w _ _ none 0 cap 0 0 Tryz.underlying88
    go_enter Tryz.func99, Tryz.ntmps99
    go_wp2_with fail
    go_ret
    exact ⟨_, rfl, World.ownsRow_nil _ _ _ _, Below.refl _ _⟩
  · clear hr
    have q : (binOp .eql 88 (.slice (some ad) ws.length cap) (.slice none 0 0)).run Tryz.prog w = .ok (.bool false) w := Lib.run_eql_slice_nil w _ _ (some ad) ws.length cap 0 0 Tryz.underlying88
    go_enter Tryz.func99, Tryz.ntmps99
    go_wp2_with (at_builtin; go_must (refine wpList_push rfl _ _ rfl _ w.heap.size [] ws (.slice (some ⟨w.heap.size, 0, none⟩) 0 0) (.slice (some ad) (ws.map fun (a : Nat) => (a : Int)).length cap) rfl (stk_zero (Deep.blk_alloc_new w _) (Nat.le_refl _)) rfl (HK.out.next (box_below w _)) rfl (by rw [Deep.nblk_alloc]; omega) (by simp only [List.length_nil]; omega) ?_); go_must (intro v1 w1 hst1 hg1); go_must (have HST1 : Hid (Stk w1 w.heap.size ws v1) := hst1); go_must (have HB1 : Hid (Below w.heap.size w w1) := clone_below hg1); clear hst1 hg1)
    go_ret
    exact ⟨_, rfl, HST1.out, HB1.out⟩
end Go.Proofs.YtiipcgnkfhjpeaaGreatDoor
