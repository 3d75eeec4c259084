/-
  A SLICE OF INTS THAT A CALL OWNS, to which it appends: any numbers.
-/
import Derived.Test.YtekdipmioogohaaMgCodeTwo6
import Derived.Test.YtekdipmioogohaaMgCodeTwo3
import Derived.Test.YtekdipmioogohaaMgCodeTwo1
import Derived.Test.YtekdipmioogohaaMgCodeTwo5
import Derived.Test.YtekdipmioogohaaMgCodeTwo4
import Derived.Test.YtekdipmioogohaaMgCodeTwo2
namespace Go.Proofs.Ytekdipmioogohaa
set_option linter.unusedVariables false
set_option linter.unusedSimpArgs false
open Go.RowKit

/-- numbers, as values -/
def inV (xs : List Int) : List Value := xs.map fun a => Value.int .i64 a
theorem inV_length (xs : List Int) : (inV xs).length = xs.length := by simp [inV]
theorem inV_append (xs ys : List Int) : inV (xs ++ ys) = inV xs ++ inV ys := by simp [inV]
theorem inV_one (xs : List Int) : ∀ u ∈ inV xs, u.oneCell' = true := by
  intro u hu
  simp only [inV, List.mem_map] at hu
  obtain ⟨a, -, rfl⟩ := hu
  rfl
def StkI (w : World) (lo : Nat) (xs : List Int) (v : Value) : Prop := w.ownsRow lo 3 1 v xs.length (inV xs)
theorem StkI.keep {w w' : World} {lo : Nat} {xs : List Int} {v : Value} (h : StkI w lo xs v) (hk : ∀ k, lo ≤ k → k < w.heap.size → w'.heap[k]? = w.heap[k]?) : StkI w' lo xs v := by
  refine ⟨h.1, ?_⟩
  rcases h.2 with h | ⟨g, cap, cur, rfl, hg, hh, r⟩
  · exact Or.inl h
  · exact Or.inr ⟨g, cap, cur, rfl, hg, (hk g hg (Array.getElem?_eq_some_iff.1 hh).1).trans hh, r⟩
theorem StkI.next {w w' : World} {lo : Nat} {xs : List Int} {v : Value} (h : StkI w lo xs v) (hb : Below w.heap.size w w') : StkI w' lo xs v := h.keep fun k _ hk => hb.block k hk
theorem StkI.lower {w : World} {lo lo' : Nat} {xs : List Int} {v : Value} (h : StkI w lo xs v) (hl : lo' ≤ lo) : StkI w lo' xs v := by
  refine ⟨h.1, ?_⟩
  rcases h.2 with h | ⟨g, cap, cur, rfl, hg, r⟩
  · exact Or.inl h
  · exact Or.inr ⟨g, cap, cur, rfl, Nat.le_trans hl hg, r⟩
theorem StkI.len {w : World} {lo : Nat} {xs : List Int} {v : Value} (h : StkI w lo xs v) : ∃ ad cap, v = .slice ad xs.length cap := by
  rcases h.2 with ⟨rfl, h0⟩ | ⟨g, cap, cur, rfl, -⟩
  · exact ⟨none, 0, by rw [h0]⟩
  · exact ⟨_, _, rfl⟩
theorem StkI.form {w : World} {lo : Nat} {xs : List Int} {v : Value} (h : StkI w lo xs v) : ∃ ad n cap, v = .slice ad n cap := by
  obtain ⟨ad, cap, e⟩ := h.len
  exact ⟨ad, _, cap, e⟩
theorem StkI.eq_len {w : World} {lo : Nat} {xs : List Int} {ad : Option Addr} {n cap : Nat} (h : StkI w lo xs (.slice ad n cap)) : n = xs.length := by
  obtain ⟨_, _, e⟩ := h.len
  simp only [Value.slice.injEq] at e
  exact e.2.1
/-- no numbers yet, in a new block -/
theorem StkI.nil (w : World) (lo : Nat) (h : lo ≤ w.heap.size) : StkI (w.alloc (.cells #[] 3)) lo [] (.slice (some ⟨w.heap.size, 0, none⟩) 0 0) :=
  ⟨rfl, Or.inr ⟨w.heap.size, 0, _, rfl, h, Deep.blk_alloc_new _ _, Nat.le_refl _, by simp [maxLen], rfl, rfl⟩⟩
theorem StkI.none (w : World) (lo : Nat) : StkI w lo [] (.slice none 0 0) := ⟨rfl, Or.inl ⟨rfl, rfl⟩⟩
theorem StkI.row {w : World} {lo : Nat} {xs : List Int} {v : Value} (h : StkI w lo xs v) : IntRow w lo xs v := by
  rcases h.2 with ⟨rfl, h0⟩ | ⟨g, cap, cur, rfl, hg, hh, hn, hc, hs, htk⟩
  · obtain rfl : xs = [] := List.eq_nil_of_length_eq_zero h0
    exact IntRow.none _ _
  · rw [Nat.mul_one] at hs htk
    refine ⟨_, cap, rfl, hn, hc, Or.inr ⟨g, fun i => cur.getD i undef, rfl, hg, ⟨cur, hh, hs, fun i hi => ?_⟩, fun i hi => ?_⟩⟩
    · have hi' : i < cur.size := by omega
      simp [Array.getD, hi']
    · have hi' : i < cur.size := by omega
      have e1 : (cur.toList.take xs.length)[i]? = (inV xs)[i]? := by rw [htk]
      rw [List.getElem?_take_of_lt hi] at e1
      have e2 : (inV xs)[i]? = some (.int .i64 xs[i]) := by simp [inV, hi]
      rw [e2] at e1
      simp [Array.getD, hi'] at e1 ⊢
      exact e1
theorem StkI.alloc {w : World} {lo : Nat} {xs : List Int} {v : Value} (h : StkI w lo xs v) (o : Obj) : StkI (w.alloc o) lo xs v := h.keep fun k _ hk => Deep.blk_alloc_lt _ _ _ hk
theorem StkI.drew {w : World} {lo : Nat} {xs : List Int} {v : Value} (h : StkI w lo xs v) : StkI w.drew lo xs v := h.keep fun _ _ _ => rfl
/-- one number in a new block, as a slice that is appended -/
theorem oneI_in (w : World) (a : Int) : IIn (w.alloc (.cells #[.int .i64 a] 3)) [a] (.slice (some ⟨w.heap.size, 0, none⟩) 1 1) := by
  refine ⟨_, 1, rfl, Nat.le_refl _, by simp [maxLen], Or.inr ⟨_, 0, rfl, by show w.heap.size < _; rw [Deep.nblk_alloc]; omega, fun i hi => ?_⟩⟩
  obtain rfl : i = 0 := by simp at hi; omega
  exact box_cell w #[.int .i64 a] 3 0 _ rfl
theorem ints_newsI {w : World} {xs : List Int} {ad : Addr} {n cap : Nat} (h : IIn w xs (.slice (some ad) n cap)) : ∀ j u, (inV xs)[j]? = some u → w.cell? (ad.add j) = some u := by
  intro j u hu
  obtain ⟨ad', cap', he, -, -, hr⟩ := h
  simp only [Value.slice.injEq, Option.some.injEq] at he
  obtain ⟨rfl, -, -⟩ := he
  have hj : j < xs.length := by
    rcases Nat.lt_or_ge j xs.length with h | h
    · exact h
    · rw [List.getElem?_eq_none (by rw [inV_length]; exact h)] at hu; cases hu
  rcases hr with hnil | ⟨bl, off, e, -, hr⟩
  · subst hnil; simp at hj
  · simp only [Option.some.injEq] at e
    subst e
    rw [WideShapes.add_plain]
    have := hr j hj
    rw [this]
    simp [inV, hj] at hu
    simpa using hu

/-- append of numbers, out of any slice of ints -/
theorem run_pushI (w : World) (lo : Nat) (xs news : List Int) (v x : Value) (ty : TypeId) (hst : StkI w lo xs v) (hx : IIn w news x) (hlo : lo ≤ w.heap.size) (hb : xs.length + news.length ≤ 1048576) :
    ∃ v' w', (Builtin.append_ #[44, 44] ty #[v, x]).run Try.prog w = .ok v' w' ∧ StkI w' lo (xs ++ news) v' ∧ w.grownBy w' v.ownBlock := by
  obtain ⟨i, z, hi, hz, hs, hby, hzs⟩ := infoI1
  have hx2 := hx
  obtain ⟨ad, cap, rfl, -, -, hr⟩ := hx2
  rcases ad with _ | ad
  · have hnil : news = [] := by
      rcases hr with h | ⟨_, _, h, -⟩
      · exact h
      · simp at h
    subst hnil
    refine ⟨v, w, ?_, by simpa using hst, ⟨rfl, rfl, rfl, Nat.le_refl _, fun _ _ _ => rfl⟩⟩
    rcases hst.2 with ⟨rfl, h0⟩ | ⟨g, cap, cur, rfl, _, _, hnc, _⟩
    · simp [Builtin.append_, run_underlying Try.underlying44, sizeOf, typeInfo, hi, Builtin.lenOf, Builtin.firstCells]
    · simp [Builtin.append_, run_underlying Try.underlying44, sizeOf, typeInfo, hi, Builtin.lenOf, Builtin.firstCells, hnc, storeCells]
  · obtain ⟨v', w', hrun, hown, hg, -⟩ := run_append_own (P := Try.prog) w lo 44 ty 3 i z 1 8 Try.underlying44 hi hz hs hby hzs (by decide) v xs.length (inV xs) hst ad news.length cap (inV news) (by rw [inV_length, Nat.mul_one]) (ints_newsI hx) (inV_one _) (by unfold maxLen; omega) (by omega) hlo
    refine ⟨v', w', hrun, ?_, hg⟩
    unfold StkI
    rw [inV_append, List.length_append]
    exact hown
theorem wpList_pushI {ops : Array Oper} {rest : List Oper} {o : Oper} {a : Act} {Q : Exit → Act → World → Prop} (hgd : o.guard = none) (s x : Operand)
    (ho : o.op = .call { callee := .builtin .append, args := #[s, x], argTypes := #[44, 44] })
    (w : World) (lo : Nat) (xs news : List Int) (v xv : Value) (hs : a.eval s = v) (hst : StkI w lo xs v) (hxe : a.eval x = xv) (hx : IIn w news xv) (hlo : lo ≤ w.heap.size) (hb : xs.length + news.length ≤ 1048576)
    (h : ∀ v' w', StkI w' lo (xs ++ news) v' → w.grownBy w' v.ownBlock → wpList Try.prog ops Q rest (a.put o.dst v') w') : wpList Try.prog ops Q (o :: rest) a w := by
  refine wpList_plain hgd fun K hK => ?_
  obtain ⟨v', w', hrun, h2, h3⟩ := run_pushI w lo xs news v xv o.type hst hx hlo hb
  unfold Oper.wp
  simp [execOp, ho, resolve, invoke, builtin, hs, hxe, hrun, Result.andThen]
  exact hK _ _ (h v' w' h2 h3)
/-- a world after an append to a row of one's own -/
theorem StkI.grown {lo : Nat} {w0 w w' : World} {xs : List Int} {v : Value} (hst : StkI w lo xs v) (hl : lo = w0.heap.size) (hb : Below w0.heap.size w0 w) (hg : w.grownBy w' v.ownBlock) : Below w0.heap.size w0 w' :=
  ⟨by rw [hg.os]; exact hb.os, by rw [hg.tape]; exact hb.tape, by rw [hg.output]; exact hb.output, Nat.le_trans hb.size hg.size, fun k hk => (hg.block k (Nat.lt_of_lt_of_le hk hb.size) (fun e => by have := own_lo hst e; omega)).trans (hb.block k hk)⟩
/-- what lies below the row stays by an append -/
theorem StkI.far {lo : Nat} {w w' : World} {xs : List Int} {v : Value} (hst : StkI w lo xs v) (hg : w.grownBy w' v.ownBlock) {k : Nat} (hk : k < w.heap.size) (hl : k < lo) : w'.heap[k]? = w.heap[k]? :=
  hg.block k hk (fun e => by have := own_lo hst e; omega)
/-- .. as one step of a region that draws its order -/
theorem step_pushI {ops : Array Oper} {o : Oper} {a : Act} {w : World} {K : Act → World → Prop} {Q : Exit → Act → World → Prop} {E : Prop} (hgd : o.guard = none) (s x : Operand)
    (ho : o.op = .call { callee := .builtin .append, args := #[s, x], argTypes := #[44, 44] })
    (lo : Nat) (xs news : List Int) (v xv : Value) (hs : a.eval s = v) (hst : StkI w lo xs v) (hxe : a.eval x = xv) (hx : IIn w news xv) (hlo : lo ≤ w.heap.size) (hb : xs.length + news.length ≤ 1048576)
    (h : ∀ v' w', StkI w' lo (xs ++ news) v' → w.grownBy w' v.ownBlock → K (a.put o.dst v') w') : if Region.wanted o (yielded ops a.tmps) = true then Oper.wp Try.prog o a w K Q else E := by
  have hw : Region.wanted o (yielded ops a.tmps) = true := by simp [Region.wanted, hgd]
  rw [if_pos hw]
  obtain ⟨v', w', hrun, h2, h3⟩ := run_pushI w lo xs news v xv o.type hst hx hlo hb
  unfold Oper.wp
  simp [execOp, ho, resolve, invoke, builtin, hs, hxe, hrun, Result.andThen]
  exact h _ _ h2 h3
/-- a block of another type stays by an append -/
theorem StkI.box {lo B : Nat} {w w' : World} {xs : List Int} {v : Value} {cs : Array Value} {T : TypeId} (hst : StkI w lo xs v) (hX : w.heap[B]? = some (.cells cs T)) (hT : T ≠ 3) (hg : w.grownBy w' v.ownBlock) : w'.heap[B]? = some (.cells cs T) := by
  refine (hg.block B (Array.getElem?_eq_some_iff.1 hX).1 fun e => ?_).trans hX
  rcases hst.2 with ⟨rfl, -⟩ | ⟨g, cap, cur, rfl, -, hh, -⟩
  · simp [Value.ownBlock] at e
  · simp only [Value.ownBlock, Option.some.injEq] at e
    subst e
    rw [hX] at hh
    simp only [Option.some.injEq, Obj.cells.injEq] at hh
    exact hT hh.2.1
end Go.Proofs.Ytekdipmioogohaa
/-
  THE MODEL's l8Depths AND StackOf.
-/
namespace Go.Proofs.Ytekdipmioogohaa
set_option linter.unusedVariables false
set_option linter.unusedSimpArgs false
open Go.RowKit

/-- heights, as numbers -/
def hN (ds : List Nat) : List Int := ds.map fun (a : Nat) => (a : Int)
theorem hN_length (ds : List Nat) : (hN ds).length = ds.length := by simp [hN]
/-- the heights, in new memory, and whether one element is left -/
def DepRes (cs : List Ins) (w : World) (e : Ending) (w' : World) : Prop :=
  ∃ v, e = .returned (.tuple #[v, .bool (match dsC [] cs with | some ds => decide (topH ds = 1) | none => false)]) ∧ StkI w' w.heap.size (match dsC [] cs with | some ds => hN ds | none => []) v ∧ Below w.heap.size w w'

set_option maxRecDepth 100000 in
set_option maxHeartbeats 1600000 in
theorem l8Depths_calls (cs : List Ins) (c : Value) (w : World) (hk : InsIn w cs c) (hl : cs.length ≤ 1048576) : Calls Try.prog 21 #[c] w (DepRes cs w) := by
  have HK : Hid (InsIn w cs c) := hk
  obtain ⟨ad, cap, rfl, -, -, -⟩ := hk
  go_enter Try.func21, Try.ntmps21
  go_wp2_with fail
  go_loopw [4, 5, 6] (fun o n i wr => ∃ (k : Nat) (ds : List Nat), k ≤ cs.length ∧ i = .int .i64 k ∧ Hid (dsC [] (cs.take k) = some ds) ∧ n = .int .i64 (topH ds : Int) ∧ StkI wr w.heap.size (hN ds) o ∧ Below w.heap.size w wr) (fun _ _ i _ => cs.length - (intOf i).toNat)
  case atStart => exact ⟨0, [], Nat.zero_le _, rfl, rfl, rfl, StkI.nil _ _ (Nat.le_refl _), box_below _ _⟩
  case round =>
    obtain ⟨k, ds, hk, rfl, HD, rfl, hst, hb⟩ := hrel
    obtain ⟨htk, hdl⟩ := dsC_take HD.out hk
    have HS : Hid (StkI wr w.heap.size (hN ds) u4) := hst
    have HB : Hid (Below w.heap.size w wr) := hb
    clear hst
    by_cases hlt : k < cs.length
    · obtain ⟨bl, off, rfl, -, c0, c1⟩ := (HK.out.next hb).at k hlt
      obtain ⟨ado, no, capo, rfl⟩ := HS.out.form
      clear hb
      by_cases hok : 0 ≤ arity cs[k].op ∧ arN cs[k].op ≤ topH ds
      · have HN := mkHid (dsC_some HD.out hlt hok.1 hok.2)
        obtain ⟨hok1, hok2⟩ := hok
        have har : arity cs[k].op = (arN cs[k].op : Int) := by
          rcases arity_cases cs[k].op with e | ⟨-, e, -⟩
          · omega
          · exact e
        have hq := l1Kids_calls cs[k].op wr
        rw [har] at hq
        have HT := mkHid (topH_snoc ds (topH ds - arN cs[k].op + 1))
        have HE : Hid ((topH ds : Int) - (arN cs[k].op : Int) + 1 = ((topH ds - arN cs[k].op + 1 : Nat) : Int)) := by unfold Hid; omega
        have hn1 : ¬ ((arN cs[k].op : Int) < 0) := by omega
        have hn2 : ¬ ((topH ds : Int) < (arN cs[k].op : Int)) := by omega
        have HNL : Hid (hN (ds ++ [topH ds - arN cs[k].op + 1]) = hN ds ++ [(topH ds : Int) - (arN cs[k].op : Int) + 1]) := by unfold Hid; rw [HE.out]; simp [hN]
        have HDL : Hid ((hN ds).length ≤ 1048575) := by unfold Hid; rw [hN_length]; omega
        have A1 := mkHid (HS.out.alloc (.cells #[.int .i64 ((topH ds : Int) - (arN cs[k].op : Int) + 1)] 3))
        have K1 := mkHid (oneI_in wr ((topH ds : Int) - (arN cs[k].op : Int) + 1))
        have L1 : Hid (w.heap.size ≤ (wr.alloc (.cells #[.int .i64 ((topH ds : Int) - (arN cs[k].op : Int) + 1)] 3)).heap.size) := by rw [Hid, Deep.nblk_alloc]; have := HB.out.size; omega
        have HB5 : Hid (Below w.heap.size w (wr.alloc (.cells #[.int .i64 ((topH ds : Int) - (arN cs[k].op : Int) + 1)] 3))) := HB.out.alloc HB.out.size _
        clear hok1 har
        go_wp2_with fail
        refine hq.mono ?_
        rintro e w1 ⟨rfl, rfl⟩
        go_wp2_with (have tk := A1; clear tk; at_builtin; go_must (refine wpList_pushI rfl _ _ rfl _ w.heap.size (hN ds) [(topH ds : Int) - (arN cs[k].op : Int) + 1] (.slice ado no capo) (.slice (some ⟨wr.heap.size, 0, none⟩) 1 1) rfl A1.out rfl K1.out L1.out (by have := HDL.out; simp only [List.length_cons, List.length_nil]; omega) ?_); go_must (intro v1 w6 hst1 hg1); go_must (have HB6 : Hid (Below w.heap.size w w6) := StkI.grown A1.out rfl HB5.out hg1); go_must (have HS6 : Hid (StkI w6 w.heap.size (hN (ds ++ [topH ds - arN cs[k].op + 1])) v1) := by rw [HNL.out]; exact hst1); go_must (obtain ⟨ad1, n1, cap1, rfl⟩ := hst1.form); clear hst1 hg1)
        go_roundw
        case rel => exact ⟨k + 1, _, by omega, by go_num, HN, by rw [HT.out, ← HE.out], HS6.out, HB6.out⟩
        case measure => simp [intOf]; omega
      · have HV := mkHid (dsC_no HD.out hlt hok)
        have HST : Hid (StkI (wr.alloc (.cells #[] 3)) w.heap.size [] (.slice (some ⟨wr.heap.size, 0, none⟩) 0 0)) := StkI.nil _ _ HB.out.size
        have HBA : Hid (Below w.heap.size w (wr.alloc (.cells #[] 3))) := HB.out.alloc HB.out.size _
        have hq := l1Kids_calls cs[k].op wr
        by_cases h1 : 0 ≤ arity cs[k].op
        · have har : arity cs[k].op = (arN cs[k].op : Int) := by
            rcases arity_cases cs[k].op with e | ⟨-, e, -⟩
            · omega
            · exact e
          rw [har] at hq
          have hn1 : ¬ ((arN cs[k].op : Int) < 0) := by omega
          have hn2 : (topH ds : Int) < (arN cs[k].op : Int) := by omega
          have hn3 : topH ds < arN cs[k].op := by omega
          clear hok h1 har
          go_wp2_with fail
          refine hq.mono ?_
          rintro e w1 ⟨rfl, rfl⟩
          go_wp2_with fail
          go_ret2
          exact ⟨.slice (some ⟨wr.heap.size, 0, none⟩) 0 0, by rw [HV.out]; rfl, by rw [HV.out]; exact HST.out, HBA.out⟩
        · have har : arity cs[k].op = -1 := by
            rcases arity_cases cs[k].op with e | ⟨e, -, -⟩
            · exact e
            · omega
          rw [har] at hq
          clear hok h1 har
          go_wp2_with fail
          refine hq.mono ?_
          rintro e w1 ⟨rfl, rfl⟩
          go_wp2_with fail
          go_ret2
          exact ⟨.slice (some ⟨wr.heap.size, 0, none⟩) 0 0, by rw [HV.out]; rfl, by rw [HV.out]; exact HST.out, HBA.out⟩
    · have hke : k = cs.length := by omega
      have HV : Hid (dsC [] cs = some ds) := by
        have := HD.out
        rw [hke, List.take_length] at this
        exact this
      clear hke hb
      obtain ⟨ado, no, capo, rfl⟩ := HS.out.form
      go_wp2_with fail
      go_ret2
      refine ⟨.slice ado no capo, ?_, ?_, HB.out⟩
      · rw [HV.out]; refine congrArg (fun b => Ending.returned (.tuple #[.slice ado no capo, .bool b])) (?_ : ((topH ds : Int) == 1) = decide (topH ds = 1)); by_cases h : topH ds = 1 <;> simp [h] <;> omega
      · rw [HV.out]; exact HS.out

theorem mxL_take (ds : List Nat) (j : Nat) (h : j < ds.length) : mxL (ds.take (j + 1)) = max (mxL (ds.take j)) ds[j] := by
  rw [List.take_succ_eq_append_getElem h, mxL_snoc]

set_option maxRecDepth 100000 in
set_option maxHeartbeats 1600000 in
theorem specStack_calls (cs : List Ins) (c : Value) (w : World) (hk : InsIn w cs c) (hl : cs.length ≤ 1048576) : Calls Try.prog 9 #[c] w fun e w' => e = .returned (.int .i64 (stackO cs : Int)) ∧ Below w.heap.size w w' := by
  obtain ⟨L, hL⟩ : ∃ L : List Nat, L = (match dsC [] cs with | some ds => ds | none => []) := ⟨_, rfl⟩
  have HV : Hid (stackO cs = mxL L) := by rw [hL]; unfold Hid stackO; cases dsC [] cs <;> rfl
  have HLN : Hid (L.length ≤ 1048576) := by
    rw [hL]; unfold Hid
    cases h : dsC [] cs with
    | none => simp
    | some ds => have := dsC_len h; simp at this ⊢; omega
  have HQ : Hid (∀ W : World, InsIn W cs c → Calls Try.prog 21 #[c] W fun e w' => ∃ v b, e = .returned (.tuple #[v, .bool b]) ∧ StkI w' W.heap.size (hN L) v ∧ Below W.heap.size W w') := fun W hW => (l8Depths_calls cs c W hW hl).mono fun e w' h => by
    obtain ⟨v, e1, e2, e3⟩ := h
    refine ⟨v, _, e1, ?_, e3⟩
    rw [hL]
    cases h : dsC [] cs <;> rw [h] at e2 <;> exact e2
  have HK : Hid (InsIn w cs c) := hk
  clear hL hk
  go_enter Try.func9, Try.ntmps9
  go_wp2_with fail
  refine (HQ.out w HK.out).mono ?_
  rintro e w1 ⟨v, b, rfl, hst, hb⟩
  have HS : Hid (StkI w1 w.heap.size (hN L) v) := hst
  have HB : Hid (Below w.heap.size w w1) := hb
  obtain ⟨ado, no, capo, rfl⟩ := HS.out.form
  have hno : no = L.length := by rw [HS.out.eq_len, hN_length]
  subst hno
  have HI : Hid (IIn w1 (hN L) (.slice ado L.length capo)) := HS.out.row.inn
  clear hst hb
  go_wp2_with fail
  go_loopw [3, 6] (fun m i wr => ∃ (j : Nat), j ≤ L.length ∧ i = .int .i64 j ∧ m = .int .i64 (mxL (L.take j) : Int) ∧ Below w1.heap.size w1 wr) (fun _ i _ => L.length - (intOf i).toNat)
  case atStart => exact ⟨0, Nat.zero_le _, rfl, rfl, Below.refl _ _⟩
  case round =>
    obtain ⟨j, hj, rfl, rfl, hb⟩ := hrel
    have HBR := mkHid hb
    have hln := HLN.out
    by_cases hlt : j < L.length
    · clear hb
      obtain ⟨bl, off, rfl, c0⟩ := (HI.out.next HBR.out).at j (by rw [hN_length]; exact hlt)
      have hel : (hN L)[j]'(by rw [hN_length]; exact hlt) = (L[j] : Int) := by simp [hN]
      rw [hel] at c0
      have HM := mkHid (mxL_take L j hlt)
      clear hel
      by_cases hgt : (mxL (L.take j) : Int) < (L[j] : Int)
      · have HM2 : Hid (mxL (L.take (j + 1)) = L[j]) := by rw [Hid, HM.out]; omega
        clear HM
        go_wp2_with fail
        go_roundw
        case rel => exact ⟨j + 1, by omega, by go_num, by rw [HM2.out], HBR.out⟩
        case measure => simp [intOf]; omega
      · have HM2 : Hid (mxL (L.take (j + 1)) = mxL (L.take j)) := by rw [Hid, HM.out]; omega
        clear HM
        go_wp2_with fail
        go_roundw
        case rel => exact ⟨j + 1, by omega, by go_num, by rw [HM2.out], HBR.out⟩
        case measure => simp [intOf]; omega
    · have hje : j = L.length := by omega
      have HV2 : Hid (stackO cs = mxL (L.take j)) := by rw [Hid, HV.out, hje, List.take_length]
      have HBB := mkHid (HB.out.trans (HBR.out.mono HB.out.size))
      clear hje hb
      go_wp2_with fail
      go_ret
      rw [HV2.out]
      exact ⟨rfl, HBB.out⟩
end Go.Proofs.Ytekdipmioogohaa
/-
  THE MODEL's l8Own AND l8Expr.
-/
namespace Go.Proofs.Ytekdipmioogohaa
set_option linter.unusedVariables false
set_option linter.unusedSimpArgs false
open Go.RowKit

set_option maxHeartbeats 800000 in
theorem l8Own_calls (o n vars defs : Int) (w : World) : Calls Try.prog 24 #[.agg #[.int .i64 o, .int .i64 n], .int .i64 vars, .int .i64 defs] w fun e w' => e = .returned (.bool (decide (0 ≤ arity o) && ownB o n vars defs)) ∧ Below w.heap.size w w' := by
  have hq := l1Kids_calls o (w.alloc (.cells #[.int .i64 o, .int .i64 n] 37))
  have HB0 : Hid (Below w.heap.size w (w.alloc (.cells #[.int .i64 o, .int .i64 n] 37))) := box_below _ _
  by_cases h : 0 ≤ arity o
  · have hd : decide (0 ≤ arity o) = true := decide_eq_true h
    rw [hd, Bool.true_and]
    clear hd
    go_enter Try.func24, Try.ntmps24
    go_wp2_with fail
    refine hq.mono ?_
    rintro e w1 ⟨rfl, rfl⟩
    go_wp2_with fail
    refine (l1Own_calls o n vars defs _ _).mono ?_
    rintro e w2 ⟨rfl, hb⟩
    have HB2 : Hid (Below w.heap.size w w2) := HB0.out.trans (hb.mono HB0.out.size)
    clear hb
    go_wp2_with fail
    go_ret
    exact ⟨rfl, HB2.out⟩
  · have hd : decide (0 ≤ arity o) = false := decide_eq_false h
    rw [hd, Bool.false_and]
    have hn : ¬ (arity o ≥ 0) := h
    clear hd
    go_enter Try.func24, Try.ntmps24
    go_wp2_with fail
    refine hq.mono ?_
    rintro e w1 ⟨rfl, rfl⟩
    go_wp2_with fail
    go_ret
    exact ⟨rfl, HB0.out⟩

theorem fresh_below {wr W w3 : World} {G : Nat} (hb : Below wr.heap.size wr W) (hg : W.grownBy w3 (some G)) (hl : wr.heap.size ≤ G) : Below wr.heap.size wr w3 :=
  ⟨by rw [hg.os]; exact hb.os, by rw [hg.tape]; exact hb.tape, by rw [hg.output]; exact hb.output, Nat.le_trans hb.size hg.size, fun k hk => (hg.block k (Nat.lt_of_lt_of_le hk hb.size) (by simp only [ne_eq, Option.some.injEq]; omega)).trans (hb.block k hk)⟩
theorem alloc_at2 (w : World) (A B : Obj) : ((w.alloc A).alloc B).heap[w.heap.size + 1]? = some B := by
  have := Deep.blk_alloc_new (w.alloc A) B
  rw [Deep.nblk_alloc] at this
  exact this
theorem news_blk {W : World} {B : Nat} {x y z : Value} {T : TypeId} (h : W.heap[B]? = some (.cells #[x, y, z] T)) (j : Nat) (u : Value) (hu : [x, y, z][j]? = some u) : W.cell? ((⟨B, 0, none⟩ : Addr).add j) = some u := by
  rw [WideShapes.add_plain, Nat.zero_add]
  exact cell_of_blk h j u (by simpa using hu)
/-- the tree of code that leaves one, in new memory -/
def ExprGot (t : Tr) (w : World) (e : Ending) (w' : World) : Prop :=
  ∃ v, e = .returned (.agg #[.int .i64 t.op, .int .i64 t.num, v]) ∧ Fresh w' w.heap.size t.kids v ∧ Below w.heap.size w w'

set_option maxRecDepth 100000 in
set_option maxHeartbeats 3200000 in
theorem l8Expr_calls (cs : List Ins) (t : Tr) (c : Value) (w : World) (hk : InsIn w cs c) (hl : cs.length ≤ 1048576) (hw : ∀ c ∈ cs, I64 c.op ∧ I64 c.num) (hr : runC [] cs = some [t]) : Calls Try.prog 26 #[c] w (ExprGot t w) := by
  have HK : Hid (InsIn w cs c) := hk
  have HW := mkHid hw
  have HRC := mkHid hr
  obtain ⟨ad, cap, rfl, -, -, -⟩ := hk
  obtain ⟨iE, zE, hII⟩ := infoE3
  have HE := mkHid hII
  have HB0 : Hid (Below w.heap.size w (w.alloc (.cells #[.int .i64 0, .int .i64 0, .slice none 0 0] 32))) := box_below _ _
  have HZ0 : Hid ((w.alloc (.cells #[.int .i64 0, .int .i64 0, .slice none 0 0] 32)).heap[w.heap.size]? = some (.cells #[.int .i64 0, .int .i64 0, .slice none 0 0] 32)) := Deep.blk_alloc_new _ _
  have HS0 : Hid ((w.alloc (.cells #[.int .i64 0, .int .i64 0, .slice none 0 0] 32)).heap.size = w.heap.size + 1) := Deep.nblk_alloc _ _
  obtain ⟨w0, hw0⟩ : ∃ w0, w0 = w.alloc (.cells #[.int .i64 0, .int .i64 0, .slice none 0 0] 32) := ⟨_, rfl⟩
  clear hw hr hII
  go_enter Try.func26, Try.ntmps26
  go_wp2_with fail
  rw [← hw0]
  rw [← hw0] at HB0 HZ0 HS0
  clear hw0
  go_loopw [3, 4] (fun v i wr => ∃ (k : Nat) (s : List Tr) (g capg : Nat), k ≤ cs.length ∧ i = .int .i64 k ∧ v = .slice (some ⟨g, 0, none⟩) s.length capg ∧ Hid (runC [] (cs.take k) = some s) ∧ OwnF wr w0.heap.size wr.heap.size s v ∧ Below w0.heap.size w0 wr) (fun _ i _ => cs.length - (intOf i).toNat)
  case atStart =>
    rw [show w.heap.size + 1 = w0.heap.size from HS0.out.symm]
    refine ⟨0, [], w0.heap.size, 0, Nat.zero_le _, rfl, rfl, rfl, ⟨[], [], ?_, rfl, fun j hj => absurd hj (by simp), by simp, by simp⟩, box_below _ _⟩
    exact ⟨rfl, Or.inr ⟨w0.heap.size, 0, #[], rfl, Nat.le_refl _, Deep.blk_alloc_new w0 (.cells #[] 32), Nat.le_refl _, by unfold maxLen; omega, rfl, rfl⟩⟩
  case round =>
    obtain ⟨k, s, g, capg, hk, rfl, rfl, HR, hown, hb⟩ := hrel
    have HO := mkHid hown
    have HB := mkHid hb
    have HBA := mkHid (HB0.out.trans (hb.mono (HB0.out.size)))
    have hsl := runC_len HR.out hk
    obtain ⟨xs, hx, hx1⟩ := hown.one
    have HX := mkHid hx
    have hgl := hx.lt g rfl
    have hcap : s.length ≤ capg ∧ capg ≤ maxLen := by
      rcases hx.2 with ⟨e, -⟩ | ⟨g', cap', cur, e, -, -, h1, h2, -⟩
      · cases e
      · cases e; exact ⟨h1, h2⟩
    obtain ⟨hc1, hc2⟩ := hcap
    unfold maxLen at hc2
    clear hown hx
    by_cases hlt : k < cs.length
    · obtain ⟨bl, off, rfl, hbl, c0, c1⟩ := (HK.out.next HBA.out).at k hlt
      have HIW := mkHid (HW.out _ (List.getElem_mem hlt))
      by_cases hok : 0 ≤ arity cs[k].op ∧ arN cs[k].op ≤ s.length
      · have HN := mkHid (runC_some HR.out hlt hok.1 hok.2)
        have har : arity cs[k].op = (arN cs[k].op : Int) := by
          rcases arity_cases cs[k].op with e | ⟨-, e, -⟩
          · omega
          · exact e
        have hq := l1Kids_calls cs[k].op wr
        rw [har] at hq
        obtain ⟨m, hmm⟩ : ∃ m, m = s.length - arN cs[k].op := ⟨_, rfl⟩
        have hm : m ≤ s.length := by omega
        have hsub : IntKind.i64.wrap ((s.length : Int) - (arN cs[k].op : Int)) = (m : Int) := by rw [show (s.length : Int) - (arN cs[k].op : Int) = (m : Int) by omega]; exact IntWalk.i64_in _ (by omega)
        have hsub0 : (0 : Int) ≤ (m : Int) := by omega
        have hsub1 : (m : Int) ≤ (s.length : Int) := by omega
        have hmle : m ≤ capg := by omega
        rw [← hmm] at HN
        have HTL : Hid (ECells wr (s.length - m) (xs.drop (m * 3)) (.slice (if capg = m then some ⟨g, 0, none⟩ else some ⟨g, m * 3, none⟩) (s.length - m) (capg - m))) := own_tail HX.out hx1 hm _ (Or.inr ⟨g, rfl, rfl⟩)
        have HTK : Hid (ECells wr m (xs.take (m * 3)) (.slice (some ⟨g, 0, none⟩) m capg)) := own_head HX.out hx1 hm
        clear hok har hmm hx1
        go_wp2_with fail
        refine hq.mono ?_
        rintro e w1 ⟨rfl, rfl⟩
        go_upto_region 6 with fail
        go_cut [4, 5, 6] from 8 to 49 (fun s4 s5 s6 wx => s4 = .int .i64 (k : Int) ∧ s5 = .int .i64 (arN cs[k].op : Int) ∧ ∃ b ad3 n3 cap3, s6 = .pointer (some ⟨b, 0, none⟩) ∧ ERel wr (s.length - m) (xs.drop (m * 3)) cs[k].op cs[k].num (.slice ad3 n3 cap3) b wx)
        case first =>
          have hbl' : bl < wr.heap.size := hbl
          obtain ⟨W1, hW1⟩ : ∃ W : World, W = (wr.alloc (.cells #[] 32)).drew := ⟨_, rfl⟩
          obtain ⟨W2, hW2⟩ : ∃ W : World, W = ((wr.alloc (.cells #[] 32)).alloc (.cells #[.int .i64 0, .int .i64 0, .slice none 0 0] 32)).drew := ⟨_, rfl⟩
          obtain ⟨W3, hW3⟩ : ∃ W : World, W = ((wr.alloc (.cells #[.int .i64 0, .int .i64 0, .slice none 0 0] 32)).alloc (.cells #[] 32)).drew := ⟨_, rfl⟩
          have HA1 : Hid (Below wr.heap.size wr (wr.alloc (.cells #[] 32)).drew) := (box_below _ _).drew
          have HA2 : Hid (Below wr.heap.size wr ((wr.alloc (.cells #[] 32)).alloc (.cells #[.int .i64 0, .int .i64 0, .slice none 0 0] 32)).drew) := ((box_below _ _).alloc (by simp) _).drew
          have HA3 : Hid (Below wr.heap.size wr ((wr.alloc (.cells #[.int .i64 0, .int .i64 0, .slice none 0 0] 32)).alloc (.cells #[] 32)).drew) := ((box_below _ _).alloc (by simp) _).drew
          have HG2 : Hid (((wr.alloc (.cells #[] 32)).alloc (.cells #[.int .i64 0, .int .i64 0, .slice none 0 0] 32)).drew.heap[wr.heap.size]? = some (.cells #[] 32)) := (Deep.blk_alloc_lt (wr.alloc _) _ _ (by rw [Deep.nblk_alloc]; omega)).trans (Deep.blk_alloc_new _ _)
          have HZ2 : Hid (((wr.alloc (.cells #[] 32)).alloc (.cells #[.int .i64 0, .int .i64 0, .slice none 0 0] 32)).drew.heap[wr.heap.size + 1]? = some (.cells #[.int .i64 0, .int .i64 0, .slice none 0 0] 32)) := alloc_at2 _ _ _
          have HS2 : Hid (wr.heap.size + 1 < ((wr.alloc (.cells #[] 32)).alloc (.cells #[.int .i64 0, .int .i64 0, .slice none 0 0] 32)).drew.heap.size) := (by show _ < ((wr.alloc _).alloc _).heap.size; rw [Deep.nblk_alloc, Deep.nblk_alloc]; omega)
          have HG3 : Hid (((wr.alloc (.cells #[.int .i64 0, .int .i64 0, .slice none 0 0] 32)).alloc (.cells #[] 32)).drew.heap[wr.heap.size + 1]? = some (.cells #[] 32)) := alloc_at2 _ _ _
          have HZ3' : Hid (((wr.alloc (.cells #[.int .i64 0, .int .i64 0, .slice none 0 0] 32)).alloc (.cells #[] 32)).drew.heap[wr.heap.size]? = some (.cells #[.int .i64 0, .int .i64 0, .slice none 0 0] 32)) := (Deep.blk_alloc_lt (wr.alloc _) _ _ (by rw [Deep.nblk_alloc]; omega)).trans (Deep.blk_alloc_new _ _)
          have HS3 : Hid (wr.heap.size + 1 < ((wr.alloc (.cells #[.int .i64 0, .int .i64 0, .slice none 0 0] 32)).alloc (.cells #[] 32)).drew.heap.size) := (by show _ < ((wr.alloc _).alloc _).heap.size; rw [Deep.nblk_alloc, Deep.nblk_alloc]; omega)
          have HG1 : Hid (W1.heap[wr.heap.size]? = some (.cells #[] 32)) := by rw [hW1]; exact Deep.blk_alloc_new wr _
          rw [← hW1] at HA1
          rw [← hW2] at HA2 HG2 HZ2 HS2
          rw [← hW3] at HA3 HG3 HZ3' HS3
          have HW1 : Hid ((wr.alloc (.cells #[] 32)).drew = W1) := hW1.symm
          have HW2 : Hid (((wr.alloc (.cells #[] 32)).alloc (.cells #[.int .i64 0, .int .i64 0, .slice none 0 0] 32)).drew = W2) := hW2.symm
          have HW3 : Hid (((wr.alloc (.cells #[.int .i64 0, .int .i64 0, .slice none 0 0] 32)).alloc (.cells #[] 32)).drew = W3) := hW3.symm
          clear hW1 hW2 hW3
          have k0a : wr.drew.cell? ⟨bl, off + k * 2, none⟩ = some (.int .i64 cs[k].op) := c0
          have k0b : wr.drew.cell? ⟨bl, off + k * 2 + 1, none⟩ = some (.int .i64 cs[k].num) := c1
          have k1a : (wr.alloc (.cells #[] 32)).cell? ⟨bl, off + k * 2, none⟩ = some (.int .i64 cs[k].op) := old_cell c0 (.cells #[] 32)
          have k1b : (wr.alloc (.cells #[] 32)).cell? ⟨bl, off + k * 2 + 1, none⟩ = some (.int .i64 cs[k].num) := old_cell c1 (.cells #[] 32)
          have k2a : (wr.alloc (.cells #[] 32)).drew.cell? ⟨bl, off + k * 2, none⟩ = some (.int .i64 cs[k].op) := old_cell c0 (.cells #[] 32)
          have k2b : (wr.alloc (.cells #[] 32)).drew.cell? ⟨bl, off + k * 2 + 1, none⟩ = some (.int .i64 cs[k].num) := old_cell c1 (.cells #[] 32)
          have k3a : (wr.alloc (.cells #[.int .i64 0, .int .i64 0, .slice none 0 0] 32)).cell? ⟨bl, off + k * 2, none⟩ = some (.int .i64 cs[k].op) := old_cell c0 (.cells #[.int .i64 0, .int .i64 0, .slice none 0 0] 32)
          have k3b : (wr.alloc (.cells #[.int .i64 0, .int .i64 0, .slice none 0 0] 32)).cell? ⟨bl, off + k * 2 + 1, none⟩ = some (.int .i64 cs[k].num) := old_cell c1 (.cells #[.int .i64 0, .int .i64 0, .slice none 0 0] 32)
          have k4a : (wr.alloc (.cells #[.int .i64 0, .int .i64 0, .slice none 0 0] 32)).drew.cell? ⟨bl, off + k * 2, none⟩ = some (.int .i64 cs[k].op) := old_cell c0 (.cells #[.int .i64 0, .int .i64 0, .slice none 0 0] 32)
          have k4b : (wr.alloc (.cells #[.int .i64 0, .int .i64 0, .slice none 0 0] 32)).drew.cell? ⟨bl, off + k * 2 + 1, none⟩ = some (.int .i64 cs[k].num) := old_cell c1 (.cells #[.int .i64 0, .int .i64 0, .slice none 0 0] 32)
          have k5a : ((wr.alloc (.cells #[] 32)).alloc (.cells #[.int .i64 0, .int .i64 0, .slice none 0 0] 32)).cell? ⟨bl, off + k * 2, none⟩ = some (.int .i64 cs[k].op) := old_cell (old_cell c0 (.cells #[] 32)) (.cells #[.int .i64 0, .int .i64 0, .slice none 0 0] 32)
          have k5b : ((wr.alloc (.cells #[] 32)).alloc (.cells #[.int .i64 0, .int .i64 0, .slice none 0 0] 32)).cell? ⟨bl, off + k * 2 + 1, none⟩ = some (.int .i64 cs[k].num) := old_cell (old_cell c1 (.cells #[] 32)) (.cells #[.int .i64 0, .int .i64 0, .slice none 0 0] 32)
          have k6a : ((wr.alloc (.cells #[] 32)).alloc (.cells #[.int .i64 0, .int .i64 0, .slice none 0 0] 32)).drew.cell? ⟨bl, off + k * 2, none⟩ = some (.int .i64 cs[k].op) := old_cell (old_cell c0 (.cells #[] 32)) (.cells #[.int .i64 0, .int .i64 0, .slice none 0 0] 32)
          have k6b : ((wr.alloc (.cells #[] 32)).alloc (.cells #[.int .i64 0, .int .i64 0, .slice none 0 0] 32)).drew.cell? ⟨bl, off + k * 2 + 1, none⟩ = some (.int .i64 cs[k].num) := old_cell (old_cell c1 (.cells #[] 32)) (.cells #[.int .i64 0, .int .i64 0, .slice none 0 0] 32)
          have k7a : ((wr.alloc (.cells #[.int .i64 0, .int .i64 0, .slice none 0 0] 32)).alloc (.cells #[] 32)).cell? ⟨bl, off + k * 2, none⟩ = some (.int .i64 cs[k].op) := old_cell (old_cell c0 (.cells #[.int .i64 0, .int .i64 0, .slice none 0 0] 32)) (.cells #[] 32)
          have k7b : ((wr.alloc (.cells #[.int .i64 0, .int .i64 0, .slice none 0 0] 32)).alloc (.cells #[] 32)).cell? ⟨bl, off + k * 2 + 1, none⟩ = some (.int .i64 cs[k].num) := old_cell (old_cell c1 (.cells #[.int .i64 0, .int .i64 0, .slice none 0 0] 32)) (.cells #[] 32)
          have k8a : ((wr.alloc (.cells #[.int .i64 0, .int .i64 0, .slice none 0 0] 32)).alloc (.cells #[] 32)).drew.cell? ⟨bl, off + k * 2, none⟩ = some (.int .i64 cs[k].op) := old_cell (old_cell c0 (.cells #[.int .i64 0, .int .i64 0, .slice none 0 0] 32)) (.cells #[] 32)
          have k8b : ((wr.alloc (.cells #[.int .i64 0, .int .i64 0, .slice none 0 0] 32)).alloc (.cells #[] 32)).drew.cell? ⟨bl, off + k * 2 + 1, none⟩ = some (.int .i64 cs[k].num) := old_cell (old_cell c1 (.cells #[.int .i64 0, .int .i64 0, .slice none 0 0] 32)) (.cells #[] 32)
          go_region_held3 (fun w' => w'.cell? ⟨bl, off + k * 2, none⟩ = some (.int .i64 cs[k].op) ∧ w'.cell? ⟨bl, off + k * 2 + 1, none⟩ = some (.int .i64 cs[k].num))
            (first
              | go_keep
              | with_reducible exact ⟨c0, c1⟩
              | with_reducible exact ⟨k0a, k0b⟩
              | with_reducible exact ⟨k1a, k1b⟩
              | with_reducible exact ⟨k2a, k2b⟩
              | with_reducible exact ⟨k3a, k3b⟩
              | with_reducible exact ⟨k4a, k4b⟩
              | with_reducible exact ⟨k5a, k5b⟩
              | with_reducible exact ⟨k6a, k6b⟩
              | with_reducible exact ⟨k7a, k7b⟩
              | with_reducible exact ⟨k8a, k8b⟩
              | with_reducible exact ⟨d0, d1⟩
              | with_reducible exact ⟨old_cell d0 _, old_cell d1 _⟩
              | exact ⟨(set3_other HNB.out _ _ _ trivial).trans d0, (set3_other HNB.out _ _ _ trivial).trans d1⟩)
            (first
              | (rw [HW1.out]; generalize (if capg = m then (some ⟨g, 0, none⟩ : Option Addr) else some ⟨g, m * 3, none⟩) = tad at HTL ⊢; refine step_append_fresh (by rfl) (.tmp 30) (.tmp 36) (by rfl) wr.heap.size HG1.out (s.length - m) (xs.drop (m * 3)) (.slice tad (s.length - m) (capg - m)) (by rfl) (by rfl) (HTL.out.next HA1.out) (by omega) ?_; intro kv w3 hk3 hg3 hw3; have HK3 := mkHid (own_lower hk3 (show wr.heap.size ≤ wr.heap.size by omega)); have HB3 := mkHid (fresh_below HA1.out hg3 (show wr.heap.size ≤ wr.heap.size by omega)); have d0 := (HB3.out.cell (p := ⟨bl, off + k * 2, none⟩) hbl').trans c0; have d1 := (HB3.out.cell (p := ⟨bl, off + k * 2 + 1, none⟩) hbl').trans c1; obtain ⟨ad3, n3, cap3, rfl⟩ := own_slice hk3; clear hk3 hg3 hw3)
              | (rw [HW2.out]; generalize (if capg = m then (some ⟨g, 0, none⟩ : Option Addr) else some ⟨g, m * 3, none⟩) = tad at HTL ⊢; refine step_append_fresh (by rfl) (.tmp 30) (.tmp 36) (by rfl) wr.heap.size HG2.out (s.length - m) (xs.drop (m * 3)) (.slice tad (s.length - m) (capg - m)) (by rfl) (by rfl) (HTL.out.next HA2.out) (by omega) ?_; intro kv w3 hk3 hg3 hw3; have HK3 := mkHid (own_lower hk3 (show wr.heap.size ≤ wr.heap.size by omega)); have HB3 := mkHid (fresh_below HA2.out hg3 (show wr.heap.size ≤ wr.heap.size by omega)); have d0 := (HB3.out.cell (p := ⟨bl, off + k * 2, none⟩) hbl').trans c0; have d1 := (HB3.out.cell (p := ⟨bl, off + k * 2 + 1, none⟩) hbl').trans c1; have hz3 := (hg3.block (wr.heap.size + 1) HS2.out (by simp)).trans HZ2.out; have HNE3 : Hid (some (wr.heap.size + 1) ≠ kv.ownBlock) := (by unfold Hid; rcases hw3 with e | ⟨q, e, hq⟩ <;> rw [e] <;> simp only [ne_eq, Option.some.injEq] <;> (try have := HS2.out) <;> omega); have HZ3 := mkHid hz3; have z0 := cell_of_blk hz3 0 _ rfl; have z1 := cell_of_blk hz3 1 _ rfl; have z2 := cell_of_blk hz3 2 _ rfl; have zf := fun i => frz_of_blk hz3 i; have HNB : Hid (bl ≠ wr.heap.size + 1) := (by unfold Hid; omega); obtain ⟨ad3, n3, cap3, rfl⟩ := own_slice hk3; clear hk3 hg3 hw3 hz3)
              | (rw [HW3.out]; generalize (if capg = m then (some ⟨g, 0, none⟩ : Option Addr) else some ⟨g, m * 3, none⟩) = tad at HTL ⊢; refine step_append_fresh (by rfl) (.tmp 30) (.tmp 36) (by rfl) (wr.heap.size + 1) HG3.out (s.length - m) (xs.drop (m * 3)) (.slice tad (s.length - m) (capg - m)) (by rfl) (by rfl) (HTL.out.next HA3.out) (by omega) ?_; intro kv w3 hk3 hg3 hw3; have HK3 := mkHid (own_lower hk3 (show wr.heap.size ≤ wr.heap.size + 1 by omega)); have HB3 := mkHid (fresh_below HA3.out hg3 (show wr.heap.size ≤ wr.heap.size + 1 by omega)); have d0 := (HB3.out.cell (p := ⟨bl, off + k * 2, none⟩) hbl').trans c0; have d1 := (HB3.out.cell (p := ⟨bl, off + k * 2 + 1, none⟩) hbl').trans c1; have hz3 := (hg3.block wr.heap.size (Nat.lt_trans (Nat.lt_succ_self _) HS3.out) (by simp)).trans HZ3'.out; have HNE3 : Hid (some wr.heap.size ≠ kv.ownBlock) := (by unfold Hid; rcases hw3 with e | ⟨q, e, hq⟩ <;> rw [e] <;> simp only [ne_eq, Option.some.injEq] <;> (try have := HS3.out) <;> omega); have HZ3 := mkHid hz3; have z0 := cell_of_blk hz3 0 _ rfl; have z1 := cell_of_blk hz3 1 _ rfl; have z2 := cell_of_blk hz3 2 _ rfl; have zf := fun i => frz_of_blk hz3 i; have HNB : Hid (bl ≠ wr.heap.size) := (by unfold Hid; omega); obtain ⟨ad3, n3, cap3, rfl⟩ := own_slice hk3; clear hk3 hg3 hw3 hz3))
          all_goals
            go_wp2_with fail
            go_meet
            first
              | exact ⟨rfl, rfl, _, _, _, _, rfl, erel_alloc HK3.out HB3.out⟩
              | exact ⟨rfl, rfl, _, _, _, _, rfl, erel_set HK3.out HB3.out HZ3.out (Nat.le_succ _) HNE3.out⟩
              | exact ⟨rfl, rfl, _, _, _, _, rfl, erel_set HK3.out HB3.out HZ3.out (Nat.le_refl _) HNE3.out⟩
        case rest =>
          obtain ⟨rfl, rfl, b, ad3, n3, cap3, rfl, her⟩ := hcut
          have HER := mkHid her
          have hbl := (Array.getElem?_eq_some_iff.1 her.1).1
          have q0 := cell_of_blk her.1 0 _ rfl
          have q1 := cell_of_blk her.1 1 _ rfl
          have q2 := cell_of_blk her.1 2 _ rfl
          have HTC := mkHid (HTK.out.next her.2.2.1)
          clear her
          obtain ⟨V1, hV1⟩ : ∃ W : World, W = (wc.alloc (.cells #[] 32)).drew := ⟨_, rfl⟩
          obtain ⟨V2, hV2⟩ : ∃ W : World, W = ((wc.alloc (.cells #[] 32)).alloc (.cells #[.int .i64 cs[k].op, .int .i64 cs[k].num, .slice ad3 n3 cap3] 32)).drew := ⟨_, rfl⟩
          obtain ⟨V3, hV3⟩ : ∃ W : World, W = ((wc.alloc (.cells #[.int .i64 cs[k].op, .int .i64 cs[k].num, .slice ad3 n3 cap3] 32)).alloc (.cells #[] 32)).drew := ⟨_, rfl⟩
          have HC1 : Hid (Below wc.heap.size wc V1) := by rw [hV1]; exact (box_below _ _).drew
          have HC2 : Hid (Below wc.heap.size wc V2) := by rw [hV2]; exact ((box_below _ _).alloc (by simp) _).drew
          have HC3 : Hid (Below wc.heap.size wc V3) := by rw [hV3]; exact ((box_below _ _).alloc (by simp) _).drew
          have HH1 : Hid (V1.heap[wc.heap.size]? = some (.cells #[] 32)) := by rw [hV1]; exact Deep.blk_alloc_new wc _
          have HH2 : Hid (V2.heap[wc.heap.size]? = some (.cells #[] 32)) := by rw [hV2]; exact (Deep.blk_alloc_lt (wc.alloc _) _ _ (by rw [Deep.nblk_alloc]; omega)).trans (Deep.blk_alloc_new _ _)
          have HH3 : Hid (V3.heap[wc.heap.size + 1]? = some (.cells #[] 32)) := by rw [hV3]; exact alloc_at2 wc _ _
          have HN2 : Hid (V2.heap[wc.heap.size + 1]? = some (.cells #[.int .i64 cs[k].op, .int .i64 cs[k].num, .slice ad3 n3 cap3] 32)) := by rw [hV2]; exact alloc_at2 wc _ _
          have HN3 : Hid (V3.heap[wc.heap.size]? = some (.cells #[.int .i64 cs[k].op, .int .i64 cs[k].num, .slice ad3 n3 cap3] 32)) := by rw [hV3]; exact (Deep.blk_alloc_lt (wc.alloc _) _ _ (by rw [Deep.nblk_alloc]; omega)).trans (Deep.blk_alloc_new _ _)
          have HT2 : Hid (V2.heap.size = wc.heap.size + 2) := by rw [hV2]; show ((wc.alloc _).alloc _).heap.size = _; rw [Deep.nblk_alloc, Deep.nblk_alloc]
          have HT3 : Hid (V3.heap.size = wc.heap.size + 2) := by rw [hV3]; show ((wc.alloc _).alloc _).heap.size = _; rw [Deep.nblk_alloc, Deep.nblk_alloc]
          have HV1 : Hid ((wc.alloc (.cells #[] 32)).drew = V1) := hV1.symm
          have HV2 : Hid (((wc.alloc (.cells #[] 32)).alloc (.cells #[.int .i64 cs[k].op, .int .i64 cs[k].num, .slice ad3 n3 cap3] 32)).drew = V2) := hV2.symm
          have HV3 : Hid (((wc.alloc (.cells #[.int .i64 cs[k].op, .int .i64 cs[k].num, .slice ad3 n3 cap3] 32)).alloc (.cells #[] 32)).drew = V3) := hV3.symm
          have p0a : wc.cell? ⟨b, 0, none⟩ = some (.int .i64 cs[k].op) := q0
          have p0b : wc.cell? ⟨b, 1, none⟩ = some (.int .i64 cs[k].num) := q1
          have p0c : wc.cell? ⟨b, 2, none⟩ = some (.slice ad3 n3 cap3) := q2
          have p1a : wc.drew.cell? ⟨b, 0, none⟩ = some (.int .i64 cs[k].op) := q0
          have p1b : wc.drew.cell? ⟨b, 1, none⟩ = some (.int .i64 cs[k].num) := q1
          have p1c : wc.drew.cell? ⟨b, 2, none⟩ = some (.slice ad3 n3 cap3) := q2
          have p2a : (wc.alloc (.cells #[] 32)).cell? ⟨b, 0, none⟩ = some (.int .i64 cs[k].op) := old_cell q0 (.cells #[] 32)
          have p2b : (wc.alloc (.cells #[] 32)).cell? ⟨b, 1, none⟩ = some (.int .i64 cs[k].num) := old_cell q1 (.cells #[] 32)
          have p2c : (wc.alloc (.cells #[] 32)).cell? ⟨b, 2, none⟩ = some (.slice ad3 n3 cap3) := old_cell q2 (.cells #[] 32)
          have p3a : (wc.alloc (.cells #[] 32)).drew.cell? ⟨b, 0, none⟩ = some (.int .i64 cs[k].op) := old_cell q0 (.cells #[] 32)
          have p3b : (wc.alloc (.cells #[] 32)).drew.cell? ⟨b, 1, none⟩ = some (.int .i64 cs[k].num) := old_cell q1 (.cells #[] 32)
          have p3c : (wc.alloc (.cells #[] 32)).drew.cell? ⟨b, 2, none⟩ = some (.slice ad3 n3 cap3) := old_cell q2 (.cells #[] 32)
          have p4a : (wc.alloc (.cells #[.int .i64 cs[k].op, .int .i64 cs[k].num, .slice ad3 n3 cap3] 32)).cell? ⟨b, 0, none⟩ = some (.int .i64 cs[k].op) := old_cell q0 (.cells #[.int .i64 cs[k].op, .int .i64 cs[k].num, .slice ad3 n3 cap3] 32)
          have p4b : (wc.alloc (.cells #[.int .i64 cs[k].op, .int .i64 cs[k].num, .slice ad3 n3 cap3] 32)).cell? ⟨b, 1, none⟩ = some (.int .i64 cs[k].num) := old_cell q1 (.cells #[.int .i64 cs[k].op, .int .i64 cs[k].num, .slice ad3 n3 cap3] 32)
          have p4c : (wc.alloc (.cells #[.int .i64 cs[k].op, .int .i64 cs[k].num, .slice ad3 n3 cap3] 32)).cell? ⟨b, 2, none⟩ = some (.slice ad3 n3 cap3) := old_cell q2 (.cells #[.int .i64 cs[k].op, .int .i64 cs[k].num, .slice ad3 n3 cap3] 32)
          have p5a : (wc.alloc (.cells #[.int .i64 cs[k].op, .int .i64 cs[k].num, .slice ad3 n3 cap3] 32)).drew.cell? ⟨b, 0, none⟩ = some (.int .i64 cs[k].op) := old_cell q0 (.cells #[.int .i64 cs[k].op, .int .i64 cs[k].num, .slice ad3 n3 cap3] 32)
          have p5b : (wc.alloc (.cells #[.int .i64 cs[k].op, .int .i64 cs[k].num, .slice ad3 n3 cap3] 32)).drew.cell? ⟨b, 1, none⟩ = some (.int .i64 cs[k].num) := old_cell q1 (.cells #[.int .i64 cs[k].op, .int .i64 cs[k].num, .slice ad3 n3 cap3] 32)
          have p5c : (wc.alloc (.cells #[.int .i64 cs[k].op, .int .i64 cs[k].num, .slice ad3 n3 cap3] 32)).drew.cell? ⟨b, 2, none⟩ = some (.slice ad3 n3 cap3) := old_cell q2 (.cells #[.int .i64 cs[k].op, .int .i64 cs[k].num, .slice ad3 n3 cap3] 32)
          have p6a : ((wc.alloc (.cells #[] 32)).alloc (.cells #[.int .i64 cs[k].op, .int .i64 cs[k].num, .slice ad3 n3 cap3] 32)).cell? ⟨b, 0, none⟩ = some (.int .i64 cs[k].op) := old_cell (old_cell q0 (.cells #[] 32)) (.cells #[.int .i64 cs[k].op, .int .i64 cs[k].num, .slice ad3 n3 cap3] 32)
          have p6b : ((wc.alloc (.cells #[] 32)).alloc (.cells #[.int .i64 cs[k].op, .int .i64 cs[k].num, .slice ad3 n3 cap3] 32)).cell? ⟨b, 1, none⟩ = some (.int .i64 cs[k].num) := old_cell (old_cell q1 (.cells #[] 32)) (.cells #[.int .i64 cs[k].op, .int .i64 cs[k].num, .slice ad3 n3 cap3] 32)
          have p6c : ((wc.alloc (.cells #[] 32)).alloc (.cells #[.int .i64 cs[k].op, .int .i64 cs[k].num, .slice ad3 n3 cap3] 32)).cell? ⟨b, 2, none⟩ = some (.slice ad3 n3 cap3) := old_cell (old_cell q2 (.cells #[] 32)) (.cells #[.int .i64 cs[k].op, .int .i64 cs[k].num, .slice ad3 n3 cap3] 32)
          have p7a : ((wc.alloc (.cells #[] 32)).alloc (.cells #[.int .i64 cs[k].op, .int .i64 cs[k].num, .slice ad3 n3 cap3] 32)).drew.cell? ⟨b, 0, none⟩ = some (.int .i64 cs[k].op) := old_cell (old_cell q0 (.cells #[] 32)) (.cells #[.int .i64 cs[k].op, .int .i64 cs[k].num, .slice ad3 n3 cap3] 32)
          have p7b : ((wc.alloc (.cells #[] 32)).alloc (.cells #[.int .i64 cs[k].op, .int .i64 cs[k].num, .slice ad3 n3 cap3] 32)).drew.cell? ⟨b, 1, none⟩ = some (.int .i64 cs[k].num) := old_cell (old_cell q1 (.cells #[] 32)) (.cells #[.int .i64 cs[k].op, .int .i64 cs[k].num, .slice ad3 n3 cap3] 32)
          have p7c : ((wc.alloc (.cells #[] 32)).alloc (.cells #[.int .i64 cs[k].op, .int .i64 cs[k].num, .slice ad3 n3 cap3] 32)).drew.cell? ⟨b, 2, none⟩ = some (.slice ad3 n3 cap3) := old_cell (old_cell q2 (.cells #[] 32)) (.cells #[.int .i64 cs[k].op, .int .i64 cs[k].num, .slice ad3 n3 cap3] 32)
          have p8a : ((wc.alloc (.cells #[.int .i64 cs[k].op, .int .i64 cs[k].num, .slice ad3 n3 cap3] 32)).alloc (.cells #[] 32)).cell? ⟨b, 0, none⟩ = some (.int .i64 cs[k].op) := old_cell (old_cell q0 (.cells #[.int .i64 cs[k].op, .int .i64 cs[k].num, .slice ad3 n3 cap3] 32)) (.cells #[] 32)
          have p8b : ((wc.alloc (.cells #[.int .i64 cs[k].op, .int .i64 cs[k].num, .slice ad3 n3 cap3] 32)).alloc (.cells #[] 32)).cell? ⟨b, 1, none⟩ = some (.int .i64 cs[k].num) := old_cell (old_cell q1 (.cells #[.int .i64 cs[k].op, .int .i64 cs[k].num, .slice ad3 n3 cap3] 32)) (.cells #[] 32)
          have p8c : ((wc.alloc (.cells #[.int .i64 cs[k].op, .int .i64 cs[k].num, .slice ad3 n3 cap3] 32)).alloc (.cells #[] 32)).cell? ⟨b, 2, none⟩ = some (.slice ad3 n3 cap3) := old_cell (old_cell q2 (.cells #[.int .i64 cs[k].op, .int .i64 cs[k].num, .slice ad3 n3 cap3] 32)) (.cells #[] 32)
          have p9a : ((wc.alloc (.cells #[.int .i64 cs[k].op, .int .i64 cs[k].num, .slice ad3 n3 cap3] 32)).alloc (.cells #[] 32)).drew.cell? ⟨b, 0, none⟩ = some (.int .i64 cs[k].op) := old_cell (old_cell q0 (.cells #[.int .i64 cs[k].op, .int .i64 cs[k].num, .slice ad3 n3 cap3] 32)) (.cells #[] 32)
          have p9b : ((wc.alloc (.cells #[.int .i64 cs[k].op, .int .i64 cs[k].num, .slice ad3 n3 cap3] 32)).alloc (.cells #[] 32)).drew.cell? ⟨b, 1, none⟩ = some (.int .i64 cs[k].num) := old_cell (old_cell q1 (.cells #[.int .i64 cs[k].op, .int .i64 cs[k].num, .slice ad3 n3 cap3] 32)) (.cells #[] 32)
          have p9c : ((wc.alloc (.cells #[.int .i64 cs[k].op, .int .i64 cs[k].num, .slice ad3 n3 cap3] 32)).alloc (.cells #[] 32)).drew.cell? ⟨b, 2, none⟩ = some (.slice ad3 n3 cap3) := old_cell (old_cell q2 (.cells #[.int .i64 cs[k].op, .int .i64 cs[k].num, .slice ad3 n3 cap3] 32)) (.cells #[] 32)
          clear hV1 hV2 hV3
          go_wp2_with fail
          go_region_held3 (fun w' => w'.cell? ⟨b, 0, none⟩ = some (.int .i64 cs[k].op) ∧ w'.cell? ⟨b, 1, none⟩ = some (.int .i64 cs[k].num) ∧ w'.cell? ⟨b, 2, none⟩ = some (.slice ad3 n3 cap3))
            (first
              | go_keep
              | with_reducible exact ⟨p0a, p0b, p0c⟩
              | with_reducible exact ⟨p1a, p1b, p1c⟩
              | with_reducible exact ⟨p2a, p2b, p2c⟩
              | with_reducible exact ⟨p3a, p3b, p3c⟩
              | with_reducible exact ⟨p4a, p4b, p4c⟩
              | with_reducible exact ⟨p5a, p5b, p5c⟩
              | with_reducible exact ⟨p6a, p6b, p6c⟩
              | with_reducible exact ⟨p7a, p7b, p7c⟩
              | with_reducible exact ⟨p8a, p8b, p8c⟩
              | with_reducible exact ⟨p9a, p9b, p9c⟩
              | with_reducible exact ⟨d0, d1, d2⟩
              | with_reducible exact ⟨old_cell d0 _, old_cell d1 _, old_cell d2 _⟩
              | with_reducible exact ⟨r0, r1, r2⟩)
            (first
              | (rw [HV1.out]; refine step_append_fresh (by rfl) (.tmp 39) (.tmp 45) (by rfl) wc.heap.size HH1.out m (xs.take (m * 3)) (.slice (some ⟨g, 0, none⟩) m capg) (by rfl) (by rfl) (HTC.out.next HC1.out) (by omega) ?_; intro v4 w4 hk4 hg4 hw4; have HK4 := mkHid (own_lower hk4 (show wc.heap.size ≤ wc.heap.size by omega)); have HB4 := mkHid (fresh_below HC1.out hg4 (show wc.heap.size ≤ wc.heap.size by omega)); have d0 := (HB4.out.cell (p := ⟨b, 0, none⟩) hbl).trans q0; have d1 := (HB4.out.cell (p := ⟨b, 1, none⟩) hbl).trans q1; have d2 := (HB4.out.cell (p := ⟨b, 2, none⟩) hbl).trans q2; obtain ⟨ad4, n4, cap4, rfl⟩ := own_slice hk4; have HNA := mkHid True.intro; clear hk4 hg4 hw4)
              | (rw [HV2.out]; refine step_append_fresh (by rfl) (.tmp 39) (.tmp 45) (by rfl) wc.heap.size HH2.out m (xs.take (m * 3)) (.slice (some ⟨g, 0, none⟩) m capg) (by rfl) (by rfl) (HTC.out.next HC2.out) (by omega) ?_; intro v4 w4 hk4 hg4 hw4; have HK4 := mkHid (own_lower hk4 (show wc.heap.size ≤ wc.heap.size by omega)); have HB4 := mkHid (fresh_below HC2.out hg4 (show wc.heap.size ≤ wc.heap.size by omega)); have d0 := (HB4.out.cell (p := ⟨b, 0, none⟩) hbl).trans q0; have d1 := (HB4.out.cell (p := ⟨b, 1, none⟩) hbl).trans q1; have d2 := (HB4.out.cell (p := ⟨b, 2, none⟩) hbl).trans q2; have HNB2 : Hid (w4.heap[wc.heap.size + 1]? = some (.cells #[.int .i64 cs[k].op, .int .i64 cs[k].num, .slice ad3 n3 cap3] 32)) := (hg4.block _ (by have := HT2.out; omega) (by simp)).trans HN2.out; obtain ⟨ad4, n4, cap4, rfl⟩ := own_slice hk4; clear hk4 hg4 hw4)
              | (rw [HV3.out]; refine step_append_fresh (by rfl) (.tmp 39) (.tmp 45) (by rfl) (wc.heap.size + 1) HH3.out m (xs.take (m * 3)) (.slice (some ⟨g, 0, none⟩) m capg) (by rfl) (by rfl) (HTC.out.next HC3.out) (by omega) ?_; intro v4 w4 hk4 hg4 hw4; have HK4 := mkHid (own_lower hk4 (show wc.heap.size ≤ (wc.heap.size + 1) by omega)); have HB4 := mkHid (fresh_below HC3.out hg4 (show wc.heap.size ≤ (wc.heap.size + 1) by omega)); have d0 := (HB4.out.cell (p := ⟨b, 0, none⟩) hbl).trans q0; have d1 := (HB4.out.cell (p := ⟨b, 1, none⟩) hbl).trans q1; have d2 := (HB4.out.cell (p := ⟨b, 2, none⟩) hbl).trans q2; have HNB3 : Hid (w4.heap[wc.heap.size]? = some (.cells #[.int .i64 cs[k].op, .int .i64 cs[k].num, .slice ad3 n3 cap3] 32)) := (hg4.block _ (by have := HT3.out; omega) (by simp)).trans HN3.out; obtain ⟨ad4, n4, cap4, rfl⟩ := own_slice hk4; clear hk4 hg4 hw4)
              | (have tk := HNA; clear tk; refine step_append_where (w := w4.alloc (.cells #[.int .i64 cs[k].op, .int .i64 cs[k].num, .slice ad3 n3 cap3] 32)) (by rfl) (.tmp 46) (.tmp 48) 30 (by rfl) wc.heap.size 32 iE zE 3 40 Try.underlying30 HE.out.1 HE.out.2.1 HE.out.2.2.1 HE.out.2.2.2.1 HE.out.2.2.2.2 (by decide) (.slice ad4 n4 cap4) m (xs.take (m * 3)) (by rfl) (own_keep HK4.out (fun j _ hj => Deep.blk_alloc_lt w4 (.cells #[.int .i64 cs[k].op, .int .i64 cs[k].num, .slice ad3 n3 cap3] 32) _ hj)) ⟨w4.heap.size, 0, none⟩ 1 1 [.int .i64 cs[k].op, .int .i64 cs[k].num, .slice ad3 n3 cap3] (by rfl) (by rfl) (news3 w4 _ _ _) (by simp [Value.oneCell']) (by unfold maxLen; omega) (by omega) (HB4.out.alloc HB4.out.size (.cells #[.int .i64 cs[k].op, .int .i64 cs[k].num, .slice ad3 n3 cap3] 32)).size (by omega) ?_; intro v6 w6 hown6 hg6 hw6; have HB6 := mkHid (own_grown (own_keep HK4.out (fun j _ hj => Deep.blk_alloc_lt w4 (.cells #[.int .i64 cs[k].op, .int .i64 cs[k].num, .slice ad3 n3 cap3] 32) _ hj)) rfl (HB4.out.alloc HB4.out.size (.cells #[.int .i64 cs[k].op, .int .i64 cs[k].num, .slice ad3 n3 cap3] 32)) hg6); have HOWN6 := mkHid hown6; have r0 := (HB6.out.cell (p := ⟨b, 0, none⟩) hbl).trans q0; have r1 := (HB6.out.cell (p := ⟨b, 1, none⟩) hbl).trans q1; have r2 := (HB6.out.cell (p := ⟨b, 2, none⟩) hbl).trans q2; clear hown6 hg6 hw6)
              | (have tk := HNB2; clear tk; refine step_append_where (w := w4) (by rfl) (.tmp 46) (.tmp 48) 30 (by rfl) wc.heap.size 32 iE zE 3 40 Try.underlying30 HE.out.1 HE.out.2.1 HE.out.2.2.1 HE.out.2.2.2.1 HE.out.2.2.2.2 (by decide) (.slice ad4 n4 cap4) m (xs.take (m * 3)) (by rfl) HK4.out ⟨wc.heap.size + 1, 0, none⟩ 1 1 [.int .i64 cs[k].op, .int .i64 cs[k].num, .slice ad3 n3 cap3] (by rfl) (by rfl) (news_blk HNB2.out) (by simp [Value.oneCell']) (by unfold maxLen; omega) (by omega) HB4.out.size (by omega) ?_; intro v6 w6 hown6 hg6 hw6; have HB6 := mkHid (own_grown HK4.out rfl HB4.out hg6); have HOWN6 := mkHid hown6; have r0 := (HB6.out.cell (p := ⟨b, 0, none⟩) hbl).trans q0; have r1 := (HB6.out.cell (p := ⟨b, 1, none⟩) hbl).trans q1; have r2 := (HB6.out.cell (p := ⟨b, 2, none⟩) hbl).trans q2; clear hown6 hg6 hw6)
              | (have tk := HNB3; clear tk; refine step_append_where (w := w4) (by rfl) (.tmp 46) (.tmp 48) 30 (by rfl) wc.heap.size 32 iE zE 3 40 Try.underlying30 HE.out.1 HE.out.2.1 HE.out.2.2.1 HE.out.2.2.2.1 HE.out.2.2.2.2 (by decide) (.slice ad4 n4 cap4) m (xs.take (m * 3)) (by rfl) HK4.out ⟨wc.heap.size, 0, none⟩ 1 1 [.int .i64 cs[k].op, .int .i64 cs[k].num, .slice ad3 n3 cap3] (by rfl) (by rfl) (news_blk HNB3.out) (by simp [Value.oneCell']) (by unfold maxLen; omega) (by omega) HB4.out.size (by omega) ?_; intro v6 w6 hown6 hg6 hw6; have HB6 := mkHid (own_grown HK4.out rfl HB4.out hg6); have HOWN6 := mkHid hown6; have r0 := (HB6.out.cell (p := ⟨b, 0, none⟩) hbl).trans q0; have r1 := (HB6.out.cell (p := ⟨b, 1, none⟩) hbl).trans q1; have r2 := (HB6.out.cell (p := ⟨b, 2, none⟩) hbl).trans q2; clear hown6 hg6 hw6))
          all_goals
            obtain ⟨g6, cap6, rfl, hge, -⟩ := own_form HOWN6.out (Nat.succ_pos m)
            have HP : Hid (OwnF w6 w0.heap.size w6.heap.size (s.take m ++ [.node cs[k].op cs[k].num (s.drop m)]) (.slice (some ⟨g6, 0, none⟩) (m + 1) cap6)) := OwnF.popK HO.out rfl hm HB.out.size HX.out HER.out.2.2.1 HER.out.2.1 HIW.out.1 HIW.out.2 (own_lower HOWN6.out (Nat.le_trans HB.out.size HER.out.2.2.1.size)) (fun j hj _ => HB6.out.block j hj) HB6.out.size (Or.inr ⟨g6, rfl, hge⟩)
            have HBB : Hid (Below w0.heap.size w0 w6) := (HB.out.trans (HER.out.2.2.1.mono HB.out.size)).trans (HB6.out.mono (Nat.le_trans HB.out.size HER.out.2.2.1.size))
            go_wp2_with fail
            go_roundw
            case rel => exact ⟨k + 1, _, g6, cap6, by omega, by go_num, by rw [List.length_append, List.length_take, Nat.min_eq_left hm]; rfl, HN, HP.out, HBB.out⟩
            case measure => simp [intOf]; omega
      · exfalso
        have h := runC_no HR.out hlt hok
        rw [HRC.out] at h
        cases h
    · have hke : k = cs.length := by omega
      have hst : s = [t] := by
        have h := HR.out
        rw [hke, List.take_length] at h
        have h2 := HRC.out
        rw [h] at h2
        exact (Option.some.injEq _ _ ▸ h2 : s = [t])
      subst hst
      obtain ⟨g', capg', xa, xb, xc, hv, hg', hcg, y0, y1, y2, rfl, rfl, hf⟩ := HO.out.single
      cases hv
      have HF := mkHid hf
      obtain ⟨adk, capk, rfl, -, -, -⟩ := id hf.on.btw_in
      have hz := (HB.out.block w.heap.size (by have := HS0.out; omega)).trans HZ0.out
      have r0 := cell_of_blk hz 0 _ rfl
      have r1 := cell_of_blk hz 1 _ rfl
      have r2 := cell_of_blk hz 2 _ rfl
      have rf := fun i => frz_of_blk hz i
      have hone : (([t] : List Tr).length : Int) = 1 := rfl
      clear hke hb hf hz
      go_wp2_with fail
      refine bodyPost_ret (v := .agg #[.int .i64 t.op, .int .i64 t.num, .slice adk t.kids.length capk]) (by simp [results, Try.results26, go_sem, r0, r1, r2]) rfl ⟨_, rfl, ?_, ?_⟩
      · refine Fresh.mono (lo := w0.heap.size) ?_ (by have := HS0.out; omega) (fun _ _ _ => rfl)
        have hlt0 : w.heap.size < w0.heap.size := by have := HS0.out; omega
        repeat' (refine Fresh.setCell ?_ (by simpa using hlt0) _)
        exact HF.out
      · repeat' (refine Below.setCell ?_ (by simp) _)
        exact HBA.out
end Go.Proofs.Ytekdipmioogohaa
/-
  THE MODEL's CodeValid AND DecompileCode.
-/
namespace Go.Proofs.Ytekdipmioogohaa
set_option linter.unusedVariables false
set_option linter.unusedSimpArgs false
open Go.RowKit

theorem validB_isB (t : Tr) (vars defs : Int) (h : 0 ≤ vars ∧ vars ≤ 4 ∧ 0 ≤ defs ∧ defs ≤ 6) : validB t vars defs = isB t vars defs := by
  unfold validB isB
  rw [decide_eq_true h, Bool.true_and]
  congr 1
  exact decide_eq_decide.2 (by omega)
theorem codeB_bounds {cs : List Ins} {vars defs : Int} (h : ¬ (0 ≤ vars ∧ vars ≤ 4 ∧ 0 ≤ defs ∧ defs ≤ 6 ∧ cs.length ≤ 60)) : codeB cs vars defs = false := by
  by_cases hl : cs.length ≤ 60
  · cases e : oneC cs with
    | none => exact codeB_none e
    | some t =>
      rw [codeB_one e hl]
      unfold validB
      rw [decide_eq_false (fun hh => h ⟨hh.1, hh.2.1, hh.2.2.1, hh.2.2.2, hl⟩), Bool.false_and]
  · exact codeB_long (by omega)

set_option maxRecDepth 100000 in
set_option maxHeartbeats 1600000 in
theorem specCodeV_calls (cs : List Ins) (vars defs : Int) (c : Value) (w : World) (hk : InsIn w cs c) (hl : cs.length ≤ 1048576) (hw : ∀ c ∈ cs, I64 c.op ∧ I64 c.num) : Calls Try.prog 13 #[c, .int .i64 vars, .int .i64 defs] w fun e w' => e = .returned (.bool (codeB cs vars defs)) ∧ Below w.heap.size w w' := by
  have HK : Hid (InsIn w cs c) := hk
  have HW := mkHid hw
  obtain ⟨ad, cap, rfl, -, -, -⟩ := hk
  clear hw
  by_cases hbd : 0 ≤ vars ∧ vars ≤ 4 ∧ 0 ≤ defs ∧ defs ≤ 6 ∧ cs.length ≤ 60
  · have HBD := mkHid hbd
    obtain ⟨b1, b2, b3, b4, b5⟩ := hbd
    have n1 : ¬ (vars < 0) := by omega
    have n2 : ¬ (4 < vars) := by omega
    have n3 : ¬ (defs < 0) := by omega
    have n4 : ¬ (6 < defs) := by omega
    have n5 : ¬ ((60 : Int) < (cs.length : Int)) := by omega
    clear b1 b2 b3 b4 b5
    go_enter Try.func13, Try.ntmps13
    go_wp2_with fail
    go_loopw [7] (fun i wr => ∃ k : Nat, k ≤ cs.length ∧ i = .int .i64 k ∧ Below w.heap.size w wr) (fun i _ => cs.length - (intOf i).toNat)
    case atStart => exact ⟨0, Nat.zero_le _, rfl, Below.refl _ _⟩
    case round =>
      obtain ⟨k, hk, rfl, hb⟩ := hrel
      have HB := mkHid hb
      clear n1 n2 n3 n4 n5
      by_cases hlt : k < cs.length
      · obtain ⟨bl, off, rfl, -, c0, c1⟩ := (HK.out.next hb).at k hlt
        clear hb
        have hq := l8Own_calls cs[k].op cs[k].num vars defs wr
        cases hown : (decide (0 ≤ arity cs[k].op) && ownB cs[k].op cs[k].num vars defs) with
        | true =>
          rw [hown] at hq
          clear hown
          go_wp2_with fail
          refine hq.mono ?_
          rintro e w1 ⟨rfl, hb1⟩
          have HB1 : Hid (Below w.heap.size w w1) := HB.out.trans (hb1.mono HB.out.size)
          clear hb1
          go_wp2_with fail
          go_roundw
          case rel => exact ⟨k + 1, by omega, by go_num, HB1.out⟩
          case measure => simp [intOf]; omega
        | false =>
          rw [hown] at hq
          have HV : Hid (codeB cs vars defs = false) := codeB_own hlt (fun h => by rw [decide_eq_true h.1, h.2] at hown; cases hown)
          clear hown
          go_wp2_with fail
          refine hq.mono ?_
          rintro e w1 ⟨rfl, hb1⟩
          have HB1 : Hid (Below w.heap.size w w1) := HB.out.trans (hb1.mono HB.out.size)
          clear hb1
          go_wp2_with fail
          go_ret
          exact ⟨ret_bool HV.out.symm, HB1.out⟩
      · clear hb hk
        have hq := mkHid (l8Depths_calls cs _ wr (HK.out.next HB.out) hl)
        cases hd : dsC [] cs with
        | none =>
          have HD := mkHid hd
          have HV : Hid (codeB cs vars defs = false) := codeB_none (oneC_none (fun ds h => by rw [hd] at h; cases h))
          clear hd
          go_wp2_with fail
          refine hq.out.mono ?_
          rintro e w1 ⟨v, rfl, hst, hb1⟩
          rw [HD.out] at hst ⊢
          obtain ⟨adv, nv, capv, rfl⟩ := hst.form
          have HB1 : Hid (Below w.heap.size w w1) := HB.out.trans (hb1.mono HB.out.size)
          clear hb1 hst
          go_wp2_with fail
          go_ret
          exact ⟨ret_bool HV.out.symm, HB1.out⟩
        | some ds =>
          have HD := mkHid hd
          by_cases ht : topH ds = 1
          · obtain ⟨t, hrt⟩ := oneC_top hd ht
            have HT : Hid (decide (topH ds = 1) = true) := decide_eq_true ht
            have HRT := mkHid hrt
            have HV : Hid (codeB cs vars defs = isB t vars defs) := by
              rw [Hid, codeB_one (oneC_of hrt) HBD.out.2.2.2.2]
              exact validB_isB t vars defs ⟨HBD.out.1, HBD.out.2.1, HBD.out.2.2.1, HBD.out.2.2.2.1⟩
            clear hd ht hrt
            go_wp2_with fail
            refine hq.out.mono ?_
            rintro e w1 ⟨v, rfl, hst, hb1⟩
            rw [HD.out] at hst ⊢
            obtain ⟨adv, nv, capv, rfl⟩ := hst.form
            have HB1 : Hid (Below w.heap.size w w1) := HB.out.trans (hb1.mono HB.out.size)
            clear hb1 hst
            simp only [HT.out]
            go_wp2_with fail
            refine (l8Expr_calls cs t _ w1 (HK.out.next HB1.out) hl HW.out HRT.out).mono ?_
            rintro e w2 ⟨v2, rfl, hf, hb2⟩
            have HB2 : Hid (Below w.heap.size w w2) := HB1.out.trans (hb2.mono HB1.out.size)
            have HF : Hid (In w2 t.kids v2) := hf.on.btw_in
            clear hb2 hf
            obtain ⟨adk, capk, rfl, -, -, -⟩ := id HF.out
            go_wp2_with fail
            refine (l1Is_calls t vars defs _ w2 HF.out).mono ?_
            rintro e w3 ⟨rfl, hb3⟩
            have HB3 : Hid (Below w.heap.size w w3) := HB2.out.trans (hb3.mono HB2.out.size)
            clear hb3
            go_wp2_with fail
            go_ret
            exact ⟨ret_bool HV.out.symm, HB3.out⟩
          · have HT : Hid (decide (topH ds = 1) = false) := decide_eq_false ht
            have HV : Hid (codeB cs vars defs = false) := codeB_none (oneC_none (fun ds' h => by rw [hd] at h; cases h; exact ht))
            clear hd ht
            go_wp2_with fail
            refine hq.out.mono ?_
            rintro e w1 ⟨v, rfl, hst, hb1⟩
            rw [HD.out] at hst ⊢
            obtain ⟨adv, nv, capv, rfl⟩ := hst.form
            have HB1 : Hid (Below w.heap.size w w1) := HB.out.trans (hb1.mono HB.out.size)
            clear hb1 hst
            simp only [HT.out]
            go_wp2_with fail
            go_ret
            exact ⟨ret_bool HV.out.symm, HB1.out⟩
  · have HV : Hid (codeB cs vars defs = false) := codeB_bounds hbd
    have hcase : vars < 0 ∨ (¬ vars < 0 ∧ 4 < vars) ∨ (¬ vars < 0 ∧ ¬ 4 < vars ∧ defs < 0) ∨ (¬ vars < 0 ∧ ¬ 4 < vars ∧ ¬ defs < 0 ∧ 6 < defs) ∨ (¬ vars < 0 ∧ ¬ 4 < vars ∧ ¬ defs < 0 ∧ ¬ 6 < defs ∧ (60 : Int) < (cs.length : Int)) := by omega
    clear hbd
    rcases hcase with h1 | ⟨h1, h2⟩ | ⟨h1, h2, h3⟩ | ⟨h1, h2, h3, h4⟩ | ⟨h1, h2, h3, h4, h5⟩
    all_goals
      go_enter Try.func13, Try.ntmps13
      go_wp2_with fail
      go_ret
      exact ⟨ret_bool HV.out.symm, Below.refl _ _⟩

/-- a tree, and whether there is one -/
def DecIn (r : Tr × Bool) (w : World) (e : Ending) (w' : World) : Prop :=
  ∃ v, e = .returned (.tuple #[.agg #[.int .i64 r.1.op, .int .i64 r.1.num, v], .bool r.2]) ∧ In w' r.1.kids v ∧ Below w.heap.size w w'
set_option maxRecDepth 100000 in
set_option maxHeartbeats 1600000 in
theorem specDec_calls (cs : List Ins) (c : Value) (w : World) (hk : InsIn w cs c) (hl : cs.length ≤ 1048576) (hw : ∀ c ∈ cs, I64 c.op ∧ I64 c.num) : Calls Try.prog 16 #[c] w (DecIn (decO cs 4 6) w) := by
  have HB0 : Hid (Below w.heap.size w (w.alloc (.cells #[.int .i64 0, .int .i64 0, .slice none 0 0] 32))) := box_below _ _
  have HZ0 : Hid ((w.alloc (.cells #[.int .i64 0, .int .i64 0, .slice none 0 0] 32)).heap[w.heap.size]? = some (.cells #[.int .i64 0, .int .i64 0, .slice none 0 0] 32)) := Deep.blk_alloc_new _ _
  have HQ := mkHid (specCodeV_calls cs 4 6 c (w.alloc (.cells #[.int .i64 0, .int .i64 0, .slice none 0 0] 32)) (hk.next HB0.out) hl hw)
  have HK := mkHid hk
  have HW := mkHid hw
  obtain ⟨ad, cap, rfl, -, -, -⟩ := hk
  clear hw
  cases hv : codeB cs 4 6 with
  | false =>
    have HV := mkHid (decO_false hv)
    rw [hv] at HQ
    clear hv
    go_enter Try.func16, Try.ntmps16
    go_wp2_with fail
    refine HQ.out.mono ?_
    rintro e w1 ⟨rfl, hb⟩
    have hz1 := (hb.block w.heap.size (by rw [Deep.nblk_alloc]; omega)).trans HZ0.out
    have HB1 : Hid (Below w.heap.size w w1) := HB0.out.trans (hb.mono HB0.out.size)
    have r0 := cell_of_blk hz1 0 _ rfl
    have r1 := cell_of_blk hz1 1 _ rfl
    have r2 := cell_of_blk hz1 2 _ rfl
    have rf := fun i => frz_of_blk hz1 i
    clear hb hz1
    go_wp2_with fail
    refine bodyPost_ret (v := .tuple #[.agg #[.int .i64 0, .int .i64 0, .slice none 0 0], .bool false]) (by simp [results, Try.results16, go_sem, r0, r1, r2]) rfl ?_
    rw [HV.out]
    refine ⟨_, rfl, ⟨none, 0, rfl, Nat.le_refl _, by simp [maxLen], Or.inl rfl⟩, ?_⟩
    repeat' (refine Below.setCell ?_ (by simp) _)
    exact HB1.out
  | true =>
    obtain ⟨t, ht, hd⟩ := decO_true hv
    have HV := mkHid hd
    have HRT := mkHid (oneC_some ht)
    have HLN : Hid (szL t.kids ≤ 1048576) := by
      have h := runC_sz HRT.out
      rw [szL_sum [t]] at h
      simp only [sumT_cons, sumT_nil, List.length_cons, List.length_nil] at h
      have h2 := szT_eq t
      have h3 : szL ([] : List Tr) = 0 := rfl
      unfold Hid
      omega
    have HI : Hid (I64 t.op ∧ I64 t.num) := (allN_iff.1 (((runC_all HRT.out (R := fun o n => I64 o ∧ I64 n)).2 ⟨by simp, HW.out⟩) t (by simp))).1
    rw [hv] at HQ
    clear hv ht hd
    go_enter Try.func16, Try.ntmps16
    go_wp2_with fail
    refine HQ.out.mono ?_
    rintro e w1 ⟨rfl, hb⟩
    have hz1 := (hb.block w.heap.size (by rw [Deep.nblk_alloc]; omega)).trans HZ0.out
    have HZ1 := mkHid hz1
    have HB1 : Hid (Below w.heap.size w w1) := HB0.out.trans (hb.mono HB0.out.size)
    clear hb hz1
    go_wp2_with fail
    refine (l8Expr_calls cs t _ w1 (HK.out.next HB1.out) hl HW.out HRT.out).mono ?_
    rintro e w2 ⟨v2, rfl, hf, hb2⟩
    have HZ2 := mkHid ((hb2.block w.heap.size (Array.getElem?_eq_some_iff.1 HZ1.out).1).trans HZ1.out)
    have HB2 : Hid (Below w.heap.size w w2) := HB1.out.trans (hb2.mono HB1.out.size)
    have HF : Hid (In w2 t.kids v2) := hf.on.btw_in
    clear hb2 hf
    obtain ⟨adk, capk, rfl, -, -, -⟩ := id HF.out
    go_wp2_with fail
    refine (cp_calls t _ w2 HF.out HLN.out HI.out.1 HI.out.2).mono ?_
    rintro e w3 ⟨v3, rfl, hn, hb3⟩
    have hz3 := (hb3.block w.heap.size (Array.getElem?_eq_some_iff.1 HZ2.out).1).trans HZ2.out
    have HB3 : Hid (Below w.heap.size w w3) := HB2.out.trans (hb3.mono HB2.out.size)
    have HN : Hid (KidsOn w3 (Btw w2.heap.size w3.heap.size) t.kids v3) := hn
    have HLT : Hid (w.heap.size < w2.heap.size) := (Array.getElem?_eq_some_iff.1 HZ2.out).1
    have r0 := cell_of_blk hz3 0 _ rfl
    have r1 := cell_of_blk hz3 1 _ rfl
    have r2 := cell_of_blk hz3 2 _ rfl
    have rf := fun i => frz_of_blk hz3 i
    clear hb3 hz3
    obtain ⟨ad3, cap3, rfl, -, -, -⟩ := hn
    go_wp2_with fail
    refine bodyPost_ret (v := .tuple #[.agg #[.int .i64 t.op, .int .i64 t.num, .slice ad3 t.kids.length cap3], .bool true]) (by simp [results, Try.results16, go_sem, r0, r1, r2]) rfl ?_
    rw [HV.out]
    refine ⟨_, rfl, ?_, ?_⟩
    · have hnot : ¬ Btw w2.heap.size w3.heap.size w.heap.size := fun h => by have := h.1; have := HLT.out; omega
      refine KidsOn.mono (S := Btw w2.heap.size w3.heap.size) ?_ (fun q hq => by have := hq.2; simp only [Lt, size_setCell]; omega) (fun _ _ => rfl)
      repeat' (refine KidsOn.setCell ?_ hnot _)
      exact HN.out
    · repeat' (refine Below.setCell ?_ (by simp) _)
      exact HB3.out
end Go.Proofs.Ytekdipmioogohaa
/-
  THE PROGRAM's CodeValid AND DecompileCode.
-/
namespace Go.Proofs.Ytekdipmioogohaa
set_option linter.unusedVariables false
set_option linter.unusedSimpArgs false
open Go.RowKit

set_option maxHeartbeats 800000 in
theorem implCodeV_calls (cs : List Ins) (vars defs : Int) (c : Value) (w : World) (hk : InsIn w cs c) (hl : cs.length ≤ 1048576) (hw : ∀ c ∈ cs, I64 c.op ∧ I64 c.num) : Calls Try.prog 11 #[c, .int .i64 vars, .int .i64 defs] w fun e w' => e = .returned (.bool (codeB cs vars defs)) ∧ Below w.heap.size w w' := by
  have HQ := mkHid (decompile_calls cs vars defs c w hk hl hw)
  have HV := mkHid (decO_valid (cs := cs) (vars := vars) (defs := defs))
  obtain ⟨r, hr⟩ : ∃ r, r = decO cs vars defs := ⟨_, rfl⟩
  rw [← hr] at HQ HV
  clear hr hw hk
  go_enter Try.func11, Try.ntmps11
  go_wp2_with fail
  refine HQ.out.mono ?_
  rintro e w1 ⟨v, rfl, hf, -, -, hb⟩
  have HB1 : Hid (Below w.heap.size w w1) := hb
  obtain ⟨ad, cap, rfl, -, -, -⟩ := hf.on.btw_in
  clear hb hf
  go_wp2_with fail
  go_ret
  rw [HV.out]
  exact ⟨rfl, HB1.out.trans ((box_below _ _).mono HB1.out.size)⟩

set_option maxHeartbeats 800000 in
theorem implDec_calls (cs : List Ins) (c : Value) (w : World) (hk : InsIn w cs c) (hl : cs.length ≤ 1048576) (hw : ∀ c ∈ cs, I64 c.op ∧ I64 c.num) : Calls Try.prog 12 #[c] w (DecGot (decO cs 4 6) w) := by
  have HB0 : Hid (Below w.heap.size w (w.alloc (.cells #[.int .i64 0, .int .i64 0, .slice none 0 0] 32))) := box_below _ _
  have HQ := mkHid (decompile_calls cs 4 6 c (w.alloc (.cells #[.int .i64 0, .int .i64 0, .slice none 0 0] 32)) (hk.next HB0.out) hl hw)
  obtain ⟨r, hr⟩ : ∃ r, r = decO cs 4 6 := ⟨_, rfl⟩
  rw [← hr] at HQ ⊢
  clear hr hw hk
  go_enter Try.func12, Try.ntmps12
  go_wp2_with fail
  refine HQ.out.mono ?_
  rintro e w1 ⟨v, rfl, hf, h1, h2, hb⟩
  have HF : Hid (Fresh w1 (w.heap.size + 1) r.1.kids v) := by rw [Deep.nblk_alloc] at hf; exact hf
  have HI := mkHid (And.intro h1 h2)
  have hz1 := (hb.block w.heap.size (by rw [Deep.nblk_alloc]; omega)).trans (Deep.blk_alloc_new w (.cells #[.int .i64 0, .int .i64 0, .slice none 0 0] 32))
  have HB1 : Hid (Below w.heap.size w w1) := HB0.out.trans (hb.mono HB0.out.size)
  have r0 := cell_of_blk hz1 0 _ rfl
  have r1 := cell_of_blk hz1 1 _ rfl
  have r2 := cell_of_blk hz1 2 _ rfl
  have rf := fun i => frz_of_blk hz1 i
  obtain ⟨ad, cap, rfl, -, -, -⟩ := hf.on.btw_in
  clear hb hf hz1 h1 h2
  go_wp2_with fail
  refine bodyPost_ret (v := .tuple #[.agg #[.int .i64 r.1.op, .int .i64 r.1.num, .slice ad r.1.kids.length cap], .bool r.2]) (by simp [results, Try.results12, go_sem, r0, r1, r2]) rfl ⟨_, rfl, ?_, HI.out.1, HI.out.2, ?_⟩
  · refine Fresh.mono (lo := w.heap.size + 1) ?_ (Nat.le_succ _) (fun _ _ _ => rfl)
    repeat' (refine Fresh.setCell ?_ (by simp) _)
    exact HF.out
  · repeat' (refine Below.setCell ?_ (by simp) _)
    exact HB1.out
end Go.Proofs.Ytekdipmioogohaa
/-
  PAIRS OF POINTERS AS KEYS OF A MAP; pointers compared.
-/
namespace Go.Proofs.Ytekdipmioogohaa
set_option linter.unusedVariables false
set_option linter.unusedSimpArgs false
open Go.RowKit

def emb2 (k : Addr × Addr) : Value := .agg #[.pointer (some k.1), .pointer (some k.2)]
def ok2 (w : World) (k : Addr × Addr) : Prop := PlainAt w k.1 ∧ PlainAt w k.2

theorem infoE_ptr : ∃ j, Try.prog.info? 32 = some j ∧ j.size ≠ 0 := by
  obtain ⟨i, z, hi, -, hs, -⟩ := infoE3
  exact ⟨i, hi, by omega⟩
theorem eq_exprPtr (w : World) (x y : Addr) (hx : PlainAt w x) (hy : PlainAt w y) (d : Nat) :
    (Op.equalIn (d + 1) 54 (.pointer (some x)) (.pointer (some y))).run Try.prog w = .ok (decide (x = y)) w := by
  obtain ⟨j, hj, hs⟩ := infoE_ptr
  exact eq_ptr Try.underlying54 hj hs w x y hx hy d
/-- 'p != q' -/
theorem neq_exprPtr (w : World) (x y : Addr) (hx : PlainAt w x) (hy : PlainAt w y) :
    (binOp .neq 54 (.pointer (some x)) (.pointer (some y))).run Try.prog w = .ok (.bool (!decide (x = y))) w := by
  simp only [binOp]
  simp [Op.equal, Op.maxDepth, eq_exprPtr w x y hx hy 9999]

theorem eq_pair (w : World) (x y : Addr × Addr) (hx : ok2 w x) (hy : ok2 w y) (d : Nat) :
    (Op.equalIn (d + 2) 56 (emb2 x) (emb2 y)).run Try.prog w = .ok (decide (x = y)) w := by
  unfold emb2
  have hf : Try.prog.fieldsOf 56 = #[{ name := "a", type := 54, offset := 0, embedded := false, tag := "", pkgPath := "loop.example/graphreducer/impl", byteOffset := 0 }, { name := "b", type := 54, offset := 1, embedded := false, tag := "", pkgPath := "loop.example/graphreducer/impl", byteOffset := 8 }] := by
    unfold Program.fieldsOf
    rw [Try.underlying56]
  rw [run_equalIn_struct w _ _ _ _ (by rw [hf]; exact Try.underlying56) (by kernel_rfl), hf]
  have p0 : ∀ a b : Value, (part 54 #[a, b] 0).run Try.prog w = .ok a w := fun a b => by kernel_rfl
  have p1 : ∀ a b : Value, (part 54 #[a, b] 1).run Try.prog w = .ok b w := fun a b => by kernel_rfl
  simp only [Op.eqFields, ne_eq, show ¬ ("a" = "_") from by decide, show ¬ ("b" = "_") from by decide, not_false_eq_true, if_true, Sem.run_bind, p0, p1, Result.andThen_ok, eq_exprPtr w _ _ hx.1 hy.1, eq_exprPtr w _ _ hx.2 hy.2]
  obtain ⟨x1, x2⟩ := x
  obtain ⟨y1, y2⟩ := y
  have e2 := eq_exprPtr w x2 y2 hx.2 hy.2 d
  by_cases h1 : x1 = y1
  · by_cases h2 : x2 = y2
    · subst h1; subst h2; simp [p1, e2, Result.andThen]
    · simp [h1, h2, p1, e2, Result.andThen]
  · simp [h1]

theorem pairK : PKey Try.prog 56 emb2 ok2 where
  check w e x := by cases e <;> kernel_rfl
  under := ⟨_, Try.underlying56, fun x y => by simp [emb2, Instr.sameNow]⟩
  eq w x y hx hy := by
    unfold Op.equal Op.maxDepth
    exact eq_pair w x y hx hy 9998
  stays x := by simp [emb2, Instr.sameBits]
theorem zeroBl (w : World) : (zeroValue 4).run Try.prog w = .ok (.bool false) w := by kernel_rfl
theorem infoPair : ∃ i z, Try.prog.info? 56 = some i ∧ i.zero = some z ∧ i.size = 2 ∧ i.bytes = 16 ∧ z.cells.size = 2 := by
  have h : (Try.prog.info? 56).map (fun i => (i.zero, i.size, i.bytes)) = some (some (.agg #[.pointer none, .pointer none]), 2, 16) := by kernel_rfl
  obtain ⟨i, hi, hzz⟩ := Option.map_eq_some_iff.1 h
  simp only [Prod.mk.injEq] at hzz
  obtain ⟨hz, hs, hb⟩ := hzz
  exact ⟨i, _, hi, hz, hs, hb, rfl⟩
end Go.Proofs.Ytekdipmioogohaa
