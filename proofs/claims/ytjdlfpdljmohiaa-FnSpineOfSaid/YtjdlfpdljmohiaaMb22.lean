/-
  THE MODEL's l4Spine: the function of nested applications of a graph, and the cells of these.
-/
import Derived.Test.YtjdlfpdljmohiaaMb11
import Derived.Test.YtjdlfpdljmohiaaMb2
import Derived.Deep.LoopGhost
import Derived.Test.YtjdlfpdljmohiaaMb13
import Derived.Test.YtjdlfpdljmohiaaMb10
namespace Go.Proofs.Ytjdlfpdljmohiaa
set_option linter.unusedVariables false
set_option linter.unusedSimpArgs false
open Go.RowKit

def spI (o : Option (Nat × List Nat)) : Int := match o with | some x => (x.1 : Int) | none => -1
/-- what l4Spine answers; of none, the cells are whatever -/
def SpineSaid (o : Option (Nat × List Nat)) (w : World) (e : Ending) (w' : World) : Prop :=
  ∃ (xs : List Nat) (v : Value), (∀ x, o = some x → xs = x.2) ∧ e = .returned (.tuple #[.int .i64 (spI o), v]) ∧ IntRow w' w.heap.size (plI xs) v ∧ Below w.heap.size w w'
/-- what SpineOf answers -/
def SpineOut (o : Option (Nat × List Nat)) (w : World) (e : Ending) (w' : World) : Prop :=
  ∃ v, e = .returned (.tuple #[.int .i64 (spF o), v, .bool o.isSome]) ∧ IntRow w' w.heap.size (plI (spL o)) v ∧ Below w.heap.size w w'
theorem SpRel.len_lt {g : List Ce} {a : Nat} {ws : List Nat} {b : Nat} (h : SpRel g a ws b) : ws.length ≤ g.length + 1 := h.len
theorem said_none {g : List Ce} {a : Nat} {w w' : World} {ws : List Nat} {v : Value} (h : spine g a = none) (hr : IntRow w' w.heap.size (plI ws) v) (hb : Below w.heap.size w w') : SpineSaid (spine g a) w (.returned (.tuple #[.int .i64 (-1), v])) w' := by
  rw [h]; exact ⟨ws, v, (fun _ h => by cases h), rfl, hr, hb⟩
theorem said_some {g : List Ce} {a f : Nat} {w w' : World} {ws : List Nat} {v : Value} (h : spine g a = some (f, ws)) (hr : IntRow w' w.heap.size (plI ws) v) (hb : Below w.heap.size w w') : SpineSaid (spine g a) w (.returned (.tuple #[.int .i64 (f : Int), v])) w' := by
  rw [h]; exact ⟨ws, v, (fun _ h => by cases h; rfl), rfl, hr, hb⟩

set_option maxRecDepth 100000 in
set_option maxHeartbeats 1600000 in
theorem l4Spine_calls (g : List Ce) (a : Nat) (v : Value) (w : World) (hk : CIn w g v) (hg : ∃ defs, graphB g defs = true) (ha : a < g.length) :
    Calls Try.prog 77 #[v, .int .i64 (a : Int)] w (SpineSaid (spine g a) w) := by
  have HK : Hid (CIn w g v) := hk
  obtain ⟨ad, cap, rfl, hl, hm, -⟩ := hk
  obtain ⟨defs, hg⟩ := hg
  have HG : Hid (graphB g defs = true) := hg
  have h400 : g.length ≤ 400 := graphB_len hg
  have H0 : Hid (Stk (w.alloc (.cells #[] 3)) w.heap.size [] (.slice (some ⟨w.heap.size, 0, none⟩) 0 0)) := ⟨rfl, Or.inr ⟨_, 0, _, rfl, Nat.le_refl _, Deep.blk_alloc_new _ _, Nat.le_refl _, by simp [maxLen], rfl, rfl⟩⟩
  unfold maxLen at hm
  clear hg
  go_enter Try.func77, Try.ntmps77
  go_wp2_with fail
  refine (l3Follow_calls g a _ _ (HK.out.next (box_below _ _)) ⟨defs, HG.out⟩ ha).mono ?_
  rintro e w1 ⟨rfl, hb1⟩
  rw [follow_enough HG.out a ha]
  have HB1 : Hid (Below w.heap.size w w1) := (box_below _ _).trans (hb1.mono (by rw [Deep.nblk_alloc]; omega))
  have HS1 : Hid (Stk w1 w.heap.size [] (.slice (some ⟨w.heap.size, 0, none⟩) 0 0)) := H0.out.keep fun k _ hk => hb1.block k hk
  clear hb1
  go_wp2_with fail
  go_loopg [6, 7] (g.length + 3) (fun k cs at' wr => ∃ (ws : List Nat) (b : Nat), Stk wr w.heap.size ws cs ∧ SpRel g a ws b ∧ at' = .int .i64 (folI (followN g g.length b)) ∧ g.length + 2 - ws.length < k ∧ Below w.heap.size w wr)
  case atStart => exact ⟨[], a, HS1.out, SpRel.start ha, rfl, by simp, HB1.out⟩
  case round =>
    obtain ⟨ws, b, hst, hsp, rfl, hms, hb⟩ := hrel
    have HS : Hid (Stk wr w.heap.size ws _) := hst
    have HR : Hid (SpRel g a ws b) := hsp
    have HB : Hid (Below w.heap.size w wr) := hb
    have hwl := hsp.len
    obtain ⟨adc, capc, rfl⟩ := hst.len
    clear hst hsp
    cases hf : followN g g.length b with
    | none =>
      have HV : Hid (spine g a = none) := by
        by_cases hl2 : ws.length ≤ g.length
        · exact HR.out.none hl2 hf
        · exact HR.out.out (by omega)
      have e1 : folI none = -1 := rfl
      rw [e1]
      clear hf hb
      by_cases hgt : g.length < ws.length
      · go_wp2_with fail
        go_ret2
        exact said_none HV.out (ws := []) (no_ints _ _ _ _ (by simp [maxLen])) (HB.out.alloc HB.out.size _)
      · go_wp2_with fail
        go_ret2
        exact said_none HV.out HS.out.row HB.out
    | some f =>
      have hfl := followN_lt HG.out _ _ _ HR.out.lt hf
      have hff : f < g.length := hfl.1
      have HF : Hid (followN g g.length b = some f) := hf
      have e1 : folI (some f) = (f : Int) := rfl
      rw [e1]
      obtain ⟨bl, off, r, rfl, c0w, c1w, c2w, -, -, hkk⟩ := HK.out.at f hff
      have hbl : bl < w.heap.size := cell_lt c0w
      have c0 := (hb.cell (p := ⟨bl, off + f * 3, none⟩) hbl).trans c0w
      have c2 := (hb.cell (p := ⟨bl, off + f * 3 + 2, none⟩) hbl).trans c2w
      clear hf hfl c0w c1w c2w
      by_cases ho : g[f].op = 4
      · have t1 : (g[f].op == 4) = true := by simp [ho]
        by_cases hgt : g.length < ws.length
        · have HV : Hid (spine g a = none) := HR.out.out hgt
          clear ho hb hkk
          go_wp2_with fail
          go_ret2
          exact said_none HV.out (ws := []) (no_ints _ _ _ _ (by simp [maxLen])) (HB.out.alloc HB.out.size _)
        · have hwl2 : ws.length ≤ g.length := by omega
          have h4 : opAt g f = 4 := by rw [opAt_at f hff]; exact ho
          have HR2 : Hid (SpRel g a (ws ++ [f]) (kidAt g f 0)) := HR.out.next HG.out hwl2 HF.out h4
          have hkl : 0 < g[f].kids.length := by
            have h1 := kids_count HG.out f hff
            rw [ho] at h1
            have e : cArity 4 = 2 := by decide
            omega
          obtain ⟨hk0, hk0l⟩ := kidAt_get HG.out f hff 0 hkl
          obtain ⟨ad2, cap2, rfl, hl2, hm2, -⟩ := id hkk
          obtain ⟨bl2, off2, rfl, d0w⟩ := hkk.at 0 hkl
          have d0 := (hb.cell (p := ⟨bl2, off2 + 0, none⟩) (cell_lt d0w)).trans d0w
          rw [hk0, Nat.add_zero] at d0
          have HKL : Hid (kidAt g f 0 < g.length) := hk0l
          have HC : Hid (wr.cell? ⟨bl, off + f * 3 + 2, none⟩ = some (.slice (some ⟨bl2, off2, none⟩) g[f].kids.length cap2)) := c2
          have HD : Hid (wr.cell? ⟨bl2, off2, none⟩ = some (.int .i64 (kidAt g f 0 : Int))) := d0
          have hbl2 : bl2 < w.heap.size := by have := cell_lt d0w; simpa using this
          have HS3 : Hid (Stk (wr.alloc (.cells #[.int .i64 (f : Int)] 3)) w.heap.size ws (.slice adc ws.length capc)) := HS.out.alloc _
          have HK3 : Hid (IIn (wr.alloc (.cells #[.int .i64 (f : Int)] 3)) [(f : Int)] (.slice (some ⟨wr.heap.size, 0, none⟩) 1 1)) := one_in wr f
          have HLO : Hid (w.heap.size ≤ (wr.alloc (.cells #[.int .i64 (f : Int)] 3)).heap.size) := by rw [Hid, Deep.nblk_alloc]; have := HB.out.size; omega
          have HOB : Hid (∀ j, (Value.slice adc ws.length capc).ownBlock = some j → w.heap.size ≤ j) := fun j hj => own_lo HS.out hj.symm
          have HZ : Hid (w.heap.size ≤ wr.heap.size) := HB.out.size
          clear ho hb hkk hk0 hk0l c2 d0 d0w hl2 hm2 h4
          go_wp2_with (at_builtin; go_must (refine wpList_push rfl _ _ rfl _ w.heap.size ws [f] (.slice adc ws.length capc) (.slice (some ⟨wr.heap.size, 0, none⟩) 1 1) rfl HS3.out rfl HK3.out rfl HLO.out (by simp; omega) ?_); go_must (intro v' w5 hst5 hg5); go_must (have HS5 : Hid (Stk w5 w.heap.size (ws ++ [f]) v') := hst5); go_must (have HN5 : Hid (∀ j, j < w.heap.size → w5.heap[j]? = wr.heap[j]?) := fun j hj => (hg5.block j (by have := HLO.out; omega) (fun e => by have := HOB.out j e.symm; omega)).trans (Deep.blk_alloc_lt _ _ _ (by have := HZ.out; omega))); go_must (have HB5 : Hid (Below w.heap.size w w5) := by have hb3 : Below w.heap.size w (wr.alloc (.cells #[.int .i64 (f : Int)] 3)) := HB.out.alloc HB.out.size _; exact ⟨by rw [hg5.os]; exact hb3.os, by rw [hg5.tape]; exact hb3.tape, by rw [hg5.output]; exact hb3.output, Nat.le_trans hb3.size hg5.size, fun j hj => (hg5.block j (by have := hb3.size; omega) (fun e => by have := HOB.out j e.symm; omega)).trans (hb3.block j hj)⟩); go_must (have c2 := (World.cell?_of_block (a := ⟨bl, off + f * 3 + 2, none⟩) (HN5.out bl hbl)).trans HC.out); go_must (have d0 := (World.cell?_of_block (a := ⟨bl2, off2, none⟩) (HN5.out bl2 hbl2)).trans HD.out); clear hst5 hg5 c0)
          refine (l3Follow_calls g (kidAt g f 0) _ _ (HK.out.next HB5.out) ⟨defs, HG.out⟩ HKL.out).mono ?_
          rintro e w6 ⟨rfl, hb6⟩
          rw [follow_enough HG.out _ HKL.out]
          have HB6 : Hid (Below w.heap.size w w6) := HB5.out.trans (hb6.mono HB5.out.size)
          have HS6 : Hid (Stk w6 w.heap.size (ws ++ [f]) v') := HS5.out.keep fun k _ hk => hb6.block k hk
          clear hb6 c2 d0
          go_wp2_with fail
          go_roundg (g.length + 2 - (ws ++ [f]).length + 1)
          case measure => rw [List.length_append]; simp; omega
          case rel => exact ⟨ws ++ [f], kidAt g f 0, HS6.out, HR2.out, rfl, by omega, HB6.out⟩
      · have t1 : (g[f].op == 4) = false := by simp [ho]
        have h4 : ¬ opAt g f = 4 := by rw [opAt_at f hff]; exact ho
        clear hkk hb
        by_cases hgt : g.length < ws.length
        · have HV : Hid (spine g a = none) := HR.out.out hgt
          clear ho h4
          go_wp2_with fail
          go_ret2
          exact said_none HV.out (ws := []) (no_ints _ _ _ _ (by simp [maxLen])) (HB.out.alloc HB.out.size _)
        · have HV : Hid (spine g a = some (f, ws)) := HR.out.fin (by omega) HF.out h4
          clear ho h4
          go_wp2_with fail
          go_ret2
          exact said_some HV.out HS.out.row HB.out

theorem spV_no {g : List Ce} {a : Int} (h : ¬ (graphB g 6 = true ∧ 0 ≤ a ∧ a < g.length)) : spV g a = none := by unfold spV; rw [if_neg h]
theorem spV_yes {g : List Ce} {a : Int} (h : graphB g 6 = true ∧ 0 ≤ a ∧ a < g.length) : spV g a = spine g a.toNat := by unfold spV; rw [if_pos h]
theorem out_none {o : Option (Nat × List Nat)} {w w' : World} {ad : Option Addr} {cap : Nat} (h : o = none) (hc : cap ≤ maxLen) (hb : Below w.heap.size w w') : SpineOut o w (.returned (.tuple #[.int .i64 0, .slice ad 0 cap, .bool false])) w' := by
  subst h; exact ⟨_, rfl, no_ints _ _ _ _ hc, hb⟩
theorem out_some {o : Option (Nat × List Nat)} {w w' : World} {f : Nat} {ws : List Nat} {v : Value} (h : o = some (f, ws)) (hr : IntRow w' w.heap.size (plI ws) v) (hb : Below w.heap.size w w') : SpineOut o w (.returned (.tuple #[.int .i64 (f : Int), v, .bool true])) w' := by
  subst h; exact ⟨_, rfl, hr, hb⟩

end Go.Proofs.Ytjdlfpdljmohiaa
/-
  PLAIN: nested applications, cell by cell: after as many cells as there are, it is a circle.
-/
namespace Go.Proofs.Ytjdlfpdljmohiaa
set_option linter.unusedVariables false
set_option linter.unusedSimpArgs false

/-- a cell that is no head -/
def liveS (g : List Ce) (a : Nat) : Prop := opAt g a = 4 ∨ opAt g a = 11
theorem kidAt_nxt (g : List Ce) (a : Nat) : kidAt g a 0 = nxt g a := by
  unfold kidAt nxt kid0 kidsN
  cases (g.getD a ⟨0, 0, []⟩).kids with
  | nil => rfl
  | cons x xs => rfl
theorem live_kid {g : List Ce} {defs : Int} (hg : graphB g defs = true) {a : Nat} (ha : a < g.length) (hl : liveS g a) : 0 < g[a].kids.length ∧ nxt g a < g.length := by
  have hc := kids_count hg a ha
  have h0 : 0 < g[a].kids.length := by
    unfold liveS opAt at hl
    rw [getD_at _ _ _ ha] at hl
    have e4 : cArity 4 = 2 := by decide
    have e11 : cArity 11 = 1 := by decide
    rcases hl with h | h <;> rw [h] at hc <;> omega
  refine ⟨h0, ?_⟩
  rw [← kidAt_nxt]
  exact (kidAt_get hg a ha 0 h0).2
theorem follow_to {g : List Ce} : ∀ (n a b : Nat), followN g n a = some b → ∃ m, chase g a m = b
  | 0, a, b, h => by simp [followN] at h
  | n + 1, a, b, h => by
    unfold followN at h
    split at h
    · obtain ⟨m, hm⟩ := follow_to n _ b h
      exact ⟨m + 1, by rw [chase_succ]; exact hm⟩
    · simp only [Option.some.injEq] at h
      exact ⟨0, h⟩
/-- a spine ends at a head -/
theorem spine_head {g : List Ce} {defs : Int} (hg : graphB g defs = true) : ∀ (n a f : Nat) (l : List Nat), a < g.length → spineN g n a = some (f, l) → ∃ m, ¬ liveS g (chase g a m)
  | 0, _, _, _, _, h => by simp [spineN] at h
  | n + 1, a, f, l, ha, h => by
    unfold spineN at h
    cases hf : followN g g.length a with
    | none => rw [hf] at h; simp at h
    | some c =>
      rw [hf] at h
      obtain ⟨hc, ho⟩ := followN_lt hg _ _ _ ha hf
      obtain ⟨m, hm⟩ := follow_to _ _ _ hf
      simp only at h
      split at h
      · rename_i h4
        obtain ⟨⟨f', l'⟩, h1, -⟩ := Option.map_eq_some_iff.1 h
        have hk := (live_kid hg hc (Or.inl h4)).2
        rw [← kidAt_nxt] at hk
        obtain ⟨m2, hm2⟩ := spine_head hg n _ f' l' hk h1
        refine ⟨m + 1 + m2, ?_⟩
        rw [chase_add, show chase g a (m + 1) = nxt g (chase g a m) from rfl, hm, ← kidAt_nxt]
        exact hm2
      · rename_i h4
        refine ⟨m, ?_⟩
        rw [hm]
        rintro (h | h)
        · exact h4 h
        · exact ho h
/-- as many cells as there are, and no head among them: a circle -/
theorem spine_circle {g : List Ce} {defs : Int} (hg : graphB g defs = true) {a : Nat} (ha : a < g.length) (hl : ∀ j, j < g.length → liveS g (chase g a j)) : spine g a = none := by
  cases hs : spine g a with
  | none => rfl
  | some p =>
    obtain ⟨f, l⟩ := p
    obtain ⟨m, hm⟩ := spine_head hg _ _ _ _ ha hs
    exfalso
    have hlt : ∀ i, i ≤ g.length → chase g a i < g.length := by
      intro i
      induction i with
      | zero => intro _; exact ha
      | succ i ih => intro hi; exact (live_kid hg (ih (by omega)) (hl i (by omega))).2
    have hex : ∃ i j, i < j ∧ j ≤ g.length ∧ chase g a i = chase g a j := by
      refine Classical.byContradiction fun hn => ?_
      have := pigeon g.length (g.length + 1) (chase g a) (fun i hi => hlt i (by omega)) fun i j hi hj e => by
        rcases Nat.lt_trichotomy i j with h | h | h
        · exact absurd ⟨i, j, h, by omega, e⟩ hn
        · exact h
        · exact absurd ⟨j, i, h, by omega, e.symm⟩ hn
      omega
    obtain ⟨i, j, hij, hj, e⟩ := hex
    have all : ∀ m, liveS g (chase g a m) := by
      intro m
      induction m using Nat.strongRecOn with
      | _ m ih =>
        by_cases h : m < g.length
        · exact hl m h
        · have e2 : chase g a m = chase g a (i + (m - j)) := by
            conv => lhs; rw [show m = j + (m - j) by omega]
            rw [chase_add, chase_add, e]
          rw [e2]
          exact ih _ (by omega)
    exact hm (all m)
/-- a look at an indirection -/
theorem SpRel.ind {g : List Ce} {defs : Int} {a b : Nat} {ws : List Nat} (h : SpRel g a ws b) (hg : graphB g defs = true) (ho : opAt g b = 11) : SpRel g a ws (nxt g b) := by
  have hl := (live_kid hg h.lt (Or.inr ho)).2
  refine ⟨?_, h.len, hl⟩
  rw [h.eq]
  have e : ∀ n, spineN g n b = spineN g n (nxt g b) := by
    intro n
    cases n with
    | zero => rfl
    | succ n =>
      have h1 : followN g (g.length + 1) b = followN g g.length (nxt g b) := by
        conv => lhs; unfold followN
        rw [if_pos ho]
      have h2 := (follow_enough hg b h.lt).symm.trans h1
      unfold spineN
      rw [h2]
  rw [e]
theorem follow_head {g : List Ce} {b : Nat} (hb : b < g.length) (ho : opAt g b ≠ 11) : followN g g.length b = some b := by
  obtain ⟨n, hn⟩ : ∃ n, g.length = n + 1 := ⟨g.length - 1, by omega⟩
  rw [hn]; exact followN_stop ho
end Go.Proofs.Ytjdlfpdljmohiaa
/-
  THE PROGRAM's spineFrom (cell by cell, since 1210b62).
-/
namespace Go.Proofs.Ytjdlfpdljmohiaa
set_option linter.unusedVariables false
set_option linter.unusedSimpArgs false
open Go.RowKit

set_option maxRecDepth 100000 in
set_option maxHeartbeats 1600000 in
theorem spineFrom_calls (g : List Ce) (a : Nat) (v : Value) (w : World) (hk : CIn w g v) (hg : ∃ defs, graphB g defs = true) (ha : a < g.length) :
    Calls Try.prog 76 #[v, .int .i64 (a : Int)] w (SpineOut (spine g a) w) := by
  have HK : Hid (CIn w g v) := hk
  obtain ⟨ad, cap, rfl, hl, hm, -⟩ := hk
  obtain ⟨defs, hg⟩ := hg
  have HG : Hid (graphB g defs = true) := hg
  have h400 : g.length ≤ 400 := graphB_len hg
  have H0 : Hid (Stk w w.heap.size [] (.slice none 0 0)) := World.ownsRow_nil _ _ _ _
  have HA := mkHid ha
  unfold maxLen at hm
  clear hg ha
  go_enter Try.func76, Try.ntmps76
  go_wp2_with fail
  go_loopw [1, 7, 10] (fun at' cs iv wr => ∃ (ws : List Nat) (b i : Nat), i ≤ g.length ∧ iv = .int .i64 (i : Int) ∧ at' = .int .i64 (b : Int) ∧ ws.length ≤ i ∧ Hid (Stk wr w.heap.size ws cs) ∧ Hid (SpRel g a ws b) ∧ Hid (b = chase g a i ∧ ∀ j, j < i → liveS g (chase g a j)) ∧ Hid (Below w.heap.size w wr)) (fun _ _ iv _ => g.length - (intOf iv).toNat)
  case atStart => exact ⟨[], a, 0, Nat.zero_le _, rfl, rfl, Nat.le_refl _, H0.out, SpRel.start HA.out, ⟨rfl, fun j hj => absurd hj (by omega)⟩, Below.refl _ _⟩
  case round =>
    obtain ⟨ws, b, i, hi, rfl, rfl, hwi, HS, HR, HC, HB⟩ := hrel
    obtain ⟨adc, capc, rfl⟩ := HS.out.len
    by_cases hlt : i < g.length
    · have hbl := HR.out.lt
      have hwl : ws.length ≤ g.length := by omega
      obtain ⟨bl, off, r, rfl, c0, -, c2, -, -, hkk⟩ := (HK.out.next HB.out).at b hbl
      have hoa : opAt g b = g[b].op := opAt_at b hbl
      by_cases h4 : g[b].op = 4
      · have h4' : opAt g b = 4 := by rw [hoa]; exact h4
        have HR2 : Hid (SpRel g a (ws ++ [b]) (nxt g b)) := by
          have h := HR.out.next HG.out hwl (follow_head hbl (by omega)) h4'
          rw [kidAt_nxt] at h
          exact h
        have hk0 := (live_kid HG.out hbl (Or.inl h4')).1
        have hkg := (kidAt_get HG.out b hbl 0 hk0).1
        rw [kidAt_nxt] at hkg
        obtain ⟨ad2, cap2, rfl, hl2, hm2, -⟩ := id hkk
        obtain ⟨bl2, off2, rfl, d0⟩ := hkk.at 0 hk0
        rw [hkg, Nat.add_zero] at d0
        have HCC : Hid (wr.cell? ⟨bl, off + b * 3 + 2, none⟩ = some (.slice (some ⟨bl2, off2, none⟩) g[b].kids.length cap2)) := c2
        have HDD : Hid (wr.cell? ⟨bl2, off2, none⟩ = some (.int .i64 (nxt g b : Int))) := d0
        have HC2 : Hid (nxt g b = chase g a (i + 1) ∧ ∀ j, j < i + 1 → liveS g (chase g a j)) := ⟨by rw [chase, ← HC.out.1], fun j hj => by
          by_cases e : j = i
          · subst e; rw [← HC.out.1]; exact Or.inl h4'
          · exact HC.out.2 j (by omega)⟩
        have hblt : bl < wr.heap.size := cell_lt c2
        have hbl2t : bl2 < wr.heap.size := cell_lt d0
        have HS3 : Hid (Stk (wr.alloc (.cells #[.int .i64 (b : Int)] 3)) w.heap.size ws (.slice adc ws.length capc)) := HS.out.alloc _
        have HK3 : Hid (IIn (wr.alloc (.cells #[.int .i64 (b : Int)] 3)) [(b : Int)] (.slice (some ⟨wr.heap.size, 0, none⟩) 1 1)) := one_in wr b
        have HLO : Hid (w.heap.size ≤ (wr.alloc (.cells #[.int .i64 (b : Int)] 3)).heap.size) := by rw [Hid, Deep.nblk_alloc]; have := HB.out.size; omega
        have HOB : Hid (∀ j, (Value.slice adc ws.length capc).ownBlock = some j → w.heap.size ≤ j) := fun j hj => own_lo HS.out hj.symm
        have HZ : Hid (w.heap.size ≤ wr.heap.size) := HB.out.size
        have HBL : Hid (bl < w.heap.size) := by
          have h := HK.out.at b hbl
          obtain ⟨bl', off', r', he, q0, -⟩ := h
          cases he
          exact cell_lt q0
        have HBL2 : Hid (bl2 < w.heap.size) := by
          have h := HK.out.at b hbl
          obtain ⟨bl', off', r', he, -, -, q2, -, -, hkk'⟩ := h
          cases he
          have q3 := (HB.out.cell (p := ⟨bl, off + b * 3 + 2, none⟩) (cell_lt q2)).trans q2
          rw [HCC.out] at q3
          cases q3
          obtain ⟨bl3, off3, he, q4⟩ := hkk'.at 0 hk0
          cases he
          exact cell_lt q4
        have t4 : (g[b].op == 4) = true := by simpa using h4
        clear h4 h4' hoa hkk hkg hl2 hm2
        go_wp2_with (at_builtin; go_must (refine wpList_push rfl _ _ rfl _ w.heap.size ws [b] (.slice adc ws.length capc) (.slice (some ⟨wr.heap.size, 0, none⟩) 1 1) rfl HS3.out rfl HK3.out rfl HLO.out (by simp; omega) ?_); go_must (intro v' w5 hst5 hg5); go_must (have HS5 : Hid (Stk w5 w.heap.size (ws ++ [b]) v') := hst5); go_must (have HN5 : Hid (∀ j, j < w.heap.size → w5.heap[j]? = wr.heap[j]?) := fun j hj => (hg5.block j (by have := HLO.out; omega) (fun e => by have := HOB.out j e.symm; omega)).trans (Deep.blk_alloc_lt _ _ _ (by have := HZ.out; omega))); go_must (have HB5 : Hid (Below w.heap.size w w5) := by have hb3 : Below w.heap.size w (wr.alloc (.cells #[.int .i64 (b : Int)] 3)) := HB.out.alloc HB.out.size _; exact ⟨by rw [hg5.os]; exact hb3.os, by rw [hg5.tape]; exact hb3.tape, by rw [hg5.output]; exact hb3.output, Nat.le_trans hb3.size hg5.size, fun j hj => (hg5.block j (by have := hb3.size; omega) (fun e => by have := HOB.out j e.symm; omega)).trans (hb3.block j hj)⟩); clear c2 d0 c0; go_must (have c2 := (World.cell?_of_block (a := ⟨bl, off + b * 3 + 2, none⟩) (HN5.out bl HBL.out)).trans HCC.out); go_must (have d0 := (World.cell?_of_block (a := ⟨bl2, off2, none⟩) (HN5.out bl2 HBL2.out)).trans HDD.out); clear hst5 hg5)
        go_roundw
        case rel => exact ⟨ws ++ [b], nxt g b, i + 1, by omega, by go_num, rfl, by simp; omega, HS5.out, HR2.out, HC2.out, HB5.out⟩
        case measure => simp [intOf] <;> omega
      · have t4 : (g[b].op == 4) = false := by simpa using h4
        by_cases h11 : g[b].op = 11
        · have h11' : opAt g b = 11 := by rw [hoa]; exact h11
          have HR2 := mkHid (HR.out.ind HG.out h11')
          have hk0 := (live_kid HG.out hbl (Or.inr h11')).1
          have hkg := (kidAt_get HG.out b hbl 0 hk0).1
          rw [kidAt_nxt] at hkg
          obtain ⟨ad2, cap2, rfl, hl2, hm2, -⟩ := id hkk
          obtain ⟨bl2, off2, rfl, d0⟩ := hkk.at 0 hk0
          rw [hkg, Nat.add_zero] at d0
          have HC2 : Hid (nxt g b = chase g a (i + 1) ∧ ∀ j, j < i + 1 → liveS g (chase g a j)) := ⟨by rw [chase, ← HC.out.1], fun j hj => by
            by_cases e : j = i
            · subst e; rw [← HC.out.1]; exact Or.inr h11'
            · exact HC.out.2 j (by omega)⟩
          have t11 : (g[b].op == 11) = true := by simpa using h11
          clear h4 h11 h11' hoa hkk hkg hl2 hm2
          go_wp2_with fail
          go_roundw
          case rel => exact ⟨ws, nxt g b, i + 1, by omega, by go_num, rfl, by omega, HS.out, HR2.out, HC2.out, HB.out⟩
          case measure => simp [intOf] <;> omega
        · have t11 : (g[b].op == 11) = false := by simpa using h11
          have HV : Hid (spine g a = some (b, ws)) := HR.out.fin hwl (follow_head hbl (by rw [hoa]; exact h11)) (by rw [hoa]; exact h4)
          clear h4 h11 hoa hkk c2
          go_wp2_with fail
          go_ret3
          exact out_some HV.out HS.out.row HB.out
    · have hie : i = g.length := by omega
      have HV : Hid (spine g a = none) := spine_circle HG.out HA.out (by rw [← hie]; exact HC.out.2)
      clear hie
      go_wp2_with fail
      go_ret3
      exact out_none HV.out (by simp [maxLen]) HB.out
end Go.Proofs.Ytjdlfpdljmohiaa
/-
  THE MODEL's SpineOf.
-/
namespace Go.Proofs.Ytjdlfpdljmohiaa
set_option linter.unusedVariables false
set_option linter.unusedSimpArgs false
open Go.RowKit

set_option maxHeartbeats 1600000 in
theorem specSpine_calls (g : List Ce) (a : Int) (v : Value) (w : World) (hk : CIn w g v) :
    Calls Try.prog 40 #[v, .int .i64 a] w (SpineOut (spV g a) w) := by
  have HK : Hid (CIn w g v) := hk
  obtain ⟨ad, cap, rfl, hl, hm, -⟩ := hk
  unfold maxLen at hm
  go_enter Try.func40, Try.ntmps40
  go_wp2_with fail
  refine (specGraph_calls g 6 _ _ HK.out).mono ?_
  rintro e w1 ⟨rfl, hb1⟩
  have HB1 : Hid (Below w.heap.size w w1) := hb1
  clear hb1
  cases hg : graphB g 6 with
  | false =>
    have HV : Hid (spV g a = none) := spV_no (by rw [hg]; simp)
    clear hg
    go_wp2_with fail
    go_ret3
    exact out_none HV.out (by simp [maxLen]) (HB1.out.alloc HB1.out.size _)
  | true =>
    have HG : Hid (graphB g 6 = true) := hg
    clear hg
    by_cases h0 : a < 0
    · have HV : Hid (spV g a = none) := spV_no (by rintro ⟨-, h1, -⟩; omega)
      go_wp2_with fail
      go_ret3
      exact out_none HV.out (by simp [maxLen]) (HB1.out.alloc HB1.out.size _)
    by_cases h1 : (g.length : Int) ≤ a
    · have HV : Hid (spV g a = none) := spV_no (by rintro ⟨-, -, h⟩; omega)
      go_wp2_with fail
      go_ret3
      exact out_none HV.out (by simp [maxLen]) (HB1.out.alloc HB1.out.size _)
    obtain ⟨n, rfl⟩ : ∃ n : Nat, a = (n : Int) := ⟨a.toNat, by omega⟩
    have hn : n < g.length := by omega
    have HV : Hid (spV g (n : Int) = spine g n) := spV_yes ⟨HG.out, by omega, by omega⟩
    go_wp2_with fail
    refine (l4Spine_calls g n _ _ (HK.out.next HB1.out) ⟨6, HG.out⟩ hn).mono ?_
    rintro e w2 ⟨xs, v2, hxs, rfl, hi2, hb2⟩
    have HB2 : Hid (Below w.heap.size w w2) := HB1.out.trans (hb2.mono HB1.out.size)
    have HI2 : Hid (IntRow w2 w.heap.size (plI xs) v2) := hi2.keep HB1.out.size fun _ _ _ => rfl
    have HXS : Hid (∀ x, spine g n = some x → xs = x.2) := hxs
    obtain ⟨ad2, cap2, rfl, -, -, -⟩ := hi2
    clear hb2 hxs
    cases hs : spine g n with
    | none =>
      have HV2 : Hid (spV g (n : Int) = none) := by rw [Hid, HV.out, hs]
      have e1 : spI none = -1 := rfl
      rw [e1]
      clear hs
      go_wp2_with fail
      go_ret3
      exact out_none HV2.out (by simp [maxLen]) (HB2.out.alloc HB2.out.size _)
    | some x =>
      obtain ⟨f, ws⟩ := x
      obtain rfl : xs = ws := HXS.out _ hs
      have HV2 : Hid (spV g (n : Int) = some (f, xs)) := by rw [Hid, HV.out, hs]
      have e1 : spI (some (f, xs)) = (f : Int) := rfl
      rw [e1]
      have hbn : ¬ ((f : Int) < 0) := by omega
      clear hs
      go_wp2_with fail
      go_ret3
      exact out_some HV2.out HI2.out HB2.out
end Go.Proofs.Ytjdlfpdljmohiaa
/-
  THE PROGRAM's SpineOf.
-/
namespace Go.Proofs.Ytjdlfpdljmohiaa
set_option linter.unusedVariables false
set_option linter.unusedSimpArgs false
open Go.RowKit

set_option maxHeartbeats 1600000 in
theorem implSpine_calls (g : List Ce) (a : Int) (v : Value) (w : World) (hk : CIn w g v) :
    Calls Try.prog 39 #[v, .int .i64 a] w (SpineOut (spV g a) w) := by
  have HK : Hid (CIn w g v) := hk
  obtain ⟨ad, cap, rfl, hl, hm, -⟩ := hk
  unfold maxLen at hm
  go_enter Try.func39, Try.ntmps39
  go_wp2_with fail
  refine (hasCell_calls g a _ _ HK.out).mono ?_
  rintro e w1 ⟨rfl, hb1⟩
  have HB1 : Hid (Below w.heap.size w w1) := hb1
  clear hb1
  cases hh : (graphB g 6 && isAt g.length a) with
  | false =>
    have HV : Hid (spV g a = none) := spV_no (by rintro ⟨h1, h2⟩; rw [h1, isAt_iff.2 h2] at hh; cases hh)
    clear hh
    go_wp2_with fail
    go_ret3
    exact out_none HV.out (by simp [maxLen]) HB1.out
  | true =>
    rw [Bool.and_eq_true, isAt_iff] at hh
    have HG : Hid (graphB g 6 = true ∧ 0 ≤ a ∧ a < g.length) := hh
    clear hh
    obtain ⟨n, rfl⟩ : ∃ n : Nat, a = (n : Int) := ⟨a.toNat, by have := HG.out.2.1; omega⟩
    have hn : n < g.length := by have := HG.out.2.2; omega
    have HV : Hid (spV g (n : Int) = spine g n) := spV_yes HG.out
    go_wp2_with fail
    refine (spineFrom_calls g n _ _ (HK.out.next HB1.out) ⟨6, HG.out.1⟩ hn).mono ?_
    rintro e w2 ⟨v2, rfl, hi2, hb2⟩
    have HB2 : Hid (Below w.heap.size w w2) := HB1.out.trans (hb2.mono HB1.out.size)
    have HI2 : Hid (IntRow w2 w.heap.size (plI (spL (spV g (n : Int)))) v2) := by rw [HV.out]; exact hi2.keep HB1.out.size fun _ _ _ => rfl
    obtain ⟨ad2, cap2, rfl, -, -, -⟩ := hi2
    clear hb2
    rw [← HV.out]
    rw [← HV.out] at HI2
    go_wp2_with fail
    go_ret3
    exact ⟨_, rfl, HI2.out, HB2.out⟩
end Go.Proofs.Ytjdlfpdljmohiaa
