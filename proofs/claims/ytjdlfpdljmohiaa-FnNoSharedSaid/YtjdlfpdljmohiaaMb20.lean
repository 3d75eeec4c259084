/-
  PLAIN: the cells that are read, one for each node; what can be reached and is no indirection is among them.
-/
import Derived.Test.YtjdlfpdljmohiaaMb17
import Derived.Test.YtjdlfpdljmohiaaMb12
import Derived.Test.YtjdlfpdljmohiaaMb9
import Derived.Test.YtjdlfpdljmohiaaMb1
import Derived.Test.YtjdlfpdljmohiaaMb3
import Derived.Deep.LoopGhost
import Derived.Deep.QuietTactic
import Derived.Deep.RegionWith
import Derived.Deep.DeepMust
import Derived.BigQuiet
import Derived.WalkSmall
namespace Go.Proofs.Ytjdlfpdljmohiaa
set_option linter.unusedVariables false
set_option linter.unusedSimpArgs false
open Go.RowKit

/-- the cells that are read for a cell -/
def visT (g : List Ce) : Nat → Nat → List Nat
  | 0, _ => []
  | d + 1, a => match followN g g.length a with
    | none => []
    | some b => b :: (kidsN g b).flatMap (visT g d)
theorem readKids_each {f : Nat → Nat → Option (Tr × Nat)} : ∀ (ks : List Nat) (l : Nat) (ts : List Tr) (l' : Nat), readKids f ks l = some (ts, l') → ∀ k ∈ ks, ∃ l1 t l2, f k l1 = some (t, l2)
  | [], _, _, _, _, k, hk => by simp at hk
  | x :: ks, l, ts, l', h, k, hk => by
    simp only [readKids] at h
    cases hx : f x l with
    | none => rw [hx] at h; simp at h
    | some p =>
      obtain ⟨t, l1⟩ := p
      rw [hx] at h
      simp only at h
      cases hk2 : readKids f ks l1 with
      | none => rw [hk2] at h; simp at h
      | some q =>
        rcases List.mem_cons.1 hk with rfl | hk
        · exact ⟨_, _, _, hx⟩
        · exact readKids_each ks l1 _ _ hk2 k hk
theorem readKids_vis {f : Nat → Nat → Option (Tr × Nat)} {V : Nat → List Nat} (hf : ∀ k l t l', f k l = some (t, l') → (V k).length = 1 + szT t) : ∀ (ks : List Nat) (l : Nat) (ts : List Tr) (l' : Nat), readKids f ks l = some (ts, l') → (ks.flatMap V).length = szL ts
  | [], _, _, _, h => by simp [readKids] at h; obtain ⟨rfl, -⟩ := h; simp [szL]
  | x :: ks, l, ts, l', h => by
    simp only [readKids] at h
    cases hx : f x l with
    | none => rw [hx] at h; simp at h
    | some p =>
      obtain ⟨t, l1⟩ := p
      rw [hx] at h
      simp only at h
      cases hk2 : readKids f ks l1 with
      | none => rw [hk2] at h; simp at h
      | some q =>
        obtain ⟨us, l2⟩ := q
        rw [hk2] at h
        simp only [Option.some.injEq, Prod.mk.injEq] at h
        obtain ⟨rfl, -⟩ := h
        rw [List.flatMap_cons, List.length_append, hf _ _ _ _ hx, readKids_vis hf ks l1 us l2 hk2, szL]
theorem readT_open {g : List Ce} {d a l : Nat} {t : Tr} {l' : Nat} (h : readT g (d + 1) a l = some (t, l')) : ∃ b ts l1 l2, followN g g.length a = some b ∧ readKids (readT g d) (kidsN g b) l1 = some (ts, l2) ∧ t = .node (opAt g b) (g.getD b ⟨0, 0, []⟩).num ts := by
  simp only [readT] at h
  cases hf : followN g g.length a with
  | none => rw [hf] at h; simp at h
  | some b =>
    rw [hf] at h
    cases l with
    | zero => simp at h
    | succ l =>
      simp only at h
      cases hk : readKids (readT g d) (kidsN g b) l with
      | none => rw [hk] at h; simp at h
      | some q =>
        obtain ⟨ts, l2⟩ := q
        rw [hk] at h
        simp only [Option.some.injEq, Prod.mk.injEq] at h
        exact ⟨b, ts, l, l2, rfl, hk, h.1.symm⟩
theorem vis_len (g : List Ce) : ∀ (d a l : Nat) (t : Tr) (l' : Nat), readT g d a l = some (t, l') → (visT g d a).length = 1 + szT t
  | 0, _, _, _, _, h => by simp [readT] at h
  | d + 1, a, l, t, l', h => by
    obtain ⟨b, ts, l1, l2, hf, hk, rfl⟩ := readT_open h
    unfold visT
    rw [hf]
    simp only [List.length_cons]
    rw [readKids_vis (vis_len g d) _ _ _ _ hk, szT_eq, Tr.kids_node]
    omega
theorem vis_head {g : List Ce} {d a b l : Nat} {t : Tr} {l' : Nat} (h : readT g d a l = some (t, l')) (hf : followN g g.length a = some b) : b ∈ visT g d a := by
  cases d with
  | zero => simp [readT] at h
  | succ d => unfold visT; rw [hf]; simp
theorem vis_kids {g : List Ce} : ∀ (d a l : Nat) (t : Tr) (l' : Nat), readT g d a l = some (t, l') → ∀ x ∈ visT g d a, ∀ k ∈ kidsN g x, ∃ b, followN g g.length k = some b ∧ b ∈ visT g d a
  | 0, _, _, _, _, h => by simp [readT] at h
  | d + 1, a, l, t, l', h => by
    obtain ⟨b0, ts, l1, l2, hf, hk, rfl⟩ := readT_open h
    intro x hx k hkx
    unfold visT at hx ⊢
    rw [hf] at hx ⊢
    simp only [List.mem_cons] at hx ⊢
    rcases hx with rfl | hx
    · obtain ⟨l3, t3, l4, h3⟩ := readKids_each _ _ _ _ hk k hkx
      cases d with
      | zero => simp [readT] at h3
      | succ d =>
        obtain ⟨b, ts', l5, l6, hf2, -, -⟩ := readT_open h3
        exact ⟨b, hf2, Or.inr (List.mem_flatMap.2 ⟨k, hkx, vis_head h3 hf2⟩)⟩
    · obtain ⟨q, hq, hxq⟩ := List.mem_flatMap.1 hx
      obtain ⟨l3, t3, l4, h3⟩ := readKids_each _ _ _ _ hk q hq
      obtain ⟨b, hf2, hb⟩ := vis_kids d q l3 t3 l4 h3 x hxq k hkx
      exact ⟨b, hf2, Or.inr (List.mem_flatMap.2 ⟨q, hq, hb⟩)⟩
/-- what can be reached stands for a cell that is read -/
theorem vis_reach {g : List Ce} {n : Int} (hg : graphB g n = true) {d a l : Nat} {t : Tr} {l' : Nat} (ha : a < g.length) (h : readT g d a l = some (t, l')) {x : Nat} (hx : Reach g a x) : x < g.length ∧ ∃ b, followN g g.length x = some b ∧ b ∈ visT g d a := by
  induction hx with
  | root =>
    refine ⟨ha, ?_⟩
    cases d with
    | zero => simp [readT] at h
    | succ d =>
      obtain ⟨b, ts, l1, l2, hf, -, -⟩ := readT_open h
      exact ⟨b, hf, vis_head h hf⟩
  | kid x k hxr hk ih =>
    obtain ⟨hxl, b, hf, hb⟩ := ih
    have hkl := kidsN_lt hg x hxl k hk
    refine ⟨hkl, ?_⟩
    by_cases ho : opAt g x = 11
    · refine ⟨b, ?_, hb⟩
      have ho' : g[x].op = 11 := by unfold opAt at ho; rwa [getD_at _ _ _ hxl] at ho
      obtain ⟨q, hq1, hq2, hq3⟩ := ind_kid hg x hxl ho'
      have hkq : k = q := by
        rw [kidsN_at x hxl, hq1] at hk
        simpa using hk
      subst hkq
      have h1 := follow_enough hg x hxl
      rw [hf] at h1
      unfold followN at h1
      rw [if_pos ho, hq3] at h1
      exact h1
    · rw [fol_self hxl ho] at hf
      cases hf
      exact vis_kids d a l t l' h x hb k hk
theorem vis_mem {g : List Ce} {n : Int} (hg : graphB g n = true) {d a l : Nat} {t : Tr} {l' : Nat} (ha : a < g.length) (h : readT g d a l = some (t, l')) {x : Nat} (hx : Reach g a x) (ho : opAt g x ≠ 11) : x ∈ visT g d a := by
  obtain ⟨hl, b, hf, hb⟩ := vis_reach hg ha h hx
  rw [fol_self hl ho] at hf
  cases hf
  exact hb
theorem nodup_sub : ∀ (l V : List Nat), l.Nodup → (∀ x ∈ l, x ∈ V) → l.length ≤ V.length
  | [], V, _, _ => by simp
  | a :: l, V, hn, hs => by
    have ha := hs a (by simp)
    rw [List.nodup_cons] at hn
    have h1 := nodup_sub l (V.erase a) hn.2 fun x hx => by
      have hne : x ≠ a := fun e => hn.1 (e ▸ hx)
      exact (List.mem_erase_of_ne hne).2 (hs x (by simp [hx]))
    rw [List.length_erase_of_mem ha] at h1
    have := List.length_pos_of_mem ha
    rw [List.length_cons]
    omega
/-- the cells of a list that are no indirections -/
def noInd (g : List Ce) (N : List Nat) : List Nat := N.filter fun a => decide (opAt g a ≠ 11)
theorem noInd_take (g : List Ce) (N : List Nat) (k : Nat) (hk : k < N.length) : (noInd g (N.take (k + 1))).length = (noInd g (N.take k)).length + if opAt g N[k] ≠ 11 then 1 else 0 := by
  unfold noInd
  rw [List.take_succ_eq_append_getElem hk, List.filter_append, List.length_append]
  by_cases h : opAt g N[k] ≠ 11
  · rw [if_pos h]; simp [h]
  · rw [if_neg h]; simp [h]
theorem noInd_le (g : List Ce) (N : List Nat) : (noInd g N).length ≤ N.length := List.length_filter_le _ _
/-- there are no more of them than nodes -/
theorem noInd_nodes {g : List Ce} {n root : Int} {t : Tr} {fl : Nat → Bool} (h : readB g root n = some t) (hfl : ∀ a, fl a = true ↔ Reach g root.toNat a) : (noInd g (numsN fl g.length)).length ≤ 1 + szT t := by
  unfold readB at h
  split at h
  · rename_i hc
    obtain ⟨hg, hr⟩ := hc
    unfold isAt at hr
    simp only [decide_eq_true_eq] at hr
    cases hr2 : readT g 16 root.toNat 60 with
    | none => rw [hr2] at h; simp at h
    | some q =>
      obtain ⟨t', l⟩ := q
      rw [hr2] at h
      simp only [Option.map_some, Option.some.injEq] at h
      subst h
      rw [← vis_len g _ _ _ _ _ hr2]
      refine nodup_sub _ _ ((numsN_sorted fl _).imp (fun h => Nat.ne_of_lt h) |>.filter _) fun x hx => ?_
      unfold noInd at hx
      rw [List.mem_filter] at hx
      have h1 := (numsN_mem fl _ x).1 hx.1
      exact vis_mem hg (by omega) hr2 ((hfl x).1 h1.2) (by simpa using hx.2)
  · cases h
end Go.Proofs.Ytjdlfpdljmohiaa
/-
  THE BEGINNING OF A COUNT (countNodes$1): the node with what it counts itself; nothing that was there is changed.
-/
namespace Go.Proofs.Ytjdlfpdljmohiaa.cntAll
set_option linter.unusedVariables false
set_option linter.unusedSimpArgs false
open Go.RowKit

/-- a function value that tells which nodes are wanted -/
def WantSaid (w0 : World) (vb : Nat) (p : Tr → Bool) : Prop :=
  ∀ (t : Tr) (c : Value) (W : World), Below w0.heap.size w0 W → In W t.kids c → Calls Try.prog 54 #[.agg #[.int .i64 t.op, .int .i64 t.num, c]] W fun e w' => e = .returned (.bool (p t)) ∧ Below W.heap.size W w'

set_option maxRecDepth 100000 in
set_option maxHeartbeats 800000 in
theorem begin_calls {w0 : World} {vb : Nat} {p : Tr → Bool} (hw : WantSaid w0 vb p) (x : Addr) (t : Tr) (wb : Nat) (W : World) (hx : LiesAt W (Lt W.heap.size) x t) (hwb : W.cell? ⟨wb, 0, none⟩ = some (.func (.func 54) #[] #[])) (hb : Below w0.heap.size w0 W) :
    Calls Try.prog 80 #[.pointer (some x), .pointer (some ⟨wb, 0, none⟩)] W fun e w' => e = .returned (.agg #[.pointer (some x), .int .i64 0, .int .i64 ((if p t then 1 else 0 : Nat) : Int)]) ∧ Below W.heap.size W w' := by
  have HW : Hid (WantSaid w0 vb p) := hw
  have HB : Hid (Below w0.heap.size w0 W) := hb
  obtain ⟨bl, off, a, b, c, rfl, hbl, h0, h1, h2, ht⟩ := hx
  obtain ⟨rfl, rfl, -, -, hk⟩ := trOn_iff.1 ht
  have HK : Hid (In W t.kids c) := hk
  obtain ⟨ad, cap, rfl, -, -, -⟩ := hk
  have hbl' : bl < W.heap.size := hbl
  have hwl : wb < W.heap.size := cell_lt hwb
  clear hw hb ht hbl
  have hq : Hid (∀ W', Below w0.heap.size w0 W' → In W' t.kids (.slice ad t.kids.length cap) → Calls Try.prog 54 #[.agg #[.int .i64 t.op, .int .i64 t.num, .slice ad t.kids.length cap]] W' fun e w' => e = .returned (.bool (p t)) ∧ Below W'.heap.size W' w') := fun W' h1 h2 => HW.out t _ W' h1 h2
  cases hp : p t with
  | true =>
    rw [hp] at hq
    clear hp
    go_enter Try.func80, Try.ntmps80
    go_wp2_with fail
    go_region_with ((go_at_call 54; go_must (refine (hq.out _ ?_ ?_).mono ?_); go_must (exact (HB.out.trans ((box_below W _).mono HB.out.size)).drew); go_must (exact (HK.out.next (box_below W _)).drew); go_must (rintro e w2 ⟨rfl, hb2⟩); go_must (have HB2 : Hid (Below (W.heap.size + 1) (W.alloc (.cells #[.pointer none, .int .i64 0, .int .i64 0] 107)) w2) := (by have h := (Below.refl (W.alloc (.cells #[.pointer none, .int .i64 0, .int .i64 0] 107)).heap.size (W.alloc (.cells #[.pointer none, .int .i64 0, .int .i64 0] 107))).drew.trans hb2; rw [Deep.nblk_alloc] at h; exact h)); clear hb2))
    all_goals
      have c0 := (HB2.out.cell (p := ⟨W.heap.size, 0, none⟩) (Nat.lt_succ_self _)).trans (box_cell W _ _ 0 _ rfl)
      have c1 := (HB2.out.cell (p := ⟨W.heap.size, 1, none⟩) (Nat.lt_succ_self _)).trans (box_cell W _ _ 1 _ rfl)
      have c2 := (HB2.out.cell (p := ⟨W.heap.size, 2, none⟩) (Nat.lt_succ_self _)).trans (box_cell W _ _ 2 _ rfl)
      have hf := fun i => frz_of_blk (w := w2) (b := W.heap.size) ((HB2.out.block _ (Nat.lt_succ_self _)).trans (Deep.blk_alloc_new W _)) i
      have HB3 : Hid (Below W.heap.size W w2) := (box_below W _).trans (HB2.out.mono (Nat.le_succ _))
      go_wp2_with fail
      exact bodyPost_ret (v := .agg #[.pointer (some ⟨bl, off, none⟩), .int .i64 0, .int .i64 1]) (by simp [results, Try.results80, go_sem, c0, c1, c2]) rfl ⟨by simp, ((HB3.out.setCell (by simp) _).setCell (by simp) _).setCell (by simp) _⟩
  | false =>
    rw [hp] at hq
    clear hp
    go_enter Try.func80, Try.ntmps80
    go_wp2_with fail
    go_region_with ((go_at_call 54; go_must (refine (hq.out _ ?_ ?_).mono ?_); go_must (exact (HB.out.trans ((box_below W _).mono HB.out.size)).drew); go_must (exact (HK.out.next (box_below W _)).drew); go_must (rintro e w2 ⟨rfl, hb2⟩); go_must (have HB2 : Hid (Below (W.heap.size + 1) (W.alloc (.cells #[.pointer none, .int .i64 0, .int .i64 0] 107)) w2) := (by have h := (Below.refl (W.alloc (.cells #[.pointer none, .int .i64 0, .int .i64 0] 107)).heap.size (W.alloc (.cells #[.pointer none, .int .i64 0, .int .i64 0] 107))).drew.trans hb2; rw [Deep.nblk_alloc] at h; exact h)); clear hb2))
    all_goals
      have c0 := (HB2.out.cell (p := ⟨W.heap.size, 0, none⟩) (Nat.lt_succ_self _)).trans (box_cell W _ _ 0 _ rfl)
      have c1 := (HB2.out.cell (p := ⟨W.heap.size, 1, none⟩) (Nat.lt_succ_self _)).trans (box_cell W _ _ 1 _ rfl)
      have c2 := (HB2.out.cell (p := ⟨W.heap.size, 2, none⟩) (Nat.lt_succ_self _)).trans (box_cell W _ _ 2 _ rfl)
      have hf := fun i => frz_of_blk (w := w2) (b := W.heap.size) ((HB2.out.block _ (Nat.lt_succ_self _)).trans (Deep.blk_alloc_new W _)) i
      have HB3 : Hid (Below W.heap.size W w2) := (box_below W _).trans (HB2.out.mono (Nat.le_succ _))
      go_wp2_with fail
      exact bodyPost_ret (v := .agg #[.pointer (some ⟨bl, off, none⟩), .int .i64 0, .int .i64 0]) (by simp [results, Try.results80, go_sem, c0, c1, c2]) rfl ⟨by simp, ((HB3.out.setCell (by simp) _).setCell (by simp) _).setCell (by simp) _⟩
end Go.Proofs.Ytjdlfpdljmohiaa.cntAll
/-
  THE PROGRAM's countNodes: how many nodes of a tree are wanted; nothing that was there is changed.
-/
namespace Go.Proofs.Ytjdlfpdljmohiaa.cntAll
set_option linter.unusedVariables false
set_option linter.unusedSimpArgs false
open Go.RowKit

/-- what holds at the head of the loop -/
def TRel (wx : World) (B : Nat) (p : Tr → Bool) (a : Tr) (n : Nat) (v : Value) (wr : World) : Prop :=
  ∃ (l : List Fr) (f : Fr) (M : Mc), n = remP wx M (l ++ [f]) ∧ TInv wx (Pl wx) p M (l ++ [f]) ∧ HeadIs a (l ++ [f]) ∧ wr.ownsRow (B + 3) 107 3 v (l.length + 1) (frCells (l ++ [f])) ∧ (∃ g cap, v = .slice (some ⟨g, 0, none⟩) (l.length + 1) cap) ∧
    PMap embP wr (B + 2) (fun k => ∃ s, LiesAt wx (Pl wx) k s) M ∧ Below wx.heap.size wx wr

theorem zeroInt (w : World) : (zeroValue 3).run Try.prog w = .ok (.int .i64 0) w := by kernel_rfl
theorem ptrKc : PKey Try.prog 61 embP PlainAt := by
  obtain ⟨i, z, hi, -, hs, -⟩ := infoE3
  exact ptr_key Try.underlying61 hi (by omega)
theorem infoV : ∃ i z, Try.prog.info? 107 = some i ∧ i.zero = some z ∧ i.size = 3 ∧ i.bytes = 24 ∧ z.cells.size = 3 := by
  have h : (Try.prog.info? 107).map (fun i => (i.zero, i.size, i.bytes)) = some (some (.agg #[.pointer none, .int .i64 0, .int .i64 0]), 3, 24) := by kernel_rfl
  obtain ⟨i, hi, hzz⟩ := Option.map_eq_some_iff.1 h
  simp only [Prod.mk.injEq] at hzz
  obtain ⟨hz, hs, hb⟩ := hzz
  exact ⟨i, _, hi, hz, hs, hb, rfl⟩

set_option maxRecDepth 100000 in
set_option maxHeartbeats 3200000 in
theorem implCount_calls (vb : Nat) (p : Tr → Bool) (a : Tr) (c : Value) (w : World) (hw : WantSaid w vb p) (hc : InP w a.kids c) (ha : I64 a.op ∧ I64 a.num) (hz : szT a ≤ 1099511627776) :
    Calls Try.prog 53 #[.agg #[.int .i64 a.op, .int .i64 a.num, c], .func (.func 54) #[] #[]] w fun e w' => e = .returned (.int .i64 (cntT p a : Int)) ∧ Below w.heap.size w w' := by
  have HW : Hid (WantSaid w vb p) := hw
  have HC : Hid (InP w a.kids c) := hc
  have hmm := @run_makeMap Try.prog
  have hmf : ∀ (fn : Fn) (first cap : Array Value) (w : World), (Instr.makeFunc fn first cap).run Try.prog w = .ok (.func fn first cap) w := fun _ _ _ _ => rfl
  obtain ⟨ad, cap, rfl, -, -, -⟩ := hc
  obtain ⟨wx, hwx⟩ : ∃ wx : World, wx = (w.alloc (.cells #[.int .i64 a.op, .int .i64 a.num, .slice ad a.kids.length cap] 30)).alloc (.cells #[.func (.func 54) #[] #[]] 75) := ⟨_, rfl⟩
  have hxs : wx.heap.size = w.heap.size + 2 := by rw [hwx, Deep.nblk_alloc, Deep.nblk_alloc]
  have HX : Hid (wx = (w.alloc (.cells #[.int .i64 a.op, .int .i64 a.num, .slice ad a.kids.length cap] 30)).alloc (.cells #[.func (.func 54) #[] #[]] 75)) := hwx
  have HXS : Hid (wx.heap.size = w.heap.size + 2) := hxs
  have hbx : Below w.heap.size w wx := by rw [hwx]; exact (box_below w _).trans ((box_below _ _).mono (by simp))
  have HBX : Hid (Below w.heap.size w wx) := hbx
  have hla : LiesAt wx (Pl wx) ⟨w.heap.size, 0, none⟩ a := by
    refine ⟨w.heap.size, 0, .int .i64 a.op, .int .i64 a.num, .slice ad a.kids.length cap, rfl, ⟨by omega, #[.int .i64 a.op, .int .i64 a.num, .slice ad a.kids.length cap], 30, ?_⟩, ?_, ?_, ?_, trOn_iff.2 ⟨rfl, rfl, ha.1, ha.2, HC.out.nextP hbx⟩⟩
    · rw [hwx, Deep.blk_alloc_lt _ _ _ (by simp)]; exact Deep.blk_alloc_new _ _
    · rw [hwx]; exact old_cell (box_cell w _ _ 0 _ rfl) _
    · rw [hwx]; exact old_cell (box_cell w _ _ 1 _ rfl) _
    · rw [hwx]; exact old_cell (box_cell w _ _ 2 _ rfl) _
  have HLA : Hid (LiesAt wx (Pl wx) ⟨w.heap.size, 0, none⟩ a) := hla
  have HWB : Hid (wx.cell? ⟨w.heap.size + 1, 0, none⟩ = some (.func (.func 54) #[] #[])) := by
    have h := box_cell (w.alloc (.cells #[.int .i64 a.op, .int .i64 a.num, .slice ad a.kids.length cap] 30)) #[.func (.func 54) #[] #[]] 75 0 _ rfl
    rw [Deep.nblk_alloc, ← hwx] at h
    exact h
  have hbg : ∀ (x : Addr) (t : Tr) (n : Nat) (W : World), n = (if p t then 1 else 0) → Below wx.heap.size wx W → LiesAt wx (Pl wx) x t → Calls Try.prog 80 #[.pointer (some x), .pointer (some ⟨w.heap.size + 1, 0, none⟩)] W fun e w' => e = .returned (.agg #[.pointer (some x), .int .i64 0, .int .i64 (n : Int)]) ∧ Below W.heap.size W w' := fun x t n W hn hb hx => by
    rw [hn]
    exact begin_calls HW.out x t _ W (hx.carry hb) ((hb.cell (cell_lt HWB.out)).trans HWB.out) (HBX.out.trans (hb.mono HBX.out.size))
  have HBG : Hid _ := hbg
  obtain ⟨n0, hn0⟩ : ∃ n : Nat, n = (if p a then 1 else 0) := ⟨_, rfl⟩
  have HN0 : Hid (n0 = (if p a then 1 else 0)) := hn0
  clear ha hwx hxs hbx hla hw hbg hn0
  go_enter Try.func53, Try.ntmps53
  go_wp2_with (go_at_call 80; go_must (rw [← HX.out]); go_must (refine (HBG.out _ a n0 _ HN0.out (box_below wx _) HLA.out).mono ?_); go_must (rintro e w1 ⟨rfl, hb1⟩); go_must (have HB1 : Hid (Below (wx.alloc (.map #[] 0)).heap.size (wx.alloc (.map #[] 0)) w1) := hb1); clear hb1)
  clear hmm hmf
  obtain ⟨iE, zE, hiE, hzE, hsE, hbE, hcE⟩ := infoV
  have HE : Hid (Try.prog.info? 107 = some iE ∧ iE.zero = some zE ∧ iE.size = 3 ∧ iE.bytes = 24 ∧ zE.cells.size = 3) := ⟨hiE, hzE, hsE, hbE, hcE⟩
  clear hiE hzE hsE hbE hcE
  have HZ1 : Hid (w.heap.size + 3 ≤ w1.heap.size) := by have := HB1.out.size; rw [Deep.nblk_alloc, HXS.out] at this; exact this
  have HB2 : Hid (Below wx.heap.size wx w1) := (box_below wx _).trans (HB1.out.mono (by rw [Deep.nblk_alloc]; omega))
  go_loopg [7] (remP wx (fun _ => none) [⟨⟨w.heap.size, 0, none⟩, a, 0, n0⟩]) (fun n v wr => TRel wx w.heap.size p a n v wr)
  case atStart =>
    refine ⟨[], ⟨⟨w.heap.size, 0, none⟩, a, 0, n0⟩, fun _ => none, rfl, ?_, ⟨_, [], rfl, rfl⟩, ?_, ⟨_, _, rfl⟩, ?_, HB2.out.trans ((box_below w1 _).mono HB2.out.size)⟩
    · have := TInv.start HLA.out p
      rw [← HN0.out] at this
      exact this
    · exact ⟨rfl, Or.inr ⟨_, 1, _, rfl, HZ1.out, Deep.blk_alloc_new _ _, Nat.le_refl _, by unfold maxLen; omega, rfl, rfl⟩⟩
    · have h := PMap.made (emb := embP) wx (fun k => ∃ s, LiesAt wx (Pl wx) k s)
      rw [HXS.out] at h
      refine h.keep ?_
      rw [Deep.blk_alloc_lt _ _ _ (by have := HZ1.out; omega)]
      exact HB1.out.block _ (by rw [Deep.nblk_alloc, HXS.out]; omega)
  case round =>
    obtain ⟨l, f, M, rfl, hinv, hhd, hown, ⟨g, cp, rfl⟩, hmap, hb⟩ := hrel
    have HI : Hid (TInv wx (Pl wx) p M (l ++ [f])) := hinv
    have HH : Hid (HeadIs a (l ++ [f])) := hhd
    have HP : Hid (PMap embP wr (w.heap.size + 2) (fun k => ∃ s, LiesAt wx (Pl wx) k s) M) := hmap
    have HB : Hid (Below wx.heap.size wx wr) := hb
    have HO : Hid (wr.ownsRow (w.heap.size + 3) 107 3 (.slice (some ⟨g, 0, none⟩) (l.length + 1) cp) (l.length + 1) (frCells (l ++ [f]))) := hown
    have hle := hhd.le hinv.2.1
    have hft := hle.1 f (by simp)
    have hll := hle.2
    rw [List.length_append] at hll
    simp only [List.length_cons, List.length_nil] at hll
    obtain ⟨hx, hnx, hsm⟩ := hinv.1 f (by simp)
    have hsm2 : f.sm ≤ 1 + szT f.t := by
      rw [hsm]
      have := cntL_take_le p f.t.kids f.nx
      rw [szT_eq]
      split <;> omega
    obtain ⟨hcp, hcm⟩ : l.length + 1 ≤ cp ∧ cp ≤ maxLen := by
      obtain ⟨g2, c2, e2, -, -, h1, h2⟩ := own_form hown (by omega)
      cases e2
      exact ⟨h1, h2⟩
    unfold maxLen at hcm
    have HX1 : Hid (LiesAt wx (Pl wx) f.x f.t) := hx
    obtain ⟨xb, xo, x0, x1, x2, hxe, hxp, cx0, cx1, cx2, htx⟩ := hx
    obtain ⟨rfl, rfl, -, -, hkx⟩ := trOn_iff.1 htx
    have HKX : Hid (KidsOn wx (Pl wx) f.t.kids x2) := hkx
    obtain ⟨adx, capx, rfl, -, hmx, -⟩ := hkx
    unfold maxLen at hmx
    obtain ⟨e0, e1, e2⟩ := frCells_top l f
    rw [hxe] at e0
    have p0 := own_at HO.out _ _ e0
    have p1 := own_at HO.out _ _ e1
    have p2 := own_at HO.out _ _ e2
    have q2 := (HB.out.cell (p := ⟨xb, xo + 2, none⟩) hxp.1).trans cx2
    have fz := fun j => hown.frozenAt j
    have HXE : Hid (f.x = ⟨xb, xo, none⟩ ∧ xb < wx.heap.size ∧ wx.cell? ⟨xb, xo + 2, none⟩ = some (.slice adx f.t.kids.length capx)) := ⟨hxe, hxp.1, cx2⟩
    have HSM : Hid (f.sm = (if p f.t then 1 else 0) + cntL p (f.t.kids.take f.nx)) := hsm
    have hkl : f.t.kids.length ≤ szT a := by rw [szT_eq, szL_sum] at hft; omega
    have HGG : Hid (w.heap.size + 3 ≤ g ∧ g < wr.heap.size) := by
      obtain ⟨g2, c2, e2, h1, h2, -⟩ := own_form hown (by omega)
      cases e2
      exact ⟨h1, h2⟩
    have hmb : w.heap.size + 2 < wr.heap.size := hmap.lt
    clear hinv hhd hown hmap hb hle hxe hxp cx0 cx1 cx2 htx e0 e1 e2 hsm
    by_cases hfin : f.nx = f.t.kids.length
    · have t1 : ((f.nx : Int) == f.t.kids.length) = true := by simp [hfin]
      have HF : Hid (f.nx = f.t.kids.length) := hfin
      clear hfin
      go_wp2_with fail
      go_quiet (fail)
      rename_i nq
      by_cases hl : l = []
      · have t2 : ((l.length : Int) + 1 == 1) = true := by simp [hl]
        have HR : Hid (f.sm = cntT p a) := by
          have h1 := (HI.out.pop HF.out).2.1
          subst hl
          rw [HH.out.one] at h1
          exact h1
        clear hl
        go_wp2_with fail
        go_ret
        exact ⟨ret_int (by rw [HR.out]), HBX.out.trans (below_drewN (HB.out.mono (by have := HXS.out; omega)) _)⟩
      · have t2 : ((l.length : Int) + 1 == 1) = false := by
          have : l.length ≠ 0 := fun h => hl (List.eq_nil_of_length_eq_zero h)
          simp
          omega
        have HPq : PMap embP (wr.drewN (nq + 1)) (w.heap.size + 2) (fun k => ∃ s, LiesAt wx (Pl wx) k s) M := HP.out.keep rfl
        have HBq : Below wx.heap.size wx (wr.drewN (nq + 1)) := below_drewN HB.out _
        obtain ⟨o, hrun, hpn⟩ := HPq.store ptrKc Try.underlying109 (fun y hy => by obtain ⟨s, hs⟩ := hy; exact hs.plain HBq) f.x (HX1.out.plain HBq) ⟨_, HX1.out⟩ (.int .i64 (f.sm : Int))
        simp only [embP] at hrun
        rw [HXE.out.1] at hrun
        have HV : Hid (TRel wx w.heap.size p a (remP wx (pput M f.x (.int .i64 (f.sm : Int))) l) (.slice (some ⟨g, 0, none⟩) l.length cp) { wr.drewN (nq + 1) with heap := (wr.drewN (nq + 1)).heap.setIfInBounds (w.heap.size + 2) o } ∧ remP wx (pput M f.x (.int .i64 (f.sm : Int))) l < remP wx M (l ++ [f])) := by
          obtain ⟨i1, -, i3⟩ := HI.out.pop HF.out
          refine ⟨?_, i3⟩
          have hh := HH.out.init hl
          rcases List.eq_nil_or_concat l with hnil | ⟨l', f', he⟩
          · exact absurd hnil hl
          rw [List.concat_eq_append] at he
          have hll' : l.length = l'.length + 1 := by rw [he]; simp
          have h1 := HO.out
          rw [frCells_snoc] at h1
          have h2 := own_cut (m := l.length) h1 (frCells_length l) (by omega)
          have h3 := own_keep h2 (w' := { wr.drewN (nq + 1) with heap := (wr.drewN (nq + 1)).heap.setIfInBounds (w.heap.size + 2) o }) (fun k hk _ => set_other_block (wr.drewN (nq + 1)) _ o (by omega))
          rw [hll']
          rw [hll'] at h3
          rw [he] at i1 hh h3 ⊢
          exact ⟨l', f', _, rfl, i1, hh, h3, ⟨_, _, rfl⟩, hpn, HBq.trans (set_below _ _ o (by have := HXS.out; omega))⟩
        clear hl hpn HPq HBq
        go_wp2_with fail
        go_region
        all_goals
          go_wp2_with fail
          go_roundg (remP wx (pput M f.x (.int .i64 (f.sm : Int))) l)
          case rel => exact HV.out.1
          case measure => exact HV.out.2
    · have t1 : ((f.nx : Int) == f.t.kids.length) = false := by simp; omega
      have hlt : f.nx < f.t.kids.length := by omega
      obtain ⟨_, _, he, -, -, hr⟩ := HKX.out
      cases he
      rcases hr with hnil | ⟨xkb, xko, rfl, hxk, hrx⟩
      · rw [hnil] at hlt; simp at hlt
      have HLZ : Hid (LiesAt wx (Pl wx) ⟨xkb, xko + f.nx * 3, none⟩ f.t.kids[f.nx]) := RowOn.liesAt hlt hxk hrx
      have HAZ : Hid (kidAddr wx f.x f.nx = ⟨xkb, xko + f.nx * 3, none⟩) := KidAt.addr ⟨xb, xo, xkb, xko, _, _, HXE.out.1, HXE.out.2.2, rfl⟩
      have HLT : Hid (f.nx < f.t.kids.length) := hlt
      have hpl : ∀ n, PlainAt (wr.drewN n) ⟨xkb, xko + f.nx * 3, none⟩ := fun n => HLZ.out.plain (below_drewN HB.out n)
      have hK2 : ∀ n y, (∃ s, LiesAt wx (Pl wx) y s) → PlainAt (wr.drewN n) y := fun n y hy => by obtain ⟨s, hs⟩ := hy; exact hs.plain (below_drewN HB.out n)
      have hlook := fun n => ((HP.out.keep (w' := wr.drewN n) rfl).look ptrKc Try.underlying109 (hK2 n) (zeroInt _) ⟨xkb, xko + f.nx * 3, none⟩ (hpl n)).2
      simp only [embP] at hlook
      have HPL : Hid (∀ n, PlainAt (wr.drewN n) ⟨xkb, xko + f.nx * 3, none⟩) := hpl
      have HK2 : Hid (∀ n y, (∃ s, LiesAt wx (Pl wx) y s) → PlainAt (wr.drewN n) y) := hK2
      clear hrx hxk hfin hpl hK2
      cases hM : M ⟨xkb, xko + f.nx * 3, none⟩ with
      | some v =>
        obtain ⟨cn, hcn⟩ : ∃ cn : Nat, cn = cntT p f.t.kids[f.nx] := ⟨_, rfl⟩
        obtain ⟨hv, hi2, hm2⟩ : v = .int .i64 (cn : Int) ∧ TInv wx (Pl wx) p M (l ++ [⟨f.x, f.t, f.nx + 1, f.sm + cn⟩]) ∧ remP wx M (l ++ [⟨f.x, f.t, f.nx + 1, f.sm + cn⟩]) < remP wx M (l ++ [f]) := by
          rw [hcn]
          exact HI.out.found hlt (v := v) (by rw [HAZ.out]; exact hM)
        subst hv
        have hcl : cn ≤ 1 + szT f.t := by
          have h1 := cntT_le p f.t.kids[f.nx]
          have h2 := szT_lt_szL f.t.kids f.nx hlt
          rw [← szT_eq] at h2
          omega
        rw [hM] at hlook
        simp only [Option.getD_some, Option.isSome_some] at hlook
        have HI2 : Hid (TInv wx (Pl wx) p M (l ++ [⟨f.x, f.t, f.nx + 1, f.sm + cn⟩]) ∧ remP wx M (l ++ [⟨f.x, f.t, f.nx + 1, f.sm + cn⟩]) < remP wx M (l ++ [f])) := ⟨hi2, hm2⟩
        have t3 : ((cn : Int) == -1) = false := by simp <;> omega
        clear hM hcn hi2 hm2
        go_wp2_with fail
        have HV : Hid (∀ n, TRel wx w.heap.size p a (remP wx M (l ++ [⟨f.x, f.t, f.nx + 1, f.sm + cn⟩])) (.slice (some ⟨g, 0, none⟩) (l.length + 1) cp) (((wr.drewN n).setCell ⟨g, l.length * 3 + 2, none⟩ (.int .i64 ((f.sm : Int) + (cn : Int)))).setCell ⟨g, l.length * 3 + 1, none⟩ (.int .i64 ((f.nx : Int) + 1)))) := by
          intro n
          have h1 : (wr.drewN n).ownsRow (w.heap.size + 3) 107 3 (.slice (some ⟨g, 0, none⟩) (l.length + 1) cp) (l.length + 1) (frCells (l ++ [f])) := own_keep HO.out (fun k _ _ => rfl)
          have h2 := ((h1.stored (l.length * 3 + 2) (.int .i64 ((f.sm : Int) + (cn : Int)))).1.stored (l.length * 3 + 1) (.int .i64 ((f.nx : Int) + 1))).1
          have h3 := frCells_set l f (f.nx + 1) (f.sm + cn)
          push_cast at h3
          rw [h3] at h2
          refine ⟨l, ⟨f.x, f.t, f.nx + 1, f.sm + cn⟩, M, rfl, HI2.out.1, HH.out.last rfl, h2, ⟨_, _, rfl⟩, (HP.out.keep (w' := wr.drewN n) rfl).keep ?_, ?_⟩
          · exact (Below.heap_setCell _ _ _ _ (by have := HGG.out.1; show w.heap.size + 2 ≠ g; omega)).trans (Below.heap_setCell _ _ _ _ (by have := HGG.out.1; show w.heap.size + 2 ≠ g; omega))
          · exact ((below_drewN HB.out n).setCell (by have := HGG.out.1; have := HXS.out; show wx.heap.size ≤ g; omega) _).setCell (by have := HGG.out.1; have := HXS.out; show wx.heap.size ≤ g; omega) _
        go_quiet (fail)
        go_wp2_with fail
        go_quiet (fail)
        go_wp2_with fail
        go_roundg (remP wx M (l ++ [⟨f.x, f.t, f.nx + 1, f.sm + cn⟩]))
        case rel => exact HV.out _
        case measure => exact HI2.out.2
      | none =>
        obtain ⟨n1, hn1⟩ : ∃ n : Nat, n = (if p f.t.kids[f.nx] then 1 else 0) := ⟨_, rfl⟩
        have HN1 : Hid (n1 = (if p f.t.kids[f.nx] then 1 else 0)) := hn1
        have HI2 : Hid (TInv wx (Pl wx) p (pput M ⟨xkb, xko + f.nx * 3, none⟩ (.int .i64 (-1))) (l ++ [f] ++ [⟨⟨xkb, xko + f.nx * 3, none⟩, f.t.kids[f.nx], 0, n1⟩]) ∧ remP wx (pput M ⟨xkb, xko + f.nx * 3, none⟩ (.int .i64 (-1))) (l ++ [f] ++ [⟨⟨xkb, xko + f.nx * 3, none⟩, f.t.kids[f.nx], 0, n1⟩]) < remP wx M (l ++ [f])) := by
          have h := HI.out.push hlt (by rw [HAZ.out]; exact hM)
          rw [HAZ.out] at h
          rw [hn1]
          exact h
        rw [hM] at hlook
        simp only [Option.getD_none, Option.isSome_none] at hlook
        clear hM hn1
        go_wp2_with fail
        go_quiet (fail)
        go_wp2_with fail
        go_quiet (fail)
        go_wp2_with (first
          | (at_mapUpdate; go_must (refine wpList_store_v _ rfl _ _ _ 109 rfl 61 3 ptrKc Try.underlying109 (w.heap.size + 2) _ M rfl (HP.out.keep rfl) (HK2.out _) ⟨xkb, xko + f.nx * 3, none⟩ rfl (HPL.out _) ⟨_, HLZ.out⟩ (.int .i64 (-1)) rfl ?_); go_must (intro w1 hp hg hz1); go_must (have HP1 : Hid (PMap embP w1 (w.heap.size + 2) (fun k => ∃ s, LiesAt wx (Pl wx) k s) (pput M ⟨xkb, xko + f.nx * 3, none⟩ (.int .i64 (-1)))) := hp); go_must (have HX3 : Hid (∀ k, k < wr.heap.size → k ≠ w.heap.size + 2 → w1.heap[k]? = wr.heap[k]?) := fun k h1 h2 => hg.block k h1 (by simp; omega)); go_must (have HZ3 : Hid (w1.heap.size = wr.heap.size) := hz1); go_must (have HB1 : Hid (Below wx.heap.size wx w1) := ⟨hg.os.trans HB.out.os, hg.tape.trans HB.out.tape, hg.output.trans HB.out.output, Nat.le_trans HB.out.size (Nat.le_of_eq hz1.symm), fun k hk => (hg.block k (Nat.lt_of_lt_of_le hk HB.out.size) (by have := HXS.out; simp; omega)).trans (HB.out.block k hk)⟩); clear hp hg hz1 hlook)
          | (go_at_call 80; go_must (refine (HBG.out ⟨xkb, xko + f.nx * 3, none⟩ f.t.kids[f.nx] n1 _ HN1.out HB1.out HLZ.out).mono ?_); go_must (rintro e w2 ⟨rfl, hb2⟩); go_must (have HB2' : Hid (Below w1.heap.size w1 w2) := hb2); go_must (have hz2 : wr.heap.size ≤ w2.heap.size := by have := hb2.size; have := HZ3.out; omega); clear hb2)
          | (at_builtin; go_must (refine wpList_append_own _ rfl _ _ 110 rfl (w.heap.size + 3) 107 iE zE 3 24 Try.underlying110 HE.out.1 HE.out.2.1 HE.out.2.2.1 HE.out.2.2.2.1 HE.out.2.2.2.2 (by decide) _ _ _ rfl (own_keep (w := wr) HO.out (fun k h1 h2 => ((Deep.blk_alloc_lt _ _ k (by omega)).trans (HB2'.out.block k (by have := HZ3.out; omega))).trans (HX3.out k h2 (by omega)))) ⟨w2.heap.size, 0, none⟩ 1 1 [.pointer (some ⟨xkb, xko + f.nx * 3, none⟩), .int .i64 0, .int .i64 (n1 : Int)] rfl rfl (fun j u hu => box2_cell w2 _ _ j u (by simpa using hu)) (by simp [Value.oneCell']) (by unfold maxLen; omega) (by omega) (by rw [Deep.nblk_alloc]; omega) ?_); go_must (intro v' w3 hown' hgrow hnil); go_must (have HO3 : Hid (w3.ownsRow (w.heap.size + 3) 107 3 v' (l.length + 1 + 1) (frCells (l ++ [f]) ++ [.pointer (some ⟨xkb, xko + f.nx * 3, none⟩), .int .i64 0, .int .i64 (n1 : Int)])) := hown'); go_must (have HB3 : Hid (∀ k, k < wr.heap.size → k < w.heap.size + 3 → w3.heap[k]? = w1.heap[k]?) := fun k h1 h2 => ((hgrow.block k (by rw [Deep.nblk_alloc]; omega) (fun e => by have := own_block HO.out e; omega)).trans (Deep.blk_alloc_lt _ _ k (by omega))).trans (HB2'.out.block k (by have := HZ3.out; omega))); go_must (have HB4 : Hid (Below wx.heap.size wx w3) := ⟨(by rw [hgrow.os]; exact HB2'.out.os.trans HB1.out.os), (by rw [hgrow.tape]; exact HB2'.out.tape.trans HB1.out.tape), (by rw [hgrow.output]; exact HB2'.out.output.trans HB1.out.output), Nat.le_trans HB1.out.size (Nat.le_trans HB2'.out.size (by have := hgrow.size; rw [Deep.nblk_alloc] at this; omega)), fun k hk => (HB3.out k (Nat.lt_of_lt_of_le hk HB.out.size) (by have := HXS.out; omega)).trans (HB1.out.block k hk)⟩); go_must (obtain ⟨g3, c3, rfl, -⟩ := own_form hown' (by omega)); clear hown' hgrow hnil))
        go_roundg (remP wx (pput M ⟨xkb, xko + f.nx * 3, none⟩ (.int .i64 (-1))) (l ++ [f] ++ [⟨⟨xkb, xko + f.nx * 3, none⟩, f.t.kids[f.nx], 0, n1⟩]))
        case rel =>
          refine ⟨l ++ [f], ⟨⟨xkb, xko + f.nx * 3, none⟩, f.t.kids[f.nx], 0, n1⟩, _, rfl, HI2.out.1, HH.out.snoc _, ?_, ⟨g3, c3, by simp⟩, HP1.out.keep (HB3.out _ hmb (by omega)), HB4.out⟩
          rw [frCells_snoc]
          simpa using HO3.out
        case measure => exact HI2.out.2
end Go.Proofs.Ytjdlfpdljmohiaa.cntAll
/-
  THE PROGRAM's SizeOf: how many nodes a tree has; nothing that was there is changed.
-/
namespace Go.Proofs.Ytjdlfpdljmohiaa
set_option linter.unusedVariables false
set_option linter.unusedSimpArgs false
open Go.RowKit

set_option maxHeartbeats 400000 in
theorem want_all (w0 : World) (vb : Nat) : cntAll.WantSaid w0 vb (fun _ => true) := by
  intro t c W hb hk
  obtain ⟨ad, cap, rfl, -, -, -⟩ := hk
  clear hb
  go_enter Try.func54, Try.ntmps54
  go_wp2_with fail
  go_ret
  exact ⟨rfl, box_below _ _⟩

set_option maxHeartbeats 400000 in
theorem implSize_calls (a : Tr) (c : Value) (w : World) (hc : InP w a.kids c) (ha : I64 a.op ∧ I64 a.num) (hz : szT a ≤ 1099511627776) :
    Calls Try.prog 26 #[.agg #[.int .i64 a.op, .int .i64 a.num, c]] w fun e w' => e = .returned (.int .i64 (1 + (szT a : Int))) ∧ Below w.heap.size w w' := by
  have HC : Hid (InP w a.kids c) := hc
  obtain ⟨ad, cap, rfl, -, -, -⟩ := hc
  have HV : Hid (((cntT (fun _ => true) a : Nat) : Int) = 1 + (szT a : Int)) := by unfold Hid; rw [cntT_all]; push_cast; rfl
  go_enter Try.func26, Try.ntmps26
  go_wp2_with fail
  refine (cntAll.implCount_calls 0 (fun _ => true) a _ _ (want_all _ 0) (HC.out.nextP (box_below _ _)) ha hz).mono ?_
  rintro e w1 ⟨rfl, hb1⟩
  have HB1 : Hid (Below w.heap.size w w1) := (box_below w _).trans (hb1.mono (by rw [Deep.nblk_alloc]; omega))
  rw [HV.out]
  clear hb1
  go_wp2_with fail
  go_ret
  exact ⟨rfl, HB1.out⟩
end Go.Proofs.Ytjdlfpdljmohiaa
