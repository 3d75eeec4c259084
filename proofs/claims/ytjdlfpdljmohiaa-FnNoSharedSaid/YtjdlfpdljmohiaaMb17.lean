/-
  AN EXPRESSION IN A BOX: a tree whose top lies in a block of its own, in plain blocks.
-/
import Derived.Test.YtjdlfpdljmohiaaMb13
import Derived.Test.YtjdlfpdljmohiaaMb14
import Derived.Test.YtjdlfpdljmohiaaMb12
import Derived.Test.YtjdlfpdljmohiaaMb11
import Derived.Test.YtjdlfpdljmohiaaMb9
import Derived.Test.YtjdlfpdljmohiaaMb10
import Derived.Deep.DeepCutAuto
import Derived.Deep.RegionWith
import Derived.Test.YtjdlfpdljmohiaaMb2
import Derived.Deep.RegionHeld3
import Derived.Deep.RegionLaw
import Derived.IntWalk
namespace Go.Proofs.Ytjdlfpdljmohiaa
set_option linter.unusedVariables false
set_option linter.unusedSimpArgs false
open Go.RowKit

def BoxT (w : World) (X : Nat) (t : Tr) (v : Value) : Prop := w.heap[X]? = some (.cells #[.int .i64 t.op, .int .i64 t.num, v] 30) ∧ InP w t.kids v ∧ I64 t.op ∧ I64 t.num
theorem BoxT.lt {w : World} {X : Nat} {t : Tr} {v : Value} (h : BoxT w X t v) : X < w.heap.size := (Array.getElem?_eq_some_iff.1 h.1).1
theorem BoxT.next {w w' : World} {X : Nat} {t : Tr} {v : Value} (h : BoxT w X t v) (hb : Below w.heap.size w w') : BoxT w' X t v := ⟨(hb.block _ h.lt).trans h.1, h.2.1.nextP hb, h.2.2⟩
theorem BoxT.new {w : World} {t : Tr} {v : Value} (hk : InP w t.kids v) (hi : I64 t.op ∧ I64 t.num) : BoxT (w.alloc (.cells #[.int .i64 t.op, .int .i64 t.num, v] 30)) w.heap.size t v := ⟨Deep.blk_alloc_new _ _, hk.nextP (box_below _ _), hi⟩
theorem BoxT.cells {w : World} {X : Nat} {t : Tr} {v : Value} (h : BoxT w X t v) : w.cell? ⟨X, 0, none⟩ = some (.int .i64 t.op) ∧ w.cell? ⟨X, 1, none⟩ = some (.int .i64 t.num) ∧ w.cell? ⟨X, 2, none⟩ = some v := ⟨cell_of_blk h.1 0 _ rfl, cell_of_blk h.1 1 _ rfl, cell_of_blk h.1 2 _ rfl⟩
/-- a tree is compared with itself -/
theorem sameBox_calls {w : World} {X Y : Nat} {t : Tr} {u v : Value} (h : BoxT w X t u) (k : BoxT w Y t v) (hz : szT t ≤ 60) : Calls Try.prog 17 #[.agg #[.int .i64 t.op, .int .i64 t.num, u], .agg #[.int .i64 t.op, .int .i64 t.num, v]] w fun e w' => e = .returned (.bool true) ∧ Below w.heap.size w w' := by
  refine (implSame_calls t t u v w h.2.1 k.2.1 h.2.2 h.2.2 (by omega)).mono ?_
  rintro e w' ⟨⟨r, rfl, hr⟩, hb⟩
  rw [hr.2 rfl]
  exact ⟨rfl, hb⟩
end Go.Proofs.Ytjdlfpdljmohiaa
/-
  PLAIN: what is read of a valid graph is a closed expression; the graph of a closed expression is read back as it.
-/
namespace Go.Proofs.Ytjdlfpdljmohiaa
set_option linter.unusedVariables false
set_option linter.unusedSimpArgs false
open Go.RowKit

theorem readKids_all {f : Nat → Nat → Option (Tr × Nat)} {P : Tr → Prop} : ∀ (ks : List Nat) (l : Nat) (ts : List Tr) (l' : Nat), (∀ k ∈ ks, ∀ l t l', f k l = some (t, l') → P t) → readKids f ks l = some (ts, l') → ∀ t ∈ ts, P t
  | [], l, ts, l', _, h => by simp [readKids] at h; obtain ⟨rfl, -⟩ := h; simp
  | x :: ks, l, ts, l', hf, h => by
    simp only [readKids] at h
    cases hx : f x l with
    | none => rw [hx] at h; simp at h
    | some p =>
      obtain ⟨t, l1⟩ := p
      rw [hx] at h
      simp only at h
      cases hk : readKids f ks l1 with
      | none => rw [hk] at h; simp at h
      | some q =>
        obtain ⟨us, l2⟩ := q
        rw [hk] at h
        simp only [Option.some.injEq, Prod.mk.injEq] at h
        obtain ⟨rfl, -⟩ := h
        intro u hu
        rcases List.mem_cons.1 hu with rfl | hu
        · exact hf x (by simp) _ _ _ hx
        · exact readKids_all ks l1 us l2 (fun k hk => hf k (by simp [hk])) hk u hu
/-- a cell that is no indirection, as a node -/
theorem node_own {g : List Ce} {n : Int} (hg : graphB g n = true) {b : Nat} (hb : b < g.length) (ho : opAt g b ≠ 11) : ((kidsN g b).length : Int) = arity (opAt g b) ∧ ownB (opAt g b) (g.getD b ⟨0, 0, []⟩).num 0 n = true := by
  have hc := graphB_cell hg b hb
  unfold cellB fitsB at hc
  simp only [Bool.and_eq_true, decide_eq_true_eq] at hc
  obtain ⟨⟨h1, h2⟩, -⟩ := hc
  unfold opAt at ho ⊢
  rw [getD_at _ _ _ hb] at ho ⊢
  rw [kidsN_at b hb, List.length_map, h1, cArity, if_neg ho]
  exact ⟨rfl, h2⟩
theorem readT_sh {g : List Ce} {n : Int} (hg : graphB g n = true) : ∀ (d a l : Nat) (t : Tr) (l' : Nat), a < g.length → readT g d a l = some (t, l') → shB 0 n d t = true
  | 0, a, l, t, l', _, h => by simp [readT] at h
  | d + 1, a, l, t, l', ha, h => by
    simp only [readT] at h
    cases hf : followN g g.length a with
    | none => rw [hf] at h; simp at h
    | some b =>
      rw [hf] at h
      obtain ⟨hb, ho⟩ := followN_lt hg _ _ _ ha hf
      cases l with
      | zero => simp at h
      | succ l =>
        simp only at h
        cases hk : readKids (readT g d) (kidsN g b) l with
        | none => rw [hk] at h; simp at h
        | some q =>
          obtain ⟨ts, l2⟩ := q
          rw [hk] at h
          simp only [Option.some.injEq, Prod.mk.injEq] at h
          obtain ⟨rfl, -⟩ := h
          obtain ⟨h1, h2⟩ := node_own hg hb ho
          have hlen := readKids_len _ _ _ _ hk
          simp only [shB, Tr.kids_node, Tr.op_node, Tr.num_node, Bool.and_eq_true, decide_eq_true_eq, List.all_eq_true]
          refine ⟨⟨decide_eq_true (by rw [hlen]; exact h1), h2⟩, ?_⟩
          exact readKids_all _ _ _ _ (fun k hk l t l' h => readT_sh hg d k l t l' (kidsN_lt hg b hb k hk) h) hk
theorem readB_valid {g : List Ce} {root n : Int} {t : Tr} (h : readB g root n = some t) : validB t 0 n = true := by
  have hsz := readB_sz g root n t h
  unfold readB at h
  split at h
  · rename_i hc
    obtain ⟨hg, hr⟩ := hc
    unfold isAt at hr
    simp only [decide_eq_true_eq] at hr
    cases hr2 : readT g 16 root.toNat 60 with
    | none => rw [hr2] at h; simp at h
    | some q =>
      obtain ⟨t', l⟩ := q
      rw [hr2] at h
      simp only [Option.map_some, Option.some.injEq] at h
      subst h
      have h1 := readT_sh hg _ _ _ _ _ (by omega) hr2
      have h2 := readT_sz g 16 _ _ _ _ hr2
      obtain ⟨⟨-, h3, h4⟩, -⟩ := graphB_iff.1 hg
      unfold validB
      rw [h1]
      simp
      omega
  · cases h

theorem getD_pre {g H : List Ce} (h : g <+: H) {i : Nat} (hi : i < g.length) : H.getD i ⟨0, 0, []⟩ = g[i] := by
  obtain ⟨s, rfl⟩ := h
  rw [getD_at _ _ _ (by rw [List.length_append]; omega), List.getElem_append_left hi]
theorem addT_pre (args : List Nat) : ∀ (t : Tr) (g : List Ce), g <+: (addT args t g).1
  | .node o n ks, g => by
    by_cases h : o = 1
    · rw [addT_var _ (by exact h)]; exact List.prefix_refl _
    · rw [addT_other _ (by exact h)]
      exact (addL_pre args ks g).trans (List.prefix_append _ _)
where
  addL_pre (args : List Nat) : ∀ (ts : List Tr) (g : List Ce), g <+: (addL args ts g).1
    | [], g => by simp [addL]
    | t :: ts, g => by
      rw [show addL args (t :: ts) g = ((addL args ts (addT args t g).1).1, (addT args t g).2 :: (addL args ts (addT args t g).1).2) from rfl]
      exact (addT_pre args t g).trans (addL_pre args ts _)
theorem own_op {op m n : Int} {k : Nat} (h : ownB op m 0 n = true) (ha : (k : Int) = arity op) : op ≠ 1 ∧ op ≠ 11 := by
  refine ⟨fun e => ?_, fun e => ?_⟩
  · subst e
    unfold ownB at h
    simp at h
    omega
  · subst e
    have : arity 11 = -1 := by simp [arity]
    omega
theorem addL_read {n : Int} {d D : Nat} {H : List Ce} (ih : ∀ (t : Tr) (g : List Ce) (l : Nat), shB 0 n d t = true → (addT [] t g).1 <+: H → 1 + szT t ≤ l → readT H D (addT [] t g).2 l = some (t, l - (1 + szT t))) :
    ∀ (ts : List Tr) (g : List Ce) (l : Nat), (∀ t ∈ ts, shB 0 n d t = true) → (addL [] ts g).1 <+: H → szL ts ≤ l → readKids (readT H D) (addL [] ts g).2 l = some (ts, l - szL ts)
  | [], g, l, _, _, _ => by simp [addL, readKids, szL]
  | t :: ts, g, l, hs, hp, hl => by
    simp only [szL] at hl
    rw [show addL [] (t :: ts) g = ((addL [] ts (addT [] t g).1).1, (addT [] t g).2 :: (addL [] ts (addT [] t g).1).2) from rfl] at hp ⊢
    simp only [readKids]
    rw [ih t g l (hs t (by simp)) ((addT_pre.addL_pre [] ts _).trans hp) (by omega)]
    simp only
    rw [addL_read ih ts (addT [] t g).1 (l - (1 + szT t)) (fun t ht => hs t (by simp [ht])) hp (by omega)]
    simp only [szL, Option.some.injEq, Prod.mk.injEq, true_and]
    omega
theorem addT_read {n : Int} : ∀ (d : Nat) (t : Tr) (g H : List Ce) (D l : Nat), shB 0 n d t = true → (addT [] t g).1 <+: H → d ≤ D → 1 + szT t ≤ l → readT H D (addT [] t g).2 l = some (t, l - (1 + szT t))
  | 0, t, g, H, D, l, hs, _, _, _ => by simp [shB] at hs
  | d + 1, t, g, H, 0, l, _, _, hD, _ => by omega
  | d + 1, t, g, H, D + 1, 0, _, _, _, hl => by omega
  | d + 1, t, g, H, D + 1, l + 1, hs, hp, hD, hl => by
    simp only [shB, Bool.and_eq_true, decide_eq_true_eq, List.all_eq_true] at hs
    obtain ⟨⟨h1, h2⟩, h3⟩ := hs
    obtain ⟨ho1, ho11⟩ := own_op h2 h1
    rw [addT_other _ ho1] at hp ⊢
    have hcell : H.getD (addL [] t.kids g).1.length ⟨0, 0, []⟩ = ⟨t.op, t.num, (addL [] t.kids g).2.map fun (a : Nat) => (a : Int)⟩ := by
      rw [getD_pre (i := (addL [] t.kids g).1.length) hp (by simp)]
      simp
    have hi : (addL [] t.kids g).1.length < H.length := by have := hp.length_le; simp at this; omega
    have hop : opAt H (addL [] t.kids g).1.length = t.op := by unfold opAt; rw [hcell]
    have hkids : kidsN H (addL [] t.kids g).1.length = (addL [] t.kids g).2 := by
      unfold kidsN
      rw [hcell]
      simp [Function.comp_def]
    simp only [readT]
    rw [fol_self hi (by rw [hop]; exact ho11)]
    simp only
    rw [hkids, hcell, addL_read (n := n) (d := d) (D := D) (fun t g l a b c => addT_read d t g H D l a b (by omega) c) t.kids g l h3 ((List.prefix_append _ _).trans hp) (by rw [szT_eq] at hl; omega)]
    simp only [Option.some.injEq, Prod.mk.injEq]
    refine ⟨t.eta.symm, ?_⟩
    rw [szT_eq]
    omega
/-- the graph of a closed expression is read back as it -/
theorem built_read {t : Tr} {n : Nat} (hv : validB t 0 n = true) {G5 : List Ce} {r5 : Nat} (h : addOut [] t [] n = (G5, r5, true)) (hg : graphB G5 n = true) (hr : r5 < G5.length) : readB G5 (r5 : Int) n = some t := by
  rw [addOut_closed, if_pos hv] at h
  simp only [Prod.mk.injEq, and_true] at h
  obtain ⟨rfl, rfl⟩ := h
  unfold validB at hv
  simp only [Bool.and_eq_true, decide_eq_true_eq] at hv
  have hr2 := addT_read 16 t [] (addT [] t []).1 16 60 hv.2.1 (List.prefix_refl _) (Nat.le_refl _) hv.2.2
  rw [readB_yes ⟨hg, by unfold isAt; simp; omega⟩, Int.toNat_natCast, hr2]
  rfl
end Go.Proofs.Ytjdlfpdljmohiaa
/-
  THE MODEL's l3Read AND ReadGraph.
-/
namespace Go.Proofs.Ytjdlfpdljmohiaa
set_option linter.unusedVariables false
set_option linter.unusedSimpArgs false
open Go.RowKit

/-- what l3Read hands back -/
def ReadRes (o : Option (Tr × Nat)) (w : World) (e : Ending) (w' : World) : Prop :=
  match o with
  | none => ∃ (a b : Int) (ad : Option Addr) (n c : Nat), e = .returned (.tuple #[.agg #[.int .i64 a, .int .i64 b, .slice ad n c], .int .i64 (-1)]) ∧ Below w.heap.size w w'
  | some (t, l) => ∃ v, e = .returned (.tuple #[.agg #[.int .i64 t.op, .int .i64 t.num, v], .int .i64 (l : Int)]) ∧ Fresh w' w.heap.size t.kids v ∧ I64 t.op ∧ I64 t.num ∧ Below w.heap.size w w'
def RdSaid (g : List Ce) (d : Nat) : Prop := ∀ (v : Value) (a l : Nat) (w : World), CIn w g v → a < g.length → l ≤ 1000 →
  Calls Try.prog 51 #[v, .int .i64 (a : Int), .int .i64 (d : Int), .int .i64 (l : Int)] w (ReadRes (readT g d a l) w)

/-- what holds behind some rounds of the loop over the operands -/
def RdRel (o n : Int) (w1 : World) (res : Option (List Tr × Nat)) (left : Value) (wr : World) : Prop :=
  match res with
  | some (ts, l') => left = .int .i64 (l' : Int) ∧ ∃ v, OwnF wr (w1.heap.size + 1) wr.heap.size ts v ∧ wr.heap[w1.heap.size]? = some (.cells #[.int .i64 o, .int .i64 n, v] 30)
  | none => left = .int .i64 (-1) ∧ ∃ ad m c, wr.heap[w1.heap.size]? = some (.cells #[.int .i64 o, .int .i64 n, .slice ad m c] 30)
theorem rdRel_start (o n : Int) (w1 : World) (l : Nat) : RdRel o n w1 (some ([], l)) (.int .i64 (l : Int)) (w1.alloc (.cells #[.int .i64 o, .int .i64 n, .slice none 0 0] 30)).drew ∧ Below w1.heap.size w1 (w1.alloc (.cells #[.int .i64 o, .int .i64 n, .slice none 0 0] 30)).drew :=
  ⟨⟨rfl, _, OwnF.nil _ _ _, Deep.blk_alloc_new _ _⟩, (box_below _ _).drew⟩

set_option maxRecDepth 100000 in
set_option maxHeartbeats 1600000 in
theorem rd_step (g : List Ce) (hg : graphB g 6 = true) (d : Nat) (hd : d ≤ 16) (ih : RdSaid g d) : RdSaid g (d + 1) := by
  intro v a l w hk ha hl
  have HK : Hid (CIn w g v) := hk
  have HG : Hid (graphB g 6 = true) := hg
  have HI : Hid (RdSaid g d) := ih
  obtain ⟨ad, cap, rfl, -, hm, -⟩ := hk
  unfold maxLen at hm
  have h400 : g.length ≤ 400 := graphB_len hg
  clear hg ih
  go_enter Try.func51, Try.ntmps51
  go_wp2_with fail
  refine (l3Follow_calls g a _ _ (HK.out.next (box_below _ _)) ⟨6, HG.out⟩ ha).mono ?_
  rintro e w1 ⟨rfl, hb1⟩
  rw [follow_enough HG.out a ha]
  have HB1 : Hid (Below w.heap.size w w1) := (box_below _ _).trans (hb1.mono (by rw [Deep.nblk_alloc]; omega))
  have hz1 : w.heap.size < w1.heap.size := by have := hb1.size; rw [Deep.nblk_alloc] at this; omega
  have hr1 : w1.heap[w.heap.size]? = some (.cells #[.int .i64 0, .int .i64 0, .slice none 0 0] 30) := (hb1.block _ (by rw [Deep.nblk_alloc]; omega)).trans (Deep.blk_alloc_new _ _)
  have HR1 : Hid (w1.heap[w.heap.size]? = some (.cells #[.int .i64 0, .int .i64 0, .slice none 0 0] 30)) := hr1
  clear hb1
  cases hf : followN g g.length a with
  | none =>
    have HV : Hid (readT g (d + 1) a l = none) := readT_fol hf
    have e1 : folI none = -1 := rfl
    rw [e1]
    clear hf
    have r0 := cell_of_blk hr1 0 _ rfl
    have r1 := cell_of_blk hr1 1 _ rfl
    have r2 := cell_of_blk hr1 2 _ rfl
    have rf := fun i => frz_of_blk hr1 i
    clear hr1
    go_wp2_with fail
    refine bodyPost_ret (v := .tuple #[.agg #[.int .i64 0, .int .i64 0, .slice none 0 0], .int .i64 (-1)]) (by simp [results, Try.results51, go_sem, r0, r1, r2, rf]) rfl ?_
    rw [HV.out]
    exact ⟨0, 0, none, 0, 0, rfl, ((HB1.out.setCell (Nat.le_refl _) _).setCell (Nat.le_refl _) _).setCell (Nat.le_refl _) _⟩
  | some b =>
    obtain ⟨hbl, hbo⟩ := followN_lt HG.out _ _ _ ha hf
    have HF : Hid (followN g g.length a = some b) := hf
    have e1 : folI (some b) = (b : Int) := rfl
    rw [e1]
    clear hf hbo
    have hbn : ¬ ((b : Int) < 0) := by omega
    have hdn : ¬ ((d : Int) + 1 < 1) := by omega
    rcases l with _ | l
    · have HV : Hid (readT g (d + 1) a 0 = none) := readT_zero
      have r0 := cell_of_blk hr1 0 _ rfl
      have r1 := cell_of_blk hr1 1 _ rfl
      have r2 := cell_of_blk hr1 2 _ rfl
      have rf := fun i => frz_of_blk hr1 i
      clear hr1
      go_wp2_with fail
      refine bodyPost_ret (v := .tuple #[.agg #[.int .i64 0, .int .i64 0, .slice none 0 0], .int .i64 (-1)]) (by simp [results, Try.results51, go_sem, r0, r1, r2, rf]) rfl ?_
      rw [HV.out]
      exact ⟨0, 0, none, 0, 0, rfl, ((HB1.out.setCell (Nat.le_refl _) _).setCell (Nat.le_refl _) _).setCell (Nat.le_refl _) _⟩
    · have hln : ¬ (((l + 1 : Nat) : Int) < 1) := by omega
      obtain ⟨bl, off, r2, rfl, c0, c1, c2, io, iN, hkk⟩ := (HK.out.next HB1.out).at b hbl
      obtain ⟨ad3, cap3, rfl, -, -, -⟩ := id hkk
      clear hr1
      have HKK : Hid (IIn w1 g[b].kids (.slice ad3 g[b].kids.length cap3)) := hkk
      have HIO : Hid (I64 g[b].op ∧ I64 g[b].num) := ⟨io, iN⟩
      have C2 : Hid (w1.cell? ⟨bl, off + b * 3 + 2, none⟩ = some (.slice ad3 g[b].kids.length cap3)) := c2
      have HBL : Hid (bl < w1.heap.size) := cell_lt c2
      obtain ⟨iE, zE, hIE⟩ := infoE3
      have HE : Hid (Try.prog.info? 30 = some iE ∧ iE.zero = some zE ∧ iE.size = 3 ∧ iE.bytes = 40 ∧ zE.cells.size = 3) := hIE
      clear hkk io iN hIE
      go_upto_region 5 with fail
      go_cut [10] (fun s10 wx => s10 = .pointer (some ⟨w1.heap.size, 0, none⟩) ∧ wx = (w1.alloc (.cells #[.int .i64 g[b].op, .int .i64 g[b].num, .slice none 0 0] 30)).drew)
      case first =>
        have q0 := fun k => old_cell (w := w1.drewN k) c0 (.cells #[.int .i64 0, .int .i64 0, .slice none 0 0] 30)
        have q1 := fun k => old_cell (w := w1.drewN k) c1 (.cells #[.int .i64 0, .int .i64 0, .slice none 0 0] 30)
        have q2 := old_cell c0 (.cells #[.int .i64 0, .int .i64 0, .slice none 0 0] 30)
        have q3 := old_cell c1 (.cells #[.int .i64 0, .int .i64 0, .slice none 0 0] 30)
        have q4 := old_cell (w := w1.drew) c0 (.cells #[.int .i64 0, .int .i64 0, .slice none 0 0] 30)
        have q5 := old_cell (w := w1.drew) c1 (.cells #[.int .i64 0, .int .i64 0, .slice none 0 0] 30)
        go_region_with (fail)
        all_goals
          go_wp2_with fail
          go_meet
          exact ⟨rfl, rfl⟩
      case rest =>
      obtain ⟨rfl, hwc⟩ := hcut
      have HW2 : Hid (RdRel g[b].op g[b].num w1 (some ([], l)) (.int .i64 (l : Int)) wc ∧ Below w1.heap.size w1 wc) := by rw [hwc]; exact rdRel_start _ _ _ _
      clear c0 c1 c2 hwc
      go_wp2_with fail
      go_loopw [3, 11] (fun left i wr => ∃ k : Nat, k ≤ g[b].kids.length ∧ i = .int .i64 k ∧ RdRel g[b].op g[b].num w1 (readKids (readT g d) ((kidsN g b).take k) l) left wr ∧ Below w1.heap.size w1 wr) (fun _ i _ => g[b].kids.length - (intOf i).toNat)
      case atStart => exact ⟨0, Nat.zero_le _, rfl, HW2.out⟩
      case round =>
        obtain ⟨k, hk, rfl, hrd, hb⟩ := hrel
        have HB : Hid (Below w1.heap.size w1 wr) := hb
        have hk3 : g[b].kids.length ≤ 3 := (kids_graph HG.out b hbl).1
        have HKN : Hid ((kidsN g b).length = g[b].kids.length) := by rw [Hid, kidsN_at b hbl]; simp
        have hrw := (hb.block w.heap.size hz1).trans HR1.out
        have r0 := cell_of_blk hrw 0 _ rfl
        have r1 := cell_of_blk hrw 1 _ rfl
        have r2 := cell_of_blk hrw 2 _ rfl
        have rf := fun i => frz_of_blk hrw i
        have HBW : Hid (Below w.heap.size w wr) := HB1.out.trans (hb.mono (Nat.le_of_lt hz1))
        clear hrw
        cases hres : readKids (readT g d) ((kidsN g b).take k) l with
        | none =>
          rw [hres] at hrd
          obtain ⟨rfl, adx, mx, cx, hbx⟩ := hrd
          have HV : Hid (readT g (d + 1) a (l + 1) = none) := readT_bad HF.out (readKids_none_take hres)
          have c2 := (hb.cell (p := ⟨bl, off + b * 3 + 2, none⟩) HBL.out).trans C2.out
          have o0 := cell_of_blk hbx 0 _ rfl
          have o1 := cell_of_blk hbx 1 _ rfl
          have o2 := cell_of_blk hbx 2 _ rfl
          clear hb hbx hres
          go_wp2_with fail
          all_goals
            refine bodyPost_ret (v := .tuple #[.agg #[.int .i64 g[b].op, .int .i64 g[b].num, .slice adx mx cx], .int .i64 (-1)]) (by simp [results, Try.results51, go_sem, r0, r1, r2, rf]) rfl ?_
            rw [HV.out]
            exact ⟨_, _, _, _, _, rfl, ((HBW.out.setCell (Nat.le_refl _) _).setCell (Nat.le_refl _) _).setCell (Nat.le_refl _) _⟩
        | some q =>
          obtain ⟨ts, l'⟩ := q
          rw [hres] at hrd
          obtain ⟨rfl, v, hof, hbx⟩ := hrd
          have HOF : Hid (OwnF wr (w1.heap.size + 1) wr.heap.size ts v) := hof
          have HBX : Hid (wr.heap[w1.heap.size]? = some (.cells #[.int .i64 g[b].op, .int .i64 g[b].num, v] 30)) := hbx
          have HRS : Hid (readKids (readT g d) ((kidsN g b).take k) l = some (ts, l')) := hres
          have hll : l' ≤ l := readKids_left (fun k l t l' => readT_left g d k l t l') _ _ _ _ hres
          have c2 := (hb.cell (p := ⟨bl, off + b * 3 + 2, none⟩) HBL.out).trans C2.out
          have hwl : w1.heap.size < wr.heap.size := cellsOf_lt hbx
          by_cases hlt : k < g[b].kids.length
          · obtain ⟨kk, hk1, hk2, hk4⟩ := kidsN_get HG.out b hbl k hlt
            obtain ⟨bl3, off3, rfl, d0w⟩ := HKK.out.at k hlt
            have d0 := (hb.cell (p := ⟨bl3, off3 + k, none⟩) (cell_lt d0w)).trans d0w
            rw [hk1] at d0
            have HTK : Hid ((kidsN g b).take (k + 1) = (kidsN g b).take k ++ [kk]) := take_snoc hk4
            have HKW : Hid (CIn wr g (.slice (some ⟨bl, off, none⟩) g.length cap)) := HK.out.next (HB1.out.trans (hb.mono HB1.out.size))
            have hdd : (1 : Int) ≤ (d : Int) + 1 := by omega
            clear hk1 hk4 d0w hb hres hof hbx
            go_wp2_with fail
            refine (HI.out _ kk l' _ HKW.out hk2 (by omega)).mono ?_
            rintro e w2 hres2
            cases hr2 : readT g d kk l' with
            | none =>
              rw [hr2] at hres2
              obtain ⟨x, y, ad5, n5, c5, rfl, hb2⟩ := hres2
              have HV : Hid (readKids (readT g d) ((kidsN g b).take (k + 1)) l = none) := by rw [Hid, HTK.out]; exact readKids_none_snoc HRS.out hr2
              have HB2 : Hid (Below wr.heap.size wr w2) := hb2
              clear hb2
              obtain ⟨xs, hx⟩ := (HOF.out.next (w' := (w2.alloc (.cells #[.int .i64 x, .int .i64 y, .slice ad5 n5 c5] 30)).alloc (.cells #[.int .i64 x, .int .i64 y, .slice ad5 n5 c5] 30)) (Nat.le_refl _) (Nat.le_refl _) (fun j h1 h2 => (Deep.blk_alloc_lt _ _ _ (by rw [Deep.nblk_alloc]; have := HB2.out.size; omega)).trans ((Deep.blk_alloc_lt _ _ _ (by have := HB2.out.size; omega)).trans (HB2.out.block j h2)))).row
              have HX : Hid (((w2.alloc (.cells #[.int .i64 x, .int .i64 y, .slice ad5 n5 c5] 30)).alloc (.cells #[.int .i64 x, .int .i64 y, .slice ad5 n5 c5] 30)).ownsRow (w1.heap.size + 1) 30 3 v ts.length xs) := hx
              have hbx4 : ((w2.alloc (.cells #[.int .i64 x, .int .i64 y, .slice ad5 n5 c5] 30)).alloc (.cells #[.int .i64 x, .int .i64 y, .slice ad5 n5 c5] 30)).heap[w1.heap.size]? = some (.cells #[.int .i64 g[b].op, .int .i64 g[b].num, v] 30) := (Deep.blk_alloc_lt _ _ _ (by rw [Deep.nblk_alloc]; have := HB2.out.size; omega)).trans ((Deep.blk_alloc_lt _ _ _ (by have := HB2.out.size; omega)).trans ((HB2.out.block _ hwl).trans HBX.out))
              have HBX4 : Hid (((w2.alloc (.cells #[.int .i64 x, .int .i64 y, .slice ad5 n5 c5] 30)).alloc (.cells #[.int .i64 x, .int .i64 y, .slice ad5 n5 c5] 30)).heap[w1.heap.size]? = some (.cells #[.int .i64 g[b].op, .int .i64 g[b].num, v] 30)) := hbx4
              have hbx3 : (w2.alloc (.cells #[.int .i64 x, .int .i64 y, .slice ad5 n5 c5] 30)).heap[w1.heap.size]? = some (.cells #[.int .i64 g[b].op, .int .i64 g[b].num, v] 30) := (Deep.blk_alloc_lt _ _ _ (by have := HB2.out.size; omega)).trans ((HB2.out.block _ hwl).trans HBX.out)
              have p2 := cell_of_blk hbx3 2 _ rfl
              have HZ4 : Hid (((w2.alloc (.cells #[.int .i64 x, .int .i64 y, .slice ad5 n5 c5] 30)).alloc (.cells #[.int .i64 x, .int .i64 y, .slice ad5 n5 c5] 30)).heap.size = w2.heap.size + 2) := by rw [Hid, Deep.nblk_alloc, Deep.nblk_alloc]
              have htl : ts.length < 1000000 := by have h1 := readKids_len _ _ _ _ HRS.out; rw [List.length_take] at h1; have h2 : g[b].kids.length ≤ 3 := (kids_graph HG.out b hbl).1; omega
              clear hx hbx3 hbx4 hr2 c2 d0
              go_wp2_with (at_builtin; go_must (refine wpList_append_where _ rfl _ _ 28 rfl (w1.heap.size + 1) 30 iE zE 3 40 Try.underlying28 HE.out.1 HE.out.2.1 HE.out.2.2.1 HE.out.2.2.2.1 HE.out.2.2.2.2 (by decide) v ts.length xs rfl HX.out ⟨w2.heap.size + 1, 0, none⟩ 1 1 [.int .i64 x, .int .i64 y, .slice ad5 n5 c5] rfl rfl (by have h := news3 (w2.alloc (.cells #[.int .i64 x, .int .i64 y, .slice ad5 n5 c5] 30)) (.int .i64 x) (.int .i64 y) (.slice ad5 n5 c5); rw [Deep.nblk_alloc] at h; exact h) (by simp [Value.oneCell']) (by unfold maxLen; omega) (by omega) (by rw [HZ4.out]; have := HB2.out.size; omega) (by omega) ?_); go_must (intro v' w5 hown hg hw); go_must (have HOWN : Hid (w5.ownsRow (w1.heap.size + 1) 30 3 v' (ts.length + 1) (xs ++ [.int .i64 x, .int .i64 y, .slice ad5 n5 c5])) := hown); go_must (have HGR : Hid (((w2.alloc (.cells #[.int .i64 x, .int .i64 y, .slice ad5 n5 c5] 30)).alloc (.cells #[.int .i64 x, .int .i64 y, .slice ad5 n5 c5] 30)).grownBy w5 v.ownBlock) := hg); go_must (have HWH : Hid (v'.ownBlock = v.ownBlock ∨ ∃ g, v'.ownBlock = some g ∧ ((w2.alloc (.cells #[.int .i64 x, .int .i64 y, .slice ad5 n5 c5] 30)).alloc (.cells #[.int .i64 x, .int .i64 y, .slice ad5 n5 c5] 30)).heap.size ≤ g) := hw); go_must (have hlow : ∀ j, j ≤ w1.heap.size → w5.heap[j]? = ((w2.alloc (.cells #[.int .i64 x, .int .i64 y, .slice ad5 n5 c5] 30)).alloc (.cells #[.int .i64 x, .int .i64 y, .slice ad5 n5 c5] 30)).heap[j]? := fun j hj => hg.block j (by rw [HZ4.out]; have := HB2.out.size; omega) (fun e => by have := (own_some HX.out j e.symm).1; omega)); go_must (have hbx5 := (hlow _ (Nat.le_refl _)).trans HBX4.out); go_must (have HBX5 : Hid (w5.heap[w1.heap.size]? = some (.cells #[.int .i64 g[b].op, .int .i64 g[b].num, v] 30)) := hbx5); go_must (have HB5 : Hid (Below w1.heap.size w1 w5) := ⟨by rw [hg.os]; exact HB2.out.os.trans HB.out.os, by rw [hg.tape]; exact HB2.out.tape.trans HB.out.tape, by rw [hg.output]; exact HB2.out.output.trans HB.out.output, by have h1 := hg.size; rw [HZ4.out] at h1; have := HB.out.size; have := HB2.out.size; omega, fun j hj => (hlow j (by omega)).trans ((Deep.blk_alloc_lt _ _ _ (by rw [Deep.nblk_alloc]; have := HB2.out.size; omega)).trans ((Deep.blk_alloc_lt _ _ _ (by have := HB2.out.size; omega)).trans ((HB2.out.block j (by omega)).trans (HB.out.block j hj))))⟩); go_must (obtain ⟨g', c', rfl, -, -, -, -⟩ := own_form hown (by omega)); go_must (have s2 := cell_of_blk hbx5 2 _ rfl); go_must (have sf := frz_of_blk hbx5 2); clear hown hg hw hlow hbx5 p2)
              go_roundw
              case rel => exact ⟨k + 1, by omega, by go_num, by rw [HV.out]; exact ⟨rfl, _, _, _, box_set HBX5.out _⟩, HB5.out.setCell (Nat.le_refl _) _⟩
              case measure => simp [intOf]; omega
            | some q =>
              obtain ⟨t, l''⟩ := q
              rw [hr2] at hres2
              obtain ⟨vt, rfl, hfr, hto, htn, hb2⟩ := hres2
              have HV : Hid (readKids (readT g d) ((kidsN g b).take (k + 1)) l = some (ts ++ [t], l'')) := by rw [Hid, HTK.out]; exact readKids_some_snoc HRS.out hr2
              have HFR : Hid (Fresh w2 wr.heap.size t.kids vt) := hfr
              have HTO : Hid (I64 t.op ∧ I64 t.num) := ⟨hto, htn⟩
              have HB2 : Hid (Below wr.heap.size wr w2) := hb2
              obtain ⟨adt, capt, rfl, -, -, -⟩ := hfr.on
              clear hb2 hfr hto htn
              obtain ⟨xs, hx⟩ := (HOF.out.next (w' := (w2.alloc (.cells #[.int .i64 t.op, .int .i64 t.num, .slice adt t.kids.length capt] 30)).alloc (.cells #[.int .i64 t.op, .int .i64 t.num, .slice adt t.kids.length capt] 30)) (Nat.le_refl _) (Nat.le_refl _) (fun j h1 h2 => (Deep.blk_alloc_lt _ _ _ (by rw [Deep.nblk_alloc]; have := HB2.out.size; omega)).trans ((Deep.blk_alloc_lt _ _ _ (by have := HB2.out.size; omega)).trans (HB2.out.block j h2)))).row
              have HX : Hid (((w2.alloc (.cells #[.int .i64 t.op, .int .i64 t.num, .slice adt t.kids.length capt] 30)).alloc (.cells #[.int .i64 t.op, .int .i64 t.num, .slice adt t.kids.length capt] 30)).ownsRow (w1.heap.size + 1) 30 3 v ts.length xs) := hx
              have hbx4 : ((w2.alloc (.cells #[.int .i64 t.op, .int .i64 t.num, .slice adt t.kids.length capt] 30)).alloc (.cells #[.int .i64 t.op, .int .i64 t.num, .slice adt t.kids.length capt] 30)).heap[w1.heap.size]? = some (.cells #[.int .i64 g[b].op, .int .i64 g[b].num, v] 30) := (Deep.blk_alloc_lt _ _ _ (by rw [Deep.nblk_alloc]; have := HB2.out.size; omega)).trans ((Deep.blk_alloc_lt _ _ _ (by have := HB2.out.size; omega)).trans ((HB2.out.block _ hwl).trans HBX.out))
              have HBX4 : Hid (((w2.alloc (.cells #[.int .i64 t.op, .int .i64 t.num, .slice adt t.kids.length capt] 30)).alloc (.cells #[.int .i64 t.op, .int .i64 t.num, .slice adt t.kids.length capt] 30)).heap[w1.heap.size]? = some (.cells #[.int .i64 g[b].op, .int .i64 g[b].num, v] 30)) := hbx4
              have hbx3 : (w2.alloc (.cells #[.int .i64 t.op, .int .i64 t.num, .slice adt t.kids.length capt] 30)).heap[w1.heap.size]? = some (.cells #[.int .i64 g[b].op, .int .i64 g[b].num, v] 30) := (Deep.blk_alloc_lt _ _ _ (by have := HB2.out.size; omega)).trans ((HB2.out.block _ hwl).trans HBX.out)
              have p2 := cell_of_blk hbx3 2 _ rfl
              have HZ4 : Hid (((w2.alloc (.cells #[.int .i64 t.op, .int .i64 t.num, .slice adt t.kids.length capt] 30)).alloc (.cells #[.int .i64 t.op, .int .i64 t.num, .slice adt t.kids.length capt] 30)).heap.size = w2.heap.size + 2) := by rw [Hid, Deep.nblk_alloc, Deep.nblk_alloc]
              have htl : ts.length < 1000000 := by have h1 := readKids_len _ _ _ _ HRS.out; rw [List.length_take] at h1; have h2 : g[b].kids.length ≤ 3 := (kids_graph HG.out b hbl).1; omega
              clear hx hbx3 hbx4 hr2 c2 d0
              go_wp2_with (at_builtin; go_must (refine wpList_append_where _ rfl _ _ 28 rfl (w1.heap.size + 1) 30 iE zE 3 40 Try.underlying28 HE.out.1 HE.out.2.1 HE.out.2.2.1 HE.out.2.2.2.1 HE.out.2.2.2.2 (by decide) v ts.length xs rfl HX.out ⟨w2.heap.size + 1, 0, none⟩ 1 1 [.int .i64 t.op, .int .i64 t.num, .slice adt t.kids.length capt] rfl rfl (by have h := news3 (w2.alloc (.cells #[.int .i64 t.op, .int .i64 t.num, .slice adt t.kids.length capt] 30)) (.int .i64 t.op) (.int .i64 t.num) (.slice adt t.kids.length capt); rw [Deep.nblk_alloc] at h; exact h) (by simp [Value.oneCell']) (by unfold maxLen; omega) (by omega) (by rw [HZ4.out]; have := HB2.out.size; omega) (by omega) ?_); go_must (intro v' w5 hown hg hw); go_must (have HOWN : Hid (w5.ownsRow (w1.heap.size + 1) 30 3 v' (ts.length + 1) (xs ++ [.int .i64 t.op, .int .i64 t.num, .slice adt t.kids.length capt])) := hown); go_must (have HGR : Hid (((w2.alloc (.cells #[.int .i64 t.op, .int .i64 t.num, .slice adt t.kids.length capt] 30)).alloc (.cells #[.int .i64 t.op, .int .i64 t.num, .slice adt t.kids.length capt] 30)).grownBy w5 v.ownBlock) := hg); go_must (have HWH : Hid (v'.ownBlock = v.ownBlock ∨ ∃ g, v'.ownBlock = some g ∧ ((w2.alloc (.cells #[.int .i64 t.op, .int .i64 t.num, .slice adt t.kids.length capt] 30)).alloc (.cells #[.int .i64 t.op, .int .i64 t.num, .slice adt t.kids.length capt] 30)).heap.size ≤ g) := hw); go_must (have hlow : ∀ j, j ≤ w1.heap.size → w5.heap[j]? = ((w2.alloc (.cells #[.int .i64 t.op, .int .i64 t.num, .slice adt t.kids.length capt] 30)).alloc (.cells #[.int .i64 t.op, .int .i64 t.num, .slice adt t.kids.length capt] 30)).heap[j]? := fun j hj => hg.block j (by rw [HZ4.out]; have := HB2.out.size; omega) (fun e => by have := (own_some HX.out j e.symm).1; omega)); go_must (have hbx5 := (hlow _ (Nat.le_refl _)).trans HBX4.out); go_must (have HBX5 : Hid (w5.heap[w1.heap.size]? = some (.cells #[.int .i64 g[b].op, .int .i64 g[b].num, v] 30)) := hbx5); go_must (have HB5 : Hid (Below w1.heap.size w1 w5) := ⟨by rw [hg.os]; exact HB2.out.os.trans HB.out.os, by rw [hg.tape]; exact HB2.out.tape.trans HB.out.tape, by rw [hg.output]; exact HB2.out.output.trans HB.out.output, by have h1 := hg.size; rw [HZ4.out] at h1; have := HB.out.size; have := HB2.out.size; omega, fun j hj => (hlow j (by omega)).trans ((Deep.blk_alloc_lt _ _ _ (by rw [Deep.nblk_alloc]; have := HB2.out.size; omega)).trans ((Deep.blk_alloc_lt _ _ _ (by have := HB2.out.size; omega)).trans ((HB2.out.block j (by omega)).trans (HB.out.block j hj))))⟩); go_must (obtain ⟨g', c', rfl, -, -, -, -⟩ := own_form hown (by omega)); go_must (have s2 := cell_of_blk hbx5 2 _ rfl); go_must (have sf := frz_of_blk hbx5 2); clear hown hg hw hlow hbx5 p2)
              go_roundw
              case rel =>
                refine ⟨k + 1, by omega, by go_num, ?_, HB5.out.setCell (Nat.le_refl _) _⟩
                rw [HV.out]
                have hpush := rd_push HOF.out (by omega) (fun j _ h2 => HB2.out.block j h2) HB2.out.size HFR.out HTO.out.1 HTO.out.2 _ _ xs HX.out HOWN.out HGR.out HWH.out
                exact ⟨rfl, _, hpush.next (by rw [size_setCell]; exact HGR.out.size) HGR.out.size (fun j h1 h2 => Below.heap_setCell _ _ _ _ (fun e => by have e' : j = w1.heap.size := e; omega)), box_set HBX5.out _⟩
              case measure => simp [intOf]; omega
          · have hke : k = g[b].kids.length := by omega
            have hall : readKids (readT g d) (kidsN g b) l = some (ts, l') := by
              have h := HRS.out
              rw [hke, ← HKN.out, List.take_length] at h
              exact h
            have HV : Hid (readT g (d + 1) a (l + 1) = some (.node g[b].op g[b].num ts, l')) := readT_ok hbl HF.out hall
            have HFR : Hid (Fresh wr (w1.heap.size + 1) ts v) := hof.fresh
            obtain ⟨adv, capv, rfl, -, -, -⟩ := hof.fresh.on
            have o0 := cell_of_blk hbx 0 _ rfl
            have o1 := cell_of_blk hbx 1 _ rfl
            have o2 := cell_of_blk hbx 2 _ rfl
            clear hb hbx hres hof hall hke
            go_wp2_with fail
            refine bodyPost_ret (v := .tuple #[.agg #[.int .i64 g[b].op, .int .i64 g[b].num, .slice adv ts.length capv], .int .i64 (l' : Int)]) (by simp [results, Try.results51, go_sem, r0, r1, r2, rf]) rfl ?_
            rw [HV.out]
            refine ⟨_, rfl, ?_, HIO.out.1, HIO.out.2, ((HBW.out.setCell (Nat.le_refl _) _).setCell (Nat.le_refl _) _).setCell (Nat.le_refl _) _⟩
            refine Fresh.mono (lo := w1.heap.size + 1) ?_ (by omega) (fun _ _ _ => rfl)
            exact ((HFR.out.setCell (by show w.heap.size < _; omega) _).setCell (by show w.heap.size < _; omega) _).setCell (by show w.heap.size < _; omega) _

theorem rd_zero (g : List Ce) (hg : graphB g 6 = true) : RdSaid g 0 := by
  intro v a l w hk ha hl
  have HK : Hid (CIn w g v) := hk
  have HG : Hid (graphB g 6 = true) := hg
  obtain ⟨ad, cap, rfl, -, hm, -⟩ := hk
  unfold maxLen at hm
  clear hg
  have HV : Hid (readT g 0 a l = none) := rfl
  go_enter Try.func51, Try.ntmps51
  go_wp2_with fail
  refine (l3Follow_calls g a _ _ (HK.out.next (box_below _ _)) ⟨6, HG.out⟩ ha).mono ?_
  rintro e w1 ⟨rfl, hb1⟩
  have HB1 : Hid (Below w.heap.size w w1) := (box_below _ _).trans (hb1.mono (by rw [Deep.nblk_alloc]; omega))
  have hr1 : w1.heap[w.heap.size]? = some (.cells #[.int .i64 0, .int .i64 0, .slice none 0 0] 30) := (hb1.block _ (by rw [Deep.nblk_alloc]; omega)).trans (Deep.blk_alloc_new _ _)
  have r0 := cell_of_blk hr1 0 _ rfl
  have r1 := cell_of_blk hr1 1 _ rfl
  have r2 := cell_of_blk hr1 2 _ rfl
  have rf := fun i => frz_of_blk hr1 i
  clear hb1 hr1
  generalize folI (followN g (g.length + 1) a) = fi
  by_cases hfi : fi < 0
  all_goals
    go_wp2_with fail
    refine bodyPost_ret (v := .tuple #[.agg #[.int .i64 0, .int .i64 0, .slice none 0 0], .int .i64 (-1)]) (by simp [results, Try.results51, go_sem, r0, r1, r2, rf]) rfl ?_
    rw [HV.out]
    exact ⟨0, 0, none, 0, 0, rfl, ((HB1.out.setCell (Nat.le_refl _) _).setCell (Nat.le_refl _) _).setCell (Nat.le_refl _) _⟩
theorem rd_calls (g : List Ce) (hg : graphB g 6 = true) : ∀ d, d ≤ 17 → RdSaid g d
  | 0, _ => rd_zero g hg
  | d + 1, h => rd_step g hg d (by omega) (rd_calls g hg d (by omega))
end Go.Proofs.Ytjdlfpdljmohiaa
/-
  THE MODEL's ReadGraph.
-/
namespace Go.Proofs.Ytjdlfpdljmohiaa
set_option linter.unusedVariables false
set_option linter.unusedSimpArgs false
open Go.RowKit

set_option maxRecDepth 100000 in
set_option maxHeartbeats 1600000 in
theorem specRead_calls (g : List Ce) (root defs : Int) (v : Value) (w : World) (hk : CIn w g v) :
    Calls Try.prog 24 #[v, .int .i64 root, .int .i64 defs] w (ReadOut (readB g root defs) w) := by
  have HK : Hid (CIn w g v) := hk
  obtain ⟨ad, cap, rfl, hl, hm, -⟩ := hk
  unfold maxLen at hm
  go_enter Try.func24, Try.ntmps24
  go_wp2_with fail
  refine (specGraph_calls g defs _ _ (HK.out.next (box_below _ _))).mono ?_
  rintro e w1 ⟨rfl, hb1⟩
  have HB1 : Hid (Below w.heap.size w w1) := (box_below _ _).trans (hb1.mono (by rw [Deep.nblk_alloc]; omega))
  have hz1 : w.heap.size < w1.heap.size := by have := hb1.size; rw [Deep.nblk_alloc] at this; omega
  have hr1 : w1.heap[w.heap.size]? = some (.cells #[.int .i64 0, .int .i64 0, .slice none 0 0] 30) := (hb1.block _ (by rw [Deep.nblk_alloc]; omega)).trans (Deep.blk_alloc_new _ _)
  have HR1 : Hid (w1.heap[w.heap.size]? = some (.cells #[.int .i64 0, .int .i64 0, .slice none 0 0] 30)) := hr1
  have r0 := cell_of_blk hr1 0 _ rfl
  have r1 := cell_of_blk hr1 1 _ rfl
  have r2 := cell_of_blk hr1 2 _ rfl
  have rf := fun i => frz_of_blk hr1 i
  clear hb1 hr1
  by_cases hok : graphB g defs = true ∧ isAt g.length root = true
  · have HV : Hid (readB g root defs = (readT g 16 root.toNat 60).map (·.1)) := readB_yes hok
    have HG : Hid (graphB g 6 = true) := graphB_six hok.1
    obtain ⟨hg, hi⟩ := hok
    obtain ⟨h0, h1⟩ : 0 ≤ root ∧ root < (g.length : Int) := by unfold isAt at hi; simpa using hi
    obtain ⟨n, rfl⟩ : ∃ n : Nat, root = (n : Int) := ⟨root.toNat, by omega⟩
    have hn : n < g.length := by omega
    have hn0 : ¬ ((n : Int) < 0) := by omega
    have hn1 : ¬ ((g.length : Int) ≤ (n : Int)) := by omega
    rw [hg]
    clear hg hi r0 r1 r2 rf h0 h1
    go_wp2_with fail
    refine (rd_calls g HG.out 16 (by omega) _ n 60 _ (HK.out.next HB1.out) hn (by omega)).mono ?_
    rintro e w2 hres
    cases hr : readT g 16 n 60 with
    | none =>
      rw [hr] at hres
      obtain ⟨x, y, ad5, n5, c5, rfl, hb2⟩ := hres
      have HN : Hid (readB g (n : Int) defs = none) := by rw [Hid, HV.out, show ((n : Int)).toNat = n from rfl, hr]; rfl
      have hrw := (hb2.block w.heap.size hz1).trans HR1.out
      have hrw3 : (w2.alloc (.cells #[.int .i64 x, .int .i64 y, .slice ad5 n5 c5] 30)).heap[w.heap.size]? = some (.cells #[.int .i64 0, .int .i64 0, .slice none 0 0] 30) := (Deep.blk_alloc_lt _ _ _ (by have := hb2.size; omega)).trans hrw
      have r0 := cell_of_blk hrw3 0 _ rfl
      have r1 := cell_of_blk hrw3 1 _ rfl
      have r2 := cell_of_blk hrw3 2 _ rfl
      have rf := fun i => frz_of_blk hrw3 i
      have HB2 : Hid (Below w.heap.size w w2) := HB1.out.trans (hb2.mono HB1.out.size)
      have HB3 : Hid (Below w.heap.size w (w2.alloc (.cells #[.int .i64 x, .int .i64 y, .slice ad5 n5 c5] 30))) := HB2.out.alloc HB2.out.size _
      clear hb2 hrw hrw3 hr
      go_wp2_with fail
      refine bodyPost_ret (v := .tuple #[.agg #[.int .i64 0, .int .i64 0, .slice none 0 0], .bool false]) (by simp [results, Try.results24, go_sem, r0, r1, r2, rf]) rfl ?_
      rw [HN.out]
      exact ⟨rfl, ((HB3.out.setCell (Nat.le_refl _) _).setCell (Nat.le_refl _) _).setCell (Nat.le_refl _) _⟩
    | some q =>
      obtain ⟨t, l⟩ := q
      rw [hr] at hres
      obtain ⟨vt, rfl, hfr, hto, htn, hb2⟩ := hres
      have HN : Hid (readB g (n : Int) defs = some t) := by rw [Hid, HV.out, show ((n : Int)).toNat = n from rfl, hr]; rfl
      have HFR : Hid (Fresh w2 w1.heap.size t.kids vt) := hfr
      have HTO : Hid (I64 t.op ∧ I64 t.num) := ⟨hto, htn⟩
      have hrw := (hb2.block w.heap.size hz1).trans HR1.out
      obtain ⟨adt, capt, rfl, -, -, -⟩ := hfr.on
      have hrw3 : (w2.alloc (.cells #[.int .i64 t.op, .int .i64 t.num, .slice adt t.kids.length capt] 30)).heap[w.heap.size]? = some (.cells #[.int .i64 0, .int .i64 0, .slice none 0 0] 30) := (Deep.blk_alloc_lt _ _ _ (by have := hb2.size; omega)).trans hrw
      have r0 := cell_of_blk hrw3 0 _ rfl
      have r1 := cell_of_blk hrw3 1 _ rfl
      have r2 := cell_of_blk hrw3 2 _ rfl
      have rf := fun i => frz_of_blk hrw3 i
      have HB2 : Hid (Below w.heap.size w w2) := HB1.out.trans (hb2.mono HB1.out.size)
      have HB3 : Hid (Below w.heap.size w (w2.alloc (.cells #[.int .i64 t.op, .int .i64 t.num, .slice adt t.kids.length capt] 30))) := HB2.out.alloc HB2.out.size _
      have HFR3 : Hid (Fresh (w2.alloc (.cells #[.int .i64 t.op, .int .i64 t.num, .slice adt t.kids.length capt] 30)) w1.heap.size t.kids (.slice adt t.kids.length capt)) := HFR.out.next (box_below _ _)
      clear hb2 hrw hrw3 hr hfr hto htn
      go_wp2_with fail
      refine bodyPost_ret (v := .tuple #[.agg #[.int .i64 t.op, .int .i64 t.num, .slice adt t.kids.length capt], .bool true]) (by simp [results, Try.results24, go_sem, r0, r1, r2, rf]) rfl ?_
      rw [HN.out]
      refine ⟨_, rfl, ?_, HTO.out.1, HTO.out.2, ((HB3.out.setCell (Nat.le_refl _) _).setCell (Nat.le_refl _) _).setCell (Nat.le_refl _) _⟩
      refine Fresh.mono (lo := w1.heap.size) ?_ (by omega) (fun _ _ _ => rfl)
      exact ((HFR3.out.setCell (by show w.heap.size < _; omega) _).setCell (by show w.heap.size < _; omega) _).setCell (by show w.heap.size < _; omega) _
  · have HV : Hid (readB g root defs = none) := readB_no hok
    cases hg : graphB g defs with
    | false =>
      clear hok hg
      go_wp2_with fail
      refine bodyPost_ret (v := .tuple #[.agg #[.int .i64 0, .int .i64 0, .slice none 0 0], .bool false]) (by simp [results, Try.results24, go_sem, r0, r1, r2, rf]) rfl ?_
      rw [HV.out]
      exact ⟨rfl, ((HB1.out.setCell (Nat.le_refl _) _).setCell (Nat.le_refl _) _).setCell (Nat.le_refl _) _⟩
    | true =>
      by_cases h0 : root < 0
      · clear hok hg
        go_wp2_with fail
        refine bodyPost_ret (v := .tuple #[.agg #[.int .i64 0, .int .i64 0, .slice none 0 0], .bool false]) (by simp [results, Try.results24, go_sem, r0, r1, r2, rf]) rfl ?_
        rw [HV.out]
        exact ⟨rfl, ((HB1.out.setCell (Nat.le_refl _) _).setCell (Nat.le_refl _) _).setCell (Nat.le_refl _) _⟩
      · have h1 : (g.length : Int) ≤ root := by
          rcases Int.lt_or_le root g.length with h | h
          · exact absurd ⟨hg, by unfold isAt; simp; omega⟩ hok
          · exact h
        clear hok hg
        go_wp2_with fail
        refine bodyPost_ret (v := .tuple #[.agg #[.int .i64 0, .int .i64 0, .slice none 0 0], .bool false]) (by simp [results, Try.results24, go_sem, r0, r1, r2, rf]) rfl ?_
        rw [HV.out]
        exact ⟨rfl, ((HB1.out.setCell (Nat.le_refl _) _).setCell (Nat.le_refl _) _).setCell (Nat.le_refl _) _⟩
end Go.Proofs.Ytjdlfpdljmohiaa
/-
  THE PROGRAM's arena, wherever it lies: one cell more.
-/
namespace Go.Proofs.Ytjdlfpdljmohiaa
set_option linter.unusedVariables false
set_option linter.unusedSimpArgs false
open Go.RowKit

theorem row_ne_cells {w : World} {A lo n : Nat} {T : TypeId} {CC : Array Value} {gv : Value} {xs : List Value} (hT : T ≠ 35) (hA : w.heap[A]? = some (.cells CC T)) (hx : w.ownsRow lo 35 3 gv n xs) : some A ≠ gv.ownBlock := by
  intro e
  rcases hx.2 with ⟨rfl, -⟩ | ⟨b, cap, cur, rfl, -, hh, -⟩
  · simp [Value.ownBlock] at e
  · simp only [Value.ownBlock, Option.some.injEq] at e
    subst e
    rw [hh] at hA
    simp only [Option.some.injEq, Obj.cells.injEq] at hA
    exact hT hA.2.1.symm
theorem grown_drew {w w5 : World} {b : Option Nat} (h : w.drew.grownBy w5 b) : w.grownBy w5 b := ⟨h.os, h.tape, h.output, h.size, h.block⟩
theorem arp_keep {w w5 : World} {A lo n : Nat} {T : TypeId} {CC : Array Value} {gv : Value} {xs : List Value} {o1 o2 : Obj} (hT : T ≠ 35) (hA : w.heap[A]? = some (.cells CC T)) (hx : w.ownsRow lo 35 3 gv n xs) (hg : ((w.alloc o1).alloc o2).grownBy w5 gv.ownBlock) : w5.heap[A]? = some (.cells CC T) := by
  have hl : A < w.heap.size := (Array.getElem?_eq_some_iff.1 hA).1
  exact ((hg.block A (by rw [Deep.nblk_alloc, Deep.nblk_alloc]; omega) (row_ne_cells hT hA hx)).trans ((Deep.blk_alloc_lt _ _ _ (by rw [Deep.nblk_alloc]; omega)).trans (Deep.blk_alloc_lt _ _ _ hl))).trans hA

/-- what add hands back: the cell's place; its row is the arena's -/
def AddedP (A q lo n : Nat) (o m : Int) (gv kv : Value) (xs : List Value) (w : World) (e : Ending) (w' : World) : Prop :=
  ∃ v' w5, e = .returned (.int .i64 (n : Int)) ∧ w5.ownsRow lo 35 3 v' (n + 1) (xs ++ [.int .i64 o, .int .i64 m, kv]) ∧ ((w.alloc (.cells #[.int .i64 o, .int .i64 m, kv] 35)).alloc (.cells #[.int .i64 o, .int .i64 m, kv] 35)).grownBy w5 gv.ownBlock ∧ (v'.ownBlock = gv.ownBlock ∨ ∃ g, v'.ownBlock = some g ∧ ((w.alloc (.cells #[.int .i64 o, .int .i64 m, kv] 35)).alloc (.cells #[.int .i64 o, .int .i64 m, kv] 35)).heap.size ≤ g) ∧ w' = w5.setCell ⟨A, q, none⟩ v'

set_option maxRecDepth 100000 in
set_option maxHeartbeats 1600000 in
theorem addP_calls (A q : Nat) (T : TypeId) (CC : Array Value) (hT : T ≠ 35) (lo n : Nat) (o m : Int) (gv : Value) (adk : Option Addr) (nk ck : Nat) (xs : List Value) (w : World) (hA : w.heap[A]? = some (.cells CC T)) (hq : CC[q]? = some gv) (hx : w.ownsRow lo 35 3 gv n xs) (hlo : lo ≤ w.heap.size) (hn : n ≤ 500000) :
    Calls Try.prog 84 #[.pointer (some ⟨A, q, none⟩), .agg #[.int .i64 o, .int .i64 m, .slice adk nk ck]] w (AddedP A q lo n o m gv (.slice adk nk ck) xs w) := by
  have HA : Hid (w.heap[A]? = some (.cells CC T)) := hA
  have HX : Hid (w.ownsRow lo 35 3 gv n xs) := hx
  have a0 := cell_of_blk hA q _ hq
  have af := frz_of_blk hA q
  obtain ⟨ad, cap, rfl⟩ : ∃ ad cap, gv = .slice ad n cap := by
    rcases hx.2 with ⟨rfl, h0⟩ | ⟨b, cap, cur, rfl, -⟩
    · exact ⟨none, 0, by rw [h0]⟩
    · exact ⟨_, _, rfl⟩
  have HQ := mkHid hq
  clear hA hx hq
  go_enter Try.func84, Try.ntmps84
  have p0 := old_cell a0 (.cells #[.int .i64 o, .int .i64 m, .slice adk nk ck] 35)
  have p1 := old_cell p0 (.cells #[.int .i64 o, .int .i64 m, .slice adk nk ck] 35)
  have b0 := box_cell w #[.int .i64 o, .int .i64 m, .slice adk nk ck] 35 0 _ rfl
  have b1 := box_cell w #[.int .i64 o, .int .i64 m, .slice adk nk ck] 35 1 _ rfl
  have b2 := box_cell w #[.int .i64 o, .int .i64 m, .slice adk nk ck] 35 2 _ rfl
  obtain ⟨iC, zC, hII⟩ := infoC1
  have HII : Hid (Try.prog.info? 35 = some iC ∧ iC.zero = some zC ∧ iC.size = 3 ∧ iC.bytes = 40 ∧ zC.cells.size = 3) := hII
  have HX2 : Hid (((w.alloc (.cells #[.int .i64 o, .int .i64 m, .slice adk nk ck] 35)).alloc (.cells #[.int .i64 o, .int .i64 m, .slice adk nk ck] 35)).drew.ownsRow lo 35 3 (.slice ad n cap) n xs) := own_keep (own_keep (own_keep HX.out (fun k _ hk => Deep.blk_alloc_lt _ _ _ hk)) (fun k _ hk => Deep.blk_alloc_lt _ _ _ hk)) (fun _ _ _ => rfl)
  clear hII
  go_wp2_with fail
  go_region_law (refine step_append_where rfl (.tmp 9) (.tmp 11) 23 rfl lo 35 iC zC 3 40 Try.underlying23 HII.out.1 HII.out.2.1 HII.out.2.2.1 HII.out.2.2.2.1 HII.out.2.2.2.2 (by decide) (.slice ad n cap) n xs (by simp [Act.eval, Act.put]) HX2.out ⟨w.heap.size + 1, 0, none⟩ 1 1 [.int .i64 o, .int .i64 m, .slice adk nk ck] (by simp [Act.eval, Act.put]) rfl (by have h := news3c (w.alloc (.cells #[.int .i64 o, .int .i64 m, .slice adk nk ck] 35)) (.int .i64 o) (.int .i64 m) (.slice adk nk ck); rw [Deep.nblk_alloc] at h; exact h) (by simp [Value.oneCell']) (by unfold maxLen; omega) (by omega) (by show lo ≤ ((w.alloc _).alloc _).heap.size; simp only [Deep.nblk_alloc]; omega) (by omega) ?_; intro v' w5 hown hg0 hw; have hg := grown_drew hg0; clear hg0; obtain ⟨g', c', rfl, -, -, -, -⟩ := own_form hown (by omega); have s2 := cell_of_blk (arp_keep hT HA.out HX.out hg) q _ HQ.out; have sf := frz_of_blk (arp_keep hT HA.out HX.out hg) q)
  all_goals
    have hn0 : ¬ ((n : Int) + 1 - 1 < 0) := by omega
    have h64 : IntKind.i64.wrap ((n : Int) + 1 - 1) = (n : Int) := by rw [show (n : Int) + 1 - 1 = (n : Int) by omega]; exact IntWalk.i64_in _ (by omega)
    go_wp2_with fail
    go_ret
    exact ⟨_, w5, rfl, hown, hg, hw, rfl⟩
end Go.Proofs.Ytjdlfpdljmohiaa
/-
  THE PROGRAM's arena: one cell more.
-/
namespace Go.Proofs.Ytjdlfpdljmohiaa
set_option linter.unusedVariables false
set_option linter.unusedSimpArgs false
open Go.RowKit

theorem cells_ne_arena {w : World} {A lo n : Nat} {gv gv0 : Value} {xs : List Value} (hA : w.heap[A]? = some (.cells #[gv0] 89)) (hx : w.ownsRow lo 35 3 gv n xs) : some A ≠ gv.ownBlock := by
  intro e
  rcases hx.2 with ⟨rfl, -⟩ | ⟨b, cap, cur, rfl, -, hh, -⟩
  · simp [Value.ownBlock] at e
  · simp only [Value.ownBlock, Option.some.injEq] at e
    subst e
    rw [hh] at hA
    simp at hA
theorem ar_keep {w w5 : World} {A lo n : Nat} {gv : Value} {xs : List Value} {o1 o2 : Obj} (hA : w.heap[A]? = some (.cells #[gv] 89)) (hx : w.ownsRow lo 35 3 gv n xs) (hg : ((w.alloc o1).alloc o2).grownBy w5 gv.ownBlock) : w5.heap[A]? = some (.cells #[gv] 89) := by
  have hl : A < w.heap.size := (Array.getElem?_eq_some_iff.1 hA).1
  exact ((hg.block A (by rw [Deep.nblk_alloc, Deep.nblk_alloc]; omega) (cells_ne_arena hA hx)).trans ((Deep.blk_alloc_lt _ _ _ (by rw [Deep.nblk_alloc]; omega)).trans (Deep.blk_alloc_lt _ _ _ hl))).trans hA

/-- what add hands back: the cell's place; its row is the arena's -/
abbrev Added (A lo n : Nat) (o m : Int) (gv kv : Value) (xs : List Value) (w : World) (e : Ending) (w' : World) : Prop := AddedP A 0 lo n o m gv kv xs w e w'
theorem arena_not_cell : (89 : TypeId) ≠ 35 := by decide
theorem add_calls (A lo n : Nat) (o m : Int) (gv : Value) (adk : Option Addr) (nk ck : Nat) (xs : List Value) (w : World) (hA : w.heap[A]? = some (.cells #[gv] 89)) (hx : w.ownsRow lo 35 3 gv n xs) (hlo : lo ≤ w.heap.size) (hn : n ≤ 500000) :
    Calls Try.prog 84 #[.pointer (some ⟨A, 0, none⟩), .agg #[.int .i64 o, .int .i64 m, .slice adk nk ck]] w (Added A lo n o m gv (.slice adk nk ck) xs w) :=
  addP_calls A 0 89 #[gv] arena_not_cell lo n o m gv adk nk ck xs w hA rfl hx hlo hn
end Go.Proofs.Ytjdlfpdljmohiaa
/-
  THE PROGRAM's foldExpr with the closure of addExpr: the cells of an expression, added to an arena.
-/
namespace Go.Proofs.Ytjdlfpdljmohiaa
set_option linter.unusedVariables false
set_option linter.unusedSimpArgs false
open Go.RowKit

/-- nothing changed but one row and block A -/
structure Kept (w w' : World) (A : Nat) (row : Option Nat) : Prop where
  os : w'.os = w.os
  tape : w'.tape = w.tape
  output : w'.output = w.output
  size : w.heap.size ≤ w'.heap.size
  block : ∀ k, k < w.heap.size → some k ≠ row → k ≠ A → w'.heap[k]? = w.heap[k]?
/-- a graph that is being built stays where its rows stay: rows of ints and the row of cells -/
theorem OwnC.next2 {w w' : World} {lo : Nat} {S S' : Nat → Prop} {g : List Ce} {v : Value} (h : OwnC w lo S g v) (hS : ∀ k, S k → k < w.heap.size → S' k) (hr : ∀ k, some k = v.ownBlock → k < w.heap.size → w'.heap[k]? = w.heap[k]?) (hb : ∀ k C, S k → k < w.heap.size → w.heap[k]? = some (.cells C 3 (0, 0)) → w'.heap[k]? = w.heap[k]?) : OwnC w' lo S' g v := by
  obtain ⟨hi0, xs, kb, h1, h2, h3⟩ := h
  refine ⟨hi0, xs, kb, ?_, fun j hj => ?_, h3⟩
  · refine ⟨h1.1, ?_⟩
    rcases h1.2 with h | ⟨b, cap, cur, rfl, hg, hh, r⟩
    · exact Or.inl h
    · exact Or.inr ⟨b, cap, cur, rfl, hg, (hr b rfl (Array.getElem?_eq_some_iff.1 hh).1).trans hh, r⟩
  · obtain ⟨kv, e0, e1, e2, e3⟩ := h2 j hj
    exact ⟨kv, e0, e1, e2, e3.keep hS fun C h1 h2 hC => hb _ C h1 h2 hC⟩

def FdRes (r : List Ce × Nat) (lo : Nat) (S : Nat → Prop) (gv : Value) (A : Nat) (w : World) (e : Ending) (w' : World) : Prop :=
  ∃ gv', e = .returned (.int .i64 (r.2 : Int)) ∧ OwnC w' lo (fun b => S b ∨ w.heap.size ≤ b) r.1 gv' ∧ w'.heap[A]? = some (.cells #[gv'] 89) ∧ Kept w w' A gv.ownBlock ∧ (gv'.ownBlock = gv.ownBlock ∨ ∃ g, gv'.ownBlock = some g ∧ w.heap.size ≤ g)
/-- blocks of T are there, and none of them is the arena or the row of its cells -/
def Free (T : Nat → Prop) (w : World) (A : Nat) (gv : Value) : Prop := ∀ b, T b → b < w.heap.size ∧ some b ≠ gv.ownBlock ∧ b ≠ A
def FdSaid (args : List Nat) (av : Value) (t : Tr) : Prop := ∀ (gv c : Value) (lo A xb ab : Nat) (S T : Nat → Prop) (cs : List Ce) (w : World), OwnC w lo S cs gv → w.heap[A]? = some (.cells #[gv] 89) → w.heap[xb]? = some (.cells #[av] 33) → w.heap[ab]? = some (.cells #[.pointer (some ⟨A, 0, none⟩)] 85) →
  lo ≤ w.heap.size → Free T w A gv → IntsOn w T (args.map fun (a : Nat) => (a : Int)) av → KidsOn w T t.kids c → cs.length + szT t ≤ 500000 → args.length ≤ 1048576 → I64 t.op → I64 t.num → AllT (VarOk args.length) t →
  Calls Try.prog 86 #[.agg #[.int .i64 t.op, .int .i64 t.num, c], .func (.func 87) #[] #[.pointer (some ⟨xb, 0, none⟩), .pointer (some ⟨ab, 0, none⟩)]] w (FdRes (addT args t cs) lo S gv A w)

/-- the closure, at a node that is no variable -/
def CloRes (A lo n : Nat) (o m : Int) (gv kv : Value) (xs : List Value) (w : World) (e : Ending) (w' : World) : Prop := ∃ ob, Added A lo n o m gv kv xs (w.alloc ob) e w'
set_option maxRecDepth 100000 in
set_option maxHeartbeats 1600000 in
theorem clo_add (A lo n xb ab : Nat) (o m : Int) (c gv : Value) (adk : Option Addr) (nk ck : Nat) (xs : List Value) (w : World) (h1 : ¬ o = 1) (hA : w.heap[A]? = some (.cells #[gv] 89)) (hab : w.heap[ab]? = some (.cells #[.pointer (some ⟨A, 0, none⟩)] 85)) (hx : w.ownsRow lo 35 3 gv n xs) (hlo : lo ≤ w.heap.size) (hn : n ≤ 500000) :
    Calls Try.prog 87 #[.agg #[.int .i64 o, .int .i64 m, c], .slice adk nk ck, .pointer (some ⟨xb, 0, none⟩), .pointer (some ⟨ab, 0, none⟩)] w (CloRes A lo n o m gv (.slice adk nk ck) xs w) := by
  have t1 : (o == 1) = false := by simpa using h1
  have HA : Hid (w.heap[A]? = some (.cells #[gv] 89)) := hA
  have HX : Hid (w.ownsRow lo 35 3 gv n xs) := hx
  have p0 := old_cell (cell_of_blk hab 0 _ rfl) (.cells #[.int .i64 o, .int .i64 m, c] 30)
  clear h1 hA hab hx
  go_enter Try.func87, Try.ntmps87
  go_wp2_with fail
  refine (add_calls A lo n o m gv adk nk ck xs _ ((Deep.blk_alloc_lt _ _ _ (Array.getElem?_eq_some_iff.1 HA.out).1).trans HA.out) (own_keep HX.out (fun k _ hk => Deep.blk_alloc_lt _ _ _ hk)) (by rw [Deep.nblk_alloc]; omega) hn).mono ?_
  rintro e w' ⟨v', w5, rfl, h1, h2, h3, rfl⟩
  have HR : Hid (CloRes A lo n o m gv (.slice adk nk ck) xs w (.returned (.int .i64 (n : Int))) (w5.setCell ⟨A, 0, none⟩ v')) := ⟨_, v', w5, rfl, h1, h2, h3, rfl⟩
  clear h1 h2 h3
  go_wp2_with fail
  go_ret
  exact HR.out

/-- where the operands' rows of the graph lie while the operands of a cell are gathered in kv -/
def SF (w : World) (S : Nat → Prop) (kv : Value) : Nat → Prop := fun b => ((S b ∧ b < w.heap.size) ∨ w.heap.size + 1 ≤ b) ∧ some b ≠ kv.ownBlock
/-- what holds behind k operands -/
structure FdRel (args : List Nat) (t : Tr) (cs : List Ce) (lo : Nat) (S : Nat → Prop) (A : Nat) (gv0 ebox : Value) (w : World) (k : Nat) (gv kv : Value) (wr : World) : Prop where
  graph : OwnC wr lo (SF w S kv) (addL args (t.kids.take k) cs).1 gv
  arena : wr.heap[A]? = some (.cells #[gv] 89)
  kids : Stk wr (w.heap.size + 1) (addL args (t.kids.take k) cs).2 kv
  ebx : wr.heap[w.heap.size]? = some (.cells #[.int .i64 t.op, .int .i64 t.num, ebox] 30)
  kept : Kept w wr A gv0.ownBlock
  size : w.heap.size + 1 ≤ wr.heap.size
  own : gv.ownBlock = gv0.ownBlock ∨ ∃ g, gv.ownBlock = some g ∧ w.heap.size + 1 ≤ g
theorem FdRel.gown {args : List Nat} {t : Tr} {cs : List Ce} {lo A : Nat} {S : Nat → Prop} {gv0 ebox : Value} {w : World} {k : Nat} {gv kv : Value} {wr : World} (h : FdRel args t cs lo S A gv0 ebox w k gv kv wr) : ∀ b, some b = gv.ownBlock → some b = gv0.ownBlock ∨ w.heap.size + 1 ≤ b := by
  intro b hb
  rcases h.own with e | ⟨g, e, hg⟩
  · exact Or.inl (hb.trans e)
  · rw [e] at hb; simp only [Option.some.injEq] at hb; exact Or.inr (by omega)
/-- one operand more -/
theorem fd_push {args : List Nat} {t : Tr} {cs : List Ce} {lo A : Nat} {S : Nat → Prop} {gv0 ebox : Value} {w : World} {k : Nat} {gv kv : Value} {wr : World} (h : FdRel args t cs lo S A gv0 ebox w k gv kv wr) (hk : k < t.kids.length) (hg0 : ∀ b, gv0.ownBlock = some b → b < w.heap.size) (hA : A < w.heap.size) (o1 : Obj) {gv' : Value} {w2 : World}
    (hg : OwnC w2 lo (fun b => SF w S kv b ∨ (wr.alloc o1).heap.size ≤ b) (addT args t.kids[k] (addL args (t.kids.take k) cs).1).1 gv') (hA2 : w2.heap[A]? = some (.cells #[gv'] 89)) (hgr : Kept (wr.alloc o1) w2 A gv.ownBlock) (how : gv'.ownBlock = gv.ownBlock ∨ ∃ g, gv'.ownBlock = some g ∧ (wr.alloc o1).heap.size ≤ g) (o : Obj) {kv' : Value} {w5 : World}
    (hst : Stk w5 (w.heap.size + 1) ((addL args (t.kids.take k) cs).2 ++ [(addT args t.kids[k] (addL args (t.kids.take k) cs).1).2]) kv') (hgr5 : (w2.alloc o).grownBy w5 kv.ownBlock) (hw5 : kv'.ownBlock = kv.ownBlock ∨ ∃ g, kv'.ownBlock = some g ∧ (w2.alloc o).heap.size ≤ g) :
    FdRel args t cs lo S A gv0 ebox w (k + 1) gv' kv' w5 := by
  have hs := h.size
  have hs2 := hgr.size
  have hs5 := hgr5.size
  rw [Deep.nblk_alloc] at hs2 hs5 hw5 how hg
  have hkv : ∀ b, some b = kv.ownBlock → w.heap.size + 1 ≤ b ∧ b < wr.heap.size := fun b e => own_some h.kids b e.symm
  have k2 : ∀ b, b < wr.heap.size → some b ≠ gv.ownBlock → b ≠ A → w2.heap[b]? = wr.heap[b]? := fun b hb hn hne => (hgr.block b (by rw [Deep.nblk_alloc]; omega) hn hne).trans (Deep.blk_alloc_lt _ _ _ hb)
  have k5 : ∀ b, b < w2.heap.size → some b ≠ kv.ownBlock → w5.heap[b]? = w2.heap[b]? := fun b hb hn => (hgr5.block b (by rw [Deep.nblk_alloc]; omega) hn).trans (Deep.blk_alloc_lt _ _ _ hb)
  have q4 : Stk w2 (w.heap.size + 1) (addL args (t.kids.take k) cs).2 kv := by
    obtain ⟨ys, hy⟩ := h.graph.row
    refine ⟨h.kids.1, ?_⟩
    rcases h.kids.2 with h' | ⟨g, cap, cur, rfl, hg, hh, r⟩
    · exact Or.inl h'
    · exact Or.inr ⟨g, cap, cur, rfl, hg, (k2 g (Array.getElem?_eq_some_iff.1 hh).1 (fun e => own_ne hy h.kids g e rfl) (by omega)).trans hh, r⟩
  have e1 : addL args (t.kids.take (k + 1)) cs = _ := addL_take_succ args t.kids cs k hk
  have hkA : some A ≠ kv.ownBlock := fun e => by have := (hkv _ e).1; omega
  refine ⟨?_, ?_, ?_, ?_, ⟨?_, ?_, ?_, ?_, ?_⟩, ?_, ?_⟩
  · rw [e1]
    refine hg.next2 (fun b hb hb2 => ?_) (fun b e hb => ?_) (fun b C hS hb _ => ?_)
    · refine ⟨?_, fun e => ?_⟩
      · rcases hb with hb | hb
        · exact hb.1
        · exact Or.inr (by omega)
      · rcases hw5 with e5 | ⟨g, e5, hg5⟩
        · rw [e5] at e
          rcases hb with hb | hb
          · exact hb.2 e
          · have := (hkv b e).2; omega
        · rw [e5] at e
          simp only [Option.some.injEq] at e
          omega
    · obtain ⟨ys, hy⟩ := hg.row
      exact k5 b hb (own_ne hy q4 b e)
    · rcases hS with hS | hS
      · exact k5 b hb hS.2
      · exact k5 b hb (fun e => by have := (hkv b e).2; omega)
  · rw [k5 A (by omega) hkA]; exact hA2
  · rw [e1]; exact hst
  · rw [k5 _ (by omega) (fun e => by have := (hkv _ e).1; omega), k2 _ (by omega) (fun e => by rcases h.gown _ e with e | e; have := hg0 _ e.symm; omega; omega) (by omega)]
    exact h.ebx
  · rw [hgr5.os]; exact hgr.os.trans h.kept.os
  · rw [hgr5.tape]; exact hgr.tape.trans h.kept.tape
  · rw [hgr5.output]; exact hgr.output.trans h.kept.output
  · omega
  · intro b hb hn hne
    rw [k5 b (by omega) (fun e => by have := (hkv _ e).1; omega), k2 b (by omega) (fun e => by rcases h.gown _ e with e | e; exact hn e; omega) hne]
    exact h.kept.block b hb hn hne
  · omega
  · rcases how with e | ⟨g, e, hg⟩
    · rw [e]; exact h.own
    · exact Or.inr ⟨g, e, by omega⟩
/-- behind all operands: the cell -/
theorem fd_end {args : List Nat} {t : Tr} {cs : List Ce} {lo A : Nat} {S : Nat → Prop} {gv0 ebox : Value} {w : World} {gv kv : Value} {wr : World} (h : FdRel args t cs lo S A gv0 ebox w t.kids.length gv kv wr) (h1 : ¬ t.op = 1) (hg0 : ∀ b, gv0.ownBlock = some b → b < w.heap.size) (hA : A < w.heap.size) (ho : I64 t.op) (hn : I64 t.num) {xs : List Value}
    (hx : wr.ownsRow lo 35 3 gv (addL args t.kids cs).1.length xs) {e : Ending} {w' : World} (hr : CloRes A lo (addL args t.kids cs).1.length t.op t.num gv kv xs wr e w') : FdRes (addT args t cs) lo S gv0 A w e w' := by
  obtain ⟨ob, v', w5, rfl, hown, hg, hw, rfl⟩ := hr
  have hs := h.size
  have hG := h.graph
  have hK := h.kids
  rw [List.take_length] at hG hK
  have hz : ∀ o1 o2, ((((wr.alloc ob).alloc o1).alloc o2)).heap.size = wr.heap.size + 3 := fun o1 o2 => by rw [Deep.nblk_alloc, Deep.nblk_alloc, Deep.nblk_alloc]
  have hs5 := hg.size
  rw [hz] at hs5 hw
  have hkeep : ∀ o1 o2 b, b < wr.heap.size → (((wr.alloc ob).alloc o1).alloc o2).heap[b]? = wr.heap[b]? := fun o1 o2 b hb => (Deep.blk_alloc_lt _ _ _ (by rw [Deep.nblk_alloc, Deep.nblk_alloc]; omega)).trans ((Deep.blk_alloc_lt _ _ _ (by rw [Deep.nblk_alloc]; omega)).trans (Deep.blk_alloc_lt _ _ _ hb))
  have hG4 : OwnC (((wr.alloc ob).alloc (.cells #[.int .i64 t.op, .int .i64 t.num, kv] 35)).alloc (.cells #[.int .i64 t.op, .int .i64 t.num, kv] 35)) lo (SF w S kv) (addL args t.kids cs).1 gv := hG.next (fun _ h _ => h) (fun b _ hb => hkeep _ _ b hb) (fun b _ hb => hkeep _ _ b hb)
  obtain ⟨blk, hb1, hb2, hb3⟩ : ∃ blk, w.heap.size ≤ blk ∧ ¬ SF w S kv blk ∧ KRowS (((wr.alloc ob).alloc (.cells #[.int .i64 t.op, .int .i64 t.num, kv] 35)).alloc (.cells #[.int .i64 t.op, .int .i64 t.num, kv] 35)) (fun b => b = blk) ((addL args t.kids cs).2.map fun (a : Nat) => (a : Int)) blk kv := by
    obtain ⟨blk, h1, h2⟩ := stk_krow (((hK.alloc ob).alloc (.cells #[.int .i64 t.op, .int .i64 t.num, kv] 35)).alloc (.cells #[.int .i64 t.op, .int .i64 t.num, kv] 35))
    by_cases he : (addL args t.kids cs).2 = []
    · refine ⟨w.heap.size, Nat.le_refl _, fun h => by rcases h.1 with h | h <;> omega, ?_⟩
      obtain ⟨ad, cap, e, l1, l2, -⟩ := h2
      exact ⟨ad, cap, e, l1, l2, Or.inl (by rw [he]; rfl)⟩
    · exact ⟨blk, by have := (own_some hK blk (h1 he)).1; omega, fun h => h.2 (h1 he).symm, h2⟩
  have hx4 := own_keep hx (w' := ((wr.alloc ob).alloc (.cells #[.int .i64 t.op, .int .i64 t.num, kv] 35)).alloc (.cells #[.int .i64 t.op, .int .i64 t.num, kv] 35)) (fun b _ hb => hkeep _ _ b hb)
  have hst := hG4.step (c := ⟨t.op, t.num, (addL args t.kids cs).2.map fun (a : Nat) => (a : Int)⟩) (v' := v') ⟨ho, hn⟩ hb3 hb2 xs hx4 hown hg
  have hAg : some A ≠ gv.ownBlock := cells_ne_arena h.arena hx
  have hA5 : w5.heap[A]? = some (.cells #[gv] 89) := ((hg.block A (by rw [hz]; omega) hAg).trans (hkeep _ _ A (by omega))).trans h.arena
  have hAv : some A ≠ v'.ownBlock := cells_ne_arena hA5 hown
  rw [addT_other cs h1]
  refine ⟨v', rfl, hst.next2 (fun b hb _ => ?_) (fun b e hb => Below.heap_setCell _ _ _ _ (fun e2 => hAv (by have e3 : b = A := e2; rw [← e3]; exact e))) (fun b C hS hb hC => Below.heap_setCell _ _ _ _ (fun e2 => ?_)), ?_, ⟨?_, ?_, ?_, ?_, ?_⟩, ?_⟩
  · rcases hb with hb | rfl
    · rcases hb.1 with hb | hb
      · exact Or.inl hb.1
      · exact Or.inr (by omega)
    · exact Or.inr hb1
  · have e3 : b = A := e2
    subst e3
    rw [hA5] at hC
    simp at hC
  · simp [World.setCell, Array.getElem?_modify, hA5]
  · show w5.os = w.os
    rw [hg.os]; exact h.kept.os
  · show w5.tape = w.tape
    rw [hg.tape]; exact h.kept.tape
  · show w5.output = w.output
    rw [hg.output]; exact h.kept.output
  · rw [size_setCell]; omega
  · intro b hb hn hne
    rw [Below.heap_setCell _ _ _ _ hne, hg.block b (by rw [hz]; omega) (fun e => by rcases h.gown _ e with e | e; exact hn e; omega), hkeep _ _ b (by omega)]
    exact h.kept.block b hb hn hne
  · rcases hw with e | ⟨g, e, hg⟩
    · rw [e]
      rcases h.own with e | ⟨g, e, hg⟩
      · exact Or.inl e
      · exact Or.inr ⟨g, e, by omega⟩
    · exact Or.inr ⟨g, e, by omega⟩

theorem own_not {w : World} {lo n b : Nat} {v : Value} {xs : List Value} {C : Array Value} {T : TypeId} (hx : w.ownsRow lo 35 3 v n xs) (hb : w.heap[b]? = some (.cells C T)) (hT : ¬ 35 = T) : some b ≠ v.ownBlock := by
  intro e
  rcases hx.2 with ⟨rfl, -⟩ | ⟨g, cap, cur, rfl, -, hh, -⟩
  · simp [Value.ownBlock] at e
  · simp only [Value.ownBlock, Option.some.injEq] at e
    subst e
    rw [hh] at hb
    simp at hb
    exact hT hb.2
theorem fd_stk {args : List Nat} {t : Tr} {cs : List Ce} {lo A : Nat} {S : Nat → Prop} {gv0 ebox : Value} {w : World} {k : Nat} {gv kv : Value} {wr : World} (h : FdRel args t cs lo S A gv0 ebox w k gv kv wr) (hA : A < w.heap.size) (o1 : Obj) {w2 : World} (hgr : Kept (wr.alloc o1) w2 A gv.ownBlock) : Stk w2 (w.heap.size + 1) (addL args (t.kids.take k) cs).2 kv := by
  obtain ⟨ys, hy⟩ := h.graph.row
  refine ⟨h.kids.1, ?_⟩
  rcases h.kids.2 with h' | ⟨g, cap, cur, rfl, hg, hh, r⟩
  · exact Or.inl h'
  · have hl := (Array.getElem?_eq_some_iff.1 hh).1
    exact Or.inr ⟨g, cap, cur, rfl, hg, ((hgr.block g (by rw [Deep.nblk_alloc]; omega) (fun e => own_ne hy h.kids g e rfl) (by omega)).trans (Deep.blk_alloc_lt _ _ _ hl)).trans hh, r⟩
/-- the closure, at a variable -/
def CloVar (a : Nat) (w : World) (e : Ending) (w' : World) : Prop := e = .returned (.int .i64 (a : Int)) ∧ Below w.heap.size w w'
set_option maxRecDepth 100000 in
set_option maxHeartbeats 1600000 in
theorem clo_var (args : List Nat) (n xb ab : Nat) (T : Nat → Prop) (c kv av : Value) (w : World) (hn : n < args.length) (hxb : w.heap[xb]? = some (.cells #[av] 33)) (ha : IntsOn w T (args.map fun (a : Nat) => (a : Int)) av) (hal : args.length ≤ 1048576) :
    Calls Try.prog 87 #[.agg #[.int .i64 1, .int .i64 (n : Int), c], kv, .pointer (some ⟨xb, 0, none⟩), .pointer (some ⟨ab, 0, none⟩)] w (CloVar args[n] w) := by
  obtain ⟨ada, capa, rfl, hl2, hm2, -⟩ := id ha
  unfold maxLen at hm2
  obtain ⟨bl, off, rfl, hbl, d0⟩ := IntsOn.atS ha n (by simpa using hn)
  simp only [List.getElem_map] at d0
  have d1 := old_cell d0 (.cells #[.int .i64 1, .int .i64 (n : Int), c] 30)
  have p0 := old_cell (cell_of_blk hxb 0 _ rfl) (.cells #[.int .i64 1, .int .i64 (n : Int), c] 30)
  rw [List.length_map] at *
  clear hxb ha hbl d0
  go_enter Try.func87, Try.ntmps87
  go_wp2_with fail
  go_ret
  exact ⟨rfl, box_below _ _⟩
theorem fd_var {args : List Nat} {t : Tr} {cs : List Ce} {lo A : Nat} {S : Nat → Prop} {gv0 ebox : Value} {w : World} {gv kv : Value} {wr : World} (h : FdRel args t cs lo S A gv0 ebox w t.kids.length gv kv wr) (h1 : t.op = 1) (hk : t.kids = []) {n : Nat} (hnn : t.num = n) (hn : n < args.length) {e : Ending} {w' : World} (hr : CloVar args[n] wr e w') : FdRes (addT args t cs) lo S gv0 A w e w' := by
  obtain ⟨rfl, hb⟩ := hr
  have hs := h.size
  have hG := h.graph
  rw [List.take_length, hk] at hG
  simp only [addL] at hG
  rw [addT_var cs h1, hnn]
  have e1 : args.getD (n : Int).toNat 0 = args[n] := by simp [hn]
  rw [e1]
  have hAl := (Array.getElem?_eq_some_iff.1 h.arena).1
  refine ⟨gv, rfl, hG.next (fun b hb _ => ?_) (fun b _ hb' => hb.block b hb') (fun b _ hb' => hb.block b hb'), (hb.block A hAl).trans h.arena, ⟨hb.os.trans h.kept.os, hb.tape.trans h.kept.tape, hb.output.trans h.kept.output, by have := hb.size; omega, fun b hb' hn' hne => (hb.block b (by omega)).trans (h.kept.block b hb' hn' hne)⟩, ?_⟩
  · rcases hb.1 with hb | hb
    · exact Or.inl hb.1
    · exact Or.inr (by omega)
  · rcases h.own with e | ⟨g, e, hg⟩
    · exact Or.inl e
    · exact Or.inr ⟨g, e, by omega⟩

set_option maxRecDepth 100000 in
set_option maxHeartbeats 1600000 in
theorem fd_step (args : List Nat) (av : Value) (t : Tr) (ih : ∀ i (hi : i < t.kids.length), FdSaid args av (t.kids[i])) : FdSaid args av t := by
  intro gv c lo A xb ab S T cs w hg hA hxb hab hlo hT ha hk hz hal ho hn hp
  have HFT : Hid (Free T w A gv) := hT
  have HI : Hid (∀ i (hi : i < t.kids.length), FdSaid args av (t.kids[i])) := ih
  have HG : Hid (OwnC w lo S cs gv) := hg
  have HA : Hid (IntsOn w T (args.map fun (a : Nat) => (a : Int)) av) := ha
  have HK : Hid (KidsOn w T t.kids c) := hk
  have HT : Hid (I64 t.op ∧ I64 t.num) := ⟨ho, hn⟩
  have HPT : Hid (AllT (VarOk args.length) t) := hp
  have HG0 : Hid (∀ b, gv.ownBlock = some b → b < w.heap.size) := fun b hb => by obtain ⟨ys, hy⟩ := hg.row; exact (own_some hy b hb).2
  have HBX : Hid (w.heap[A]? = some (.cells #[gv] 89) ∧ w.heap[xb]? = some (.cells #[av] 33) ∧ w.heap[ab]? = some (.cells #[.pointer (some ⟨A, 0, none⟩)] 85)) := ⟨hA, hxb, hab⟩
  have hAl : A < w.heap.size := (Array.getElem?_eq_some_iff.1 hA).1
  have HGO : Hid (∀ b, some b = gv.ownBlock → lo ≤ b) := fun b hb => by obtain ⟨ys, hy⟩ := hg.row; exact (own_some hy b hb.symm).1
  have HXB : Hid (xb < w.heap.size ∧ some xb ≠ gv.ownBlock ∧ xb ≠ A) := by
    obtain ⟨ys, hy⟩ := hg.row
    refine ⟨(Array.getElem?_eq_some_iff.1 hxb).1, own_not hy hxb (by decide), fun e => ?_⟩
    rw [e, hA] at hxb
    simp at hxb
  have HAB : Hid (ab < w.heap.size ∧ some ab ≠ gv.ownBlock ∧ ab ≠ A) := by
    obtain ⟨ys, hy⟩ := hg.row
    refine ⟨(Array.getElem?_eq_some_iff.1 hab).1, own_not hy hab (by decide), fun e => ?_⟩
    rw [e, hA] at hab
    simp at hab
  obtain ⟨ad, cap, rfl, hl, hm, -⟩ := hk
  unfold maxLen at hm
  clear ih hg ho hn hp hA hxb hab ha
  go_enter Try.func86, Try.ntmps86
  obtain ⟨wC, hwC⟩ : ∃ wC : World, wC = w.alloc (.cells #[.int .i64 t.op, .int .i64 t.num, .slice ad t.kids.length cap] 30) := ⟨_, rfl⟩
  have HWC : Hid (wC = w.alloc (.cells #[.int .i64 t.op, .int .i64 t.num, .slice ad t.kids.length cap] 30)) := hwC
  have HST : Hid (FdRel args t cs lo S A gv (.slice ad t.kids.length cap) w 0 gv (.slice none 0 0) wC) := by
    have hz2 : wC.heap.size = w.heap.size + 1 := by rw [hwC, Deep.nblk_alloc]
    have hbl : ∀ b, b < w.heap.size → wC.heap[b]? = w.heap[b]? := fun b hb => by rw [hwC, Deep.blk_alloc_lt _ _ _ hb]
    refine ⟨?_, (hbl A hAl).trans HBX.out.1, ?_, by rw [hwC]; exact Deep.blk_alloc_new _ _, ⟨by rw [hwC]; rfl, by rw [hwC]; rfl, by rw [hwC]; rfl, by omega, fun b hb _ _ => hbl b hb⟩, by omega, Or.inl rfl⟩
    · simp only [List.take_zero, addL]
      exact HG.out.next (fun b hb hb2 => ⟨Or.inl ⟨hb, hb2⟩, by simp [Value.ownBlock]⟩) (fun b _ hb => hbl b hb) (fun b _ hb => hbl b hb)
    · simp only [List.take_zero, addL]
      exact World.ownsRow_nil _ _ _ _
  clear hwC
  go_wp2_with fail
  rw [← HWC.out]
  go_loopw [5, 11] (fun kv i wr => ∃ (k : Nat) (gvk : Value), k ≤ t.kids.length ∧ i = .int .i64 k ∧ FdRel args t cs lo S A gv (.slice ad t.kids.length cap) w k gvk kv wr) (fun _ i _ => t.kids.length - (intOf i).toNat)
  case atStart => exact ⟨0, _, Nat.zero_le _, rfl, HST.out⟩
  case round =>
    obtain ⟨k, gvk, hk, rfl, hrd⟩ := hrel
    have HRD : Hid (FdRel args t cs lo S A gv (.slice ad t.kids.length cap) w k gvk u5 wr) := hrd
    have hsz := hrd.size
    have HOLD : Hid (∀ b, T b → wr.heap[b]? = w.heap[b]?) := fun b hb => hrd.kept.block b (HFT.out b hb).1 (HFT.out b hb).2.1 (HFT.out b hb).2.2
    obtain ⟨adq, capq, rfl⟩ := hrd.kids.len
    have HX2 : Hid (wr.heap[xb]? = some (.cells #[av] 33)) := (hrd.kept.block xb HXB.out.1 HXB.out.2.1 HXB.out.2.2).trans HBX.out.2.1
    have HA2 : Hid (wr.heap[ab]? = some (.cells #[.pointer (some ⟨A, 0, none⟩)] 85)) := (hrd.kept.block ab HAB.out.1 HAB.out.2.1 HAB.out.2.2).trans HBX.out.2.2
    by_cases hlt : k < t.kids.length
    · have hkk := HK.out.mono (fun _ h => h) HOLD.out
      obtain ⟨adx, capx, hxe, -, -, hr⟩ := hkk
      cases hxe
      rcases hr with hnil | ⟨bl, off, rfl, hbl, hr⟩
      · rw [hnil] at hlt; simp at hlt
      obtain ⟨p, q, r, e0, e1, e2, ht⟩ := RowOn.at t.kids off k hlt hr
      obtain ⟨rfl, rfl, io, iN, hkc⟩ := trOn_iff.1 ht
      obtain ⟨adk, capk, rfl, -, -, -⟩ := id hkc
      have HKC : Hid (KidsOn wr T (t.kids[k]).kids (.slice adk (t.kids[k]).kids.length capk)) := hkc
      have HIO : Hid (I64 (t.kids[k]).op ∧ I64 (t.kids[k]).num) := ⟨io, iN⟩
      have HSZ : Hid (szL (t.kids.take k) + 1 + szT t.kids[k] ≤ szT t) := by
        have h1 := szL_take_succ t.kids k hlt
        have h2 := szL_take_le t.kids (k + 1)
        rw [Hid, szT_eq t]; omega
      have HSL := addL_size args (t.kids.take k) cs
      have hal1 : ∀ b, b < wr.heap.size → (wr.alloc (.cells #[.int .i64 t.kids[k].op, .int .i64 t.kids[k].num, .slice adk (t.kids[k]).kids.length capk] 30)).heap[b]? = wr.heap[b]? := fun b hb => Deep.blk_alloc_lt _ _ _ hb
      have hc1 : FdSaid args av t.kids[k] := HI.out k hlt
      have hc2 : OwnC (wr.alloc (.cells #[.int .i64 t.kids[k].op, .int .i64 t.kids[k].num, .slice adk (t.kids[k]).kids.length capk] 30)) lo (SF w S (.slice adq (addL args (t.kids.take k) cs).2.length capq)) (addL args (t.kids.take k) cs).1 gvk := HRD.out.graph.next (fun _ h _ => h) (fun b _ hb => hal1 b hb) (fun b _ hb => hal1 b hb)
      have hc3 : IntsOn (wr.alloc (.cells #[.int .i64 t.kids[k].op, .int .i64 t.kids[k].num, .slice adk (t.kids[k]).kids.length capk] 30)) T (args.map fun (a : Nat) => (a : Int)) av := HA.out.mono (fun _ h => h) (fun b hb => (hal1 b (by have := (HFT.out b hb).1; omega)).trans (HOLD.out b hb))
      have hc4 : (addL args (t.kids.take k) cs).1.length + szT t.kids[k] ≤ 500000 := by have := HSZ.out; have := HSL.2.1; omega
      have hc5 : KidsOn (wr.alloc (.cells #[.int .i64 t.kids[k].op, .int .i64 t.kids[k].num, .slice adk (t.kids[k]).kids.length capk] 30)) T (t.kids[k]).kids (.slice adk (t.kids[k]).kids.length capk) := HKC.out.mono (fun _ h => h) (fun b hb => hal1 b (by have := (HFT.out b hb).1; omega))
      have hc7 : Free T (wr.alloc (.cells #[.int .i64 t.kids[k].op, .int .i64 t.kids[k].num, .slice adk (t.kids[k]).kids.length capk] 30)) A gvk := fun b hb => by
        have h3 := HFT.out b hb
        refine ⟨by rw [Deep.nblk_alloc]; omega, fun e => ?_, h3.2.2⟩
        rcases HRD.out.gown b e with e | e
        · exact h3.2.1 e
        · omega
      have hc6 : lo ≤ (wr.alloc (.cells #[.int .i64 t.kids[k].op, .int .i64 t.kids[k].num, .slice adk (t.kids[k]).kids.length capk] 30)).heap.size := by rw [Deep.nblk_alloc]; omega
      have HCALL := hc1 gvk _ lo A xb ab _ T _ _ hc2 ((hal1 A (by omega)).trans HRD.out.arena) ((hal1 xb (by have := HXB.out.1; omega)).trans HX2.out) ((hal1 ab (by have := HAB.out.1; omega)).trans HA2.out) hc6 hc7 hc3 hc5 hc4 hal HIO.out.1 HIO.out.2 (HPT.out.kid k hlt)
      have HCALL := mkHid HCALL
      clear hc1 hc2 hc3 hc4 hc5 hc6 hc7
      go_wp2_with fail
      refine HCALL.out.mono ?_
      rintro e w2 ⟨gv', rfl, hg2, hA2, hgr2, how2⟩
      obtain ⟨nk, hnk⟩ : ∃ nk, nk = (addT args t.kids[k] (addL args (t.kids.take k) cs).1).2 := ⟨_, rfl⟩
      have HNK : Hid (nk = (addT args t.kids[k] (addL args (t.kids.take k) cs).1).2) := hnk
      have HG2 : Hid (OwnC w2 lo (fun b => SF w S (.slice adq (addL args (t.kids.take k) cs).2.length capq) b ∨ (wr.alloc (.cells #[.int .i64 t.kids[k].op, .int .i64 t.kids[k].num, .slice adk (t.kids[k]).kids.length capk] 30)).heap.size ≤ b) (addT args t.kids[k] (addL args (t.kids.take k) cs).1).1 gv') := hg2
      have HGR2 : Hid (Kept (wr.alloc (.cells #[.int .i64 t.kids[k].op, .int .i64 t.kids[k].num, .slice adk (t.kids[k]).kids.length capk] 30)) w2 A gvk.ownBlock) := hgr2
      have HAA2 : Hid (w2.heap[A]? = some (.cells #[gv'] 89)) := hA2
      have HOW2 : Hid (gv'.ownBlock = gvk.ownBlock ∨ ∃ g, gv'.ownBlock = some g ∧ (wr.alloc (.cells #[.int .i64 t.kids[k].op, .int .i64 t.kids[k].num, .slice adk (t.kids[k]).kids.length capk] 30)).heap.size ≤ g) := how2
      have HST2 : Hid (Stk (w2.alloc (.cells #[.int .i64 (nk : Int)] 3)) (w.heap.size + 1) (addL args (t.kids.take k) cs).2 (.slice adq (addL args (t.kids.take k) cs).2.length capq)) := (fd_stk HRD.out hAl _ hgr2).alloc _
      have HZ2 : Hid (w.heap.size + 1 ≤ w2.heap.size) := by have := hgr2.size; rw [Deep.nblk_alloc] at this; rw [Hid]; omega
      have HNB : Hid ((addL args (t.kids.take k) cs).2.length = k) := by rw [Hid, addL_length, List.length_take]; omega
      obtain ⟨iI, zI, hII⟩ := infoI1
      have HII : Hid (Try.prog.info? 3 = some iI ∧ iI.zero = some zI ∧ iI.size = 1 ∧ iI.bytes = 8 ∧ zI.cells.size = 1) := hII
      have hkm : k < 1048576 := by
        have h := HSZ.out
        rw [szL_sum, List.length_take] at h
        omega
      rw [← hnk]
      clear hII hg2 hgr2 how2 hA2 hnk hal1
      go_wp2_with (at_builtin; go_must (refine wpList_append_where _ rfl _ _ 33 rfl (w.heap.size + 1) 3 iI zI 1 8 Try.underlying33 HII.out.1 HII.out.2.1 HII.out.2.2.1 HII.out.2.2.2.1 HII.out.2.2.2.2 (by decide) (.slice adq (addL args (t.kids.take k) cs).2.length capq) (addL args (t.kids.take k) cs).2.length (plV (addL args (t.kids.take k) cs).2) rfl HST2.out ⟨w2.heap.size, 0, none⟩ 1 1 [.int .i64 (nk : Int)] rfl rfl (news1 w2 _) (by simp [Value.oneCell']) (by rw [HNB.out]; unfold maxLen; omega) (by rw [HNB.out]; omega) (by rw [Deep.nblk_alloc]; have := HZ2.out; omega) (by omega) ?_); go_must (intro v' w5 hown hgr5 hw5); go_must (have HST5 : Hid (Stk w5 (w.heap.size + 1) ((addL args (t.kids.take k) cs).2 ++ [nk]) v') := stk_snoc hown); go_must (have HGR5 : Hid ((w2.alloc (.cells #[.int .i64 (nk : Int)] 3)).grownBy w5 (Value.slice adq (addL args (t.kids.take k) cs).2.length capq).ownBlock) := hgr5); go_must (have HW5 : Hid (v'.ownBlock = (Value.slice adq (addL args (t.kids.take k) cs).2.length capq).ownBlock ∨ ∃ g, v'.ownBlock = some g ∧ (w2.alloc (.cells #[.int .i64 (nk : Int)] 3)).heap.size ≤ g) := hw5); clear hown hgr5 hw5)
      go_roundw
      case rel => exact ⟨k + 1, gv', by omega, by go_num, fd_push HRD.out hlt HG0.out hAl _ HG2.out HAA2.out HGR2.out HOW2.out _ (by rw [← HNK.out]; exact HST5.out) HGR5.out HW5.out⟩
      case measure => simp [intOf]; omega
    · have hke : k = t.kids.length := by omega
      subst hke
      have heb := hrd.ebx
      have o0 := cell_of_blk heb 0 _ rfl
      have o1 := cell_of_blk heb 1 _ rfl
      have o2 := cell_of_blk heb 2 _ rfl
      have htk : t.kids.take t.kids.length = t.kids := List.take_length
      have HRD2 : Hid (FdRel args t cs lo S A gv (.slice ad t.kids.length cap) w t.kids.length gvk (.slice adq (addL args t.kids cs).2.length capq) wr) := by
        have h := HRD.out
        rw [htk] at h
        exact h
      rw [htk]
      clear heb hrd HRD
      by_cases h1 : t.op = 1
      · obtain ⟨p1, p2, p3⟩ := ((allT_iff _ t).1 HPT.out).1 h1
        obtain ⟨n, hnn⟩ : ∃ n : Nat, t.num = n := ⟨t.num.toNat, by omega⟩
        have hlt2 : n < args.length := by omega
        have hc := clo_var args n xb ab T (.slice ad t.kids.length cap) (.slice adq (addL args t.kids cs).2.length capq) av wr hlt2 HX2.out (HA.out.mono (fun _ h => h) HOLD.out) hal
        rw [← hnn, ← h1] at hc
        have HCALL := mkHid hc
        have HFV : Hid (∀ e w', CloVar args[n] wr e w' → FdRes (addT args t cs) lo S gv A w e w') := fun e w' h => fd_var HRD2.out h1 p3 hnn hlt2 h
        clear hc h1 p1 p2 p3 hnn
        go_wp2_with fail
        refine HCALL.out.mono ?_
        intro e w' hr
        have HR := HFV.out e w' hr
        obtain ⟨rfl, -⟩ := hr
        have HR := mkHid HR
        go_wp2_with fail
        go_ret
        exact HR.out
      · obtain ⟨xs, hx⟩ := HRD2.out.graph.row
        rw [htk] at hx
        have hgl : (addL args t.kids cs).1.length ≤ 500000 := by
          have h := (addL_size args t.kids cs).2.1
          rw [szT_eq t] at hz
          omega
        have hc := clo_add A lo (addL args t.kids cs).1.length xb ab t.op t.num (.slice ad t.kids.length cap) gvk adq (addL args t.kids cs).2.length capq xs wr h1 HRD2.out.arena HA2.out hx (by omega) hgl
        have HCALL := mkHid hc
        have HFV : Hid (∀ e w', CloRes A lo (addL args t.kids cs).1.length t.op t.num gvk (.slice adq (addL args t.kids cs).2.length capq) xs wr e w' → FdRes (addT args t cs) lo S gv A w e w') := fun e w' h => fd_end HRD2.out h1 HG0.out hAl HT.out.1 HT.out.2 hx h
        clear hc hx htk
        go_wp2_with fail
        refine HCALL.out.mono ?_
        intro e w' hr
        have HR := HFV.out e w' hr
        obtain ⟨ob, v', w5, rfl, -⟩ := hr
        have HR := mkHid HR
        go_wp2_with fail
        go_ret
        exact HR.out
theorem fd_calls (args : List Nat) (av : Value) : ∀ t : Tr, FdSaid args av t
  | .node op n ks => fd_step args av (.node op n ks) fun i hi => fd_calls args av _
termination_by t => szT t
decreasing_by
  simp only [szT, Tr.kids_node] at *
  exact szT_lt_szL ks i hi
end Go.Proofs.Ytjdlfpdljmohiaa
