/-
  THE LAWS' OWN COPY OF AN ARGUMENT (toExpr, toExprS), ITS BLOCKS ALL DISTINCT: the same trees, in new memory; nothing that was there is changed.
-/
import Derived.Test.YtjpjikfmdaejeaaGreatDoorMgExactEvalGraph1
import Derived.Test.YtjpjikfmdaejeaaGreatDoorMgExactEvalGraph5
import Derived.Test.YtjpjikfmdaejeaaGreatDoorMgExactEvalGraph4
import Derived.Test.YtjpjikfmdaejeaaGreatDoorMgExactEvalGraph3
import Derived.Test.YtjpjikfmdaejeaaGreatDoorMgExactEvalGraph2
import Derived.Deep.DeepCutAuto
import Derived.Deep.RegionWith
import Derived.Deep.RegionHeld3
import Derived.Deep.RegionLaw
import Derived.IntWalk
namespace Go.Proofs.YtjpjikfmdaejeaaGreatDoor
set_option linter.unusedVariables false
set_option linter.unusedSimpArgs false
open Go.RowKit

/-- trees whose blocks are distinct, from lo on -/
def Fresh (w : World) (lo : Nat) (ks : List Tr) (c : Value) : Prop := ∃ fp, KidsFp w 54 ks fp c ∧ fp.Nodup ∧ ∀ k ∈ fp, lo ≤ k
theorem Fresh.on {w : World} {lo : Nat} {ks : List Tr} {c : Value} (h : Fresh w lo ks c) : KidsOn w (Btw lo w.heap.size) ks c := by
  obtain ⟨fp, h1, h2, h3⟩ := h
  exact h1.on fun k hk => ⟨h3 k hk, h1.lt k hk⟩
theorem Fresh.mono {w w' : World} {lo lo' : Nat} {ks : List Tr} {c : Value} (h : Fresh w lo ks c) (hl : lo' ≤ lo) (hw : ∀ k, lo ≤ k → k < w.heap.size → w'.heap[k]? = w.heap[k]?) : Fresh w' lo' ks c := by
  obtain ⟨fp, h1, h2, h3⟩ := h
  exact ⟨fp, h1.keep fun k hk => hw k (h3 k hk) (h1.lt k hk), h2, fun k hk => Nat.le_trans hl (h3 k hk)⟩
theorem Fresh.next {w w' : World} {lo : Nat} {ks : List Tr} {c : Value} (h : Fresh w lo ks c) (hb : Below w.heap.size w w') : Fresh w' lo ks c := h.mono (Nat.le_refl _) fun k _ hk => hb.block k hk
theorem Fresh.setCell {w : World} {lo : Nat} {ks : List Tr} {c : Value} (h : Fresh w lo ks c) {a : Addr} (ha : a.block < lo) (u : Value) : Fresh (w.setCell a u) lo ks c :=
  h.mono (Nat.le_refl _) fun k hk _ => Below.heap_setCell _ _ _ _ (by omega)

/-- a call has handed back these trees in new memory, all blocks distinct -/
def FreshKids (ks : List Tr) (w : World) (e : Ending) (w' : World) : Prop := ∃ v, e = .returned v ∧ Fresh w' w.heap.size ks v ∧ Below w.heap.size w w'
/-- .. one tree -/
def FreshTr (o n : Int) (ks : List Tr) (w : World) (e : Ending) (w' : World) : Prop := ∃ v, e = .returned (.agg #[.int .i64 o, .int .i64 n, v]) ∧ Fresh w' w.heap.size ks v ∧ Below w.heap.size w w'

def FToSSaid (ks : List Tr) : Prop := ∀ (c : Value) (w : World), In w ks c → szL ks ≤ 1048576 → Calls Tryz.prog 65 #[c] w (FreshKids ks w)
def FToSaid (ks : List Tr) : Prop := ∀ (o n : Int) (c : Value) (w : World), In w ks c → szL ks ≤ 1048576 → Calls Tryz.prog 46 #[.agg #[.int .i64 o, .int .i64 n, c]] w (FreshTr o n ks w)

set_option maxHeartbeats 400000 in
theorem fto_of (ks : List Tr) (h : FToSSaid ks) : FToSaid ks := by
  intro o n c w hk hsz
  have HK : Hid (In w ks c) := hk
  have HS : Hid (FToSSaid ks) := h
  clear h hk
  go_enter Tryz.func46, Tryz.ntmps46
  go_wp2_with fail
  refine (HS.out c _ ?_ hsz).mono ?_
  · exact HK.out.next ((((Below.refl _ _).alloc (Nat.le_refl _) _).alloc (by simp) _).alloc (by simp; omega) _)
  rintro e w1 ⟨v, rfl, hv, hb⟩
  obtain ⟨hc, hf⟩ := bcell hb
  have hz : w.heap.size + 2 < w1.heap.size := by have := hb.size; simp at this; omega
  have hlo : w.heap.size + 3 ≤ w1.heap.size := by omega
  have HV : Hid (Fresh w1 (w.heap.size + 3) ks v) := hv.mono (by simp) (fun _ _ _ => rfl)
  have HB : Hid (Below w.heap.size w w1) := ((((Below.refl _ _).alloc (Nat.le_refl _) _).alloc (by simp) _).alloc (by simp; omega) _).trans (hb.mono (by simp; omega))
  obtain ⟨fp, ⟨ad, cap, rfl, _, _, _⟩, _, _⟩ := hv
  go_wp2_with fail
  refine bodyPost_ret (v := .agg #[.int .i64 o, .int .i64 n, .slice ad ks.length cap]) (by simp [results, Tryz.results46, go_sem, hc, hf, hz]) rfl ⟨_, rfl, ?_, ?_⟩
  · exact ((((HV.out.setCell (by simp <;> omega) _).setCell (by simp <;> omega) _).setCell (by simp <;> omega) _).setCell (by simp <;> omega) _).mono (by omega) (fun _ _ _ => rfl)
  · exact (((HB.out.setCell (by simp; omega) _).setCell (by simp) _).setCell (by simp) _).setCell (by simp) _


/-- what holds of the copy of a list behind k rounds -/
def FToRel (ks : List Tr) (w : World) (k : Nat) (wr : World) : Prop :=
  ∃ (f : Nat → Value) (fps : List (List Nat)), fps.length = k ∧ wr.rowIs w.heap.size 54 (ks.length * 3) f ∧ (∀ j (_ : j < k) (hj : j < ks.length), ∃ g, fps[j]? = some g ∧ TrFp wr 54 ks[j] g (f (j * 3)) (f (j * 3 + 1)) (f (j * 3 + 2))) ∧ fps.flatten.Nodup ∧ (∀ b ∈ fps.flatten, w.heap.size < b ∧ b < wr.heap.size) ∧ Below w.heap.size w wr

theorem ftoRel_start (ks : List Tr) (w : World) (C : Array Value) (h : C.size = ks.length * 3) : FToRel ks w 0 (w.alloc (.cells C 54)) := by
  refine ⟨fun i => C.getD i undef, [], rfl, ⟨C, Deep.blk_alloc_new _ _, h, fun i hi => ?_⟩, fun j hj => absurd hj (by omega), by simp, by simp, (Below.refl _ _).alloc (Nat.le_refl _) _⟩
  simp [Array.getElem?_eq_getElem (h ▸ hi : i < C.size), Array.getD, (h ▸ hi : i < C.size)]

theorem ftoRel_step (ks : List Tr) (w wr w1 : World) (k : Nat) (hk : k < ks.length) (h : FToRel ks w k wr) (v : Value) (hb : Below wr.heap.size wr w1) (hv : Fresh w1 wr.heap.size (ks[k]).kids v) (ho : I64 (ks[k]).op) (hn : I64 (ks[k]).num) :
    FToRel ks w (k + 1) (((w1.setCell ⟨w.heap.size, k * 3, none⟩ (.int .i64 (ks[k]).op)).setCell ⟨w.heap.size, k * 3 + 1, none⟩ (.int .i64 (ks[k]).num)).setCell ⟨w.heap.size, k * 3 + 2, none⟩ v) := by
  obtain ⟨f, fps, hfl, hr, ht, hnd, hfb, hbw⟩ := h
  obtain ⟨fp, v1, v2, v3⟩ := hv
  have hlt := hr.lt
  have hr1 : w1.rowIs w.heap.size 54 (ks.length * 3) f := hr.of_block (hb.block _ hlt)
  have hsz := hb.size
  have keep : ∀ b, b ≠ w.heap.size → (((w1.setCell ⟨w.heap.size, k * 3, none⟩ (.int .i64 (ks[k]).op)).setCell ⟨w.heap.size, k * 3 + 1, none⟩ (.int .i64 (ks[k]).num)).setCell ⟨w.heap.size, k * 3 + 2, none⟩ v).heap[b]? = w1.heap[b]? :=
    fun b hne => ((Below.heap_setCell _ _ _ _ hne).trans (Below.heap_setCell _ _ _ _ hne)).trans (Below.heap_setCell _ _ _ _ hne)
  have hs3 : k * 3 + 2 < ks.length * 3 := by omega
  refine ⟨_, fps ++ [fp], by simp [hfl], ((hr1.set (k * 3) _).set (k * 3 + 1) _).set (k * 3 + 2) _, fun j hj hjl => ?_, ?_, ?_, ?_⟩
  · by_cases hjk : j = k
    · subst hjk
      have : TrFp w1 54 ks[j] fp (.int .i64 (ks[j]).op) (.int .i64 (ks[j]).num) v := trFp_iff.2 ⟨rfl, rfl, ho, hn, v1⟩
      have h2 := TrFp.keep _ _ _ _ _ (fun b hbm => keep b (by have := v3 b hbm; omega)) this
      refine ⟨fp, by rw [← hfl]; simp, ?_⟩
      simpa using h2
    · obtain ⟨g, hg, h0⟩ := ht j (by omega) hjl
      have hgm : ∀ b ∈ g, w.heap.size < b ∧ b < wr.heap.size := fun b hbm => hfb b (List.mem_flatten.2 ⟨g, List.mem_of_getElem? hg, hbm⟩)
      have h2 := TrFp.keep _ _ _ _ _ (fun b hbm => (keep b (by have := hgm b hbm; omega)).trans (hb.block b (hgm b hbm).2)) h0
      have e1 : ∀ m, m < 3 → j * 3 + m ≠ k * 3 + 2 ∧ j * 3 + m ≠ k * 3 + 1 ∧ j * 3 + m ≠ k * 3 := fun m hm => by omega
      have a0 := e1 0 (by omega)
      have a1 := e1 1 (by omega)
      have a2 := e1 2 (by omega)
      simp only [Nat.add_zero] at a0
      refine ⟨g, by rw [List.getElem?_append_left (by omega)]; exact hg, ?_⟩
      simpa [a0, a1, a2] using h2
  · rw [List.flatten_append, List.nodup_append]
    refine ⟨hnd, by simpa using v2, fun x hx y hy e => ?_⟩
    have h1 := (hfb x hx).2
    have h2 := v3 y (by simpa using hy)
    omega
  · intro b hbm
    simp only [size_setCell]
    simp only [List.flatten_append, List.mem_append] at hbm
    rcases hbm with hbm | hbm
    · have := hfb b hbm; omega
    · have hbm' : b ∈ fp := by simpa using hbm
      have h1 := v3 b hbm'
      have h2 := v1.lt b hbm'
      omega
  · exact (((hbw.trans (hb.mono (Nat.le_of_lt hlt))).setCell (by simp) _).setCell (by simp) _).setCell (by simp) _

theorem ftoRel_end (ks : List Tr) (w wr : World) (h : FToRel ks w ks.length wr) (hl : ks.length ≤ 1048576) : FreshKids ks w (.returned (.slice (some ⟨w.heap.size, 0, none⟩) ks.length ks.length)) wr := by
  obtain ⟨f, fps, hfl, hr, ht, hnd, hfb, hbw⟩ := h
  have hlt := hr.lt
  obtain ⟨C, hC, _, _⟩ := id hr
  refine ⟨_, rfl, ⟨w.heap.size :: fps.flatten, ⟨_, _, rfl, Nat.le_refl _, by unfold maxLen; omega, Or.inr ⟨_, _, C, fps, rfl, hC, rfl, RowFp.of _ _ _ hfl fun i hi => ?_⟩⟩, ?_, ?_⟩, hbw⟩
  · obtain ⟨g, hg, h1⟩ := ht i hi hi
    refine ⟨g, hg, f (i * 3), f (i * 3 + 1), f (i * 3 + 2), ?_, ?_, ?_, h1⟩
    · simpa using hr.cell (i := i * 3) (by omega)
    · simpa [Nat.zero_add] using hr.cell (i := i * 3 + 1) (by omega)
    · simpa [Nat.zero_add] using hr.cell (i := i * 3 + 2) (by omega)
  · rw [List.nodup_cons]
    exact ⟨fun hm => by have := (hfb _ hm).1; omega, hnd⟩
  · intro b hbm
    rw [List.mem_cons] at hbm
    rcases hbm with rfl | hbm
    · exact Nat.le_refl _
    · have := (hfb b hbm).1; omega

set_option maxHeartbeats 400000 in
theorem ftoS_step (ks : List Tr) (ih : ∀ i (hi : i < ks.length), FToSaid (ks[i]).kids) : FToSSaid ks := by
  intro c w hk hsz
  have HI : Hid (∀ i (hi : i < ks.length), FToSaid (ks[i]).kids) := ih
  have HK : Hid (In w ks c) := hk
  have HZ : Hid (szL ks ≤ 1048576) := hsz
  have hlen : ks.length ≤ 1048576 := by rw [szL_sum] at hsz; omega
  clear ih hsz
  obtain ⟨ad, cap, rfl, hl, hm, hrow⟩ := hk
  clear hrow hm hl
  obtain ⟨C, hC, hmk⟩ := make_exprs ks.length hlen
  have HC : Hid (C.size = ks.length * 3) := hC
  clear hC
  go_enter Tryz.func65, Tryz.ntmps65
  go_wp2_with fail
  go_loopw [4] (fun i wr => ∃ k : Nat, k ≤ ks.length ∧ i = .int .i64 k ∧ FToRel ks w k wr) (fun i _ => ks.length - (intOf i).toNat)
  case atStart => exact ⟨0, Nat.zero_le _, rfl, ftoRel_start ks w C HC.out⟩
  case round =>
    obtain ⟨k, hk, rfl, hto⟩ := hrel
    have HT : Hid (FToRel ks w k wr) := hto
    obtain ⟨f, _, _, hr0, _, _, _, hb⟩ := hto
    have hlt0 := hr0.lt
    by_cases hlt : k < ks.length
    · have hrow' := HK.out.next hb
      obtain ⟨ad', cap', he, _, _, hr⟩ := hrow'
      cases he
      rcases hr with rfl | ⟨bl, off, rfl, _, hr⟩
      · simp at hlt
      obtain ⟨p, q, r, c0, c1, c2, ht⟩ := RowOn.at ks off k hlt hr
      obtain ⟨rfl, rfl, io, iN, hkk⟩ := trOn_iff.1 ht
      have HKK : Hid (In wr ks[k].kids r) := hkk
      have hkz : szL ks[k].kids ≤ 1048576 := by have := szL_kids_lt ks k hlt; have := HZ.out; omega
      have HR : Hid (wr.rowIs w.heap.size 54 (ks.length * 3) f) := hr0
      clear hkk ht hr hr0 hb
      go_wp2_with fail
      refine (HI.out k hlt _ _ r _ HKK.out hkz).mono ?_
      rintro e w1 ⟨v, rfl, hv, hb1⟩
      have hr1 : w1.rowIs w.heap.size 54 (ks.length * 3) f := HR.out.of_block (hb1.block _ hlt0)
      have HS : Hid (FToRel ks w (k + 1) (((w1.setCell ⟨w.heap.size, k * 3, none⟩ (.int .i64 (ks[k]).op)).setCell ⟨w.heap.size, k * 3 + 1, none⟩ (.int .i64 (ks[k]).num)).setCell ⟨w.heap.size, k * 3 + 2, none⟩ v)) := ftoRel_step ks w wr w1 k hlt HT.out v hb1 hv io iN
      obtain ⟨_, ⟨ad2, cap2, rfl, _, _, _⟩, _, _⟩ := hv
      have g0 := hr1.cell (i := k * 3) (by omega)
      have g1 := hr1.cell (i := k * 3 + 1) (by omega)
      have g2 := hr1.cell (i := k * 3 + 2) (by omega)
      have f0 := hr1.frozen (k * 3)
      have f1 := hr1.frozen (k * 3 + 1)
      have f2 := hr1.frozen (k * 3 + 2)
      clear hr1 hb1
      go_wp2_with fail
      go_roundw
      case rel => exact ⟨k + 1, by omega, by go_num, HS.out⟩
      case measure => simp [intOf]; omega
    · have hke : ks.length = k := by omega
      have HV : Hid (FreshKids ks w (.returned (.slice (some ⟨w.heap.size, 0, none⟩) ks.length ks.length)) wr) := by subst hke; exact ftoRel_end ks w wr HT.out hlen
      clear hke hr0 hb
      go_wp2_with fail
      go_ret
      exact HV.out

/-- THE COPY, FOR EVERY LIST OF TREES. -/
theorem ftoS_any : ∀ (n : Nat) (ks : List Tr), szL ks ≤ n → FToSSaid ks := by
  intro n
  induction n with
  | zero =>
    intro ks h
    exact ftoS_step ks fun i hi => absurd (szT_lt_szL ks i hi) (by omega)
  | succ n ih =>
    intro ks h
    exact ftoS_step ks fun i hi => fto_of _ (ih _ (by have := szL_kids_lt ks i hi; omega))

theorem ftoS_calls (ks : List Tr) : FToSSaid ks := ftoS_any _ ks (Nat.le_refl _)
theorem fto_calls (ks : List Tr) : FToSaid ks := fto_of ks (ftoS_calls ks)
end Go.Proofs.YtjpjikfmdaejeaaGreatDoor
/-
  TREES WHOSE BLOCKS ARE DISTINCT LIE IN PLAIN BLOCKS.
-/
namespace Go.Proofs.YtjpjikfmdaejeaaGreatDoor
set_option linter.unusedVariables false
set_option linter.unusedSimpArgs false
open Go.RowKit

mutual
theorem TrFp.plain {w : World} {T : TypeId} : ∀ (t : Tr) (fp : List Nat) (a b c : Value), TrFp w T t fp a b c → ∀ k ∈ fp, Pl w k
  | .node op n ks, fp, a, b, c, h => by
    simp only [TrFp] at h
    obtain ⟨-, -, -, -, ad, cap, -, -, -, h5⟩ := h
    rcases h5 with ⟨-, rfl⟩ | ⟨bl, off, C, fps, -, hb, rfl, r⟩
    · simp
    · intro k hk
      rw [List.mem_cons] at hk
      rcases hk with rfl | hk
      · exact ⟨cellsOf_lt hb, C, T, hb⟩
      · obtain ⟨f, hf, hkf⟩ := List.mem_flatten.1 hk
        exact RowFp.plain bl off ks fps r f hf k hkf
theorem RowFp.plain {w : World} {T : TypeId} (bl off : Nat) : ∀ (ks : List Tr) (fps : List (List Nat)), RowFp w T bl off ks fps → ∀ f ∈ fps, ∀ k ∈ f, Pl w k
  | [], fps, h => by
    simp only [RowFp] at h
    subst h
    simp
  | t :: ts, fps, h => by
    simp only [RowFp] at h
    obtain ⟨f, fs, rfl, ⟨a, b, c, -, -, -, ht⟩, hr⟩ := h
    intro g hg k hk
    rw [List.mem_cons] at hg
    rcases hg with rfl | hg
    · exact TrFp.plain t _ a b c ht k hk
    · exact RowFp.plain bl (off + 3) ts fs hr g hg k hk
end
theorem KidsFp.plain {w : World} {T : TypeId} {ks : List Tr} {fp : List Nat} {c : Value} (h : KidsFp w T ks fp c) : ∀ k ∈ fp, Pl w k :=
  TrFp.plain (.node 0 0 ks) fp _ _ c (trFp_iff.2 ⟨rfl, rfl, by simp [I64], by simp [I64], h⟩)
theorem Fresh.inP {w : World} {lo : Nat} {ks : List Tr} {c : Value} (h : Fresh w lo ks c) : InP w ks c := by
  obtain ⟨fp, h1, -, -⟩ := h
  exact h1.on h1.plain
end Go.Proofs.YtjpjikfmdaejeaaGreatDoor
/-
  LISTS OF TREES WITH DISTINCT BLOCKS THAT A CALL BUILDS BY append.
-/
namespace Go.Proofs.YtjpjikfmdaejeaaGreatDoor
set_option linter.unusedVariables false
set_option linter.unusedSimpArgs false
open Go.RowKit

/-- a list of trees that a call has built by append: the row is its own, each tree has its own blocks, all from lo on -/
def OwnF (w : World) (lo hi : Nat) (ts : List Tr) (v : Value) : Prop :=
  ∃ (xs : List Value) (fps : List (List Nat)), w.ownsRow lo 54 3 v ts.length xs ∧ fps.length = ts.length ∧
    (∀ j (hj : j < ts.length), ∃ f, fps[j]? = some f ∧ ∃ a b c, xs[j * 3]? = some a ∧ xs[j * 3 + 1]? = some b ∧ xs[j * 3 + 2]? = some c ∧ TrFp w 54 ts[j] f a b c) ∧
    fps.flatten.Nodup ∧ ∀ k ∈ fps.flatten, lo ≤ k ∧ k < hi ∧ some k ≠ v.ownBlock

theorem OwnF.nil (w : World) (lo hi : Nat) : OwnF w lo hi [] (.slice none 0 0) := ⟨[], [], World.ownsRow_nil w lo _ _, rfl, fun j hj => absurd hj (by simp), by simp, by simp⟩
theorem OwnF.next {w w' : World} {lo hi hi' : Nat} {ts : List Tr} {v : Value} (h : OwnF w lo hi ts v) (hh : hi ≤ hi') (hs : hi ≤ w.heap.size) (hb : ∀ k, lo ≤ k → k < w.heap.size → w'.heap[k]? = w.heap[k]?) : OwnF w' lo hi' ts v := by
  obtain ⟨xs, fps, h1, h2, h3, h4, h5⟩ := h
  refine ⟨xs, fps, own_keep h1 hb, h2, fun j hj => ?_, h4, fun k hk => ⟨(h5 k hk).1, Nat.lt_of_lt_of_le (h5 k hk).2.1 hh, (h5 k hk).2.2⟩⟩
  obtain ⟨f, e0, a, b, c, e1, e2, e3, e4⟩ := h3 j hj
  exact ⟨f, e0, a, b, c, e1, e2, e3, TrFp.keep _ _ _ _ _ (fun k hk => by
    have := h5 k (List.mem_flatten.2 ⟨f, List.mem_of_getElem? e0, hk⟩)
    exact hb k this.1 (Nat.lt_of_lt_of_le this.2.1 hs)) e4⟩
theorem OwnF.row {w : World} {lo hi : Nat} {ts : List Tr} {v : Value} (h : OwnF w lo hi ts v) : ∃ xs, w.ownsRow lo 54 3 v ts.length xs := by
  obtain ⟨xs, -, h1, -⟩ := h; exact ⟨xs, h1⟩
/-- one tree more -/
theorem OwnF.step {w w' : World} {lo hi : Nat} {ts : List Tr} {v v' : Value} {t : Tr} {a b c : Value} {f : List Nat} (h : OwnF w lo hi ts v) (hlo : lo ≤ hi) (hs : hi ≤ w.heap.size)
    (hn : TrFp w 54 t f a b c) (hf : f.Nodup) (hfl : ∀ k ∈ f, hi ≤ k ∧ k < w.heap.size ∧ some k ≠ v.ownBlock) (xs : List Value) (hx : w.ownsRow lo 54 3 v ts.length xs)
    (hown : w'.ownsRow lo 54 3 v' (ts.length + 1) (xs ++ [a, b, c])) (hg : w.grownBy w' v.ownBlock) (hw : v'.ownBlock = v.ownBlock ∨ ∃ g, v'.ownBlock = some g ∧ w.heap.size ≤ g) : OwnF w' lo w.heap.size (ts ++ [t]) v' := by
  obtain ⟨xs2, fps, h1, h2, h3, h4, h5⟩ := h
  -- the row's cells are the same
  have hxs : xs2 = xs := by
    rcases h1.2 with ⟨rfl, h0⟩ | ⟨g, cap, cur, rfl, hg', hh, hn', hc, hs, htk⟩
    · have a1 := h1.1
      have a2 := hx.1
      rw [h0] at a1 a2
      rw [List.eq_nil_of_length_eq_zero (by omega : xs2.length = 0), List.eq_nil_of_length_eq_zero (by omega : xs.length = 0)]
    · rcases hx.2 with ⟨e, -⟩ | ⟨g2, cap2, cur2, e, -, hh2, -, -, -, htk2⟩
      · cases e
      · cases e
        rw [hh] at hh2
        cases hh2
        rw [← htk, ← htk2]
  subst hxs
  have hlen := h1.1
  have keepB : ∀ k, lo ≤ k ∧ k < w.heap.size ∧ some k ≠ v.ownBlock → w'.heap[k]? = w.heap[k]? := fun k hk => hg.block k hk.2.1 hk.2.2
  have nb : ∀ k, k < w.heap.size → some k ≠ v.ownBlock → some k ≠ v'.ownBlock := fun k hk hkv => by
    rcases hw with hw | ⟨g, hw, hge⟩
    · rw [hw]; exact hkv
    · rw [hw]; intro e; simp only [Option.some.injEq] at e; omega
  refine ⟨xs2 ++ [a, b, c], fps ++ [f], by simpa using hown, by simp [h2], fun j hj => ?_, ?_, ?_⟩
  · by_cases hjl : j < ts.length
    · obtain ⟨f', e0, x, y, z, e1, e2, e3, e4⟩ := h3 j hjl
      refine ⟨f', ?_, x, y, z, ?_, ?_, ?_, ?_⟩
      · rw [List.getElem?_append_left (by omega)]; exact e0
      · rw [List.getElem?_append_left (by omega)]; exact e1
      · rw [List.getElem?_append_left (by omega)]; exact e2
      · rw [List.getElem?_append_left (by omega)]; exact e3
      · rw [List.getElem_append_left hjl]
        exact TrFp.keep _ _ _ _ _ (fun k hk => by
          have := h5 k (List.mem_flatten.2 ⟨f', List.mem_of_getElem? e0, hk⟩)
          exact keepB k ⟨this.1, Nat.lt_of_lt_of_le this.2.1 hs, this.2.2⟩) e4
    · have hj' : j = ts.length := by simp at hj; omega
      subst hj'
      refine ⟨f, ?_, a, b, c, ?_, ?_, ?_, ?_⟩
      · rw [List.getElem?_append_right (by omega)]; simp [h2]
      · rw [List.getElem?_append_right (by omega)]; simp [hlen]
      · rw [List.getElem?_append_right (by omega)]; simp [hlen]
      · rw [List.getElem?_append_right (by omega)]; simp [hlen]
      · simpa using TrFp.keep _ _ _ _ _ (fun k hk => keepB k ⟨Nat.le_trans hlo (hfl k hk).1, (hfl k hk).2⟩) hn
  · rw [List.flatten_append, List.nodup_append]
    refine ⟨h4, by simpa using hf, fun x hx y hy e => ?_⟩
    subst e
    have e1 := (h5 x hx).2.1
    have e2 := (hfl x (by simpa using hy)).1
    omega
  · intro k hk
    simp only [List.flatten_append, List.mem_append] at hk
    rcases hk with hk | hk
    · have := h5 k hk
      exact ⟨this.1, Nat.lt_of_lt_of_le this.2.1 hs, nb k (Nat.lt_of_lt_of_le this.2.1 hs) this.2.2⟩
    · have := hfl k (by simpa using hk)
      exact ⟨Nat.le_trans hlo this.1, this.2.1, nb k this.2.1 this.2.2⟩
/-- the list, as trees with distinct blocks -/
theorem OwnF.fresh {w : World} {lo hi : Nat} {ts : List Tr} {v : Value} (h : OwnF w lo hi ts v) : Fresh w lo ts v := by
  obtain ⟨xs, fps, h1, h2, h3, h4, h5⟩ := h
  rcases h1.2 with ⟨rfl, h0⟩ | ⟨g, cap, cur, rfl, hg, hh, hn, hc, hs, htk⟩
  · obtain rfl : ts = [] := List.eq_nil_of_length_eq_zero h0
    exact ⟨[], ⟨none, 0, rfl, Nat.le_refl _, by simp [maxLen], Or.inl ⟨rfl, rfl⟩⟩, by simp, by simp⟩
  · refine ⟨g :: fps.flatten, ⟨_, cap, rfl, hn, hc, Or.inr ⟨g, 0, cur, fps, rfl, hh, rfl, RowFp.of _ _ _ h2 fun i hi => ?_⟩⟩, ?_, ?_⟩
    · obtain ⟨f, e0, a, b, c, e1, e2, e3, e4⟩ := h3 i hi
      refine ⟨f, e0, a, b, c, ?_, ?_, ?_, e4⟩
      · rw [Nat.zero_add, h1.cellAt (i * 3) (by omega)]; exact e1
      · rw [Nat.zero_add, h1.cellAt (i * 3 + 1) (by omega)]; exact e2
      · rw [Nat.zero_add, h1.cellAt (i * 3 + 2) (by omega)]; exact e3
    · rw [List.nodup_cons]
      exact ⟨fun hm => (h5 g hm).2.2 rfl, h4⟩
    · intro k hk
      rw [List.mem_cons] at hk
      rcases hk with rfl | hk
      · exact hg
      · exact (h5 k hk).1
end Go.Proofs.YtjpjikfmdaejeaaGreatDoor
/-
  ONE TREE MORE IN A LIST THAT A CALL BUILDS: behind the tree's box and its cells.
-/
namespace Go.Proofs.YtjpjikfmdaejeaaGreatDoor
set_option linter.unusedVariables false
set_option linter.unusedSimpArgs false
open Go.RowKit

/-- one tree more, handed back by a call, behind its box and its cells -/
theorem rd_push {wr w2 w5 : World} {lo : Nat} {ts : List Tr} {v v' : Value} {t : Tr} {c : Value} (h : OwnF wr lo wr.heap.size ts v) (hlo : lo ≤ wr.heap.size) (hb : ∀ k, lo ≤ k → k < wr.heap.size → w2.heap[k]? = wr.heap[k]?) (hsz : wr.heap.size ≤ w2.heap.size)
    (hf : Fresh w2 wr.heap.size t.kids c) (ho : I64 t.op) (hn : I64 t.num) (o1 o2 : Obj) (xs : List Value) (hx : ((w2.alloc o1).alloc o2).ownsRow lo 54 3 v ts.length xs)
    (hown : w5.ownsRow lo 54 3 v' (ts.length + 1) (xs ++ [.int .i64 t.op, .int .i64 t.num, c])) (hg : ((w2.alloc o1).alloc o2).grownBy w5 v.ownBlock) (hw : v'.ownBlock = v.ownBlock ∨ ∃ g, v'.ownBlock = some g ∧ ((w2.alloc o1).alloc o2).heap.size ≤ g) :
    OwnF w5 lo ((w2.alloc o1).alloc o2).heap.size (ts ++ [t]) v' := by
  have hz4 : ((w2.alloc o1).alloc o2).heap.size = w2.heap.size + 2 := by rw [Deep.nblk_alloc, Deep.nblk_alloc]
  have hk4 : ∀ k, k < w2.heap.size → ((w2.alloc o1).alloc o2).heap[k]? = w2.heap[k]? := fun k hk => (Deep.blk_alloc_lt _ _ _ (by rw [Deep.nblk_alloc]; omega)).trans (Deep.blk_alloc_lt _ _ _ hk)
  have h4 : OwnF ((w2.alloc o1).alloc o2) lo wr.heap.size ts v := h.next (Nat.le_refl _) (Nat.le_refl _) fun k h1 h2 => (hk4 k (by omega)).trans (hb k h1 h2)
  have hob : ∀ k, v.ownBlock = some k → k < wr.heap.size := by
    obtain ⟨ys, fps, h1, -⟩ := h
    intro k hk
    rcases h1.2 with ⟨rfl, -⟩ | ⟨g, cap, cur, rfl, -, hh, -⟩
    · simp [Value.ownBlock] at hk
    · simp only [Value.ownBlock, Option.some.injEq] at hk
      subst hk
      exact (Array.getElem?_eq_some_iff.1 hh).1
  obtain ⟨fp, f1, f2, f3⟩ := hf
  have f4 : KidsFp ((w2.alloc o1).alloc o2) 54 t.kids fp c := f1.keep fun k hk => hk4 k (f1.lt k hk)
  exact h4.step hlo (by omega) (trFp_iff.2 ⟨rfl, rfl, ho, hn, f4⟩) f2 (fun k hk => ⟨f3 k hk, by have := f1.lt k hk; omega, fun e => by have := hob k e.symm; have := f3 k hk; omega⟩) xs hx hown hg hw
theorem own_some {w : World} {base n size : Nat} {e : TypeId} {v : Value} {xs : List Value} (h : w.ownsRow base e size v n xs) : ∀ k, v.ownBlock = some k → base ≤ k ∧ k < w.heap.size := by
  intro k hk
  rcases h.2 with ⟨rfl, -⟩ | ⟨g, cap, cur, rfl, hb, hh, -⟩
  · simp [Value.ownBlock] at hk
  · simp only [Value.ownBlock, Option.some.injEq] at hk
    subst hk
    exact ⟨hb, (Array.getElem?_eq_some_iff.1 hh).1⟩
theorem box_set {w : World} {B : Nat} {a b c : Value} {T : TypeId} (h : w.heap[B]? = some (.cells #[a, b, c] T)) (v : Value) : (w.setCell ⟨B, 2, none⟩ v).heap[B]? = some (.cells #[a, b, v] T) := by
  simp [World.setCell, Array.getElem?_modify, h]
theorem box_but2 {fp : List Nat} {w w1 : World} {x y z : Value} (h : ButL fp w w1) : ButL fp w (((w1.setCell ⟨w.heap.size, 0, none⟩ x).setCell ⟨w.heap.size, 1, none⟩ y).setCell ⟨w.heap.size, 2, none⟩ z) :=
  ⟨h.os, h.tape, h.output, by simp only [size_setCell]; exact h.size, fun k hk hn => by
    rw [Below.heap_setCell _ _ _ _ (by show k ≠ w.heap.size; omega), Below.heap_setCell _ _ _ _ (by show k ≠ w.heap.size; omega), Below.heap_setCell _ _ _ _ (by show k ≠ w.heap.size; omega)]
    exact h.block k hk hn⟩
end Go.Proofs.YtjpjikfmdaejeaaGreatDoor
/-
  ELEMENTS OF ROWS OUT OF A SET OF BLOCKS.
-/
namespace Go.Proofs.YtjpjikfmdaejeaaGreatDoor
set_option linter.unusedVariables false
set_option linter.unusedSimpArgs false
open Go.RowKit

/-- element i of a graph out of a set of blocks -/
theorem CellsOn.atS {w : World} {S : Nat → Prop} {g : List Ce} {ad : Option Addr} {n cap : Nat} (h : CellsOn w S g (.slice ad n cap)) (i : Nat) (hi : i < g.length) :
    ∃ bl off c, ad = some ⟨bl, off, none⟩ ∧ S bl ∧ w.cell? ⟨bl, off + i * 3, none⟩ = some (.int .i64 g[i].op) ∧ w.cell? ⟨bl, off + i * 3 + 1, none⟩ = some (.int .i64 g[i].num) ∧ w.cell? ⟨bl, off + i * 3 + 2, none⟩ = some c ∧ I64 g[i].op ∧ I64 g[i].num ∧ IntsOn w S g[i].kids c := by
  obtain ⟨ad', cap', he, -, -, hr⟩ := h
  cases he
  rcases hr with rfl | ⟨bl, off, rfl, hs, r⟩
  · simp at hi
  obtain ⟨c, h1, h2, h3, i1, i2, h4⟩ := r i hi
  exact ⟨bl, off, c, rfl, hs, h1, h2, h3, i1, i2, h4⟩
theorem IntsOn.atS {w : World} {S : Nat → Prop} {xs : List Int} {ad : Option Addr} {n cap : Nat} (h : IntsOn w S xs (.slice ad n cap)) (i : Nat) (hi : i < xs.length) :
    ∃ bl off, ad = some ⟨bl, off, none⟩ ∧ S bl ∧ w.cell? ⟨bl, off + i, none⟩ = some (.int .i64 xs[i]) := by
  obtain ⟨ad', cap', he, -, -, hr⟩ := h
  cases he
  rcases hr with rfl | ⟨bl, off, rfl, hs, r⟩
  · simp at hi
  exact ⟨bl, off, rfl, hs, r i hi⟩
end Go.Proofs.YtjpjikfmdaejeaaGreatDoor
/-
  THE PROGRAM's arena: one cell more.
-/
namespace Go.Proofs.YtjpjikfmdaejeaaGreatDoor
set_option linter.unusedVariables false
set_option linter.unusedSimpArgs false
open Go.RowKit

theorem cells_ne_arena {w : World} {A lo n : Nat} {gv gv0 : Value} {xs : List Value} (hA : w.heap[A]? = some (.cells #[gv0] 66)) (hx : w.ownsRow lo 58 3 gv n xs) : some A ≠ gv.ownBlock := by
  intro e
  rcases hx.2 with ⟨rfl, -⟩ | ⟨b, cap, cur, rfl, -, hh, -⟩
  · simp [Value.ownBlock] at e
  · simp only [Value.ownBlock, Option.some.injEq] at e
    subst e
    rw [hh] at hA
    simp at hA
theorem grown_drew {w w5 : World} {b : Option Nat} (h : w.drew.grownBy w5 b) : w.grownBy w5 b := ⟨h.os, h.tape, h.output, h.size, h.block⟩
theorem ar_keep {w w5 : World} {A lo n : Nat} {gv : Value} {xs : List Value} {o1 o2 : Obj} (hA : w.heap[A]? = some (.cells #[gv] 66)) (hx : w.ownsRow lo 58 3 gv n xs) (hg : ((w.alloc o1).alloc o2).grownBy w5 gv.ownBlock) : w5.heap[A]? = some (.cells #[gv] 66) := by
  have hl : A < w.heap.size := (Array.getElem?_eq_some_iff.1 hA).1
  exact ((hg.block A (by rw [Deep.nblk_alloc, Deep.nblk_alloc]; omega) (cells_ne_arena hA hx)).trans ((Deep.blk_alloc_lt _ _ _ (by rw [Deep.nblk_alloc]; omega)).trans (Deep.blk_alloc_lt _ _ _ hl))).trans hA

/-- what add hands back: the cell's place; its row is the arena's -/
def Added (A lo n : Nat) (o m : Int) (gv kv : Value) (xs : List Value) (w : World) (e : Ending) (w' : World) : Prop :=
  ∃ v' w5, e = .returned (.int .i64 (n : Int)) ∧ w5.ownsRow lo 58 3 v' (n + 1) (xs ++ [.int .i64 o, .int .i64 m, kv]) ∧ ((w.alloc (.cells #[.int .i64 o, .int .i64 m, kv] 58)).alloc (.cells #[.int .i64 o, .int .i64 m, kv] 58)).grownBy w5 gv.ownBlock ∧ (v'.ownBlock = gv.ownBlock ∨ ∃ g, v'.ownBlock = some g ∧ ((w.alloc (.cells #[.int .i64 o, .int .i64 m, kv] 58)).alloc (.cells #[.int .i64 o, .int .i64 m, kv] 58)).heap.size ≤ g) ∧ w' = w5.setCell ⟨A, 0, none⟩ v'

set_option maxRecDepth 100000 in
set_option maxHeartbeats 1600000 in
theorem add_calls (A lo n : Nat) (o m : Int) (gv : Value) (adk : Option Addr) (nk ck : Nat) (xs : List Value) (w : World) (hA : w.heap[A]? = some (.cells #[gv] 66)) (hx : w.ownsRow lo 58 3 gv n xs) (hlo : lo ≤ w.heap.size) (hn : n ≤ 500000) :
    Calls Tryz.prog 51 #[.pointer (some ⟨A, 0, none⟩), .agg #[.int .i64 o, .int .i64 m, .slice adk nk ck]] w (Added A lo n o m gv (.slice adk nk ck) xs w) := by
  have HA : Hid (w.heap[A]? = some (.cells #[gv] 66)) := hA
  have HX : Hid (w.ownsRow lo 58 3 gv n xs) := hx
  have a0 := cell_of_blk hA 0 _ rfl
  have af := frz_of_blk hA 0
  obtain ⟨ad, cap, rfl⟩ : ∃ ad cap, gv = .slice ad n cap := by
    rcases hx.2 with ⟨rfl, h0⟩ | ⟨b, cap, cur, rfl, -⟩
    · exact ⟨none, 0, by rw [h0]⟩
    · exact ⟨_, _, rfl⟩
  clear hA hx
  go_enter Tryz.func51, Tryz.ntmps51
  have p0 := old_cell a0 (.cells #[.int .i64 o, .int .i64 m, .slice adk nk ck] 58)
  have p1 := old_cell p0 (.cells #[.int .i64 o, .int .i64 m, .slice adk nk ck] 58)
  have b0 := box_cell w #[.int .i64 o, .int .i64 m, .slice adk nk ck] 58 0 _ rfl
  have b1 := box_cell w #[.int .i64 o, .int .i64 m, .slice adk nk ck] 58 1 _ rfl
  have b2 := box_cell w #[.int .i64 o, .int .i64 m, .slice adk nk ck] 58 2 _ rfl
  obtain ⟨iC, zC, hII⟩ := infoC1
  have HII : Hid (Tryz.prog.info? 58 = some iC ∧ iC.zero = some zC ∧ iC.size = 3 ∧ iC.bytes = 40 ∧ zC.cells.size = 3) := hII
  have HX2 : Hid (((w.alloc (.cells #[.int .i64 o, .int .i64 m, .slice adk nk ck] 58)).alloc (.cells #[.int .i64 o, .int .i64 m, .slice adk nk ck] 58)).drew.ownsRow lo 58 3 (.slice ad n cap) n xs) := own_keep (own_keep (own_keep HX.out (fun k _ hk => Deep.blk_alloc_lt _ _ _ hk)) (fun k _ hk => Deep.blk_alloc_lt _ _ _ hk)) (fun _ _ _ => rfl)
  clear hII
  go_wp2_with fail
  go_region_law (refine step_append_where rfl (.tmp 9) (.tmp 11) 26 rfl lo 58 iC zC 3 40 Tryz.underlying26 HII.out.1 HII.out.2.1 HII.out.2.2.1 HII.out.2.2.2.1 HII.out.2.2.2.2 (by decide) (.slice ad n cap) n xs (by simp [Act.eval, Act.put]) HX2.out ⟨w.heap.size + 1, 0, none⟩ 1 1 [.int .i64 o, .int .i64 m, .slice adk nk ck] (by simp [Act.eval, Act.put]) rfl (by have h := news3c (w.alloc (.cells #[.int .i64 o, .int .i64 m, .slice adk nk ck] 58)) (.int .i64 o) (.int .i64 m) (.slice adk nk ck); rw [Deep.nblk_alloc] at h; exact h) (by simp [Value.oneCell']) (by unfold maxLen; omega) (by omega) (by show lo ≤ ((w.alloc _).alloc _).heap.size; simp only [Deep.nblk_alloc]; omega) (by omega) ?_; intro v' w5 hown hg0 hw; have hg := grown_drew hg0; clear hg0; obtain ⟨g', c', rfl, -, -, -, -⟩ := own_form hown (by omega); have s2 := cell_of_blk (ar_keep HA.out HX.out hg) 0 _ rfl; have sf := frz_of_blk (ar_keep HA.out HX.out hg) 0)
  all_goals
    have hn0 : ¬ ((n : Int) + 1 - 1 < 0) := by omega
    have h64 : IntKind.i64.wrap ((n : Int) + 1 - 1) = (n : Int) := by rw [show (n : Int) + 1 - 1 = (n : Int) by omega]; exact IntWalk.i64_in _ (by omega)
    go_wp2_with fail
    go_ret
    exact ⟨_, w5, rfl, hown, hg, hw, rfl⟩
end Go.Proofs.YtjpjikfmdaejeaaGreatDoor
/-
  THE PROGRAM's standsFor; nothing that was there is changed.
-/
namespace Go.Proofs.YtjpjikfmdaejeaaGreatDoor
set_option linter.unusedVariables false
set_option linter.unusedSimpArgs false
open Go.RowKit

/-- what standsFor answers -/
def folO (o : Option Nat) : Int := match o with | some b => (b : Int) | none => 0

set_option maxHeartbeats 800000 in
theorem standsFor_calls (g : List Ce) (a : Nat) (v : Value) (w : World) (hk : CIn w g v) (hg : ∃ defs, graphB g defs = true) (ha : a < g.length) :
    Calls Tryz.prog 69 #[v, .int .i64 (a : Int)] w fun e w' => e = .returned (.tuple #[.int .i64 (folO (followN g g.length a)), .bool (followN g g.length a).isSome]) ∧ Below w.heap.size w w' := by
  have HK : Hid (CIn w g v) := hk
  obtain ⟨ad, cap, rfl, hl, hm, -⟩ := hk
  unfold maxLen at hm
  obtain ⟨defs, hg⟩ := hg
  have HG : Hid (graphB g defs = true) := hg
  have h400 : g.length ≤ 400 := graphB_len hg
  clear hg
  go_enter Tryz.func69, Tryz.ntmps69
  go_wp2_with fail
  go_loopw [1, 8] (fun at' i wr => ∃ k b : Nat, k ≤ g.length ∧ i = .int .i64 k ∧ at' = .int .i64 (b : Int) ∧ b < g.length ∧ followN g g.length a = followN g (g.length - k) b ∧ Below w.heap.size w wr) (fun _ i _ => g.length - (intOf i).toNat)
  case atStart => exact ⟨0, a, Nat.zero_le _, rfl, rfl, ha, rfl, Below.refl _ _⟩
  case round =>
    obtain ⟨k, b, hk, rfl, rfl, hbl, hf, hb⟩ := hrel
    have HF : Hid (followN g g.length a = followN g (g.length - k) b) := hf
    have HB : Hid (Below w.heap.size w wr) := hb
    clear hf
    by_cases hlt : k < g.length
    · have HLT : Hid (k < g.length) := hlt
      obtain ⟨bl, off, r, rfl, c0, c1, c2, -, -, hkk⟩ := (HK.out.next hb).at b hbl
      clear hb
      by_cases ho : g[b].op = 11
      · obtain ⟨y, hy1, hy2, hy3⟩ := ind_kid HG.out b hbl ho
        have HV : Hid (followN g g.length a = followN g (g.length - (k + 1)) y) := by
          have h1 := HF.out
          rw [show g.length - k = (g.length - (k + 1)) + 1 by omega] at h1
          exact h1.trans ((followN_ind (by rw [opAt_at b hbl]; exact ho)).trans (by rw [hy3]))
        have t1 : (g[b].op != 11) = false := by simp [ho]
        obtain ⟨ad2, cap2, rfl, hl2, hm2, -⟩ := id hkk
        obtain ⟨bl2, off2, rfl, d0⟩ := hkk.at 0 (by rw [hy1]; simp)
        have hlen1 : g[b].kids.length = 1 := by rw [hy1]; rfl
        have hkid : g[b].kids[0]'(by omega) = (y : Int) := by simp [hy1]
        rw [hkid, Nat.add_zero] at d0
        rw [hlen1] at c2
        clear ho hy1 hy3 hkid hlen1 hkk hl2 hm2
        go_wp2_with fail
        go_roundw
        case rel => exact ⟨k + 1, y, by have := HLT.out; omega, by go_num, rfl, hy2, HV.out, HB.out⟩
        case measure => have := HLT.out; simp [intOf]; omega
      · have HV : Hid (followN g g.length a = some b) := by
          have h1 := HF.out
          rw [show g.length - k = (g.length - k - 1) + 1 by omega] at h1
          exact h1.trans (followN_stop (by rw [opAt_at b hbl]; exact ho))
        have t1 : (g[b].op != 11) = true := by simpa using ho
        clear ho hkk
        go_wp2_with fail
        go_ret2
        exact ⟨ret_ib (by rw [HV.out]; rfl) (by rw [HV.out]; rfl), HB.out⟩
    · have HV : Hid (followN g g.length a = none) := by
        have := HF.out
        rw [show g.length - k = 0 by omega] at this
        exact this
      clear hb
      go_wp2_with fail
      go_ret2
      exact ⟨ret_ib (by rw [HV.out]; rfl) (by rw [HV.out]; rfl), HB.out⟩

end Go.Proofs.YtjpjikfmdaejeaaGreatDoor
/-
  THE PROGRAM's arena IN MEMORY, AND redirect.
-/
namespace Go.Proofs.YtjpjikfmdaejeaaGreatDoor
set_option linter.unusedVariables false
set_option linter.unusedSimpArgs false
open Go.RowKit

/-- an arena at A, its graph in rows of its own from lo on -/
structure ArW (A lo : Nat) (g : List Ce) (w : World) : Prop where
  are : ∃ ad cap, w.heap[A]? = some (.cells #[.slice ad g.length cap] 66) ∧ OwnC w lo (fun b => lo ≤ b) g (.slice ad g.length cap)
  loA : lo ≤ A
/-- no row of cells -/
def NoCe (w : World) (j : Nat) : Prop := ∀ C r, w.heap[j]? ≠ some (.cells C 58 r)
theorem ArW.blk {A lo : Nat} {g : List Ce} {w : World} (h : ArW A lo g w) (h0 : 0 < g.length) : ∃ b cap, w.heap[A]? = some (.cells #[.slice (some ⟨b, 0, none⟩) g.length cap] 66) ∧ OwnC w lo (fun b => lo ≤ b) g (.slice (some ⟨b, 0, none⟩) g.length cap) ∧ lo ≤ b ∧ b < w.heap.size ∧ b ≠ A ∧ ¬ NoCe w b := by
  obtain ⟨ad, cap, h1, h2⟩ := h.are
  obtain ⟨ys, hys⟩ := h2.row
  rcases hys.2 with ⟨-, hz⟩ | ⟨b5, c5, cur5, e5, hlo, hh, -⟩
  · omega
  · simp only [Value.slice.injEq] at e5
    obtain ⟨rfl, -, rfl⟩ := e5
    refine ⟨b5, cap, h1, h2, hlo, (Array.getElem?_eq_some_iff.1 hh).1, ?_, fun hn => hn _ _ hh⟩
    rintro rfl; rw [h1] at hh; simp at hh
/-- it stays where all blocks from lo on stay -/
theorem ArW.keep {A lo : Nat} {g : List Ce} {w w' : World} (h : ArW A lo g w) (hb : ∀ k, lo ≤ k → k < w.heap.size → w'.heap[k]? = w.heap[k]?) : ArW A lo g w' := by
  obtain ⟨ad, cap, h1, h2⟩ := h.are
  exact ⟨⟨ad, cap, (hb A h.loA (Array.getElem?_eq_some_iff.1 h1).1).trans h1, h2.next (fun _ h _ => h) (fun k hk hz => hb k (by obtain ⟨ys, hy⟩ := h2.row; exact (hy.lt k hk.symm).1) hz) (fun k hk hz => hb k hk hz)⟩, h.loA⟩
theorem ArW.next {A lo : Nat} {g : List Ce} {w w' : World} (h : ArW A lo g w) (hb : Below w.heap.size w w') : ArW A lo g w' := h.keep fun k _ hk => hb.block k hk
theorem ArW.inn {A lo : Nat} {g : List Ce} {w : World} (h : ArW A lo g w) : ∃ ad cap, w.heap[A]? = some (.cells #[.slice ad g.length cap] 66) ∧ CIn w g (.slice ad g.length cap) := by
  obtain ⟨ad, cap, h1, h2⟩ := h.are
  exact ⟨ad, cap, h1, (h2.own fun k hk _ => hk).inn⟩
/-- a cell is overwritten, its operands in a block that is laid for them -/
theorem ArW.set {A lo b cap : Nat} {g : List Ce} {w : World} (h : ArW A lo g w) (hA : w.heap[A]? = some (.cells #[.slice (some ⟨b, 0, none⟩) g.length cap] 66)) (hO : OwnC w lo (fun b => lo ≤ b) g (.slice (some ⟨b, 0, none⟩) g.length cap)) (hbA : b ≠ A)
    (hlo : lo ≤ w.heap.size) (o : Obj) {at' : Nat} (hat : at' < g.length) {ce : Ce} {kv : Value} (hc : I64 ce.op ∧ I64 ce.num) (hk : KRowS (w.alloc o) (fun x => x = w.heap.size) ce.kids w.heap.size kv) :
    ArW A lo (g.set at' ce) (st3 (w.alloc o) b at' ce.op ce.num kv) := by
  have hAl := (Array.getElem?_eq_some_iff.1 hA).1
  refine ⟨⟨some ⟨b, 0, none⟩, cap, ?_, ?_⟩, h.loA⟩
  · rw [st3_block hbA.symm, Deep.blk_alloc_lt _ _ _ hAl, List.length_set]; exact hA
  · have hoa : OwnC (w.alloc o) lo (fun b => lo ≤ b ∧ b < w.heap.size) g (.slice (some ⟨b, 0, none⟩) g.length cap) :=
      hO.next (fun k hk hz => ⟨hk, hz⟩) (fun k _ hz => Deep.blk_alloc_lt _ _ _ hz) (fun k _ hz => Deep.blk_alloc_lt _ _ _ hz)
    have hset := hoa.setc at' hat (c := ce) hc hk (by rintro ⟨-, h⟩; omega)
    rw [List.length_set]
    exact hset.next (fun k hk _ => by rcases hk with h | h; exact h.1; omega) (fun _ _ _ => rfl) (fun _ _ _ => rfl)
/-- a call that hands back nothing -/
def Did (P : World → Prop) (lo : Nat) (w : World) (e : Ending) (w' : World) : Prop := e = .returned (.tuple #[]) ∧ P w' ∧ Below lo w w'
theorem indI64 (k : Nat) : I64 (indTo k).op ∧ I64 (indTo k).num := by unfold I64 indTo; simp
theorem own_cellI {w : World} {base n cap b : Nat} {xs : List Value} (h : w.ownsRow base 58 3 (.slice (some ⟨b, 0, none⟩) n cap) n xs) (j : Nat) (hj : j < n * 3) : ∃ z, w.cell? ⟨b, j, none⟩ = some z :=
  ⟨_, (h.cellAt j hj).trans (List.getElem?_eq_getElem (by have := h.1; omega))⟩
/-- not the row of the arena's cells -/
def NotRow (w : World) (A j : Nat) : Prop := ∀ o n cap, w.heap[A]? ≠ some (.cells #[.slice (some ⟨j, o, none⟩) n cap] 66)
theorem ArW.notRow {A lo : Nat} {g : List Ce} {w : World} (h : ArW A lo g w) {j : Nat} (hn : NoCe w j) : NotRow w A j := by
  intro o n cap e
  obtain ⟨ad, cap2, h1, h2⟩ := h.are
  rw [h1] at e
  simp only [Option.some.injEq, Obj.cells.injEq, Array.mk.injEq, List.cons.injEq, Value.slice.injEq, and_true] at e
  obtain ⟨rfl, rfl, rfl⟩ := e
  obtain ⟨ys, hys⟩ := h2.row
  rcases hys.2 with ⟨e5, -⟩ | ⟨b5, c5, cur5, e5, hlo, hh, -⟩
  · cases e5
  · cases e5; exact hn _ _ hh
/-- the graph in the end; all but the row of the cells stays -/
def ReAr (A lo : Nat) (g : List Ce) (w w' : World) : Prop := ArW A lo g w' ∧ ∀ j, j < w.heap.size → NotRow w A j → w'.heap[j]? = w.heap[j]?

set_option maxRecDepth 100000 in
set_option maxHeartbeats 1600000 in
theorem redirectA_calls (A lo at' k : Nat) (g : List Ce) (w : World) (h : ArW A lo g w) (hlo : lo ≤ w.heap.size) (hat : at' < g.length) (hg : g.length ≤ 1048576) :
    Calls Tryz.prog 72 #[.pointer (some ⟨A, 0, none⟩), .int .i64 (at' : Int), .int .i64 (k : Int)] w (Did (ReAr A lo (g.set at' (indTo k)) w) lo w) := by
  obtain ⟨b, cap, hA, hO, hbl, hbz, hbA, hbn⟩ := h.blk (by omega)
  have HFIN := mkHid (h.set hA hO hbA hlo (.cells #[.int .i64 (k : Int)] 3) hat (ce := indTo k) (kv := .slice (some ⟨w.heap.size, 0, none⟩) 1 1) (indI64 k) (krow_one w k))
  have HFR : Hid (∀ j, j < w.heap.size → NotRow w A j → (st3 (w.alloc (.cells #[.int .i64 (k : Int)] 3)) b at' 11 0 (.slice (some ⟨w.heap.size, 0, none⟩) 1 1)).heap[j]? = w.heap[j]?) := fun j hj hn => by
    rw [st3_block (by rintro rfl; exact hn _ _ _ hA), Deep.blk_alloc_lt _ _ _ hj]
  have HBF : Hid (Below lo w (st3 (w.alloc (.cells #[.int .i64 (k : Int)] 3)) b at' 11 0 (.slice (some ⟨w.heap.size, 0, none⟩) 1 1))) := st3_below ((Below.refl _ _).alloc hlo _) hbl
  have hAl := (Array.getElem?_eq_some_iff.1 hA).1
  have a0 := cell_of_blk hA 0 _ rfl
  have a0' := old_cell a0 (.cells #[.int .i64 (k : Int)] 3)
  obtain ⟨ys, hys⟩ := hO.row
  have hys2 := World.ownsRow.alloc hys (.cells #[.int .i64 (k : Int)] 3)
  obtain ⟨q0, y0⟩ := own_cellI hys2 (at' * 3) (by omega)
  obtain ⟨q1, y1⟩ := own_cellI hys2 (at' * 3 + 1) (by omega)
  obtain ⟨q2, y2⟩ := own_cellI hys2 (at' * 3 + 2) (by omega)
  have f0 := hys2.frozenAt (at' * 3)
  have f1 := hys2.frozenAt (at' * 3 + 1)
  have f2 := hys2.frozenAt (at' * 3 + 2)
  have hatI : (at' : Int) < (g.length : Int) := by omega
  clear hys hys2 hO hA h hbz hbl hbA hbn hAl
  go_enter Tryz.func72, Tryz.ntmps72
  go_wp2_with fail
  go_end0
  exact ⟨rfl, ⟨HFIN.out, HFR.out⟩, HBF.out⟩
end Go.Proofs.YtjpjikfmdaejeaaGreatDoor
/-
  THE PROGRAM's reducer IN MEMORY, AND redirect.
-/
namespace Go.Proofs.YtjpjikfmdaejeaaGreatDoor
set_option linter.unusedVariables false
set_option linter.unusedSimpArgs false
open Go.RowKit

/-- a reducer at R with its arena at A, its graph in rows of its own from lo on -/
structure RedW (R A lo : Nat) (c : Value) (fu st : Int) (g : List Ce) (w : World) : Prop where
  red : w.heap[R]? = some (.cells #[.pointer (some ⟨A, 0, none⟩), c, .int .i64 fu, .int .i64 st] 64)
  are : ∃ ad cap, w.heap[A]? = some (.cells #[.slice ad g.length cap] 66) ∧ OwnC w lo (fun b => lo ≤ b) g (.slice ad g.length cap)
  loR : lo ≤ R
  loA : lo ≤ A
theorem RedW.blk {R A lo : Nat} {c : Value} {fu st : Int} {g : List Ce} {w : World} (h : RedW R A lo c fu st g w) (h0 : 0 < g.length) : ∃ b cap, w.heap[A]? = some (.cells #[.slice (some ⟨b, 0, none⟩) g.length cap] 66) ∧ OwnC w lo (fun b => lo ≤ b) g (.slice (some ⟨b, 0, none⟩) g.length cap) ∧ lo ≤ b ∧ b < w.heap.size ∧ b ≠ A ∧ b ≠ R := by
  obtain ⟨ad, cap, h1, h2⟩ := h.are
  obtain ⟨ys, hys⟩ := h2.row
  rcases hys.2 with ⟨-, hz⟩ | ⟨b5, c5, cur5, e5, hlo, hh, -⟩
  · omega
  · simp only [Value.slice.injEq] at e5
    obtain ⟨rfl, -, rfl⟩ := e5
    refine ⟨b5, cap, h1, h2, hlo, (Array.getElem?_eq_some_iff.1 hh).1, ?_, ?_⟩
    · rintro rfl; rw [h1] at hh; simp at hh
    · rintro rfl; rw [h.red] at hh; simp at hh
/-- it stays where all blocks from lo on stay -/
theorem RedW.keep {R A lo : Nat} {c : Value} {fu st : Int} {g : List Ce} {w w' : World} (h : RedW R A lo c fu st g w) (hb : ∀ k, lo ≤ k → k < w.heap.size → w'.heap[k]? = w.heap[k]?) : RedW R A lo c fu st g w' := by
  obtain ⟨ad, cap, h1, h2⟩ := h.are
  exact ⟨(hb R h.loR (Array.getElem?_eq_some_iff.1 h.red).1).trans h.red, ⟨ad, cap, (hb A h.loA (Array.getElem?_eq_some_iff.1 h1).1).trans h1, h2.next (fun _ h _ => h) (fun k hk hz => hb k (by obtain ⟨ys, hy⟩ := h2.row; exact (hy.lt k hk.symm).1) hz) (fun k hk hz => hb k hk hz)⟩, h.loR, h.loA⟩
theorem RedW.next {R A lo : Nat} {c : Value} {fu st : Int} {g : List Ce} {w w' : World} (h : RedW R A lo c fu st g w) (hb : Below w.heap.size w w') : RedW R A lo c fu st g w' := h.keep fun k _ hk => hb.block k hk
/-- the graph can be read -/
theorem RedW.inn {R A lo : Nat} {c : Value} {fu st : Int} {g : List Ce} {w : World} (h : RedW R A lo c fu st g w) : ∃ ad cap, w.heap[A]? = some (.cells #[.slice ad g.length cap] 66) ∧ CIn w g (.slice ad g.length cap) := by
  obtain ⟨ad, cap, h1, h2⟩ := h.are
  exact ⟨ad, cap, h1, (h2.own fun k hk _ => hk).inn⟩
/-- a cell is overwritten, its operands in a block that is laid for them -/
theorem RedW.set {R A lo b cap : Nat} {c : Value} {fu st : Int} {g : List Ce} {w : World} (h : RedW R A lo c fu st g w) (hA : w.heap[A]? = some (.cells #[.slice (some ⟨b, 0, none⟩) g.length cap] 66)) (hO : OwnC w lo (fun b => lo ≤ b) g (.slice (some ⟨b, 0, none⟩) g.length cap)) (hbA : b ≠ A) (hbR : b ≠ R)
    (hlo : lo ≤ w.heap.size) (o : Obj) {at' : Nat} (hat : at' < g.length) {ce : Ce} {kv : Value} (hc : I64 ce.op ∧ I64 ce.num) (hk : KRowS (w.alloc o) (fun x => x = w.heap.size) ce.kids w.heap.size kv) :
    RedW R A lo c fu st (g.set at' ce) (st3 (w.alloc o) b at' ce.op ce.num kv) := by
  have hRl := (Array.getElem?_eq_some_iff.1 h.red).1
  have hAl := (Array.getElem?_eq_some_iff.1 hA).1
  refine ⟨?_, ⟨some ⟨b, 0, none⟩, cap, ?_, ?_⟩, h.loR, h.loA⟩
  · rw [st3_block hbR.symm, Deep.blk_alloc_lt _ _ _ hRl]; exact h.red
  · rw [st3_block hbA.symm, Deep.blk_alloc_lt _ _ _ hAl, List.length_set]; exact hA
  · have hoa : OwnC (w.alloc o) lo (fun b => lo ≤ b ∧ b < w.heap.size) g (.slice (some ⟨b, 0, none⟩) g.length cap) :=
      hO.next (fun k hk hz => ⟨hk, hz⟩) (fun k _ hz => Deep.blk_alloc_lt _ _ _ hz) (fun k _ hz => Deep.blk_alloc_lt _ _ _ hz)
    have hset := hoa.setc at' hat (c := ce) hc hk (by rintro ⟨-, h⟩; omega)
    rw [List.length_set]
    exact hset.next (fun k hk _ => by rcases hk with h | h; exact h.1; omega) (fun _ _ _ => rfl) (fun _ _ _ => rfl)
theorem RedW.arw {R A lo : Nat} {c : Value} {fu st : Int} {g : List Ce} {w : World} (h : RedW R A lo c fu st g w) : ArW A lo g w := ⟨h.are, h.loA⟩
theorem RedW.noR {R A lo : Nat} {c : Value} {fu st : Int} {g : List Ce} {w : World} (h : RedW R A lo c fu st g w) : NoCe w R := by intro C r e; rw [h.red] at e; simp at e
theorem RedW.of {R A lo : Nat} {c : Value} {fu st : Int} {g g' : List Ce} {w w' : World} (h : RedW R A lo c fu st g w) (ha : ReAr A lo g' w w') : RedW R A lo c fu st g' w' :=
  ⟨(ha.2 R (Array.getElem?_eq_some_iff.1 h.red).1 (h.arw.notRow h.noR)).trans h.red, ha.1.are, h.loR, h.loA⟩
/-- a cell stands for another one; all but the row of the cells stays -/
def RedX (R A lo : Nat) (c : Value) (fu st : Int) (g : List Ce) (w : World) (e : Ending) (w' : World) : Prop := e = .returned (.tuple #[]) ∧ RedW R A lo c fu st g w' ∧ Below lo w w' ∧ ∀ j, j < w.heap.size → NotRow w A j → w'.heap[j]? = w.heap[j]?
theorem redirectX_calls (R A lo at' k : Nat) (c : Value) (fu st : Int) (g : List Ce) (w : World) (h : RedW R A lo c fu st g w) (hlo : lo ≤ w.heap.size) (hat : at' < g.length) (hg : g.length ≤ 1048576) :
    Calls Tryz.prog 72 #[.pointer (some ⟨A, 0, none⟩), .int .i64 (at' : Int), .int .i64 (k : Int)] w (RedX R A lo c fu st (g.set at' (indTo k)) w) :=
  (redirectA_calls A lo at' k g w h.arw hlo hat hg).mono fun _ _ h2 => ⟨h2.1, h.of h2.2.1, h2.2.2, h2.2.1.2⟩
theorem notRow_of {w w' : World} {A b n cap j : Nat} (hA : w.heap[A]? = some (.cells #[.slice (some ⟨b, 0, none⟩) n cap] 66)) (hj : j ≠ b) (he : w'.heap[A]? = w.heap[A]?) : NotRow w' A j := by
  intro o n2 cap2 e
  rw [he, hA] at e
  simp only [Option.some.injEq, Obj.cells.injEq, Array.mk.injEq, List.cons.injEq, Value.slice.injEq, Addr.mk.injEq, and_true] at e
  exact hj e.1.1.symm
theorem redirect_calls (R A lo at' k : Nat) (c : Value) (fu st : Int) (g : List Ce) (w : World) (h : RedW R A lo c fu st g w) (hlo : lo ≤ w.heap.size) (hat : at' < g.length) (hg : g.length ≤ 1048576) :
    Calls Tryz.prog 72 #[.pointer (some ⟨A, 0, none⟩), .int .i64 (at' : Int), .int .i64 (k : Int)] w (Did (RedW R A lo c fu st (g.set at' (indTo k))) lo w) :=
  (redirectA_calls A lo at' k g w h.arw hlo hat hg).mono fun _ _ h2 => ⟨h2.1, h.of h2.2.1, h2.2.2⟩
end Go.Proofs.YtjpjikfmdaejeaaGreatDoor
/-
  THE PROGRAM's (*reducer).operand AND sumOf.
-/
namespace Go.Proofs.YtjpjikfmdaejeaaGreatDoor
set_option linter.unusedVariables false
set_option linter.unusedSimpArgs false
open Go.RowKit

/-- a cell by value -/
def CellV (c : Ce) (w : World) (e : Ending) (w' : World) : Prop := ∃ v, e = .returned (.agg #[.int .i64 c.op, .int .i64 c.num, v]) ∧ IIn w' c.kids v ∧ Below w.heap.size w w'
set_option maxRecDepth 100000 in
set_option maxHeartbeats 1600000 in
theorem operand_calls (R A lo k b i : Nat) (c : Value) (fu st : Int) (g : List Ce) (op num : Int) (ks : List Int) (kv : Value) (w : World) (h : RedW R A lo c fu st g w) (hg : ∃ defs, graphB g defs = true) (hk : IIn w ks kv) (hi : i < ks.length) (hki : ks[i] = (k : Int)) (hkl : k < g.length) (hb : followN g g.length k = some b) (hbl : b < g.length) :
    Calls Tryz.prog 74 #[.pointer (some ⟨R, 0, none⟩), .agg #[.int .i64 op, .int .i64 num, kv], .int .i64 (i : Int)] w (CellV g[b] w) := by
  obtain ⟨ada, capa, hA, hC⟩ := h.inn
  have HC := mkHid hC
  have HGB := mkHid hg
  have HB := mkHid hb
  have HA := mkHid hA
  have HR := mkHid h.red
  obtain ⟨ad, cap, rfl, hcl, hcm, -⟩ := id hk
  obtain ⟨bk, ok, rfl, d0⟩ := hk.at i hi
  rw [hki] at d0
  unfold maxLen at hcm
  have hgl : g.length ≤ 400 := by obtain ⟨d, hd⟩ := hg; exact graphB_len hd
  have r0 := old_cell (old_cell (cell_of_blk h.red 0 _ rfl) (.cells #[.int .i64 op, .int .i64 num, .slice (some ⟨bk, ok, none⟩) ks.length cap] 58)) (.cells #[.int .i64 0, .int .i64 0, .slice none 0 0] 58)
  have a0 := old_cell (old_cell (cell_of_blk hA 0 _ rfl) (.cells #[.int .i64 op, .int .i64 num, .slice (some ⟨bk, ok, none⟩) ks.length cap] 58)) (.cells #[.int .i64 0, .int .i64 0, .slice none 0 0] 58)
  have dk := old_cell (old_cell d0 (.cells #[.int .i64 op, .int .i64 num, .slice (some ⟨bk, ok, none⟩) ks.length cap] 58)) (.cells #[.int .i64 0, .int .i64 0, .slice none 0 0] 58)
  have b2 := old_cell (box_cell w #[.int .i64 op, .int .i64 num, .slice (some ⟨bk, ok, none⟩) ks.length cap] 58 2 _ rfl) (.cells #[.int .i64 0, .int .i64 0, .slice none 0 0] 58)
  have hiI : (i : Int) < (ks.length : Int) := by omega
  have HBX : Hid (Below w.heap.size w ((w.alloc (.cells #[.int .i64 op, .int .i64 num, .slice (some ⟨bk, ok, none⟩) ks.length cap] 58)).alloc (.cells #[.int .i64 0, .int .i64 0, .slice none 0 0] 58))) := (box_below _ _).alloc (by rw [Deep.nblk_alloc]; omega) _
  have HXB : Hid (((w.alloc (.cells #[.int .i64 op, .int .i64 num, .slice (some ⟨bk, ok, none⟩) ks.length cap] 58)).alloc (.cells #[.int .i64 0, .int .i64 0, .slice none 0 0] 58)).heap[w.heap.size]? = some (.cells #[.int .i64 op, .int .i64 num, .slice (some ⟨bk, ok, none⟩) ks.length cap] 58)) := (Deep.blk_alloc_lt _ _ _ (by rw [Deep.nblk_alloc]; omega)).trans (Deep.blk_alloc_new _ _)
  have HZB : Hid (((w.alloc (.cells #[.int .i64 op, .int .i64 num, .slice (some ⟨bk, ok, none⟩) ks.length cap] 58)).alloc (.cells #[.int .i64 0, .int .i64 0, .slice none 0 0] 58)).heap[w.heap.size + 1]? = some (.cells #[.int .i64 0, .int .i64 0, .slice none 0 0] 58)) := by
    have h := Deep.blk_alloc_new (w.alloc (.cells #[.int .i64 op, .int .i64 num, .slice (some ⟨bk, ok, none⟩) ks.length cap] 58)) (.cells #[.int .i64 0, .int .i64 0, .slice none 0 0] 58)
    rw [Deep.nblk_alloc] at h; exact h
  have HSZ : Hid (((w.alloc (.cells #[.int .i64 op, .int .i64 num, .slice (some ⟨bk, ok, none⟩) ks.length cap] 58)).alloc (.cells #[.int .i64 0, .int .i64 0, .slice none 0 0] 58)).heap.size = w.heap.size + 2) := by rw [Hid, Deep.nblk_alloc, Deep.nblk_alloc]
  have HD := mkHid d0
  clear h hA hC hg hk hki hb d0
  go_enter Tryz.func74, Tryz.ntmps74
  go_wp2_with fail
  go_region_held3 (fun w' => w'.cell? ⟨R, 0, none⟩ = some (.pointer (some ⟨A, 0, none⟩)) ∧ w'.cell? ⟨A, 0, none⟩ = some (.slice ada g.length capa) ∧ w'.cell? ⟨w.heap.size, 2, none⟩ = some (.slice (some ⟨bk, ok, none⟩) ks.length cap) ∧ w'.cell? ⟨bk, ok + i, none⟩ = some (.int .i64 (k : Int)))
    (first
      | go_keep
      | exact ⟨m0, m1, m2, m3⟩
      | exact ⟨r0, a0, b2, dk⟩)
    (first
      | (go_at_call 69; refine (standsFor_calls g k _ ((w.alloc (.cells #[.int .i64 op, .int .i64 num, .slice (some ⟨bk, ok, none⟩) ks.length cap] 58)).alloc (.cells #[.int .i64 0, .int .i64 0, .slice none 0 0] 58)).drew (HC.out.next HBX.out.drew) HGB.out hkl).mono ?_; rintro e w1 ⟨rfl, hb1⟩; rw [HB.out, show folO (some b) = (b : Int) from rfl]; have HB1 : Hid (Below ((w.alloc (.cells #[.int .i64 op, .int .i64 num, .slice (some ⟨bk, ok, none⟩) ks.length cap] 58)).alloc (.cells #[.int .i64 0, .int .i64 0, .slice none 0 0] 58)).heap.size ((w.alloc (.cells #[.int .i64 op, .int .i64 num, .slice (some ⟨bk, ok, none⟩) ks.length cap] 58)).alloc (.cells #[.int .i64 0, .int .i64 0, .slice none 0 0] 58)) w1) := (Below.refl _ _).drew.trans hb1; have HBW : Hid (Below w.heap.size w w1) := HBX.out.trans (HB1.out.mono HBX.out.size); have m0 := cell_of_blk ((HBW.out.block _ (Array.getElem?_eq_some_iff.1 HR.out).1).trans HR.out) 0 _ rfl; have m1 := cell_of_blk ((HBW.out.block _ (Array.getElem?_eq_some_iff.1 HA.out).1).trans HA.out) 0 _ rfl; have HX1 := mkHid ((HB1.out.block w.heap.size (by rw [HSZ.out]; omega)).trans HXB.out); have m2 := cell_of_blk HX1.out 2 _ rfl; have m3 := (HBW.out.cell (p := ⟨bk, ok + i, none⟩) (cell_lt HD.out)).trans HD.out; have HZ1 := mkHid ((HB1.out.block (w.heap.size + 1) (by rw [HSZ.out]; omega)).trans HZB.out); clear hb1))
  obtain ⟨bg, og, rg, hea, g0w, g1w, g2w, -, -, hkk⟩ := HC.out.at b hbl
  subst hea
  have HKK := mkHid hkk
  obtain ⟨adk, capk, rfl, -, -, -⟩ := hkk
  have g0 := (HBW.out.cell (p := ⟨bg, og + b * 3, none⟩) (cell_lt g0w)).trans g0w
  have g1 := (HBW.out.cell (p := ⟨bg, og + b * 3 + 1, none⟩) (cell_lt g1w)).trans g1w
  have g2 := (HBW.out.cell (p := ⟨bg, og + b * 3 + 2, none⟩) (cell_lt g2w)).trans g2w
  have z0 := cell_of_blk HZ1.out 0 _ rfl
  have z1 := cell_of_blk HZ1.out 1 _ rfl
  have z2 := cell_of_blk HZ1.out 2 _ rfl
  have f0 := frz_of_blk HZ1.out 0
  have f1 := frz_of_blk HZ1.out 1
  have f2 := frz_of_blk HZ1.out 2
  have HFB : Hid (Below w.heap.size w (((w1.setCell ⟨w.heap.size + 1, 0, none⟩ (.int .i64 g[b].op)).setCell ⟨w.heap.size + 1, 1, none⟩ (.int .i64 g[b].num)).setCell ⟨w.heap.size + 1, 2, none⟩ (.slice adk g[b].kids.length capk))) := ((HBW.out.setCell (Nat.le_succ _) _).setCell (Nat.le_succ _) _).setCell (Nat.le_succ _) _
  clear m2 m3 r0 a0 b2 dk g0w g1w g2w
  go_wp2_with fail
  refine bodyPost_ret (v := .agg #[.int .i64 g[b].op, .int .i64 g[b].num, .slice adk g[b].kids.length capk]) (by simp [results, Tryz.results74, go_sem, z0, z1, z2, f0, f1, f2]) rfl ?_
  exact ⟨_, rfl, HKK.out.next HFB.out, HFB.out⟩
end Go.Proofs.YtjpjikfmdaejeaaGreatDoor
/-
  THE PROGRAM's sumOf, AND (*reducer).change but for calls.
-/
namespace Go.Proofs.YtjpjikfmdaejeaaGreatDoor
set_option linter.unusedVariables false
set_option linter.unusedSimpArgs false
open Go.RowKit

set_option maxHeartbeats 800000 in
theorem sumOf_calls (op a b : Int) (ho : op = 8 ∨ op = 9) (ha : 0 ≤ a ∧ a ≤ 999) (hb : 0 ≤ b ∧ b ≤ 999) (w : World) :
    Calls Tryz.prog 75 #[.int .i64 op, .int .i64 a, .int .i64 b] w fun e w' => e = .returned (.int .i64 (numberOf op a b)) ∧ w = w' := by
  obtain ⟨a0, a1⟩ := ha
  obtain ⟨b0, b1⟩ := hb
  rcases ho with rfl | rfl
  · have HV : Hid (numberOf 8 a b = (a + b) % 1000) := rfl
    go_enter Tryz.func75, Tryz.ntmps75
    go_wp2_with fail
    go_ret
    exact ⟨ret_int (by rw [HV.out]), rfl⟩
  · have HV : Hid (numberOf 9 a b = (a + (1000 - b)) % 1000) := rfl
    have h0 : 0 ≤ 1000 - b := by omega
    have h1 : 1000 - b ≤ 1000 := by omega
    go_enter Tryz.func75, Tryz.ntmps75
    go_wp2_with fail
    go_ret
    exact ⟨ret_int (by rw [HV.out]), rfl⟩

theorem cellsOf_ltI {w : World} {b : Nat} {o : Obj} (h : w.heap[b]? = some o) : b < w.heap.size := (Array.getElem?_eq_some_iff.1 h).1
theorem numI64 {n : Int} (h0 : 0 ≤ n) (h1 : n ≤ 999) : I64 (numC n).op ∧ I64 (numC n).num := by unfold I64 numC; simp; omega
theorem RedW.ownAt {R A lo b cap : Nat} {c : Value} {fu st : Int} {g : List Ce} {w : World} (h : RedW R A lo c fu st g w) (hA : w.heap[A]? = some (.cells #[.slice (some ⟨b, 0, none⟩) g.length cap] 66)) : OwnC w lo (fun b => lo ≤ b) g (.slice (some ⟨b, 0, none⟩) g.length cap) := by
  obtain ⟨ad2, cap2, h1, h2⟩ := h.are
  rw [hA] at h1
  simp at h1
  obtain ⟨rfl, rfl⟩ := h1
  exact h2
theorem RedW.rowAt {R A lo b cap : Nat} {c : Value} {fu st : Int} {g : List Ce} {w : World} (h : RedW R A lo c fu st g w) (hA : w.heap[A]? = some (.cells #[.slice (some ⟨b, 0, none⟩) g.length cap] 66)) : ∃ ys, w.ownsRow lo 58 3 (.slice (some ⟨b, 0, none⟩) g.length cap) g.length ys := (h.ownAt hA).row
/-- the operands of a cell do not lie in the row of the cells -/
theorem RedW.kidNe {R A lo b cap : Nat} {c : Value} {fu st : Int} {g : List Ce} {w : World} (h : RedW R A lo c fu st g w) (hA : w.heap[A]? = some (.cells #[.slice (some ⟨b, 0, none⟩) g.length cap] 66)) {at' : Nat} (ha : at' < g.length) {n2 cap2 : Nat} {ad : Option Addr}
    (h2 : w.cell? ⟨b, at' * 3 + 2, none⟩ = some (.slice ad n2 cap2)) (hne : 0 < g[at'].kids.length) : ∀ bk ok, ad = some ⟨bk, ok, none⟩ → bk ≠ b := by
  rintro bk ok rfl rfl
  obtain ⟨hi0, xs, kb, g1, g2, g3⟩ := h.ownAt hA
  have e1 := g1.cellAt (at' * 3 + 2) (by omega)
  obtain ⟨kv, e2, e3, e4, ad3, cap3, rfl, -, -, e5⟩ := g2 at' ha
  rw [h2, e4] at e1
  simp only [Option.some.injEq, Value.slice.injEq] at e1
  obtain ⟨rfl, -, -⟩ := e1
  rcases e5 with e5 | ⟨f, e5, e6, e7, -⟩
  · rw [e5] at hne; simp at hne
  · obtain ⟨C, hC, -⟩ := e7
    simp only [Option.some.injEq, Addr.mk.injEq] at e5
    rw [← e5.1] at hC
    rcases g1.2 with ⟨e8, -⟩ | ⟨b8, c8, cur8, e8, -, e9, -⟩
    · cases e8
    · cases e8
      rw [e9] at hC
      simp at hC
/-- a cell is overwritten by one without operands -/
theorem RedW.set0 {R A lo b cap : Nat} {c : Value} {fu st : Int} {g : List Ce} {w : World} (h : RedW R A lo c fu st g w) (hA : w.heap[A]? = some (.cells #[.slice (some ⟨b, 0, none⟩) g.length cap] 66)) (hbA : b ≠ A) (hbR : b ≠ R)
    (hlo : lo ≤ w.heap.size) {at' : Nat} (hat : at' < g.length) {ce : Ce} {kv : Value} (hc : I64 ce.op ∧ I64 ce.num) (hk : KRowS w (fun x => x = w.heap.size) ce.kids w.heap.size kv) :
    RedW R A lo c fu st (g.set at' ce) (st3 w b at' ce.op ce.num kv) := by
  have hO := h.ownAt hA
  refine ⟨?_, ⟨some ⟨b, 0, none⟩, cap, ?_, ?_⟩, h.loR, h.loA⟩
  · rw [st3_block hbR.symm]; exact h.red
  · rw [st3_block hbA.symm, List.length_set]; exact hA
  · have hoa : OwnC w lo (fun b => lo ≤ b ∧ b < w.heap.size) g (.slice (some ⟨b, 0, none⟩) g.length cap) :=
      hO.next (fun k hk hz => ⟨hk, hz⟩) (fun k _ hz => rfl) (fun k _ hz => rfl)
    have hset := hoa.setc at' hat (c := ce) hc hk (by rintro ⟨-, h⟩; omega)
    rw [List.length_set]
    exact hset.next (fun k hk _ => by rcases hk with h | h; exact h.1; omega) (fun _ _ _ => rfl) (fun _ _ _ => rfl)
theorem fld2 (a b d : Value) (w : World) : (Instr.field 58 (.agg #[a, b, d]) 2).run Tryz.prog w = .ok d w := by kernel_rfl
theorem fld1 (a b d : Value) (w : World) : (Instr.field 58 (.agg #[a, b, d]) 1).run Tryz.prog w = .ok b w := by kernel_rfl
theorem numRange {g : List Ce} {defs : Int} (h : graphB g defs = true) (f : Nat) (hf : f < g.length) (ho : g[f].op = 2) : 0 ≤ g[f].num ∧ g[f].num ≤ 999 := by
  have hc := graphB_cell h f hf
  unfold cellB fitsB ownB at hc
  simp only [ho, Bool.and_eq_true, decide_eq_true_eq] at hc
  simpa using hc.1.2
/-- a step is made: no error -/
def Made0 (P : World → Prop) (lo : Nat) (w : World) (e : Ending) (w' : World) : Prop := e = .returned .nilIface ∧ P w' ∧ Below lo w w'

/-- the first or the second operand of a pair -/
theorem partOf1_calls (op o n : Int) (xs : List Int) (k : Nat) (kv : Value) (w : World) (hk : IIn w xs kv) (h0 : 0 < xs.length) (he : xs[0] = (k : Int)) (ht : (op == 6) = true) :
    Calls Tryz.prog 73 #[.int .i64 op, .agg #[.int .i64 o, .int .i64 n, kv]] w fun e w' => e = .returned (.int .i64 (k : Int)) ∧ Below w.heap.size w w' := by
  obtain ⟨ad, cap, rfl, hl, hm, -⟩ := id hk
  obtain ⟨bk, ok, rfl, d0⟩ := hk.at 0 h0
  rw [he, Nat.add_zero] at d0
  have x2 := box_cell w #[.int .i64 o, .int .i64 n, .slice (some ⟨bk, ok, none⟩) xs.length cap] 58 2 _ rfl
  have dk := old_cell d0 (.cells #[.int .i64 o, .int .i64 n, .slice (some ⟨bk, ok, none⟩) xs.length cap] 58)
  have h0I : (0 : Int) < (xs.length : Int) := by omega
  have HB : Hid (Below w.heap.size w (w.alloc (.cells #[.int .i64 o, .int .i64 n, .slice (some ⟨bk, ok, none⟩) xs.length cap] 58))) := box_below _ _
  clear hk he d0
  go_enter Tryz.func73, Tryz.ntmps73
  go_wp2_with fail
  go_ret
  exact ⟨rfl, HB.out⟩
theorem partOf2_calls (op o n : Int) (xs : List Int) (k : Nat) (kv : Value) (w : World) (hk : IIn w xs kv) (h0 : 1 < xs.length) (he : xs[1] = (k : Int)) (ht : (op == 6) = false) :
    Calls Tryz.prog 73 #[.int .i64 op, .agg #[.int .i64 o, .int .i64 n, kv]] w fun e w' => e = .returned (.int .i64 (k : Int)) ∧ Below w.heap.size w w' := by
  obtain ⟨ad, cap, rfl, hl, hm, -⟩ := id hk
  obtain ⟨bk, ok, rfl, d0⟩ := hk.at 1 h0
  rw [he] at d0
  have x2 := box_cell w #[.int .i64 o, .int .i64 n, .slice (some ⟨bk, ok, none⟩) xs.length cap] 58 2 _ rfl
  have dk := old_cell d0 (.cells #[.int .i64 o, .int .i64 n, .slice (some ⟨bk, ok, none⟩) xs.length cap] 58)
  have h0I : (1 : Int) < (xs.length : Int) := by omega
  have HB : Hid (Below w.heap.size w (w.alloc (.cells #[.int .i64 o, .int .i64 n, .slice (some ⟨bk, ok, none⟩) xs.length cap] 58))) := box_below _ _
  clear hk he d0
  go_enter Tryz.func73, Tryz.ntmps73
  go_wp2_with fail
  go_ret
  exact ⟨rfl, HB.out⟩

set_option maxRecDepth 100000 in
set_option maxHeartbeats 6400000 in
theorem changeOp_calls (R A lo at' : Nat) (c : Value) (fu st : Int) (g : List Ce) (defs : Int) (w : World) (h : RedW R A lo c fu st g w) (hlo : lo ≤ w.heap.size) (hg : graphB g defs = true) (ha : at' < g.length) (hr : OpReady g at') :
    Calls Tryz.prog 55 #[.pointer (some ⟨R, 0, none⟩), .int .i64 (at' : Int)] w (Made0 (RedW R A lo c fu st (g.set at' (opCell g at'))) lo w) := by
  have HW := mkHid h
  have HG := mkHid hg
  obtain ⟨b5, cap, hA, hO, hbl5, hbz5, hbA, hbR⟩ := h.blk (by omega)
  have hC := (hO.own fun k hk _ => hk).inn
  have h400 : g.length ≤ 400 := graphB_len hg
  have HOA : Hid (opAt g at' = g[at'].op) := opAt_at at' ha
  obtain ⟨bl, off, r, hea, c0, c1, c2, -, -, hkk⟩ := hC.at at' ha
  cases hea
  simp only [Nat.zero_add] at c0 c1 c2
  have HKK := mkHid hkk
  obtain ⟨adk, capk, rfl, hkcl, hkcm, -⟩ := hkk
  have HNK0 : Hid (0 < g[at'].kids.length → ∀ bk ok, adk = some ⟨bk, ok, none⟩ → bk ≠ b5) := fun hne => h.kidNe hA ha c2 hne
  have r0 := cell_of_blk h.red 0 _ rfl
  have a0 := cell_of_blk hA 0 _ rfl
  have HBX : Hid (Below w.heap.size w (w.alloc (.cells #[.int .i64 g[at'].op, .int .i64 g[at'].num, .slice adk g[at'].kids.length capk] 58))) := box_below _ _
  have HX : Hid ((w.alloc (.cells #[.int .i64 g[at'].op, .int .i64 g[at'].num, .slice adk g[at'].kids.length capk] 58)).heap[w.heap.size]? = some (.cells #[.int .i64 g[at'].op, .int .i64 g[at'].num, .slice adk g[at'].kids.length capk] 58)) := Deep.blk_alloc_new _ _
  have HWX := mkHid (HW.out.next HBX.out)
  have HSX : Hid ((w.alloc (.cells #[.int .i64 g[at'].op, .int .i64 g[at'].num, .slice adk g[at'].kids.length capk] 58)).heap.size = w.heap.size + 1) := Deep.nblk_alloc _ _
  have hatI : (at' : Int) < (g.length : Int) := by omega
  unfold maxLen at hkcm
  have F2 := fld2
  have F1 := fld1
  have HAA := mkHid hA
  have HRR := mkHid h.red
  have HB5 := mkHid (And.intro hbA hbR)
  have HBZ5 := mkHid hbz5
  have HNX : Hid (∀ W : World, Below w.heap.size w W → NotRow W A w.heap.size) := fun W hb => notRow_of HAA.out (by have := HBZ5.out; omega) (hb.block A (cellsOf_ltI HAA.out))
  clear h hg hA hC hO hbl5 hbz5 hbA hbR
  rcases hr with ⟨h67, b, hb, hb5⟩ | ⟨h10, b, hb, hb2⟩ | ⟨h89, ⟨b, hb, hb2⟩, b1, hb1, hb12⟩
  · have hk0 : 0 < g[at'].kids.length := by
      have h1 := kids_op HG.out at' ha
      rcases h67 with h | h <;> rw [h] at h1 <;> have e : cArity 6 = 1 ∧ cArity 7 = 1 := by decide
      all_goals omega
    obtain ⟨hke, hkl⟩ := kidAt_get HG.out at' ha 0 hk0
    have hbl := (followN_lt HG.out _ _ _ hkl hb).1
    have hk2 : g[b].kids.length = 2 := by
      have h1 := kids_op HG.out b hbl
      rw [hb5] at h1
      have e : cArity 5 = 2 := by decide
      omega
    have HOPD : Hid (∀ W : World, RedW R A lo c fu st g W → IIn W g[at'].kids (.slice adk g[at'].kids.length capk) → Calls Tryz.prog 74 #[.pointer (some ⟨R, 0, none⟩), .agg #[.int .i64 g[at'].op, .int .i64 g[at'].num, .slice adk g[at'].kids.length capk], .int .i64 0] W (CellV g[b] W)) := fun W h1 h2 => operand_calls R A lo (kidAt g at' 0) b 0 c fu st g _ _ g[at'].kids _ W h1 ⟨_, HG.out⟩ h2 hk0 hke hkl hb hbl
    rcases h67 with h6 | h7
    · have HVC : Hid (opCell g at' = indTo (kidAt g b 0)) := by unfold Hid opCell; rw [if_pos h6, folAt_some hb]
      have hkl2 : 0 < g[b].kids.length := by omega
      obtain ⟨hke0, -⟩ := kidAt_get HG.out b hbl 0 hkl2
      rw [HOA.out] at h6
      have t6 : (g[at'].op == 6) = true := by simp [h6]
      have HKE := mkHid hke0
      have HPO : Hid (∀ (W : World) (kv : Value), IIn W g[b].kids kv → Calls Tryz.prog 73 #[.int .i64 g[at'].op, .agg #[.int .i64 g[b].op, .int .i64 g[b].num, kv]] W fun e w' => e = .returned (.int .i64 (kidAt g b 0 : Int)) ∧ Below W.heap.size W w') := fun W kv h => partOf1_calls _ _ _ _ _ _ W h hkl2 HKE.out t6
      have x0 := cell_of_blk HX.out 0 _ rfl
      have x1 := cell_of_blk HX.out 1 _ rfl
      have x2 := cell_of_blk HX.out 2 _ rfl
      have rr0 := old_cell r0 (.cells #[.int .i64 g[at'].op, .int .i64 g[at'].num, .slice adk g[at'].kids.length capk] 58)
      clear h6 hb hb5 hke hkl hk2 hke0
      go_enter Tryz.func55, Tryz.ntmps55
      go_wp2_with fail
      go_region_held3 (fun w' => w'.cell? ⟨R, 0, none⟩ = some (.pointer (some ⟨A, 0, none⟩)) ∧ w'.cell? ⟨w.heap.size, 0, none⟩ = some (.int .i64 g[at'].op) ∧ w'.cell? ⟨w.heap.size, 1, none⟩ = some (.int .i64 g[at'].num) ∧ w'.cell? ⟨w.heap.size, 2, none⟩ = some (.slice adk g[at'].kids.length capk))
        (first
          | go_keep
          | exact ⟨p0, p1, p2, p3⟩
          | exact ⟨n0, n1, n2, n3⟩
          | exact ⟨m0, m1, m2, m3⟩
          | exact ⟨rr0, x0, x1, x2⟩)
        (first
          | (go_at_call 74; refine (HOPD.out (w.alloc (.cells #[.int .i64 g[at'].op, .int .i64 g[at'].num, .slice adk g[at'].kids.length capk] 58)).drew (HWX.out.next ((Below.refl _ _).drew)) ((HKK.out.next HBX.out).next ((Below.refl _ _).drew))).mono ?_; rintro e w2 ⟨v2, rfl, hi2, hb2⟩; have HB12 : Hid (Below (w.alloc (.cells #[.int .i64 g[at'].op, .int .i64 g[at'].num, .slice adk g[at'].kids.length capk] 58)).heap.size (w.alloc (.cells #[.int .i64 g[at'].op, .int .i64 g[at'].num, .slice adk g[at'].kids.length capk] 58)) w2) := (Below.refl _ _).drew.trans hb2; have HBW2 : Hid (Below w.heap.size w w2) := HBX.out.trans (HB12.out.mono (by rw [HSX.out]; omega)); have HW2 := mkHid (HWX.out.next HB12.out); have HX2 := mkHid ((HB12.out.block w.heap.size (by rw [HSX.out]; omega)).trans HX.out); have m0 := cell_of_blk HW2.out.red 0 _ rfl; have m1 := cell_of_blk HX2.out 0 _ rfl; have m2 := cell_of_blk HX2.out 1 _ rfl; have m3 := cell_of_blk HX2.out 2 _ rfl; have HI2 := mkHid hi2; obtain ⟨ad2, cap2, rfl, -, -, -⟩ := hi2; clear hb2)
          | (go_at_call 73; refine (HPO.out w2 _ HI2.out).mono ?_; rintro e w3 ⟨rfl, hb3⟩; have HBW3 : Hid (Below w.heap.size w w3) := HBW2.out.trans (hb3.mono HBW2.out.size); have HW3 := mkHid (HW2.out.next hb3); have HX3 := mkHid ((hb3.block w.heap.size (cellsOf_ltI HX2.out)).trans HX2.out); have n0 := cell_of_blk HW3.out.red 0 _ rfl; have n1 := cell_of_blk HX3.out 0 _ rfl; have n2 := cell_of_blk HX3.out 1 _ rfl; have n3 := cell_of_blk HX3.out 2 _ rfl; clear hb3)
          | (go_at_call 72; refine (redirectX_calls R A lo at' (kidAt g b 0) c fu st g w3 HW3.out (Nat.le_trans hlo HBW3.out.size) ha (by omega)).mono ?_; rintro e w4 ⟨rfl, hw4, hb4, hn4⟩; have HW4 := mkHid hw4; have HB4 : Hid (Below lo w w4) := (HBW3.out.mono hlo).trans hb4; have HX4 := mkHid ((hn4 w.heap.size (cellsOf_ltI HX3.out) (HNX.out w3 HBW3.out)).trans HX3.out); have p0 := cell_of_blk HW4.out.red 0 _ rfl; have p1 := cell_of_blk HX4.out 0 _ rfl; have p2 := cell_of_blk HX4.out 1 _ rfl; have p3 := cell_of_blk HX4.out 2 _ rfl; clear hw4 hb4 hn4))
      go_wp2_with fail
      go_ret
      exact ⟨rfl, by rw [HVC.out]; exact HW4.out, HB4.out⟩
    · have HVC : Hid (opCell g at' = indTo (kidAt g b 1)) := by unfold Hid opCell; rw [if_neg (by omega), if_pos h7, folAt_some hb]
      have hkl2 : 1 < g[b].kids.length := by omega
      obtain ⟨hke0, -⟩ := kidAt_get HG.out b hbl 1 hkl2
      rw [HOA.out] at h7
      have t6 : (g[at'].op == 6) = false := by simp [h7]
      have t7 : (g[at'].op == 7) = true := by simp [h7]
      have HKE := mkHid hke0
      have HPO : Hid (∀ (W : World) (kv : Value), IIn W g[b].kids kv → Calls Tryz.prog 73 #[.int .i64 g[at'].op, .agg #[.int .i64 g[b].op, .int .i64 g[b].num, kv]] W fun e w' => e = .returned (.int .i64 (kidAt g b 1 : Int)) ∧ Below W.heap.size W w') := fun W kv h => partOf2_calls _ _ _ _ _ _ W h hkl2 HKE.out t6
      have x0 := cell_of_blk HX.out 0 _ rfl
      have x1 := cell_of_blk HX.out 1 _ rfl
      have x2 := cell_of_blk HX.out 2 _ rfl
      have rr0 := old_cell r0 (.cells #[.int .i64 g[at'].op, .int .i64 g[at'].num, .slice adk g[at'].kids.length capk] 58)
      clear h7 hb hb5 hke hkl hk2 hke0
      go_enter Tryz.func55, Tryz.ntmps55
      go_wp2_with fail
      go_region_held3 (fun w' => w'.cell? ⟨R, 0, none⟩ = some (.pointer (some ⟨A, 0, none⟩)) ∧ w'.cell? ⟨w.heap.size, 0, none⟩ = some (.int .i64 g[at'].op) ∧ w'.cell? ⟨w.heap.size, 1, none⟩ = some (.int .i64 g[at'].num) ∧ w'.cell? ⟨w.heap.size, 2, none⟩ = some (.slice adk g[at'].kids.length capk))
        (first
          | go_keep
          | exact ⟨p0, p1, p2, p3⟩
          | exact ⟨n0, n1, n2, n3⟩
          | exact ⟨m0, m1, m2, m3⟩
          | exact ⟨rr0, x0, x1, x2⟩)
        (first
          | (go_at_call 74; refine (HOPD.out (w.alloc (.cells #[.int .i64 g[at'].op, .int .i64 g[at'].num, .slice adk g[at'].kids.length capk] 58)).drew (HWX.out.next ((Below.refl _ _).drew)) ((HKK.out.next HBX.out).next ((Below.refl _ _).drew))).mono ?_; rintro e w2 ⟨v2, rfl, hi2, hb2⟩; have HB12 : Hid (Below (w.alloc (.cells #[.int .i64 g[at'].op, .int .i64 g[at'].num, .slice adk g[at'].kids.length capk] 58)).heap.size (w.alloc (.cells #[.int .i64 g[at'].op, .int .i64 g[at'].num, .slice adk g[at'].kids.length capk] 58)) w2) := (Below.refl _ _).drew.trans hb2; have HBW2 : Hid (Below w.heap.size w w2) := HBX.out.trans (HB12.out.mono (by rw [HSX.out]; omega)); have HW2 := mkHid (HWX.out.next HB12.out); have HX2 := mkHid ((HB12.out.block w.heap.size (by rw [HSX.out]; omega)).trans HX.out); have m0 := cell_of_blk HW2.out.red 0 _ rfl; have m1 := cell_of_blk HX2.out 0 _ rfl; have m2 := cell_of_blk HX2.out 1 _ rfl; have m3 := cell_of_blk HX2.out 2 _ rfl; have HI2 := mkHid hi2; obtain ⟨ad2, cap2, rfl, -, -, -⟩ := hi2; clear hb2)
          | (go_at_call 73; refine (HPO.out w2 _ HI2.out).mono ?_; rintro e w3 ⟨rfl, hb3⟩; have HBW3 : Hid (Below w.heap.size w w3) := HBW2.out.trans (hb3.mono HBW2.out.size); have HW3 := mkHid (HW2.out.next hb3); have HX3 := mkHid ((hb3.block w.heap.size (cellsOf_ltI HX2.out)).trans HX2.out); have n0 := cell_of_blk HW3.out.red 0 _ rfl; have n1 := cell_of_blk HX3.out 0 _ rfl; have n2 := cell_of_blk HX3.out 1 _ rfl; have n3 := cell_of_blk HX3.out 2 _ rfl; clear hb3)
          | (go_at_call 72; refine (redirectX_calls R A lo at' (kidAt g b 1) c fu st g w3 HW3.out (Nat.le_trans hlo HBW3.out.size) ha (by omega)).mono ?_; rintro e w4 ⟨rfl, hw4, hb4, hn4⟩; have HW4 := mkHid hw4; have HB4 : Hid (Below lo w w4) := (HBW3.out.mono hlo).trans hb4; have HX4 := mkHid ((hn4 w.heap.size (cellsOf_ltI HX3.out) (HNX.out w3 HBW3.out)).trans HX3.out); have p0 := cell_of_blk HW4.out.red 0 _ rfl; have p1 := cell_of_blk HX4.out 0 _ rfl; have p2 := cell_of_blk HX4.out 1 _ rfl; have p3 := cell_of_blk HX4.out 2 _ rfl; clear hw4 hb4 hn4))
      go_wp2_with fail
      go_ret
      exact ⟨rfl, by rw [HVC.out]; exact HW4.out, HB4.out⟩
  · have h1k := kids_op HG.out at' ha
    have hk3 : g[at'].kids.length = 3 := by
      rw [h10] at h1k
      have e : cArity 10 = 3 := by decide
      omega
    have hk0 : 0 < g[at'].kids.length := by omega
    obtain ⟨hke, hkl⟩ := kidAt_get HG.out at' ha 0 hk0
    have hbl := (followN_lt HG.out _ _ _ hkl hb).1
    have HOPD : Hid (∀ W : World, RedW R A lo c fu st g W → IIn W g[at'].kids (.slice adk g[at'].kids.length capk) → Calls Tryz.prog 74 #[.pointer (some ⟨R, 0, none⟩), .agg #[.int .i64 g[at'].op, .int .i64 g[at'].num, .slice adk g[at'].kids.length capk], .int .i64 0] W (CellV g[b] W)) := fun W h1 h2 => operand_calls R A lo (kidAt g at' 0) b 0 c fu st g _ _ g[at'].kids _ W h1 ⟨_, HG.out⟩ h2 hk0 hke hkl hb hbl
    have HNB : Hid (numAt g b = g[b].num) := numAt_at b hbl
    have h10' := h10
    rw [HOA.out] at h10'
    have t6 : (g[at'].op == 6) = false := by simp [h10']
    have t7 : (g[at'].op == 7) = false := by simp [h10']
    have t10 : (g[at'].op == 10) = true := by simp [h10']
    by_cases hz : g[b].num = 0
    · have HVC : Hid (opCell g at' = indTo (kidAt g at' 1)) := by unfold Hid opCell; rw [if_neg (by omega), if_neg (by omega), if_pos h10, folAt_some hb, HNB.out, if_pos hz]
      have hkl2 : 1 < g[at'].kids.length := by omega
      have hkI : (1 : Int) < (g[at'].kids.length : Int) := by omega
      have HNK := mkHid (HNK0.out (by omega))
      obtain ⟨hke0, -⟩ := kidAt_get HG.out at' ha 1 hkl2
      have HKE := mkHid hke0
      have tz : (g[b].num == 0) = true := by simp [hz]
      clear h10 h10' hb hb2 hke hkl hk3 hke0 hz h1k
      go_enter Tryz.func55, Tryz.ntmps55
      go_wp2_with fail
      refine (HOPD.out _ HWX.out (HKK.out.next HBX.out)).mono ?_
      rintro e w2 ⟨v2, rfl, hi2, hb2⟩
      have HB2 : Hid (Below w.heap.size w w2) := HBX.out.trans (hb2.mono (by rw [HSX.out]; omega))
      have HW2 := mkHid (HWX.out.next hb2)
      have HX2 := mkHid ((hb2.block w.heap.size (by rw [HSX.out]; omega)).trans HX.out)
      have HI2 := mkHid hi2
      obtain ⟨ad2, cap2, rfl, -, -, -⟩ := id hi2
      have x2 := cell_of_blk HX2.out 2 _ rfl
      obtain ⟨bk, ok, rfl, dk⟩ := (HKK.out.next HB2.out).at 1 hkl2
      rw [HKE.out] at dk
      clear hi2 hb2
      have m0 := cell_of_blk HW2.out.red 0 _ rfl
      have HDK := mkHid dk
      go_wp2_with fail
      go_region_held3 (fun w' => w'.cell? ⟨R, 0, none⟩ = some (.pointer (some ⟨A, 0, none⟩)) ∧ w'.cell? ⟨w.heap.size, 2, none⟩ = some (.slice (some ⟨bk, ok, none⟩) g[at'].kids.length capk) ∧ w'.cell? ⟨bk, ok + 1, none⟩ = some (.int .i64 (kidAt g at' 1 : Int)))
        (first
          | go_keep
          | exact ⟨n0, n1, n2⟩
          | exact ⟨m0, x2, dk⟩)
        (first
          | (go_at_call 72; refine (redirectX_calls R A lo at' (kidAt g at' 1) c fu st g w2.drew (HW2.out.next ((Below.refl _ _).drew)) (Nat.le_trans hlo HB2.out.size) ha (by omega)).mono ?_; rintro e w3 ⟨rfl, hw3, hb3, hn3⟩; have HW3 := mkHid hw3; have HB3 : Hid (Below lo w w3) := (HB2.out.mono hlo).drew.trans hb3; have hX3 := (hn3 w.heap.size (cellsOf_ltI HX2.out) (HNX.out w2.drew HB2.out.drew)).trans HX2.out; have n0 := cell_of_blk HW3.out.red 0 _ rfl; have n1 := cell_of_blk hX3 2 _ rfl; have n2 := (World.cell?_of_block (hn3 bk (cell_lt HDK.out) (notRow_of HAA.out (HNK.out bk ok rfl) (HB2.out.drew.block A (cellsOf_ltI HAA.out))))).trans HDK.out; clear hw3 hb3 hn3 hX3))
      go_wp2_with fail
      go_ret
      exact ⟨rfl, by rw [HVC.out]; exact HW3.out, HB3.out⟩
    · have HVC : Hid (opCell g at' = indTo (kidAt g at' 2)) := by unfold Hid opCell; rw [if_neg (by omega), if_neg (by omega), if_pos h10, folAt_some hb, HNB.out, if_neg hz]
      have hkl2 : 2 < g[at'].kids.length := by omega
      have hkI : (2 : Int) < (g[at'].kids.length : Int) := by omega
      have HNK := mkHid (HNK0.out (by omega))
      obtain ⟨hke0, -⟩ := kidAt_get HG.out at' ha 2 hkl2
      have HKE := mkHid hke0
      have tz : (g[b].num == 0) = false := by simp [hz]
      clear h10 h10' hb hb2 hke hkl hk3 hke0 hz h1k
      go_enter Tryz.func55, Tryz.ntmps55
      go_wp2_with fail
      refine (HOPD.out _ HWX.out (HKK.out.next HBX.out)).mono ?_
      rintro e w2 ⟨v2, rfl, hi2, hb2⟩
      have HB2 : Hid (Below w.heap.size w w2) := HBX.out.trans (hb2.mono (by rw [HSX.out]; omega))
      have HW2 := mkHid (HWX.out.next hb2)
      have HX2 := mkHid ((hb2.block w.heap.size (by rw [HSX.out]; omega)).trans HX.out)
      have HI2 := mkHid hi2
      obtain ⟨ad2, cap2, rfl, -, -, -⟩ := id hi2
      have x2 := cell_of_blk HX2.out 2 _ rfl
      obtain ⟨bk, ok, rfl, dk⟩ := (HKK.out.next HB2.out).at 2 hkl2
      rw [HKE.out] at dk
      clear hi2 hb2
      have m0 := cell_of_blk HW2.out.red 0 _ rfl
      have HDK := mkHid dk
      go_wp2_with fail
      go_region_held3 (fun w' => w'.cell? ⟨R, 0, none⟩ = some (.pointer (some ⟨A, 0, none⟩)) ∧ w'.cell? ⟨w.heap.size, 2, none⟩ = some (.slice (some ⟨bk, ok, none⟩) g[at'].kids.length capk) ∧ w'.cell? ⟨bk, ok + 2, none⟩ = some (.int .i64 (kidAt g at' 2 : Int)))
        (first
          | go_keep
          | exact ⟨n0, n1, n2⟩
          | exact ⟨m0, x2, dk⟩)
        (first
          | (go_at_call 72; refine (redirectX_calls R A lo at' (kidAt g at' 2) c fu st g w2.drew (HW2.out.next ((Below.refl _ _).drew)) (Nat.le_trans hlo HB2.out.size) ha (by omega)).mono ?_; rintro e w3 ⟨rfl, hw3, hb3, hn3⟩; have HW3 := mkHid hw3; have HB3 : Hid (Below lo w w3) := (HB2.out.mono hlo).drew.trans hb3; have hX3 := (hn3 w.heap.size (cellsOf_ltI HX2.out) (HNX.out w2.drew HB2.out.drew)).trans HX2.out; have n0 := cell_of_blk HW3.out.red 0 _ rfl; have n1 := cell_of_blk hX3 2 _ rfl; have n2 := (World.cell?_of_block (hn3 bk (cell_lt HDK.out) (notRow_of HAA.out (HNK.out bk ok rfl) (HB2.out.drew.block A (cellsOf_ltI HAA.out))))).trans HDK.out; clear hw3 hb3 hn3 hX3))
      go_wp2_with fail
      go_ret
      exact ⟨rfl, by rw [HVC.out]; exact HW3.out, HB3.out⟩
  · have h1k := kids_op HG.out at' ha
    have hk2 : g[at'].kids.length = 2 := by
      rcases h89 with h | h <;> rw [h] at h1k <;> have e : cArity 8 = 2 ∧ cArity 9 = 2 := by decide
      all_goals omega
    have hk0 : 0 < g[at'].kids.length := by omega
    have hk1 : 1 < g[at'].kids.length := by omega
    obtain ⟨hke, hkl⟩ := kidAt_get HG.out at' ha 0 hk0
    obtain ⟨hke1, hkl1⟩ := kidAt_get HG.out at' ha 1 hk1
    have hbl := (followN_lt HG.out _ _ _ hkl hb).1
    have hbl1 := (followN_lt HG.out _ _ _ hkl1 hb1).1
    have HOPD : Hid (∀ W : World, RedW R A lo c fu st g W → IIn W g[at'].kids (.slice adk g[at'].kids.length capk) → Calls Tryz.prog 74 #[.pointer (some ⟨R, 0, none⟩), .agg #[.int .i64 g[at'].op, .int .i64 g[at'].num, .slice adk g[at'].kids.length capk], .int .i64 0] W (CellV g[b] W)) := fun W h1 h2 => operand_calls R A lo (kidAt g at' 0) b 0 c fu st g _ _ g[at'].kids _ W h1 ⟨_, HG.out⟩ h2 hk0 hke hkl hb hbl
    have HOPD1 : Hid (∀ W : World, RedW R A lo c fu st g W → IIn W g[at'].kids (.slice adk g[at'].kids.length capk) → Calls Tryz.prog 74 #[.pointer (some ⟨R, 0, none⟩), .agg #[.int .i64 g[at'].op, .int .i64 g[at'].num, .slice adk g[at'].kids.length capk], .int .i64 1] W (CellV g[b1] W)) := fun W h1 h2 => operand_calls R A lo (kidAt g at' 1) b1 1 c fu st g _ _ g[at'].kids _ W h1 ⟨_, HG.out⟩ h2 hk1 hke1 hkl1 hb1 hbl1
    have HR0 := mkHid (numRange HG.out b hbl (by rw [← opAt_at b hbl]; exact hb2))
    have HR1 := mkHid (numRange HG.out b1 hbl1 (by rw [← opAt_at b1 hbl1]; exact hb12))
    obtain ⟨nv, hnv⟩ : ∃ nv, nv = numberOf g[at'].op g[b].num g[b1].num := ⟨_, rfl⟩
    have HVC : Hid (opCell g at' = numC nv) := by
      unfold Hid opCell
      rw [if_neg (by omega), if_neg (by omega), if_neg (by omega), folAt_some hb, folAt_some hb1, numAt_at b hbl, numAt_at b1 hbl1, HOA.out, hnv]
    have HNR : Hid (0 ≤ nv ∧ nv ≤ 999) := by rw [hnv]; exact numberOf_range _ _ _
    have HCN : Hid (∀ W : World, Calls Tryz.prog 75 #[.int .i64 g[at'].op, .int .i64 g[b].num, .int .i64 g[b1].num] W fun e w' => e = .returned (.int .i64 nv) ∧ W = w') := fun W => by
      rw [hnv]; exact sumOf_calls _ _ _ (by rw [← HOA.out]; exact h89) HR0.out HR1.out W
    rw [HOA.out] at h89
    have t6 : (g[at'].op == 6) = false := by simp; omega
    have t7 : (g[at'].op == 7) = false := by simp; omega
    have t10 : (g[at'].op == 10) = false := by simp; omega
    have h89' := h89
    have HRW1 := HWX
    have x0 := cell_of_blk HX.out 0 _ rfl
    have x1 := cell_of_blk HX.out 1 _ rfl
    have x2 := cell_of_blk HX.out 2 _ rfl
    have rr0 := old_cell r0 (.cells #[.int .i64 g[at'].op, .int .i64 g[at'].num, .slice adk g[at'].kids.length capk] 58)
    have aa0 := old_cell a0 (.cells #[.int .i64 g[at'].op, .int .i64 g[at'].num, .slice adk g[at'].kids.length capk] 58)
    have tok1 : True := trivial
    clear hb hb1 hb2 hb12 hke hke1 hkl hkl1 hk2 hnv h89 h1k
    rcases h89' with h8 | h9
    · have t8 : (g[at'].op == 8) = true := by simp [h8]
      clear h8
      go_enter Tryz.func55, Tryz.ntmps55
      go_wp2_with fail
      go_region_held3 (fun w' => w'.cell? ⟨R, 0, none⟩ = some (.pointer (some ⟨A, 0, none⟩)) ∧ w'.cell? ⟨A, 0, none⟩ = some (.slice (some ⟨b5, 0, none⟩) g.length cap) ∧ w'.cell? ⟨w.heap.size, 0, none⟩ = some (.int .i64 g[at'].op) ∧ w'.cell? ⟨w.heap.size, 1, none⟩ = some (.int .i64 g[at'].num) ∧ w'.cell? ⟨w.heap.size, 2, none⟩ = some (.slice adk g[at'].kids.length capk))
        (first
          | go_keep
          | exact ⟨n0, n1, n2, n3, n4⟩
          | exact ⟨m0, m1, m2, m3, m4⟩
          | exact ⟨rr0, aa0, x0, x1, x2⟩
          | exact ⟨p0, p1, p2, p3, p4⟩)
        (first
          | (go_at_call 74; have _t := tok1; refine (HOPD.out (w.alloc (.cells #[.int .i64 g[at'].op, .int .i64 g[at'].num, .slice adk g[at'].kids.length capk] 58)).drew (HWX.out.next ((Below.refl _ _).drew)) ((HKK.out.next HBX.out).next ((Below.refl _ _).drew))).mono ?_; rintro e w2 ⟨v2, rfl, hi2, hb2⟩; have HB12 : Hid (Below (w.alloc (.cells #[.int .i64 g[at'].op, .int .i64 g[at'].num, .slice adk g[at'].kids.length capk] 58)).heap.size (w.alloc (.cells #[.int .i64 g[at'].op, .int .i64 g[at'].num, .slice adk g[at'].kids.length capk] 58)) w2) := (Below.refl _ _).drew.trans hb2; have HBW2 : Hid (Below w.heap.size w w2) := HBX.out.trans (HB12.out.mono (by rw [HSX.out]; omega)); have HW2 := mkHid (HWX.out.next HB12.out); have HX2 := mkHid ((HB12.out.block w.heap.size (by rw [HSX.out]; omega)).trans HX.out); have m0 := cell_of_blk ((HBW2.out.block _ (Array.getElem?_eq_some_iff.1 HRR.out).1).trans HRR.out) 0 _ rfl; have m1 := cell_of_blk ((HBW2.out.block _ (Array.getElem?_eq_some_iff.1 HAA.out).1).trans HAA.out) 0 _ rfl; have m2 := cell_of_blk HX2.out 0 _ rfl; have m3 := cell_of_blk HX2.out 1 _ rfl; have m4 := cell_of_blk HX2.out 2 _ rfl; obtain ⟨ad2, cap2, rfl, -, -, -⟩ := hi2; clear hb2 tok1)
          | (go_at_call 74; refine (HOPD1.out w2 HW2.out (HKK.out.next HBW2.out)).mono ?_; rintro e w3 ⟨v3, rfl, hi3, hb3⟩; have HBW3 : Hid (Below w.heap.size w w3) := HBW2.out.trans (hb3.mono HBW2.out.size); have HW3 := mkHid (HW2.out.next hb3); have HX3 := mkHid ((hb3.block w.heap.size (cellsOf_ltI HX2.out)).trans HX2.out); have n0 := cell_of_blk ((HBW3.out.block _ (Array.getElem?_eq_some_iff.1 HRR.out).1).trans HRR.out) 0 _ rfl; have hA3 := (HBW3.out.block _ (Array.getElem?_eq_some_iff.1 HAA.out).1).trans HAA.out; have n1 := cell_of_blk hA3 0 _ rfl; have n2 := cell_of_blk HX3.out 0 _ rfl; have n3 := cell_of_blk HX3.out 1 _ rfl; have n4 := cell_of_blk HX3.out 2 _ rfl; have p0 := cell_of_blk ((st3_block (b := b5) (i := at') (o := 2) (m := nv) (kv := .slice none 0 0) (k := R) HB5.out.2.symm).trans ((HBW3.out.block _ (Array.getElem?_eq_some_iff.1 HRR.out).1).trans HRR.out)) 0 _ rfl; have p1 := cell_of_blk ((st3_block (b := b5) (i := at') (o := 2) (m := nv) (kv := .slice none 0 0) (k := A) HB5.out.1.symm).trans hA3) 0 _ rfl; have hX4 := (st3_block (w := w3) (b := b5) (i := at') (o := 2) (m := nv) (kv := .slice none 0 0) (k := w.heap.size) (by have := HBZ5.out; omega)).trans HX3.out; have p2 := cell_of_blk hX4 0 _ rfl; have p3 := cell_of_blk hX4 1 _ rfl; have p4 := cell_of_blk hX4 2 _ rfl; obtain ⟨ad3, cap3, rfl, -, -, -⟩ := hi3; have HSET := mkHid (HW3.out.set0 hA3 HB5.out.1 HB5.out.2 (Nat.le_trans hlo HBW3.out.size) ha (ce := numC nv) (kv := .slice none 0 0) (numI64 HNR.out.1 HNR.out.2) (krow_nil _ _ _)); have hys3 := HW3.out.rowAt hA3; obtain ⟨ys3, hys3⟩ := hys3; obtain ⟨q0, y0⟩ := own_cellI hys3 (at' * 3) (by omega); obtain ⟨q1, y1⟩ := own_cellI hys3 (at' * 3 + 1) (by omega); obtain ⟨q2, y2⟩ := own_cellI hys3 (at' * 3 + 2) (by omega); have f0 := hys3.frozenAt (at' * 3); have f1 := hys3.frozenAt (at' * 3 + 1); have f2 := hys3.frozenAt (at' * 3 + 2); have HBF := mkHid (st3_below (b := b5) (i := at') (o := 2) (m := nv) (kv := .slice none 0 0) (HBW3.out.mono hlo) (hys3.lt b5 rfl).1); clear hb3 hA3 hys3 hX4)
          | (go_at_call 75; refine (HCN.out w3).mono ?_; rintro e w4 ⟨rfl, rfl⟩))
      go_wp2_with fail
      go_ret
      exact ⟨rfl, by rw [HVC.out]; exact HSET.out, HBF.out⟩
    · have t8 : (g[at'].op == 8) = false := by simp [h9]
      have t9 : (g[at'].op == 9) = true := by simp [h9]
      clear h9
      go_enter Tryz.func55, Tryz.ntmps55
      go_wp2_with fail
      go_region_held3 (fun w' => w'.cell? ⟨R, 0, none⟩ = some (.pointer (some ⟨A, 0, none⟩)) ∧ w'.cell? ⟨A, 0, none⟩ = some (.slice (some ⟨b5, 0, none⟩) g.length cap) ∧ w'.cell? ⟨w.heap.size, 0, none⟩ = some (.int .i64 g[at'].op) ∧ w'.cell? ⟨w.heap.size, 1, none⟩ = some (.int .i64 g[at'].num) ∧ w'.cell? ⟨w.heap.size, 2, none⟩ = some (.slice adk g[at'].kids.length capk))
        (first
          | go_keep
          | exact ⟨n0, n1, n2, n3, n4⟩
          | exact ⟨m0, m1, m2, m3, m4⟩
          | exact ⟨rr0, aa0, x0, x1, x2⟩
          | exact ⟨p0, p1, p2, p3, p4⟩)
        (first
          | (go_at_call 74; have _t := tok1; refine (HOPD.out (w.alloc (.cells #[.int .i64 g[at'].op, .int .i64 g[at'].num, .slice adk g[at'].kids.length capk] 58)).drew (HWX.out.next ((Below.refl _ _).drew)) ((HKK.out.next HBX.out).next ((Below.refl _ _).drew))).mono ?_; rintro e w2 ⟨v2, rfl, hi2, hb2⟩; have HB12 : Hid (Below (w.alloc (.cells #[.int .i64 g[at'].op, .int .i64 g[at'].num, .slice adk g[at'].kids.length capk] 58)).heap.size (w.alloc (.cells #[.int .i64 g[at'].op, .int .i64 g[at'].num, .slice adk g[at'].kids.length capk] 58)) w2) := (Below.refl _ _).drew.trans hb2; have HBW2 : Hid (Below w.heap.size w w2) := HBX.out.trans (HB12.out.mono (by rw [HSX.out]; omega)); have HW2 := mkHid (HWX.out.next HB12.out); have HX2 := mkHid ((HB12.out.block w.heap.size (by rw [HSX.out]; omega)).trans HX.out); have m0 := cell_of_blk ((HBW2.out.block _ (Array.getElem?_eq_some_iff.1 HRR.out).1).trans HRR.out) 0 _ rfl; have m1 := cell_of_blk ((HBW2.out.block _ (Array.getElem?_eq_some_iff.1 HAA.out).1).trans HAA.out) 0 _ rfl; have m2 := cell_of_blk HX2.out 0 _ rfl; have m3 := cell_of_blk HX2.out 1 _ rfl; have m4 := cell_of_blk HX2.out 2 _ rfl; obtain ⟨ad2, cap2, rfl, -, -, -⟩ := hi2; clear hb2 tok1)
          | (go_at_call 74; refine (HOPD1.out w2 HW2.out (HKK.out.next HBW2.out)).mono ?_; rintro e w3 ⟨v3, rfl, hi3, hb3⟩; have HBW3 : Hid (Below w.heap.size w w3) := HBW2.out.trans (hb3.mono HBW2.out.size); have HW3 := mkHid (HW2.out.next hb3); have HX3 := mkHid ((hb3.block w.heap.size (cellsOf_ltI HX2.out)).trans HX2.out); have n0 := cell_of_blk ((HBW3.out.block _ (Array.getElem?_eq_some_iff.1 HRR.out).1).trans HRR.out) 0 _ rfl; have hA3 := (HBW3.out.block _ (Array.getElem?_eq_some_iff.1 HAA.out).1).trans HAA.out; have n1 := cell_of_blk hA3 0 _ rfl; have n2 := cell_of_blk HX3.out 0 _ rfl; have n3 := cell_of_blk HX3.out 1 _ rfl; have n4 := cell_of_blk HX3.out 2 _ rfl; have p0 := cell_of_blk ((st3_block (b := b5) (i := at') (o := 2) (m := nv) (kv := .slice none 0 0) (k := R) HB5.out.2.symm).trans ((HBW3.out.block _ (Array.getElem?_eq_some_iff.1 HRR.out).1).trans HRR.out)) 0 _ rfl; have p1 := cell_of_blk ((st3_block (b := b5) (i := at') (o := 2) (m := nv) (kv := .slice none 0 0) (k := A) HB5.out.1.symm).trans hA3) 0 _ rfl; have hX4 := (st3_block (w := w3) (b := b5) (i := at') (o := 2) (m := nv) (kv := .slice none 0 0) (k := w.heap.size) (by have := HBZ5.out; omega)).trans HX3.out; have p2 := cell_of_blk hX4 0 _ rfl; have p3 := cell_of_blk hX4 1 _ rfl; have p4 := cell_of_blk hX4 2 _ rfl; obtain ⟨ad3, cap3, rfl, -, -, -⟩ := hi3; have HSET := mkHid (HW3.out.set0 hA3 HB5.out.1 HB5.out.2 (Nat.le_trans hlo HBW3.out.size) ha (ce := numC nv) (kv := .slice none 0 0) (numI64 HNR.out.1 HNR.out.2) (krow_nil _ _ _)); have hys3 := HW3.out.rowAt hA3; obtain ⟨ys3, hys3⟩ := hys3; obtain ⟨q0, y0⟩ := own_cellI hys3 (at' * 3) (by omega); obtain ⟨q1, y1⟩ := own_cellI hys3 (at' * 3 + 1) (by omega); obtain ⟨q2, y2⟩ := own_cellI hys3 (at' * 3 + 2) (by omega); have f0 := hys3.frozenAt (at' * 3); have f1 := hys3.frozenAt (at' * 3 + 1); have f2 := hys3.frozenAt (at' * 3 + 2); have HBF := mkHid (st3_below (b := b5) (i := at') (o := 2) (m := nv) (kv := .slice none 0 0) (HBW3.out.mono hlo) (hys3.lt b5 rfl).1); clear hb3 hA3 hys3 hX4)
          | (go_at_call 75; refine (HCN.out w3).mono ?_; rintro e w4 ⟨rfl, rfl⟩))
      go_wp2_with fail
      go_ret
      exact ⟨rfl, by rw [HVC.out]; exact HSET.out, HBF.out⟩
end Go.Proofs.YtjpjikfmdaejeaaGreatDoor
