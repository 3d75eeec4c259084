/-
  THE LAWS' OWN COPY OF AN ARGUMENT (toExpr, toExprS): the same trees, in new memory; nothing that was there is changed.
-/
import Derived.Test.YthknbafcnobgdaaMgExactDecompileCode1
import Derived.Test.YthknbafcnobgdaaProg
import Derived.Deep.DeepMust
import Derived.Maps.Own
import Derived.Maps.OwnOps
import Derived.LaidEqlPtr
import Derived.Deep.RegionLaw
import Derived.Deep.RegionLawGrows
namespace Go.Proofs.Ythknbafcnobgdaa
set_option linter.unusedVariables false
set_option linter.unusedSimpArgs false
open Go.RowKit

/-- blocks from lo on, below hi -/
def Btw (lo hi : Nat) : Nat → Prop := fun k => lo ≤ k ∧ k < hi
theorem KidsOn.btw_in {w : World} {lo : Nat} {ks : List Tr} {c : Value} (h : KidsOn w (Btw lo w.heap.size) ks c) : In w ks c :=
  h.mono (fun _ hk => hk.2) (fun _ _ => rfl)
theorem KidsOn.btw_next {w w' : World} {lo : Nat} {ks : List Tr} {c : Value} (h : KidsOn w (Btw lo w.heap.size) ks c) (hb : Below w.heap.size w w') : KidsOn w' (Btw lo w'.heap.size) ks c :=
  h.mono (fun _ hk => ⟨hk.1, Nat.lt_of_lt_of_le hk.2 hb.size⟩) (fun k hk => hb.block k hk.2)

/-- a call has handed back these trees in new memory -/
def NewKids (ks : List Tr) (w : World) (e : Ending) (w' : World) : Prop := ∃ v, e = .returned v ∧ KidsOn w' (Btw w.heap.size w'.heap.size) ks v ∧ Below w.heap.size w w'
/-- .. one tree -/
def NewTr (o n : Int) (ks : List Tr) (w : World) (e : Ending) (w' : World) : Prop := ∃ v, e = .returned (.agg #[.int .i64 o, .int .i64 n, v]) ∧ KidsOn w' (Btw w.heap.size w'.heap.size) ks v ∧ Below w.heap.size w w'

def ToSSaid (ks : List Tr) : Prop := ∀ (c : Value) (w : World), In w ks c → szL ks ≤ 1048576 → Calls Try.prog 52 #[c] w (NewKids ks w)
def ToSaid (ks : List Tr) : Prop := ∀ (o n : Int) (c : Value) (w : World), In w ks c → szL ks ≤ 1048576 → Calls Try.prog 16 #[.agg #[.int .i64 o, .int .i64 n, c]] w (NewTr o n ks w)

set_option maxHeartbeats 400000 in
theorem to_of (ks : List Tr) (h : ToSSaid ks) : ToSaid ks := by
  intro o n c w hk hsz
  have HK : Hid (In w ks c) := hk
  have HS : Hid (ToSSaid ks) := h
  clear h hk
  go_enter Try.func16, Try.ntmps16
  go_wp2_with fail
  refine (HS.out c _ ?_ hsz).mono ?_
  · exact HK.out.next ((((Below.refl _ _).alloc (Nat.le_refl _) _).alloc (by simp) _).alloc (by simp; omega) _)
  rintro e w1 ⟨v, rfl, hv, hb⟩
  obtain ⟨hc, hf⟩ := bcell hb
  have hz : w.heap.size + 2 < w1.heap.size := by have := hb.size; simp at this; omega
  have hlo : w.heap.size + 3 ≤ w1.heap.size := by omega
  have HV : Hid (KidsOn w1 (Btw (w.heap.size + 3) w1.heap.size) ks v) := hv.mono (fun k hk => ⟨by have := hk.1; simpa using this, hk.2⟩) (fun _ _ => rfl)
  have HB : Hid (Below w.heap.size w w1) := ((((Below.refl _ _).alloc (Nat.le_refl _) _).alloc (by simp) _).alloc (by simp; omega) _).trans (hb.mono (by simp; omega))
  obtain ⟨ad, cap, rfl, _, _, _⟩ := hv
  go_wp2_with fail
  refine bodyPost_ret (v := .agg #[.int .i64 o, .int .i64 n, .slice ad ks.length cap]) (by simp [results, Try.results16, go_sem, hc, hf, hz]) rfl ⟨_, rfl, ?_, ?_⟩
  · simp only [size_setCell]
    exact ((((HV.out.setCell (by simp [Btw] <;> omega) _).setCell (by simp [Btw] <;> omega) _).setCell (by simp [Btw] <;> omega) _).setCell (by simp [Btw] <;> omega) _).mono (fun k hk => ⟨by have := hk.1; omega, hk.2⟩) (fun _ _ => rfl)
  · exact (((HB.out.setCell (by simp; omega) _).setCell (by simp) _).setCell (by simp) _).setCell (by simp) _

theorem infoE : (Try.prog.info? 37).map (fun i => (i.zero, i.size, i.bytes)) = some (some (.agg #[.int .i64 0, .int .i64 0, .slice none 0 0]), 3, 40) := by kernel_rfl

/-- make, of so many expressions: a new row of cells -/
theorem make_exprs (n : Nat) (h : n ≤ 1048576) : ∃ C : Array Value, C.size = n * 3 ∧ ∀ w : World, (Instr.makeSlice 35 (.int .i64 (n : Int)) (.int .i64 (n : Int))).run Try.prog w = .ok (.slice (some ⟨w.heap.size, 0, none⟩) n n) (w.alloc (.cells C 37)) := by
  obtain ⟨i, hi, hzz⟩ := Option.map_eq_some_iff.1 infoE
  simp only [Prod.mk.injEq] at hzz
  obtain ⟨hz, hs, hb⟩ := hzz
  refine ⟨madeCells (Value.agg #[.int .i64 0, .int .i64 0, .slice none 0 0]).cells (n * 3), size_madeCells _ _, fun w => ?_⟩
  have hr := run_make (P := Try.prog) w 35 37 i _ Try.underlying35 hi hz .i64 .i64 n n (by omega) (Int.le_refl _) (by rw [hb]; omega) (by omega)
  simp only [Int.toNat_natCast, hs] at hr
  exact hr

/-- what holds of the copy of a list behind k rounds -/
def ToRel (ks : List Tr) (w : World) (k : Nat) (wr : World) : Prop :=
  ∃ f : Nat → Value, wr.rowIs w.heap.size 37 (ks.length * 3) f ∧ (∀ j (_ : j < k) (hj : j < ks.length), TrOn wr (Btw (w.heap.size + 1) wr.heap.size) ks[j] (f (j * 3)) (f (j * 3 + 1)) (f (j * 3 + 2))) ∧ Below w.heap.size w wr

theorem toRel_start (ks : List Tr) (w : World) (C : Array Value) (h : C.size = ks.length * 3) : ToRel ks w 0 (w.alloc (.cells C 37)) := by
  refine ⟨fun i => C.getD i undef, ⟨C, Deep.blk_alloc_new _ _, h, fun i hi => ?_⟩, fun j hj => absurd hj (by omega), (Below.refl _ _).alloc (Nat.le_refl _) _⟩
  simp [Array.getElem?_eq_getElem (h ▸ hi : i < C.size), Array.getD, (h ▸ hi : i < C.size)]

theorem toRel_step (ks : List Tr) (w wr w1 : World) (k : Nat) (hk : k < ks.length) (h : ToRel ks w k wr) (v : Value) (hb : Below wr.heap.size wr w1) (hv : KidsOn w1 (Btw wr.heap.size w1.heap.size) (ks[k]).kids v) (ho : I64 (ks[k]).op) (hn : I64 (ks[k]).num) :
    ToRel ks w (k + 1) (((w1.setCell ⟨w.heap.size, k * 3, none⟩ (.int .i64 (ks[k]).op)).setCell ⟨w.heap.size, k * 3 + 1, none⟩ (.int .i64 (ks[k]).num)).setCell ⟨w.heap.size, k * 3 + 2, none⟩ v) := by
  obtain ⟨f, hr, ht, hbw⟩ := h
  have hlt := hr.lt
  have hr1 : w1.rowIs w.heap.size 37 (ks.length * 3) f := hr.of_block (hb.block _ hlt)
  have hsz := hb.size
  have keep : ∀ (t : Tr) (a b c : Value), TrOn w1 (Btw (w.heap.size + 1) w1.heap.size) t a b c → TrOn (((w1.setCell ⟨w.heap.size, k * 3, none⟩ (.int .i64 (ks[k]).op)).setCell ⟨w.heap.size, k * 3 + 1, none⟩ (.int .i64 (ks[k]).num)).setCell ⟨w.heap.size, k * 3 + 2, none⟩ v) (Btw (w.heap.size + 1) w1.heap.size) t a b c :=
    fun t a b c g => ((g.setCell (by simp [Btw] <;> omega) _).setCell (by simp [Btw] <;> omega) _).setCell (by simp [Btw] <;> omega) _
  have hs3 : k * 3 + 2 < ks.length * 3 := by omega
  refine ⟨_, ((hr1.set (k * 3) _).set (k * 3 + 1) _).set (k * 3 + 2) _, fun j hj hjl => ?_, ?_⟩
  · simp only [size_setCell]
    by_cases hjk : j = k
    · subst hjk
      have : TrOn w1 (Btw (w.heap.size + 1) w1.heap.size) ks[j] (.int .i64 (ks[j]).op) (.int .i64 (ks[j]).num) v := trOn_iff.2 ⟨rfl, rfl, ho, hn, hv.mono (fun k hk => ⟨by have := hk.1; omega, hk.2⟩) (fun _ _ => rfl)⟩
      simpa using keep _ _ _ _ this
    · have h0 := ht j (by omega) hjl
      have h1 : TrOn w1 (Btw (w.heap.size + 1) w1.heap.size) ks[j] (f (j * 3)) (f (j * 3 + 1)) (f (j * 3 + 2)) := h0.mono (fun k hk => ⟨hk.1, by have := hk.2; omega⟩) (fun k hk => hb.block k hk.2)
      have h2 := keep _ _ _ _ h1
      have e1 : ∀ m, m < 3 → j * 3 + m ≠ k * 3 + 2 ∧ j * 3 + m ≠ k * 3 + 1 ∧ j * 3 + m ≠ k * 3 := fun m hm => by omega
      have a0 := e1 0 (by omega)
      have a1 := e1 1 (by omega)
      have a2 := e1 2 (by omega)
      simp only [Nat.add_zero] at a0
      simpa [a0, a1, a2] using h2
  · exact (((hbw.trans (hb.mono (Nat.le_of_lt hlt))).setCell (by simp) _).setCell (by simp) _).setCell (by simp) _

theorem toRel_end (ks : List Tr) (w wr : World) (h : ToRel ks w ks.length wr) (hl : ks.length ≤ 1048576) : NewKids ks w (.returned (.slice (some ⟨w.heap.size, 0, none⟩) ks.length ks.length)) wr := by
  obtain ⟨f, hr, ht, hbw⟩ := h
  have hlt := hr.lt
  refine ⟨_, rfl, ⟨_, _, rfl, Nat.le_refl _, by unfold maxLen; omega, Or.inr ⟨_, _, rfl, ⟨Nat.le_refl _, hlt⟩, RowOn.of _ _ fun i hi => ?_⟩⟩, hbw⟩
  refine ⟨f (i * 3), f (i * 3 + 1), f (i * 3 + 2), ?_, ?_, ?_, (ht i hi hi).mono (fun k hk => ⟨by have := hk.1; omega, hk.2⟩) (fun _ _ => rfl)⟩
  · simpa using hr.cell (i := i * 3) (by omega)
  · simpa [Nat.zero_add] using hr.cell (i := i * 3 + 1) (by omega)
  · simpa [Nat.zero_add] using hr.cell (i := i * 3 + 2) (by omega)

set_option maxHeartbeats 400000 in
theorem toS_step (ks : List Tr) (ih : ∀ i (hi : i < ks.length), ToSaid (ks[i]).kids) : ToSSaid ks := by
  intro c w hk hsz
  have HI : Hid (∀ i (hi : i < ks.length), ToSaid (ks[i]).kids) := ih
  have HK : Hid (In w ks c) := hk
  have HZ : Hid (szL ks ≤ 1048576) := hsz
  have hlen : ks.length ≤ 1048576 := by rw [szL_sum] at hsz; omega
  clear ih hsz
  obtain ⟨ad, cap, rfl, hl, hm, hrow⟩ := hk
  clear hrow hm hl
  obtain ⟨C, hC, hmk⟩ := make_exprs ks.length hlen
  have HC : Hid (C.size = ks.length * 3) := hC
  clear hC
  go_enter Try.func52, Try.ntmps52
  go_wp2_with fail
  go_loopw [4] (fun i wr => ∃ k : Nat, k ≤ ks.length ∧ i = .int .i64 k ∧ ToRel ks w k wr) (fun i _ => ks.length - (intOf i).toNat)
  case atStart => exact ⟨0, Nat.zero_le _, rfl, toRel_start ks w C HC.out⟩
  case round =>
    obtain ⟨k, hk, rfl, hto⟩ := hrel
    have HT : Hid (ToRel ks w k wr) := hto
    obtain ⟨f, hr0, _, hb⟩ := hto
    have hlt0 := hr0.lt
    by_cases hlt : k < ks.length
    · have hrow' := HK.out.next hb
      obtain ⟨ad', cap', he, _, _, hr⟩ := hrow'
      cases he
      rcases hr with rfl | ⟨bl, off, rfl, _, hr⟩
      · simp at hlt
      obtain ⟨p, q, r, c0, c1, c2, ht⟩ := RowOn.at ks off k hlt hr
      obtain ⟨rfl, rfl, io, iN, hkk⟩ := trOn_iff.1 ht
      have HKK : Hid (In wr ks[k].kids r) := hkk
      have hkz : szL ks[k].kids ≤ 1048576 := by have := szL_kids_lt ks k hlt; have := HZ.out; omega
      have HR : Hid (wr.rowIs w.heap.size 37 (ks.length * 3) f) := hr0
      clear hkk ht hr hr0 hb
      go_wp2_with fail
      refine (HI.out k hlt _ _ r _ HKK.out hkz).mono ?_
      rintro e w1 ⟨v, rfl, hv, hb1⟩
      have hr1 : w1.rowIs w.heap.size 37 (ks.length * 3) f := HR.out.of_block (hb1.block _ hlt0)
      have HS : Hid (ToRel ks w (k + 1) (((w1.setCell ⟨w.heap.size, k * 3, none⟩ (.int .i64 (ks[k]).op)).setCell ⟨w.heap.size, k * 3 + 1, none⟩ (.int .i64 (ks[k]).num)).setCell ⟨w.heap.size, k * 3 + 2, none⟩ v)) := toRel_step ks w wr w1 k hlt HT.out v hb1 hv io iN
      obtain ⟨ad2, cap2, rfl, _, _, _⟩ := hv
      have g0 := hr1.cell (i := k * 3) (by omega)
      have g1 := hr1.cell (i := k * 3 + 1) (by omega)
      have g2 := hr1.cell (i := k * 3 + 2) (by omega)
      have f0 := hr1.frozen (k * 3)
      have f1 := hr1.frozen (k * 3 + 1)
      have f2 := hr1.frozen (k * 3 + 2)
      clear hr1 hb1
      go_wp2_with fail
      go_roundw
      case rel => exact ⟨k + 1, by omega, by go_num, HS.out⟩
      case measure => simp [intOf]; omega
    · have hke : ks.length = k := by omega
      have HV : Hid (NewKids ks w (.returned (.slice (some ⟨w.heap.size, 0, none⟩) ks.length ks.length)) wr) := by subst hke; exact toRel_end ks w wr HT.out hlen
      clear hke hr0 hb
      go_wp2_with fail
      go_ret
      exact HV.out

/-- THE COPY, FOR EVERY LIST OF TREES. -/
theorem toS_any : ∀ (n : Nat) (ks : List Tr), szL ks ≤ n → ToSSaid ks := by
  intro n
  induction n with
  | zero =>
    intro ks h
    exact toS_step ks fun i hi => absurd (szT_lt_szL ks i hi) (by omega)
  | succ n ih =>
    intro ks h
    exact toS_step ks fun i hi => to_of _ (ih _ (by have := szL_kids_lt ks i hi; omega))

theorem toS_calls (ks : List Tr) : ToSSaid ks := toS_any _ ks (Nat.le_refl _)
theorem to_calls (ks : List Tr) : ToSaid ks := to_of ks (toS_calls ks)
end Go.Proofs.Ythknbafcnobgdaa
/-
  TREES WHOSE BLOCKS ARE ALL DISTINCT: a footprint, the list of the blocks of a tree's rows; what a write into them leaves.
-/
namespace Go.Proofs.Ythknbafcnobgdaa
set_option linter.unusedVariables false
set_option linter.unusedSimpArgs false
open Go.RowKit

mutual
/-- the three cells of a tree, its rows in the blocks fp -/
def TrFp (w : World) (T : TypeId) : Tr → List Nat → Value → Value → Value → Prop
  | .node op n ks, fp, a, b, c => a = .int .i64 op ∧ b = .int .i64 n ∧ I64 op ∧ I64 n ∧
      ∃ ad cap, c = .slice ad ks.length cap ∧ ks.length ≤ cap ∧ cap ≤ maxLen ∧
        ((ks = [] ∧ fp = []) ∨ ∃ bl off C fps, ad = some ⟨bl, off, none⟩ ∧ w.heap[bl]? = some (.cells C T) ∧ fp = bl :: fps.flatten ∧ RowFp w T bl off ks fps)
/-- the trees of a row, each with its own blocks -/
def RowFp (w : World) (T : TypeId) (bl off : Nat) : List Tr → List (List Nat) → Prop
  | [], fps => fps = []
  | t :: ts, fps => ∃ f fs, fps = f :: fs ∧ (∃ a b c, w.cell? ⟨bl, off, none⟩ = some a ∧ w.cell? ⟨bl, off + 1, none⟩ = some b ∧ w.cell? ⟨bl, off + 2, none⟩ = some c ∧ TrFp w T t f a b c) ∧ RowFp w T bl (off + 3) ts fs
end

/-- a slice value that holds these trees, in the blocks fp -/
def KidsFp (w : World) (T : TypeId) (ks : List Tr) (fp : List Nat) (c : Value) : Prop :=
  ∃ ad cap, c = .slice ad ks.length cap ∧ ks.length ≤ cap ∧ cap ≤ maxLen ∧
    ((ks = [] ∧ fp = []) ∨ ∃ bl off C fps, ad = some ⟨bl, off, none⟩ ∧ w.heap[bl]? = some (.cells C T) ∧ fp = bl :: fps.flatten ∧ RowFp w T bl off ks fps)

theorem trFp_iff {w : World} {T : TypeId} {t : Tr} {fp : List Nat} {a b c : Value} : TrFp w T t fp a b c ↔ a = .int .i64 t.op ∧ b = .int .i64 t.num ∧ I64 t.op ∧ I64 t.num ∧ KidsFp w T t.kids fp c := by
  cases t; simp [TrFp, KidsFp]

mutual
theorem TrFp.keep {w w' : World} {T : TypeId} : ∀ (t : Tr) (fp : List Nat) (a b c : Value), (∀ k ∈ fp, w'.heap[k]? = w.heap[k]?) → TrFp w T t fp a b c → TrFp w' T t fp a b c
  | .node op n ks, fp, a, b, c, hw, h => by
    simp only [TrFp] at h ⊢
    obtain ⟨h1, h2, h3, h4, ad, cap, e, l1, l2, h5⟩ := h
    refine ⟨h1, h2, h3, h4, ad, cap, e, l1, l2, ?_⟩
    rcases h5 with h5 | ⟨bl, off, C, fps, e, hb, rfl, r⟩
    · exact Or.inl h5
    · exact Or.inr ⟨bl, off, C, fps, e, (hw bl (by simp)).trans hb, rfl, RowFp.keep bl off ks fps (hw bl (by simp)) (fun f hf k hk => hw k (by simp only [List.mem_cons, List.mem_flatten]; exact Or.inr ⟨f, hf, hk⟩)) r⟩
theorem RowFp.keep {w w' : World} {T : TypeId} (bl off : Nat) : ∀ (ks : List Tr) (fps : List (List Nat)), w'.heap[bl]? = w.heap[bl]? → (∀ f ∈ fps, ∀ k ∈ f, w'.heap[k]? = w.heap[k]?) → RowFp w T bl off ks fps → RowFp w' T bl off ks fps
  | [], fps, _, _, h => by simpa [RowFp] using h
  | t :: ts, fps, hb, hw, h => by
    simp only [RowFp] at h ⊢
    obtain ⟨f, fs, rfl, ⟨a, b, c, ha, hbb, hc, ht⟩, hr⟩ := h
    refine ⟨f, fs, rfl, ⟨a, b, c, ?_, ?_, ?_, TrFp.keep t f a b c (hw f (by simp)) ht⟩, RowFp.keep bl (off + 3) ts fs hb (fun g hg => hw g (by simp [hg])) hr⟩
    · rw [World.cell?_of_block (w := w) hb]; exact ha
    · rw [World.cell?_of_block (w := w) hb]; exact hbb
    · rw [World.cell?_of_block (w := w) hb]; exact hc
end
theorem KidsFp.keep {w w' : World} {T : TypeId} {ks : List Tr} {fp : List Nat} {c : Value} (h : KidsFp w T ks fp c) (hw : ∀ k ∈ fp, w'.heap[k]? = w.heap[k]?) : KidsFp w' T ks fp c := by
  obtain ⟨ad, cap, e, l1, l2, h5⟩ := h
  refine ⟨ad, cap, e, l1, l2, ?_⟩
  rcases h5 with h5 | ⟨bl, off, C, fps, e, hb, rfl, r⟩
  · exact Or.inl h5
  · exact Or.inr ⟨bl, off, C, fps, e, (hw bl (by simp)).trans hb, rfl, RowFp.keep bl off ks fps (hw bl (by simp)) (fun f hf k hk => hw k (by simp only [List.mem_cons, List.mem_flatten]; exact Or.inr ⟨f, hf, hk⟩)) r⟩

/-- the blocks lie in the heap -/
theorem cellsOf_lt {w : World} {b : Nat} {o : Obj} (h : w.heap[b]? = some o) : b < w.heap.size := (Array.getElem?_eq_some_iff.1 h).1
mutual
theorem TrFp.on {w : World} {T : TypeId} {S : Nat → Prop} : ∀ (t : Tr) (fp : List Nat) (a b c : Value), (∀ k ∈ fp, S k) → TrFp w T t fp a b c → TrOn w S t a b c
  | .node op n ks, fp, a, b, c, hS, h => by
    simp only [TrFp] at h
    simp only [TrOn]
    obtain ⟨h1, h2, h3, h4, ad, cap, e, l1, l2, h5⟩ := h
    refine ⟨h1, h2, h3, h4, ad, cap, e, l1, l2, ?_⟩
    rcases h5 with ⟨h5, _⟩ | ⟨bl, off, C, fps, e, hb, rfl, r⟩
    · exact Or.inl h5
    · exact Or.inr ⟨bl, off, e, hS bl (by simp), RowFp.on bl off ks fps (fun f hf k hk => hS k (by simp only [List.mem_cons, List.mem_flatten]; exact Or.inr ⟨f, hf, hk⟩)) r⟩
theorem RowFp.on {w : World} {T : TypeId} {S : Nat → Prop} (bl off : Nat) : ∀ (ks : List Tr) (fps : List (List Nat)), (∀ f ∈ fps, ∀ k ∈ f, S k) → RowFp w T bl off ks fps → RowOn w S bl off ks
  | [], fps, _, h => by simp [RowOn]
  | t :: ts, fps, hS, h => by
    simp only [RowFp] at h
    simp only [RowOn]
    obtain ⟨f, fs, rfl, ⟨a, b, c, ha, hbb, hc, ht⟩, hr⟩ := h
    exact ⟨⟨a, b, c, ha, hbb, hc, TrFp.on t f a b c (hS f (by simp)) ht⟩, RowFp.on bl (off + 3) ts fs (fun g hg => hS g (by simp [hg])) hr⟩
end
theorem KidsFp.on {w : World} {T : TypeId} {S : Nat → Prop} {ks : List Tr} {fp : List Nat} {c : Value} (h : KidsFp w T ks fp c) (hS : ∀ k ∈ fp, S k) : KidsOn w S ks c := by
  obtain ⟨ad, cap, e, l1, l2, h5⟩ := h
  refine ⟨ad, cap, e, l1, l2, ?_⟩
  rcases h5 with ⟨h5, _⟩ | ⟨bl, off, C, fps, e, hb, rfl, r⟩
  · exact Or.inl h5
  · exact Or.inr ⟨bl, off, e, hS bl (by simp), RowFp.on bl off ks fps (fun f hf k hk => hS k (by simp only [List.mem_cons, List.mem_flatten]; exact Or.inr ⟨f, hf, hk⟩)) r⟩

/-- element i of a row -/
theorem RowFp.at {w : World} {T : TypeId} {bl : Nat} : ∀ (ks : List Tr) (fps : List (List Nat)) (off i : Nat) (hi : i < ks.length), RowFp w T bl off ks fps →
    fps.length = ks.length ∧ ∃ f, fps[i]? = some f ∧ ∃ a b c, w.cell? ⟨bl, off + i * 3, none⟩ = some a ∧ w.cell? ⟨bl, off + i * 3 + 1, none⟩ = some b ∧ w.cell? ⟨bl, off + i * 3 + 2, none⟩ = some c ∧ TrFp w T ks[i] f a b c
  | [], _, _, _, hi, _ => by simp at hi
  | t :: ts, fps, off, 0, _, h => by
    simp only [RowFp] at h
    obtain ⟨f, fs, rfl, h1, h2⟩ := h
    refine ⟨?_, f, rfl, by simpa using h1⟩
    cases ts with
    | nil => simp only [RowFp] at h2; simp [h2]
    | cons u us => simp [(RowFp.at (u :: us) fs (off + 3) 0 (by simp) h2).1]
  | t :: ts, fps, off, i + 1, hi, h => by
    simp only [RowFp] at h
    obtain ⟨f, fs, rfl, h1, h2⟩ := h
    have := RowFp.at ts fs (off + 3) i (by simpa using hi) h2
    have e : off + 3 + i * 3 = off + (i + 1) * 3 := by omega
    rw [e] at this
    exact ⟨by simp [this.1], by simpa using this.2⟩

/-- a row from its elements -/
theorem RowFp.of {w : World} {T : TypeId} {bl : Nat} : ∀ (ks : List Tr) (fps : List (List Nat)) (off : Nat), fps.length = ks.length →
    (∀ i (hi : i < ks.length), ∃ f, fps[i]? = some f ∧ ∃ a b c, w.cell? ⟨bl, off + i * 3, none⟩ = some a ∧ w.cell? ⟨bl, off + i * 3 + 1, none⟩ = some b ∧ w.cell? ⟨bl, off + i * 3 + 2, none⟩ = some c ∧ TrFp w T ks[i] f a b c) → RowFp w T bl off ks fps
  | [], fps, _, hl, _ => by simpa [RowFp] using hl
  | t :: ts, [], _, hl, _ => by simp at hl
  | t :: ts, f :: fs, off, hl, h => by
    simp only [RowFp]
    refine ⟨f, fs, rfl, ?_, RowFp.of ts fs (off + 3) (by simpa using hl) fun i hi => ?_⟩
    · obtain ⟨f', hf, a, b, c, h1⟩ := h 0 (by simp)
      simp only [List.getElem?_cons_zero, Option.some.injEq] at hf
      subst hf
      simp only [Nat.zero_mul, Nat.add_zero, List.getElem_cons_zero] at h1
      exact ⟨a, b, c, h1⟩
    · have := h (i + 1) (by simpa using hi)
      have e : off + (i + 1) * 3 = off + 3 + i * 3 := by omega
      rw [e] at this
      simpa using this

/-! ### Numbered trees -/
/-- the trees of a list with their numbers replaced, in order, from k on -/
def labL : List Tr → Int → List Tr
  | [], _ => []
  | .node _ _ ks :: ts, k => .node k (k + 1) (labL ks (k + 2)) :: labL ts (k + 2 + 2 * (szL ks : Int))
theorem labL_length : ∀ (ts : List Tr) (k : Int), (labL ts k).length = ts.length
  | [], _ => by simp [labL]
  | .node _ _ ks :: ts, k => by simp [labL, labL_length ts]
theorem labL_cons (t : Tr) (ts : List Tr) (k : Int) : labL (t :: ts) k = .node k (k + 1) (labL t.kids (k + 2)) :: labL ts (k + 2 + 2 * (szT t : Int)) := by
  cases t; simp [labL, szT]
theorem labL_append : ∀ (a b : List Tr) (k : Int), labL (a ++ b) k = labL a k ++ labL b (k + 2 * (szL a : Int))
  | [], b, k => by simp [labL, szL]
  | t :: a, b, k => by
    rw [List.cons_append, labL_cons, labL_cons, labL_append a b]
    simp only [List.cons_append, szL]
    congr 3
    push_cast
    omega
end Go.Proofs.Ythknbafcnobgdaa
/-
  THE NUMBERS THAT MARKED TREES BEAR, element by element.
-/
namespace Go.Proofs.Ythknbafcnobgdaa
set_option linter.unusedVariables false
set_option linter.unusedSimpArgs false
open Go.RowKit

/-- the number that stands at element i -/
def labAt (ks : List Tr) (k : Int) (i : Nat) : Int := k + 2 * (szL (ks.take i) : Int)
theorem labAt_zero (ks : List Tr) (k : Int) : labAt ks k 0 = k := by simp [labAt, szL]
theorem labAt_end (ks : List Tr) (k : Int) : labAt ks k ks.length = k + 2 * (szL ks : Int) := by simp [labAt]
theorem labAt_succ (ks : List Tr) (k : Int) (i : Nat) (hi : i < ks.length) : labAt ks k (i + 1) = labAt ks k i + 2 + 2 * (szL ks[i].kids : Int) := by
  unfold labAt
  rw [szL_take_succ ks i hi, szT_eq]
  push_cast
  omega
theorem labAt_le (ks : List Tr) (k : Int) (i : Nat) : k ≤ labAt ks k i ∧ labAt ks k i ≤ k + 2 * (szL ks : Int) := by
  have := szL_take_le ks i
  unfold labAt
  omega
theorem labL_get : ∀ (ks : List Tr) (k : Int) (i : Nat) (hi : i < ks.length) (hj : i < (labL ks k).length), (labL ks k)[i] = .node (labAt ks k i) (labAt ks k i + 1) (labL ks[i].kids (labAt ks k i + 2))
  | [], _, _, hi, _ => by simp at hi
  | t :: ts, k, 0, _, _ => by simp [labL_cons, labAt_zero]
  | t :: ts, k, i + 1, hi, hj => by
    have := labL_get ts (k + 2 + 2 * (szT t : Int)) i (by simpa using hi) (by rw [labL_length]; simpa using hi)
    simp only [labL_cons, List.getElem_cons_succ, this]
    have e : labAt ts (k + 2 + 2 * (szT t : Int)) i = labAt (t :: ts) k (i + 1) := by
      unfold labAt
      simp only [List.take_succ_cons, szL]
      push_cast
      omega
    rw [e]

end Go.Proofs.Ythknbafcnobgdaa
/-
  A WORLD IN WHICH NOTHING BUT SOME BLOCKS HAS BEEN WRITTEN.
-/
namespace Go.Proofs.Ythknbafcnobgdaa
set_option linter.unusedVariables false
set_option linter.unusedSimpArgs false
open Go.RowKit

/-- all blocks but those of a list are as they were -/
structure ButL (fp : List Nat) (w w' : World) : Prop where
  os : w'.os = w.os
  tape : w'.tape = w.tape
  output : w'.output = w.output
  size : w.heap.size ≤ w'.heap.size
  block : ∀ k, k < w.heap.size → k ∉ fp → w'.heap[k]? = w.heap[k]?
theorem ButL.refl (fp : List Nat) (w : World) : ButL fp w w := ⟨rfl, rfl, rfl, Nat.le_refl _, fun _ _ _ => rfl⟩
theorem ButL.trans {fp : List Nat} {a c d : World} (h : ButL fp a c) (k : ButL fp c d) : ButL fp a d :=
  ⟨k.os.trans h.os, k.tape.trans h.tape, k.output.trans h.output, Nat.le_trans h.size k.size, fun i hi hb => (k.block i (Nat.lt_of_lt_of_le hi h.size) hb).trans (h.block i hi hb)⟩
theorem ButL.mono {fp fq : List Nat} {w w' : World} (h : ButL fp w w') (hs : ∀ k ∈ fp, k ∈ fq) : ButL fq w w' := ⟨h.os, h.tape, h.output, h.size, fun k hk hb => h.block k hk fun hm => hb (hs k hm)⟩
theorem ButL.of_below {fp : List Nat} {w w' : World} (h : Below w.heap.size w w') : ButL fp w w' := ⟨h.os, h.tape, h.output, h.size, fun k hk _ => h.block k hk⟩
theorem ButL.below {fp : List Nat} {B : Nat} {w w' : World} (h : ButL fp w w') (hf : ∀ k ∈ fp, B ≤ k) (hB : B ≤ w.heap.size) : Below B w w' :=
  ⟨h.os, h.tape, h.output, h.size, fun k hk => h.block k (by omega) (fun hm => by have := hf k hm; omega)⟩
theorem ButL.setCell {fp : List Nat} (w : World) (b o : Nat) (hb : b ∈ fp) (u : Value) : ButL fp w (w.setCell ⟨b, o, none⟩ u) :=
  ⟨rfl, rfl, rfl, by simp [World.setCell], fun k hk hn => Below.heap_setCell _ _ _ _ (fun e => hn (e ▸ hb))⟩
end Go.Proofs.Ythknbafcnobgdaa
/-
  THE LAWS' OWN MARKING OF TREES (markExprS, markExpr): a list of trees whose blocks are all distinct bears its numbers in order afterwards; no other block is changed.
-/
namespace Go.Proofs.Ythknbafcnobgdaa
set_option linter.unusedVariables false
set_option linter.unusedSimpArgs false
open Go.RowKit


mutual
theorem TrFp.lt {w : World} {T : TypeId} : ∀ (t : Tr) (fp : List Nat) (a b c : Value), TrFp w T t fp a b c → ∀ k ∈ fp, k < w.heap.size
  | .node op n ks, fp, a, b, c, h, k, hk => by
    simp only [TrFp] at h
    obtain ⟨-, -, -, -, ad, cap, e, l1, l2, h5⟩ := h
    rcases h5 with ⟨-, rfl⟩ | ⟨bl, off, C, fps, e, hb, rfl, r⟩
    · simp at hk
    · simp only [List.mem_cons, List.mem_flatten] at hk
      rcases hk with rfl | ⟨f, hf, hk⟩
      · exact cellsOf_lt hb
      · exact RowFp.lt bl off ks fps r f hf k hk
theorem RowFp.lt {w : World} {T : TypeId} (bl off : Nat) : ∀ (ks : List Tr) (fps : List (List Nat)), RowFp w T bl off ks fps → ∀ f ∈ fps, ∀ k ∈ f, k < w.heap.size
  | [], fps, h, f, hf, k, hk => by simp only [RowFp] at h; subst h; simp at hf
  | t :: ts, fps, h, f, hf, k, hk => by
    simp only [RowFp] at h
    obtain ⟨g, gs, rfl, ⟨a, b, c, -, -, -, ht⟩, hr⟩ := h
    simp only [List.mem_cons] at hf
    rcases hf with rfl | hf
    · exact TrFp.lt t f a b c ht k hk
    · exact RowFp.lt bl (off + 3) ts gs hr f hf k hk
end
theorem KidsFp.lt {w : World} {T : TypeId} {ks : List Tr} {fp : List Nat} {c : Value} (h : KidsFp w T ks fp c) : ∀ k ∈ fp, k < w.heap.size := by
  obtain ⟨ad, cap, e, l1, l2, h5⟩ := h
  intro k hk
  rcases h5 with ⟨-, rfl⟩ | ⟨bl, off, C, fps, e, hb, rfl, r⟩
  · simp at hk
  · simp only [List.mem_cons, List.mem_flatten] at hk
    rcases hk with rfl | ⟨f, hf, hk⟩
    · exact cellsOf_lt hb
    · exact RowFp.lt bl off ks fps r f hf k hk

/-- two lists out of a list of lists have no block in common -/
theorem flatten_disj : ∀ {fps : List (List Nat)} (h : fps.flatten.Nodup) {i j : Nat} {f g : List Nat}, fps[i]? = some f → fps[j]? = some g → i ≠ j → ∀ k ∈ f, k ∉ g
  | [], _, _, _, _, _, hi, _, _, _, _ => by simp at hi
  | x :: xs, h, 0, 0, _, _, _, _, hne, _, _ => absurd rfl hne
  | x :: xs, h, 0, j + 1, f, g, hi, hj, _, k, hk => by
    simp only [List.flatten_cons, List.nodup_append] at h
    simp only [List.getElem?_cons_zero, Option.some.injEq] at hi
    simp only [List.getElem?_cons_succ] at hj
    subst hi
    exact fun hg => h.2.2 k hk k (List.mem_flatten.2 ⟨g, List.mem_of_getElem? hj, hg⟩) rfl
  | x :: xs, h, i + 1, 0, f, g, hi, hj, _, k, hk => by
    simp only [List.flatten_cons, List.nodup_append] at h
    simp only [List.getElem?_cons_zero, Option.some.injEq] at hj
    simp only [List.getElem?_cons_succ] at hi
    subst hj
    exact fun hg => h.2.2 k hg k (List.mem_flatten.2 ⟨f, List.mem_of_getElem? hi, hk⟩) rfl
  | x :: xs, h, i + 1, j + 1, f, g, hi, hj, hne, k, hk => by
    simp only [List.flatten_cons, List.nodup_append] at h
    exact flatten_disj h.2.1 (by simpa using hi) (by simpa using hj) (by omega) k hk
theorem flatten_one : ∀ {fps : List (List Nat)} (h : fps.flatten.Nodup) {i : Nat} {f : List Nat}, fps[i]? = some f → f.Nodup
  | [], _, _, _, hi => by simp at hi
  | x :: xs, h, 0, f, hi => by
    simp only [List.flatten_cons, List.nodup_append] at h
    simp only [List.getElem?_cons_zero, Option.some.injEq] at hi
    subst hi
    exact h.1
  | x :: xs, h, i + 1, f, hi => by
    simp only [List.flatten_cons, List.nodup_append] at h
    exact flatten_one h.2.1 (by simpa using hi)

/-- a store into a block: the block, the cell, the other cells -/
theorem set_block {w : World} {b : Nat} {C : Array Value} {T : TypeId} (h : w.heap[b]? = some (.cells C T)) (o : Nat) (u : Value) : ∃ C', (w.setCell ⟨b, o, none⟩ u).heap[b]? = some (.cells C' T) := by
  simp [World.setCell, Array.getElem?_modify, h]
theorem set_at {w : World} {b o : Nat} {C : Array Value} {T : TypeId} (h : w.heap[b]? = some (.cells C T)) {v : Value} (hv : w.cell? ⟨b, o, none⟩ = some v) (u : Value) : (w.setCell ⟨b, o, none⟩ u).cell? ⟨b, o, none⟩ = some u := by
  simp only [World.cell?, h] at hv
  have hlt := (Array.getElem?_eq_some_iff.1 (by simpa using hv)).1
  simp [World.cell?, World.setCell, Array.getElem?_modify, h, Array.getElem?_setIfInBounds, hlt]
theorem set_off {w : World} {b o i : Nat} {C : Array Value} {T : TypeId} (h : w.heap[b]? = some (.cells C T)) (hi : i ≠ o) (u : Value) : (w.setCell ⟨b, o, none⟩ u).cell? ⟨b, i, none⟩ = w.cell? ⟨b, i, none⟩ := by
  simp [World.cell?, World.setCell, Array.getElem?_modify, h, Array.getElem?_setIfInBounds, Ne.symm hi]
theorem cells_thawed {w : World} {b : Nat} {C : Array Value} {T : TypeId} (h : w.heap[b]? = some (.cells C T)) (o : Nat) : w.frozen? ⟨b, o, none⟩ = false := by simp [World.frozen?, h]

/-- element j of a row was marked: its two numbers, then the trees below it -/
theorem RowFp.mark {w w1 : World} {T : TypeId} {bl off : Nat} {ks : List Tr} {fps : List (List Nat)} {C : Array Value} (hb : w.heap[bl]? = some (.cells C T)) (hr : RowFp w T bl off ks fps) (hn : (bl :: fps.flatten).Nodup)
    (j : Nat) (hj : j < ks.length) (x y : Int) (hx : I64 x) (hy : I64 y) (f : List Nat) (hf : fps[j]? = some f) (r : Value) (hc : w.cell? ⟨bl, off + j * 3 + 2, none⟩ = some r) (ks' : List Tr) (h1 : KidsFp w1 T ks' f r)
    (hbut : ButL f ((w.setCell ⟨bl, off + j * 3, none⟩ (.int .i64 x)).setCell ⟨bl, off + j * 3 + 1, none⟩ (.int .i64 y)) w1) :
    RowFp w1 T bl off (ks.set j (.node x y ks')) fps ∧ ∃ C', w1.heap[bl]? = some (.cells C' T) := by
  have hbl : bl < w.heap.size := cellsOf_lt hb
  simp only [List.nodup_cons] at hn
  obtain ⟨hn1, hn2⟩ := hn
  have hblf : bl ∉ f := fun hm => hn1 (List.mem_flatten.2 ⟨f, List.mem_of_getElem? hf, hm⟩)
  obtain ⟨C1, hC1⟩ := set_block hb (off + j * 3) (.int .i64 x)
  obtain ⟨C2, hC2⟩ := set_block hC1 (off + j * 3 + 1) (.int .i64 y)
  have hsz : ((w.setCell ⟨bl, off + j * 3, none⟩ (.int .i64 x)).setCell ⟨bl, off + j * 3 + 1, none⟩ (.int .i64 y)).heap.size = w.heap.size := by rw [size_setCell, size_setCell]
  have hblk : w1.heap[bl]? = ((w.setCell ⟨bl, off + j * 3, none⟩ (.int .i64 x)).setCell ⟨bl, off + j * 3 + 1, none⟩ (.int .i64 y)).heap[bl]? := hbut.block bl (by rw [hsz]; exact hbl) hblf
  have hcell : ∀ i, w1.cell? ⟨bl, i, none⟩ = ((w.setCell ⟨bl, off + j * 3, none⟩ (.int .i64 x)).setCell ⟨bl, off + j * 3 + 1, none⟩ (.int .i64 y)).cell? ⟨bl, i, none⟩ := fun i => World.cell?_of_block hblk
  have hsame : ∀ i, i ≠ off + j * 3 → i ≠ off + j * 3 + 1 → w1.cell? ⟨bl, i, none⟩ = w.cell? ⟨bl, i, none⟩ := fun i h1 h2 => by rw [hcell, set_off hC1 h2, set_off hb h1]
  refine ⟨RowFp.of _ _ _ ?_ ?_, C2, hblk.trans hC2⟩
  · rw [List.length_set]; exact (RowFp.at ks fps off j hj hr).1
  intro i hi
  rw [List.length_set] at hi
  obtain ⟨-, g, hg, a, b, c, ha, hbb, hcc, ht⟩ := RowFp.at ks fps off i hi hr
  refine ⟨g, hg, ?_⟩
  by_cases hij : i = j
  · subst hij
    rw [hf] at hg
    cases hg
    rw [hc] at hcc
    cases hcc
    refine ⟨.int .i64 x, .int .i64 y, r, ?_, ?_, ?_, ?_⟩
    · rw [hcell, set_off hC1 (by omega), set_at hb ha]
    · rw [hcell]
      exact set_at hC1 (v := b) (by rw [set_off hb (by omega)]; exact hbb) _
    · rw [hsame _ (by omega) (by omega)]; exact hc
    · simp only [List.getElem_set_self]
      exact trFp_iff.2 ⟨rfl, rfl, hx, hy, h1⟩
  · refine ⟨a, b, c, ?_, ?_, ?_, ?_⟩
    · rw [hsame _ (by omega) (by omega)]; exact ha
    · rw [hsame _ (by omega) (by omega)]; exact hbb
    · rw [hsame _ (by omega) (by omega)]; exact hcc
    · rw [List.getElem_set_ne (by omega)]
      refine TrFp.keep _ g a b c (fun k hk => ?_) ht
      have hkl := TrFp.lt _ g a b c ht k hk
      have hkb : k ≠ bl := fun e => hn1 (List.mem_flatten.2 ⟨g, List.mem_of_getElem? hg, e ▸ hk⟩)
      rw [hbut.block k (by rw [hsz]; exact hkl) (flatten_disj hn2 hg hf hij k hk)]
      exact (Below.heap_setCell _ _ _ _ hkb).trans (Below.heap_setCell _ _ _ _ hkb)
end Go.Proofs.Ythknbafcnobgdaa
/-
  THE LAWS' OWN COPY OF AN ARGUMENT (toExpr, toExprS), ITS BLOCKS ALL DISTINCT: the same trees, in new memory; nothing that was there is changed.
-/
namespace Go.Proofs.Ythknbafcnobgdaa
set_option linter.unusedVariables false
set_option linter.unusedSimpArgs false
open Go.RowKit

/-- trees whose blocks are distinct, from lo on -/
def Fresh (w : World) (lo : Nat) (ks : List Tr) (c : Value) : Prop := ∃ fp, KidsFp w 37 ks fp c ∧ fp.Nodup ∧ ∀ k ∈ fp, lo ≤ k
theorem Fresh.on {w : World} {lo : Nat} {ks : List Tr} {c : Value} (h : Fresh w lo ks c) : KidsOn w (Btw lo w.heap.size) ks c := by
  obtain ⟨fp, h1, h2, h3⟩ := h
  exact h1.on fun k hk => ⟨h3 k hk, h1.lt k hk⟩
theorem Fresh.mono {w w' : World} {lo lo' : Nat} {ks : List Tr} {c : Value} (h : Fresh w lo ks c) (hl : lo' ≤ lo) (hw : ∀ k, lo ≤ k → k < w.heap.size → w'.heap[k]? = w.heap[k]?) : Fresh w' lo' ks c := by
  obtain ⟨fp, h1, h2, h3⟩ := h
  exact ⟨fp, h1.keep fun k hk => hw k (h3 k hk) (h1.lt k hk), h2, fun k hk => Nat.le_trans hl (h3 k hk)⟩
theorem Fresh.next {w w' : World} {lo : Nat} {ks : List Tr} {c : Value} (h : Fresh w lo ks c) (hb : Below w.heap.size w w') : Fresh w' lo ks c := h.mono (Nat.le_refl _) fun k _ hk => hb.block k hk
theorem Fresh.setCell {w : World} {lo : Nat} {ks : List Tr} {c : Value} (h : Fresh w lo ks c) {a : Addr} (ha : a.block < lo) (u : Value) : Fresh (w.setCell a u) lo ks c :=
  h.mono (Nat.le_refl _) fun k hk _ => Below.heap_setCell _ _ _ _ (by omega)

/-- a call has handed back these trees in new memory, all blocks distinct -/
def FreshKids (ks : List Tr) (w : World) (e : Ending) (w' : World) : Prop := ∃ v, e = .returned v ∧ Fresh w' w.heap.size ks v ∧ Below w.heap.size w w'
/-- .. one tree -/
def FreshTr (o n : Int) (ks : List Tr) (w : World) (e : Ending) (w' : World) : Prop := ∃ v, e = .returned (.agg #[.int .i64 o, .int .i64 n, v]) ∧ Fresh w' w.heap.size ks v ∧ Below w.heap.size w w'

def FToSSaid (ks : List Tr) : Prop := ∀ (c : Value) (w : World), In w ks c → szL ks ≤ 1048576 → Calls Try.prog 52 #[c] w (FreshKids ks w)
def FToSaid (ks : List Tr) : Prop := ∀ (o n : Int) (c : Value) (w : World), In w ks c → szL ks ≤ 1048576 → Calls Try.prog 16 #[.agg #[.int .i64 o, .int .i64 n, c]] w (FreshTr o n ks w)

set_option maxHeartbeats 400000 in
theorem fto_of (ks : List Tr) (h : FToSSaid ks) : FToSaid ks := by
  intro o n c w hk hsz
  have HK : Hid (In w ks c) := hk
  have HS : Hid (FToSSaid ks) := h
  clear h hk
  go_enter Try.func16, Try.ntmps16
  go_wp2_with fail
  refine (HS.out c _ ?_ hsz).mono ?_
  · exact HK.out.next ((((Below.refl _ _).alloc (Nat.le_refl _) _).alloc (by simp) _).alloc (by simp; omega) _)
  rintro e w1 ⟨v, rfl, hv, hb⟩
  obtain ⟨hc, hf⟩ := bcell hb
  have hz : w.heap.size + 2 < w1.heap.size := by have := hb.size; simp at this; omega
  have hlo : w.heap.size + 3 ≤ w1.heap.size := by omega
  have HV : Hid (Fresh w1 (w.heap.size + 3) ks v) := hv.mono (by simp) (fun _ _ _ => rfl)
  have HB : Hid (Below w.heap.size w w1) := ((((Below.refl _ _).alloc (Nat.le_refl _) _).alloc (by simp) _).alloc (by simp; omega) _).trans (hb.mono (by simp; omega))
  obtain ⟨fp, ⟨ad, cap, rfl, _, _, _⟩, _, _⟩ := hv
  go_wp2_with fail
  refine bodyPost_ret (v := .agg #[.int .i64 o, .int .i64 n, .slice ad ks.length cap]) (by simp [results, Try.results16, go_sem, hc, hf, hz]) rfl ⟨_, rfl, ?_, ?_⟩
  · exact ((((HV.out.setCell (by simp <;> omega) _).setCell (by simp <;> omega) _).setCell (by simp <;> omega) _).setCell (by simp <;> omega) _).mono (by omega) (fun _ _ _ => rfl)
  · exact (((HB.out.setCell (by simp; omega) _).setCell (by simp) _).setCell (by simp) _).setCell (by simp) _


/-- what holds of the copy of a list behind k rounds -/
def FToRel (ks : List Tr) (w : World) (k : Nat) (wr : World) : Prop :=
  ∃ (f : Nat → Value) (fps : List (List Nat)), fps.length = k ∧ wr.rowIs w.heap.size 37 (ks.length * 3) f ∧ (∀ j (_ : j < k) (hj : j < ks.length), ∃ g, fps[j]? = some g ∧ TrFp wr 37 ks[j] g (f (j * 3)) (f (j * 3 + 1)) (f (j * 3 + 2))) ∧ fps.flatten.Nodup ∧ (∀ b ∈ fps.flatten, w.heap.size < b ∧ b < wr.heap.size) ∧ Below w.heap.size w wr

theorem ftoRel_start (ks : List Tr) (w : World) (C : Array Value) (h : C.size = ks.length * 3) : FToRel ks w 0 (w.alloc (.cells C 37)) := by
  refine ⟨fun i => C.getD i undef, [], rfl, ⟨C, Deep.blk_alloc_new _ _, h, fun i hi => ?_⟩, fun j hj => absurd hj (by omega), by simp, by simp, (Below.refl _ _).alloc (Nat.le_refl _) _⟩
  simp [Array.getElem?_eq_getElem (h ▸ hi : i < C.size), Array.getD, (h ▸ hi : i < C.size)]

theorem ftoRel_step (ks : List Tr) (w wr w1 : World) (k : Nat) (hk : k < ks.length) (h : FToRel ks w k wr) (v : Value) (hb : Below wr.heap.size wr w1) (hv : Fresh w1 wr.heap.size (ks[k]).kids v) (ho : I64 (ks[k]).op) (hn : I64 (ks[k]).num) :
    FToRel ks w (k + 1) (((w1.setCell ⟨w.heap.size, k * 3, none⟩ (.int .i64 (ks[k]).op)).setCell ⟨w.heap.size, k * 3 + 1, none⟩ (.int .i64 (ks[k]).num)).setCell ⟨w.heap.size, k * 3 + 2, none⟩ v) := by
  obtain ⟨f, fps, hfl, hr, ht, hnd, hfb, hbw⟩ := h
  obtain ⟨fp, v1, v2, v3⟩ := hv
  have hlt := hr.lt
  have hr1 : w1.rowIs w.heap.size 37 (ks.length * 3) f := hr.of_block (hb.block _ hlt)
  have hsz := hb.size
  have keep : ∀ b, b ≠ w.heap.size → (((w1.setCell ⟨w.heap.size, k * 3, none⟩ (.int .i64 (ks[k]).op)).setCell ⟨w.heap.size, k * 3 + 1, none⟩ (.int .i64 (ks[k]).num)).setCell ⟨w.heap.size, k * 3 + 2, none⟩ v).heap[b]? = w1.heap[b]? :=
    fun b hne => ((Below.heap_setCell _ _ _ _ hne).trans (Below.heap_setCell _ _ _ _ hne)).trans (Below.heap_setCell _ _ _ _ hne)
  have hs3 : k * 3 + 2 < ks.length * 3 := by omega
  refine ⟨_, fps ++ [fp], by simp [hfl], ((hr1.set (k * 3) _).set (k * 3 + 1) _).set (k * 3 + 2) _, fun j hj hjl => ?_, ?_, ?_, ?_⟩
  · by_cases hjk : j = k
    · subst hjk
      have : TrFp w1 37 ks[j] fp (.int .i64 (ks[j]).op) (.int .i64 (ks[j]).num) v := trFp_iff.2 ⟨rfl, rfl, ho, hn, v1⟩
      have h2 := TrFp.keep _ _ _ _ _ (fun b hbm => keep b (by have := v3 b hbm; omega)) this
      refine ⟨fp, by rw [← hfl]; simp, ?_⟩
      simpa using h2
    · obtain ⟨g, hg, h0⟩ := ht j (by omega) hjl
      have hgm : ∀ b ∈ g, w.heap.size < b ∧ b < wr.heap.size := fun b hbm => hfb b (List.mem_flatten.2 ⟨g, List.mem_of_getElem? hg, hbm⟩)
      have h2 := TrFp.keep _ _ _ _ _ (fun b hbm => (keep b (by have := hgm b hbm; omega)).trans (hb.block b (hgm b hbm).2)) h0
      have e1 : ∀ m, m < 3 → j * 3 + m ≠ k * 3 + 2 ∧ j * 3 + m ≠ k * 3 + 1 ∧ j * 3 + m ≠ k * 3 := fun m hm => by omega
      have a0 := e1 0 (by omega)
      have a1 := e1 1 (by omega)
      have a2 := e1 2 (by omega)
      simp only [Nat.add_zero] at a0
      refine ⟨g, by rw [List.getElem?_append_left (by omega)]; exact hg, ?_⟩
      simpa [a0, a1, a2] using h2
  · rw [List.flatten_append, List.nodup_append]
    refine ⟨hnd, by simpa using v2, fun x hx y hy e => ?_⟩
    have h1 := (hfb x hx).2
    have h2 := v3 y (by simpa using hy)
    omega
  · intro b hbm
    simp only [size_setCell]
    simp only [List.flatten_append, List.mem_append] at hbm
    rcases hbm with hbm | hbm
    · have := hfb b hbm; omega
    · have hbm' : b ∈ fp := by simpa using hbm
      have h1 := v3 b hbm'
      have h2 := v1.lt b hbm'
      omega
  · exact (((hbw.trans (hb.mono (Nat.le_of_lt hlt))).setCell (by simp) _).setCell (by simp) _).setCell (by simp) _

theorem ftoRel_end (ks : List Tr) (w wr : World) (h : FToRel ks w ks.length wr) (hl : ks.length ≤ 1048576) : FreshKids ks w (.returned (.slice (some ⟨w.heap.size, 0, none⟩) ks.length ks.length)) wr := by
  obtain ⟨f, fps, hfl, hr, ht, hnd, hfb, hbw⟩ := h
  have hlt := hr.lt
  obtain ⟨C, hC, _, _⟩ := id hr
  refine ⟨_, rfl, ⟨w.heap.size :: fps.flatten, ⟨_, _, rfl, Nat.le_refl _, by unfold maxLen; omega, Or.inr ⟨_, _, C, fps, rfl, hC, rfl, RowFp.of _ _ _ hfl fun i hi => ?_⟩⟩, ?_, ?_⟩, hbw⟩
  · obtain ⟨g, hg, h1⟩ := ht i hi hi
    refine ⟨g, hg, f (i * 3), f (i * 3 + 1), f (i * 3 + 2), ?_, ?_, ?_, h1⟩
    · simpa using hr.cell (i := i * 3) (by omega)
    · simpa [Nat.zero_add] using hr.cell (i := i * 3 + 1) (by omega)
    · simpa [Nat.zero_add] using hr.cell (i := i * 3 + 2) (by omega)
  · rw [List.nodup_cons]
    exact ⟨fun hm => by have := (hfb _ hm).1; omega, hnd⟩
  · intro b hbm
    rw [List.mem_cons] at hbm
    rcases hbm with rfl | hbm
    · exact Nat.le_refl _
    · have := (hfb b hbm).1; omega

set_option maxHeartbeats 400000 in
theorem ftoS_step (ks : List Tr) (ih : ∀ i (hi : i < ks.length), FToSaid (ks[i]).kids) : FToSSaid ks := by
  intro c w hk hsz
  have HI : Hid (∀ i (hi : i < ks.length), FToSaid (ks[i]).kids) := ih
  have HK : Hid (In w ks c) := hk
  have HZ : Hid (szL ks ≤ 1048576) := hsz
  have hlen : ks.length ≤ 1048576 := by rw [szL_sum] at hsz; omega
  clear ih hsz
  obtain ⟨ad, cap, rfl, hl, hm, hrow⟩ := hk
  clear hrow hm hl
  obtain ⟨C, hC, hmk⟩ := make_exprs ks.length hlen
  have HC : Hid (C.size = ks.length * 3) := hC
  clear hC
  go_enter Try.func52, Try.ntmps52
  go_wp2_with fail
  go_loopw [4] (fun i wr => ∃ k : Nat, k ≤ ks.length ∧ i = .int .i64 k ∧ FToRel ks w k wr) (fun i _ => ks.length - (intOf i).toNat)
  case atStart => exact ⟨0, Nat.zero_le _, rfl, ftoRel_start ks w C HC.out⟩
  case round =>
    obtain ⟨k, hk, rfl, hto⟩ := hrel
    have HT : Hid (FToRel ks w k wr) := hto
    obtain ⟨f, _, _, hr0, _, _, _, hb⟩ := hto
    have hlt0 := hr0.lt
    by_cases hlt : k < ks.length
    · have hrow' := HK.out.next hb
      obtain ⟨ad', cap', he, _, _, hr⟩ := hrow'
      cases he
      rcases hr with rfl | ⟨bl, off, rfl, _, hr⟩
      · simp at hlt
      obtain ⟨p, q, r, c0, c1, c2, ht⟩ := RowOn.at ks off k hlt hr
      obtain ⟨rfl, rfl, io, iN, hkk⟩ := trOn_iff.1 ht
      have HKK : Hid (In wr ks[k].kids r) := hkk
      have hkz : szL ks[k].kids ≤ 1048576 := by have := szL_kids_lt ks k hlt; have := HZ.out; omega
      have HR : Hid (wr.rowIs w.heap.size 37 (ks.length * 3) f) := hr0
      clear hkk ht hr hr0 hb
      go_wp2_with fail
      refine (HI.out k hlt _ _ r _ HKK.out hkz).mono ?_
      rintro e w1 ⟨v, rfl, hv, hb1⟩
      have hr1 : w1.rowIs w.heap.size 37 (ks.length * 3) f := HR.out.of_block (hb1.block _ hlt0)
      have HS : Hid (FToRel ks w (k + 1) (((w1.setCell ⟨w.heap.size, k * 3, none⟩ (.int .i64 (ks[k]).op)).setCell ⟨w.heap.size, k * 3 + 1, none⟩ (.int .i64 (ks[k]).num)).setCell ⟨w.heap.size, k * 3 + 2, none⟩ v)) := ftoRel_step ks w wr w1 k hlt HT.out v hb1 hv io iN
      obtain ⟨_, ⟨ad2, cap2, rfl, _, _, _⟩, _, _⟩ := hv
      have g0 := hr1.cell (i := k * 3) (by omega)
      have g1 := hr1.cell (i := k * 3 + 1) (by omega)
      have g2 := hr1.cell (i := k * 3 + 2) (by omega)
      have f0 := hr1.frozen (k * 3)
      have f1 := hr1.frozen (k * 3 + 1)
      have f2 := hr1.frozen (k * 3 + 2)
      clear hr1 hb1
      go_wp2_with fail
      go_roundw
      case rel => exact ⟨k + 1, by omega, by go_num, HS.out⟩
      case measure => simp [intOf]; omega
    · have hke : ks.length = k := by omega
      have HV : Hid (FreshKids ks w (.returned (.slice (some ⟨w.heap.size, 0, none⟩) ks.length ks.length)) wr) := by subst hke; exact ftoRel_end ks w wr HT.out hlen
      clear hke hr0 hb
      go_wp2_with fail
      go_ret
      exact HV.out

/-- THE COPY, FOR EVERY LIST OF TREES. -/
theorem ftoS_any : ∀ (n : Nat) (ks : List Tr), szL ks ≤ n → FToSSaid ks := by
  intro n
  induction n with
  | zero =>
    intro ks h
    exact ftoS_step ks fun i hi => absurd (szT_lt_szL ks i hi) (by omega)
  | succ n ih =>
    intro ks h
    exact ftoS_step ks fun i hi => fto_of _ (ih _ (by have := szL_kids_lt ks i hi; omega))

theorem ftoS_calls (ks : List Tr) : FToSSaid ks := ftoS_any _ ks (Nat.le_refl _)
theorem fto_calls (ks : List Tr) : FToSaid ks := fto_of ks (ftoS_calls ks)
end Go.Proofs.Ythknbafcnobgdaa
/-
  MAPS KEYED BY ADDRESSES (pointers, or structs of them): what a look-up finds and what a store leaves, the map seen as a function from keys to values.
-/
namespace Go.Proofs.Ythknbafcnobgdaa
set_option linter.unusedVariables false
set_option linter.unusedSimpArgs false
open Go.RowKit Go.MapKept

section
variable {κ : Type} [DecidableEq κ]

/-- where a key stands in a list, and its value -/
def pfind (c : κ) : List (κ × Value) → Nat → Option (Nat × Value)
  | [], _ => none
  | x :: xs, i => if c = x.1 then some (i, x.2) else pfind c xs (i + 1)

theorem pfind_some {c : κ} : ∀ {L : List (κ × Value)} {i j : Nat} {v : Value}, pfind c L i = some (j, v) → ∃ n, j = i + n ∧ L[n]? = some (c, v)
  | [], i, j, v, h => by simp [pfind] at h
  | x :: xs, i, j, v, h => by
    unfold pfind at h
    split at h
    · rename_i hc
      simp only [Option.some.injEq, Prod.mk.injEq] at h
      exact ⟨0, by omega, by rw [← h.2, hc]; simp⟩
    · obtain ⟨n, hn, hg⟩ := pfind_some h
      exact ⟨n + 1, by omega, by simpa using hg⟩

theorem pfind_push_same {c : κ} {v : Value} : ∀ {L : List (κ × Value)} {i : Nat}, pfind c L i = none → pfind c (L ++ [(c, v)]) i = some (i + L.length, v)
  | [], i, _ => by simp [pfind]
  | x :: xs, i, h => by
    unfold pfind at h
    split at h
    · simp at h
    · rename_i hc
      rw [List.cons_append, pfind, if_neg hc, pfind_push_same h]
      simp; omega

theorem pfind_push_other {c d : κ} {v : Value} (hd : d ≠ c) : ∀ {L : List (κ × Value)} {i : Nat}, pfind d (L ++ [(c, v)]) i = pfind d L i
  | [], i => by simp [pfind, hd]
  | x :: xs, i => by rw [List.cons_append, pfind, pfind, pfind_push_other hd]

theorem pfind_set_same {c : κ} {u v : Value} : ∀ {L : List (κ × Value)} {i n : Nat}, pfind c L i = some (i + n, u) → pfind c (L.set n (c, v)) i = some (i + n, v)
  | [], i, n, h => by simp [pfind] at h
  | x :: xs, i, n, h => by
    unfold pfind at h
    split at h
    · rename_i hc
      simp only [Option.some.injEq, Prod.mk.injEq] at h
      have : n = 0 := by omega
      subst this
      simp [pfind]
    · rename_i hc
      obtain ⟨m, hm, _⟩ := pfind_some h
      have : n = m + 1 := by omega
      subst this
      rw [List.set_cons_succ, pfind, if_neg hc]
      have e : i + (m + 1) = i + 1 + m := by omega
      rw [e] at h ⊢
      exact pfind_set_same h

theorem pfind_set_other {c d : κ} {u v : Value} (hd : d ≠ c) : ∀ {L : List (κ × Value)} {i n : Nat}, L[n]? = some (c, u) → pfind d (L.set n (c, v)) i = pfind d L i
  | [], i, n, h => by simp at h
  | x :: xs, i, 0, h => by
    simp only [List.getElem?_cons_zero, Option.some.injEq] at h
    subst h
    simp [pfind, hd]
  | x :: xs, i, n + 1, h => by
    rw [List.set_cons_succ, pfind, pfind, pfind_set_other hd (by simpa using h)]

/-- what is asked of the keys of a type: how they lie in values, and when they are compared -/
structure PKey (P : Program) (kt : TypeId) (emb : κ → Value) (ok : World → κ → Prop) : Prop where
  check : ∀ (w : World) (e : Bool) (x : κ), (Instr.checkKey e 10000 kt (emb x)).run P w = .ok () w
  under : ∃ d, P.underlying kt = some d ∧ ∀ x y, Instr.sameNow d (emb x) (emb y) = none
  eq : ∀ (w : World) (x y : κ), ok w x → ok w y → (Op.equal kt (emb x) (emb y)).run P w = .ok (decide (x = y)) w
  stays : ∀ x, Instr.sameBits 10000 (emb x) (emb x) = true

/-- block b is a map, its keys of K, seen as the function M -/
def PMap (emb : κ → Value) (w : World) (b : Nat) (K : κ → Prop) (M : κ → Option Value) : Prop :=
  ∃ es clock L, w.heap[b]? = some (.map es clock) ∧ es.toList.map (fun e => (e.key, e.val)) = L.map (fun x : κ × Value => (emb x.1, x.2)) ∧ (∀ x ∈ L, K x.1) ∧ ∀ c, M c = (pfind c L 0).map (·.2)

/-- a function changed at one place -/
def pput (M : κ → Option Value) (a : κ) (v : Value) : κ → Option Value := fun c => if c = a then some v else M c
@[simp] theorem pput_same (M : κ → Option Value) (a : κ) (v : Value) : pput M a v a = some v := by simp [pput]
theorem pput_other (M : κ → Option Value) {a c : κ} (v : Value) (h : c ≠ a) : pput M a v c = M c := by simp [pput, h]

variable {P : Program} {kt et mt : TypeId} {emb : κ → Value} {ok : World → κ → Prop} {w : World} {b : Nat} {K : κ → Prop} {M : κ → Option Value}

theorem PMap.made (w : World) (K : κ → Prop) : PMap emb (w.alloc (.map #[] 0)) w.heap.size K (fun _ => none) :=
  ⟨#[], 0, [], (heap_alloc w _).1, rfl, by simp, fun c => rfl⟩
theorem PMap.keep {w' : World} (h : PMap emb w b K M) (hb : w'.heap[b]? = w.heap[b]?) : PMap emb w' b K M := by
  obtain ⟨es, clock, L, h1, h2⟩ := h
  exact ⟨es, clock, L, hb.trans h1, h2⟩
theorem PMap.lt (h : PMap emb w b K M) : b < w.heap.size := by
  obtain ⟨es, clock, L, h1, h2⟩ := h
  exact (Array.getElem?_eq_some_iff.1 h1).1
theorem PMap.keys {K' : κ → Prop} (h : PMap emb w b K M) (hK : ∀ x, K x → K' x) : PMap emb w b K' M := by
  obtain ⟨es, clock, L, h1, h2, h3, h4⟩ := h
  exact ⟨es, clock, L, h1, h2, fun x hx => hK _ (h3 x hx), h4⟩
theorem PMap.key_of (h : PMap emb w b K M) {c : κ} {v : Value} (hc : M c = some v) : K c := by
  obtain ⟨es, clock, L, h1, h2, h3, h4⟩ := h
  rw [h4] at hc
  cases hf : pfind c L 0 with
  | none => rw [hf] at hc; simp at hc
  | some z =>
    obtain ⟨n, _, hg⟩ := pfind_some (j := z.1) (v := z.2) hf
    exact h3 _ (List.mem_of_getElem? hg)

theorem run_findAsking (Q : PKey P kt emb ok) (a : κ) (ha : ok w a) : ∀ (l : List MapEntry) (L : List (κ × Value)) (i : Nat), l.map (fun e => (e.key, e.val)) = L.map (fun x : κ × Value => (emb x.1, x.2)) → (∀ x ∈ L, ok w x.1) →
    (Instr.findAsking kt (emb a) l i).run P w = .ok (pfind a L i) w
  | [], L, i, h, _ => by
    cases L with
    | nil => simp [Instr.findAsking, pfind]
    | cons x xs => simp at h
  | e :: es, L, i, h, hL => by
    cases L with
    | nil => simp at h
    | cons x xs =>
      simp only [List.map_cons, List.cons.injEq, Prod.mk.injEq] at h
      obtain ⟨⟨h1, h2⟩, h3⟩ := h
      have ih := run_findAsking Q a ha es xs (i + 1) h3 (fun y hy => hL y (by simp [hy]))
      have he := Q.eq w a x.1 ha (hL x (by simp))
      rw [← h1] at he
      unfold Instr.findAsking pfind
      simp only [Sem.run_bind, he, Result.andThen]
      by_cases hc : a = x.1
      · simp [hc, h2]
      · simp [hc, ih]

theorem run_findKey_p (Q : PKey P kt emb ok) (a : κ) (ha : ok w a) (l : List MapEntry) (L : List (κ × Value)) (h : l.map (fun e => (e.key, e.val)) = L.map (fun x : κ × Value => (emb x.1, x.2))) (hL : ∀ x ∈ L, ok w x.1) :
    (Instr.findKey kt (emb a) l).run P w = .ok (pfind a L 0) w := by
  obtain ⟨d, hd, hn⟩ := Q.under
  have hf := run_findAsking Q a ha l L 0 h hL
  cases l with
  | nil =>
    cases L with
    | nil => simp [Instr.findKey, run_underlying hd, Result.andThen, Instr.findNow, pfind]
    | cons x xs => simp at h
  | cons e es =>
    cases L with
    | nil => simp at h
    | cons x xs =>
      have h1 : e.key = emb x.1 := by simp only [List.map_cons, List.cons.injEq, Prod.mk.injEq] at h; exact h.1.1
      have hnow : Instr.findNow d (emb a) (e :: es) 0 = none := by simp [Instr.findNow, h1, hn]
      simp [Instr.findKey, run_underlying hd, Result.andThen, hnow, hf]

/-- 'm[k]' -/
theorem PMap.look (h : PMap emb w b K M) (Q : PKey P kt emb ok) (hm : P.underlying mt = some (.map kt et)) (hK : ∀ x, K x → ok w x) {z : Value} (hz : (zeroValue et).run P w = .ok z w) (a : κ) (ha : ok w a) :
    (Instr.lookup mt (.map (some b)) (emb a) false).run P w = .ok ((M a).getD z) w ∧
    (Instr.lookup mt (.map (some b)) (emb a) true).run P w = .ok (.tuple #[(M a).getD z, .bool (M a).isSome]) w := by
  obtain ⟨es, clock, L, h1, h2, h3, h4⟩ := h
  have hf := run_findKey_p Q a ha es.toList L h2 (fun x hx => hK _ (h3 x hx))
  rw [h4 a]
  cases hp : pfind a L 0 with
  | none =>
    rw [hp] at hf
    constructor <;> simp [Instr.lookup, run_underlying hm, MapKept.run_getObj_map h1, Q.check, hf, hz, Result.andThen]
  | some y =>
    obtain ⟨n, v⟩ := y
    rw [hp] at hf
    constructor <;> simp [Instr.lookup, run_underlying hm, MapKept.run_getObj_map h1, Q.check, hf, Result.andThen]

/-- 'm[k] = v' -/
theorem PMap.store (h : PMap emb w b K M) (Q : PKey P kt emb ok) (hm : P.underlying mt = some (.map kt et)) (hK : ∀ x, K x → ok w x) (a : κ) (ha : ok w a) (hKa : K a) (v : Value) :
    ∃ o, (Instr.mapUpdate mt (.map (some b)) (emb a) v).run P w = .ok () { w with heap := w.heap.setIfInBounds b o } ∧ PMap emb { w with heap := w.heap.setIfInBounds b o } b K (pput M a v) := by
  obtain ⟨es, clock, L, h1, h2, h3, h4⟩ := h
  have hf := run_findKey_p Q a ha es.toList L h2 (fun x hx => hK _ (h3 x hx))
  cases hp : pfind a L 0 with
  | none =>
    rw [hp] at hf
    refine ⟨_, by simp [Instr.mapUpdate, run_underlying hm, MapKept.run_getObj_map h1, Q.check, hf, MapKept.run_setObj_map _ h1, Result.andThen]; rfl, _, _, L ++ [(a, v)], (heap_set h1).1, by simp [h2], ?_, ?_⟩
    · intro x hx
      simp only [List.mem_append, List.mem_singleton] at hx
      rcases hx with hx | rfl
      · exact h3 x hx
      · exact hKa
    · intro c
      by_cases hc : c = a
      · subst hc; simp [pfind_push_same hp]
      · rw [pput_other M v hc, pfind_push_other hc, h4]
  | some y =>
    obtain ⟨n, u⟩ := y
    rw [hp] at hf
    obtain ⟨m, hm', hg⟩ := pfind_some hp
    have hnm : n = m := by omega
    subst hnm
    have hlen : es.toList.length = L.length := by have := congrArg List.length h2; simpa using this
    have hlt : n < L.length := (List.getElem?_eq_some_iff.1 hg).1
    have hj : ∃ e, es[n]? = some e ∧ e.key = emb a ∧ e.val = u := by
      have : (es.toList.map (fun e => (e.key, e.val)))[n]? = (L.map (fun x : κ × Value => (emb x.1, x.2)))[n]? := by rw [h2]
      rw [List.getElem?_map, List.getElem?_map, hg] at this
      cases he : es[n]? with
      | none => rw [Array.getElem?_toList, he] at this; simp at this
      | some e =>
        rw [Array.getElem?_toList, he] at this
        simp only [Option.map_some, Option.some.injEq, Prod.mk.injEq] at this
        exact ⟨e, rfl, this.1, this.2⟩
    obtain ⟨e, he, hek, hev⟩ := hj
    have hks : (Instr.keyThatStays (emb a) (emb a)).run P w = .ok (emb a) w := by simp [Instr.keyThatStays, Q.stays]
    refine ⟨_, by simp [Instr.mapUpdate, run_underlying hm, MapKept.run_getObj_map h1, Q.check, hf, he, hek, hks, MapKept.run_setObj_map _ h1, Result.andThen]; rfl, _, _, L.set n (a, v), (heap_set h1).1, ?_, ?_, ?_⟩
    · apply List.ext_getElem?
      intro j
      have hj : (es.toList.map (fun e => (e.key, e.val)))[j]? = (L.map (fun x : κ × Value => (emb x.1, x.2)))[j]? := by rw [h2]
      simp only [List.getElem?_map, Array.getElem?_toList] at hj
      simp only [List.getElem?_map, Array.getElem?_toList, Array.getElem?_modify, List.getElem?_set]
      by_cases hij : n = j
      · subst hij
        simp [he, hlt]
      · simp [hij, hj]
    · intro x hx
      rcases List.mem_or_eq_of_mem_set hx with hx | rfl
      · exact h3 x hx
      · exact hKa
    · intro c
      by_cases hc : c = a
      · subst hc
        rw [pput_same, pfind_set_same (by simpa using hp)]
        rfl
      · rw [pput_other M v hc, pfind_set_other hc hg, h4]
end

/-! ### Keys that are pointers -/
/-- an address into cells that are not frozen -/
def PlainAt (w : World) (a : Addr) : Prop := ∃ C T, w.heap[a.block]? = some (.cells C T (0, 0))
/-- pointers as keys -/
def embP (a : Addr) : Value := .pointer (some a)

theorem eq_ptr {P : Program} {kt te : TypeId} {j : TypeInfo} (hp : P.underlying kt = some (.pointer te)) (hte : P.info? te = some j) (hsz : j.size ≠ 0) (w : World) (x y : Addr) (hx : PlainAt w x) (hy : PlainAt w y) (d : Nat) :
    (Op.equalIn (d + 1) kt (.pointer (some x)) (.pointer (some y))).run P w = .ok (decide (x = y)) w := by
  obtain ⟨C, T, hx⟩ := hx
  obtain ⟨D, U, hy⟩ := hy
  by_cases h : x = y
  · subst h
    simp [Op.equalIn, run_underlying hp, sizeOf, typeInfo, hte, hsz, run_sameAddr_same]
  · simp [Op.equalIn, run_underlying hp, sizeOf, typeInfo, hte, hsz, run_sameAddr_other w h hx hy, h]

theorem ptr_key {P : Program} {kt te : TypeId} {j : TypeInfo} (hp : P.underlying kt = some (.pointer te)) (hte : P.info? te = some j) (hsz : j.size ≠ 0) : PKey P kt embP PlainAt where
  check w e x := by
    unfold Instr.checkKey embP
    simp [run_underlying hp, Result.andThen]
  under := ⟨_, hp, fun x y => by simp [embP, Instr.sameNow]⟩
  eq w x y hx hy := by
    unfold Op.equal Op.maxDepth embP
    exact eq_ptr hp hte hsz w x y hx hy 9999
  stays x := by simp [embP, Instr.sameBits]

/-! ### The operations, for the walk -/
section
variable {κ : Type} [DecidableEq κ] {P : Program} {emb : κ → Value} {ok : World → κ → Prop}
theorem wpList_look_p (w : World) {ops : Array Oper} {rest : List Oper} {o : Oper} {a : Act} {Q : Exit → Act → World → Prop}
    (hg : o.guard = none) (m x : Operand) (t : TypeId) (hop : o.op = Op.lookup t m x false)
    (kt et : TypeId) (hq : PKey P kt emb ok) (ht : P.underlying t = some (.map kt et)) (z : Value) (hz : (zeroValue et).run P w = .ok z w) (b : Nat) (K : κ → Prop) (M : κ → Option Value)
    (hm : a.eval m = .map (some b)) (hown : PMap emb w b K M) (hK : ∀ x, K x → ok w x) (key : κ) (hx : a.eval x = emb key) (hkey : ok w key)
    (hk : wpList P ops Q rest (a.put o.dst ((M key).getD z)) w) : wpList P ops Q (o :: rest) a w := by
  refine wpList_plain hg fun K' hK' => ?_
  have hrun := (hown.look hq ht hK hz key hkey).1
  unfold Oper.wp
  simp [execOp, hop, hm, hx, hrun, Result.andThen]
  exact hK' _ _ hk

theorem wpList_look_ok_p (w : World) {ops : Array Oper} {rest : List Oper} {o : Oper} {a : Act} {Q : Exit → Act → World → Prop}
    (hg : o.guard = none) (m x : Operand) (t : TypeId) (hop : o.op = Op.lookup t m x true)
    (kt et : TypeId) (hq : PKey P kt emb ok) (ht : P.underlying t = some (.map kt et)) (z : Value) (hz : (zeroValue et).run P w = .ok z w) (b : Nat) (K : κ → Prop) (M : κ → Option Value)
    (hm : a.eval m = .map (some b)) (hown : PMap emb w b K M) (hK : ∀ x, K x → ok w x) (key : κ) (hx : a.eval x = emb key) (hkey : ok w key)
    (hk : wpList P ops Q rest (a.put o.dst (.tuple #[(M key).getD z, .bool (M key).isSome])) w) : wpList P ops Q (o :: rest) a w := by
  refine wpList_plain hg fun K' hK' => ?_
  have hrun := (hown.look hq ht hK hz key hkey).2
  unfold Oper.wp
  simp [execOp, hop, hm, hx, hrun, Result.andThen]
  exact hK' _ _ hk

theorem wpList_store_p (w : World) {ops : Array Oper} {rest : List Oper} {o : Oper} {a : Act} {Q : Exit → Act → World → Prop}
    (hg : o.guard = none) (m x v : Operand) (t : TypeId) (hop : o.op = Op.mapUpdate t m x v)
    (kt et : TypeId) (hq : PKey P kt emb ok) (ht : P.underlying t = some (.map kt et)) (b : Nat) (K : κ → Prop) (M : κ → Option Value)
    (hm : a.eval m = .map (some b)) (hown : PMap emb w b K M) (hK : ∀ x, K x → ok w x) (key : κ) (hx : a.eval x = emb key) (hkey : ok w key) (hKk : K key) (val : Value) (hv : a.eval v = val)
    (hk : ∀ o', PMap emb { w with heap := w.heap.setIfInBounds b o' } b K (pput M key val) → wpList P ops Q rest (a.put o.dst undef) { w with heap := w.heap.setIfInBounds b o' }) : wpList P ops Q (o :: rest) a w := by
  refine wpList_plain hg fun K' hK' => ?_
  obtain ⟨o', hrun, hp⟩ := hown.store hq ht hK key hkey hKk val
  unfold Oper.wp
  simp [execOp, hop, hm, hx, hv, hrun, Result.andThen]
  exact hK' _ _ (hk o' hp)
end

/-- .. the world behind it under a name -/
theorem wpList_store_v {κ : Type} [DecidableEq κ] {P : Program} {emb : κ → Value} {ok : World → κ → Prop} (w : World) {ops : Array Oper} {rest : List Oper} {o : Oper} {a : Act} {Q : Exit → Act → World → Prop}
    (hg : o.guard = none) (m x v : Operand) (t : TypeId) (hop : o.op = Op.mapUpdate t m x v)
    (kt et : TypeId) (hq : PKey P kt emb ok) (ht : P.underlying t = some (.map kt et)) (b : Nat) (K : κ → Prop) (M : κ → Option Value)
    (hm : a.eval m = .map (some b)) (hown : PMap emb w b K M) (hK : ∀ x, K x → ok w x) (key : κ) (hx : a.eval x = emb key) (hkey : ok w key) (hKk : K key) (val : Value) (hv : a.eval v = val)
    (hk : ∀ w1, PMap emb w1 b K (pput M key val) → w.grownBy w1 (some b) → w1.heap.size = w.heap.size → wpList P ops Q rest (a.put o.dst undef) w1) : wpList P ops Q (o :: rest) a w :=
  wpList_store_p w hg m x v t hop kt et hq ht b K M hm hown hK key hx hkey hKk val hv fun o' hp => hk _ hp ⟨rfl, rfl, rfl, by simp, fun k _ hk => by simp only [ne_eq, Option.some.injEq] at hk; simp [Ne.symm hk]⟩ (by simp)

/-- a store into a map, seen from the other blocks -/
theorem set_other_block (w : World) (b : Nat) (o : Obj) {k : Nat} (h : k ≠ b) : ({ w with heap := w.heap.setIfInBounds b o } : World).heap[k]? = w.heap[k]? := by
  simp [Ne.symm h]
theorem set_size (w : World) (b : Nat) (o : Obj) : ({ w with heap := w.heap.setIfInBounds b o } : World).heap.size = w.heap.size := by simp
theorem set_below {B : Nat} (w : World) (b : Nat) (o : Obj) (hb : B ≤ b) : Below B w { w with heap := w.heap.setIfInBounds b o } :=
  ⟨rfl, rfl, rfl, by simp, fun k hk => set_other_block w b o (by omega)⟩
end Go.Proofs.Ythknbafcnobgdaa
/-
  AN ADDRESS HOLDS ONE TREE; blocks of plain cells; trees that lie in such blocks; the way down nested applications.
-/
namespace Go.Proofs.Ythknbafcnobgdaa
set_option linter.unusedVariables false
set_option linter.unusedSimpArgs false
open Go.RowKit

mutual
theorem TrOn.uniq {w : World} {S S' : Nat → Prop} : ∀ (t t' : Tr) (a b c : Value), TrOn w S t a b c → TrOn w S' t' a b c → t = t'
  | .node o n ks, .node o' n' ks', a, b, c, h, h' => by
    simp only [TrOn] at h h'
    obtain ⟨rfl, rfl, -, -, ad, cap, rfl, -, -, h⟩ := h
    obtain ⟨e1, e2, -, -, ad', cap', e3, -, -, h'⟩ := h'
    simp only [Value.int.injEq, true_and] at e1 e2
    simp only [Value.slice.injEq] at e3
    obtain ⟨rfl, hl, rfl⟩ := e3
    subst e1
    subst e2
    congr 1
    rcases h with rfl | ⟨bl, off, rfl, -, hr⟩
    · exact (List.eq_nil_of_length_eq_zero (by simpa using hl.symm)).symm
    · rcases h' with rfl | ⟨bl', off', e, -, hr'⟩
      · exact List.eq_nil_of_length_eq_zero (by simpa using hl)
      · simp only [Option.some.injEq, Addr.mk.injEq] at e
        obtain ⟨rfl, rfl, -⟩ := e
        exact RowOn.uniq bl off ks ks' hl hr hr'
theorem RowOn.uniq {w : World} {S S' : Nat → Prop} (bl off : Nat) : ∀ (ks ks' : List Tr), ks.length = ks'.length → RowOn w S bl off ks → RowOn w S' bl off ks' → ks = ks'
  | [], [], _, _, _ => rfl
  | [], _ :: _, hl, _, _ => by simp at hl
  | _ :: _, [], hl, _, _ => by simp at hl
  | t :: ts, t' :: ts', hl, h, h' => by
    simp only [RowOn] at h h'
    obtain ⟨⟨a, b, c, ha, hb, hc, ht⟩, hr⟩ := h
    obtain ⟨⟨a', b', c', ha', hb', hc', ht'⟩, hr'⟩ := h'
    rw [ha] at ha'
    rw [hb] at hb'
    rw [hc] at hc'
    cases ha'
    cases hb'
    cases hc'
    rw [TrOn.uniq t t' a b c ht ht', RowOn.uniq bl (off + 3) ts ts' (by simpa using hl) hr hr']
end

/-- plain blocks of cells -/
def Pl (w : World) : Nat → Prop := fun k => k < w.heap.size ∧ ∃ C T, w.heap[k]? = some (.cells C T (0, 0))
/-- trees that lie in plain blocks -/
abbrev InP (w : World) (ks : List Tr) (c : Value) : Prop := KidsOn w (Pl w) ks c
theorem Pl.next {w w' : World} (hb : Below w.heap.size w w') {k : Nat} (h : Pl w k) : Pl w' k :=
  ⟨Nat.lt_of_lt_of_le h.1 hb.size, by obtain ⟨C, T, e⟩ := h.2; exact ⟨C, T, (hb.block k h.1).trans e⟩⟩
theorem KidsOn.inP {w : World} {ks : List Tr} {c : Value} (h : InP w ks c) : In w ks c := KidsOn.mono h (fun k hk => hk.1) (fun _ _ => rfl)
theorem KidsOn.nextP {w w' : World} {ks : List Tr} {c : Value} (h : InP w ks c) (hb : Below w.heap.size w w') : InP w' ks c := KidsOn.mono h (fun k hk => hk.next hb) (fun k hk => hb.block k hk.1)
theorem TrOn.nextP {w w' : World} {t : Tr} {a b c : Value} (h : TrOn w (Pl w) t a b c) (hb : Below w.heap.size w w') : TrOn w' (Pl w') t a b c := TrOn.mono (fun k hk => hk.next hb) (fun k hk => hb.block k hk.1) _ _ _ _ h

/-- a tree that lies at an address -/
def LiesAt (w : World) (S : Nat → Prop) (a : Addr) (t : Tr) : Prop :=
  ∃ bl off x y z, a = ⟨bl, off, none⟩ ∧ S bl ∧ w.cell? ⟨bl, off, none⟩ = some x ∧ w.cell? ⟨bl, off + 1, none⟩ = some y ∧ w.cell? ⟨bl, off + 2, none⟩ = some z ∧ TrOn w S t x y z
theorem LiesAt.uniq {w : World} {S S' : Nat → Prop} {a : Addr} {t t' : Tr} (h : LiesAt w S a t) (h' : LiesAt w S' a t') : t = t' := by
  obtain ⟨bl, off, x, y, z, rfl, -, hx, hy, hz, ht⟩ := h
  obtain ⟨bl', off', x', y', z', e, -, hx', hy', hz', ht'⟩ := h'
  simp only [Addr.mk.injEq] at e
  obtain ⟨rfl, rfl, -⟩ := e
  rw [hx] at hx'
  rw [hy] at hy'
  rw [hz] at hz'
  cases hx'
  cases hy'
  cases hz'
  exact TrOn.uniq t t' x y z ht ht'
theorem LiesAt.plain {w w' : World} {a : Addr} {t : Tr} (h : LiesAt w (Pl w) a t) (hb : Below w.heap.size w w') : PlainAt w' a := by
  obtain ⟨bl, off, x, y, z, rfl, hp, -⟩ := h
  exact (hp.next hb).2
/-- element i of a row, as a node -/
theorem RowOn.liesAt {w : World} {S : Nat → Prop} {bl off i : Nat} {ks : List Tr} (hi : i < ks.length) (hS : S bl) (h : RowOn w S bl off ks) : LiesAt w S ⟨bl, off + i * 3, none⟩ ks[i] := by
  obtain ⟨a, b, c, ha, hb, hc, ht⟩ := RowOn.at ks off i hi h
  exact ⟨bl, off + i * 3, a, b, c, rfl, hS, ha, hb, hc, ht⟩

/-- the function of nested applications, and its arguments -/
def unwT : Tr → List Tr → Tr × List Tr
  | .node o n [f, x], acc => if o = 4 then unwT f (x :: acc) else (.node o n [f, x], acc)
  | t, acc => (t, acc)
termination_by t => SizeOf.sizeOf t
decreasing_by simp_wf; omega

theorem unwT_app {t f x : Tr} (ho : t.op = 4) (hk : t.kids = [f, x]) (acc : List Tr) : unwT t acc = unwT f (x :: acc) := by
  cases t with
  | node o n ks =>
    simp only [Tr.op_node, Tr.kids_node] at ho hk
    subst ho
    subst hk
    rw [unwT, if_pos rfl]
theorem unwT_stop {t : Tr} (h : ¬ (t.op = 4 ∧ t.kids.length = 2)) (acc : List Tr) : unwT t acc = (t, acc) := by
  cases t with
  | node o n ks =>
    simp only [Tr.op_node, Tr.kids_node] at h
    match ks, h with
    | [], _ => rw [unwT]; intro o' n' f' x' h'; cases h'
    | [a], _ => rw [unwT]; intro o' n' f' x' h'; cases h'
    | [a, b], h =>
      rw [unwT, if_neg]
      intro e
      exact h ⟨e, by simp⟩
    | a :: b :: c :: l, _ => rw [unwT]; intro o' n' f' x' h'; cases h'

/-- an argument with its three cells -/
abbrev Cd := Tr × Value × Value × Value
/-- the way down nested applications, from a tree and its operands' slice: where it stands, and the arguments met, in order -/
inductive Unw (w : World) (a : Tr) (c : Value) : Tr → Value → List Cd → Prop
  | here : Unw w a c a c []
  | down {t f x : Tr} {ct cf u v r : Value} {l : List Cd} {bl off cap : Nat} : Unw w a c t ct l → t.op = 4 → t.kids = [f, x] → ct = .slice (some ⟨bl, off, none⟩) 2 cap →
      w.cell? ⟨bl, off + 2, none⟩ = some cf → w.cell? ⟨bl, off + 3, none⟩ = some u → w.cell? ⟨bl, off + 4, none⟩ = some v → w.cell? ⟨bl, off + 5, none⟩ = some r → Unw w a c f cf (l ++ [(x, u, v, r)])

theorem Unw.unw {w : World} {a t : Tr} {c ct : Value} {l : List Cd} (h : Unw w a c t ct l) : unwT a [] = unwT t (l.map (·.1)).reverse := by
  induction h with
  | here => rfl
  | down h ho hk _ _ _ _ _ ih => rw [ih, unwT_app ho hk]; simp

/-- two operands, in their cells -/
theorem KidsOn.two {w : World} {S : Nat → Prop} {f x : Tr} {c : Value} (h : KidsOn w S [f, x] c) : ∃ bl off cap a b cf u v r, c = .slice (some ⟨bl, off, none⟩) 2 cap ∧ 2 ≤ cap ∧ cap ≤ maxLen ∧ S bl ∧ RowOn w S bl off [f, x] ∧
    w.cell? ⟨bl, off, none⟩ = some a ∧ w.cell? ⟨bl, off + 1, none⟩ = some b ∧ w.cell? ⟨bl, off + 2, none⟩ = some cf ∧ TrOn w S f a b cf ∧
    w.cell? ⟨bl, off + 3, none⟩ = some u ∧ w.cell? ⟨bl, off + 4, none⟩ = some v ∧ w.cell? ⟨bl, off + 5, none⟩ = some r ∧ TrOn w S x u v r := by
  obtain ⟨ad, cap, rfl, l1, l2, h⟩ := h
  rcases h with h | ⟨bl, off, rfl, hs, hr⟩
  · simp at h
  obtain ⟨a, b, cf, h0, h1, h2, h3⟩ := RowOn.at _ off 0 (by simp) hr
  obtain ⟨u, v, r, g0, g1, g2, g3⟩ := RowOn.at _ off 1 (by simp) hr
  simp only [Nat.zero_mul, Nat.add_zero, Nat.one_mul, List.getElem_cons_zero, List.getElem_cons_succ, Nat.add_assoc] at h0 h1 h2 h3 g0 g1 g2 g3
  exact ⟨bl, off, cap, a, b, cf, u, v, r, rfl, l1, l2, hs, hr, h0, h1, h2, h3, g0, g1, g2, g3⟩

theorem Unw.on {w : World} {S : Nat → Prop} {a t : Tr} {c ct : Value} {l : List Cd} (h : Unw w a c t ct l) (hc : KidsOn w S a.kids c) (ha : I64 a.op ∧ I64 a.num) :
    KidsOn w S t.kids ct ∧ I64 t.op ∧ I64 t.num ∧ (∀ d ∈ l, TrOn w S d.1 d.2.1 d.2.2.1 d.2.2.2) ∧ szT t + l.length ≤ szT a := by
  induction h with
  | here => exact ⟨hc, ha.1, ha.2, by simp, by simp⟩
  | @down t f x ct cf u v r l bl off cap h ho hk hct hcf hu hv hr ih =>
    obtain ⟨i1, i2, i3, i4, i5⟩ := ih
    rw [hk] at i1
    obtain ⟨bl', off', cap', p, q, cf', u', v', r', e, -, -, -, -, h0, h1, h2, h3, g0, g1, g2, g3⟩ := i1.two
    rw [hct] at e
    simp only [Value.slice.injEq, Option.some.injEq, Addr.mk.injEq] at e
    obtain ⟨⟨rfl, rfl, -⟩, -, rfl⟩ := e
    rw [hcf] at h2
    rw [hu] at g0
    rw [hv] at g1
    rw [hr] at g2
    cases h2
    cases g0
    cases g1
    cases g2
    have h4 := trOn_iff.1 h3
    refine ⟨h4.2.2.2.2, h4.2.2.1, h4.2.2.2.1, fun d hd => ?_, ?_⟩
    · simp only [List.mem_append, List.mem_singleton] at hd
      rcases hd with hd | rfl
      · exact i4 d hd
      · exact g3
    · have e1 : szT t = szL [f, x] := by rw [szT_eq, hk]
      simp only [szL, List.length_append, List.length_cons, List.length_nil] at e1 ⊢
      omega
end Go.Proofs.Ythknbafcnobgdaa
/-
  TREES WHOSE BLOCKS ARE DISTINCT LIE IN PLAIN BLOCKS.
-/
namespace Go.Proofs.Ythknbafcnobgdaa
set_option linter.unusedVariables false
set_option linter.unusedSimpArgs false
open Go.RowKit

mutual
theorem TrFp.plain {w : World} {T : TypeId} : ∀ (t : Tr) (fp : List Nat) (a b c : Value), TrFp w T t fp a b c → ∀ k ∈ fp, Pl w k
  | .node op n ks, fp, a, b, c, h => by
    simp only [TrFp] at h
    obtain ⟨-, -, -, -, ad, cap, -, -, -, h5⟩ := h
    rcases h5 with ⟨-, rfl⟩ | ⟨bl, off, C, fps, -, hb, rfl, r⟩
    · simp
    · intro k hk
      rw [List.mem_cons] at hk
      rcases hk with rfl | hk
      · exact ⟨cellsOf_lt hb, C, T, hb⟩
      · obtain ⟨f, hf, hkf⟩ := List.mem_flatten.1 hk
        exact RowFp.plain bl off ks fps r f hf k hkf
theorem RowFp.plain {w : World} {T : TypeId} (bl off : Nat) : ∀ (ks : List Tr) (fps : List (List Nat)), RowFp w T bl off ks fps → ∀ f ∈ fps, ∀ k ∈ f, Pl w k
  | [], fps, h => by
    simp only [RowFp] at h
    subst h
    simp
  | t :: ts, fps, h => by
    simp only [RowFp] at h
    obtain ⟨f, fs, rfl, ⟨a, b, c, -, -, -, ht⟩, hr⟩ := h
    intro g hg k hk
    rw [List.mem_cons] at hg
    rcases hg with rfl | hg
    · exact TrFp.plain t _ a b c ht k hk
    · exact RowFp.plain bl (off + 3) ts fs hr g hg k hk
end
theorem KidsFp.plain {w : World} {T : TypeId} {ks : List Tr} {fp : List Nat} {c : Value} (h : KidsFp w T ks fp c) : ∀ k ∈ fp, Pl w k :=
  TrFp.plain (.node 0 0 ks) fp _ _ c (trFp_iff.2 ⟨rfl, rfl, by simp [I64], by simp [I64], h⟩)
theorem Fresh.inP {w : World} {lo : Nat} {ks : List Tr} {c : Value} (h : Fresh w lo ks c) : InP w ks c := by
  obtain ⟨fp, h1, -, -⟩ := h
  exact h1.on h1.plain
end Go.Proofs.Ythknbafcnobgdaa
/-
  ROWS THAT A CALL OWNS: append, with where the new row lies.
-/
namespace Go.Proofs.Ythknbafcnobgdaa
set_option linter.unusedVariables false
set_option linter.unusedSimpArgs false
open Go.RowKit

theorem cell_of_blk {w : World} {b : Nat} {C : Array Value} {T : TypeId} (h : w.heap[b]? = some (.cells C T)) (i : Nat) (v : Value) (hv : C[i]? = some v) : w.cell? ⟨b, i, none⟩ = some v := by
  simp only [World.cell?, h]; exact hv
theorem frz_of_blk {w : World} {b : Nat} {C : Array Value} {T : TypeId} (h : w.heap[b]? = some (.cells C T)) (i : Nat) : w.frozen? ⟨b, i, none⟩ = false := by
  simp [World.frozen?, h]
theorem own_keep {w w' : World} {base n size : Nat} {e : TypeId} {v : Value} {xs : List Value} (h : w.ownsRow base e size v n xs) (hk : ∀ k, base ≤ k → k < w.heap.size → w'.heap[k]? = w.heap[k]?) : w'.ownsRow base e size v n xs := by
  refine ⟨h.1, ?_⟩
  rcases h.2 with h | ⟨g, cap, cur, rfl, hg, hh, r⟩
  · exact Or.inl h
  · exact Or.inr ⟨g, cap, cur, rfl, hg, (hk g hg (Array.getElem?_eq_some_iff.1 hh).1).trans hh, r⟩
theorem own_block {w : World} {base n size : Nat} {e : TypeId} {v : Value} {xs : List Value} (h : w.ownsRow base e size v n xs) {k : Nat} (hk : some k = v.ownBlock) : base ≤ k := by
  rcases h.2 with ⟨rfl, -⟩ | ⟨g, cap, cur, rfl, hg, -⟩
  · simp [Value.ownBlock] at hk
  · simp only [Value.ownBlock, Option.some.injEq] at hk
    omega
/-- a parameter's box behind a call -/
theorem box_after {w w1 : World} {a b c : Value} {T : TypeId} (hb : Below (w.alloc (.cells #[a, b, c] T)).heap.size (w.alloc (.cells #[a, b, c] T)) w1) :
    w1.cell? ⟨w.heap.size, 0, none⟩ = some a ∧ w1.cell? ⟨w.heap.size, 1, none⟩ = some b ∧ w1.cell? ⟨w.heap.size, 2, none⟩ = some c ∧ w.heap.size < w1.heap.size ∧ Below w.heap.size w w1 := by
  have hz : w.heap.size < (w.alloc (.cells #[a, b, c] T)).heap.size := by rw [Deep.nblk_alloc]; omega
  refine ⟨(hb.cell (p := ⟨w.heap.size, 0, none⟩) hz).trans (box_cell w #[a, b, c] T 0 _ rfl), (hb.cell (p := ⟨w.heap.size, 1, none⟩) hz).trans (box_cell w #[a, b, c] T 1 _ rfl), (hb.cell (p := ⟨w.heap.size, 2, none⟩) hz).trans (box_cell w #[a, b, c] T 2 _ rfl), Nat.lt_of_lt_of_le hz hb.size, (box_below _ _).trans (hb.mono (Nat.le_of_lt hz))⟩
/-- append to an owned row: it stays in its block, or lies in a new one -/
theorem run_append_where {P : Program} (w : World) (base : Nat) (t ty e : TypeId) (i : TypeInfo) (z : Value) (size bytes : Nat) (ht : P.underlying t = some (.slice e)) (hi : P.info? e = some i) (hz : i.zero = some z)
    (hsize : i.size = size) (hby : i.bytes = bytes) (hzs : z.cells.size = size) (hsz : 0 < size)
    (v : Value) (n : Nat) (xs : List Value) (hown : w.ownsRow base e size v n xs)
    (a : Addr) (m c : Nat) (news : List Value) (hl : news.length = m * size) (hnews : ∀ j u, news[j]? = some u → w.cell? (a.add j) = some u) (h1 : ∀ u ∈ news, u.oneCell' = true)
    (h63 : n + m ≤ maxLen) (hbytes : (n + m) * bytes ≤ 140737488355328) (hbase : base ≤ w.heap.size) (hm : 0 < m) :
    ∃ v' w', (Builtin.append_ #[t, t] ty #[v, .slice (some a) m c]).run P w = .ok v' w' ∧ w'.ownsRow base e size v' (n + m) (xs ++ news) ∧ w.grownBy w' v.ownBlock ∧
      (v'.ownBlock = v.ownBlock ∨ ∃ g, v'.ownBlock = some g ∧ w.heap.size ≤ g) := by
  obtain ⟨v', w', hrun, hown', hgr, -⟩ := run_append_own (P := P) w base t ty e i z size bytes ht hi hz hsize hby hzs hsz v n xs hown a m c news hl hnews h1 h63 hbytes hbase
  refine ⟨v', w', hrun, hown', hgr, ?_⟩
  have hform := hown
  rcases hform.2 with ⟨rfl, rfl⟩ | ⟨g, cap, cur, rfl, hb, hh, hn, hc, hs, htk⟩
  · right
    obtain rfl : xs = [] := List.eq_nil_of_length_eq_zero (by simpa using hform.1)
    obtain ⟨v2, w2, hrun2, hown2, -, -⟩ := run_append_own (P := P) w w.heap.size t ty e i z size bytes ht hi hz hsize hby hzs hsz (.slice none 0 0) 0 [] (World.ownsRow_nil w _ e size) a m c news hl hnews h1 h63 hbytes (Nat.le_refl _)
    rw [hrun] at hrun2
    cases hrun2
    rcases hown2.2 with ⟨rfl, h0⟩ | ⟨g, cap, cur, rfl, hb, _⟩
    · omega
    · exact ⟨g, rfl, hb⟩
  · by_cases hroom : n + m ≤ cap
    · left
      have hcell : ∀ j, j < news.length → w.cell? ⟨g, 0 + n * i.size + j, none⟩ = cur[n * size + j]? := fun j hj => by
        rw [Nat.zero_add, hsize]; simp [World.cell?, hh]
      have hin : ∀ j, j < news.length → n * size + j < cur.size := fun j hj => by
        have h2 : (n + m) * size ≤ cap * size := Nat.mul_le_mul_right _ hroom
        rw [Nat.add_mul] at h2
        omega
      have hrun2 := run_append_room_cells (P := P) w t ty e i ht hi g 0 n cap a m c news (by rw [hsize]; exact hl) hnews h1 hroom
        (fun j hj => by rw [hcell j hj, Array.getElem?_eq_getElem (hin j hj)]; rfl) (fun j hj => by simp [World.frozen?, hh])
      rw [hrun] at hrun2
      cases hrun2
      rfl
    · right
      obtain ⟨v2, w2, hrun2, hown2, -⟩ := run_append_arg_grows (P := P) w t ty e i z size bytes ht hi hz hsize hby hzs hsz ⟨g, 0, none⟩ n cap xs hform.1
        (fun j u hu => hform.cells rfl j u hu) a m c news hl hnews (by omega) h63 hbytes
      rw [hrun] at hrun2
      cases hrun2
      rcases hown2.2 with ⟨rfl, h0⟩ | ⟨g2, cap2, cur2, rfl, hb2, _⟩
      · omega
      · exact ⟨g2, rfl, hb2⟩

/-- .. as one step of a region that draws its order -/
theorem step_append_where {P : Program} {ops : Array Oper} {o : Oper} {a : Act} {w : World} {K : Act → World → Prop} {Q : Exit → Act → World → Prop} {E : Prop}
    (hg : o.guard = none) (s x : Operand) (t : TypeId) (hop : o.op = Op.call { callee := Callee.builtin Builtin.append, args := #[s, x], argTypes := #[t, t] })
    (base : Nat) (e : TypeId) (i : TypeInfo) (z : Value) (size bytes : Nat) (ht : P.underlying t = some (.slice e)) (hi : P.info? e = some i) (hz : i.zero = some z)
    (hsize : i.size = size) (hby : i.bytes = bytes) (hzs : z.cells.size = size) (hsz : 0 < size)
    (v : Value) (n : Nat) (xs : List Value) (hs : a.eval s = v) (hown : w.ownsRow base e size v n xs)
    (ad : Addr) (m c : Nat) (news : List Value) (hx : a.eval x = .slice (some ad) m c) (hl : news.length = m * size) (hnews : ∀ j u, news[j]? = some u → w.cell? (ad.add j) = some u) (h1 : ∀ u ∈ news, u.oneCell' = true)
    (h63 : n + m ≤ maxLen) (hbytes : (n + m) * bytes ≤ 140737488355328) (hbase : base ≤ w.heap.size) (hm : 0 < m)
    (hK : ∀ v' w', w'.ownsRow base e size v' (n + m) (xs ++ news) → w.grownBy w' v.ownBlock → (v'.ownBlock = v.ownBlock ∨ ∃ g, v'.ownBlock = some g ∧ w.heap.size ≤ g) → K (a.put o.dst v') w') :
    if Region.wanted o (yielded ops a.tmps) = true then Oper.wp P o a w K Q else E := by
  have hw : Region.wanted o (yielded ops a.tmps) = true := by simp [Region.wanted, hg]
  rw [if_pos hw]
  obtain ⟨v', w', hrun, r1, r2, r3⟩ := run_append_where (P := P) w base t o.type e i z size bytes ht hi hz hsize hby hzs hsz v n xs hown ad m c news hl hnews h1 h63 hbytes hbase hm
  unfold Oper.wp
  simp [execOp, hop, resolve, invoke, builtin, hs, hx, hrun, Result.andThen]
  exact hK v' w' r1 r2 r3

end Go.Proofs.Ythknbafcnobgdaa
/-
  append AS A STEP OF THE WALK, WITH WHERE THE NEW ROW LIES.
-/
namespace Go.Proofs.Ythknbafcnobgdaa
set_option linter.unusedVariables false
set_option linter.unusedSimpArgs false
open Go.RowKit

theorem wpList_append_where {P : Program} (w : World) {ops : Array Oper} {rest : List Oper} {o : Oper} {a : Act} {Q : Exit → Act → World → Prop}
    (hg : o.guard = none) (s x : Operand) (t : TypeId) (hop : o.op = Op.call { callee := Callee.builtin Builtin.append, args := #[s, x], argTypes := #[t, t] })
    (base : Nat) (e : TypeId) (i : TypeInfo) (z : Value) (size bytes : Nat) (ht : P.underlying t = some (.slice e)) (hi : P.info? e = some i) (hz : i.zero = some z)
    (hsize : i.size = size) (hby : i.bytes = bytes) (hzs : z.cells.size = size) (hsz : 0 < size)
    (v : Value) (n : Nat) (xs : List Value) (hs : a.eval s = v) (hown : w.ownsRow base e size v n xs)
    (ad : Addr) (m c : Nat) (news : List Value) (hx : a.eval x = .slice (some ad) m c) (hl : news.length = m * size) (hnews : ∀ j u, news[j]? = some u → w.cell? (ad.add j) = some u) (h1 : ∀ u ∈ news, u.oneCell' = true)
    (h63 : n + m ≤ maxLen) (hbytes : (n + m) * bytes ≤ 140737488355328) (hbase : base ≤ w.heap.size) (hm : 0 < m)
    (hK : ∀ v' w', w'.ownsRow base e size v' (n + m) (xs ++ news) → w.grownBy w' v.ownBlock → (v'.ownBlock = v.ownBlock ∨ ∃ g, v'.ownBlock = some g ∧ w.heap.size ≤ g) → wpList P ops Q rest (a.put o.dst v') w') :
    wpList P ops Q (o :: rest) a w := by
  refine wpList_plain hg fun K' hK' => ?_
  obtain ⟨v', w', hrun, r1, r2, r3⟩ := run_append_where (P := P) w base t o.type e i z size bytes ht hi hz hsize hby hzs hsz v n xs hown ad m c news hl hnews h1 h63 hbytes hbase hm
  unfold Oper.wp
  simp [execOp, hop, resolve, invoke, builtin, hs, hx, hrun, Result.andThen]
  exact hK' _ _ (hK v' w' r1 r2 r3)

/-- an owned row that is not empty lies somewhere -/
theorem own_form {w : World} {base n size : Nat} {e : TypeId} {v : Value} {xs : List Value} (h : w.ownsRow base e size v n xs) (hn : 0 < n) : ∃ g cap, v = .slice (some ⟨g, 0, none⟩) n cap ∧ base ≤ g ∧ g < w.heap.size ∧ n ≤ cap ∧ cap ≤ maxLen := by
  rcases h.2 with ⟨-, h0⟩ | ⟨g, cap, cur, rfl, hg, hh, hn', hc, -⟩
  · omega
  · exact ⟨g, cap, rfl, hg, (Array.getElem?_eq_some_iff.1 hh).1, hn', hc⟩
/-- a block of two cells -/
theorem box2_cell (w : World) (C : Array Value) (t : TypeId) (i : Nat) (v : Value) (h : C[i]? = some v) : (w.alloc (.cells C t)).cell? ((⟨w.heap.size, 0, none⟩ : Addr).add i) = some v := by
  rw [WideShapes.add_plain, Nat.zero_add]
  exact box_cell w C t i v h
end Go.Proofs.Ythknbafcnobgdaa
/-
  SMALL FACTS ON ROWS OF EXPRESSIONS' CELLS: the element type's row of the table; a new block's cells.
-/
namespace Go.Proofs.Ythknbafcnobgdaa
set_option linter.unusedVariables false
set_option linter.unusedSimpArgs false
open Go.RowKit

theorem news3 (w : World) (a b c : Value) (j : Nat) (u : Value) (h : [a, b, c][j]? = some u) : (w.alloc (.cells #[a, b, c] 37)).cell? ((⟨w.heap.size, 0, none⟩ : Addr).add j) = some u := by
  rw [WideShapes.add_plain, Nat.zero_add]
  exact box_cell w #[a, b, c] _ j u (by simpa using h)
theorem infoE3 : ∃ i z, Try.prog.info? 37 = some i ∧ i.zero = some z ∧ i.size = 3 ∧ i.bytes = 40 ∧ z.cells.size = 3 := by
  obtain ⟨i, hi, hzz⟩ := Option.map_eq_some_iff.1 infoE
  simp only [Prod.mk.injEq] at hzz
  obtain ⟨hz, hs, hb⟩ := hzz
  exact ⟨i, _, hi, hz, hs, hb, rfl⟩
end Go.Proofs.Ythknbafcnobgdaa
/-
  LISTS OF TREES THAT A CALL BUILDS BY append: the row that it owns, and the trees elsewhere; append as one step of a region that draws its order, with where the new row lies.
-/
namespace Go.Proofs.Ythknbafcnobgdaa
set_option linter.unusedVariables false
set_option linter.unusedSimpArgs false
open Go.RowKit

/-- a list of trees that a call has built by append: the row is its own, the trees lie elsewhere, all from lo on -/
def OwnTr (w : World) (lo : Nat) (ts : List Tr) (v : Value) : Prop :=
  ∃ xs, w.ownsRow lo 37 3 v ts.length xs ∧ ∀ j (hj : j < ts.length), ∃ a b c, xs[j * 3]? = some a ∧ xs[j * 3 + 1]? = some b ∧ xs[j * 3 + 2]? = some c ∧ TrOn w (fun k => lo ≤ k ∧ k < w.heap.size ∧ some k ≠ v.ownBlock) ts[j] a b c

theorem OwnTr.nil (w : World) (lo : Nat) : OwnTr w lo [] (.slice none 0 0) := ⟨[], World.ownsRow_nil w lo _ _, fun j hj => absurd hj (by simp)⟩

/-- it stays where all blocks from lo on stay -/
theorem OwnTr.next {w w' : World} {lo : Nat} {ts : List Tr} {v : Value} (h : OwnTr w lo ts v) (hsz : w.heap.size ≤ w'.heap.size) (hb : ∀ k, lo ≤ k → k < w.heap.size → w'.heap[k]? = w.heap[k]?) : OwnTr w' lo ts v := by
  obtain ⟨xs, h1, h2⟩ := h
  refine ⟨xs, ⟨h1.1, ?_⟩, fun j hj => ?_⟩
  · rcases h1.2 with h | ⟨g, cap, cur, rfl, hg, hh, r⟩
    · exact Or.inl h
    · exact Or.inr ⟨g, cap, cur, rfl, hg, (hb g hg (Array.getElem?_eq_some_iff.1 hh).1).trans hh, r⟩
  · obtain ⟨a, b, c, e1, e2, e3, e4⟩ := h2 j hj
    exact ⟨a, b, c, e1, e2, e3, e4.mono (fun k hk => ⟨hk.1, Nat.lt_of_lt_of_le hk.2.1 hsz, hk.2.2⟩) (fun k hk => hb k hk.1 hk.2.1)⟩

/-- one tree more -/
theorem OwnTr.step {w w' : World} {lo : Nat} {ts : List Tr} {v v' : Value} {t : Tr} {a b c : Value} (h : OwnTr w lo ts v) (xs : List Value) (hx : w.ownsRow lo 37 3 v ts.length xs) (hlo : lo ≤ w.heap.size)
    (ht : ∀ j (hj : j < ts.length), ∃ a b c, xs[j * 3]? = some a ∧ xs[j * 3 + 1]? = some b ∧ xs[j * 3 + 2]? = some c ∧ TrOn w (fun k => lo ≤ k ∧ k < w.heap.size ∧ some k ≠ v.ownBlock) ts[j] a b c)
    (hn : TrOn w (fun k => lo ≤ k ∧ k < w.heap.size ∧ some k ≠ v.ownBlock) t a b c)
    (hown : w'.ownsRow lo 37 3 v' (ts.length + 1) (xs ++ [a, b, c])) (hg : w.grownBy w' v.ownBlock) (hw : v'.ownBlock = v.ownBlock ∨ ∃ g, v'.ownBlock = some g ∧ w.heap.size ≤ g) : OwnTr w' lo (ts ++ [t]) v' := by
  have hlen := hx.1
  have keep : ∀ (s : Tr) (x y z : Value), TrOn w (fun k => lo ≤ k ∧ k < w.heap.size ∧ some k ≠ v.ownBlock) s x y z → TrOn w' (fun k => lo ≤ k ∧ k < w'.heap.size ∧ some k ≠ v'.ownBlock) s x y z := by
    intro s x y z hs
    refine hs.mono (fun k hk => ⟨hk.1, Nat.lt_of_lt_of_le hk.2.1 hg.size, ?_⟩) (fun k hk => hg.block k hk.2.1 hk.2.2)
    rcases hw with hw | ⟨g, hw, hge⟩
    · rw [hw]; exact hk.2.2
    · rw [hw]; intro e; simp only [Option.some.injEq] at e; have := hk.2.1; omega
  refine ⟨xs ++ [a, b, c], by simpa using hown, fun j hj => ?_⟩
  by_cases hjl : j < ts.length
  · obtain ⟨x, y, z, e1, e2, e3, e4⟩ := ht j hjl
    have l1 : j * 3 + 2 < xs.length := by omega
    refine ⟨x, y, z, ?_, ?_, ?_, ?_⟩
    · rw [List.getElem?_append_left (by omega)]; exact e1
    · rw [List.getElem?_append_left (by omega)]; exact e2
    · rw [List.getElem?_append_left (by omega)]; exact e3
    · rw [List.getElem_append_left hjl]; exact keep _ _ _ _ e4
  · have hj' : j = ts.length := by simp at hj; omega
    subst hj'
    refine ⟨a, b, c, ?_, ?_, ?_, ?_⟩
    · rw [List.getElem?_append_right (by omega)]; simp [hlen]
    · rw [List.getElem?_append_right (by omega)]; simp [hlen]
    · rw [List.getElem?_append_right (by omega)]; simp [hlen]
    · simpa using keep _ _ _ _ hn

/-- the list, as trees in memory -/
theorem OwnTr.kids {w : World} {lo : Nat} {ts : List Tr} {v : Value} (h : OwnTr w lo ts v) : KidsOn w (Btw lo w.heap.size) ts v := by
  obtain ⟨xs, h1, h2⟩ := h
  rcases h1.2 with ⟨rfl, h0⟩ | ⟨g, cap, cur, rfl, hg, hh, hn, hc, hs, htk⟩
  · obtain rfl : ts = [] := List.eq_nil_of_length_eq_zero h0
    exact ⟨none, 0, rfl, Nat.le_refl _, by simp [maxLen], Or.inl rfl⟩
  · refine ⟨_, cap, rfl, hn, hc, Or.inr ⟨g, 0, rfl, ⟨hg, (Array.getElem?_eq_some_iff.1 hh).1⟩, RowOn.of _ _ fun i hi => ?_⟩⟩
    obtain ⟨a, b, c, e1, e2, e3, e4⟩ := h2 i hi
    refine ⟨a, b, c, ?_, ?_, ?_, e4.mono (fun k hk => ⟨hk.1, hk.2.1⟩) (fun _ _ => rfl)⟩
    · rw [Nat.zero_add, h1.cellAt (i * 3) (by omega)]; exact e1
    · rw [Nat.zero_add, h1.cellAt (i * 3 + 1) (by omega)]; exact e2
    · rw [Nat.zero_add, h1.cellAt (i * 3 + 2) (by omega)]; exact e3
end Go.Proofs.Ythknbafcnobgdaa
