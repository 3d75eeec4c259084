/-
  THE LAWS' COPY OF A PROGRAM LIES IN PLAIN BLOCKS.
-/
import Derived.Test.YtocnkjicmchbdaaDefs
import Derived.Test.YtocnkjicmchbdaaFresh
namespace Go.Proofs.Ytocnkjicmchbdaa
set_option linter.unusedVariables false
set_option linter.unusedSimpArgs false
open Go.RowKit

/-- plain blocks from lo on -/
def BtP (lo : Nat) (w : World) : Nat → Prop := fun k => lo ≤ k ∧ Pl w k
theorem Pl.set {w : World} {k : Nat} {a : Addr} (h : Pl w k) (hk : k ≠ a.block) (u : Value) : Pl (w.setCell a u) k :=
  ⟨by rw [size_setCell]; exact h.1, by obtain ⟨C, T, e⟩ := h.2; exact ⟨C, T, (Below.heap_setCell _ _ _ _ hk).trans e⟩⟩
theorem KidsOn.setP {w : World} {lo : Nat} {ks : List Tr} {c : Value} (h : KidsOn w (BtP lo w) ks c) {a : Addr} (ha : a.block < lo) (u : Value) : KidsOn (w.setCell a u) (BtP lo (w.setCell a u)) ks c :=
  h.mono (fun k hk => ⟨hk.1, hk.2.set (by have := hk.1; omega) u⟩) (fun k hk => Below.heap_setCell _ _ _ _ (by have := hk.1; omega))
theorem TrOn.setP {w : World} {lo : Nat} {t : Tr} {x y z : Value} (h : TrOn w (BtP lo w) t x y z) {a : Addr} (ha : a.block < lo) (u : Value) : TrOn (w.setCell a u) (BtP lo (w.setCell a u)) t x y z :=
  h.mono (fun k hk => ⟨hk.1, hk.2.set (by have := hk.1; omega) u⟩) (fun k hk => Below.heap_setCell _ _ _ _ (by have := hk.1; omega))
theorem Fresh.btP {w : World} {lo : Nat} {ks : List Tr} {c : Value} (h : Fresh w lo ks c) : KidsOn w (BtP lo w) ks c := by
  obtain ⟨fp, h1, h2, h3⟩ := h
  exact h1.on fun k hk => ⟨h3 k hk, h1.plain k hk⟩
theorem row_plain {w : World} {b n : Nat} {T : TypeId} {f : Nat → Value} (h : w.rowIs b T n f) : ∃ C T', w.heap[b]? = some (.cells C T' (0, 0)) := by
  obtain ⟨C, h1, -⟩ := h
  exact ⟨C, T, h1⟩
/-- programs that lie in plain blocks -/
abbrev DInP (w : World) (ds : List Df) (v : Value) : Prop := DefsOn w (Pl w) ds v
theorem DefsOn.nextP {w w' : World} {ds : List Df} {v : Value} (h : DInP w ds v) (hb : Below w.heap.size w w') : DInP w' ds v := h.mono (fun k hk => hk.next hb) (fun k hk => hb.block k hk.1)
theorem DefsOn.inP {w : World} {ds : List Df} {v : Value} (h : DInP w ds v) : DIn w ds v := h.mono (fun k hk => hk.1) (fun _ _ => rfl)
theorem DefsOn.plain {w : World} {lo : Nat} {ds : List Df} {v : Value} (h : DefsOn w (BtP lo w) ds v) : DInP w ds v := h.mono (fun k hk => hk.2) (fun _ _ => rfl)
/-- the body of function i, in plain blocks -/
theorem DefsOn.atP {w : World} {ds : List Df} {ad : Option Addr} {n cap : Nat} (h : DInP w ds (.slice ad n cap)) (i : Nat) (hi : i < ds.length) :
    ∃ bl off c, ad = some ⟨bl, off, none⟩ ∧ w.cell? ⟨bl, off + i * 4 + 3, none⟩ = some c ∧ InP w ds[i].2.kids c := by
  obtain ⟨ad', cap', he, -, -, hr⟩ := h
  cases he
  rcases hr with rfl | ⟨bl, off, rfl, -, r⟩
  · simp at hi
  obtain ⟨a, b, c, e, h1, h2, h3, h4, rfl, g2, g3⟩ := r i hi
  obtain ⟨rfl, rfl, g5, g6, g7⟩ := trOn_iff.1 g3
  exact ⟨bl, off, e, rfl, h4, g7⟩

/-! ### The copy -/
def NewDfP (a o n : Int) (ks : List Tr) (w : World) (e : Ending) (w' : World) : Prop := ∃ v, e = .returned (.agg #[.int .i64 a, .int .i64 o, .int .i64 n, v]) ∧ KidsOn w' (BtP w.heap.size w') ks v ∧ Below w.heap.size w w'
def NewDefsP (ds : List Df) (w : World) (e : Ending) (w' : World) : Prop := ∃ v, e = .returned v ∧ DefsOn w' (BtP w.heap.size w') ds v ∧ Below w.heap.size w w'

set_option maxHeartbeats 400000 in
theorem toDef_callsP (a o n : Int) (ks : List Tr) (c : Value) (w : World) (hk : In w ks c) (hsz : szL ks ≤ 1048576) : Calls Try.prog 62 #[.agg #[.int .i64 a, .int .i64 o, .int .i64 n, c]] w (NewDfP a o n ks w) := by
  have HK : Hid (In w ks c) := hk
  clear hk
  go_enter Try.func62, Try.ntmps62
  go_wp2_with fail
  refine (fto_calls ks _ _ c _ ?_ hsz).mono ?_
  · exact HK.out.next ((((Below.refl _ _).alloc (Nat.le_refl _) _).alloc (by simp) _).alloc (by simp; omega) _)
  rintro e w1 ⟨v, rfl, hv, hb⟩
  obtain ⟨hc, hf⟩ := bcell hb
  have hz : w.heap.size + 2 < w1.heap.size := by have := hb.size; simp at this; omega
  have hlo : w.heap.size + 3 ≤ w1.heap.size := by omega
  have HV : Hid (KidsOn w1 (BtP (w.heap.size + 3) w1) ks v) := hv.btP.mono (fun k hk => ⟨by have := hk.1; simpa using this, hk.2⟩) (fun _ _ => rfl)
  have hv := HV.out
  have HB : Hid (Below w.heap.size w w1) := ((((Below.refl _ _).alloc (Nat.le_refl _) _).alloc (by simp) _).alloc (by simp; omega) _).trans (hb.mono (by simp; omega))
  obtain ⟨ad, cap, rfl, -, -, -⟩ := hv
  clear hb
  go_wp2_with fail
  refine bodyPost_ret (v := .agg #[.int .i64 a, .int .i64 o, .int .i64 n, .slice ad ks.length cap]) (by simp [results, Try.results62, go_sem, hc, hf, hz]) rfl ⟨_, rfl, ?_, ?_⟩
  · refine KidsOn.mono (S := BtP (w.heap.size + 3) _) ?_ (fun k hk => ⟨by have := hk.1; omega, hk.2⟩) (fun _ _ => rfl)
    repeat' (refine KidsOn.setP ?_ (by simp <;> omega) _)
    exact HV.out
  · repeat' (refine Below.setCell ?_ (by simp <;> omega) _)
    exact HB.out

/-- what holds of the copy of a program behind k rounds -/
def ToDRelP (ds : List Df) (w : World) (k : Nat) (wr : World) : Prop :=
  ∃ f : Nat → Value, wr.rowIs w.heap.size 84 (ds.length * 4) f ∧ (∀ j (_ : j < k) (hj : j < ds.length), DfOn wr (BtP (w.heap.size + 1) wr) ds[j] (f (j * 4)) (f (j * 4 + 1)) (f (j * 4 + 2)) (f (j * 4 + 3))) ∧ Below w.heap.size w wr

theorem toDRel_startP (ds : List Df) (w : World) (C : Array Value) (h : C.size = ds.length * 4) : ToDRelP ds w 0 (w.alloc (.cells C 84)) := by
  refine ⟨fun i => C.getD i undef, ⟨C, Deep.blk_alloc_new _ _, h, fun i hi => ?_⟩, fun j hj => absurd hj (by omega), (Below.refl _ _).alloc (Nat.le_refl _) _⟩
  simp [Array.getElem?_eq_getElem (h ▸ hi : i < C.size), Array.getD, (h ▸ hi : i < C.size)]

theorem toDRel_stepP (ds : List Df) (w wr w1 : World) (k : Nat) (hk : k < ds.length) (h : ToDRelP ds w k wr) (v : Value) (hb : Below wr.heap.size wr w1) (hv : KidsOn w1 (BtP wr.heap.size w1) (ds[k]).2.kids v) (ha : I64 (ds[k]).1) (ho : I64 (ds[k]).2.op) (hn : I64 (ds[k]).2.num) :
    ToDRelP ds w (k + 1) (stD w1 w.heap.size k ds[k] v) := by
  unfold stD
  obtain ⟨f, hr, ht, hbw⟩ := h
  have hlt := hr.lt
  have hr1 : w1.rowIs w.heap.size 84 (ds.length * 4) f := hr.of_block (hb.block _ hlt)
  have hsz := hb.size
  have keep : ∀ (t : Tr) (a b c : Value), TrOn w1 (BtP (w.heap.size + 1) w1) t a b c → TrOn ((((w1.setCell ⟨w.heap.size, k * 4, none⟩ (.int .i64 ds[k].1)).setCell ⟨w.heap.size, k * 4 + 1, none⟩ (.int .i64 ds[k].2.op)).setCell ⟨w.heap.size, k * 4 + 2, none⟩ (.int .i64 ds[k].2.num)).setCell ⟨w.heap.size, k * 4 + 3, none⟩ v) (BtP (w.heap.size + 1) ((((w1.setCell ⟨w.heap.size, k * 4, none⟩ (.int .i64 ds[k].1)).setCell ⟨w.heap.size, k * 4 + 1, none⟩ (.int .i64 ds[k].2.op)).setCell ⟨w.heap.size, k * 4 + 2, none⟩ (.int .i64 ds[k].2.num)).setCell ⟨w.heap.size, k * 4 + 3, none⟩ v)) t a b c :=
    fun t a b c g => (((g.setP (by simp) _).setP (by simp) _).setP (by simp) _).setP (by simp) _
  refine ⟨_, (((hr1.set (k * 4) _).set (k * 4 + 1) _).set (k * 4 + 2) _).set (k * 4 + 3) _, fun j hj hjl => ?_, ?_⟩
  · by_cases hjk : j = k
    · subst hjk
      have : TrOn w1 (BtP (w.heap.size + 1) w1) ds[j].2 (.int .i64 (ds[j]).2.op) (.int .i64 (ds[j]).2.num) v := trOn_iff.2 ⟨rfl, rfl, ho, hn, hv.mono (fun k hk => ⟨by have := hk.1; omega, hk.2⟩) (fun _ _ => rfl)⟩
      refine ⟨by simp, ha, ?_⟩
      simpa using keep _ _ _ _ this
    · obtain ⟨h01, h02, h03⟩ := ht j (by omega) hjl
      have h1 : TrOn w1 (BtP (w.heap.size + 1) w1) ds[j].2 (f (j * 4 + 1)) (f (j * 4 + 2)) (f (j * 4 + 3)) := h03.mono (fun k hk => ⟨hk.1, hk.2.next hb⟩) (fun k hk => hb.block k hk.2.1)
      have h2 := keep _ _ _ _ h1
      have e1 : ∀ m, m < 4 → j * 4 + m ≠ k * 4 + 3 ∧ j * 4 + m ≠ k * 4 + 2 ∧ j * 4 + m ≠ k * 4 + 1 ∧ j * 4 + m ≠ k * 4 := fun m hm => by omega
      have a0 := e1 0 (by omega)
      have a1 := e1 1 (by omega)
      have a2 := e1 2 (by omega)
      have a3 := e1 3 (by omega)
      simp only [Nat.add_zero] at a0
      refine ⟨?_, h02, ?_⟩
      · simp only [if_neg a0.1, if_neg a0.2.1, if_neg a0.2.2.1, if_neg a0.2.2.2]; exact h01
      · simp only [if_neg a1.1, if_neg a1.2.1, if_neg a1.2.2.1, if_neg a1.2.2.2, if_neg a2.1, if_neg a2.2.1, if_neg a2.2.2.1, if_neg a2.2.2.2, if_neg a3.1, if_neg a3.2.1, if_neg a3.2.2.1, if_neg a3.2.2.2]; exact h2
  · exact ((((hbw.trans (hb.mono (Nat.le_of_lt hlt))).setCell (by simp) _).setCell (by simp) _).setCell (by simp) _).setCell (by simp) _

theorem toDRel_endP (ds : List Df) (w wr : World) (h : ToDRelP ds w ds.length wr) (hl : ds.length ≤ 1048576) : NewDefsP ds w (.returned (.slice (some ⟨w.heap.size, 0, none⟩) ds.length ds.length)) wr := by
  obtain ⟨f, hr, ht, hbw⟩ := h
  have hlt := hr.lt
  refine ⟨_, rfl, ⟨_, _, rfl, Nat.le_refl _, by unfold maxLen; omega, Or.inr ⟨_, _, rfl, ⟨Nat.le_refl _, hlt, row_plain hr⟩, fun i hi => ?_⟩⟩, hbw⟩
  obtain ⟨g1, g2, g3⟩ := ht i hi hi
  refine ⟨f (i * 4), f (i * 4 + 1), f (i * 4 + 2), f (i * 4 + 3), ?_, ?_, ?_, ?_, g1, g2, g3.mono (fun k hk => ⟨by have := hk.1; omega, hk.2⟩) (fun _ _ => rfl)⟩
  · simpa using hr.cell (i := i * 4) (by omega)
  · simpa [Nat.zero_add] using hr.cell (i := i * 4 + 1) (by omega)
  · simpa [Nat.zero_add] using hr.cell (i := i * 4 + 2) (by omega)
  · simpa [Nat.zero_add] using hr.cell (i := i * 4 + 3) (by omega)

set_option maxHeartbeats 400000 in
theorem toDefS_callsP (ds : List Df) (c : Value) (w : World) (hk : DIn w ds c) (hsz : szL (bodies ds) ≤ 1048576) : Calls Try.prog 19 #[c] w (NewDefsP ds w) := by
  have HK : Hid (DIn w ds c) := hk
  have HZ : Hid (szL (bodies ds) ≤ 1048576) := hsz
  have hlen : ds.length ≤ 1048576 := by rw [szL_sum, bodies_length] at hsz; omega
  clear hsz
  obtain ⟨ad, cap, rfl, -, -, -⟩ := hk
  obtain ⟨C, hC, hmk⟩ := make_defs ds.length hlen
  have HC : Hid (C.size = ds.length * 4) := hC
  clear hC
  go_enter Try.func19, Try.ntmps19
  go_wp2_with fail
  go_loopw [4] (fun i wr => ∃ k : Nat, k ≤ ds.length ∧ i = .int .i64 k ∧ ToDRelP ds w k wr) (fun i _ => ds.length - (intOf i).toNat)
  case atStart => exact ⟨0, Nat.zero_le _, rfl, toDRel_startP ds w C HC.out⟩
  case round =>
    obtain ⟨k, hk, rfl, hto⟩ := hrel
    have HT : Hid (ToDRelP ds w k wr) := hto
    obtain ⟨f, hr0, _, hb⟩ := hto
    have hlt0 := hr0.lt
    by_cases hlt : k < ds.length
    · obtain ⟨bl, off, r, rfl, c0, c1, c2, c3, ia, io, iN, hkk⟩ := (HK.out.next hb).at k hlt
      have HKK : Hid (In wr ds[k].2.kids r) := hkk
      have hkz : szL ds[k].2.kids ≤ 1048576 := by have := szL_body_le ds k hlt; have := HZ.out; omega
      have HR : Hid (wr.rowIs w.heap.size 84 (ds.length * 4) f) := hr0
      clear hkk hr0 hb
      go_wp2_with fail
      refine (toDef_callsP _ _ _ ds[k].2.kids r _ HKK.out hkz).mono ?_
      rintro e w1 ⟨v, rfl, hv, hb1⟩
      have hr1 : w1.rowIs w.heap.size 84 (ds.length * 4) f := HR.out.of_block (hb1.block _ hlt0)
      have HS : Hid (ToDRelP ds w (k + 1) (stD w1 w.heap.size k ds[k] v)) := toDRel_stepP ds w wr w1 k hlt HT.out v hb1 hv ia io iN
      obtain ⟨ad2, cap2, rfl, _, _, _⟩ := hv
      have g0 := hr1.cell (i := k * 4) (by omega)
      have g1 := hr1.cell (i := k * 4 + 1) (by omega)
      have g2 := hr1.cell (i := k * 4 + 2) (by omega)
      have g3 := hr1.cell (i := k * 4 + 3) (by omega)
      have f0 := hr1.frozen (k * 4)
      have f1 := hr1.frozen (k * 4 + 1)
      have f2 := hr1.frozen (k * 4 + 2)
      have f3 := hr1.frozen (k * 4 + 3)
      clear hr1 hb1
      go_wp2_with fail
      go_roundw
      case rel => exact ⟨k + 1, by omega, by go_num, HS.out⟩
      case measure => simp [intOf]; omega
    · have hke : ds.length = k := by omega
      have HV : Hid (NewDefsP ds w (.returned (.slice (some ⟨w.heap.size, 0, none⟩) ds.length ds.length)) wr) := by subst hke; exact toDRel_endP ds w wr HT.out hlen
      clear hke hr0 hb
      go_wp2_with fail
      go_ret
      exact HV.out
end Go.Proofs.Ytocnkjicmchbdaa
