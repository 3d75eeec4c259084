/-
  THE LAWS' COPY OF A PROGRAM LIES IN PLAIN BLOCKS.
-/
import Derived.Test.YtocnkjicmchbdaaMgExactUnusedArgs1
import Derived.Test.YtocnkjicmchbdaaMgExactUnusedArgs6
import Derived.Test.YtocnkjicmchbdaaMgExactUnusedArgs3
import Derived.Deep.RegionHeld3
import Derived.Test.YtocnkjicmchbdaaMgExactUnusedArgs4
import Derived.Test.YtocnkjicmchbdaaMgExactUnusedArgs5
namespace Go.Proofs.Ytocnkjicmchbdaa
set_option linter.unusedVariables false
set_option linter.unusedSimpArgs false
open Go.RowKit

/-- plain blocks from lo on -/
def BtP (lo : Nat) (w : World) : Nat → Prop := fun k => lo ≤ k ∧ Pl w k
theorem Pl.set {w : World} {k : Nat} {a : Addr} (h : Pl w k) (hk : k ≠ a.block) (u : Value) : Pl (w.setCell a u) k :=
  ⟨by rw [size_setCell]; exact h.1, by obtain ⟨C, T, e⟩ := h.2; exact ⟨C, T, (Below.heap_setCell _ _ _ _ hk).trans e⟩⟩
theorem KidsOn.setP {w : World} {lo : Nat} {ks : List Tr} {c : Value} (h : KidsOn w (BtP lo w) ks c) {a : Addr} (ha : a.block < lo) (u : Value) : KidsOn (w.setCell a u) (BtP lo (w.setCell a u)) ks c :=
  h.mono (fun k hk => ⟨hk.1, hk.2.set (by have := hk.1; omega) u⟩) (fun k hk => Below.heap_setCell _ _ _ _ (by have := hk.1; omega))
theorem TrOn.setP {w : World} {lo : Nat} {t : Tr} {x y z : Value} (h : TrOn w (BtP lo w) t x y z) {a : Addr} (ha : a.block < lo) (u : Value) : TrOn (w.setCell a u) (BtP lo (w.setCell a u)) t x y z :=
  h.mono (fun k hk => ⟨hk.1, hk.2.set (by have := hk.1; omega) u⟩) (fun k hk => Below.heap_setCell _ _ _ _ (by have := hk.1; omega))
theorem Fresh.btP {w : World} {lo : Nat} {ks : List Tr} {c : Value} (h : Fresh w lo ks c) : KidsOn w (BtP lo w) ks c := by
  obtain ⟨fp, h1, h2, h3⟩ := h
  exact h1.on fun k hk => ⟨h3 k hk, h1.plain k hk⟩
theorem row_plain {w : World} {b n : Nat} {T : TypeId} {f : Nat → Value} (h : w.rowIs b T n f) : ∃ C T', w.heap[b]? = some (.cells C T' (0, 0)) := by
  obtain ⟨C, h1, -⟩ := h
  exact ⟨C, T, h1⟩
/-- programs that lie in plain blocks -/
abbrev DInP (w : World) (ds : List Df) (v : Value) : Prop := DefsOn w (Pl w) ds v
theorem DefsOn.nextP {w w' : World} {ds : List Df} {v : Value} (h : DInP w ds v) (hb : Below w.heap.size w w') : DInP w' ds v := h.mono (fun k hk => hk.next hb) (fun k hk => hb.block k hk.1)
theorem DefsOn.inP {w : World} {ds : List Df} {v : Value} (h : DInP w ds v) : DIn w ds v := h.mono (fun k hk => hk.1) (fun _ _ => rfl)
theorem DefsOn.plain {w : World} {lo : Nat} {ds : List Df} {v : Value} (h : DefsOn w (BtP lo w) ds v) : DInP w ds v := h.mono (fun k hk => hk.2) (fun _ _ => rfl)
/-- the body of function i, in plain blocks -/
theorem DefsOn.atP {w : World} {ds : List Df} {ad : Option Addr} {n cap : Nat} (h : DInP w ds (.slice ad n cap)) (i : Nat) (hi : i < ds.length) :
    ∃ bl off c, ad = some ⟨bl, off, none⟩ ∧ w.cell? ⟨bl, off + i * 4 + 3, none⟩ = some c ∧ InP w ds[i].2.kids c := by
  obtain ⟨ad', cap', he, -, -, hr⟩ := h
  cases he
  rcases hr with rfl | ⟨bl, off, rfl, -, r⟩
  · simp at hi
  obtain ⟨a, b, c, e, h1, h2, h3, h4, rfl, g2, g3⟩ := r i hi
  obtain ⟨rfl, rfl, g5, g6, g7⟩ := trOn_iff.1 g3
  exact ⟨bl, off, e, rfl, h4, g7⟩

/-! ### The copy -/
def NewDfP (a o n : Int) (ks : List Tr) (w : World) (e : Ending) (w' : World) : Prop := ∃ v, e = .returned (.agg #[.int .i64 a, .int .i64 o, .int .i64 n, v]) ∧ KidsOn w' (BtP w.heap.size w') ks v ∧ Below w.heap.size w w'
def NewDefsP (ds : List Df) (w : World) (e : Ending) (w' : World) : Prop := ∃ v, e = .returned v ∧ DefsOn w' (BtP w.heap.size w') ds v ∧ Below w.heap.size w w'

set_option maxHeartbeats 400000 in
theorem toDef_callsP (a o n : Int) (ks : List Tr) (c : Value) (w : World) (hk : In w ks c) (hsz : szL ks ≤ 1048576) : Calls Try.prog 62 #[.agg #[.int .i64 a, .int .i64 o, .int .i64 n, c]] w (NewDfP a o n ks w) := by
  have HK : Hid (In w ks c) := hk
  clear hk
  go_enter Try.func62, Try.ntmps62
  go_wp2_with fail
  refine (fto_calls ks _ _ c _ ?_ hsz).mono ?_
  · exact HK.out.next ((((Below.refl _ _).alloc (Nat.le_refl _) _).alloc (by simp) _).alloc (by simp; omega) _)
  rintro e w1 ⟨v, rfl, hv, hb⟩
  obtain ⟨hc, hf⟩ := bcell hb
  have hz : w.heap.size + 2 < w1.heap.size := by have := hb.size; simp at this; omega
  have hlo : w.heap.size + 3 ≤ w1.heap.size := by omega
  have HV : Hid (KidsOn w1 (BtP (w.heap.size + 3) w1) ks v) := hv.btP.mono (fun k hk => ⟨by have := hk.1; simpa using this, hk.2⟩) (fun _ _ => rfl)
  have hv := HV.out
  have HB : Hid (Below w.heap.size w w1) := ((((Below.refl _ _).alloc (Nat.le_refl _) _).alloc (by simp) _).alloc (by simp; omega) _).trans (hb.mono (by simp; omega))
  obtain ⟨ad, cap, rfl, -, -, -⟩ := hv
  clear hb
  go_wp2_with fail
  refine bodyPost_ret (v := .agg #[.int .i64 a, .int .i64 o, .int .i64 n, .slice ad ks.length cap]) (by simp [results, Try.results62, go_sem, hc, hf, hz]) rfl ⟨_, rfl, ?_, ?_⟩
  · refine KidsOn.mono (S := BtP (w.heap.size + 3) _) ?_ (fun k hk => ⟨by have := hk.1; omega, hk.2⟩) (fun _ _ => rfl)
    repeat' (refine KidsOn.setP ?_ (by simp <;> omega) _)
    exact HV.out
  · repeat' (refine Below.setCell ?_ (by simp <;> omega) _)
    exact HB.out

/-- what holds of the copy of a program behind k rounds -/
def ToDRelP (ds : List Df) (w : World) (k : Nat) (wr : World) : Prop :=
  ∃ f : Nat → Value, wr.rowIs w.heap.size 84 (ds.length * 4) f ∧ (∀ j (_ : j < k) (hj : j < ds.length), DfOn wr (BtP (w.heap.size + 1) wr) ds[j] (f (j * 4)) (f (j * 4 + 1)) (f (j * 4 + 2)) (f (j * 4 + 3))) ∧ Below w.heap.size w wr

theorem toDRel_startP (ds : List Df) (w : World) (C : Array Value) (h : C.size = ds.length * 4) : ToDRelP ds w 0 (w.alloc (.cells C 84)) := by
  refine ⟨fun i => C.getD i undef, ⟨C, Deep.blk_alloc_new _ _, h, fun i hi => ?_⟩, fun j hj => absurd hj (by omega), (Below.refl _ _).alloc (Nat.le_refl _) _⟩
  simp [Array.getElem?_eq_getElem (h ▸ hi : i < C.size), Array.getD, (h ▸ hi : i < C.size)]

theorem toDRel_stepP (ds : List Df) (w wr w1 : World) (k : Nat) (hk : k < ds.length) (h : ToDRelP ds w k wr) (v : Value) (hb : Below wr.heap.size wr w1) (hv : KidsOn w1 (BtP wr.heap.size w1) (ds[k]).2.kids v) (ha : I64 (ds[k]).1) (ho : I64 (ds[k]).2.op) (hn : I64 (ds[k]).2.num) :
    ToDRelP ds w (k + 1) (stD w1 w.heap.size k ds[k] v) := by
  unfold stD
  obtain ⟨f, hr, ht, hbw⟩ := h
  have hlt := hr.lt
  have hr1 : w1.rowIs w.heap.size 84 (ds.length * 4) f := hr.of_block (hb.block _ hlt)
  have hsz := hb.size
  have keep : ∀ (t : Tr) (a b c : Value), TrOn w1 (BtP (w.heap.size + 1) w1) t a b c → TrOn ((((w1.setCell ⟨w.heap.size, k * 4, none⟩ (.int .i64 ds[k].1)).setCell ⟨w.heap.size, k * 4 + 1, none⟩ (.int .i64 ds[k].2.op)).setCell ⟨w.heap.size, k * 4 + 2, none⟩ (.int .i64 ds[k].2.num)).setCell ⟨w.heap.size, k * 4 + 3, none⟩ v) (BtP (w.heap.size + 1) ((((w1.setCell ⟨w.heap.size, k * 4, none⟩ (.int .i64 ds[k].1)).setCell ⟨w.heap.size, k * 4 + 1, none⟩ (.int .i64 ds[k].2.op)).setCell ⟨w.heap.size, k * 4 + 2, none⟩ (.int .i64 ds[k].2.num)).setCell ⟨w.heap.size, k * 4 + 3, none⟩ v)) t a b c :=
    fun t a b c g => (((g.setP (by simp) _).setP (by simp) _).setP (by simp) _).setP (by simp) _
  refine ⟨_, (((hr1.set (k * 4) _).set (k * 4 + 1) _).set (k * 4 + 2) _).set (k * 4 + 3) _, fun j hj hjl => ?_, ?_⟩
  · by_cases hjk : j = k
    · subst hjk
      have : TrOn w1 (BtP (w.heap.size + 1) w1) ds[j].2 (.int .i64 (ds[j]).2.op) (.int .i64 (ds[j]).2.num) v := trOn_iff.2 ⟨rfl, rfl, ho, hn, hv.mono (fun k hk => ⟨by have := hk.1; omega, hk.2⟩) (fun _ _ => rfl)⟩
      refine ⟨by simp, ha, ?_⟩
      simpa using keep _ _ _ _ this
    · obtain ⟨h01, h02, h03⟩ := ht j (by omega) hjl
      have h1 : TrOn w1 (BtP (w.heap.size + 1) w1) ds[j].2 (f (j * 4 + 1)) (f (j * 4 + 2)) (f (j * 4 + 3)) := h03.mono (fun k hk => ⟨hk.1, hk.2.next hb⟩) (fun k hk => hb.block k hk.2.1)
      have h2 := keep _ _ _ _ h1
      have e1 : ∀ m, m < 4 → j * 4 + m ≠ k * 4 + 3 ∧ j * 4 + m ≠ k * 4 + 2 ∧ j * 4 + m ≠ k * 4 + 1 ∧ j * 4 + m ≠ k * 4 := fun m hm => by omega
      have a0 := e1 0 (by omega)
      have a1 := e1 1 (by omega)
      have a2 := e1 2 (by omega)
      have a3 := e1 3 (by omega)
      simp only [Nat.add_zero] at a0
      refine ⟨?_, h02, ?_⟩
      · simp only [if_neg a0.1, if_neg a0.2.1, if_neg a0.2.2.1, if_neg a0.2.2.2]; exact h01
      · simp only [if_neg a1.1, if_neg a1.2.1, if_neg a1.2.2.1, if_neg a1.2.2.2, if_neg a2.1, if_neg a2.2.1, if_neg a2.2.2.1, if_neg a2.2.2.2, if_neg a3.1, if_neg a3.2.1, if_neg a3.2.2.1, if_neg a3.2.2.2]; exact h2
  · exact ((((hbw.trans (hb.mono (Nat.le_of_lt hlt))).setCell (by simp) _).setCell (by simp) _).setCell (by simp) _).setCell (by simp) _

theorem toDRel_endP (ds : List Df) (w wr : World) (h : ToDRelP ds w ds.length wr) (hl : ds.length ≤ 1048576) : NewDefsP ds w (.returned (.slice (some ⟨w.heap.size, 0, none⟩) ds.length ds.length)) wr := by
  obtain ⟨f, hr, ht, hbw⟩ := h
  have hlt := hr.lt
  refine ⟨_, rfl, ⟨_, _, rfl, Nat.le_refl _, by unfold maxLen; omega, Or.inr ⟨_, _, rfl, ⟨Nat.le_refl _, hlt, row_plain hr⟩, fun i hi => ?_⟩⟩, hbw⟩
  obtain ⟨g1, g2, g3⟩ := ht i hi hi
  refine ⟨f (i * 4), f (i * 4 + 1), f (i * 4 + 2), f (i * 4 + 3), ?_, ?_, ?_, ?_, g1, g2, g3.mono (fun k hk => ⟨by have := hk.1; omega, hk.2⟩) (fun _ _ => rfl)⟩
  · simpa using hr.cell (i := i * 4) (by omega)
  · simpa [Nat.zero_add] using hr.cell (i := i * 4 + 1) (by omega)
  · simpa [Nat.zero_add] using hr.cell (i := i * 4 + 2) (by omega)
  · simpa [Nat.zero_add] using hr.cell (i := i * 4 + 3) (by omega)

set_option maxHeartbeats 400000 in
theorem toDefS_callsP (ds : List Df) (c : Value) (w : World) (hk : DIn w ds c) (hsz : szL (bodies ds) ≤ 1048576) : Calls Try.prog 19 #[c] w (NewDefsP ds w) := by
  have HK : Hid (DIn w ds c) := hk
  have HZ : Hid (szL (bodies ds) ≤ 1048576) := hsz
  have hlen : ds.length ≤ 1048576 := by rw [szL_sum, bodies_length] at hsz; omega
  clear hsz
  obtain ⟨ad, cap, rfl, -, -, -⟩ := hk
  obtain ⟨C, hC, hmk⟩ := make_defs ds.length hlen
  have HC : Hid (C.size = ds.length * 4) := hC
  clear hC
  go_enter Try.func19, Try.ntmps19
  go_wp2_with fail
  go_loopw [4] (fun i wr => ∃ k : Nat, k ≤ ds.length ∧ i = .int .i64 k ∧ ToDRelP ds w k wr) (fun i _ => ds.length - (intOf i).toNat)
  case atStart => exact ⟨0, Nat.zero_le _, rfl, toDRel_startP ds w C HC.out⟩
  case round =>
    obtain ⟨k, hk, rfl, hto⟩ := hrel
    have HT : Hid (ToDRelP ds w k wr) := hto
    obtain ⟨f, hr0, _, hb⟩ := hto
    have hlt0 := hr0.lt
    by_cases hlt : k < ds.length
    · obtain ⟨bl, off, r, rfl, c0, c1, c2, c3, ia, io, iN, hkk⟩ := (HK.out.next hb).at k hlt
      have HKK : Hid (In wr ds[k].2.kids r) := hkk
      have hkz : szL ds[k].2.kids ≤ 1048576 := by have := szL_body_le ds k hlt; have := HZ.out; omega
      have HR : Hid (wr.rowIs w.heap.size 84 (ds.length * 4) f) := hr0
      clear hkk hr0 hb
      go_wp2_with fail
      refine (toDef_callsP _ _ _ ds[k].2.kids r _ HKK.out hkz).mono ?_
      rintro e w1 ⟨v, rfl, hv, hb1⟩
      have hr1 : w1.rowIs w.heap.size 84 (ds.length * 4) f := HR.out.of_block (hb1.block _ hlt0)
      have HS : Hid (ToDRelP ds w (k + 1) (stD w1 w.heap.size k ds[k] v)) := toDRel_stepP ds w wr w1 k hlt HT.out v hb1 hv ia io iN
      obtain ⟨ad2, cap2, rfl, _, _, _⟩ := hv
      have g0 := hr1.cell (i := k * 4) (by omega)
      have g1 := hr1.cell (i := k * 4 + 1) (by omega)
      have g2 := hr1.cell (i := k * 4 + 2) (by omega)
      have g3 := hr1.cell (i := k * 4 + 3) (by omega)
      have f0 := hr1.frozen (k * 4)
      have f1 := hr1.frozen (k * 4 + 1)
      have f2 := hr1.frozen (k * 4 + 2)
      have f3 := hr1.frozen (k * 4 + 3)
      clear hr1 hb1
      go_wp2_with fail
      go_roundw
      case rel => exact ⟨k + 1, by omega, by go_num, HS.out⟩
      case measure => simp [intOf]; omega
    · have hke : ds.length = k := by omega
      have HV : Hid (NewDefsP ds w (.returned (.slice (some ⟨w.heap.size, 0, none⟩) ds.length ds.length)) wr) := by subst hke; exact toDRel_endP ds w wr HT.out hlen
      clear hke hr0 hb
      go_wp2_with fail
      go_ret
      exact HV.out
end Go.Proofs.Ytocnkjicmchbdaa
/-
  THE PROGRAM's UnusedArgs.
-/
namespace Go.Proofs.Ytocnkjicmchbdaa
set_option linter.unusedVariables false
set_option linter.unusedSimpArgs false
open Go.RowKit

set_option maxRecDepth 100000 in
set_option maxHeartbeats 1600000 in
theorem unu1_calls (ds : List Df) (p : Value) (pb : Nat) (w : World) (hp : DInP w ds p) (hpr : progB ds = true) (hz : szL (bodies ds) ≤ 1048576) (hcp : w.cell? ⟨pb, 0, none⟩ = some p) (i v : Nat) (hi : i < ds.length) (hv : v < arN ds i) :
    Calls Try.prog 75 #[.int .i64 (i : Int), .int .i64 (v : Int), .pointer (some ⟨pb, 0, none⟩)] w fun e w' => e = .returned (.bool (unuF ds i v)) ∧ Below w.heap.size w w' := by
  obtain ⟨adp, capp, rfl, hpl, hpm, -⟩ := id hp
  unfold maxLen at hpm
  obtain ⟨bl, off, c, rfl, c0, c1, c2, c3, -, i1, i2, hk⟩ := hp.inP.at i hi
  obtain ⟨bl', off', c', he, c4, hkP⟩ := hp.atP i hi
  simp only [Option.some.injEq, Addr.mk.injEq, and_true] at he
  obtain ⟨rfl, rfl⟩ := he
  rw [c3] at c4
  simp only [Option.some.injEq] at c4
  subst c4
  obtain ⟨adk, capk, rfl, -, -, -⟩ := id hk
  have hd4 := progB_ar hpr _ (List.getElem_mem hi)
  obtain ⟨n, hn⟩ : ∃ n : Nat, ds[i].1 = (n : Int) := ⟨ds[i].1.toNat, by omega⟩
  have hn4 : n ≤ 4 := by omega
  obtain ⟨hvb, han⟩ := varsB_ar hi hn hn4
  have hsz : szT ds[i].2 ≤ 1048576 := by
    have := szT_lt_szL (bodies ds) i (by rw [bodies_length]; exact hi)
    have e : (bodies ds)[i]'(by rw [bodies_length]; exact hi) = ds[i].2 := by simp [bodies]
    rw [e] at this
    omega
  have HVU : Hid (∀ W, Below w.heap.size w W → Calls Try.prog 76 #[.agg #[.int .i64 ds[i].2.op, .int .i64 ds[i].2.num, .slice adk ds[i].2.kids.length capk], .int .i64 (n : Int)] W (NewInts (varsOf (arN ds i) (bodyN ds i)) W)) := fun W hW => by
    have := implVars_calls ds[i].2 _ (n : Int) W (hkP.nextP hW) ⟨i1, i2⟩ hsz ⟨by omega, by omega⟩
    rwa [hvb] at this
  rw [hn] at c0
  have HXL : Hid ((varsOf (arN ds i) (bodyN ds i)).length = n) := by rw [Hid, varsOf_length, han]
  have hvn : v < n := by omega
  have HF : Hid (unuF ds i v = (((varsOf (arN ds i) (bodyN ds i))[v]?).getD 0 == 0)) := rfl
  rw [HF.out]
  generalize varsOf (arN ds i) (bodyN ds i) = xs at HVU HXL ⊢
  have hiI : (i : Int) < (ds.length : Int) := by omega
  obtain ⟨o, ho⟩ : ∃ o, o = ds[i].2.op := ⟨_, rfl⟩
  obtain ⟨m, hm⟩ : ∃ m, m = ds[i].2.num := ⟨_, rfl⟩
  obtain ⟨z, hz9⟩ : ∃ z, z = ds[i].2.kids.length := ⟨_, rfl⟩
  rw [← ho] at c1
  rw [← hm] at c2
  rw [← hz9] at c3
  rw [← ho, ← hm, ← hz9] at HVU
  have HC := mkHid (And.intro hcp (And.intro c0 (And.intro c1 (And.intro c2 c3))))
  have hvI : (v : Int) < (n : Int) := by omega
  clear hp hpr hz hk hkP hd4 hn hvb han hsz ho hm hz9 HF i1 i2
  go_enter Try.func75, Try.ntmps75
  go_wp2_with fail
  go_region_with ((go_at_call 76; refine (HVU.out w.drew ((Below.refl _ _).drew)).mono ?_; rintro e w1 ⟨vv, rfl, hvv, hb1⟩; have HB1 : Hid (Below w.heap.size w w1) := (Below.refl _ _).drew.trans hb1; obtain ⟨bu, cu, rfl, hcu1, hcu2, r0⟩ := ints_num hvv v n HXL.out hvn; unfold maxLen at hcu2; clear hvv hb1))
  all_goals
    go_wp2_with fail
    go_ret
    exact ⟨rfl, HB1.out⟩

set_option maxRecDepth 100000 in
set_option maxHeartbeats 800000 in
theorem implUnusedArgs_calls (ds : List Df) (p : Value) (w : World) (hp : DInP w ds p) (hz : szL (bodies ds) ≤ 1048576) :
    Calls Try.prog 28 #[p] w (NewN (unusedA ds) w) := by
  have HP : Hid (DInP w ds p) := hp
  obtain ⟨adp, capp, rfl, -, -, -⟩ := hp
  have HBX : Hid (Below w.heap.size w (w.alloc (.cells #[.slice adp ds.length capp] 40))) := box_below _ _
  have HX : Hid ((w.alloc (.cells #[.slice adp ds.length capp] 40)).heap[w.heap.size]? = some (.cells #[.slice adp ds.length capp] 40)) := Deep.blk_alloc_new _ _
  have HXZ : Hid (w.heap.size < (w.alloc (.cells #[.slice adp ds.length capp] 40)).heap.size) := by rw [Hid, Deep.nblk_alloc]; omega
  have HPV := mkHid (implProg_calls ds _ _ (HP.out.inP.next HBX.out))
  cases hpr : progB ds with
  | false =>
    rw [hpr] at HPV
    rw [unusedA_no hpr]
    clear hpr
    go_enter Try.func28, Try.ntmps28
    go_wp2_with fail
    refine HPV.out.mono ?_
    rintro e w1 ⟨rfl, hb1⟩
    have HB1 : Hid (Below w.heap.size w w1) := HBX.out.trans (hb1.mono HBX.out.size)
    clear hb1
    go_wp2_with fail
    go_ret
    exact ⟨_, rfl, NOwn.nil _ _, HB1.out⟩
  | true =>
    rw [hpr] at HPV
    rw [unusedA_yes hpr]
    have HPR := mkHid hpr
    have HZ := mkHid hz
    clear hpr hz
    go_enter Try.func28, Try.ntmps28
    go_wp2_with fail
    refine HPV.out.mono ?_
    rintro e w1 ⟨rfl, hb1⟩
    have HB1 : Hid (Below w.heap.size w w1) := HBX.out.trans (hb1.mono HBX.out.size)
    have HX1 : Hid (w1.heap[w.heap.size]? = some (.cells #[.slice adp ds.length capp] 40)) := (hb1.block _ HXZ.out).trans HX.out
    have x0 := cell_of_blk HX1.out 0 _ rfl
    have HZ1 : Hid (w.heap.size < w1.heap.size) := Nat.lt_of_lt_of_le HXZ.out hb1.size
    clear hb1
    go_wp2_with fail
    refine (ofUnu_calls ds (unuF ds) _ w.heap.size w1 (HP.out.inP.next HB1.out) (progB_len HPR.out) (progB_ar HPR.out) fun W i v hb hi hv => unu1_calls ds _ w.heap.size W (DefsOn.nextP (DefsOn.nextP HP.out HB1.out) hb) HPR.out HZ.out (cell_of_blk ((hb.block _ HZ1.out).trans HX1.out) 0 _ rfl) i v hi hv).mono ?_
    rintro e w2 ⟨v, rfl, hv, hb2⟩
    have HV2 : Hid (NOwn w2 w.heap.size (gridN ds (unuF ds)) v) := hv.down HB1.out.size
    have HB2 : Hid (Below w.heap.size w w2) := HB1.out.trans (hb2.mono HB1.out.size)
    clear hv hb2
    go_wp2_with fail
    go_ret
    exact ⟨_, rfl, HV2.out, HB2.out⟩
end Go.Proofs.Ytocnkjicmchbdaa
/-
  THE LAWS' OWN MARKS IN NEEDS (markBoolSS, heldBoolSS).
-/
namespace Go.Proofs.Ytocnkjicmchbdaa
set_option linter.unusedVariables false
set_option linter.unusedSimpArgs false
open Go.RowKit

/-- a mark -/
def mk3 (k : Int) : Bool := k % 3 == 0
/-- a row of marks -/
def markR (n : Nat) (k : Int) : List Bool := (List.range n).map fun (j : Nat) => mk3 (k + (j : Int))
theorem markR_length (n : Nat) (k : Int) : (markR n k).length = n := by simp [markR]
theorem markR_at {n : Nat} {k : Int} {j : Nat} (h : j < (markR n k).length) : (markR n k)[j] = mk3 (k + (j : Int)) := by simp [markR]
/-- rows of marks, one behind the other -/
def markG (ns : List Nat) (k : Int) : List (List Bool) := (List.range ns.length).map fun i => markR ((ns[i]?).getD 0) (k + ((ns.take i).sum : Nat))
theorem markG_length (ns : List Nat) (k : Int) : (markG ns k).length = ns.length := by simp [markG]
theorem markG_at {ns : List Nat} {k : Int} {i : Nat} (h : i < ns.length) (h' : i < (markG ns k).length) : (markG ns k)[i] = markR ns[i] (k + ((ns.take i).sum : Nat)) := by
  simp [markG, h]
theorem sum_take_succ (ns : List Nat) (i : Nat) (h : i < ns.length) : (ns.take (i + 1)).sum = (ns.take i).sum + ns[i] := by
  rw [List.take_succ_eq_append_getElem h, List.sum_append]; simp
theorem sum_take_le (ns : List Nat) (i : Nat) : (ns.take i).sum ≤ ns.sum := by
  conv => rhs; rw [← List.take_append_drop i ns, List.sum_append]
  omega
/-- row i gets other values -/
theorem NOwn.row {w : World} {lo : Nat} {g : List (List Bool)} {ad : Option Addr} {n cap : Nat} (h : NOwn w lo g (.slice ad n cap)) (i : Nat) (hi : i < g.length) :
    ∃ b rb rc, ad = some ⟨b, 0, none⟩ ∧ w.cell? ⟨b, i, none⟩ = some (.slice (some ⟨rb, 0, none⟩) g[i].length rc) ∧ lo ≤ rb ∧ RowAt w rb rc g[i] ∧
      ∀ (r : List Bool) (w' : World), r.length = g[i].length → RowAt w' rb rc r → (∀ k, k ≠ rb → w'.heap[k]? = w.heap[k]?) → NOwn w' lo (g.set i r) (.slice ad n cap) := by
  obtain ⟨bs, h1, h2, h3, h4⟩ := h
  have hi2 : i < bs.length := by omega
  rcases id h3.2 with ⟨e, h⟩ | ⟨b, cap', cur, e, hb, hh, hn, hc, hs, ht⟩
  · omega
  simp only [Value.slice.injEq] at e
  obtain ⟨rfl, rfl, rfl⟩ := e
  have hc0 := own_cells h3 i _ (cellsN_at i hi hi2)
  rw [WideShapes.add_plain, Nat.zero_add] at hc0
  obtain ⟨hlo, hra⟩ := h4 i hi hi2
  have hne : b ≠ bs[i].1 := by
    rintro rfl
    exact hra.no hh
  refine ⟨b, _, _, rfl, hc0, hlo, hra, fun r w' hrl hr' hk => ⟨bs, by rw [List.length_set]; exact h1, h2, ?_, fun j hj hj2 => ?_⟩⟩
  · have e : cellsN (g.set i r) bs = cellsN g bs := by
      apply List.ext_getElem?
      intro k
      by_cases hk : k < g.length
      · rw [cellsN_at k hk (by omega), cellsN_at k (by rw [List.length_set]; exact hk) (by omega)]
        congr 2
        rw [List.getElem_set]
        split
        · rename_i e; subst e; exact hrl
        · rfl
      · unfold cellsN
        rw [List.getElem?_eq_none (by simp; omega), List.getElem?_eq_none (by simp; omega)]
    rw [e, List.length_set]
    exact ⟨h3.1, Or.inr ⟨b, cap, cur, rfl, hb, (hk b hne).trans hh, hn, hc, hs, ht⟩⟩
  · rw [List.length_set] at hj
    refine ⟨(h4 j hj hj2).1, ?_⟩
    by_cases e : i = j
    · subst e
      simp only [List.getElem_set_self]
      exact hr'
    · rw [List.getElem_set_ne e]
      have hne2 : bs[j].1 ≠ bs[i].1 := by
        intro hbb
        have hp := List.pairwise_iff_getElem.1 h2
        rcases Nat.lt_or_gt_of_ne e with h | h
        · exact hp i j (by simpa using hi2) (by simpa using hj2) h (by simpa using hbb.symm)
        · exact hp j i (by simpa using hj2) (by simpa using hi2) h (by simpa using hbb)
      exact (h4 j hj hj2).2.blk (hk _ hne2)
/-- nothing but one block is written -/
def But1 (b : Nat) (w w' : World) : Prop := w'.os = w.os ∧ w'.tape = w.tape ∧ w'.output = w.output ∧ w'.heap.size = w.heap.size ∧ ∀ k, k ≠ b → w'.heap[k]? = w.heap[k]?
theorem But1.refl (b : Nat) (w : World) : But1 b w w := ⟨rfl, rfl, rfl, rfl, fun _ _ => rfl⟩
theorem But1.set {b : Nat} {w w' : World} (h : But1 b w w') (o : Nat) (u : Value) : But1 b w (w'.setCell ⟨b, o, none⟩ u) :=
  ⟨h.1, h.2.1, h.2.2.1, by rw [size_setCell]; exact h.2.2.2.1, fun k hk => (Below.heap_setCell _ _ _ _ hk).trans (h.2.2.2.2 k hk)⟩
theorem But1.below {b lo : Nat} {w w' : World} (h : But1 b w w') (hl : lo ≤ b) : Below lo w w' := ⟨h.1, h.2.1, h.2.2.1, by rw [h.2.2.2.1]; exact Nat.le_refl _, fun k hk => h.2.2.2.2 k (by omega)⟩

set_option maxHeartbeats 400000 in
theorem markBools_calls (r : List Bool) (b cap : Nat) (k : Int) (w : World) (hr : RowAt w b cap r) (h0 : 0 ≤ k) (h1 : k + (r.length : Int) ≤ 1152921504606846976) :
    Calls Try.prog 69 #[.slice (some ⟨b, 0, none⟩) r.length cap, .int .i64 k] w fun e w' => e = .returned (.int .i64 (k + (r.length : Int))) ∧ RowAt w' b cap (markR r.length k) ∧ But1 b w w' := by
  obtain ⟨n, hn⟩ : ∃ n, n = r.length := ⟨_, rfl⟩
  rw [← hn] at h1 ⊢
  have HS : Hid (RowAt w b cap ((List.range n).map fun (j : Nat) => if j < 0 then mk3 (k + (j : Int)) else (r[j]?).getD false)) := by
    have e : ((List.range n).map fun (j : Nat) => if j < 0 then mk3 (k + (j : Int)) else (r[j]?).getD false) = r := by
      refine List.ext_getElem (by simp [hn]) fun i a b => by simp [b]
    rw [e]; exact hr
  have hcap : n ≤ cap := by rw [hn]; exact hr.1
  have hcm := hr.2.1
  unfold maxLen at hcm
  clear hr
  go_enter Try.func69, Try.ntmps69
  go_wp2_with fail
  go_loopw [1, 5] (fun q i wr => ∃ j : Nat, j ≤ n ∧ i = .int .i64 j ∧ q = .int .i64 (k + j) ∧ RowAt wr b cap ((List.range n).map fun (x : Nat) => if x < j then mk3 (k + (x : Int)) else (r[x]?).getD false) ∧ But1 b w wr) (fun _ i _ => n - (intOf i).toNat)
  case atStart => exact ⟨0, Nat.zero_le _, rfl, by simp, HS.out, But1.refl _ _⟩
  case round =>
    obtain ⟨j, hj, rfl, rfl, hrw, hbt⟩ := hrel
    have HR := mkHid hrw
    have HB := mkHid hbt
    by_cases hlt : j < n
    · obtain ⟨z, hz⟩ : ∃ z, z = k + (j : Int) := ⟨_, rfl⟩
      have HR2 : Hid (RowAt (wr.setCell ⟨b, j, none⟩ (.bool (mk3 z))) b cap ((List.range n).map fun (x : Nat) => if x < j + 1 then mk3 (k + (x : Int)) else (r[x]?).getD false)) := by
        have h := hrw.set j (mk3 z)
        have e : (((List.range n).map fun (x : Nat) => if x < j then mk3 (k + (x : Int)) else (r[x]?).getD false).set j (mk3 z)) = ((List.range n).map fun (x : Nat) => if x < j + 1 then mk3 (k + (x : Int)) else (r[x]?).getD false) := by
          refine List.ext_getElem (by simp) fun i a c => ?_
          rw [List.getElem_set]
          split
          · rename_i e; subst e; simp [hz]
          · rename_i e
            have : (i < j + 1) = (i < j) := by apply propext; omega
            simp [this]
        rwa [e] at h
      have HB2 : Hid (But1 b w (wr.setCell ⟨b, j, none⟩ (.bool (mk3 z)))) := hbt.set j _
      obtain ⟨hl1, -, fr, hrr, hfr⟩ := hrw
      have c0 := hrr.cell (i := j) (by omega)
      rw [hfr j (by simpa using hlt)] at c0
      have f0 := hrr.frozen j
      have hz0 : 0 ≤ z := by omega
      have hz1 : z + 1 ≤ 1152921504606846976 := by omega
      have HZ := mkHid hz
      rw [← hz]
      generalize hbb : ((List.range n).map fun (x : Nat) => if x < j then mk3 (k + (x : Int)) else (r[x]?).getD false)[j]'(by simpa using hlt) = bb at c0
      clear hbt hrr hfr hl1 hz hbb
      go_wp2_with fail
      go_roundw
      case rel => exact ⟨j + 1, by omega, by go_num, congrArg (Value.int .i64) (by rw [HZ.out]; push_cast; omega), HR2.out, HB2.out⟩
      case measure => simp [intOf]; omega
    · have hje : j = n := by omega
      have HV : Hid (RowAt wr b cap (markR n k)) := by
        have e : ((List.range n).map fun (x : Nat) => if x < j then mk3 (k + (x : Int)) else (r[x]?).getD false) = markR n k := by
          refine List.ext_getElem (by simp [markR]) fun i a c => ?_
          have : i < j := by rw [hje]; simpa using a
          simp [markR, this]
        rw [← e]; exact HR.out
      have HJ : Hid (k + (n : Int) = k + (j : Int)) := by rw [hje]; rfl
      clear hje hrw hbt
      go_wp2_with fail
      go_ret
      exact ⟨ret_int HJ.out.symm, HV.out, HB.out⟩

set_option maxHeartbeats 400000 in
theorem heldBools_calls (n : Nat) (c : Value) (k : Int) (w : World) (hr : BIn w (markR n k) c) (h0 : 0 ≤ k) (h1 : k + (n : Int) ≤ 1152921504606846976) :
    Calls Try.prog 70 #[c, .int .i64 k] w fun e w' => e = .returned (.int .i64 (k + (n : Int))) ∧ Below w.heap.size w w' := by
  have HR := mkHid hr
  obtain ⟨ad, cap, rfl, hl, hm, -⟩ := hr
  unfold maxLen at hm
  rw [markR_length] at hl ⊢
  go_enter Try.func70, Try.ntmps70
  go_wp2_with fail
  go_loopw [1, 5] (fun q i wr => ∃ j : Nat, j ≤ n ∧ i = .int .i64 j ∧ q = .int .i64 (k + j) ∧ Below w.heap.size w wr) (fun _ i _ => n - (intOf i).toNat)
  case atStart => exact ⟨0, Nat.zero_le _, rfl, by simp, Below.refl _ _⟩
  case round =>
    obtain ⟨j, hj, rfl, rfl, hb⟩ := hrel
    have HB := mkHid hb
    by_cases hlt : j < n
    · obtain ⟨bl, off, rfl, -, c0⟩ := (HR.out.next hb).at j (by rw [markR_length]; exact hlt)
      rw [markR_at] at c0
      obtain ⟨z, hz⟩ : ∃ z, z = k + (j : Int) := ⟨_, rfl⟩
      rw [← hz] at c0 ⊢
      have hz0 : 0 ≤ z := by omega
      have hz1 : z + 1 ≤ 1152921504606846976 := by omega
      have HZ := mkHid hz
      unfold mk3 at c0
      have t1 : ((z % 3 == 0) != (z % 3 == 0)) = false := by simp
      clear hb hz
      go_wp2_with fail
      go_roundw
      case rel => exact ⟨j + 1, by omega, by go_num, congrArg (Value.int .i64) (by rw [HZ.out]; push_cast; omega), HB.out⟩
      case measure => simp [intOf]; omega
    · have hje : j = n := by omega
      have HJ : Hid (k + (n : Int) = k + (j : Int)) := by rw [hje]; rfl
      clear hje hb
      go_wp2_with fail
      go_ret
      exact ⟨ret_int HJ.out.symm, HB.out⟩

/-- the first rows are marked -/
def partN (g : List (List Bool)) (k : Int) (i : Nat) : List (List Bool) := (markG (g.map (·.length)) k).take i ++ g.drop i
theorem partN_zero (g : List (List Bool)) (k : Int) : partN g k 0 = g := by simp [partN]
theorem partN_end (g : List (List Bool)) (k : Int) : partN g k g.length = markG (g.map (·.length)) k := by
  unfold partN
  rw [List.drop_length, List.append_nil, List.take_of_length_le (by rw [markG_length, List.length_map]; exact Nat.le_refl _)]
theorem partN_length (g : List (List Bool)) (k : Int) (i : Nat) (h : i ≤ g.length) : (partN g k i).length = g.length := by
  unfold partN
  rw [List.length_append, List.length_take, markG_length, List.length_map, List.length_drop]
  omega
theorem partN_at (g : List (List Bool)) (k : Int) (i : Nat) (h : i < g.length) (h' : i < (partN g k i).length) : (partN g k i)[i] = g[i] := by
  unfold partN at h' ⊢
  rw [List.getElem_append_right (by rw [List.length_take, markG_length, List.length_map]; omega)]
  simp only [List.length_take, markG_length, List.length_map, List.getElem_drop]
  congr 1
  omega
theorem partN_set (g : List (List Bool)) (k : Int) (i : Nat) (h : i < g.length) : (partN g k i).set i (markR g[i].length (k + (((g.map (·.length)).take i).sum : Nat))) = partN g k (i + 1) := by
  have hm : i < (markG (g.map (·.length)) k).length := by rw [markG_length, List.length_map]; exact h
  have e : markR g[i].length (k + (((g.map (·.length)).take i).sum : Nat)) = (markG (g.map (·.length)) k)[i] := by
    rw [markG_at (by rw [List.length_map]; exact h)]
    simp
  rw [e]
  unfold partN
  rw [List.take_succ_eq_append_getElem hm, List.drop_eq_getElem_cons h, List.set_append_right _ _ (by rw [List.length_take]; omega)]
  have hl : ((markG (g.map (·.length)) k).take i).length = i := by rw [List.length_take]; omega
  rw [hl, Nat.sub_self, List.set_cons_zero, List.append_assoc, List.singleton_append]

set_option maxRecDepth 100000 in
set_option maxHeartbeats 800000 in
theorem markNeeds_calls (g : List (List Bool)) (lo : Nat) (c : Value) (k : Int) (w : World) (hr : NOwn w lo g c) (h0 : 0 ≤ k) (h1 : k ≤ 576460752303423488) (h2 : g.length ≤ 1048576) (h3 : (g.map (·.length)).sum ≤ 1048576) :
    Calls Try.prog 23 #[c, .int .i64 k] w fun e w' => e = .returned (.int .i64 (k + ((g.map (·.length)).sum : Nat))) ∧ NOwn w' lo (markG (g.map (·.length)) k) c ∧ Below lo w w' := by
  have HS : Hid (NOwn w lo (partN g k 0) c) := by rw [partN_zero]; exact hr
  obtain ⟨ad, cap, rfl, hl, hm⟩ := hr.form
  unfold maxLen at hm
  clear hr
  go_enter Try.func23, Try.ntmps23
  go_wp2_with fail
  go_loopw [1, 5] (fun q i wr => ∃ (j : Nat) (z : Int), j ≤ g.length ∧ i = .int .i64 j ∧ q = .int .i64 z ∧ Hid (z = k + (((g.map (·.length)).take j).sum : Nat)) ∧ NOwn wr lo (partN g k j) (.slice ad g.length cap) ∧ Below lo w wr) (fun _ i _ => g.length - (intOf i).toNat)
  case atStart => exact ⟨0, k, Nat.zero_le _, rfl, rfl, by simp [Hid], HS.out, Below.refl _ _⟩
  case round =>
    obtain ⟨j, z, hj, rfl, rfl, HZ, hown, hb⟩ := hrel
    have HO := mkHid hown
    have HB := mkHid hb
    clear hown hb
    by_cases hlt : j < g.length
    · have hjp : j < (partN g k j).length := by rw [partN_length _ _ _ hj]; exact hlt
      obtain ⟨b, rb, rc, rfl, c0, hrb, hra, hset⟩ := HO.out.row j hjp
      rw [partN_at g k j hlt hjp] at c0 hra hset
      have hs1 := sum_take_succ (g.map (·.length)) j (by rw [List.length_map]; exact hlt)
      have hs2 := sum_take_le (g.map (·.length)) (j + 1)
      rw [List.getElem_map] at hs1
      have hzz := HZ.out
      have HMB := mkHid (markBools_calls g[j] rb rc z wr hra (by omega) (by omega))
      have HSET := mkHid hset
      have HS1 := mkHid hs1
      obtain ⟨n, hn⟩ : ∃ n, n = g[j].length := ⟨_, rfl⟩
      rw [← hn] at c0 HMB
      have HN := mkHid hn
      clear hset hra hs1 hs2 hzz hn
      go_wp2_with fail
      refine HMB.out.mono ?_
      rintro e w3 ⟨rfl, hr3, hb3⟩
      have HO3 : Hid (NOwn w3 lo (partN g k (j + 1)) (.slice (some ⟨b, 0, none⟩) g.length cap)) := by
        have h := HSET.out (markR n z) w3 (by rw [markR_length, HN.out]) hr3 hb3.2.2.2.2
        rw [HZ.out, HN.out, partN_set g k j hlt] at h
        exact h
      have HB3 : Hid (Below lo w w3) := HB.out.trans (hb3.below hrb)
      have HZ3 : Hid (z + (n : Int) = k + (((g.map (·.length)).take (j + 1)).sum : Nat)) := by rw [Hid, HZ.out, HS1.out, HN.out]; push_cast; omega
      clear hr3 hb3 c0
      go_wp2_with fail
      go_roundw
      case rel => exact ⟨j + 1, _, by omega, by go_num, rfl, HZ3, HO3.out, HB3.out⟩
      case measure => simp [intOf]; omega
    · have hje : j = g.length := by omega
      have HV : Hid (NOwn wr lo (markG (g.map (·.length)) k) (.slice ad g.length cap)) := by rw [← partN_end, ← hje]; have := HO.out; rw [hje] at this ⊢; exact this
      have HJ : Hid (k + ((g.map (·.length)).sum : Nat) = z) := by rw [Hid, HZ.out, hje, List.take_of_length_le (by rw [List.length_map]; exact Nat.le_refl _)]
      clear hje
      go_wp2_with fail
      go_ret
      exact ⟨ret_int HJ.out.symm, HV.out, HB.out⟩

set_option maxRecDepth 100000 in
set_option maxHeartbeats 800000 in
theorem heldNeeds_calls (ns : List Nat) (c : Value) (k : Int) (w : World) (hr : NIn w (markG ns k) c) (h0 : 0 ≤ k) (h1 : k ≤ 576460752303423488) (h3 : ns.sum ≤ 1048576) :
    Calls Try.prog 24 #[c, .int .i64 k] w fun e w' => e = .returned (.int .i64 (k + (ns.sum : Nat))) ∧ Below w.heap.size w w' := by
  have HR := mkHid hr
  obtain ⟨ad, cap, rfl, hl, hm, -⟩ := hr
  unfold maxLen at hm
  rw [markG_length] at hl HR ⊢
  go_enter Try.func24, Try.ntmps24
  go_wp2_with fail
  go_loopw [1, 5] (fun q i wr => ∃ (j : Nat) (z : Int), j ≤ ns.length ∧ i = .int .i64 j ∧ q = .int .i64 z ∧ Hid (z = k + ((ns.take j).sum : Nat)) ∧ Below w.heap.size w wr) (fun _ i _ => ns.length - (intOf i).toNat)
  case atStart => exact ⟨0, k, Nat.zero_le _, rfl, rfl, by simp [Hid], Below.refl _ _⟩
  case round =>
    obtain ⟨j, z, hj, rfl, rfl, HZ, hb⟩ := hrel
    have HB := mkHid hb
    by_cases hlt : j < ns.length
    · obtain ⟨b, off, rv, rfl, -, c0, hrow⟩ := (HR.out.next hb).at j (by rw [markG_length]; exact hlt)
      rw [markG_at hlt, ← HZ.out] at hrow
      have hs1 := sum_take_succ ns j hlt
      have hs2 := sum_take_le ns (j + 1)
      have hzz := HZ.out
      have hz0 : 0 ≤ z := by omega
      have hnn : z + (ns[j] : Int) ≤ 1152921504606846976 := by omega
      have HMB := mkHid (heldBools_calls ns[j] rv z wr hrow hz0 hnn)
      obtain ⟨adr, capr, rfl, -, -, -⟩ := hrow
      have HS1 := mkHid hs1
      obtain ⟨n, hn⟩ : ∃ n, n = ns[j] := ⟨_, rfl⟩
      rw [← hn] at HMB hnn c0
      have HN := mkHid hn
      have hnz : ¬ (z + (n : Int) < 0) := by omega
      clear hs1 hs2 hzz hn hb
      generalize (markR n z).length = m at c0 HMB
      go_wp2_with fail
      refine HMB.out.mono ?_
      rintro e w3 ⟨rfl, hb3⟩
      have HB3 : Hid (Below w.heap.size w w3) := HB.out.trans (hb3.mono HB.out.size)
      have HZ3 : Hid (z + (n : Int) = k + ((ns.take (j + 1)).sum : Nat)) := by rw [Hid, HZ.out, HS1.out, HN.out]; push_cast; omega
      clear hb3 c0
      go_wp2_with fail
      go_roundw
      case rel => exact ⟨j + 1, _, by omega, by go_num, rfl, HZ3, HB3.out⟩
      case measure => simp [intOf]; omega
    · have hje : j = ns.length := by omega
      have HJ : Hid (k + (ns.sum : Nat) = z) := by rw [Hid, HZ.out, hje, List.take_of_length_le (Nat.le_refl _)]
      clear hje hb
      go_wp2_with fail
      go_ret
      exact ⟨ret_int HJ.out.symm, HB.out⟩
end Go.Proofs.Ytocnkjicmchbdaa
/-
  THE LAWS' COPY OF A PROGRAM, WITH ALL ITS BLOCKS: they are distinct.
-/
namespace Go.Proofs.Ytocnkjicmchbdaa
set_option linter.unusedVariables false
set_option linter.unusedSimpArgs false
open Go.RowKit

/-- a function whose body's operands have these blocks -/
def DfFp (w : World) (d : Df) (fp : List Nat) (a b c e : Value) : Prop := a = .int .i64 d.1 ∧ I64 d.1 ∧ TrFp w 31 d.2 fp b c e
/-- a program in a row of its own, with all its blocks -/
def DefsFp (w : World) (ds : List Df) (fp : List Nat) (v : Value) : Prop :=
  ∃ (bl : Nat) (f : Nat → Value) (fps : List (List Nat)), v = .slice (some ⟨bl, 0, none⟩) ds.length ds.length ∧ ds.length ≤ 1048576 ∧ w.rowIs bl 84 (ds.length * 4) f ∧ fp = bl :: fps.flatten ∧ fps.length = ds.length ∧ ∀ i (hi : i < ds.length) (hi2 : i < fps.length), DfFp w ds[i] fps[i] (f (i * 4)) (f (i * 4 + 1)) (f (i * 4 + 2)) (f (i * 4 + 3))
theorem DefsFp.keep {w w' : World} {ds : List Df} {fp : List Nat} {v : Value} (h : DefsFp w ds fp v) (hw : ∀ k ∈ fp, w'.heap[k]? = w.heap[k]?) : DefsFp w' ds fp v := by
  obtain ⟨bl, f, fps, e, l1, hr, rfl, hl, hi⟩ := h
  refine ⟨bl, f, fps, e, l1, hr.of_block (hw bl (List.mem_cons_self ..)), rfl, hl, fun i h1 h2 => ?_⟩
  obtain ⟨a1, a2, a3⟩ := hi i h1 h2
  exact ⟨a1, a2, TrFp.keep _ _ _ _ _ (fun k hk => hw k (List.mem_cons_of_mem _ (List.mem_flatten.2 ⟨_, List.getElem_mem h2, hk⟩))) a3⟩
theorem DefsFp.lt {w : World} {ds : List Df} {fp : List Nat} {v : Value} (h : DefsFp w ds fp v) : ∀ k ∈ fp, k < w.heap.size := by
  obtain ⟨bl, f, fps, e, l1, hr, rfl, hl, hi⟩ := h
  intro k hk
  rcases List.mem_cons.1 hk with rfl | hk
  · exact hr.lt
  · obtain ⟨g, hg, hk⟩ := List.mem_flatten.1 hk
    obtain ⟨i, h2, rfl⟩ := List.getElem_of_mem hg
    exact TrFp.lt _ _ _ _ _ (hi i (by omega) h2).2.2 k hk
theorem DefsFp.on {w : World} {S : Nat → Prop} {ds : List Df} {fp : List Nat} {v : Value} (h : DefsFp w ds fp v) (hS : ∀ k ∈ fp, S k) : DefsOn w S ds v := by
  obtain ⟨bl, f, fps, rfl, l1, hr, rfl, hl, hi⟩ := h
  refine ⟨_, _, rfl, Nat.le_refl _, by unfold maxLen; omega, Or.inr ⟨bl, 0, rfl, hS bl (List.mem_cons_self ..), fun i h1 => ?_⟩⟩
  obtain ⟨a1, a2, a3⟩ := hi i h1 (by omega)
  refine ⟨f (i * 4), f (i * 4 + 1), f (i * 4 + 2), f (i * 4 + 3), ?_, ?_, ?_, ?_, a1, a2, TrFp.on _ _ _ _ _ (fun k hk => hS k (List.mem_cons_of_mem _ (List.mem_flatten.2 ⟨_, List.getElem_mem _, hk⟩))) a3⟩
  · simpa using hr.cell (i := i * 4) (by omega)
  · simpa [Nat.zero_add] using hr.cell (i := i * 4 + 1) (by omega)
  · simpa [Nat.zero_add] using hr.cell (i := i * 4 + 2) (by omega)
  · simpa [Nat.zero_add] using hr.cell (i := i * 4 + 3) (by omega)
theorem DefsFp.plain {w : World} {ds : List Df} {fp : List Nat} {v : Value} (h : DefsFp w ds fp v) : ∀ k ∈ fp, Pl w k := by
  obtain ⟨bl, f, fps, rfl, l1, hr, rfl, hl, hi⟩ := h
  intro k hk
  rcases List.mem_cons.1 hk with rfl | hk
  · obtain ⟨C, T', e⟩ := row_plain hr
    exact ⟨hr.lt, C, T', e⟩
  · obtain ⟨g, hg, hk⟩ := List.mem_flatten.1 hk
    obtain ⟨i, h2, rfl⟩ := List.getElem_of_mem hg
    exact TrFp.plain _ _ _ _ _ (hi i (by omega) h2).2.2 k hk

/-- trees of a call's own can be read -/
theorem fresh_inn {w : World} {lo : Nat} {ks : List Tr} {c : Value} (h : Fresh w lo ks c) : In w ks c := by
  obtain ⟨fp, h1, -, -⟩ := h
  exact h1.on h1.lt
theorem Fresh.down {w : World} {lo lo' : Nat} {ks : List Tr} {c : Value} (h : Fresh w lo ks c) (hl : lo' ≤ lo) : Fresh w lo' ks c := by
  obtain ⟨fp, h1, h2, h3⟩ := h
  exact ⟨fp, h1, h2, fun k hk => Nat.le_trans hl (h3 k hk)⟩
theorem Fresh.setC {w : World} {lo : Nat} {ks : List Tr} {c : Value} (h : Fresh w lo ks c) {a : Addr} (ha : a.block < lo) (u : Value) : Fresh (w.setCell a u) lo ks c := by
  obtain ⟨fp, h1, h2, h3⟩ := h
  exact ⟨fp, h1.keep fun k hk => Below.heap_setCell _ _ _ _ (by have := h3 k hk; omega), h2, h3⟩
/-! ### The copy -/
def NewDfF (a o n : Int) (ks : List Tr) (w : World) (e : Ending) (w' : World) : Prop := ∃ v, e = .returned (.agg #[.int .i64 a, .int .i64 o, .int .i64 n, v]) ∧ Fresh w' w.heap.size ks v ∧ Below w.heap.size w w'
def NewDefsF (ds : List Df) (w : World) (e : Ending) (w' : World) : Prop := ∃ v fp, e = .returned v ∧ DefsFp w' ds fp v ∧ fp.Nodup ∧ (∀ k ∈ fp, w.heap.size ≤ k) ∧ Below w.heap.size w w'

set_option maxHeartbeats 400000 in
theorem toDef_callsF (a o n : Int) (ks : List Tr) (c : Value) (w : World) (hk : In w ks c) (hsz : szL ks ≤ 1048576) : Calls Try.prog 62 #[.agg #[.int .i64 a, .int .i64 o, .int .i64 n, c]] w (NewDfF a o n ks w) := by
  have HK : Hid (In w ks c) := hk
  clear hk
  go_enter Try.func62, Try.ntmps62
  go_wp2_with fail
  refine (fto_calls ks _ _ c _ ?_ hsz).mono ?_
  · exact HK.out.next ((((Below.refl _ _).alloc (Nat.le_refl _) _).alloc (by simp) _).alloc (by simp; omega) _)
  rintro e w1 ⟨v, rfl, hv, hb⟩
  obtain ⟨hc, hf⟩ := bcell hb
  have hz : w.heap.size + 2 < w1.heap.size := by have := hb.size; simp at this; omega
  have hlo : w.heap.size + 3 ≤ w1.heap.size := by omega
  have HV : Hid (Fresh w1 (w.heap.size + 3) ks v) := by obtain ⟨fp, h1, h2, h3⟩ := hv; exact ⟨fp, h1, h2, fun k hk => by have := h3 k hk; simpa using this⟩
  have hv := HV.out
  have HB : Hid (Below w.heap.size w w1) := ((((Below.refl _ _).alloc (Nat.le_refl _) _).alloc (by simp) _).alloc (by simp; omega) _).trans (hb.mono (by simp; omega))
  obtain ⟨ad, cap, rfl, -, -, -⟩ := (fresh_inn hv)
  clear hb hv
  go_wp2_with fail
  refine bodyPost_ret (v := .agg #[.int .i64 a, .int .i64 o, .int .i64 n, .slice ad ks.length cap]) (by simp [results, Try.results62, go_sem, hc, hf, hz]) rfl ⟨_, rfl, ?_, ?_⟩
  · refine Fresh.down (lo := w.heap.size + 3) ?_ (by omega)
    repeat' (refine Fresh.setC ?_ (by simp <;> omega) _)
    exact HV.out
  · repeat' (refine Below.setCell ?_ (by simp <;> omega) _)
    exact HB.out

/-- what holds of the copy of a program behind k rounds -/
def ToDRelF (ds : List Df) (w : World) (k : Nat) (wr : World) : Prop :=
  ∃ (f : Nat → Value) (fps : List (List Nat)), wr.rowIs w.heap.size 84 (ds.length * 4) f ∧ fps.length = k ∧ fps.flatten.Nodup ∧ (∀ x ∈ fps.flatten, w.heap.size + 1 ≤ x ∧ x < wr.heap.size) ∧ (∀ j (_ : j < k) (hj : j < ds.length) (hj2 : j < fps.length), DfFp wr ds[j] fps[j] (f (j * 4)) (f (j * 4 + 1)) (f (j * 4 + 2)) (f (j * 4 + 3))) ∧ Below w.heap.size w wr

theorem toDRel_startF (ds : List Df) (w : World) (C : Array Value) (h : C.size = ds.length * 4) : ToDRelF ds w 0 (w.alloc (.cells C 84)) := by
  refine ⟨fun i => C.getD i undef, [], ⟨C, Deep.blk_alloc_new _ _, h, fun i hi => ?_⟩, rfl, by simp, by simp, fun j hj => absurd hj (by omega), (Below.refl _ _).alloc (Nat.le_refl _) _⟩
  simp [Array.getElem?_eq_getElem (h ▸ hi : i < C.size), Array.getD, (h ▸ hi : i < C.size)]

theorem toDRel_stepF (ds : List Df) (w wr w1 : World) (k : Nat) (hk : k < ds.length) (h : ToDRelF ds w k wr) (v : Value) (hb : Below wr.heap.size wr w1) (hv : Fresh w1 wr.heap.size (ds[k]).2.kids v) (ha : I64 (ds[k]).1) (ho : I64 (ds[k]).2.op) (hn : I64 (ds[k]).2.num) :
    ToDRelF ds w (k + 1) (stD w1 w.heap.size k ds[k] v) := by
  obtain ⟨f, fps, hr, hl, hnd, hlo, ht, hbw⟩ := h
  obtain ⟨fp, g1, g2, g3⟩ := hv
  have hlt := hr.lt
  have hsz := hb.size
  have hr1 : w1.rowIs w.heap.size 84 (ds.length * 4) f := hr.of_block (hb.block _ hlt)
  have hbl : ∀ x, x ≠ w.heap.size → (stD w1 w.heap.size k ds[k] v).heap[x]? = w1.heap[x]? := fun x hx => by
    unfold stD
    rw [Below.heap_setCell _ _ _ _ hx, Below.heap_setCell _ _ _ _ hx, Below.heap_setCell _ _ _ _ hx, Below.heap_setCell _ _ _ _ hx]
  have hss : (stD w1 w.heap.size k ds[k] v).heap.size = w1.heap.size := by unfold stD; rw [size_setCell, size_setCell, size_setCell, size_setCell]
  have hfl : (fps ++ [fp]).flatten = fps.flatten ++ fp := by simp
  refine ⟨_, fps ++ [fp], (((hr1.set (k * 4) _).set (k * 4 + 1) _).set (k * 4 + 2) _).set (k * 4 + 3) _, by simp [hl], ?_, ?_, fun j hj hjl hj2 => ?_, ?_⟩
  · rw [hfl, List.nodup_append]
    exact ⟨hnd, g2, fun a ha b hb e => by subst e; have := (hlo a ha).2; have := g3 a hb; omega⟩
  · intro x hx
    rw [hfl] at hx
    rw [hss]
    rcases List.mem_append.1 hx with hx | hx
    · have := hlo x hx; omega
    · have := g3 x hx; have := g1.lt x hx; omega
  · by_cases hjk : j = k
    · subst hjk
      have e : (fps ++ [fp])[j] = fp := by rw [List.getElem_append_right (by omega)]; simp [hl]
      rw [e]
      refine ⟨by simp, ha, ?_⟩
      simp only [if_neg (show ¬ (j * 4 + 1 = j * 4 + 3) by omega), if_neg (show ¬ (j * 4 + 1 = j * 4 + 2) by omega), if_neg (show ¬ (j * 4 + 2 = j * 4 + 3) by omega), if_true]
      exact trFp_iff.2 ⟨rfl, rfl, ho, hn, g1.keep fun x hx => hbl x (by have := g3 x hx; omega)⟩
    · have hjl2 : j < fps.length := by omega
      obtain ⟨h01, h02, h03⟩ := ht j (by omega) hjl hjl2
      have e : (fps ++ [fp])[j] = fps[j] := List.getElem_append_left hjl2
      rw [e]
      have keep := TrFp.keep _ _ _ _ _ (w' := stD w1 w.heap.size k ds[k] v) (fun x hx => by have := hlo x (List.mem_flatten.2 ⟨_, List.getElem_mem hjl2, hx⟩); exact (hbl x (by omega)).trans (hb.block x this.2)) h03
      have e1 : ∀ m, m < 4 → j * 4 + m ≠ k * 4 + 3 ∧ j * 4 + m ≠ k * 4 + 2 ∧ j * 4 + m ≠ k * 4 + 1 ∧ j * 4 + m ≠ k * 4 := fun m hm => by omega
      have a0 := e1 0 (by omega)
      have a1 := e1 1 (by omega)
      have a2 := e1 2 (by omega)
      have a3 := e1 3 (by omega)
      simp only [Nat.add_zero] at a0
      refine ⟨?_, h02, ?_⟩
      · simp only [if_neg a0.1, if_neg a0.2.1, if_neg a0.2.2.1, if_neg a0.2.2.2]; exact h01
      · simp only [if_neg a1.1, if_neg a1.2.1, if_neg a1.2.2.1, if_neg a1.2.2.2, if_neg a2.1, if_neg a2.2.1, if_neg a2.2.2.1, if_neg a2.2.2.2, if_neg a3.1, if_neg a3.2.1, if_neg a3.2.2.1, if_neg a3.2.2.2]
        exact keep
  · unfold stD
    exact ((((hbw.trans (hb.mono (Nat.le_of_lt hlt))).setCell (by simp) _).setCell (by simp) _).setCell (by simp) _).setCell (by simp) _

theorem toDRel_endF (ds : List Df) (w wr : World) (h : ToDRelF ds w ds.length wr) (hl : ds.length ≤ 1048576) : NewDefsF ds w (.returned (.slice (some ⟨w.heap.size, 0, none⟩) ds.length ds.length)) wr := by
  obtain ⟨f, fps, hr, h1, h2, h3, h4, h5⟩ := h
  refine ⟨_, w.heap.size :: fps.flatten, rfl, ⟨w.heap.size, f, fps, rfl, hl, hr, rfl, h1, fun i hi hi2 => h4 i hi hi hi2⟩, ?_, ?_, h5⟩
  · rw [List.nodup_cons]
    exact ⟨fun hm => by have := (h3 _ hm).1; omega, h2⟩
  · intro k hk
    rcases List.mem_cons.1 hk with rfl | hk
    · exact Nat.le_refl _
    · have := (h3 k hk).1; omega

set_option maxHeartbeats 400000 in
theorem toDefS_callsF (ds : List Df) (c : Value) (w : World) (hk : DIn w ds c) (hsz : szL (bodies ds) ≤ 1048576) : Calls Try.prog 19 #[c] w (NewDefsF ds w) := by
  have HK : Hid (DIn w ds c) := hk
  have HZ : Hid (szL (bodies ds) ≤ 1048576) := hsz
  have hlen : ds.length ≤ 1048576 := by rw [szL_sum, bodies_length] at hsz; omega
  clear hsz
  obtain ⟨ad, cap, rfl, -, -, -⟩ := hk
  obtain ⟨C, hC, hmk⟩ := make_defs ds.length hlen
  have HC : Hid (C.size = ds.length * 4) := hC
  clear hC
  go_enter Try.func19, Try.ntmps19
  go_wp2_with fail
  go_loopw [4] (fun i wr => ∃ k : Nat, k ≤ ds.length ∧ i = .int .i64 k ∧ ToDRelF ds w k wr) (fun i _ => ds.length - (intOf i).toNat)
  case atStart => exact ⟨0, Nat.zero_le _, rfl, toDRel_startF ds w C HC.out⟩
  case round =>
    obtain ⟨k, hk, rfl, hto⟩ := hrel
    have HT : Hid (ToDRelF ds w k wr) := hto
    obtain ⟨f, fps0, hr0, -, -, -, -, hb⟩ := hto
    have hlt0 := hr0.lt
    by_cases hlt : k < ds.length
    · obtain ⟨bl, off, r, rfl, c0, c1, c2, c3, ia, io, iN, hkk⟩ := (HK.out.next hb).at k hlt
      have HKK : Hid (In wr ds[k].2.kids r) := hkk
      have hkz : szL ds[k].2.kids ≤ 1048576 := by have := szL_body_le ds k hlt; have := HZ.out; omega
      have HR : Hid (wr.rowIs w.heap.size 84 (ds.length * 4) f) := hr0
      clear hkk hr0 hb
      go_wp2_with fail
      refine (toDef_callsF _ _ _ ds[k].2.kids r _ HKK.out hkz).mono ?_
      rintro e w1 ⟨v, rfl, hv, hb1⟩
      have hr1 : w1.rowIs w.heap.size 84 (ds.length * 4) f := HR.out.of_block (hb1.block _ hlt0)
      have HS : Hid (ToDRelF ds w (k + 1) (stD w1 w.heap.size k ds[k] v)) := toDRel_stepF ds w wr w1 k hlt HT.out v hb1 hv ia io iN
      obtain ⟨ad2, cap2, rfl, _, _, _⟩ := (fresh_inn hv)
      have g0 := hr1.cell (i := k * 4) (by omega)
      have g1 := hr1.cell (i := k * 4 + 1) (by omega)
      have g2 := hr1.cell (i := k * 4 + 2) (by omega)
      have g3 := hr1.cell (i := k * 4 + 3) (by omega)
      have f0 := hr1.frozen (k * 4)
      have f1 := hr1.frozen (k * 4 + 1)
      have f2 := hr1.frozen (k * 4 + 2)
      have f3 := hr1.frozen (k * 4 + 3)
      clear hr1 hb1 hv
      go_wp2_with fail
      go_roundw
      case rel => exact ⟨k + 1, by omega, by go_num, HS.out⟩
      case measure => simp [intOf]; omega
    · have hke : ds.length = k := by omega
      have HV : Hid (NewDefsF ds w (.returned (.slice (some ⟨w.heap.size, 0, none⟩) ds.length ds.length)) wr) := by subst hke; exact toDRel_endF ds w wr HT.out hlen
      clear hke hr0 hb
      go_wp2_with fail
      go_ret
      exact HV.out
end Go.Proofs.Ytocnkjicmchbdaa
/-
  THE LAWS' OWN MARKING OF TREES, THE WALK: markExprS, markExpr.
-/
namespace Go.Proofs.Ytocnkjicmchbdaa
set_option linter.unusedVariables false
set_option linter.unusedSimpArgs false
open Go.RowKit

/-- the contract of markExprS at one list -/
def MarkSSaid (ks : List Tr) : Prop := ∀ (fp : List Nat) (c : Value) (k : Int) (w : World), KidsFp w 31 ks fp c → fp.Nodup → 0 ≤ k → k + 2 * (szL ks : Int) ≤ 1152921504606846976 →
  Calls Try.prog 47 #[c, .int .i64 k] w fun e w' => e = .returned (.int .i64 (k + 2 * (szL ks : Int))) ∧ KidsFp w' 31 (labL ks k) fp c ∧ ButL fp w w'

/-- a list of which the first j elements are marked -/
def Half (ks : List Tr) (k : Int) (j : Nat) (ms : List Tr) : Prop := ms.length = ks.length ∧ ∀ i (hi : i < ks.length) (hm : i < ms.length), ms[i] = if i < j then .node (labAt ks k i) (labAt ks k i + 1) (labL ks[i].kids (labAt ks k i + 2)) else ks[i]
theorem Half.zero (ks : List Tr) (k : Int) : Half ks k 0 ks := ⟨rfl, fun i hi hm => by simp⟩
theorem Half.step {ks ms : List Tr} {k : Int} {j : Nat} (h : Half ks k j ms) (hj : j < ks.length) : Half ks k (j + 1) (ms.set j (.node (labAt ks k j) (labAt ks k j + 1) (labL ks[j].kids (labAt ks k j + 2)))) := by
  refine ⟨by rw [List.length_set]; exact h.1, fun i hi hm => ?_⟩
  rw [List.getElem_set]
  by_cases hij : j = i
  · subst hij; simp
  · rw [if_neg hij, h.2 i hi (by rw [h.1]; exact hi)]
    by_cases hlt : i < j
    · rw [if_pos hlt, if_pos (by omega)]
    · rw [if_neg hlt, if_neg (by omega)]
theorem Half.done {ks ms : List Tr} {k : Int} (h : Half ks k ks.length ms) : ms = labL ks k := by
  refine List.ext_getElem (by rw [h.1, labL_length]) fun i h1 h2 => ?_
  have hi : i < ks.length := by rw [← h.1]; exact h1
  rw [h.2 i hi h1, if_pos hi, labL_get ks k i hi]
theorem Half.at {ks ms : List Tr} {k : Int} {j : Nat} (h : Half ks k j ms) (hj : j < ks.length) (hm : j < ms.length) : ms[j] = ks[j] := by rw [h.2 j hj hm, if_neg (by omega)]

/-- one round's worlds -/
theorem markS_after {T : TypeId} {w w1 : World} {bl off : Nat} {ks ms : List Tr} {fps : List (List Nat)} {C : Array Value} {k : Int} {j : Nat} {f : List Nat} {r : Value} (hC : w.heap[bl]? = some (.cells C T)) (hr : RowFp w T bl off ms fps) (hn : (bl :: fps.flatten).Nodup)
    (hk : 0 ≤ labAt ks k j ∧ labAt ks k j ≤ 1152921504606846976) (hj : j < ks.length) (hh : Half ks k j ms) (hf : fps[j]? = some f) (hc : w.cell? ⟨bl, off + j * 3 + 2, none⟩ = some r) {x : Int} (hx : x = labAt ks k j + 2)
    (h1 : KidsFp w1 T (labL ks[j].kids x) f r) (hb : ButL f ((w.setCell ⟨bl, off + j * 3, none⟩ (.int .i64 (labAt ks k j))).setCell ⟨bl, off + j * 3 + 1, none⟩ (.int .i64 (labAt ks k j + 1))) w1) :
    RowFp w1 T bl off (ms.set j (.node (labAt ks k j) (labAt ks k j + 1) (labL ks[j].kids (labAt ks k j + 2)))) fps ∧ (∃ C', w1.heap[bl]? = some (.cells C' T)) ∧ ButL (bl :: fps.flatten) w w1 := by
  subst hx
  have := RowFp.mark hC hr hn j (by rw [hh.1]; exact hj) (labAt ks k j) (labAt ks k j + 1) (by unfold I64; omega) (by unfold I64; omega) f hf r hc _ h1 hb
  refine ⟨this.1, this.2, ?_⟩
  have hm : ∀ k ∈ f, k ∈ bl :: fps.flatten := fun k hk => List.mem_cons_of_mem _ (List.mem_flatten.2 ⟨f, List.mem_of_getElem? hf, hk⟩)
  exact ((ButL.setCell w bl _ (by simp) _).trans (ButL.setCell _ bl _ (by simp) _)).trans (hb.mono hm)

set_option maxHeartbeats 800000 in
theorem markS_step (ks : List Tr) (ih : ∀ i (hi : i < ks.length), MarkSSaid (ks[i]).kids) : MarkSSaid ks := by
  intro fp c k w hk hn h0 h1
  have HI : Hid (∀ i (hi : i < ks.length), MarkSSaid (ks[i]).kids) := ih
  have HK : Hid (KidsFp w 31 ks fp c) := hk
  have HN : Hid fp.Nodup := hn
  clear ih hn
  obtain ⟨ad, cap, rfl, hl, hm, hrow⟩ := hk
  unfold maxLen at hm
  clear hrow
  go_enter Try.func47, Try.ntmps47
  go_wp2_with fail
  go_loopw [1, 5] (fun l i wr => ∃ j : Nat, ∃ ms, j ≤ ks.length ∧ i = .int .i64 j ∧ l = .int .i64 (labAt ks k j) ∧ Half ks k j ms ∧ KidsFp wr 31 ms fp (.slice ad ks.length cap) ∧ ButL fp w wr) (fun _ i _ => ks.length - (intOf i).toNat)
  case atStart => exact ⟨0, ks, Nat.zero_le _, rfl, by rw [labAt_zero], Half.zero ks k, HK.out, ButL.refl _ _⟩
  case round =>
    obtain ⟨j, ms, hj, rfl, rfl, hhalf, hkr, hb⟩ := hrel
    have hle := labAt_le ks k j
    have HH : Hid (Half ks k j ms) := hhalf
    have HB : Hid (ButL fp w wr) := hb
    have HKR : Hid (KidsFp wr 31 ms fp (.slice ad ks.length cap)) := hkr
    have hml := hhalf.1
    clear hb
    by_cases hlt : j < ks.length
    · obtain ⟨ad', cap', he, _, _, hr⟩ := hkr
      rw [hml] at he
      cases he
      rcases hr with ⟨hr, _⟩ | ⟨bl, off, C, fps, rfl, hC, rfl, hr⟩
      · rw [hr] at hml; simp at hml; omega
      obtain ⟨hfl, f, hf, p, q, r, c0, c1, c2, ht⟩ := RowFp.at ms fps off j (by omega) hr
      rw [hhalf.at hlt] at ht
      obtain ⟨rfl, rfl, _, _, hkk⟩ := trFp_iff.1 ht
      obtain ⟨C1, hC1⟩ := set_block hC (off + j * 3) (.int .i64 (labAt ks k j))
      have f0 := cells_thawed hC (off + j * 3)
      have f1 := cells_thawed hC1 (off + j * 3 + 1)
      have d1 := (set_off hC (show off + j * 3 + 1 ≠ off + j * 3 by omega) (.int .i64 (labAt ks k j))).trans c1
      have d2 := (set_off hC (show off + j * 3 + 2 ≠ off + j * 3 by omega) (.int .i64 (labAt ks k j))).trans c2
      have e2 := (set_off hC1 (show off + j * 3 + 2 ≠ off + j * 3 + 1 by omega) (.int .i64 (labAt ks k j + 1))).trans d2
      have HC : Hid (wr.heap[bl]? = some (.cells C 31)) := hC
      have HR : Hid (RowFp wr 31 bl off ms fps) := hr
      have HF : Hid (fps[j]? = some f) := hf
      have HT : Hid (KidsFp wr 31 ks[j].kids f r) := hkk
      have HC2 : Hid (wr.cell? ⟨bl, off + j * 3 + 2, none⟩ = some r) := c2
      have hs := labAt_succ ks k j hlt
      have hle2 := labAt_le ks k (j + 1)
      clear hkk ht hr hf hC hC1 hhalf
      go_wp2_with fail
      refine (HI.out j hlt f r _ _ ?_ ?_ (by omega) (by omega)).mono ?_
      · have hn' := HN.out
        simp only [List.nodup_cons] at hn'
        refine HT.out.keep fun b hb => ?_
        have hbb : b ≠ bl := fun e => hn'.1 (List.mem_flatten.2 ⟨f, List.mem_of_getElem? HF.out, e ▸ hb⟩)
        exact (Below.heap_setCell _ _ _ _ hbb).trans (Below.heap_setCell _ _ _ _ hbb)
      · have hn' := HN.out
        simp only [List.nodup_cons] at hn'
        exact flatten_one hn'.2 HF.out
      rintro e w1 ⟨rfl, hk1, hb1⟩
      have HM := markS_after (ks := ks) HC.out HR.out HN.out (by omega) hlt HH.out HF.out HC2.out (by omega) hk1 hb1
      have HM' : Hid (RowFp w1 31 bl off (ms.set j (.node (labAt ks k j) (labAt ks k j + 1) (labL ks[j].kids (labAt ks k j + 2)))) fps ∧ (∃ C', w1.heap[bl]? = some (.cells C' 31)) ∧ ButL (bl :: fps.flatten) wr w1) := HM
      clear HM hk1 hb1 f0 f1 d1 d2 e2 c0 c1 c2
      go_wp2_with fail
      go_roundw
      case rel =>
        obtain ⟨m1, ⟨C', m2⟩, m3⟩ := HM'.out
        refine ⟨j + 1, _, by omega, by go_num, congrArg (Value.int .i64) (by omega), HH.out.step hlt, ⟨some ⟨bl, off, none⟩, cap, ?_, ?_, ?_, Or.inr ⟨bl, off, C', fps, rfl, m2, rfl, m1⟩⟩, HB.out.trans m3⟩
        · rw [List.length_set, hml]
        · rw [List.length_set, hml]; exact hl
        · unfold maxLen; omega
      case measure => simp [intOf]; omega
    · have hke : j = ks.length := by omega
      have HV : Hid (k + 2 * (szL ks : Int) = labAt ks k j) := by subst hke; exact (labAt_end ks k).symm
      have HD : Hid (ms = labL ks k) := by subst hke; exact HH.out.done
      clear hke hkr
      go_wp2_with fail
      go_ret
      exact ⟨ret_int HV.out.symm, HD.out ▸ HKR.out, HB.out⟩

theorem markS_any : ∀ (n : Nat) (ks : List Tr), szL ks ≤ n → MarkSSaid ks := by
  intro n
  induction n with
  | zero =>
    intro ks h
    exact markS_step ks fun i hi => absurd (szT_lt_szL ks i hi) (by omega)
  | succ n ih =>
    intro ks h
    exact markS_step ks fun i hi => ih _ (by have := szL_kids_lt ks i hi; omega)

/-- MARKING, FOR EVERY LIST OF TREES WITH DISTINCT BLOCKS -/
theorem markS_calls (ks : List Tr) : MarkSSaid ks := markS_any _ ks (Nat.le_refl _)
end Go.Proofs.Ytocnkjicmchbdaa
/-
  THE LAWS' OWN MARKING OF A PROGRAM (markDefS): the count; no block but its own is changed.
-/
namespace Go.Proofs.Ytocnkjicmchbdaa
set_option linter.unusedVariables false
set_option linter.unusedSimpArgs false
open Go.RowKit

/-- the nodes below the bodies -/
def sumZ (ds : List Df) : Nat := (ds.map fun d => szL d.2.kids).sum
theorem sumZ_take (ds : List Df) (j : Nat) (h : j < ds.length) : sumZ (ds.take (j + 1)) = sumZ (ds.take j) + szL ds[j].2.kids := by
  unfold sumZ; rw [List.take_succ_eq_append_getElem h, List.map_append, List.sum_append]; simp only [List.map_cons, List.map_nil, List.sum_cons, List.sum_nil, Nat.add_zero]
theorem sumZ_le (ds : List Df) (j : Nat) : sumZ (ds.take j) ≤ sumZ ds := by
  have h : sumZ (ds.take j) + sumZ (ds.drop j) = sumZ ds := by
    unfold sumZ
    rw [← List.sum_append, ← List.map_append, List.take_append_drop]
  omega
theorem sumZ_szL (ds : List Df) : sumZ ds + ds.length ≤ szL (bodies ds) := by
  induction ds with
  | nil => simp [sumZ, bodies]
  | cons d ds ih =>
    have h1 : sumZ (d :: ds) = szL d.2.kids + sumZ ds := by simp [sumZ]
    have h2 : szL (bodies (d :: ds)) = 1 + szT d.2 + szL (bodies ds) := by
      show szL (d.2 :: bodies ds) = _
      simp [szL]
    have h3 := szT_eq d.2
    rw [h1, h2, List.length_cons]
    omega
/-- what holds when j functions have been marked -/
structure MD (ds : List Df) (bl : Nat) (fps : List (List Nat)) (g : Nat → Value) (w : World) (j : Nat) (wr : World) : Prop where
  row : ∃ f, wr.rowIs bl 84 (ds.length * 4) f ∧ ∀ i, i < ds.length → f (i * 4 + 3) = g i
  kids : ∀ i (hi : i < ds.length) (hi2 : i < fps.length), j ≤ i → KidsFp wr 31 ds[i].2.kids fps[i] (g i)
  but : ButL (bl :: fps.flatten) w wr
theorem MD.step {ds : List Df} {bl : Nat} {fps : List (List Nat)} {g : Nat → Value} {w wr w1 : World} {j : Nat} (h : MD ds bl fps g w j wr) (hj : j < ds.length) (hj2 : j < fps.length) (hn : (bl :: fps.flatten).Nodup) (x y z : Value)
    (hb : ButL fps[j] (((wr.setCell ⟨bl, j * 4, none⟩ x).setCell ⟨bl, j * 4 + 1, none⟩ y).setCell ⟨bl, j * 4 + 2, none⟩ z) w1) : MD ds bl fps g w (j + 1) w1 := by
  obtain ⟨f, hr, hf⟩ := h.row
  rw [List.nodup_cons] at hn
  have hlt := hr.lt
  have hnot : ∀ i (hi : i < fps.length), bl ∉ fps[i] := fun i hi hm => hn.1 (List.mem_flatten.2 ⟨_, List.getElem_mem hi, hm⟩)
  have hss : (((wr.setCell ⟨bl, j * 4, none⟩ x).setCell ⟨bl, j * 4 + 1, none⟩ y).setCell ⟨bl, j * 4 + 2, none⟩ z).heap.size = wr.heap.size := by rw [size_setCell, size_setCell, size_setCell]
  have hbl : ∀ k, k ≠ bl → (((wr.setCell ⟨bl, j * 4, none⟩ x).setCell ⟨bl, j * 4 + 1, none⟩ y).setCell ⟨bl, j * 4 + 2, none⟩ z).heap[k]? = wr.heap[k]? := fun k hk => by
    rw [Below.heap_setCell _ _ _ _ hk, Below.heap_setCell _ _ _ _ hk, Below.heap_setCell _ _ _ _ hk]
  have hr3 := ((hr.set (j * 4) x).set (j * 4 + 1) y).set (j * 4 + 2) z
  refine ⟨⟨_, hr3.of_block (hb.block bl (by rw [hss]; exact hlt) (hnot j hj2)), fun i hi => ?_⟩, fun i hi hi2 hij => ?_, ?_⟩
  · simp only [if_neg (show ¬ (i * 4 + 3 = j * 4 + 2) by omega), if_neg (show ¬ (i * 4 + 3 = j * 4 + 1) by omega), if_neg (show ¬ (i * 4 + 3 = j * 4) by omega)]
    exact hf i hi
  · have hk := h.kids i hi hi2 (by omega)
    refine hk.keep fun k hm => ?_
    have hkl := hk.lt k hm
    exact (hb.block k (by rw [hss]; exact hkl) (flatten_disj hn.2 (List.getElem?_eq_getElem hi2) (List.getElem?_eq_getElem hj2) (by omega) k hm)).trans (hbl k (fun e => hnot i hi2 (e ▸ hm)))
  · have h2 : ButL (bl :: fps.flatten) wr w1 := by
      refine ⟨hb.os, hb.tape, hb.output, by have := hb.size; rw [hss] at this; exact this, fun k hk hm => ?_⟩
      simp only [List.mem_cons, not_or] at hm
      exact (hb.block k (by rw [hss]; exact hk) (fun hx => hm.2 (List.mem_flatten.2 ⟨_, List.getElem_mem hj2, hx⟩))).trans (hbl k hm.1)
    exact h.but.trans h2

set_option maxHeartbeats 800000 in
theorem markDefs_calls (ds : List Df) (fp : List Nat) (v : Value) (k : Int) (w : World) (hc : DefsFp w ds fp v) (hn : fp.Nodup) (h0 : 0 ≤ k) (h1 : k ≤ 576460752303423488) (hs : szL (bodies ds) ≤ 1048576) :
    Calls Try.prog 22 #[v, .int .i64 k] w fun e w' => e = .returned (.int .i64 (k + (3 * ds.length + 2 * sumZ ds : Nat))) ∧ ButL fp w w' := by
  obtain ⟨bl, f, fps, rfl, hl, hr, rfl, hfl, hi⟩ := hc
  have hsz := sumZ_szL ds
  have HS : Hid (sumZ ds + ds.length ≤ 1048576) := by rw [Hid]; omega
  have HFL := mkHid hfl
  have HND := mkHid hn
  have HST : Hid (MD ds bl fps (fun i => f (i * 4 + 3)) w 0 w) := ⟨⟨f, hr, fun _ _ => rfl⟩, fun i h1 h2 _ => (trFp_iff.1 (hi i h1 h2).2.2).2.2.2.2, ButL.refl _ _⟩
  obtain ⟨g, hg⟩ : ∃ g : Nat → Value, g = fun i => f (i * 4 + 3) := ⟨_, rfl⟩
  rw [← hg] at HST
  have hm : ds.length ≤ 1048576 := hl
  clear hr hfl hi hn hsz hs hl hg
  go_enter Try.func22, Try.ntmps22
  go_wp2_with fail
  go_loopw [1, 5] (fun qv i wr => ∃ (j : Nat) (q : Int), j ≤ ds.length ∧ i = .int .i64 j ∧ qv = .int .i64 q ∧ Hid (q = k + ((3 * j + 2 * sumZ (ds.take j) : Nat) : Int)) ∧ MD ds bl fps g w j wr) (fun _ i _ => ds.length - (intOf i).toNat)
  case atStart => exact ⟨0, k, Nat.zero_le _, rfl, rfl, by simp [Hid, sumZ], HST.out⟩
  case round =>
    obtain ⟨j, q, hj, rfl, rfl, HQ, hmd⟩ := hrel
    have HMD := mkHid hmd
    by_cases hlt : j < ds.length
    · have e1 := sumZ_take ds j hlt
      have e2 := sumZ_le ds (j + 1)
      have hj2 : j < fps.length := by rw [HFL.out]; exact hlt
      have hq := HQ.out
      have hss := HS.out
      have hq0 : 0 ≤ q := by omega
      have hq1 : q + 3 + 2 * (szL ds[j].2.kids : Int) ≤ 1152921504606846976 := by omega
      have HE : Hid (q + 3 + 2 * (szL ds[j].2.kids : Int) = k + ((3 * (j + 1) + 2 * sumZ (ds.take (j + 1)) : Nat) : Int)) := by rw [Hid]; omega
      obtain ⟨f1, hrow, hf1⟩ := hmd.row
      have c0 := hrow.cell (i := j * 4) (by omega)
      have f0 := hrow.frozen (j * 4)
      have r1 := hrow.set (j * 4) (.int .i64 q)
      have c1 := r1.cell (i := j * 4 + 1) (by omega)
      have g1 := r1.frozen (j * 4 + 1)
      have r2 := r1.set (j * 4 + 1) (.int .i64 (q + 1))
      have c2 := r2.cell (i := j * 4 + 2) (by omega)
      have g2 := r2.frozen (j * 4 + 2)
      have r3 := r2.set (j * 4 + 2) (.int .i64 (q + 1 + 1))
      have c3 := r3.cell (i := j * 4 + 3) (by omega)
      simp only [if_neg (show ¬ (j * 4 + 3 = j * 4 + 2) by omega), if_neg (show ¬ (j * 4 + 3 = j * 4 + 1) by omega), if_neg (show ¬ (j * 4 + 3 = j * 4) by omega), if_neg (show ¬ (j * 4 + 2 = j * 4 + 1) by omega), if_neg (show ¬ (j * 4 + 2 = j * 4) by omega), if_neg (show ¬ (j * 4 + 1 = j * 4) by omega), hf1 j hlt] at c1 c2 c3
      have hkf := hmd.kids j hlt hj2 (Nat.le_refl _)
      have hbl : ∀ x ∈ fps[j], (((wr.setCell ⟨bl, j * 4, none⟩ (.int .i64 q)).setCell ⟨bl, j * 4 + 1, none⟩ (.int .i64 (q + 1))).setCell ⟨bl, j * 4 + 2, none⟩ (.int .i64 (q + 1 + 1))).heap[x]? = wr.heap[x]? := fun x hx => by
        have hne : x ≠ bl := fun e => by
          have hn := HND.out
          rw [List.nodup_cons] at hn
          exact hn.1 (List.mem_flatten.2 ⟨_, List.getElem_mem hj2, e ▸ hx⟩)
        rw [Below.heap_setCell _ _ _ _ hne, Below.heap_setCell _ _ _ _ hne, Below.heap_setCell _ _ _ _ hne]
      have hnd : fps[j].Nodup := by
        have hn := HND.out
        rw [List.nodup_cons] at hn
        exact flatten_one hn.2 (List.getElem?_eq_getElem hj2)
      have HC := mkHid (markS_calls ds[j].2.kids fps[j] (g j) (q + 1 + 1 + 1) _ (hkf.keep hbl) hnd (by omega) (by omega))
      have HJI : (j : Int) < (ds.length : Int) := by omega
      have HNX : Hid (∀ w1, ButL fps[j] (((wr.setCell ⟨bl, j * 4, none⟩ (.int .i64 q)).setCell ⟨bl, j * 4 + 1, none⟩ (.int .i64 (q + 1))).setCell ⟨bl, j * 4 + 2, none⟩ (.int .i64 (q + 1 + 1))) w1 → MD ds bl fps g w (j + 1) w1) := fun w1 hb => HMD.out.step hlt hj2 HND.out _ _ _ hb
      clear hmd hf1 hrow r1 r2 r3 e1 e2 hq hss hbl hnd hkf
      go_wp2_with fail
      refine HC.out.mono ?_
      rintro e w1 ⟨rfl, -, hb1⟩
      have HM1 := mkHid (HNX.out w1 hb1)
      clear hb1
      go_wp2_with fail
      go_roundw
      case rel => exact ⟨j + 1, _, by omega, by go_num, rfl, by rw [← HE.out, Hid]; omega, HM1.out⟩
      case measure => simp [intOf]; omega
    · have hke : j = ds.length := by omega
      have HV : Hid (q = k + ((3 * ds.length + 2 * sumZ ds : Nat) : Int)) := by
        have h := HQ.out
        rw [hke, List.take_length] at h
        exact h
      clear hke hmd HQ
      go_wp2_with fail
      go_ret
      exact ⟨ret_int HV.out, HMD.out.but⟩
end Go.Proofs.Ytocnkjicmchbdaa
/-
  THE WALK OF FnExactUnusedArgs.
-/
namespace Go.Proofs.Ytocnkjicmchbdaa.lawExactUnusedArgs
open Go.ChangeShapes Go.WideShapes Go.ChangeAt Go.RowKit
set_option linter.unusedVariables false
set_option linter.unusedSimpArgs false

set_option maxRecDepth 100000 in
set_option maxHeartbeats 3200000 in
theorem walk (ds : List Df) (c : Value) (w : World) (hk : DIn w ds c) :
    Calls Try.prog 6 #[c] w fun e w' => e = .returned (.bool true) ∧ Below w.heap.size w w' := by
  have HK : Hid (DIn w ds c) := hk
  obtain ⟨G, hG⟩ : ∃ G, G = unusedA ds := ⟨_, rfl⟩
  have HGS : Hid (G.length ≤ 6 ∧ (G.map (·.length)).sum ≤ 24) := by rw [hG]; exact unusedA_small ds
  have HSS : Hid (∀ (u : Value) (W : World), szL (bodies ds) ≤ 1048576 → DIn W ds u → Calls Try.prog 27 #[u] W (NewN G W)) := fun u W hz h => by rw [hG]; exact specUnusedArgs_calls ds u W h hz
  have HSI : Hid (∀ (u : Value) (W : World), szL (bodies ds) ≤ 1048576 → DInP W ds u → Calls Try.prog 28 #[u] W (NewN G W)) := fun u W hz h => by rw [hG]; exact implUnusedArgs_calls ds u W h hz
  have hrg := szOut_range (bodies ds) 1048576 (by omega)
  clear hk hG
  go_enter Try.func6, Try.ntmps6
  go_wp2_with fail
  refine (szDefS_calls ds c _ w HK.out (by omega) (by omega)).mono ?_
  rintro en w1 ⟨rfl, hb⟩
  have HB1 : Hid (Below w.heap.size w w1) := hb
  clear hb
  by_cases hneg : szOut (bodies ds) 1048576 < 0
  · go_wp2_with fail
    go_ret
    exact ⟨rfl, HB1.out⟩
  have HZ : Hid (szL (bodies ds) ≤ 1048576) := by unfold szOut at hneg; unfold Hid; split at hneg <;> omega
  generalize szOut (bodies ds) 1048576 = left at *
  clear hrg
  go_wp2_with fail
  -- the model's answer
  refine (toDefS_calls ds c w1 (HK.out.next HB1.out) HZ.out).mono ?_
  rintro en w2 ⟨s, rfl, hv, hb⟩
  have HS2 : Hid (DIn w2 ds s) := hv.btw_in
  have HB2 : Hid (Below w.heap.size w w2) := HB1.out.trans (hb.mono HB1.out.size)
  clear hv hb
  go_wp2_with fail
  refine (HSS.out s w2 HZ.out HS2.out).mono ?_
  rintro en w3 ⟨vs, rfl, hv, hb⟩
  have HB3 : Hid (Below w.heap.size w w3) := HB2.out.trans (hb.mono HB2.out.size)
  have VS3 : Hid (NeedsOn w3 (Lt w3.heap.size) G vs) := hv.nin
  obtain ⟨ads, caps, rfl, -, -⟩ := hv.form
  clear hv hb
  go_wp2_with fail
  -- the program's answer
  refine (toDefS_callsF ds c w3 (HK.out.next HB3.out) HZ.out).mono ?_
  rintro en w4 ⟨x, fD, rfl, hv, hnd, hlo, hb⟩
  have KD4 : Hid (DefsFp w4 ds fD x) := hv
  have HF : Hid (fD.Nodup ∧ (∀ k ∈ fD, w3.heap.size ≤ k) ∧ ∀ k ∈ fD, k < w4.heap.size) := ⟨hnd, hlo, hv.lt⟩
  have HB4 : Hid (Below w.heap.size w w4) := HB3.out.trans (hb.mono HB3.out.size)
  have VS4 : Hid (NeedsOn w4 (Lt w3.heap.size) G (.slice ads G.length caps)) := VS3.out.mono (fun _ h => h) fun k hk => hb.block k hk
  have L4 : Hid (w3.heap.size ≤ w4.heap.size) := hb.size
  clear hv hnd hlo hb
  go_wp2_with fail
  refine (HSI.out x w4 HZ.out (KD4.out.on KD4.out.plain)).mono ?_
  rintro en w5 ⟨vg, rfl, hv, hb⟩
  have GO5 : Hid (NOwn w5 w4.heap.size G vg) := hv
  have KD5 : Hid (DefsFp w5 ds fD x) := KD4.out.keep fun k hk => hb.block k (HF.out.2.2 k hk)
  have HB5 : Hid (Below w.heap.size w w5) := HB4.out.trans (hb.mono HB4.out.size)
  have VS5 : Hid (NeedsOn w5 (Lt w3.heap.size) G (.slice ads G.length caps)) := VS4.out.mono (fun _ h => h) fun k (hk : k < _) => hb.block k (Nat.lt_of_lt_of_le hk L4.out)
  have L5 : Hid (w4.heap.size ≤ w5.heap.size) := hb.size
  obtain ⟨adg, capg, rfl, -, -⟩ := hv.form
  clear hv hb
  go_wp2_with fail
  refine (eqNeeds_calls G _ _ w5 GO5.out.nin (VS5.out.mono (fun k (hk : k < _) => Nat.lt_of_lt_of_le (Nat.lt_of_lt_of_le hk L4.out) L5.out) fun _ _ => rfl)).mono ?_
  rintro en w6 ⟨rfl, hb⟩
  have KD6 : Hid (DefsFp w6 ds fD x) := KD5.out.keep fun k hk => hb.block k (Nat.lt_of_lt_of_le (HF.out.2.2 k hk) L5.out)
  have GO6 : Hid (NOwn w6 w4.heap.size G (.slice adg G.length capg)) := GO5.out.next hb
  have VS6 : Hid (NeedsOn w6 (Lt w3.heap.size) G (.slice ads G.length caps)) := VS5.out.mono (fun _ h => h) fun k (hk : k < _) => hb.block k (Nat.lt_of_lt_of_le (Nat.lt_of_lt_of_le hk L4.out) L5.out)
  have L6 : Hid (w4.heap.size ≤ w6.heap.size) := Nat.le_trans L5.out hb.size
  have HB6 : Hid (Below w.heap.size w w6) := HB5.out.trans (hb.mono HB5.out.size)
  clear hb
  go_wp2_with fail
  -- the argument is as it was
  refine (toDefS_calls ds c w6 (HK.out.next HB6.out) HZ.out).mono ?_
  rintro en w7 ⟨y, rfl, hv, hb⟩
  have HY7 : Hid (DIn w7 ds y) := hv.btw_in
  clear hv
  have KD7 : Hid (DefsFp w7 ds fD x) := KD6.out.keep fun k hk => hb.block k (Nat.lt_of_lt_of_le (HF.out.2.2 k hk) L6.out)
  have GO7 : Hid (NOwn w7 w4.heap.size G (.slice adg G.length capg)) := GO6.out.next hb
  have VS7 : Hid (NeedsOn w7 (Lt w3.heap.size) G (.slice ads G.length caps)) := VS6.out.mono (fun _ h => h) fun k (hk : k < _) => hb.block k (Nat.lt_of_lt_of_le (Nat.lt_of_lt_of_le hk L4.out) L6.out)
  have L7 : Hid (w4.heap.size ≤ w7.heap.size) := Nat.le_trans L6.out hb.size
  have HB7 : Hid (Below w.heap.size w w7) := HB6.out.trans (hb.mono HB6.out.size)
  clear hb
  go_wp2_with fail
  refine (eqDefS_calls ds x y w7 (DefsOn.inP (KD7.out.on KD7.out.plain)) HY7.out).mono ?_
  rintro en w8 ⟨rfl, hb⟩
  have KD8 : Hid (DefsFp w8 ds fD x) := KD7.out.keep fun k hk => hb.block k (Nat.lt_of_lt_of_le (HF.out.2.2 k hk) L7.out)
  have GO8 : Hid (NOwn w8 w4.heap.size G (.slice adg G.length capg)) := GO7.out.next hb
  have VS8 : Hid (NeedsOn w8 (Lt w3.heap.size) G (.slice ads G.length caps)) := VS7.out.mono (fun _ h => h) fun k (hk : k < _) => hb.block k (Nat.lt_of_lt_of_le (Nat.lt_of_lt_of_le hk L4.out) L7.out)
  have L8 : Hid (w4.heap.size ≤ w8.heap.size) := Nat.le_trans L7.out hb.size
  have HB8 : Hid (Below w.heap.size w w8) := HB7.out.trans (hb.mono HB7.out.size)
  clear hb
  go_wp2_with fail
  -- the argument is marked
  refine (markDefs_calls ds fD x 1 w8 KD8.out HF.out.1 (by omega) (by omega) HZ.out).mono ?_
  rintro en w9 ⟨rfl, hb⟩
  have GO9 : Hid (NOwn w9 w4.heap.size G (.slice adg G.length capg)) := GO8.out.keep fun k hk hkz => hb.block k hkz fun h => by have := HF.out.2.2 k h; omega
  have VS9 : Hid (NeedsOn w9 (Lt w3.heap.size) G (.slice ads G.length caps)) := VS8.out.mono (fun _ h => h) fun k (hk : k < _) => hb.block k (Nat.lt_of_lt_of_le (Nat.lt_of_lt_of_le hk L4.out) L8.out) fun h => by have := HF.out.2.1 k h; omega
  have L9 : Hid (w4.heap.size ≤ w9.heap.size) := Nat.le_trans L8.out hb.size
  have HB9 : Hid (Below w.heap.size w w9) := HB8.out.trans (hb.below (fun k h => by have := HF.out.2.1 k h; have := HB3.out.size; omega) HB8.out.size)
  clear hb
  have hzD := sumZ_szL ds
  obtain ⟨kD, hkD⟩ : ∃ kD : Int, kD = 1 + ((3 * ds.length + 2 * sumZ ds : Nat) : Int) := ⟨_, rfl⟩
  rw [← hkD]
  have hkD0 : 0 ≤ kD := by omega
  have hkD1 : kD ≤ 1 + 3145728 := by have := HZ.out; omega
  have hkD2 : ¬ (kD < 0) := by omega
  clear hkD hzD
  go_wp2_with fail
  refine (eqNeeds_calls G _ _ w9 GO9.out.nin (VS9.out.mono (fun k (hk : k < _) => Nat.lt_of_lt_of_le (Nat.lt_of_lt_of_le hk L4.out) L9.out) fun _ _ => rfl)).mono ?_
  rintro en w10 ⟨rfl, hb⟩
  have GO10 : Hid (NOwn w10 w4.heap.size G (.slice adg G.length capg)) := GO9.out.next hb
  have VS10 : Hid (NeedsOn w10 (Lt w3.heap.size) G (.slice ads G.length caps)) := VS9.out.mono (fun _ h => h) fun k (hk : k < _) => hb.block k (Nat.lt_of_lt_of_le (Nat.lt_of_lt_of_le hk L4.out) L9.out)
  have L10 : Hid (w4.heap.size ≤ w10.heap.size) := Nat.le_trans L9.out hb.size
  have HB10 : Hid (Below w.heap.size w w10) := HB9.out.trans (hb.mono HB9.out.size)
  clear hb
  go_wp2_with fail
  -- the answer is marked
  refine (markNeeds_calls G w4.heap.size _ 1 w10 GO10.out (by omega) (by omega) (by have := HGS.out; omega) (by have := HGS.out; omega)).mono ?_
  rintro en w11 ⟨rfl, hv, hb⟩
  obtain ⟨ns, hns⟩ : ∃ ns, ns = G.map (·.length) := ⟨_, rfl⟩
  have hnsum : ns.sum ≤ 24 := by rw [hns]; exact HGS.out.2
  rw [← hns] at hv ⊢
  have hlen : (markG ns 1).length = G.length := by rw [markG_length, hns, List.length_map]
  have GM11 : Hid (NOwn w11 w4.heap.size (markG ns 1) (.slice adg G.length capg)) := hv
  have VS11 : Hid (NeedsOn w11 (Lt w3.heap.size) G (.slice ads G.length caps)) := VS10.out.mono (fun _ h => h) fun k (hk : k < _) => hb.block k (Nat.lt_of_lt_of_le hk L4.out)
  have L11 : Hid (w4.heap.size ≤ w11.heap.size) := Nat.le_trans L10.out hb.size
  have HB11 : Hid (Below w.heap.size w w11) := HB10.out.trans (hb.mono HB4.out.size)
  have HSUM := mkHid hnsum
  clear hb hv hns hlen
  obtain ⟨m, hm⟩ : ∃ m : Int, m = 1 + (ns.sum : Nat) := ⟨_, rfl⟩
  have HM := mkHid hm
  rw [← hm]
  have hm0 : ¬ (m < 0) := by omega
  have tm : (m != m) = false := by simp
  clear hm hnsum
  go_wp2_with fail
  refine (heldNeeds_calls ns _ 1 w11 GM11.out.nin (by omega) (by omega) (by have := HSUM.out; omega)).mono ?_
  rintro en w12 ⟨rfl, hb⟩
  rw [← HM.out]
  have GM12 : Hid (NOwn w12 w4.heap.size (markG ns 1) (.slice adg G.length capg)) := GM11.out.next hb
  have VS12 : Hid (NeedsOn w12 (Lt w3.heap.size) G (.slice ads G.length caps)) := VS11.out.mono (fun _ h => h) fun k (hk : k < _) => hb.block k (Nat.lt_of_lt_of_le (Nat.lt_of_lt_of_le hk L4.out) L11.out)
  have L12 : Hid (w4.heap.size ≤ w12.heap.size) := Nat.le_trans L11.out hb.size
  have HB12 : Hid (Below w.heap.size w w12) := HB11.out.trans (hb.mono HB11.out.size)
  clear hb
  go_wp2_with fail
  -- called once more
  refine (toDefS_callsP ds c w12 (HK.out.next HB12.out) HZ.out).mono ?_
  rintro en w13 ⟨h, rfl, hv, hb⟩
  have HH13 : Hid (DInP w13 ds h) := DefsOn.plain hv
  have GM13 : Hid (NOwn w13 w4.heap.size (markG ns 1) (.slice adg G.length capg)) := GM12.out.next hb
  have VS13 : Hid (NeedsOn w13 (Lt w3.heap.size) G (.slice ads G.length caps)) := VS12.out.mono (fun _ h => h) fun k (hk : k < _) => hb.block k (Nat.lt_of_lt_of_le (Nat.lt_of_lt_of_le hk L4.out) L12.out)
  have L13 : Hid (w4.heap.size ≤ w13.heap.size) := Nat.le_trans L12.out hb.size
  have HB13 : Hid (Below w.heap.size w w13) := HB12.out.trans (hb.mono HB12.out.size)
  clear hb hv
  go_wp2_with fail
  refine (HSI.out h w13 HZ.out HH13.out).mono ?_
  rintro en w14 ⟨vh, rfl, hv, hb⟩
  have HN14 : Hid (NIn w14 G vh) := hv.nin
  have GM14 : Hid (NOwn w14 w4.heap.size (markG ns 1) (.slice adg G.length capg)) := GM13.out.next hb
  have VS14 : Hid (NeedsOn w14 (Lt w3.heap.size) G (.slice ads G.length caps)) := VS13.out.mono (fun _ h => h) fun k (hk : k < _) => hb.block k (Nat.lt_of_lt_of_le (Nat.lt_of_lt_of_le hk L4.out) L13.out)
  have L14 : Hid (w4.heap.size ≤ w14.heap.size) := Nat.le_trans L13.out hb.size
  have HB14 : Hid (Below w.heap.size w w14) := HB13.out.trans (hb.mono HB13.out.size)
  obtain ⟨adh, caph, rfl, -, -⟩ := hv.form
  clear hb hv
  go_wp2_with fail
  refine (eqNeeds_calls G _ _ w14 HN14.out (VS14.out.mono (fun k (hk : k < _) => Nat.lt_of_lt_of_le (Nat.lt_of_lt_of_le hk L4.out) L14.out) fun _ _ => rfl)).mono ?_
  rintro en w15 ⟨rfl, hb⟩
  have GM15 : Hid (NOwn w15 w4.heap.size (markG ns 1) (.slice adg G.length capg)) := GM14.out.next hb
  have HB15 : Hid (Below w.heap.size w w15) := HB14.out.trans (hb.mono HB14.out.size)
  clear hb
  go_wp2_with fail
  refine (heldNeeds_calls ns _ 1 w15 GM15.out.nin (by omega) (by omega) (by have := HSUM.out; omega)).mono ?_
  rintro en w16 ⟨rfl, hb⟩
  rw [← HM.out]
  have HB16 : Hid (Below w.heap.size w w16) := HB15.out.trans (hb.mono HB15.out.size)
  clear hb
  go_wp2_with fail
  go_ret
  exact ⟨rfl, HB16.out⟩
end Go.Proofs.Ytocnkjicmchbdaa.lawExactUnusedArgs
