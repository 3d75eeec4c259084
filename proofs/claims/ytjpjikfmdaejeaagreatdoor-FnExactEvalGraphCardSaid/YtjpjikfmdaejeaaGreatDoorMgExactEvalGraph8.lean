/-
  THE LAWS' COPY OF A PROGRAM LIES IN PLAIN BLOCKS.
-/
import Derived.Test.YtjpjikfmdaejeaaGreatDoorMgExactEvalGraph1
import Derived.Test.YtjpjikfmdaejeaaGreatDoorMgExactEvalGraph6
import Derived.Test.YtjpjikfmdaejeaaGreatDoorMgExactEvalGraph7
import Derived.Test.YtjpjikfmdaejeaaGreatDoorMgExactEvalGraph5
import Derived.Test.YtjpjikfmdaejeaaGreatDoorMgExactEvalGraph4
import Derived.Deep.LoopGhost
import Derived.Deep.QuietTactic
import Derived.Deep.RegionWith
import Derived.Deep.DeepMust
import Derived.BigQuiet
import Derived.WalkSmall
import Derived.Deep.DeepCutAuto
namespace Go.Proofs.YtjpjikfmdaejeaaGreatDoor
set_option linter.unusedVariables false
set_option linter.unusedSimpArgs false
open Go.RowKit

/-- plain blocks from lo on -/
def BtP (lo : Nat) (w : World) : Nat → Prop := fun k => lo ≤ k ∧ Pl w k
theorem Pl.set {w : World} {k : Nat} {a : Addr} (h : Pl w k) (hk : k ≠ a.block) (u : Value) : Pl (w.setCell a u) k :=
  ⟨by rw [size_setCell]; exact h.1, by obtain ⟨C, T, e⟩ := h.2; exact ⟨C, T, (Below.heap_setCell _ _ _ _ hk).trans e⟩⟩
theorem KidsOn.setP {w : World} {lo : Nat} {ks : List Tr} {c : Value} (h : KidsOn w (BtP lo w) ks c) {a : Addr} (ha : a.block < lo) (u : Value) : KidsOn (w.setCell a u) (BtP lo (w.setCell a u)) ks c :=
  h.mono (fun k hk => ⟨hk.1, hk.2.set (by have := hk.1; omega) u⟩) (fun k hk => Below.heap_setCell _ _ _ _ (by have := hk.1; omega))
theorem TrOn.setP {w : World} {lo : Nat} {t : Tr} {x y z : Value} (h : TrOn w (BtP lo w) t x y z) {a : Addr} (ha : a.block < lo) (u : Value) : TrOn (w.setCell a u) (BtP lo (w.setCell a u)) t x y z :=
  h.mono (fun k hk => ⟨hk.1, hk.2.set (by have := hk.1; omega) u⟩) (fun k hk => Below.heap_setCell _ _ _ _ (by have := hk.1; omega))
theorem Fresh.btP {w : World} {lo : Nat} {ks : List Tr} {c : Value} (h : Fresh w lo ks c) : KidsOn w (BtP lo w) ks c := by
  obtain ⟨fp, h1, h2, h3⟩ := h
  exact h1.on fun k hk => ⟨h3 k hk, h1.plain k hk⟩
theorem row_plain {w : World} {b n : Nat} {T : TypeId} {f : Nat → Value} (h : w.rowIs b T n f) : ∃ C T', w.heap[b]? = some (.cells C T' (0, 0)) := by
  obtain ⟨C, h1, -⟩ := h
  exact ⟨C, T, h1⟩
/-- programs that lie in plain blocks -/
abbrev DInP (w : World) (ds : List Df) (v : Value) : Prop := DefsOn w (Pl w) ds v
theorem DefsOn.nextP {w w' : World} {ds : List Df} {v : Value} (h : DInP w ds v) (hb : Below w.heap.size w w') : DInP w' ds v := h.mono (fun k hk => hk.next hb) (fun k hk => hb.block k hk.1)
theorem DefsOn.inP {w : World} {ds : List Df} {v : Value} (h : DInP w ds v) : DIn w ds v := h.mono (fun k hk => hk.1) (fun _ _ => rfl)
theorem DefsOn.plain {w : World} {lo : Nat} {ds : List Df} {v : Value} (h : DefsOn w (BtP lo w) ds v) : DInP w ds v := h.mono (fun k hk => hk.2) (fun _ _ => rfl)
/-- the body of function i, in plain blocks -/
theorem DefsOn.atP {w : World} {ds : List Df} {ad : Option Addr} {n cap : Nat} (h : DInP w ds (.slice ad n cap)) (i : Nat) (hi : i < ds.length) :
    ∃ bl off c, ad = some ⟨bl, off, none⟩ ∧ w.cell? ⟨bl, off + i * 4 + 3, none⟩ = some c ∧ InP w ds[i].2.kids c := by
  obtain ⟨ad', cap', he, -, -, hr⟩ := h
  cases he
  rcases hr with rfl | ⟨bl, off, rfl, -, r⟩
  · simp at hi
  obtain ⟨a, b, c, e, h1, h2, h3, h4, rfl, g2, g3⟩ := r i hi
  obtain ⟨rfl, rfl, g5, g6, g7⟩ := trOn_iff.1 g3
  exact ⟨bl, off, e, rfl, h4, g7⟩

/-! ### The copy -/
def NewDfP (a o n : Int) (ks : List Tr) (w : World) (e : Ending) (w' : World) : Prop := ∃ v, e = .returned (.agg #[.int .i64 a, .int .i64 o, .int .i64 n, v]) ∧ KidsOn w' (BtP w.heap.size w') ks v ∧ Below w.heap.size w w'
def NewDefsP (ds : List Df) (w : World) (e : Ending) (w' : World) : Prop := ∃ v, e = .returned v ∧ DefsOn w' (BtP w.heap.size w') ds v ∧ Below w.heap.size w w'

set_option maxHeartbeats 400000 in
theorem toDef_callsP (a o n : Int) (ks : List Tr) (c : Value) (w : World) (hk : In w ks c) (hsz : szL ks ≤ 1048576) : Calls Tryz.prog 24 #[.agg #[.int .i64 a, .int .i64 o, .int .i64 n, c]] w (NewDfP a o n ks w) := by
  have HK : Hid (In w ks c) := hk
  clear hk
  go_enter Tryz.func24, Tryz.ntmps24
  go_wp2_with fail
  refine (fto_calls ks _ _ c _ ?_ hsz).mono ?_
  · exact HK.out.next ((((Below.refl _ _).alloc (Nat.le_refl _) _).alloc (by simp) _).alloc (by simp; omega) _)
  rintro e w1 ⟨v, rfl, hv, hb⟩
  obtain ⟨hc, hf⟩ := bcell hb
  have hz : w.heap.size + 2 < w1.heap.size := by have := hb.size; simp at this; omega
  have hlo : w.heap.size + 3 ≤ w1.heap.size := by omega
  have HV : Hid (KidsOn w1 (BtP (w.heap.size + 3) w1) ks v) := hv.btP.mono (fun k hk => ⟨by have := hk.1; simpa using this, hk.2⟩) (fun _ _ => rfl)
  have hv := HV.out
  have HB : Hid (Below w.heap.size w w1) := ((((Below.refl _ _).alloc (Nat.le_refl _) _).alloc (by simp) _).alloc (by simp; omega) _).trans (hb.mono (by simp; omega))
  obtain ⟨ad, cap, rfl, -, -, -⟩ := hv
  clear hb
  go_wp2_with fail
  refine bodyPost_ret (v := .agg #[.int .i64 a, .int .i64 o, .int .i64 n, .slice ad ks.length cap]) (by simp [results, Tryz.results24, go_sem, hc, hf, hz]) rfl ⟨_, rfl, ?_, ?_⟩
  · refine KidsOn.mono (S := BtP (w.heap.size + 3) _) ?_ (fun k hk => ⟨by have := hk.1; omega, hk.2⟩) (fun _ _ => rfl)
    repeat' (refine KidsOn.setP ?_ (by simp <;> omega) _)
    exact HV.out
  · repeat' (refine Below.setCell ?_ (by simp <;> omega) _)
    exact HB.out

/-- what holds of the copy of a program behind k rounds -/
def ToDRelP (ds : List Df) (w : World) (k : Nat) (wr : World) : Prop :=
  ∃ f : Nat → Value, wr.rowIs w.heap.size 56 (ds.length * 4) f ∧ (∀ j (_ : j < k) (hj : j < ds.length), DfOn wr (BtP (w.heap.size + 1) wr) ds[j] (f (j * 4)) (f (j * 4 + 1)) (f (j * 4 + 2)) (f (j * 4 + 3))) ∧ Below w.heap.size w wr

theorem toDRel_startP (ds : List Df) (w : World) (C : Array Value) (h : C.size = ds.length * 4) : ToDRelP ds w 0 (w.alloc (.cells C 56)) := by
  refine ⟨fun i => C.getD i undef, ⟨C, Deep.blk_alloc_new _ _, h, fun i hi => ?_⟩, fun j hj => absurd hj (by omega), (Below.refl _ _).alloc (Nat.le_refl _) _⟩
  simp [Array.getElem?_eq_getElem (h ▸ hi : i < C.size), Array.getD, (h ▸ hi : i < C.size)]

theorem toDRel_stepP (ds : List Df) (w wr w1 : World) (k : Nat) (hk : k < ds.length) (h : ToDRelP ds w k wr) (v : Value) (hb : Below wr.heap.size wr w1) (hv : KidsOn w1 (BtP wr.heap.size w1) (ds[k]).2.kids v) (ha : I64 (ds[k]).1) (ho : I64 (ds[k]).2.op) (hn : I64 (ds[k]).2.num) :
    ToDRelP ds w (k + 1) (stD w1 w.heap.size k ds[k] v) := by
  unfold stD
  obtain ⟨f, hr, ht, hbw⟩ := h
  have hlt := hr.lt
  have hr1 : w1.rowIs w.heap.size 56 (ds.length * 4) f := hr.of_block (hb.block _ hlt)
  have hsz := hb.size
  have keep : ∀ (t : Tr) (a b c : Value), TrOn w1 (BtP (w.heap.size + 1) w1) t a b c → TrOn ((((w1.setCell ⟨w.heap.size, k * 4, none⟩ (.int .i64 ds[k].1)).setCell ⟨w.heap.size, k * 4 + 1, none⟩ (.int .i64 ds[k].2.op)).setCell ⟨w.heap.size, k * 4 + 2, none⟩ (.int .i64 ds[k].2.num)).setCell ⟨w.heap.size, k * 4 + 3, none⟩ v) (BtP (w.heap.size + 1) ((((w1.setCell ⟨w.heap.size, k * 4, none⟩ (.int .i64 ds[k].1)).setCell ⟨w.heap.size, k * 4 + 1, none⟩ (.int .i64 ds[k].2.op)).setCell ⟨w.heap.size, k * 4 + 2, none⟩ (.int .i64 ds[k].2.num)).setCell ⟨w.heap.size, k * 4 + 3, none⟩ v)) t a b c :=
    fun t a b c g => (((g.setP (by simp) _).setP (by simp) _).setP (by simp) _).setP (by simp) _
  refine ⟨_, (((hr1.set (k * 4) _).set (k * 4 + 1) _).set (k * 4 + 2) _).set (k * 4 + 3) _, fun j hj hjl => ?_, ?_⟩
  · by_cases hjk : j = k
    · subst hjk
      have : TrOn w1 (BtP (w.heap.size + 1) w1) ds[j].2 (.int .i64 (ds[j]).2.op) (.int .i64 (ds[j]).2.num) v := trOn_iff.2 ⟨rfl, rfl, ho, hn, hv.mono (fun k hk => ⟨by have := hk.1; omega, hk.2⟩) (fun _ _ => rfl)⟩
      refine ⟨by simp, ha, ?_⟩
      simpa using keep _ _ _ _ this
    · obtain ⟨h01, h02, h03⟩ := ht j (by omega) hjl
      have h1 : TrOn w1 (BtP (w.heap.size + 1) w1) ds[j].2 (f (j * 4 + 1)) (f (j * 4 + 2)) (f (j * 4 + 3)) := h03.mono (fun k hk => ⟨hk.1, hk.2.next hb⟩) (fun k hk => hb.block k hk.2.1)
      have h2 := keep _ _ _ _ h1
      have e1 : ∀ m, m < 4 → j * 4 + m ≠ k * 4 + 3 ∧ j * 4 + m ≠ k * 4 + 2 ∧ j * 4 + m ≠ k * 4 + 1 ∧ j * 4 + m ≠ k * 4 := fun m hm => by omega
      have a0 := e1 0 (by omega)
      have a1 := e1 1 (by omega)
      have a2 := e1 2 (by omega)
      have a3 := e1 3 (by omega)
      simp only [Nat.add_zero] at a0
      refine ⟨?_, h02, ?_⟩
      · simp only [if_neg a0.1, if_neg a0.2.1, if_neg a0.2.2.1, if_neg a0.2.2.2]; exact h01
      · simp only [if_neg a1.1, if_neg a1.2.1, if_neg a1.2.2.1, if_neg a1.2.2.2, if_neg a2.1, if_neg a2.2.1, if_neg a2.2.2.1, if_neg a2.2.2.2, if_neg a3.1, if_neg a3.2.1, if_neg a3.2.2.1, if_neg a3.2.2.2]; exact h2
  · exact ((((hbw.trans (hb.mono (Nat.le_of_lt hlt))).setCell (by simp) _).setCell (by simp) _).setCell (by simp) _).setCell (by simp) _

theorem toDRel_endP (ds : List Df) (w wr : World) (h : ToDRelP ds w ds.length wr) (hl : ds.length ≤ 1048576) : NewDefsP ds w (.returned (.slice (some ⟨w.heap.size, 0, none⟩) ds.length ds.length)) wr := by
  obtain ⟨f, hr, ht, hbw⟩ := h
  have hlt := hr.lt
  refine ⟨_, rfl, ⟨_, _, rfl, Nat.le_refl _, by unfold maxLen; omega, Or.inr ⟨_, _, rfl, ⟨Nat.le_refl _, hlt, row_plain hr⟩, fun i hi => ?_⟩⟩, hbw⟩
  obtain ⟨g1, g2, g3⟩ := ht i hi hi
  refine ⟨f (i * 4), f (i * 4 + 1), f (i * 4 + 2), f (i * 4 + 3), ?_, ?_, ?_, ?_, g1, g2, g3.mono (fun k hk => ⟨by have := hk.1; omega, hk.2⟩) (fun _ _ => rfl)⟩
  · simpa using hr.cell (i := i * 4) (by omega)
  · simpa [Nat.zero_add] using hr.cell (i := i * 4 + 1) (by omega)
  · simpa [Nat.zero_add] using hr.cell (i := i * 4 + 2) (by omega)
  · simpa [Nat.zero_add] using hr.cell (i := i * 4 + 3) (by omega)

set_option maxHeartbeats 400000 in
theorem toDefS_callsP (ds : List Df) (c : Value) (w : World) (hk : DIn w ds c) (hsz : szL (bodies ds) ≤ 1048576) : Calls Tryz.prog 8 #[c] w (NewDefsP ds w) := by
  have HK : Hid (DIn w ds c) := hk
  have HZ : Hid (szL (bodies ds) ≤ 1048576) := hsz
  have hlen : ds.length ≤ 1048576 := by rw [szL_sum, bodies_length] at hsz; omega
  clear hsz
  obtain ⟨ad, cap, rfl, -, -, -⟩ := hk
  obtain ⟨C, hC, hmk⟩ := make_defs ds.length hlen
  have HC : Hid (C.size = ds.length * 4) := hC
  clear hC
  go_enter Tryz.func8, Tryz.ntmps8
  go_wp2_with fail
  go_loopw [4] (fun i wr => ∃ k : Nat, k ≤ ds.length ∧ i = .int .i64 k ∧ ToDRelP ds w k wr) (fun i _ => ds.length - (intOf i).toNat)
  case atStart => exact ⟨0, Nat.zero_le _, rfl, toDRel_startP ds w C HC.out⟩
  case round =>
    obtain ⟨k, hk, rfl, hto⟩ := hrel
    have HT : Hid (ToDRelP ds w k wr) := hto
    obtain ⟨f, hr0, _, hb⟩ := hto
    have hlt0 := hr0.lt
    by_cases hlt : k < ds.length
    · obtain ⟨bl, off, r, rfl, c0, c1, c2, c3, ia, io, iN, hkk⟩ := (HK.out.next hb).at k hlt
      have HKK : Hid (In wr ds[k].2.kids r) := hkk
      have hkz : szL ds[k].2.kids ≤ 1048576 := by have := szL_body_le ds k hlt; have := HZ.out; omega
      have HR : Hid (wr.rowIs w.heap.size 56 (ds.length * 4) f) := hr0
      clear hkk hr0 hb
      go_wp2_with fail
      refine (toDef_callsP _ _ _ ds[k].2.kids r _ HKK.out hkz).mono ?_
      rintro e w1 ⟨v, rfl, hv, hb1⟩
      have hr1 : w1.rowIs w.heap.size 56 (ds.length * 4) f := HR.out.of_block (hb1.block _ hlt0)
      have HS : Hid (ToDRelP ds w (k + 1) (stD w1 w.heap.size k ds[k] v)) := toDRel_stepP ds w wr w1 k hlt HT.out v hb1 hv ia io iN
      obtain ⟨ad2, cap2, rfl, _, _, _⟩ := hv
      have g0 := hr1.cell (i := k * 4) (by omega)
      have g1 := hr1.cell (i := k * 4 + 1) (by omega)
      have g2 := hr1.cell (i := k * 4 + 2) (by omega)
      have g3 := hr1.cell (i := k * 4 + 3) (by omega)
      have f0 := hr1.frozen (k * 4)
      have f1 := hr1.frozen (k * 4 + 1)
      have f2 := hr1.frozen (k * 4 + 2)
      have f3 := hr1.frozen (k * 4 + 3)
      clear hr1 hb1
      go_wp2_with fail
      go_roundw
      case rel => exact ⟨k + 1, by omega, by go_num, HS.out⟩
      case measure => simp [intOf]; omega
    · have hke : ds.length = k := by omega
      have HV : Hid (NewDefsP ds w (.returned (.slice (some ⟨w.heap.size, 0, none⟩) ds.length ds.length)) wr) := by subst hke; exact toDRel_endP ds w wr HT.out hlen
      clear hke hr0 hb
      go_wp2_with fail
      go_ret
      exact HV.out
end Go.Proofs.YtjpjikfmdaejeaaGreatDoor
/-
  THE PROGRAM's change AND step, OF WHAT call DOES (CallSaid: proved elsewhere).
-/
namespace Go.Proofs.YtjpjikfmdaejeaaGreatDoor
set_option linter.unusedVariables false
set_option linter.unusedSimpArgs false
open Go.RowKit

/-- a step is made, or none: the error and the graph -/
def StepD (aF aS aL : Addr) (R A lo : Nat) (c : Value) (fu st : Int) (r : List Ce × Nat) (w : World) (e : Ending) (w' : World) : Prop := e = .returned (errV aF aS aL r.2) ∧ RedW R A lo c fu st r.1 w' ∧ Below lo w w'
/-- what (*reducer).call does -/
def CallSaid : Prop := ∀ (aF aS aL : Addr) (ds : List Df) (g : List Ce) (R A lo at' : Nat) (c : Value) (fu st : Int) (w : World), Errs aF aS aL w → RedW R A lo c fu st g w → lo ≤ w.heap.size → DefsOn w (fun k => k < lo ∧ Pl w k) ds c → graphB g ds.length = true → progB ds = true → at' < g.length → CallReady ds g at' →
  Calls Tryz.prog 76 #[.pointer (some ⟨R, 0, none⟩), .int .i64 (at' : Int)] w (StepD aF aS aL R A lo c fu st (callG ds g at') w)
theorem changeG_op {ds : List Df} {g : List Ce} {at' : Nat} (h : OpReady g at') : changeG ds g at' = (g.set at' (opCell g at'), 0) := by unfold changeG; rw [if_neg (ready_op (ds := ds) h)]
theorem changeG_call {ds : List Df} {g : List Ce} {at' : Nat} (h : CallReady ds g at') : changeG ds g at' = callG ds g at' := by unfold changeG; rw [if_pos h.1]

set_option maxRecDepth 100000 in
set_option maxHeartbeats 1600000 in
theorem change_calls (hcall : CallSaid) (aF aS aL : Addr) (ds : List Df) (g : List Ce) (R A lo at' : Nat) (c : Value) (fu st : Int) (w : World) (hE : Errs aF aS aL w) (h : RedW R A lo c fu st g w) (hlo : lo ≤ w.heap.size) (hd : DefsOn w (fun k => k < lo ∧ Pl w k) ds c) (hg : graphB g ds.length = true) (hp : progB ds = true) (hr : Ready ds g at') :
    Calls Tryz.prog 55 #[.pointer (some ⟨R, 0, none⟩), .int .i64 (at' : Int)] w (StepD aF aS aL R A lo c fu st (changeG ds g at') w) := by
  obtain ⟨ha, hcr | hop⟩ := hr
  case inr =>
    rw [changeG_op hop]
    exact (changeOp_calls R A lo at' c fu st g ds.length w h hlo hg ha hop).mono fun e w' h => ⟨h.1, h.2⟩
  rw [changeG_call hcr]
  have HW := mkHid h
  obtain ⟨b5, cap, hA, hO, hbl5, hbz5, hbA, hbR⟩ := h.blk (by omega)
  have hC := (hO.own fun k hk _ => hk).inn
  have h400 : g.length ≤ 400 := graphB_len hg
  obtain ⟨bl, off, r, hea, c0, c1, c2, -, -, hkk⟩ := hC.at at' ha
  cases hea
  simp only [Nat.zero_add] at c0 c1 c2
  obtain ⟨adk, capk, rfl, hkcl, hkcm, -⟩ := hkk
  have r0 := cell_of_blk h.red 0 _ rfl
  have a0 := cell_of_blk hA 0 _ rfl
  have HBX : Hid (Below w.heap.size w (w.alloc (.cells #[.int .i64 g[at'].op, .int .i64 g[at'].num, .slice adk g[at'].kids.length capk] 58))) := box_below _ _
  have HX : Hid ((w.alloc (.cells #[.int .i64 g[at'].op, .int .i64 g[at'].num, .slice adk g[at'].kids.length capk] 58)).heap[w.heap.size]? = some (.cells #[.int .i64 g[at'].op, .int .i64 g[at'].num, .slice adk g[at'].kids.length capk] 58)) := Deep.blk_alloc_new _ _
  have HSX : Hid ((w.alloc (.cells #[.int .i64 g[at'].op, .int .i64 g[at'].num, .slice adk g[at'].kids.length capk] 58)).heap.size = w.heap.size + 1) := Deep.nblk_alloc _ _
  have HCL := mkHid (hcall aF aS aL ds g R A lo at' c fu st (w.alloc (.cells #[.int .i64 g[at'].op, .int .i64 g[at'].num, .slice adk g[at'].kids.length capk] 58)) (hE.next HBX.out) (HW.out.next HBX.out) (by rw [HSX.out]; omega) (hd.mono (fun k hk => ⟨hk.1, hk.2.next HBX.out⟩) (fun k hk => HBX.out.block k hk.2.1)) hg hp ha hcr)
  have h34 := hcr.1
  rw [opAt_at at' ha] at h34
  have t6 : (g[at'].op == 6) = false := by simp; omega
  have t7 : (g[at'].op == 7) = false := by simp; omega
  have t8 : (g[at'].op == 8) = false := by simp; omega
  have t9 : (g[at'].op == 9) = false := by simp; omega
  have t10 : (g[at'].op == 10) = false := by simp; omega
  have hatI : (at' : Int) < (g.length : Int) := by omega
  unfold maxLen at hkcm
  have F2 := fld2
  have F1 := fld1
  have HLO := mkHid hlo
  clear h hg hp hE hd hA hC hO hbl5 hbz5 hbA hbR hcr h34 hcall
  go_enter Tryz.func55, Tryz.ntmps55
  go_wp2_with fail
  refine HCL.out.mono ?_
  rintro e w2 ⟨rfl, hw2, hb2⟩
  have HW2 := mkHid hw2
  have HB2 : Hid (Below lo w w2) := (HBX.out.mono HLO.out).trans hb2
  clear hw2 hb2
  go_wp2_with fail
  go_ret
  exact ⟨rfl, HW2.out, HB2.out⟩

set_option maxRecDepth 100000 in
set_option maxHeartbeats 1600000 in
theorem step_calls (hcall : CallSaid) (aF aS aL : Addr) (ds : List Df) (g : List Ce) (R A lo a : Nat) (c : Value) (fu st : Int) (w : World) (hE : Errs aF aS aL w) (h : RedW R A lo c fu st g w) (hlo : lo ≤ w.heap.size) (hd : DefsOn w (fun k => k < lo ∧ Pl w k) ds c) (hg : graphB g ds.length = true) (hp : progB ds = true) (ha : a < g.length) (hv : valB (arsOf ds) g a = false) :
    Calls Tryz.prog 29 #[.pointer (some ⟨R, 0, none⟩), .int .i64 (a : Int)] w (StepD aF aS aL R A lo c fu st (stepG ds g a) w) := by
  have HW := mkHid h
  obtain ⟨ad, cap, hA, hC⟩ := h.inn
  have r0 := cell_of_blk h.red 0 _ rfl
  have r1 := cell_of_blk h.red 1 _ rfl
  have a0 := cell_of_blk hA 0 _ rfl
  have hdi : DIn w ds c := hd.mono (fun k hk => hk.2.1) (fun _ _ => rfl)
  have hrf : ∀ W : World, Below w.heap.size w W → Calls Tryz.prog 54 #[c, .slice ad g.length cap, .int .i64 (a : Int)] W fun e w' => e = .returned (.tuple #[.int .i64 (rdI (redex (arsOf ds) g a)), errV aF aS aL (rdC (redex (arsOf ds) g a))]) ∧ Below W.heap.size W w' := fun W hb => redexFrom_calls aF aS aL ds g a c _ W (hE.next hb) (hdi.next hb) (hC.next hb) hg hp ha hv
  have HRR := mkHid h.red
  have HAA := mkHid hA
  have HE := mkHid hE
  have HD := mkHid hd
  have HG := mkHid hg
  have HP := mkHid hp
  have HLO := mkHid hlo
  cases hx : redex (arsOf ds) g a with
  | none =>
    have HS : Hid (stepG ds g a = (g, 2)) := by unfold Hid stepG; rw [hx]
    have HRF : Hid (∀ W : World, Below w.heap.size w W → Calls Tryz.prog 54 #[c, .slice ad g.length cap, .int .i64 (a : Int)] W fun e w' => e = .returned (.tuple #[.int .i64 0, .iface 157 (.pointer (some aS))]) ∧ Below W.heap.size W w') := fun W hb => by have := hrf W hb; rw [hx] at this; exact this
    clear h hE hd hdi hC hA hg hp hv hx hcall hrf
    go_enter Tryz.func29, Tryz.ntmps29
    go_wp2_with fail
    go_region_held3 (fun w' => w'.cell? ⟨R, 0, none⟩ = some (.pointer (some ⟨A, 0, none⟩)) ∧ w'.cell? ⟨R, 1, none⟩ = some c ∧ w'.cell? ⟨A, 0, none⟩ = some (.slice ad g.length cap))
      (first
        | go_keep
        | exact ⟨m0, m1, m2⟩
        | exact ⟨r0, r1, a0⟩)
      (first
        | (go_at_call 54; refine (HRF.out w.drew ((Below.refl _ _).drew)).mono ?_; rintro e w1 ⟨rfl, hb1⟩; have HB1 : Hid (Below w.heap.size w w1) := (Below.refl _ _).drew.trans hb1; have m0 := cell_of_blk ((HB1.out.block _ (Array.getElem?_eq_some_iff.1 HRR.out).1).trans HRR.out) 0 _ rfl; have m1 := cell_of_blk ((HB1.out.block _ (Array.getElem?_eq_some_iff.1 HRR.out).1).trans HRR.out) 1 _ rfl; have m2 := cell_of_blk ((HB1.out.block _ (Array.getElem?_eq_some_iff.1 HAA.out).1).trans HAA.out) 0 _ rfl; clear hb1))
    go_wp2_with fail
    go_ret
    exact ⟨by rw [HS.out]; rfl, by rw [HS.out]; exact HW.out.next HB1.out, HB1.out.mono HLO.out⟩
  | some at' =>
    have hr := redex_ready hg hp ha hv hx
    have HS : Hid (stepG ds g a = changeG ds g at') := by unfold Hid stepG; rw [hx]
    have HRF : Hid (∀ W : World, Below w.heap.size w W → Calls Tryz.prog 54 #[c, .slice ad g.length cap, .int .i64 (a : Int)] W fun e w' => e = .returned (.tuple #[.int .i64 (at' : Int), .nilIface]) ∧ Below W.heap.size W w') := fun W hb => by have := hrf W hb; rw [hx] at this; exact this
    have HCH : Hid (∀ W : World, Below w.heap.size w W → Calls Tryz.prog 55 #[.pointer (some ⟨R, 0, none⟩), .int .i64 (at' : Int)] W (StepD aF aS aL R A lo c fu st (changeG ds g at') W)) := fun W hb =>
      change_calls hcall aF aS aL ds g R A lo at' c fu st W (hE.next hb) (HW.out.next hb) (Nat.le_trans hlo hb.size) (hd.mono (fun k hk => ⟨hk.1, hk.2.next hb⟩) (fun k hk => hb.block k hk.2.1)) hg hp hr
    clear h hE hd hdi hC hA hg hp hv hx hcall hr hrf
    go_enter Tryz.func29, Tryz.ntmps29
    go_wp2_with fail
    go_region_held3 (fun w' => w'.cell? ⟨R, 0, none⟩ = some (.pointer (some ⟨A, 0, none⟩)) ∧ w'.cell? ⟨R, 1, none⟩ = some c ∧ w'.cell? ⟨A, 0, none⟩ = some (.slice ad g.length cap))
      (first
        | go_keep
        | exact ⟨m0, m1, m2⟩
        | exact ⟨r0, r1, a0⟩)
      (first
        | (go_at_call 54; refine (HRF.out w.drew ((Below.refl _ _).drew)).mono ?_; rintro e w1 ⟨rfl, hb1⟩; have HB1 : Hid (Below w.heap.size w w1) := (Below.refl _ _).drew.trans hb1; have m0 := cell_of_blk ((HB1.out.block _ (Array.getElem?_eq_some_iff.1 HRR.out).1).trans HRR.out) 0 _ rfl; have m1 := cell_of_blk ((HB1.out.block _ (Array.getElem?_eq_some_iff.1 HRR.out).1).trans HRR.out) 1 _ rfl; have m2 := cell_of_blk ((HB1.out.block _ (Array.getElem?_eq_some_iff.1 HAA.out).1).trans HAA.out) 0 _ rfl; clear hb1))
    go_wp2_with fail
    refine (HCH.out w1 HB1.out).mono ?_
    rintro e w2 ⟨rfl, hw2, hb2⟩
    have HW2 := mkHid hw2
    have HB2 : Hid (Below lo w w2) := (HB1.out.mono HLO.out).trans hb2
    clear hw2 hb2
    go_wp2_with fail
    go_ret
    exact ⟨by rw [HS.out]; rfl, by rw [HS.out]; exact HW2.out, HB2.out⟩
end Go.Proofs.YtjpjikfmdaejeaaGreatDoor
/-
  THE BEGINNING OF A COUNT (countNodes$1): the node with what it counts itself; nothing that was there is changed.
-/
namespace Go.Proofs.YtjpjikfmdaejeaaGreatDoor.cntCall
set_option linter.unusedVariables false
set_option linter.unusedSimpArgs false
open Go.RowKit

/-- a function value that tells which nodes are wanted -/
def WantSaid (w0 : World) (vb : Nat) (p : Tr → Bool) : Prop :=
  ∀ (t : Tr) (c : Value) (W : World), Below w0.heap.size w0 W → In W t.kids c → Calls Tryz.prog 89 #[.agg #[.int .i64 t.op, .int .i64 t.num, c]] W fun e w' => e = .returned (.bool (p t)) ∧ Below W.heap.size W w'

set_option maxRecDepth 100000 in
set_option maxHeartbeats 800000 in
theorem begin_calls {w0 : World} {vb : Nat} {p : Tr → Bool} (hw : WantSaid w0 vb p) (x : Addr) (t : Tr) (wb : Nat) (W : World) (hx : LiesAt W (Lt W.heap.size) x t) (hwb : W.cell? ⟨wb, 0, none⟩ = some (.func (.func 89) #[] #[])) (hb : Below w0.heap.size w0 W) :
    Calls Tryz.prog 93 #[.pointer (some x), .pointer (some ⟨wb, 0, none⟩)] W fun e w' => e = .returned (.agg #[.pointer (some x), .int .i64 0, .int .i64 ((if p t then 1 else 0 : Nat) : Int)]) ∧ Below W.heap.size W w' := by
  have HW : Hid (WantSaid w0 vb p) := hw
  have HB : Hid (Below w0.heap.size w0 W) := hb
  obtain ⟨bl, off, a, b, c, rfl, hbl, h0, h1, h2, ht⟩ := hx
  obtain ⟨rfl, rfl, -, -, hk⟩ := trOn_iff.1 ht
  have HK : Hid (In W t.kids c) := hk
  obtain ⟨ad, cap, rfl, -, -, -⟩ := hk
  have hbl' : bl < W.heap.size := hbl
  have hwl : wb < W.heap.size := cell_lt hwb
  clear hw hb ht hbl
  have hq : Hid (∀ W', Below w0.heap.size w0 W' → In W' t.kids (.slice ad t.kids.length cap) → Calls Tryz.prog 89 #[.agg #[.int .i64 t.op, .int .i64 t.num, .slice ad t.kids.length cap]] W' fun e w' => e = .returned (.bool (p t)) ∧ Below W'.heap.size W' w') := fun W' h1 h2 => HW.out t _ W' h1 h2
  cases hp : p t with
  | true =>
    rw [hp] at hq
    clear hp
    go_enter Tryz.func93, Tryz.ntmps93
    go_wp2_with fail
    go_region_with ((go_at_call 89; go_must (refine (hq.out _ ?_ ?_).mono ?_); go_must (exact (HB.out.trans ((box_below W _).mono HB.out.size)).drew); go_must (exact (HK.out.next (box_below W _)).drew); go_must (rintro e w2 ⟨rfl, hb2⟩); go_must (have HB2 : Hid (Below (W.heap.size + 1) (W.alloc (.cells #[.pointer none, .int .i64 0, .int .i64 0] 151)) w2) := (by have h := (Below.refl (W.alloc (.cells #[.pointer none, .int .i64 0, .int .i64 0] 151)).heap.size (W.alloc (.cells #[.pointer none, .int .i64 0, .int .i64 0] 151))).drew.trans hb2; rw [Deep.nblk_alloc] at h; exact h)); clear hb2))
    all_goals
      have c0 := (HB2.out.cell (p := ⟨W.heap.size, 0, none⟩) (Nat.lt_succ_self _)).trans (box_cell W _ _ 0 _ rfl)
      have c1 := (HB2.out.cell (p := ⟨W.heap.size, 1, none⟩) (Nat.lt_succ_self _)).trans (box_cell W _ _ 1 _ rfl)
      have c2 := (HB2.out.cell (p := ⟨W.heap.size, 2, none⟩) (Nat.lt_succ_self _)).trans (box_cell W _ _ 2 _ rfl)
      have hf := fun i => frz_of_blk (w := w2) (b := W.heap.size) ((HB2.out.block _ (Nat.lt_succ_self _)).trans (Deep.blk_alloc_new W _)) i
      have HB3 : Hid (Below W.heap.size W w2) := (box_below W _).trans (HB2.out.mono (Nat.le_succ _))
      go_wp2_with fail
      exact bodyPost_ret (v := .agg #[.pointer (some ⟨bl, off, none⟩), .int .i64 0, .int .i64 1]) (by simp [results, Tryz.results93, go_sem, c0, c1, c2]) rfl ⟨by simp, ((HB3.out.setCell (by simp) _).setCell (by simp) _).setCell (by simp) _⟩
  | false =>
    rw [hp] at hq
    clear hp
    go_enter Tryz.func93, Tryz.ntmps93
    go_wp2_with fail
    go_region_with ((go_at_call 89; go_must (refine (hq.out _ ?_ ?_).mono ?_); go_must (exact (HB.out.trans ((box_below W _).mono HB.out.size)).drew); go_must (exact (HK.out.next (box_below W _)).drew); go_must (rintro e w2 ⟨rfl, hb2⟩); go_must (have HB2 : Hid (Below (W.heap.size + 1) (W.alloc (.cells #[.pointer none, .int .i64 0, .int .i64 0] 151)) w2) := (by have h := (Below.refl (W.alloc (.cells #[.pointer none, .int .i64 0, .int .i64 0] 151)).heap.size (W.alloc (.cells #[.pointer none, .int .i64 0, .int .i64 0] 151))).drew.trans hb2; rw [Deep.nblk_alloc] at h; exact h)); clear hb2))
    all_goals
      have c0 := (HB2.out.cell (p := ⟨W.heap.size, 0, none⟩) (Nat.lt_succ_self _)).trans (box_cell W _ _ 0 _ rfl)
      have c1 := (HB2.out.cell (p := ⟨W.heap.size, 1, none⟩) (Nat.lt_succ_self _)).trans (box_cell W _ _ 1 _ rfl)
      have c2 := (HB2.out.cell (p := ⟨W.heap.size, 2, none⟩) (Nat.lt_succ_self _)).trans (box_cell W _ _ 2 _ rfl)
      have hf := fun i => frz_of_blk (w := w2) (b := W.heap.size) ((HB2.out.block _ (Nat.lt_succ_self _)).trans (Deep.blk_alloc_new W _)) i
      have HB3 : Hid (Below W.heap.size W w2) := (box_below W _).trans (HB2.out.mono (Nat.le_succ _))
      go_wp2_with fail
      exact bodyPost_ret (v := .agg #[.pointer (some ⟨bl, off, none⟩), .int .i64 0, .int .i64 0]) (by simp [results, Tryz.results93, go_sem, c0, c1, c2]) rfl ⟨by simp, ((HB3.out.setCell (by simp) _).setCell (by simp) _).setCell (by simp) _⟩
end Go.Proofs.YtjpjikfmdaejeaaGreatDoor.cntCall
/-
  THE PROGRAM's countNodes: how many nodes of a tree are wanted; nothing that was there is changed.
-/
namespace Go.Proofs.YtjpjikfmdaejeaaGreatDoor.cntCall
set_option linter.unusedVariables false
set_option linter.unusedSimpArgs false
open Go.RowKit

/-- what holds at the head of the loop -/
def TRel (wx : World) (B : Nat) (p : Tr → Bool) (a : Tr) (n : Nat) (v : Value) (wr : World) : Prop :=
  ∃ (l : List Fr) (f : Fr) (M : Mc), n = remP wx M (l ++ [f]) ∧ TInv wx (Pl wx) p M (l ++ [f]) ∧ HeadIs a (l ++ [f]) ∧ wr.ownsRow (B + 3) 151 3 v (l.length + 1) (frCells (l ++ [f])) ∧ (∃ g cap, v = .slice (some ⟨g, 0, none⟩) (l.length + 1) cap) ∧
    PMap embP wr (B + 2) (fun k => ∃ s, LiesAt wx (Pl wx) k s) M ∧ Below wx.heap.size wx wr

theorem zeroInt (w : World) : (zeroValue 3).run Tryz.prog w = .ok (.int .i64 0) w := by kernel_rfl
theorem ptrKc : PKey Tryz.prog 149 embP PlainAt := by
  obtain ⟨i, z, hi, -, hs, -⟩ := infoE3
  exact ptr_key Tryz.underlying149 hi (by omega)
theorem infoV : ∃ i z, Tryz.prog.info? 151 = some i ∧ i.zero = some z ∧ i.size = 3 ∧ i.bytes = 24 ∧ z.cells.size = 3 := by
  have h : (Tryz.prog.info? 151).map (fun i => (i.zero, i.size, i.bytes)) = some (some (.agg #[.pointer none, .int .i64 0, .int .i64 0]), 3, 24) := by kernel_rfl
  obtain ⟨i, hi, hzz⟩ := Option.map_eq_some_iff.1 h
  simp only [Prod.mk.injEq] at hzz
  obtain ⟨hz, hs, hb⟩ := hzz
  exact ⟨i, _, hi, hz, hs, hb, rfl⟩

set_option maxRecDepth 100000 in
set_option maxHeartbeats 3200000 in
theorem implCount_calls (vb : Nat) (p : Tr → Bool) (a : Tr) (c : Value) (w : World) (hw : WantSaid w vb p) (hc : InP w a.kids c) (ha : I64 a.op ∧ I64 a.num) (hz : szT a ≤ 1099511627776) :
    Calls Tryz.prog 88 #[.agg #[.int .i64 a.op, .int .i64 a.num, c], .func (.func 89) #[] #[]] w fun e w' => e = .returned (.int .i64 (cntT p a : Int)) ∧ Below w.heap.size w w' := by
  have HW : Hid (WantSaid w vb p) := hw
  have HC : Hid (InP w a.kids c) := hc
  have hmm := @run_makeMap Tryz.prog
  have hmf : ∀ (fn : Fn) (first cap : Array Value) (w : World), (Instr.makeFunc fn first cap).run Tryz.prog w = .ok (.func fn first cap) w := fun _ _ _ _ => rfl
  obtain ⟨ad, cap, rfl, -, -, -⟩ := hc
  obtain ⟨wx, hwx⟩ : ∃ wx : World, wx = (w.alloc (.cells #[.int .i64 a.op, .int .i64 a.num, .slice ad a.kids.length cap] 54)).alloc (.cells #[.func (.func 89) #[] #[]] 126) := ⟨_, rfl⟩
  have hxs : wx.heap.size = w.heap.size + 2 := by rw [hwx, Deep.nblk_alloc, Deep.nblk_alloc]
  have HX : Hid (wx = (w.alloc (.cells #[.int .i64 a.op, .int .i64 a.num, .slice ad a.kids.length cap] 54)).alloc (.cells #[.func (.func 89) #[] #[]] 126)) := hwx
  have HXS : Hid (wx.heap.size = w.heap.size + 2) := hxs
  have hbx : Below w.heap.size w wx := by rw [hwx]; exact (box_below w _).trans ((box_below _ _).mono (by simp))
  have HBX : Hid (Below w.heap.size w wx) := hbx
  have hla : LiesAt wx (Pl wx) ⟨w.heap.size, 0, none⟩ a := by
    refine ⟨w.heap.size, 0, .int .i64 a.op, .int .i64 a.num, .slice ad a.kids.length cap, rfl, ⟨by omega, #[.int .i64 a.op, .int .i64 a.num, .slice ad a.kids.length cap], 54, ?_⟩, ?_, ?_, ?_, trOn_iff.2 ⟨rfl, rfl, ha.1, ha.2, HC.out.nextP hbx⟩⟩
    · rw [hwx, Deep.blk_alloc_lt _ _ _ (by simp)]; exact Deep.blk_alloc_new _ _
    · rw [hwx]; exact old_cell (box_cell w _ _ 0 _ rfl) _
    · rw [hwx]; exact old_cell (box_cell w _ _ 1 _ rfl) _
    · rw [hwx]; exact old_cell (box_cell w _ _ 2 _ rfl) _
  have HLA : Hid (LiesAt wx (Pl wx) ⟨w.heap.size, 0, none⟩ a) := hla
  have HWB : Hid (wx.cell? ⟨w.heap.size + 1, 0, none⟩ = some (.func (.func 89) #[] #[])) := by
    have h := box_cell (w.alloc (.cells #[.int .i64 a.op, .int .i64 a.num, .slice ad a.kids.length cap] 54)) #[.func (.func 89) #[] #[]] 126 0 _ rfl
    rw [Deep.nblk_alloc, ← hwx] at h
    exact h
  have hbg : ∀ (x : Addr) (t : Tr) (n : Nat) (W : World), n = (if p t then 1 else 0) → Below wx.heap.size wx W → LiesAt wx (Pl wx) x t → Calls Tryz.prog 93 #[.pointer (some x), .pointer (some ⟨w.heap.size + 1, 0, none⟩)] W fun e w' => e = .returned (.agg #[.pointer (some x), .int .i64 0, .int .i64 (n : Int)]) ∧ Below W.heap.size W w' := fun x t n W hn hb hx => by
    rw [hn]
    exact begin_calls HW.out x t _ W (hx.carry hb) ((hb.cell (cell_lt HWB.out)).trans HWB.out) (HBX.out.trans (hb.mono HBX.out.size))
  have HBG : Hid _ := hbg
  obtain ⟨n0, hn0⟩ : ∃ n : Nat, n = (if p a then 1 else 0) := ⟨_, rfl⟩
  have HN0 : Hid (n0 = (if p a then 1 else 0)) := hn0
  clear ha hwx hxs hbx hla hw hbg hn0
  go_enter Tryz.func88, Tryz.ntmps88
  go_wp2_with (go_at_call 93; go_must (rw [← HX.out]); go_must (refine (HBG.out _ a n0 _ HN0.out (box_below wx _) HLA.out).mono ?_); go_must (rintro e w1 ⟨rfl, hb1⟩); go_must (have HB1 : Hid (Below (wx.alloc (.map #[] 0)).heap.size (wx.alloc (.map #[] 0)) w1) := hb1); clear hb1)
  clear hmm hmf
  obtain ⟨iE, zE, hiE, hzE, hsE, hbE, hcE⟩ := infoV
  have HE : Hid (Tryz.prog.info? 151 = some iE ∧ iE.zero = some zE ∧ iE.size = 3 ∧ iE.bytes = 24 ∧ zE.cells.size = 3) := ⟨hiE, hzE, hsE, hbE, hcE⟩
  clear hiE hzE hsE hbE hcE
  have HZ1 : Hid (w.heap.size + 3 ≤ w1.heap.size) := by have := HB1.out.size; rw [Deep.nblk_alloc, HXS.out] at this; exact this
  have HB2 : Hid (Below wx.heap.size wx w1) := (box_below wx _).trans (HB1.out.mono (by rw [Deep.nblk_alloc]; omega))
  go_loopg [7] (remP wx (fun _ => none) [⟨⟨w.heap.size, 0, none⟩, a, 0, n0⟩]) (fun n v wr => TRel wx w.heap.size p a n v wr)
  case atStart =>
    refine ⟨[], ⟨⟨w.heap.size, 0, none⟩, a, 0, n0⟩, fun _ => none, rfl, ?_, ⟨_, [], rfl, rfl⟩, ?_, ⟨_, _, rfl⟩, ?_, HB2.out.trans ((box_below w1 _).mono HB2.out.size)⟩
    · have := TInv.start HLA.out p
      rw [← HN0.out] at this
      exact this
    · exact ⟨rfl, Or.inr ⟨_, 1, _, rfl, HZ1.out, Deep.blk_alloc_new _ _, Nat.le_refl _, by unfold maxLen; omega, rfl, rfl⟩⟩
    · have h := PMap.made (emb := embP) wx (fun k => ∃ s, LiesAt wx (Pl wx) k s)
      rw [HXS.out] at h
      refine h.keep ?_
      rw [Deep.blk_alloc_lt _ _ _ (by have := HZ1.out; omega)]
      exact HB1.out.block _ (by rw [Deep.nblk_alloc, HXS.out]; omega)
  case round =>
    obtain ⟨l, f, M, rfl, hinv, hhd, hown, ⟨g, cp, rfl⟩, hmap, hb⟩ := hrel
    have HI : Hid (TInv wx (Pl wx) p M (l ++ [f])) := hinv
    have HH : Hid (HeadIs a (l ++ [f])) := hhd
    have HP : Hid (PMap embP wr (w.heap.size + 2) (fun k => ∃ s, LiesAt wx (Pl wx) k s) M) := hmap
    have HB : Hid (Below wx.heap.size wx wr) := hb
    have HO : Hid (wr.ownsRow (w.heap.size + 3) 151 3 (.slice (some ⟨g, 0, none⟩) (l.length + 1) cp) (l.length + 1) (frCells (l ++ [f]))) := hown
    have hle := hhd.le hinv.2.1
    have hft := hle.1 f (by simp)
    have hll := hle.2
    rw [List.length_append] at hll
    simp only [List.length_cons, List.length_nil] at hll
    obtain ⟨hx, hnx, hsm⟩ := hinv.1 f (by simp)
    have hsm2 : f.sm ≤ 1 + szT f.t := by
      rw [hsm]
      have := cntL_take_le p f.t.kids f.nx
      rw [szT_eq]
      split <;> omega
    obtain ⟨hcp, hcm⟩ : l.length + 1 ≤ cp ∧ cp ≤ maxLen := by
      obtain ⟨g2, c2, e2, -, -, h1, h2⟩ := own_form hown (by omega)
      cases e2
      exact ⟨h1, h2⟩
    unfold maxLen at hcm
    have HX1 : Hid (LiesAt wx (Pl wx) f.x f.t) := hx
    obtain ⟨xb, xo, x0, x1, x2, hxe, hxp, cx0, cx1, cx2, htx⟩ := hx
    obtain ⟨rfl, rfl, -, -, hkx⟩ := trOn_iff.1 htx
    have HKX : Hid (KidsOn wx (Pl wx) f.t.kids x2) := hkx
    obtain ⟨adx, capx, rfl, -, hmx, -⟩ := hkx
    unfold maxLen at hmx
    obtain ⟨e0, e1, e2⟩ := frCells_top l f
    rw [hxe] at e0
    have p0 := own_at HO.out _ _ e0
    have p1 := own_at HO.out _ _ e1
    have p2 := own_at HO.out _ _ e2
    have q2 := (HB.out.cell (p := ⟨xb, xo + 2, none⟩) hxp.1).trans cx2
    have fz := fun j => hown.frozenAt j
    have HXE : Hid (f.x = ⟨xb, xo, none⟩ ∧ xb < wx.heap.size ∧ wx.cell? ⟨xb, xo + 2, none⟩ = some (.slice adx f.t.kids.length capx)) := ⟨hxe, hxp.1, cx2⟩
    have HSM : Hid (f.sm = (if p f.t then 1 else 0) + cntL p (f.t.kids.take f.nx)) := hsm
    have hkl : f.t.kids.length ≤ szT a := by rw [szT_eq, szL_sum] at hft; omega
    have HGG : Hid (w.heap.size + 3 ≤ g ∧ g < wr.heap.size) := by
      obtain ⟨g2, c2, e2, h1, h2, -⟩ := own_form hown (by omega)
      cases e2
      exact ⟨h1, h2⟩
    have hmb : w.heap.size + 2 < wr.heap.size := hmap.lt
    clear hinv hhd hown hmap hb hle hxe hxp cx0 cx1 cx2 htx e0 e1 e2 hsm
    by_cases hfin : f.nx = f.t.kids.length
    · have t1 : ((f.nx : Int) == f.t.kids.length) = true := by simp [hfin]
      have HF : Hid (f.nx = f.t.kids.length) := hfin
      clear hfin
      go_wp2_with fail
      go_quiet (fail)
      rename_i nq
      by_cases hl : l = []
      · have t2 : ((l.length : Int) + 1 == 1) = true := by simp [hl]
        have HR : Hid (f.sm = cntT p a) := by
          have h1 := (HI.out.pop HF.out).2.1
          subst hl
          rw [HH.out.one] at h1
          exact h1
        clear hl
        go_wp2_with fail
        go_ret
        exact ⟨ret_int (by rw [HR.out]), HBX.out.trans (below_drewN (HB.out.mono (by have := HXS.out; omega)) _)⟩
      · have t2 : ((l.length : Int) + 1 == 1) = false := by
          have : l.length ≠ 0 := fun h => hl (List.eq_nil_of_length_eq_zero h)
          simp
          omega
        have HPq : PMap embP (wr.drewN (nq + 1)) (w.heap.size + 2) (fun k => ∃ s, LiesAt wx (Pl wx) k s) M := HP.out.keep rfl
        have HBq : Below wx.heap.size wx (wr.drewN (nq + 1)) := below_drewN HB.out _
        obtain ⟨o, hrun, hpn⟩ := HPq.store ptrKc Tryz.underlying153 (fun y hy => by obtain ⟨s, hs⟩ := hy; exact hs.plain HBq) f.x (HX1.out.plain HBq) ⟨_, HX1.out⟩ (.int .i64 (f.sm : Int))
        simp only [embP] at hrun
        rw [HXE.out.1] at hrun
        have HV : Hid (TRel wx w.heap.size p a (remP wx (pput M f.x (.int .i64 (f.sm : Int))) l) (.slice (some ⟨g, 0, none⟩) l.length cp) { wr.drewN (nq + 1) with heap := (wr.drewN (nq + 1)).heap.setIfInBounds (w.heap.size + 2) o } ∧ remP wx (pput M f.x (.int .i64 (f.sm : Int))) l < remP wx M (l ++ [f])) := by
          obtain ⟨i1, -, i3⟩ := HI.out.pop HF.out
          refine ⟨?_, i3⟩
          have hh := HH.out.init hl
          rcases List.eq_nil_or_concat l with hnil | ⟨l', f', he⟩
          · exact absurd hnil hl
          rw [List.concat_eq_append] at he
          have hll' : l.length = l'.length + 1 := by rw [he]; simp
          have h1 := HO.out
          rw [frCells_snoc] at h1
          have h2 := own_cut (m := l.length) h1 (frCells_length l) (by omega)
          have h3 := own_keep h2 (w' := { wr.drewN (nq + 1) with heap := (wr.drewN (nq + 1)).heap.setIfInBounds (w.heap.size + 2) o }) (fun k hk _ => set_other_block (wr.drewN (nq + 1)) _ o (by omega))
          rw [hll']
          rw [hll'] at h3
          rw [he] at i1 hh h3 ⊢
          exact ⟨l', f', _, rfl, i1, hh, h3, ⟨_, _, rfl⟩, hpn, HBq.trans (set_below _ _ o (by have := HXS.out; omega))⟩
        clear hl hpn HPq HBq
        go_wp2_with fail
        go_region
        all_goals
          go_wp2_with fail
          go_roundg (remP wx (pput M f.x (.int .i64 (f.sm : Int))) l)
          case rel => exact HV.out.1
          case measure => exact HV.out.2
    · have t1 : ((f.nx : Int) == f.t.kids.length) = false := by simp; omega
      have hlt : f.nx < f.t.kids.length := by omega
      obtain ⟨_, _, he, -, -, hr⟩ := HKX.out
      cases he
      rcases hr with hnil | ⟨xkb, xko, rfl, hxk, hrx⟩
      · rw [hnil] at hlt; simp at hlt
      have HLZ : Hid (LiesAt wx (Pl wx) ⟨xkb, xko + f.nx * 3, none⟩ f.t.kids[f.nx]) := RowOn.liesAt hlt hxk hrx
      have HAZ : Hid (kidAddr wx f.x f.nx = ⟨xkb, xko + f.nx * 3, none⟩) := KidAt.addr ⟨xb, xo, xkb, xko, _, _, HXE.out.1, HXE.out.2.2, rfl⟩
      have HLT : Hid (f.nx < f.t.kids.length) := hlt
      have hpl : ∀ n, PlainAt (wr.drewN n) ⟨xkb, xko + f.nx * 3, none⟩ := fun n => HLZ.out.plain (below_drewN HB.out n)
      have hK2 : ∀ n y, (∃ s, LiesAt wx (Pl wx) y s) → PlainAt (wr.drewN n) y := fun n y hy => by obtain ⟨s, hs⟩ := hy; exact hs.plain (below_drewN HB.out n)
      have hlook := fun n => ((HP.out.keep (w' := wr.drewN n) rfl).look ptrKc Tryz.underlying153 (hK2 n) (zeroInt _) ⟨xkb, xko + f.nx * 3, none⟩ (hpl n)).2
      simp only [embP] at hlook
      have HPL : Hid (∀ n, PlainAt (wr.drewN n) ⟨xkb, xko + f.nx * 3, none⟩) := hpl
      have HK2 : Hid (∀ n y, (∃ s, LiesAt wx (Pl wx) y s) → PlainAt (wr.drewN n) y) := hK2
      clear hrx hxk hfin hpl hK2
      cases hM : M ⟨xkb, xko + f.nx * 3, none⟩ with
      | some v =>
        obtain ⟨cn, hcn⟩ : ∃ cn : Nat, cn = cntT p f.t.kids[f.nx] := ⟨_, rfl⟩
        obtain ⟨hv, hi2, hm2⟩ : v = .int .i64 (cn : Int) ∧ TInv wx (Pl wx) p M (l ++ [⟨f.x, f.t, f.nx + 1, f.sm + cn⟩]) ∧ remP wx M (l ++ [⟨f.x, f.t, f.nx + 1, f.sm + cn⟩]) < remP wx M (l ++ [f]) := by
          rw [hcn]
          exact HI.out.found hlt (v := v) (by rw [HAZ.out]; exact hM)
        subst hv
        have hcl : cn ≤ 1 + szT f.t := by
          have h1 := cntT_le p f.t.kids[f.nx]
          have h2 := szT_lt_szL f.t.kids f.nx hlt
          rw [← szT_eq] at h2
          omega
        rw [hM] at hlook
        simp only [Option.getD_some, Option.isSome_some] at hlook
        have HI2 : Hid (TInv wx (Pl wx) p M (l ++ [⟨f.x, f.t, f.nx + 1, f.sm + cn⟩]) ∧ remP wx M (l ++ [⟨f.x, f.t, f.nx + 1, f.sm + cn⟩]) < remP wx M (l ++ [f])) := ⟨hi2, hm2⟩
        have t3 : ((cn : Int) == -1) = false := by simp <;> omega
        clear hM hcn hi2 hm2
        go_wp2_with fail
        have HV : Hid (∀ n, TRel wx w.heap.size p a (remP wx M (l ++ [⟨f.x, f.t, f.nx + 1, f.sm + cn⟩])) (.slice (some ⟨g, 0, none⟩) (l.length + 1) cp) (((wr.drewN n).setCell ⟨g, l.length * 3 + 2, none⟩ (.int .i64 ((f.sm : Int) + (cn : Int)))).setCell ⟨g, l.length * 3 + 1, none⟩ (.int .i64 ((f.nx : Int) + 1)))) := by
          intro n
          have h1 : (wr.drewN n).ownsRow (w.heap.size + 3) 151 3 (.slice (some ⟨g, 0, none⟩) (l.length + 1) cp) (l.length + 1) (frCells (l ++ [f])) := own_keep HO.out (fun k _ _ => rfl)
          have h2 := ((h1.stored (l.length * 3 + 2) (.int .i64 ((f.sm : Int) + (cn : Int)))).1.stored (l.length * 3 + 1) (.int .i64 ((f.nx : Int) + 1))).1
          have h3 := frCells_set l f (f.nx + 1) (f.sm + cn)
          push_cast at h3
          rw [h3] at h2
          refine ⟨l, ⟨f.x, f.t, f.nx + 1, f.sm + cn⟩, M, rfl, HI2.out.1, HH.out.last rfl, h2, ⟨_, _, rfl⟩, (HP.out.keep (w' := wr.drewN n) rfl).keep ?_, ?_⟩
          · exact (Below.heap_setCell _ _ _ _ (by have := HGG.out.1; show w.heap.size + 2 ≠ g; omega)).trans (Below.heap_setCell _ _ _ _ (by have := HGG.out.1; show w.heap.size + 2 ≠ g; omega))
          · exact ((below_drewN HB.out n).setCell (by have := HGG.out.1; have := HXS.out; show wx.heap.size ≤ g; omega) _).setCell (by have := HGG.out.1; have := HXS.out; show wx.heap.size ≤ g; omega) _
        go_quiet (fail)
        go_wp2_with fail
        go_quiet (fail)
        go_wp2_with fail
        go_roundg (remP wx M (l ++ [⟨f.x, f.t, f.nx + 1, f.sm + cn⟩]))
        case rel => exact HV.out _
        case measure => exact HI2.out.2
      | none =>
        obtain ⟨n1, hn1⟩ : ∃ n : Nat, n = (if p f.t.kids[f.nx] then 1 else 0) := ⟨_, rfl⟩
        have HN1 : Hid (n1 = (if p f.t.kids[f.nx] then 1 else 0)) := hn1
        have HI2 : Hid (TInv wx (Pl wx) p (pput M ⟨xkb, xko + f.nx * 3, none⟩ (.int .i64 (-1))) (l ++ [f] ++ [⟨⟨xkb, xko + f.nx * 3, none⟩, f.t.kids[f.nx], 0, n1⟩]) ∧ remP wx (pput M ⟨xkb, xko + f.nx * 3, none⟩ (.int .i64 (-1))) (l ++ [f] ++ [⟨⟨xkb, xko + f.nx * 3, none⟩, f.t.kids[f.nx], 0, n1⟩]) < remP wx M (l ++ [f])) := by
          have h := HI.out.push hlt (by rw [HAZ.out]; exact hM)
          rw [HAZ.out] at h
          rw [hn1]
          exact h
        rw [hM] at hlook
        simp only [Option.getD_none, Option.isSome_none] at hlook
        clear hM hn1
        go_wp2_with fail
        go_quiet (fail)
        go_wp2_with fail
        go_quiet (fail)
        go_wp2_with (first
          | (at_mapUpdate; go_must (refine wpList_store_v _ rfl _ _ _ 153 rfl 149 3 ptrKc Tryz.underlying153 (w.heap.size + 2) _ M rfl (HP.out.keep rfl) (HK2.out _) ⟨xkb, xko + f.nx * 3, none⟩ rfl (HPL.out _) ⟨_, HLZ.out⟩ (.int .i64 (-1)) rfl ?_); go_must (intro w1 hp hg hz1); go_must (have HP1 : Hid (PMap embP w1 (w.heap.size + 2) (fun k => ∃ s, LiesAt wx (Pl wx) k s) (pput M ⟨xkb, xko + f.nx * 3, none⟩ (.int .i64 (-1)))) := hp); go_must (have HX3 : Hid (∀ k, k < wr.heap.size → k ≠ w.heap.size + 2 → w1.heap[k]? = wr.heap[k]?) := fun k h1 h2 => hg.block k h1 (by simp; omega)); go_must (have HZ3 : Hid (w1.heap.size = wr.heap.size) := hz1); go_must (have HB1 : Hid (Below wx.heap.size wx w1) := ⟨hg.os.trans HB.out.os, hg.tape.trans HB.out.tape, hg.output.trans HB.out.output, Nat.le_trans HB.out.size (Nat.le_of_eq hz1.symm), fun k hk => (hg.block k (Nat.lt_of_lt_of_le hk HB.out.size) (by have := HXS.out; simp; omega)).trans (HB.out.block k hk)⟩); clear hp hg hz1 hlook)
          | (go_at_call 93; go_must (refine (HBG.out ⟨xkb, xko + f.nx * 3, none⟩ f.t.kids[f.nx] n1 _ HN1.out HB1.out HLZ.out).mono ?_); go_must (rintro e w2 ⟨rfl, hb2⟩); go_must (have HB2' : Hid (Below w1.heap.size w1 w2) := hb2); go_must (have hz2 : wr.heap.size ≤ w2.heap.size := by have := hb2.size; have := HZ3.out; omega); clear hb2)
          | (at_builtin; go_must (refine wpList_append_own _ rfl _ _ 154 rfl (w.heap.size + 3) 151 iE zE 3 24 Tryz.underlying154 HE.out.1 HE.out.2.1 HE.out.2.2.1 HE.out.2.2.2.1 HE.out.2.2.2.2 (by decide) _ _ _ rfl (own_keep (w := wr) HO.out (fun k h1 h2 => ((Deep.blk_alloc_lt _ _ k (by omega)).trans (HB2'.out.block k (by have := HZ3.out; omega))).trans (HX3.out k h2 (by omega)))) ⟨w2.heap.size, 0, none⟩ 1 1 [.pointer (some ⟨xkb, xko + f.nx * 3, none⟩), .int .i64 0, .int .i64 (n1 : Int)] rfl rfl (fun j u hu => box2_cell w2 _ _ j u (by simpa using hu)) (by simp [Value.oneCell']) (by unfold maxLen; omega) (by omega) (by rw [Deep.nblk_alloc]; omega) ?_); go_must (intro v' w3 hown' hgrow hnil); go_must (have HO3 : Hid (w3.ownsRow (w.heap.size + 3) 151 3 v' (l.length + 1 + 1) (frCells (l ++ [f]) ++ [.pointer (some ⟨xkb, xko + f.nx * 3, none⟩), .int .i64 0, .int .i64 (n1 : Int)])) := hown'); go_must (have HB3 : Hid (∀ k, k < wr.heap.size → k < w.heap.size + 3 → w3.heap[k]? = w1.heap[k]?) := fun k h1 h2 => ((hgrow.block k (by rw [Deep.nblk_alloc]; omega) (fun e => by have := own_block HO.out e; omega)).trans (Deep.blk_alloc_lt _ _ k (by omega))).trans (HB2'.out.block k (by have := HZ3.out; omega))); go_must (have HB4 : Hid (Below wx.heap.size wx w3) := ⟨(by rw [hgrow.os]; exact HB2'.out.os.trans HB1.out.os), (by rw [hgrow.tape]; exact HB2'.out.tape.trans HB1.out.tape), (by rw [hgrow.output]; exact HB2'.out.output.trans HB1.out.output), Nat.le_trans HB1.out.size (Nat.le_trans HB2'.out.size (by have := hgrow.size; rw [Deep.nblk_alloc] at this; omega)), fun k hk => (HB3.out k (Nat.lt_of_lt_of_le hk HB.out.size) (by have := HXS.out; omega)).trans (HB1.out.block k hk)⟩); go_must (obtain ⟨g3, c3, rfl, -⟩ := own_form hown' (by omega)); clear hown' hgrow hnil))
        go_roundg (remP wx (pput M ⟨xkb, xko + f.nx * 3, none⟩ (.int .i64 (-1))) (l ++ [f] ++ [⟨⟨xkb, xko + f.nx * 3, none⟩, f.t.kids[f.nx], 0, n1⟩]))
        case rel =>
          refine ⟨l ++ [f], ⟨⟨xkb, xko + f.nx * 3, none⟩, f.t.kids[f.nx], 0, n1⟩, _, rfl, HI2.out.1, HH.out.snoc _, ?_, ⟨g3, c3, by simp⟩, HP1.out.keep (HB3.out _ hmb (by omega)), HB4.out⟩
          rw [frCells_snoc]
          simpa using HO3.out
        case measure => exact HI2.out.2
end Go.Proofs.YtjpjikfmdaejeaaGreatDoor.cntCall
/-
  HOW MANY CELLS A TREE GIVES: as many as it has nodes that are no variables. No program is named here.
-/
namespace Go.Proofs.YtjpjikfmdaejeaaGreatDoor
open Go.RowKit

/-- a node that is no variable -/
def noV (t : Tr) : Bool := t.op != 1
mutual
theorem addT_len (args : List Nat) (n : Nat) : ∀ (t : Tr) (g : List Ce), AllT (VarOk n) t → (addT args t g).1.length = g.length + cntT noV t
  | .node o m ks, g, h => by
    obtain ⟨hv, hk⟩ := (allT_iff _ _).1 h
    by_cases h1 : o = 1
    · have e : ks = [] := (hv h1).2.2
      rw [addT_var (t := .node o m ks) g h1]
      subst e
      simp [cntT, cntL, noV, h1]
    · have hl := addL_len args n ks g hk
      rw [addT_other (t := .node o m ks) g h1, List.length_append]
      have e : noV (.node o m ks) = true := by simp [noV, h1]
      simp only [cntT, e, if_true, Tr.kids_node, List.length_cons, List.length_nil]
      omega
theorem addL_len (args : List Nat) (n : Nat) : ∀ (ts : List Tr) (g : List Ce), AllL (VarOk n) ts → (addL args ts g).1.length = g.length + cntL noV ts
  | [], g, _ => by simp [addL, cntL]
  | t :: ts, g, h => by
    have h1 := addT_len args n t g h.1
    have h2 := addL_len args n ts (addT args t g).1 h.2
    simp only [addL, cntL]
    omega
end
end Go.Proofs.YtjpjikfmdaejeaaGreatDoor
/-
  THE COUNT OF A BODY's NODES THAT ARE NO VARIABLES, as (*reducer).call asks for it; nothing that was there is changed.
-/
namespace Go.Proofs.YtjpjikfmdaejeaaGreatDoor
set_option linter.unusedVariables false
set_option linter.unusedSimpArgs false
open Go.RowKit

set_option maxHeartbeats 400000 in
theorem want_noV (w0 : World) (vb : Nat) : cntCall.WantSaid w0 vb noV := by
  intro t c W hb hk
  obtain ⟨ad, cap, rfl, -, -, -⟩ := hk
  clear hb
  go_enter Tryz.func89, Tryz.ntmps89
  go_wp2_with fail
  go_ret
  exact ⟨rfl, box_below _ _⟩
/-- how many nodes of a body are no variables -/
theorem cntNoV_calls (a : Tr) (c : Value) (w : World) (hc : InP w a.kids c) (ha : I64 a.op ∧ I64 a.num) (hz : szT a ≤ 1099511627776) :
    Calls Tryz.prog 88 #[.agg #[.int .i64 a.op, .int .i64 a.num, c], .func (.func 89) #[] #[]] w fun e w' => e = .returned (.int .i64 (cntT noV a : Int)) ∧ Below w.heap.size w w' :=
  cntCall.implCount_calls 0 noV a c w (want_noV w 0) hc ha hz
end Go.Proofs.YtjpjikfmdaejeaaGreatDoor
/-
  THE MODEL's l3Add: the cells of an expression, added to a graph that is being built.
-/
namespace Go.Proofs.YtjpjikfmdaejeaaGreatDoor
set_option linter.unusedVariables false
set_option linter.unusedSimpArgs false
open Go.RowKit

/-- what l3Add hands back: the graph with the cells, in its own rows; nothing is written but the row of the cells -/
def AddRes (r : List Ce × Nat) (lo : Nat) (S : Nat → Prop) (gv : Value) (w : World) (e : Ending) (w' : World) : Prop :=
  ∃ gv', e = .returned (.tuple #[gv', .int .i64 (r.2 : Int)]) ∧ OwnC w' lo (fun b => S b ∨ w.heap.size ≤ b) r.1 gv' ∧ w.grownBy w' gv.ownBlock ∧ (gv'.ownBlock = gv.ownBlock ∨ ∃ g, gv'.ownBlock = some g ∧ w.heap.size ≤ g)
def AdSaid (args : List Nat) (t : Tr) : Prop := ∀ (gv av c : Value) (lo : Nat) (S : Nat → Prop) (cs : List Ce) (w : World), OwnC w lo S cs gv → lo ≤ w.heap.size → IntsOn w (Lt lo) (args.map fun (a : Nat) => (a : Int)) av → KidsOn w (Lt lo) t.kids c →
  cs.length + szT t ≤ 500000 → args.length ≤ 1048576 → I64 t.op → I64 t.num → AllT (VarOk args.length) t →
  Calls Tryz.prog 84 #[gv, .agg #[.int .i64 t.op, .int .i64 t.num, c], av] w (AddRes (addT args t cs) lo S gv w)

theorem grown_box {w w1 : World} {row : Option Nat} (h : Below w.heap.size w w1) : w.grownBy w1 row := ⟨h.os, h.tape, h.output, h.size, fun k hk _ => h.block k hk⟩
/-- where the operands' rows of the graph lie while the operands of a cell are gathered in kv -/
def SK (w : World) (S : Nat → Prop) (kv : Value) : Nat → Prop := fun b => ((S b ∧ b < w.heap.size) ∨ w.heap.size + 2 ≤ b) ∧ some b ≠ kv.ownBlock
/-- what holds behind k operands -/
structure AdRel (args : List Nat) (t : Tr) (cs : List Ce) (lo : Nat) (S : Nat → Prop) (gv0 ebox : Value) (w : World) (k : Nat) (gv kv : Value) (wr : World) : Prop where
  graph : OwnC wr lo (SK w S kv) (addL args (t.kids.take k) cs).1 gv
  kids : Stk wr (w.heap.size + 2) (addL args (t.kids.take k) cs).2 kv
  box : wr.heap[w.heap.size + 1]? = some (.cells #[.int .i64 t.op, .int .i64 t.num, kv] 58)
  ebx : wr.heap[w.heap.size]? = some (.cells #[.int .i64 t.op, .int .i64 t.num, ebox] 54)
  old : ∀ b, b < w.heap.size → some b ≠ gv0.ownBlock → wr.heap[b]? = w.heap[b]?
  os : wr.os = w.os
  tape : wr.tape = w.tape
  output : wr.output = w.output
  size : w.heap.size + 2 ≤ wr.heap.size
  own : gv.ownBlock = gv0.ownBlock ∨ ∃ g, gv.ownBlock = some g ∧ w.heap.size + 2 ≤ g

theorem cell_not_int : ¬ (58 : TypeId) = 3 := by decide
/-- a row of cells is no row of ints -/
theorem own_ne {w : World} {b1 b2 n1 n2 s1 s2 : Nat} {v1 v2 : Value} {x1 x2 : List Value} (h1 : w.ownsRow b1 58 s1 v1 n1 x1) (h2 : w.ownsRow b2 3 s2 v2 n2 x2) : ∀ k, some k = v1.ownBlock → some k ≠ v2.ownBlock := by
  intro k e1 e2
  rcases h1.2 with ⟨rfl, -⟩ | ⟨g, cap, cur, rfl, -, hh, -⟩
  · simp [Value.ownBlock] at e1
  · rcases h2.2 with ⟨rfl, -⟩ | ⟨g2, cap2, cur2, rfl, -, hh2, -⟩
    · simp [Value.ownBlock] at e2
    · simp only [Value.ownBlock, Option.some.injEq] at e1 e2
      subst e1
      subst e2
      rw [hh] at hh2
      simp at hh2
theorem news1 (w : World) (n : Nat) : ∀ j u, [Value.int .i64 (n : Int)][j]? = some u → (w.alloc (.cells #[.int .i64 (n : Int)] 3)).cell? ((⟨w.heap.size, 0, none⟩ : Addr).add j) = some u := by
  intro j u hu
  have hj : j = 0 := by
    rcases Nat.lt_or_ge j 1 with h | h
    · omega
    · rw [List.getElem?_eq_none (by simpa using h)] at hu; cases hu
  subst hj
  simp only [List.getElem?_cons_zero, Option.some.injEq] at hu
  subst hu
  rw [WideShapes.add_plain]
  exact box_cell w #[.int .i64 (n : Int)] 3 0 _ rfl
theorem stk_snoc {w : World} {lo n : Nat} {ws : List Nat} {v : Value} (h : w.ownsRow lo 3 1 v (ws.length + 1) (plV ws ++ [.int .i64 (n : Int)])) : Stk w lo (ws ++ [n]) v := by
  unfold Stk
  rw [show plV (ws ++ [n]) = plV ws ++ [.int .i64 (n : Int)] by simp [plV], List.length_append]
  exact h
theorem AdRel.kept {args : List Nat} {t : Tr} {cs : List Ce} {lo : Nat} {S : Nat → Prop} {gv0 ebox : Value} {w : World} {k : Nat} {gv kv : Value} {wr : World} (h : AdRel args t cs lo S gv0 ebox w k gv kv wr) (hg0 : ∀ b, gv0.ownBlock = some b → b < w.heap.size) {w2 : World} (hgr : wr.grownBy w2 gv.ownBlock) :
    (∀ b, b < w.heap.size → some b ≠ gv0.ownBlock → w2.heap[b]? = w.heap[b]?) ∧ w2.heap[w.heap.size]? = wr.heap[w.heap.size]? ∧ w2.heap[w.heap.size + 1]? = wr.heap[w.heap.size + 1]? ∧ Stk w2 (w.heap.size + 2) (addL args (t.kids.take k) cs).2 kv := by
  have hs := h.size
  have ho : ∀ b, some b = gv.ownBlock → some b = gv0.ownBlock ∨ w.heap.size + 2 ≤ b := by
    intro b hb
    rcases h.own with e | ⟨g, e, hg⟩
    · exact Or.inl (hb.trans e)
    · rw [e] at hb; simp only [Option.some.injEq] at hb; exact Or.inr (by omega)
  refine ⟨fun b hb hn => (hgr.block b (by omega) fun e => ?_).trans (h.old b hb hn), hgr.block _ (by omega) fun e => ?_, hgr.block _ (by omega) fun e => ?_, ?_⟩
  · rcases ho b e with e | e
    · exact hn e
    · omega
  · rcases ho _ e with e | e
    · have := hg0 _ e.symm; omega
    · omega
  · rcases ho _ e with e | e
    · have := hg0 _ e.symm; omega
    · omega
  · obtain ⟨ys, hy⟩ := h.graph.row
    refine ⟨h.kids.1, ?_⟩
    rcases h.kids.2 with h' | ⟨g, cap, cur, rfl, hg, hh, r⟩
    · exact Or.inl h'
    · exact Or.inr ⟨g, cap, cur, rfl, hg, (hgr.block g (Array.getElem?_eq_some_iff.1 hh).1 fun e => own_ne hy h.kids g e rfl).trans hh, r⟩
/-- one operand more -/
theorem ad_push {args : List Nat} {t : Tr} {cs : List Ce} {lo : Nat} {S : Nat → Prop} {gv0 ebox : Value} {w : World} {k : Nat} {gv kv : Value} {wr : World} (h : AdRel args t cs lo S gv0 ebox w k gv kv wr) (hk : k < t.kids.length) (hg0 : ∀ b, gv0.ownBlock = some b → b < w.heap.size) {gv' : Value} {w2 : World}
    (hg : OwnC w2 lo (fun b => SK w S kv b ∨ wr.heap.size ≤ b) (addT args t.kids[k] (addL args (t.kids.take k) cs).1).1 gv') (hgr : wr.grownBy w2 gv.ownBlock) (how : gv'.ownBlock = gv.ownBlock ∨ ∃ g, gv'.ownBlock = some g ∧ wr.heap.size ≤ g) (o : Obj) {kv' : Value} {w5 : World}
    (hst : Stk w5 (w.heap.size + 2) ((addL args (t.kids.take k) cs).2 ++ [(addT args t.kids[k] (addL args (t.kids.take k) cs).1).2]) kv') (hgr5 : (w2.alloc o).grownBy w5 kv.ownBlock) (hw5 : kv'.ownBlock = kv.ownBlock ∨ ∃ g, kv'.ownBlock = some g ∧ (w2.alloc o).heap.size ≤ g) :
    AdRel args t cs lo S gv0 ebox w (k + 1) gv' kv' (w5.setCell ⟨w.heap.size + 1, 2, none⟩ kv') := by
  obtain ⟨q1, q2, q3, q4⟩ := h.kept hg0 hgr
  have hs := h.size
  have hs2 := hgr.size
  have hs5 := hgr5.size
  rw [Deep.nblk_alloc] at hs5 hw5
  have hkv : ∀ b, some b = kv.ownBlock → w.heap.size + 2 ≤ b ∧ b < wr.heap.size := fun b e => own_some h.kids b e.symm
  have k5 : ∀ b, b < w2.heap.size → some b ≠ kv.ownBlock → w5.heap[b]? = w2.heap[b]? := fun b hb hn => (hgr5.block b (by rw [Deep.nblk_alloc]; omega) hn).trans (Deep.blk_alloc_lt _ _ _ hb)
  have k6 : ∀ b, b < w2.heap.size → some b ≠ kv.ownBlock → b ≠ w.heap.size + 1 → (w5.setCell ⟨w.heap.size + 1, 2, none⟩ kv').heap[b]? = w2.heap[b]? := fun b hb hn hne => (Below.heap_setCell _ _ _ _ hne).trans (k5 b hb hn)
  have ho : ∀ b, some b = gv'.ownBlock → some b = gv0.ownBlock ∨ w.heap.size + 2 ≤ b := by
    intro b hb
    rcases how with e | ⟨g, e, hg⟩
    · rw [e] at hb
      rcases h.own with e | ⟨g, e, hg⟩
      · exact Or.inl (hb.trans e)
      · rw [e] at hb; simp only [Option.some.injEq] at hb; exact Or.inr (by omega)
    · rw [e] at hb; simp only [Option.some.injEq] at hb; exact Or.inr (by omega)
  have e1 : addL args (t.kids.take (k + 1)) cs = _ := addL_take_succ args t.kids cs k hk
  refine ⟨?_, ?_, ?_, ?_, ?_, ?_, ?_, ?_, ?_, ?_⟩
  · rw [e1]
    refine hg.next (fun b hb hb2 => ?_) (fun b e hb => ?_) (fun b hS hb => ?_)
    · refine ⟨?_, fun e => ?_⟩
      · rcases hb with hb | hb
        · exact hb.1
        · exact Or.inr (by omega)
      · rcases hw5 with e5 | ⟨g, e5, hg5⟩
        · rw [e5] at e
          rcases hb with hb | hb
          · exact hb.2 e
          · have := (hkv b e).2; omega
        · rw [e5] at e
          simp only [Option.some.injEq] at e
          omega
    · obtain ⟨ys, hy⟩ := hg.row
      refine k6 b hb (own_ne hy q4 b e) fun e6 => ?_
      rcases ho b e with e | e
      · have := hg0 _ e.symm; omega
      · omega
    · rcases hS with hS | hS
      · exact k6 b hb hS.2 fun e6 => by rcases hS.1 with h7 | h7 <;> omega
      · exact k6 b hb (fun e => by have := (hkv b e).2; omega) (by omega)
  · rw [e1]
    exact Stk.keep hst fun b h1 h2 => Below.heap_setCell _ _ _ _ (by show b ≠ w.heap.size + 1; omega)
  · refine box_set (a := .int .i64 t.op) (b := .int .i64 t.num) (c := kv) ?_ _
    rw [k5 _ (by omega) fun e => by have := (hkv _ e).1; omega, q3]
    exact h.box
  · rw [k6 _ (by omega) (fun e => by have := (hkv _ e).1; omega) (by omega), q2]
    exact h.ebx
  · intro b hb hn
    rw [k6 b (by omega) (fun e => by have := (hkv _ e).1; omega) (by omega)]
    exact q1 b hb hn
  · show w5.os = w.os
    rw [hgr5.os]; exact hgr.os.trans h.os
  · show w5.tape = w.tape
    rw [hgr5.tape]; exact hgr.tape.trans h.tape
  · show w5.output = w.output
    rw [hgr5.output]; exact hgr.output.trans h.output
  · rw [size_setCell]; omega
  · rcases how with e | ⟨g, e, hg⟩
    · rw [e]; exact h.own
    · exact Or.inr ⟨g, e, by omega⟩

/-- behind all operands: the cell -/
theorem ad_end {args : List Nat} {t : Tr} {cs : List Ce} {lo : Nat} {S : Nat → Prop} {gv0 ebox : Value} {w : World} {k : Nat} {gv kv : Value} {wr : World} (h : AdRel args t cs lo S gv0 ebox w k gv kv wr) (hk : k = t.kids.length) (hg0 : ∀ b, gv0.ownBlock = some b → b < w.heap.size) (ho : I64 t.op) (hn : I64 t.num) (o : Obj) {xs : List Value}
    (hx : (wr.alloc o).ownsRow lo 58 3 gv (addL args t.kids cs).1.length xs) {v' : Value} {w5 : World}
    (hown : w5.ownsRow lo 58 3 v' ((addL args t.kids cs).1.length + 1) (xs ++ [.int .i64 t.op, .int .i64 t.num, kv])) (hg : (wr.alloc o).grownBy w5 gv.ownBlock) (hw : v'.ownBlock = gv.ownBlock ∨ ∃ g, v'.ownBlock = some g ∧ (wr.alloc o).heap.size ≤ g) :
    OwnC w5 lo (fun b => S b ∨ w.heap.size ≤ b) ((addL args t.kids cs).1 ++ [⟨t.op, t.num, (addL args t.kids cs).2.map fun (a : Nat) => (a : Int)⟩]) v' ∧ w.grownBy w5 gv0.ownBlock ∧ (v'.ownBlock = gv0.ownBlock ∨ ∃ g, v'.ownBlock = some g ∧ w.heap.size ≤ g) := by
  have hs := h.size
  have hs5 := hg.size
  rw [Deep.nblk_alloc] at hs5 hw
  have e1 : t.kids.take k = t.kids := by rw [hk, List.take_length]
  have hG := h.graph
  have hK := h.kids
  rw [e1] at hG hK
  have hG4 : OwnC (wr.alloc o) lo (SK w S kv) (addL args t.kids cs).1 gv := hG.next (fun _ h _ => h) (fun b _ hb => Deep.blk_alloc_lt _ _ _ hb) (fun b _ hb => Deep.blk_alloc_lt _ _ _ hb)
  obtain ⟨blk, hb1, hb2, hb3⟩ : ∃ blk, w.heap.size ≤ blk ∧ ¬ SK w S kv blk ∧ KRowS (wr.alloc o) (fun b => b = blk) ((addL args t.kids cs).2.map fun (a : Nat) => (a : Int)) blk kv := by
    obtain ⟨blk, h1, h2⟩ := stk_krow (hK.alloc o)
    by_cases he : (addL args t.kids cs).2 = []
    · refine ⟨w.heap.size, Nat.le_refl _, fun h => by rcases h.1 with h | h <;> omega, ?_⟩
      obtain ⟨ad, cap, e, l1, l2, -⟩ := h2
      exact ⟨ad, cap, e, l1, l2, Or.inl (by rw [he]; rfl)⟩
    · exact ⟨blk, by have := (own_some hK blk (h1 he)).1; omega, fun h => h.2 (h1 he).symm, h2⟩
  have hst := hG4.step (c := ⟨t.op, t.num, (addL args t.kids cs).2.map fun (a : Nat) => (a : Int)⟩) (v' := v') ⟨ho, hn⟩ hb3 hb2 xs hx hown hg
  have hown' : ∀ b, some b = gv.ownBlock → some b = gv0.ownBlock ∨ w.heap.size + 2 ≤ b := by
    intro b hb
    rcases h.own with e | ⟨g, e, hg⟩
    · exact Or.inl (hb.trans e)
    · rw [e] at hb; simp only [Option.some.injEq] at hb; exact Or.inr (by omega)
  refine ⟨hst.next (fun b hb _ => ?_) (fun _ _ _ => rfl) (fun _ _ _ => rfl), ⟨?_, ?_, ?_, by omega, fun b hb hn => ?_⟩, ?_⟩
  · rcases hb with hb | rfl
    · rcases hb.1 with hb | hb
      · exact Or.inl hb.1
      · exact Or.inr (by omega)
    · exact Or.inr hb1
  · rw [hg.os]; exact h.os
  · rw [hg.tape]; exact h.tape
  · rw [hg.output]; exact h.output
  · refine ((hg.block b (by rw [Deep.nblk_alloc]; omega) fun e => ?_).trans (Deep.blk_alloc_lt _ _ _ (by omega))).trans (h.old b hb hn)
    rcases hown' b e with e | e
    · exact hn e
    · omega
  · rcases hw with e | ⟨g, e, hg⟩
    · rw [e]
      rcases h.own with e | ⟨g, e, hg⟩
      · exact Or.inl e
      · exact Or.inr ⟨g, e, by omega⟩
    · exact Or.inr ⟨g, e, by omega⟩

set_option maxRecDepth 100000 in
set_option maxHeartbeats 1600000 in
theorem ad_step (args : List Nat) (t : Tr) (ih : ∀ i (hi : i < t.kids.length), AdSaid args (t.kids[i])) : AdSaid args t := by
  intro gv av c lo S cs w hg hlo ha hk hz hal ho hn hp
  have HI : Hid (∀ i (hi : i < t.kids.length), AdSaid args (t.kids[i])) := ih
  have HG : Hid (OwnC w lo S cs gv) := hg
  have HA : Hid (IntsOn w (Lt lo) (args.map fun (a : Nat) => (a : Int)) av) := ha
  have HK : Hid (KidsOn w (Lt lo) t.kids c) := hk
  have HT : Hid (I64 t.op ∧ I64 t.num) := ⟨ho, hn⟩
  have HPT : Hid (AllT (VarOk args.length) t) := hp
  have HG0 : Hid (∀ b, gv.ownBlock = some b → b < w.heap.size) := fun b hb => by obtain ⟨ys, hy⟩ := hg.row; exact (own_some hy b hb).2
  obtain ⟨adg, capg, rfl⟩ := hg.form
  obtain ⟨ad, cap, rfl, hl, hm, -⟩ := hk
  obtain ⟨ada, capa, rfl, hl2, hm2, -⟩ := ha
  unfold maxLen at hm hm2
  clear ih hg ho hn hp
  by_cases h1 : t.op = 1
  · have t1 : (t.op == 1) = true := by simpa using h1
    obtain ⟨p1, p2, p3⟩ := ((allT_iff _ t).1 HPT.out).1 h1
    obtain ⟨n, hnn⟩ : ∃ n : Nat, t.num = n := ⟨t.num.toNat, by omega⟩
    have hlt : n < args.length := by omega
    have HV : Hid (addT args t cs = (cs, args[n])) := by rw [Hid, addT_var cs h1, hnn]; simp [hlt]
    obtain ⟨bl, off, rfl, hbl, d0⟩ := IntsOn.atS HA.out n (by simpa using hlt)
    have hblw : bl < w.heap.size := by have : bl < lo := hbl; omega
    simp only [List.getElem_map] at d0
    have d1 := old_cell d0 (.cells #[.int .i64 t.op, .int .i64 (n : Int), .slice ad t.kids.length cap] 54)
    rw [hnn]
    rw [List.length_map]
    clear h1 p1 p2 p3 hnn hbl d0
    go_enter Tryz.func84, Tryz.ntmps84
    go_wp2_with fail
    go_quiet (fail)
    go_wp2_with fail
    go_ret2
    rw [HV.out]
    have hbx : Below w.heap.size w ((w.alloc (.cells #[.int .i64 t.op, .int .i64 (n : Int), .slice ad t.kids.length cap] 54)).drewN nq) := below_drewN (box_below _ _) _
    exact ⟨_, rfl, HG.out.next (fun b hb _ => Or.inl hb) (fun b _ hb => hbx.block b hb) (fun b _ hb => hbx.block b hb), grown_box hbx, Or.inl rfl⟩
  · have t1 : (t.op == 1) = false := by simpa using h1
    have HV : Hid (addT args t cs = ((addL args t.kids cs).1 ++ [⟨t.op, t.num, (addL args t.kids cs).2.map fun (a : Nat) => (a : Int)⟩], (addL args t.kids cs).1.length)) := addT_other cs h1
    clear h1
    rw [List.length_map]
    go_enter Tryz.func84, Tryz.ntmps84
    obtain ⟨wC, hwC⟩ : ∃ wC : World, wC = (w.alloc (.cells #[.int .i64 t.op, .int .i64 t.num, .slice ad t.kids.length cap] 54)).alloc (.cells #[.int .i64 t.op, .int .i64 t.num, .slice none 0 0] 58) := ⟨_, rfl⟩
    have HWC : Hid (wC = (w.alloc (.cells #[.int .i64 t.op, .int .i64 t.num, .slice ad t.kids.length cap] 54)).alloc (.cells #[.int .i64 t.op, .int .i64 t.num, .slice none 0 0] 58)) := hwC
    have HST : Hid (AdRel args t cs lo S (.slice adg cs.length capg) (.slice ad t.kids.length cap) w 0 (.slice adg cs.length capg) (.slice none 0 0) wC) := by
      have hz2 : wC.heap.size = w.heap.size + 2 := by rw [hwC, Deep.nblk_alloc, Deep.nblk_alloc]
      have hbl : ∀ b, b < w.heap.size → wC.heap[b]? = w.heap[b]? := fun b hb => by rw [hwC, Deep.blk_alloc_lt _ _ _ (by rw [Deep.nblk_alloc]; omega), Deep.blk_alloc_lt _ _ _ hb]
      refine ⟨?_, ?_, ?_, ?_, fun b hb _ => hbl b hb, by rw [hwC]; rfl, by rw [hwC]; rfl, by rw [hwC]; rfl, by omega, Or.inl rfl⟩
      · simp only [List.take_zero, addL]
        exact HG.out.next (fun b hb hb2 => ⟨Or.inl ⟨hb, hb2⟩, by simp [Value.ownBlock]⟩) (fun b _ hb => hbl b hb) (fun b _ hb => hbl b hb)
      · simp only [List.take_zero, addL]
        exact World.ownsRow_nil _ _ _ _
      · have h := Deep.blk_alloc_new (w.alloc (.cells #[.int .i64 t.op, .int .i64 t.num, .slice ad t.kids.length cap] 54)) (.cells #[.int .i64 t.op, .int .i64 t.num, .slice none 0 0] 58)
        rw [Deep.nblk_alloc, ← hwC] at h
        exact h
      · rw [hwC, Deep.blk_alloc_lt _ _ _ (by rw [Deep.nblk_alloc]; omega)]; exact Deep.blk_alloc_new _ _
    clear hwC
    go_wp2_with fail
    rw [← HWC.out]
    go_loopw [0, 9] (fun gvv i wr => ∃ (k : Nat) (kv : Value), k ≤ t.kids.length ∧ i = .int .i64 k ∧ AdRel args t cs lo S (.slice adg cs.length capg) (.slice ad t.kids.length cap) w k gvv kv wr) (fun _ i _ => t.kids.length - (intOf i).toNat)
    case atStart => exact ⟨0, _, Nat.zero_le _, rfl, HST.out⟩
    case round =>
      obtain ⟨k, kv, hk, rfl, hrd⟩ := hrel
      have HRD : Hid (AdRel args t cs lo S (.slice adg cs.length capg) (.slice ad t.kids.length cap) w k _ kv wr) := hrd
      have heb := hrd.ebx
      have o2 := cell_of_blk heb 2 _ rfl
      have hsz := hrd.size
      obtain ⟨adv, capv, rfl⟩ := hrd.graph.form
      have HOLD : Hid (∀ b, Lt lo b → wr.heap[b]? = w.heap[b]?) := fun b hb => hrd.old b (Nat.lt_of_lt_of_le hb hlo) (fun e => by obtain ⟨ys, hy⟩ := HG.out.row; have := (own_some hy b e.symm).1; have h2 : b < lo := hb; omega)
      clear hrd heb
      by_cases hlt : k < t.kids.length
      · have hkk := HK.out.mono (fun _ h => h) HOLD.out
        obtain ⟨adx, capx, hxe, -, -, hr⟩ := hkk
        cases hxe
        rcases hr with hnil | ⟨bl, off, rfl, hbl, hr⟩
        · rw [hnil] at hlt; simp at hlt
        obtain ⟨p, q, r, e0, e1, e2, ht⟩ := RowOn.at t.kids off k hlt hr
        obtain ⟨rfl, rfl, io, iN, hkc⟩ := trOn_iff.1 ht
        obtain ⟨adk, capk, rfl, -, -, -⟩ := id hkc
        have HKC : Hid (KidsOn wr (Lt lo) (t.kids[k]).kids (.slice adk (t.kids[k]).kids.length capk)) := hkc
        have HIO : Hid (I64 (t.kids[k]).op ∧ I64 (t.kids[k]).num) := ⟨io, iN⟩
        clear hr ht hkc io iN hbl
        have HSZ : Hid (szL (t.kids.take k) + 1 + szT t.kids[k] ≤ szT t) := by
          have h1 := szL_take_succ t.kids k hlt
          have h2 := szL_take_le t.kids (k + 1)
          rw [Hid, szT_eq t]; omega
        have HSL := addL_size args (t.kids.take k) cs
        have hc1 : AdSaid args t.kids[k] := HI.out k hlt
        have hc2 : OwnC wr lo (SK w S kv) (addL args (t.kids.take k) cs).1 (.slice adv (addL args (t.kids.take k) cs).1.length capv) := HRD.out.graph
        have hc3 : IntsOn wr (Lt lo) (args.map fun (a : Nat) => (a : Int)) (.slice ada args.length capa) := by
          have h := HA.out.mono (fun _ h => h) HOLD.out
          rw [List.length_map] at h
          exact h
        have hc4 : (addL args (t.kids.take k) cs).1.length + szT t.kids[k] ≤ 500000 := by have := HSZ.out; have := HSL.2.1; omega
        have hc5 : lo ≤ wr.heap.size := by omega
        have HCALL : Hid (Calls Tryz.prog 84 #[.slice adv (addL args (t.kids.take k) cs).1.length capv, .agg #[.int .i64 t.kids[k].op, .int .i64 t.kids[k].num, .slice adk (t.kids[k]).kids.length capk], .slice ada args.length capa] wr (AddRes (addT args t.kids[k] (addL args (t.kids.take k) cs).1) lo (SK w S kv) (.slice adv (addL args (t.kids.take k) cs).1.length capv) wr)) := hc1 _ _ _ lo _ _ wr hc2 hc5 hc3 HKC.out hc4 hal HIO.out.1 HIO.out.2 (HPT.out.kid k hlt)
        clear hc1 hc2 hc3 hc4 hc5
        go_wp2_with fail
        refine HCALL.out.mono ?_
        rintro e w2 ⟨gv', rfl, hg2, hgr2, how2⟩
        obtain ⟨nk, hnk⟩ : ∃ nk, nk = (addT args t.kids[k] (addL args (t.kids.take k) cs).1).2 := ⟨_, rfl⟩
        have HNK : Hid (nk = (addT args t.kids[k] (addL args (t.kids.take k) cs).1).2) := hnk
        have HG2 : Hid (OwnC w2 lo (fun b => SK w S kv b ∨ wr.heap.size ≤ b) (addT args t.kids[k] (addL args (t.kids.take k) cs).1).1 gv') := hg2
        have HGR2 : Hid (wr.grownBy w2 (Value.slice adv (addL args (t.kids.take k) cs).1.length capv).ownBlock) := hgr2
        have HOW2 : Hid (gv'.ownBlock = (Value.slice adv (addL args (t.kids.take k) cs).1.length capv).ownBlock ∨ ∃ g, gv'.ownBlock = some g ∧ wr.heap.size ≤ g) := how2
        obtain ⟨-, -, q3, q4⟩ := HRD.out.kept HG0.out hgr2
        have hbx2 := q3.trans HRD.out.box
        have p2 := cell_of_blk hbx2 2 _ rfl
        have p3 := old_cell p2 (.cells #[.int .i64 (nk : Int)] 3)
        have HBX2 : Hid (w2.heap[w.heap.size + 1]? = some (.cells #[.int .i64 t.op, .int .i64 t.num, kv] 58)) := hbx2
        have HST2 : Hid (Stk (w2.alloc (.cells #[.int .i64 (nk : Int)] 3)) (w.heap.size + 2) (addL args (t.kids.take k) cs).2 kv) := q4.alloc _
        obtain ⟨adq, capq, rfl⟩ := q4.len
        have HZ2 : Hid (w.heap.size + 2 ≤ w2.heap.size) := by have := hgr2.size; rw [Hid]; omega
        have HNB : Hid ((addL args (t.kids.take k) cs).2.length = k) := by rw [Hid, addL_length, List.length_take]; omega
        obtain ⟨iI, zI, hII⟩ := infoI1
        have HII : Hid (Tryz.prog.info? 3 = some iI ∧ iI.zero = some zI ∧ iI.size = 1 ∧ iI.bytes = 8 ∧ zI.cells.size = 1) := hII
        have hkm : k < 1048576 := by
          have h := HSZ.out
          rw [szL_sum, List.length_take] at h
          omega
        rw [← hnk]
        clear hII hg2 hgr2 how2 q3 q4 hbx2 hnk
        go_wp2_with (at_builtin; go_must (refine wpList_append_where _ rfl _ _ 47 rfl (w.heap.size + 2) 3 iI zI 1 8 Tryz.underlying47 HII.out.1 HII.out.2.1 HII.out.2.2.1 HII.out.2.2.2.1 HII.out.2.2.2.2 (by decide) (.slice adq (addL args (t.kids.take k) cs).2.length capq) (addL args (t.kids.take k) cs).2.length (plV (addL args (t.kids.take k) cs).2) rfl HST2.out ⟨w2.heap.size, 0, none⟩ 1 1 [.int .i64 (nk : Int)] rfl rfl (news1 w2 _) (by simp [Value.oneCell']) (by rw [HNB.out]; unfold maxLen; omega) (by rw [HNB.out]; omega) (by rw [Deep.nblk_alloc]; have := HZ2.out; omega) (by omega) ?_); go_must (intro v' w5 hown hgr5 hw5); go_must (have HST5 : Hid (Stk w5 (w.heap.size + 2) ((addL args (t.kids.take k) cs).2 ++ [nk]) v') := stk_snoc hown); go_must (have HGR5 : Hid ((w2.alloc (.cells #[.int .i64 (nk : Int)] 3)).grownBy w5 (Value.slice adq (addL args (t.kids.take k) cs).2.length capq).ownBlock) := hgr5); go_must (have HW5 : Hid (v'.ownBlock = (Value.slice adq (addL args (t.kids.take k) cs).2.length capq).ownBlock ∨ ∃ g, v'.ownBlock = some g ∧ (w2.alloc (.cells #[.int .i64 (nk : Int)] 3)).heap.size ≤ g) := hw5); go_must (have hbx5 := ((hgr5.block _ (by rw [Deep.nblk_alloc]; have := HZ2.out; omega) fun e => by have := (own_some HST2.out _ e.symm).1; omega).trans (Deep.blk_alloc_lt _ _ _ (by have := HZ2.out; omega))).trans HBX2.out); go_must (obtain ⟨adz, capz, rfl⟩ := stk_form HST5.out HNB.out); go_must (have s2 := cell_of_blk hbx5 2 _ rfl); go_must (have sf := frz_of_blk hbx5 2); clear hown hgr5 hw5 hbx5 p2 p3)
        go_roundw
        case rel => exact ⟨k + 1, _, by omega, by go_num, ad_push HRD.out hlt HG0.out HG2.out HGR2.out HOW2.out _ (by rw [← HNK.out]; exact HST5.out) HGR5.out HW5.out⟩
        case measure => simp [intOf]; omega
      · have hke : k = t.kids.length := by omega
        subst hke
        have htk : t.kids.take t.kids.length = t.kids := List.take_length
        have HG4 : Hid (OwnC wr lo (SK w S kv) (addL args t.kids cs).1 (.slice adv (addL args t.kids cs).1.length capv)) := by
          have h := HRD.out.graph
          rw [htk] at h
          exact h
        have HRD2 : Hid (AdRel args t cs lo S (.slice adg cs.length capg) (.slice ad t.kids.length cap) w t.kids.length (.slice adv (addL args t.kids cs).1.length capv) kv wr) := by
          have h := HRD.out
          rw [htk] at h
          exact h
        rw [htk]
        clear htk HRD
        have hrk : Stk wr (w.heap.size + 2) (addL args t.kids cs).2 kv := by
          have h := HRD2.out.kids
          rw [List.take_length] at h
          exact h
        obtain ⟨adq, capq, rfl⟩ := hrk.len
        have hbx := HRD2.out.box
        have r0 := cell_of_blk hbx 0 _ rfl
        have r1 := cell_of_blk hbx 1 _ rfl
        have r2 := cell_of_blk hbx 2 _ rfl
        obtain ⟨xs, hx⟩ := (HG4.out.next (w' := (wr.alloc (.cells #[.int .i64 t.op, .int .i64 t.num, .slice adq (addL args t.kids cs).2.length capq] 58))) (fun _ h _ => h) (fun b _ hb => Deep.blk_alloc_lt _ _ _ hb) (fun b _ hb => Deep.blk_alloc_lt _ _ _ hb)).row
        have HX : Hid ((wr.alloc (.cells #[.int .i64 t.op, .int .i64 t.num, .slice adq (addL args t.kids cs).2.length capq] 58)).ownsRow lo 58 3 (.slice adv (addL args t.kids cs).1.length capv) (addL args t.kids cs).1.length xs) := hx
        obtain ⟨iC, zC, hII⟩ := infoC1
        have HII : Hid (Tryz.prog.info? 58 = some iC ∧ iC.zero = some zC ∧ iC.size = 3 ∧ iC.bytes = 40 ∧ zC.cells.size = 3) := hII
        have hgl : (addL args t.kids cs).1.length ≤ 500000 := by
          have h := (addL_size args t.kids cs).2.1
          rw [szT_eq t] at hz
          omega
        clear hII hbx hrk hx
        go_wp2_with (at_builtin; go_must (refine wpList_append_where _ rfl _ _ 26 rfl lo 58 iC zC 3 40 Tryz.underlying26 HII.out.1 HII.out.2.1 HII.out.2.2.1 HII.out.2.2.2.1 HII.out.2.2.2.2 (by decide) (.slice adv (addL args t.kids cs).1.length capv) (addL args t.kids cs).1.length xs rfl HX.out ⟨wr.heap.size, 0, none⟩ 1 1 [.int .i64 t.op, .int .i64 t.num, .slice adq (addL args t.kids cs).2.length capq] rfl rfl (news3c wr _ _ _) (by simp [Value.oneCell']) (by unfold maxLen; omega) (by omega) (by rw [Deep.nblk_alloc]; omega) (by omega) ?_); go_must (intro v' w5 hown hg5 hw5); go_must (have HOWN : Hid (w5.ownsRow lo 58 3 v' ((addL args t.kids cs).1.length + 1) (xs ++ [.int .i64 t.op, .int .i64 t.num, .slice adq (addL args t.kids cs).2.length capq])) := hown); go_must (have HG5 : Hid ((wr.alloc (.cells #[.int .i64 t.op, .int .i64 t.num, .slice adq (addL args t.kids cs).2.length capq] 58)).grownBy w5 (Value.slice adv (addL args t.kids cs).1.length capv).ownBlock) := hg5); go_must (have HW5 : Hid (v'.ownBlock = (Value.slice adv (addL args t.kids cs).1.length capv).ownBlock ∨ ∃ g, v'.ownBlock = some g ∧ (wr.alloc (.cells #[.int .i64 t.op, .int .i64 t.num, .slice adq (addL args t.kids cs).2.length capq] 58)).heap.size ≤ g) := hw5); clear hown hg5 hw5)
        go_ret2
        obtain ⟨z1, z2, z3⟩ := ad_end HRD2.out rfl HG0.out HT.out.1 HT.out.2 _ HX.out HOWN.out HG5.out HW5.out
        rw [HV.out]
        exact ⟨v', rfl, z1, z2, z3⟩
theorem ad_calls (args : List Nat) : ∀ t : Tr, AdSaid args t
  | .node op n ks => ad_step args (.node op n ks) fun i hi => ad_calls args _
termination_by t => szT t
decreasing_by
  simp only [szT, Tr.kids_node] at *
  exact szT_lt_szL ks i hi
end Go.Proofs.YtjpjikfmdaejeaaGreatDoor
