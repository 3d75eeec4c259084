/-
  PROGRAMS IN MEMORY: a slice of functions (Arity, Body), four cells each. The laws' own count, copy and comparison of programs.
-/
import Derived.Test.YtocnkjicmchbdaaSz
import Derived.Test.YtocnkjicmchbdaaTo
import Derived.Test.YtocnkjicmchbdaaEq
namespace Go.Proofs.Ytocnkjicmchbdaa
set_option linter.unusedVariables false
set_option linter.unusedSimpArgs false
open Go.RowKit

/-- a function: its arity and its body -/
abbrev Df := Int × Tr

/-- the four cells of a function -/
def DfOn (w : World) (S : Nat → Prop) (d : Df) (a b c e : Value) : Prop := a = .int .i64 d.1 ∧ I64 d.1 ∧ TrOn w S d.2 b c e

/-- a slice value that holds these functions -/
def DefsOn (w : World) (S : Nat → Prop) (ds : List Df) (v : Value) : Prop :=
  ∃ ad cap, v = .slice ad ds.length cap ∧ ds.length ≤ cap ∧ cap ≤ maxLen ∧ (ds = [] ∨ ∃ bl off, ad = some ⟨bl, off, none⟩ ∧ S bl ∧ ∀ i (hi : i < ds.length), ∃ a b c e,
    w.cell? ⟨bl, off + i * 4, none⟩ = some a ∧ w.cell? ⟨bl, off + i * 4 + 1, none⟩ = some b ∧ w.cell? ⟨bl, off + i * 4 + 2, none⟩ = some c ∧ w.cell? ⟨bl, off + i * 4 + 3, none⟩ = some e ∧ DfOn w S ds[i] a b c e)

theorem DefsOn.mono {w w' : World} {S S' : Nat → Prop} {ds : List Df} {v : Value} (h : DefsOn w S ds v) (hS : ∀ k, S k → S' k) (hw : ∀ k, S k → w'.heap[k]? = w.heap[k]?) : DefsOn w' S' ds v := by
  obtain ⟨ad, cap, e, l1, l2, h5⟩ := h
  refine ⟨ad, cap, e, l1, l2, ?_⟩
  rcases h5 with h5 | ⟨bl, off, e, s, r⟩
  · exact Or.inl h5
  · refine Or.inr ⟨bl, off, e, hS _ s, fun i hi => ?_⟩
    obtain ⟨a, b, c, x, h1, h2, h3, h4, g1, g2, g3⟩ := r i hi
    refine ⟨a, b, c, x, ?_, ?_, ?_, ?_, g1, g2, g3.mono hS hw⟩
    all_goals rw [World.cell?_of_block (w := w) (hw bl s)]; assumption
abbrev DIn (w : World) (ds : List Df) (v : Value) : Prop := DefsOn w (Lt w.heap.size) ds v
theorem DefsOn.next {w w' : World} {ds : List Df} {v : Value} (h : DIn w ds v) (hb : Below w.heap.size w w') : DIn w' ds v :=
  h.mono (fun k (hk : k < w.heap.size) => Nat.lt_of_lt_of_le hk hb.size) (fun k hk => hb.block k hk)
theorem DefsOn.drew {w : World} {ds : List Df} {v : Value} (h : DIn w ds v) : DIn w.drew ds v := h.next ((Below.refl _ _).drew)
theorem DefsOn.btw_in {w : World} {lo : Nat} {ds : List Df} {v : Value} (h : DefsOn w (Btw lo w.heap.size) ds v) : DIn w ds v :=
  h.mono (fun _ hk => hk.2) (fun _ _ => rfl)

/-- element i, opened -/
theorem DefsOn.at {w : World} {ds : List Df} {ad : Option Addr} {n cap : Nat} (h : DIn w ds (.slice ad n cap)) (i : Nat) (hi : i < ds.length) :
    ∃ bl off c, ad = some ⟨bl, off, none⟩ ∧ w.cell? ⟨bl, off + i * 4, none⟩ = some (.int .i64 ds[i].1) ∧ w.cell? ⟨bl, off + i * 4 + 1, none⟩ = some (.int .i64 ds[i].2.op) ∧ w.cell? ⟨bl, off + i * 4 + 2, none⟩ = some (.int .i64 ds[i].2.num) ∧ w.cell? ⟨bl, off + i * 4 + 3, none⟩ = some c ∧ I64 ds[i].1 ∧ I64 ds[i].2.op ∧ I64 ds[i].2.num ∧ In w ds[i].2.kids c := by
  obtain ⟨ad', cap', he, -, -, hr⟩ := h
  cases he
  rcases hr with rfl | ⟨bl, off, rfl, -, r⟩
  · simp at hi
  obtain ⟨a, b, c, e, h1, h2, h3, h4, rfl, g2, g3⟩ := r i hi
  obtain ⟨rfl, rfl, g5, g6, g7⟩ := trOn_iff.1 g3
  exact ⟨bl, off, e, rfl, h1, h2, h3, h4, g2, g5, g6, g7⟩

/-- the bodies -/
def bodies (ds : List Df) : List Tr := ds.map (·.2)
theorem bodies_length (ds : List Df) : (bodies ds).length = ds.length := by simp [bodies]
theorem bodies_at (ds : List Df) (i : Nat) (hi : i < ds.length) : (bodies ds)[i]'(by rw [bodies_length]; exact hi) = ds[i].2 := by simp [bodies]

/-! ### The count -/
set_option maxHeartbeats 400000 in
theorem szDef_calls (a o n : Int) (ks : List Tr) (c : Value) (left : Int) (w : World) (hk : In w ks c) (h0 : 0 ≤ left) (h1 : left ≤ 4611686018427387904) :
    Calls Try.prog 59 #[.agg #[.int .i64 a, .int .i64 o, .int .i64 n, c], .int .i64 left] w fun e w' => e = .returned (.int .i64 (szOut ks left)) ∧ Below w.heap.size w w' := by
  have HK : Hid (In w ks c) := hk
  clear hk
  have HBX : Hid (Below w.heap.size w (w.alloc (.cells #[.int .i64 a, .int .i64 o, .int .i64 n, c] 81))) := box_below _ _
  have hr := szOut_range ks left h0
  go_enter Try.func59, Try.ntmps59
  go_wp2_with fail
  refine (sz_calls ks _ _ c left _ (HK.out.next HBX.out) h0 h1).mono ?_
  rintro e w1 ⟨rfl, hb⟩
  have HB : Hid (Below w.heap.size w w1) := HBX.out.trans (hb.mono HBX.out.size)
  clear hb
  by_cases hneg : szOut ks left < 0
  · have HV : Hid (szOut ks left = -1) := by unfold Hid; omega
    go_wp2_with fail
    go_ret
    exact ⟨ret_int HV.out.symm, HB.out⟩
  · go_wp2_with fail
    go_ret
    exact ⟨rfl, HB.out⟩

set_option maxHeartbeats 400000 in
theorem szDefS_calls (ds : List Df) (c : Value) (left : Int) (w : World) (hk : DIn w ds c) (h0 : 0 ≤ left) (h1 : left ≤ 4611686018427387904) :
    Calls Try.prog 17 #[c, .int .i64 left] w fun e w' => e = .returned (.int .i64 (szOut (bodies ds) left)) ∧ Below w.heap.size w w' := by
  have HK : Hid (DIn w ds c) := hk
  obtain ⟨ad, cap, rfl, hl, hm, -⟩ := hk
  unfold maxLen at hm
  have hbl := bodies_length ds
  by_cases hlen : left < ds.length
  · have HV : Hid (szOut (bodies ds) left = -1) := by unfold Hid szOut; rw [if_neg]; rw [szL_sum]; omega
    clear hbl
    go_enter Try.func17, Try.ntmps17
    go_wp2_with fail
    go_ret
    exact ⟨ret_int HV.out.symm, Below.refl _ _⟩
  · have hneg : ¬ (left - ds.length < 0) := by omega
    have HL : Hid ((bodies ds).length = ds.length) := hbl
    clear hbl
    go_enter Try.func17, Try.ntmps17
    go_wp2_with fail
    go_loopw [1, 5] (fun l i wr => ∃ k : Nat, k ≤ ds.length ∧ i = .int .i64 k ∧ l = .int .i64 (szAt (bodies ds) left k) ∧ 0 ≤ szAt (bodies ds) left k ∧ Below w.heap.size w wr) (fun _ i _ => ds.length - (intOf i).toNat)
    case atStart => exact ⟨0, Nat.zero_le _, rfl, by simp [szAt, sumT, HL.out], by simp [szAt, sumT, HL.out]; omega, Below.refl _ _⟩
    case round =>
      obtain ⟨k, hk, rfl, rfl, hpos, hb⟩ := hrel
      have hle : szAt (bodies ds) left k ≤ left := by unfold szAt; omega
      by_cases hlt : k < ds.length
      · obtain ⟨bl, off, r, rfl, c0, c1, c2, c3, -, -, -, hkk⟩ := (HK.out.next hb).at k hlt
        have HKK : Hid (In wr ds[k].2.kids r) := hkk
        clear hkk
        have hkb : k < (bodies ds).length := by rw [HL.out]; exact hlt
        have eb : Hid ((bodies ds)[k] = ds[k].2) := bodies_at ds k hlt
        go_wp2_with fail
        refine (szDef_calls _ _ _ ds[k].2.kids r _ _ HKK.out hpos (by omega)).mono ?_
        rintro e w1 ⟨rfl, hb1⟩
        have hb2 : Below w.heap.size w w1 := hb.trans (hb1.mono hb.size)
        clear hb1
        have hrg := szOut_range ds[k].2.kids (szAt (bodies ds) left k) hpos
        by_cases hneg1 : szOut ds[k].2.kids (szAt (bodies ds) left k) < 0
        · have HV : Hid (szOut (bodies ds) left = -1) := szOut_neg (bodies ds) left k hkb (by rw [eb.out]; exact hneg1) hpos
          go_wp2_with fail
          go_ret
          exact ⟨ret_int HV.out.symm, hb2⟩
        · have HV : Hid (szOut ds[k].2.kids (szAt (bodies ds) left k) = szAt (bodies ds) left (k + 1)) := by
            have := szOut_kid (bodies ds) left k hkb (by rw [eb.out]; omega)
            rw [eb.out] at this; exact this
          have hnn : 0 ≤ szAt (bodies ds) left (k + 1) := by rw [← HV.out]; omega
          go_wp2_with fail
          go_roundw
          case rel => exact ⟨k + 1, by omega, by go_num, by rw [HV.out], hnn, hb2⟩
          case measure => simp [intOf]; omega
      · have hke : ds.length = k := by omega
        have HV : Hid (szOut (bodies ds) left = szAt (bodies ds) left k) := by subst hke; rw [← HL.out] at hpos ⊢; exact szOut_end (bodies ds) left hpos
        clear hke
        go_wp2_with fail
        go_ret
        exact ⟨ret_int HV.out.symm, hb⟩

/-! ### The copy -/
def NewDf (a o n : Int) (ks : List Tr) (w : World) (e : Ending) (w' : World) : Prop := ∃ v, e = .returned (.agg #[.int .i64 a, .int .i64 o, .int .i64 n, v]) ∧ KidsOn w' (Btw w.heap.size w'.heap.size) ks v ∧ Below w.heap.size w w'
def NewDefs (ds : List Df) (w : World) (e : Ending) (w' : World) : Prop := ∃ v, e = .returned v ∧ DefsOn w' (Btw w.heap.size w'.heap.size) ds v ∧ Below w.heap.size w w'

set_option maxHeartbeats 400000 in
theorem toDef_calls (a o n : Int) (ks : List Tr) (c : Value) (w : World) (hk : In w ks c) (hsz : szL ks ≤ 1048576) : Calls Try.prog 62 #[.agg #[.int .i64 a, .int .i64 o, .int .i64 n, c]] w (NewDf a o n ks w) := by
  have HK : Hid (In w ks c) := hk
  clear hk
  go_enter Try.func62, Try.ntmps62
  go_wp2_with fail
  refine (to_calls ks _ _ c _ ?_ hsz).mono ?_
  · exact HK.out.next ((((Below.refl _ _).alloc (Nat.le_refl _) _).alloc (by simp) _).alloc (by simp; omega) _)
  rintro e w1 ⟨v, rfl, hv, hb⟩
  obtain ⟨hc, hf⟩ := bcell hb
  have hz : w.heap.size + 2 < w1.heap.size := by have := hb.size; simp at this; omega
  have hlo : w.heap.size + 3 ≤ w1.heap.size := by omega
  have HV : Hid (KidsOn w1 (Btw (w.heap.size + 3) w1.heap.size) ks v) := hv.mono (fun k hk => ⟨by have := hk.1; simpa using this, hk.2⟩) (fun _ _ => rfl)
  have HB : Hid (Below w.heap.size w w1) := ((((Below.refl _ _).alloc (Nat.le_refl _) _).alloc (by simp) _).alloc (by simp; omega) _).trans (hb.mono (by simp; omega))
  obtain ⟨ad, cap, rfl, -, -, -⟩ := hv
  clear hb
  go_wp2_with fail
  refine bodyPost_ret (v := .agg #[.int .i64 a, .int .i64 o, .int .i64 n, .slice ad ks.length cap]) (by simp [results, Try.results62, go_sem, hc, hf, hz]) rfl ⟨_, rfl, ?_, ?_⟩
  · simp only [size_setCell]
    refine KidsOn.mono (S := Btw (w.heap.size + 3) w1.heap.size) ?_ (fun k hk => ⟨by have := hk.1; omega, hk.2⟩) (fun _ _ => rfl)
    repeat' (refine KidsOn.setCell ?_ (by simp [Btw] <;> omega) _)
    exact HV.out
  · repeat' (refine Below.setCell ?_ (by simp <;> omega) _)
    exact HB.out

theorem infoD : (Try.prog.info? 84).map (fun i => (i.zero, i.size, i.bytes)) = some (some (.agg #[.int .i64 0, .int .i64 0, .int .i64 0, .slice none 0 0]), 4, 48) := by kernel_rfl
theorem make_defs (n : Nat) (h : n ≤ 1048576) : ∃ C : Array Value, C.size = n * 4 ∧ ∀ w : World, (Instr.makeSlice 40 (.int .i64 (n : Int)) (.int .i64 (n : Int))).run Try.prog w = .ok (.slice (some ⟨w.heap.size, 0, none⟩) n n) (w.alloc (.cells C 84)) := by
  obtain ⟨i, hi, hzz⟩ := Option.map_eq_some_iff.1 infoD
  simp only [Prod.mk.injEq] at hzz
  obtain ⟨hz, hs, hb⟩ := hzz
  refine ⟨madeCells (Value.agg #[.int .i64 0, .int .i64 0, .int .i64 0, .slice none 0 0]).cells (n * 4), size_madeCells _ _, fun w => ?_⟩
  have hr := run_make (P := Try.prog) w 40 84 i _ Try.underlying40 hi hz .i64 .i64 n n (by omega) (Int.le_refl _) (by rw [hb]; omega) (by omega)
  simp only [Int.toNat_natCast, hs] at hr
  exact hr

/-- what holds of the copy of a program behind k rounds -/
def ToDRel (ds : List Df) (w : World) (k : Nat) (wr : World) : Prop :=
  ∃ f : Nat → Value, wr.rowIs w.heap.size 84 (ds.length * 4) f ∧ (∀ j (_ : j < k) (hj : j < ds.length), DfOn wr (Btw (w.heap.size + 1) wr.heap.size) ds[j] (f (j * 4)) (f (j * 4 + 1)) (f (j * 4 + 2)) (f (j * 4 + 3))) ∧ Below w.heap.size w wr

theorem toDRel_start (ds : List Df) (w : World) (C : Array Value) (h : C.size = ds.length * 4) : ToDRel ds w 0 (w.alloc (.cells C 84)) := by
  refine ⟨fun i => C.getD i undef, ⟨C, Deep.blk_alloc_new _ _, h, fun i hi => ?_⟩, fun j hj => absurd hj (by omega), (Below.refl _ _).alloc (Nat.le_refl _) _⟩
  simp [Array.getElem?_eq_getElem (h ▸ hi : i < C.size), Array.getD, (h ▸ hi : i < C.size)]

/-- the world behind the four stores -/
def stD (w1 : World) (b k : Nat) (d : Df) (v : Value) : World :=
  (((w1.setCell ⟨b, k * 4, none⟩ (.int .i64 d.1)).setCell ⟨b, k * 4 + 1, none⟩ (.int .i64 d.2.op)).setCell ⟨b, k * 4 + 2, none⟩ (.int .i64 d.2.num)).setCell ⟨b, k * 4 + 3, none⟩ v

theorem toDRel_step (ds : List Df) (w wr w1 : World) (k : Nat) (hk : k < ds.length) (h : ToDRel ds w k wr) (v : Value) (hb : Below wr.heap.size wr w1) (hv : KidsOn w1 (Btw wr.heap.size w1.heap.size) (ds[k]).2.kids v) (ha : I64 (ds[k]).1) (ho : I64 (ds[k]).2.op) (hn : I64 (ds[k]).2.num) :
    ToDRel ds w (k + 1) (stD w1 w.heap.size k ds[k] v) := by
  unfold stD
  obtain ⟨f, hr, ht, hbw⟩ := h
  have hlt := hr.lt
  have hr1 : w1.rowIs w.heap.size 84 (ds.length * 4) f := hr.of_block (hb.block _ hlt)
  have hsz := hb.size
  have keep : ∀ (t : Tr) (a b c : Value), TrOn w1 (Btw (w.heap.size + 1) w1.heap.size) t a b c → TrOn ((((w1.setCell ⟨w.heap.size, k * 4, none⟩ (.int .i64 ds[k].1)).setCell ⟨w.heap.size, k * 4 + 1, none⟩ (.int .i64 ds[k].2.op)).setCell ⟨w.heap.size, k * 4 + 2, none⟩ (.int .i64 ds[k].2.num)).setCell ⟨w.heap.size, k * 4 + 3, none⟩ v) (Btw (w.heap.size + 1) w1.heap.size) t a b c :=
    fun t a b c g => (((g.setCell (by simp [Btw] <;> omega) _).setCell (by simp [Btw] <;> omega) _).setCell (by simp [Btw] <;> omega) _).setCell (by simp [Btw] <;> omega) _
  refine ⟨_, (((hr1.set (k * 4) _).set (k * 4 + 1) _).set (k * 4 + 2) _).set (k * 4 + 3) _, fun j hj hjl => ?_, ?_⟩
  · simp only [size_setCell]
    by_cases hjk : j = k
    · subst hjk
      have : TrOn w1 (Btw (w.heap.size + 1) w1.heap.size) ds[j].2 (.int .i64 (ds[j]).2.op) (.int .i64 (ds[j]).2.num) v := trOn_iff.2 ⟨rfl, rfl, ho, hn, hv.mono (fun k hk => ⟨by have := hk.1; omega, hk.2⟩) (fun _ _ => rfl)⟩
      refine ⟨by simp, ha, ?_⟩
      simpa using keep _ _ _ _ this
    · obtain ⟨h01, h02, h03⟩ := ht j (by omega) hjl
      have h1 : TrOn w1 (Btw (w.heap.size + 1) w1.heap.size) ds[j].2 (f (j * 4 + 1)) (f (j * 4 + 2)) (f (j * 4 + 3)) := h03.mono (fun k hk => ⟨hk.1, by have := hk.2; omega⟩) (fun k hk => hb.block k hk.2)
      have h2 := keep _ _ _ _ h1
      have e1 : ∀ m, m < 4 → j * 4 + m ≠ k * 4 + 3 ∧ j * 4 + m ≠ k * 4 + 2 ∧ j * 4 + m ≠ k * 4 + 1 ∧ j * 4 + m ≠ k * 4 := fun m hm => by omega
      have a0 := e1 0 (by omega)
      have a1 := e1 1 (by omega)
      have a2 := e1 2 (by omega)
      have a3 := e1 3 (by omega)
      simp only [Nat.add_zero] at a0
      refine ⟨?_, h02, ?_⟩
      · simp only [if_neg a0.1, if_neg a0.2.1, if_neg a0.2.2.1, if_neg a0.2.2.2]; exact h01
      · simp only [if_neg a1.1, if_neg a1.2.1, if_neg a1.2.2.1, if_neg a1.2.2.2, if_neg a2.1, if_neg a2.2.1, if_neg a2.2.2.1, if_neg a2.2.2.2, if_neg a3.1, if_neg a3.2.1, if_neg a3.2.2.1, if_neg a3.2.2.2]; exact h2
  · exact ((((hbw.trans (hb.mono (Nat.le_of_lt hlt))).setCell (by simp) _).setCell (by simp) _).setCell (by simp) _).setCell (by simp) _

theorem toDRel_end (ds : List Df) (w wr : World) (h : ToDRel ds w ds.length wr) (hl : ds.length ≤ 1048576) : NewDefs ds w (.returned (.slice (some ⟨w.heap.size, 0, none⟩) ds.length ds.length)) wr := by
  obtain ⟨f, hr, ht, hbw⟩ := h
  have hlt := hr.lt
  refine ⟨_, rfl, ⟨_, _, rfl, Nat.le_refl _, by unfold maxLen; omega, Or.inr ⟨_, _, rfl, ⟨Nat.le_refl _, hlt⟩, fun i hi => ?_⟩⟩, hbw⟩
  obtain ⟨g1, g2, g3⟩ := ht i hi hi
  refine ⟨f (i * 4), f (i * 4 + 1), f (i * 4 + 2), f (i * 4 + 3), ?_, ?_, ?_, ?_, g1, g2, g3.mono (fun k hk => ⟨by have := hk.1; omega, hk.2⟩) (fun _ _ => rfl)⟩
  · simpa using hr.cell (i := i * 4) (by omega)
  · simpa [Nat.zero_add] using hr.cell (i := i * 4 + 1) (by omega)
  · simpa [Nat.zero_add] using hr.cell (i := i * 4 + 2) (by omega)
  · simpa [Nat.zero_add] using hr.cell (i := i * 4 + 3) (by omega)

theorem szL_body_le (ds : List Df) (k : Nat) (hk : k < ds.length) : szL ds[k].2.kids ≤ szL (bodies ds) := by
  have h := szL_kids_lt (bodies ds) k (by rw [bodies_length]; exact hk)
  rw [bodies_at ds k hk] at h
  omega

set_option maxHeartbeats 400000 in
theorem toDefS_calls (ds : List Df) (c : Value) (w : World) (hk : DIn w ds c) (hsz : szL (bodies ds) ≤ 1048576) : Calls Try.prog 19 #[c] w (NewDefs ds w) := by
  have HK : Hid (DIn w ds c) := hk
  have HZ : Hid (szL (bodies ds) ≤ 1048576) := hsz
  have hlen : ds.length ≤ 1048576 := by rw [szL_sum, bodies_length] at hsz; omega
  clear hsz
  obtain ⟨ad, cap, rfl, -, -, -⟩ := hk
  obtain ⟨C, hC, hmk⟩ := make_defs ds.length hlen
  have HC : Hid (C.size = ds.length * 4) := hC
  clear hC
  go_enter Try.func19, Try.ntmps19
  go_wp2_with fail
  go_loopw [4] (fun i wr => ∃ k : Nat, k ≤ ds.length ∧ i = .int .i64 k ∧ ToDRel ds w k wr) (fun i _ => ds.length - (intOf i).toNat)
  case atStart => exact ⟨0, Nat.zero_le _, rfl, toDRel_start ds w C HC.out⟩
  case round =>
    obtain ⟨k, hk, rfl, hto⟩ := hrel
    have HT : Hid (ToDRel ds w k wr) := hto
    obtain ⟨f, hr0, _, hb⟩ := hto
    have hlt0 := hr0.lt
    by_cases hlt : k < ds.length
    · obtain ⟨bl, off, r, rfl, c0, c1, c2, c3, ia, io, iN, hkk⟩ := (HK.out.next hb).at k hlt
      have HKK : Hid (In wr ds[k].2.kids r) := hkk
      have hkz : szL ds[k].2.kids ≤ 1048576 := by have := szL_body_le ds k hlt; have := HZ.out; omega
      have HR : Hid (wr.rowIs w.heap.size 84 (ds.length * 4) f) := hr0
      clear hkk hr0 hb
      go_wp2_with fail
      refine (toDef_calls _ _ _ ds[k].2.kids r _ HKK.out hkz).mono ?_
      rintro e w1 ⟨v, rfl, hv, hb1⟩
      have hr1 : w1.rowIs w.heap.size 84 (ds.length * 4) f := HR.out.of_block (hb1.block _ hlt0)
      have HS : Hid (ToDRel ds w (k + 1) (stD w1 w.heap.size k ds[k] v)) := toDRel_step ds w wr w1 k hlt HT.out v hb1 hv ia io iN
      obtain ⟨ad2, cap2, rfl, _, _, _⟩ := hv
      have g0 := hr1.cell (i := k * 4) (by omega)
      have g1 := hr1.cell (i := k * 4 + 1) (by omega)
      have g2 := hr1.cell (i := k * 4 + 2) (by omega)
      have g3 := hr1.cell (i := k * 4 + 3) (by omega)
      have f0 := hr1.frozen (k * 4)
      have f1 := hr1.frozen (k * 4 + 1)
      have f2 := hr1.frozen (k * 4 + 2)
      have f3 := hr1.frozen (k * 4 + 3)
      clear hr1 hb1
      go_wp2_with fail
      go_roundw
      case rel => exact ⟨k + 1, by omega, by go_num, HS.out⟩
      case measure => simp [intOf]; omega
    · have hke : ds.length = k := by omega
      have HV : Hid (NewDefs ds w (.returned (.slice (some ⟨w.heap.size, 0, none⟩) ds.length ds.length)) wr) := by subst hke; exact toDRel_end ds w wr HT.out hlen
      clear hke hr0 hb
      go_wp2_with fail
      go_ret
      exact HV.out

/-! ### The comparison -/
set_option maxHeartbeats 400000 in
theorem eqDef_calls (a o n : Int) (ks : List Tr) (c d : Value) (w : World) (hc : In w ks c) (hd : In w ks d) : Calls Try.prog 68 #[.agg #[.int .i64 a, .int .i64 o, .int .i64 n, c], .agg #[.int .i64 a, .int .i64 o, .int .i64 n, d]] w fun e w' => e = .returned (.bool true) ∧ Below w.heap.size w w' := by
  have HC : Hid (In w ks c) := hc
  have HD : Hid (In w ks d) := hd
  clear hc hd
  have t1 : (a != a) = false := by simp
  go_enter Try.func68, Try.ntmps68
  go_wp2_with fail
  have hb0 : ∀ o1 o2, Below w.heap.size w ((w.alloc o1).alloc o2) := fun o1 o2 => ((Below.refl _ _).alloc (Nat.le_refl _) _).alloc (by simp) _
  refine (eq_calls ks _ _ c d _ (HC.out.next (hb0 _ _)) (HD.out.next (hb0 _ _))).mono ?_
  rintro e w1 ⟨rfl, hb⟩
  have HB : Hid (Below w.heap.size w w1) := (hb0 _ _).trans (hb.mono (by simp; omega))
  clear hb hb0
  go_wp2_with fail
  go_ret
  exact ⟨rfl, HB.out⟩

set_option maxHeartbeats 400000 in
theorem eqDefS_calls (ds : List Df) (c d : Value) (w : World) (hc : DIn w ds c) (hd : DIn w ds d) : Calls Try.prog 21 #[c, d] w fun e w' => e = .returned (.bool true) ∧ Below w.heap.size w w' := by
  have HC : Hid (DIn w ds c) := hc
  have HD : Hid (DIn w ds d) := hd
  obtain ⟨ad, cap, rfl, hl, hm, -⟩ := hc
  obtain ⟨ad', cap', rfl, hl', hm', -⟩ := hd
  unfold maxLen at hm hm'
  have t1 : ((ds.length : Int) != ds.length) = false := by simp
  go_enter Try.func21, Try.ntmps21
  go_wp2_with fail
  go_loopw [5] (fun i wr => ∃ k : Nat, k ≤ ds.length ∧ i = .int .i64 k ∧ Below w.heap.size w wr) (fun i _ => ds.length - (intOf i).toNat)
  case atStart => exact ⟨0, Nat.zero_le _, rfl, Below.refl _ _⟩
  case round =>
    obtain ⟨k, hk, rfl, hb⟩ := hrel
    by_cases hlt : k < ds.length
    · obtain ⟨bl, off, r, rfl, c0, c1, c2, c3, -, -, -, hk1⟩ := (HC.out.next hb).at k hlt
      obtain ⟨bl', off', r', rfl, d0, d1, d2, d3, -, -, -, hk2⟩ := (HD.out.next hb).at k hlt
      have HK1 : Hid (In wr ds[k].2.kids r) := hk1
      have HK2 : Hid (In wr ds[k].2.kids r') := hk2
      clear hk1 hk2
      go_wp2_with fail
      go_region_with ((go_at_call 68; refine (eqDef_calls _ _ _ ds[k].2.kids r r' _ ?_ ?_).mono ?_; exact HK1.out.drew; exact HK2.out.drew; rintro e w1 ⟨rfl, hb1⟩))
      all_goals
        have hb2 : Below w.heap.size w w1 := hb.drew.trans (hb1.mono hb.drew.size)
        clear hb1
        go_wp2_with fail
        go_roundw
        case rel => exact ⟨k + 1, by omega, by go_num, hb2⟩
        case measure => simp [intOf]; omega
    · have hke : k = ds.length := by omega
      have HB : Hid (Below w.heap.size w wr) := hb
      clear hb
      clear hke
      go_wp2_with fail
      go_ret
      exact ⟨rfl, HB.out⟩
end Go.Proofs.Ytocnkjicmchbdaa
