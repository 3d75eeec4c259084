/-
  THE MODEL's l2Number AND l4Change.
-/
import Derived.Test.YtiipcgnkfhjpeaaGreatDoorMgExactEvalRun23
import Derived.Test.YtiipcgnkfhjpeaaGreatDoorMgExactEvalRun8
import Derived.Test.YtiipcgnkfhjpeaaGreatDoorMgExactEvalRun21
import Derived.Test.YtiipcgnkfhjpeaaGreatDoorMgExactEvalRun18
namespace Go.Proofs.YtiipcgnkfhjpeaaGreatDoor
set_option linter.unusedVariables false
set_option linter.unusedSimpArgs false
open Go.RowKit

set_option maxHeartbeats 800000 in
theorem l2Number_calls (op a b : Int) (ho : op = 8 ∨ op = 9) (ha : 0 ≤ a ∧ a ≤ 999) (hb : 0 ≤ b ∧ b ≤ 999) (w : World) :
    Calls Tryz.prog 95 #[.int .i64 op, .int .i64 a, .int .i64 b] w fun e w' => e = .returned (.int .i64 (numberOf op a b)) ∧ w = w' := by
  obtain ⟨a0, a1⟩ := ha
  obtain ⟨b0, b1⟩ := hb
  rcases ho with rfl | rfl
  · have HV : Hid (numberOf 8 a b = (a + b) % 1000) := rfl
    go_enter Tryz.func95, Tryz.ntmps95
    go_wp2_with fail
    go_ret
    exact ⟨ret_int (by rw [HV.out]), rfl⟩
  · have HV : Hid (numberOf 9 a b = (a + (1000 - b)) % 1000) := rfl
    have h0 : 0 ≤ 1000 - b := by omega
    have h1 : 1000 - b ≤ 1000 := by omega
    go_enter Tryz.func95, Tryz.ntmps95
    go_wp2_with fail
    go_ret
    exact ⟨ret_int (by rw [HV.out]), rfl⟩

/-- a graph with one cell overwritten, in memory -/
theorem set_fin {w w4 : World} {lo b5 cap5 : Nat} {S : Nat → Prop} {G : List Ce} {at' : Nat} {c : Ce} {kv : Value} {o : Obj} (h : OwnC w4 lo S G (.slice (some ⟨b5, 0, none⟩) G.length cap5)) (hS : ∀ k, S k → lo ≤ k) (hat : at' < G.length) (hlo : lo ≤ w4.heap.size) (hb : Below w.heap.size w w4) (hw : w.heap.size ≤ lo)
    (hc : I64 c.op ∧ I64 c.num) (hk : KRowS (w4.alloc o) (fun x => x = w4.heap.size) c.kids w4.heap.size kv) :
    CellsOn (st3 (w4.alloc o) b5 at' c.op c.num kv) (fun k => k < (st3 (w4.alloc o) b5 at' c.op c.num kv).heap.size ∧ w.heap.size ≤ k) (G.set at' c) (.slice (some ⟨b5, 0, none⟩) G.length cap5) ∧ Below w.heap.size w (st3 (w4.alloc o) b5 at' c.op c.num kv) := by
  obtain ⟨ys, hys⟩ := h.row
  have hb5 := (hys.lt b5 rfl)
  have hoa : OwnC (w4.alloc o) lo (fun b => lo ≤ b ∧ b < w4.heap.size) G (.slice (some ⟨b5, 0, none⟩) G.length cap5) :=
    h.next (fun k hk hz => ⟨hS k hk, hz⟩) (fun k _ hz => Deep.blk_alloc_lt _ _ _ hz) (fun k _ hz => Deep.blk_alloc_lt _ _ _ hz)
  have hset := hoa.setc at' hat (c := c) hc hk (by rintro ⟨-, h⟩; omega)
  exact ⟨(hset.own (fun k hk _ => by rcases hk with h | h; exact h.1; omega)).onS (fun k hk hz => ⟨hz, Nat.le_trans hw (List.mem_range'_1.1 hk).1⟩), st3_below (hb.alloc hb.size _) (Nat.le_trans hw hb5.1)⟩
theorem num_range {g : List Ce} {defs : Int} (h : graphB g defs = true) (f : Nat) (hf : f < g.length) (ho : g[f].op = 2) : 0 ≤ g[f].num ∧ g[f].num ≤ 999 := by
  have hc := graphB_cell h f hf
  unfold cellB fitsB ownB at hc
  simp only [ho, Bool.and_eq_true, decide_eq_true_eq] at hc
  simpa using hc.1.2
/-- the row of a graph that has a cell -/
theorem OwnC.blk {w : World} {lo : Nat} {S : Nat → Prop} {g : List Ce} {ad : Option Addr} {cap : Nat} (h : OwnC w lo S g (.slice ad g.length cap)) (h0 : 0 < g.length) : ∃ b, ad = some ⟨b, 0, none⟩ := by
  obtain ⟨ys, hys⟩ := h.row
  rcases hys.2 with ⟨-, hz⟩ | ⟨b5, c5, cur5, e5, -⟩
  · omega
  · simp only [Value.slice.injEq] at e5; exact ⟨b5, e5.1⟩

set_option maxRecDepth 100000 in
set_option maxHeartbeats 12800000 in
theorem l4Change_calls (ds : List Df) (g : List Ce) (at' : Nat) (c v : Value) (w : World) (hd : DIn w ds c) (hk : CIn w g v) (hg : graphB g ds.length = true) (hp : progB ds = true) (hr : Ready ds g at') :
    Calls Tryz.prog 76 #[c, v, .int .i64 (at' : Int)] w (StG (changeG ds g at') w) := by
  obtain ⟨ha, hr⟩ := hr
  have HD : Hid (DIn w ds c) := hd
  have HK : Hid (CIn w g v) := hk
  have HG := mkHid hg
  have HP := mkHid hp
  obtain ⟨ad, cap, rfl, hlg, hm, -⟩ := hk
  have h400 : g.length ≤ 400 := graphB_len hg
  have HOA : Hid (opAt g at' = g[at'].op) := opAt_at at' ha
  obtain ⟨bl, off, r, rfl, c0, c1, c2, -, -, hkk⟩ := HK.out.at at' ha
  obtain ⟨adk, capk, rfl, -, -, -⟩ := id hkk
  have HKK := mkHid hkk
  have HC0 := mkHid c0
  have HBX : Hid (Below w.heap.size w (w.alloc (.cells #[.int .i64 g[at'].op, .int .i64 g[at'].num, .slice adk g[at'].kids.length capk] 93))) := box_below _ _
  unfold maxLen at hm
  clear hg hp hkk
  rcases hr with hr | hr
  · obtain ⟨ho, f, l, n, hs, h3, hn, hnl, hl⟩ := hr
    have HV : Hid (changeG ds g at' = callG ds g at') := by unfold Hid changeG; rw [if_pos ho]
    have HCALL : Hid (∀ W : World, Below w.heap.size w W → Calls Tryz.prog 94 #[c, .slice (some ⟨bl, off, none⟩) g.length cap, .int .i64 (at' : Int)] W (StG (callG ds g at') W)) := fun W hW => l4Call_calls ds g at' f n l c _ W (HD.out.next hW) (HK.out.next hW) HG.out HP.out ha hs h3 hn hnl hl
    rw [HOA.out] at ho
    clear hs h3 hn hl hnl
    go_enter Tryz.func76, Tryz.ntmps76
    rcases ho with ho | ho
    · have t4 : (g[at'].op == 4) = false := by simp [ho]
      have t3 : (g[at'].op == 3) = true := by simp [ho]
      clear ho
      go_wp2_with fail
      refine (HCALL.out _ HBX.out).mono ?_
      rintro e w1 ⟨v1, rfl, hi1, hb1⟩
      have HI := mkHid (hi1.backW HBX.out.size)
      have HB1 : Hid (Below w.heap.size w w1) := HBX.out.trans (hb1.mono HBX.out.size)
      obtain ⟨ad1, cap1, rfl, -, -, -⟩ := hi1
      clear hb1
      go_wp2_with fail
      go_ret2
      rw [HV.out]
      exact ⟨_, rfl, HI.out, HB1.out⟩
    · have t4 : (g[at'].op == 4) = true := by simp [ho]
      clear ho
      go_wp2_with fail
      refine (HCALL.out _ HBX.out).mono ?_
      rintro e w1 ⟨v1, rfl, hi1, hb1⟩
      have HI := mkHid (hi1.backW HBX.out.size)
      have HB1 : Hid (Below w.heap.size w w1) := HBX.out.trans (hb1.mono HBX.out.size)
      obtain ⟨ad1, cap1, rfl, -, -, -⟩ := hi1
      clear hb1
      go_wp2_with fail
      go_ret2
      rw [HV.out]
      exact ⟨_, rfl, HI.out, HB1.out⟩
  · have hno := ready_op (ds := ds) hr
    have HV : Hid (changeG ds g at' = (g.set at' (opCell g at'), 0)) := by unfold Hid changeG; rw [if_neg hno]
    have hr0 := hr
    have HR := mkHid hr0
    rw [HOA.out] at hno
    have t4 : (g[at'].op == 4) = false := by simp; omega
    have t3 : (g[at'].op == 3) = false := by simp; omega
    -- the first operand
    obtain ⟨b0, hb0, hk0⟩ : ∃ b0, followN g g.length (kidAt g at' 0) = some b0 ∧ 0 < g[at'].kids.length := by
      have h1 := kids_op HG.out at' ha
      rcases hr with ⟨h67, b, hb, hb5⟩ | ⟨h10, b, hb, hb2⟩ | ⟨h89, ⟨b, hb, hb2⟩, -⟩
      · refine ⟨b, hb, ?_⟩
        rcases h67 with h | h <;> rw [h] at h1 <;> have e : cArity 6 = 1 ∧ cArity 7 = 1 := by decide
        all_goals omega
      · refine ⟨b, hb, ?_⟩
        rw [h10] at h1; have e : cArity 10 = 3 := by decide
        omega
      · refine ⟨b, hb, ?_⟩
        rcases h89 with h | h <;> rw [h] at h1 <;> have e : cArity 8 = 2 ∧ cArity 9 = 2 := by decide
        all_goals omega
    have HB0 := mkHid hb0
    obtain ⟨hke, hkl⟩ := kidAt_get HG.out at' ha 0 hk0
    have HKL := mkHid hkl
    have HKE := mkHid hke
    have hbl0 := (followN_lt HG.out _ _ _ hkl hb0).1
    clear hr hr0 hno hb0 hke hkl
    go_enter Tryz.func76, Tryz.ntmps76
    -- the cell is copied
    go_wp2_with fail
    refine (l3Copy_calls g _ _ (HK.out.next HBX.out) ⟨_, HG.out⟩).mono ?_
    rintro e w2 ⟨gv, rfl, hog, hb2⟩
    obtain ⟨ad2, cap2, rfl⟩ := hog.form
    obtain ⟨b5, rfl⟩ := hog.blk (by omega)
    have hlo : (w.alloc (.cells #[.int .i64 g[at'].op, .int .i64 g[at'].num, .slice adk g[at'].kids.length capk] 93)).heap.size = w.heap.size + 1 := Deep.nblk_alloc _ _
    rw [hlo] at hog
    have HOG := mkHid hog
    have HB2 : Hid (Below w.heap.size w w2) := HBX.out.trans (hb2.mono (by rw [hlo]; omega))
    have HX2 : Hid (w2.heap[w.heap.size]? = some (.cells #[.int .i64 g[at'].op, .int .i64 g[at'].num, .slice adk g[at'].kids.length capk] 93)) := (hb2.block _ (by rw [hlo]; omega)).trans (Deep.blk_alloc_new _ _)
    have HS2 : Hid (w.heap.size + 1 ≤ w2.heap.size) := by have := hb2.size; rw [hlo] at this; exact this
    have x0 := cell_of_blk HX2.out 0 _ rfl
    have x2 := cell_of_blk HX2.out 2 _ rfl
    obtain ⟨blk, offk, rfl, d0w⟩ := HKK.out.at 0 hk0
    rw [HKE.out] at d0w
    have d0 := (HB2.out.cell (p := ⟨blk, offk + 0, none⟩) (cell_lt d0w)).trans d0w
    rw [Nat.add_zero] at d0
    clear hog hb2 hlo d0w c0 c1 c2
    go_wp2_with fail
    refine (l3Follow_calls g (kidAt g at' 0) _ w2 (HK.out.next HB2.out) ⟨_, HG.out⟩ HKL.out).mono ?_
    rintro e w3 ⟨rfl, hb3⟩
    rw [follow_enough HG.out _ HKL.out, HB0.out]
    have e2 : folI (some b0) = (b0 : Int) := rfl
    rw [e2]
    have HB3 : Hid (Below w.heap.size w w3) := HB2.out.trans (hb3.mono HB2.out.size)
    have HX3 : Hid (w3.heap[w.heap.size]? = some (.cells #[.int .i64 g[at'].op, .int .i64 g[at'].num, .slice (some ⟨blk, offk, none⟩) g[at'].kids.length capk] 93)) := (hb3.block _ (by have := HS2.out; omega)).trans HX2.out
    have HS3 : Hid (w.heap.size + 1 ≤ w3.heap.size) := Nat.le_trans HS2.out hb3.size
    have HO3 : Hid (OwnC w3 (w.heap.size + 1) (fun b => w.heap.size + 1 ≤ b) g (.slice (some ⟨b5, 0, none⟩) g.length cap2)) := HOG.out.next (fun _ h _ => h) (fun k _ hz => hb3.block k hz) (fun k _ hz => hb3.block k hz)
    obtain ⟨bl3, off3, r0, he3, g0, g1, g2, -, -, hkk0⟩ := (HK.out.next HB3.out).at b0 hbl0
    cases he3
    obtain ⟨ad0, cap0, rfl, -, -, -⟩ := id hkk0
    have HKK0 := mkHid hkk0
    clear hb3 x0 x2 d0 hkk0
    obtain ⟨w4, hw4⟩ : ∃ w4 : World, w4 = w3.alloc (.cells #[.int .i64 g[b0].op, .int .i64 g[b0].num, .slice ad0 g[b0].kids.length cap0] 93) := ⟨_, rfl⟩
    have HW4 := mkHid hw4
    have hb34 : Below w3.heap.size w3 w4 := by rw [hw4]; exact box_below _ _
    have HB34 := mkHid hb34
    have HB4 : Hid (Below w.heap.size w w4) := HB3.out.trans (hb34.mono HB3.out.size)
    have HX4 : Hid (w4.heap[w.heap.size]? = some (.cells #[.int .i64 g[at'].op, .int .i64 g[at'].num, .slice (some ⟨blk, offk, none⟩) g[at'].kids.length capk] 93)) := (hb34.block _ (by have := HS3.out; omega)).trans HX3.out
    have HF4 : Hid (w4.heap[w3.heap.size]? = some (.cells #[.int .i64 g[b0].op, .int .i64 g[b0].num, .slice ad0 g[b0].kids.length cap0] 93)) := by rw [hw4]; exact Deep.blk_alloc_new _ _
    have HO4 : Hid (OwnC w4 (w.heap.size + 1) (fun b => w.heap.size + 1 ≤ b) g (.slice (some ⟨b5, 0, none⟩) g.length cap2)) := HO3.out.next (fun _ h _ => h) (fun k _ hz => hb34.block k hz) (fun k _ hz => hb34.block k hz)
    have HS4 : Hid (w.heap.size + 1 ≤ w4.heap.size) := Nat.le_trans HS3.out hb34.size
    have x0 := old_cell (cell_of_blk HX3.out 0 _ rfl) (.cells #[.int .i64 g[b0].op, .int .i64 g[b0].num, .slice ad0 g[b0].kids.length cap0] 93)
    have x2 := old_cell (cell_of_blk HX3.out 2 _ rfl) (.cells #[.int .i64 g[b0].op, .int .i64 g[b0].num, .slice ad0 g[b0].kids.length cap0] 93)
    rw [← hw4] at x0 x2
    have z1 := cell_of_blk HF4.out 1 _ rfl
    have z2 := cell_of_blk HF4.out 2 _ rfl
    have hatI : (at' : Int) < (g.length : Int) := by omega
    have HOB : Hid (opAt g b0 = g[b0].op) := opAt_at b0 hbl0
    clear hw4 hb34
    obtain ⟨ys, hys⟩ := HO4.out.row
    have HYS := mkHid hys
    clear hys
    rcases HR.out with ⟨h67, b, hb, hb5⟩ | ⟨h10, b, hb, hb2⟩ | ⟨h89, -, b1, hb1, hb12⟩
    · obtain rfl : b0 = b := Option.some.inj (HB0.out.symm.trans hb)
      have hk2 : g[b0].kids.length = 2 := by
        have h1 := kids_op HG.out b0 hbl0
        rw [hb5] at h1
        have e : cArity 5 = 2 := by decide
        omega
      rcases h67 with h6 | h7
      · obtain ⟨hke0, -⟩ := kidAt_get HG.out b0 hbl0 0 (by omega)
        have HVC : Hid (opCell g at' = indTo (kidAt g b0 0)) := by
          unfold Hid opCell; rw [if_pos h6, folAt_some HB0.out]
        obtain ⟨bk0, ok0, rfl, dkw⟩ := HKK0.out.at 0 (by omega)
        rw [hke0] at dkw
        have dk := (HB34.out.cell (p := ⟨bk0, ok0 + 0, none⟩) (cell_lt dkw)).trans dkw
        rw [Nat.add_zero] at dk
        have hkl2 : 1 < g[b0].kids.length := by omega
        obtain ⟨kv, hkv⟩ : ∃ kv, kv = kidAt g b0 0 := ⟨_, rfl⟩
        rw [← hkv] at HVC dk
        have hys2 := World.ownsRow.alloc HYS.out (.cells #[.int .i64 (kv : Int)] 3)
        obtain ⟨q0, y0⟩ := own_cell hys2 (at' * 3) (by omega)
        have f0 := hys2.frozenAt (at' * 3)
        obtain ⟨q1, y1⟩ := own_cell hys2 (at' * 3 + 1) (by omega)
        have f1 := hys2.frozenAt (at' * 3 + 1)
        obtain ⟨q2, y2⟩ := own_cell hys2 (at' * 3 + 2) (by omega)
        have f2 := hys2.frozenAt (at' * 3 + 2)
        have HFIN := mkHid (set_fin (o := .cells #[.int .i64 (kv : Int)] 3) (c := indTo kv) (kv := .slice (some ⟨w4.heap.size, 0, none⟩) 1 1) (at' := at') HO4.out (fun _ h => h) ha HS4.out HB4.out (Nat.le_succ _) (ind_i64 kv) (krow_one w4 kv))
        have hz4 : w4.heap.size = w3.heap.size + 1 := by rw [HW4.out]; exact Deep.nblk_alloc _ _
        rw [hz4] at HFIN
        clear hys2 hkv hz4
        rw [HOA.out] at h6
        have t6 : (g[at'].op == 6) = true := by simp [h6]
        clear h6 hb hb5 hke0 dkw hk2
        have hw4 := HW4.out
        clear HW4
        subst hw4
        go_wp2_with fail
        go_ret2
        rw [HV.out, HVC.out]
        exact ⟨_, rfl, HFIN.out.1.newW, HFIN.out.2⟩
      · obtain ⟨hke0, -⟩ := kidAt_get HG.out b0 hbl0 1 (by omega)
        have HVC : Hid (opCell g at' = indTo (kidAt g b0 1)) := by
          unfold Hid opCell; rw [if_neg (by omega), if_pos h7, folAt_some HB0.out]
        obtain ⟨bk0, ok0, rfl, dkw⟩ := HKK0.out.at 1 (by omega)
        rw [hke0] at dkw
        have dk := (HB34.out.cell (p := ⟨bk0, ok0 + 1, none⟩) (cell_lt dkw)).trans dkw
        have hkl2 : 1 < g[b0].kids.length := by omega
        obtain ⟨kv, hkv⟩ : ∃ kv, kv = kidAt g b0 1 := ⟨_, rfl⟩
        rw [← hkv] at HVC dk
        have hys2 := World.ownsRow.alloc HYS.out (.cells #[.int .i64 (kv : Int)] 3)
        obtain ⟨q0, y0⟩ := own_cell hys2 (at' * 3) (by omega)
        have f0 := hys2.frozenAt (at' * 3)
        obtain ⟨q1, y1⟩ := own_cell hys2 (at' * 3 + 1) (by omega)
        have f1 := hys2.frozenAt (at' * 3 + 1)
        obtain ⟨q2, y2⟩ := own_cell hys2 (at' * 3 + 2) (by omega)
        have f2 := hys2.frozenAt (at' * 3 + 2)
        have HFIN := mkHid (set_fin (o := .cells #[.int .i64 (kv : Int)] 3) (c := indTo kv) (kv := .slice (some ⟨w4.heap.size, 0, none⟩) 1 1) (at' := at') HO4.out (fun _ h => h) ha HS4.out HB4.out (Nat.le_succ _) (ind_i64 kv) (krow_one w4 kv))
        have hz4 : w4.heap.size = w3.heap.size + 1 := by rw [HW4.out]; exact Deep.nblk_alloc _ _
        rw [hz4] at HFIN
        clear hys2 hkv hz4
        rw [HOA.out] at h7
        have t6 : (g[at'].op == 6) = false := by simp [h7]
        have t7 : (g[at'].op == 7) = true := by simp [h7]
        clear h7 hb hb5 hke0 dkw hk2
        have hw4 := HW4.out
        clear HW4
        subst hw4
        go_wp2_with fail
        go_ret2
        rw [HV.out, HVC.out]
        exact ⟨_, rfl, HFIN.out.1.newW, HFIN.out.2⟩
    · obtain rfl : b0 = b := Option.some.inj (HB0.out.symm.trans hb)
      have hk3 : g[at'].kids.length = 3 := by
        have h1 := kids_op HG.out at' ha
        rw [h10] at h1
        have e : cArity 10 = 3 := by decide
        omega
      have HNB : Hid (numAt g b0 = g[b0].num) := numAt_at b0 hbl0
      by_cases hz : g[b0].num = 0
      · obtain ⟨hke0, -⟩ := kidAt_get HG.out at' ha 1 (by omega)
        have HVC : Hid (opCell g at' = indTo (kidAt g at' 1)) := by
          unfold Hid opCell; rw [if_neg (by omega), if_neg (by omega), if_pos h10, folAt_some HB0.out, HNB.out, if_pos hz]
        obtain ⟨bk0, ok0, hek, dkw⟩ := HKK.out.at 1 (by omega)
        cases hek
        rw [hke0] at dkw
        have dk := (HB4.out.cell (p := ⟨blk, offk + 1, none⟩) (cell_lt dkw)).trans dkw
        have hkl2 : 2 < g[at'].kids.length := by omega
        obtain ⟨kv, hkv⟩ : ∃ kv, kv = kidAt g at' 1 := ⟨_, rfl⟩
        rw [← hkv] at HVC dk
        have hys2 := World.ownsRow.alloc HYS.out (.cells #[.int .i64 (kv : Int)] 3)
        obtain ⟨q0, y0⟩ := own_cell hys2 (at' * 3) (by omega)
        have f0 := hys2.frozenAt (at' * 3)
        obtain ⟨q1, y1⟩ := own_cell hys2 (at' * 3 + 1) (by omega)
        have f1 := hys2.frozenAt (at' * 3 + 1)
        obtain ⟨q2, y2⟩ := own_cell hys2 (at' * 3 + 2) (by omega)
        have f2 := hys2.frozenAt (at' * 3 + 2)
        have HFIN := mkHid (set_fin (o := .cells #[.int .i64 (kv : Int)] 3) (c := indTo kv) (kv := .slice (some ⟨w4.heap.size, 0, none⟩) 1 1) (at' := at') HO4.out (fun _ h => h) ha HS4.out HB4.out (Nat.le_succ _) (ind_i64 kv) (krow_one w4 kv))
        have hz4 : w4.heap.size = w3.heap.size + 1 := by rw [HW4.out]; exact Deep.nblk_alloc _ _
        rw [hz4] at HFIN
        clear hys2 hkv hz4
        rw [HOA.out] at h10
        have t6 : (g[at'].op == 6) = false := by simp [h10]
        have t7 : (g[at'].op == 7) = false := by simp [h10]
        have t10 : (g[at'].op == 10) = true := by simp [h10]
        have tz : (g[b0].num == 0) = true := by simp [hz]
        clear h10 hb hb2 hke0 dkw hz hk3
        have hw4 := HW4.out
        clear HW4
        subst hw4
        go_wp2_with fail
        go_ret2
        rw [HV.out, HVC.out]
        exact ⟨_, rfl, HFIN.out.1.newW, HFIN.out.2⟩
      · obtain ⟨hke0, -⟩ := kidAt_get HG.out at' ha 2 (by omega)
        have HVC : Hid (opCell g at' = indTo (kidAt g at' 2)) := by
          unfold Hid opCell; rw [if_neg (by omega), if_neg (by omega), if_pos h10, folAt_some HB0.out, HNB.out, if_neg hz]
        obtain ⟨bk0, ok0, hek, dkw⟩ := HKK.out.at 2 (by omega)
        cases hek
        rw [hke0] at dkw
        have dk := (HB4.out.cell (p := ⟨blk, offk + 2, none⟩) (cell_lt dkw)).trans dkw
        have hkl2 : 2 < g[at'].kids.length := by omega
        obtain ⟨kv, hkv⟩ : ∃ kv, kv = kidAt g at' 2 := ⟨_, rfl⟩
        rw [← hkv] at HVC dk
        have hys2 := World.ownsRow.alloc HYS.out (.cells #[.int .i64 (kv : Int)] 3)
        obtain ⟨q0, y0⟩ := own_cell hys2 (at' * 3) (by omega)
        have f0 := hys2.frozenAt (at' * 3)
        obtain ⟨q1, y1⟩ := own_cell hys2 (at' * 3 + 1) (by omega)
        have f1 := hys2.frozenAt (at' * 3 + 1)
        obtain ⟨q2, y2⟩ := own_cell hys2 (at' * 3 + 2) (by omega)
        have f2 := hys2.frozenAt (at' * 3 + 2)
        have HFIN := mkHid (set_fin (o := .cells #[.int .i64 (kv : Int)] 3) (c := indTo kv) (kv := .slice (some ⟨w4.heap.size, 0, none⟩) 1 1) (at' := at') HO4.out (fun _ h => h) ha HS4.out HB4.out (Nat.le_succ _) (ind_i64 kv) (krow_one w4 kv))
        have hz4 : w4.heap.size = w3.heap.size + 1 := by rw [HW4.out]; exact Deep.nblk_alloc _ _
        rw [hz4] at HFIN
        clear hys2 hkv hz4
        rw [HOA.out] at h10
        have t6 : (g[at'].op == 6) = false := by simp [h10]
        have t7 : (g[at'].op == 7) = false := by simp [h10]
        have t10 : (g[at'].op == 10) = true := by simp [h10]
        have tz : (g[b0].num == 0) = false := by simp [hz]
        clear h10 hb hb2 hke0 dkw hz hk3
        have hw4 := HW4.out
        clear HW4
        subst hw4
        go_wp2_with fail
        go_ret2
        rw [HV.out, HVC.out]
        exact ⟨_, rfl, HFIN.out.1.newW, HFIN.out.2⟩
    · obtain ⟨b, hb, hb2⟩ : ∃ b, followN g g.length (kidAt g at' 0) = some b ∧ opAt g b = 2 := by
        rcases HR.out with ⟨h, -⟩ | ⟨h, -⟩ | ⟨-, h, -⟩
        · omega
        · omega
        · exact h
      obtain rfl : b0 = b := Option.some.inj (HB0.out.symm.trans hb)
      have hk1 : 1 < g[at'].kids.length := by
        have h1 := kids_op HG.out at' ha
        rcases h89 with h | h <;> rw [h] at h1 <;> have e : cArity 8 = 2 ∧ cArity 9 = 2 := by decide
        all_goals omega
      obtain ⟨hke1, hkl1⟩ := kidAt_get HG.out at' ha 1 hk1
      have hbl1 := (followN_lt HG.out _ _ _ hkl1 hb1).1
      have HKL1 := mkHid hkl1
      have HBF1 := mkHid hb1
      have HR0 := mkHid (num_range HG.out b0 hbl0 (by rw [← HOB.out]; exact hb2))
      have HR1 := mkHid (num_range HG.out b1 hbl1 (by rw [← opAt_at b1 hbl1]; exact hb12))
      obtain ⟨nv, hnv⟩ : ∃ nv, nv = numberOf g[at'].op g[b0].num g[b1].num := ⟨_, rfl⟩
      have HVC : Hid (opCell g at' = numC nv) := by
        unfold Hid opCell
        rw [if_neg (by omega), if_neg (by omega), if_neg (by omega), folAt_some HB0.out, folAt_some hb1, numAt_at b0 hbl0, numAt_at b1 hbl1, HOA.out, hnv]
      have HNR : Hid (0 ≤ nv ∧ nv ≤ 999) := by rw [hnv]; exact numberOf_range _ _ _
      have HCN : Hid (∀ W : World, Calls Tryz.prog 95 #[.int .i64 g[at'].op, .int .i64 g[b0].num, .int .i64 g[b1].num] W fun e w' => e = .returned (.int .i64 nv) ∧ W = w') := fun W => by
        rw [hnv]; exact l2Number_calls _ _ _ (by rw [← HOA.out]; exact h89) HR0.out HR1.out W
      obtain ⟨bk1, ok1, hek, dkw⟩ := HKK.out.at 1 hk1
      cases hek
      rw [hke1] at dkw
      have dk := (HB4.out.cell (p := ⟨blk, offk + 1, none⟩) (cell_lt dkw)).trans dkw
      have HDK := mkHid dkw
      rw [HOA.out] at h89
      have t6 : (g[at'].op == 6) = false := by simp; omega
      have t7 : (g[at'].op == 7) = false := by simp; omega
      have t10 : (g[at'].op == 10) = false := by simp; omega
      have hw4 := HW4.out
      clear HW4 hb hb2 hb1 hb12 hnv hke1 hkl1 dkw h89
      subst hw4
      go_wp2_with fail
      refine (l3Follow_calls g (kidAt g at' 1) _ _ (HK.out.next HB4.out) ⟨_, HG.out⟩ HKL1.out).mono ?_
      rintro e w5 ⟨rfl, hb5⟩
      rw [follow_enough HG.out _ HKL1.out, HBF1.out]
      have e3 : folI (some b1) = (b1 : Int) := rfl
      rw [e3]
      have HB5 : Hid (Below w.heap.size w w5) := HB4.out.trans (hb5.mono HB4.out.size)
      have hz4 : (w3.alloc (.cells #[.int .i64 g[b0].op, .int .i64 g[b0].num, .slice ad0 g[b0].kids.length cap0] 93)).heap.size = w3.heap.size + 1 := Deep.nblk_alloc _ _
      have HX5 := mkHid ((hb5.block _ (by have := HS4.out; omega)).trans HX4.out)
      have HF5 := mkHid ((hb5.block _ (by rw [hz4]; omega)).trans HF4.out)
      have HO5 : Hid (OwnC w5 (w.heap.size + 1) (fun b => w.heap.size + 1 ≤ b) g (.slice (some ⟨b5, 0, none⟩) g.length cap2)) := HO4.out.next (fun _ h _ => h) (fun k _ hz => hb5.block k hz) (fun k _ hz => hb5.block k hz)
      have HS5 : Hid (w.heap.size + 1 ≤ w5.heap.size) := Nat.le_trans HS4.out hb5.size
      obtain ⟨bl6, off6, r1, he6, g10, g11, g12, -, -, hkk1⟩ := (HK.out.next HB5.out).at b1 hbl1
      cases he6
      obtain ⟨ad1, cap1, rfl, -, -, -⟩ := id hkk1
      clear hb5 hkk1 x0 x2 z1 z2 dk
      have x0 := old_cell (cell_of_blk HX5.out 0 _ rfl) (.cells #[.int .i64 g[b1].op, .int .i64 g[b1].num, .slice ad1 g[b1].kids.length cap1] 93)
      have z1 := old_cell (cell_of_blk HF5.out 1 _ rfl) (.cells #[.int .i64 g[b1].op, .int .i64 g[b1].num, .slice ad1 g[b1].kids.length cap1] 93)
      have s1 := box_cell w5 #[.int .i64 g[b1].op, .int .i64 g[b1].num, .slice ad1 g[b1].kids.length cap1] 93 1 _ rfl
      obtain ⟨ys5, hys5⟩ := HO5.out.row
      have hys2 := World.ownsRow.alloc hys5 (.cells #[.int .i64 g[b1].op, .int .i64 g[b1].num, .slice ad1 g[b1].kids.length cap1] 93)
      obtain ⟨q0, y0⟩ := own_cell hys2 (at' * 3) (by omega)
      obtain ⟨q1, y1⟩ := own_cell hys2 (at' * 3 + 1) (by omega)
      obtain ⟨q2, y2⟩ := own_cell hys2 (at' * 3 + 2) (by omega)
      have f0 := hys2.frozenAt (at' * 3)
      have f1 := hys2.frozenAt (at' * 3 + 1)
      have f2 := hys2.frozenAt (at' * 3 + 2)
      have HFIN := mkHid (set_fin (o := .cells #[.int .i64 g[b1].op, .int .i64 g[b1].num, .slice ad1 g[b1].kids.length cap1] 93) (c := numC nv) (kv := .slice none 0 0) (at' := at') HO5.out (fun _ h => h) ha HS5.out HB5.out (Nat.le_succ _) (num_i64 HNR.out.1 HNR.out.2) (krow_nil _ _ _))
      clear hys5 hys2 hz4
      go_wp2_with fail
      refine (HCN.out _).mono ?_
      rintro e w7 ⟨rfl, rfl⟩
      go_wp2_with fail
      go_ret2
      rw [HV.out, HVC.out]
      exact ⟨_, rfl, HFIN.out.1.newW, HFIN.out.2⟩
end Go.Proofs.YtiipcgnkfhjpeaaGreatDoor
/-
  THE MODEL's l4Right AND l4Value.
-/
namespace Go.Proofs.YtiipcgnkfhjpeaaGreatDoor
set_option linter.unusedVariables false
set_option linter.unusedSimpArgs false
open Go.RowKit

theorem dec_len {α : Type} (xs : List α) : ((xs.length : Int) == 0) = decide (xs.length = 0) := by
  cases xs with
  | nil => rfl
  | cons x xs => simp only [List.length_cons]; rw [decide_eq_false (by omega)]; exact beq_eq_false_iff_ne.2 (by omega)

set_option maxRecDepth 100000 in
set_option maxHeartbeats 1600000 in
theorem l4Value_calls (ds : List Df) (g : List Ce) (a : Nat) (c v : Value) (w : World) (hd : DIn w ds c) (hk : CIn w g v) (hg : graphB g ds.length = true) (ha : a < g.length) :
    Calls Tryz.prog 26 #[c, v, .int .i64 (a : Int)] w fun e w' => e = .returned (.bool (valB (arsOf ds) g a)) ∧ Below w.heap.size w w' := by
  have HD : Hid (DIn w ds c) := hd
  have HK : Hid (CIn w g v) := hk
  have HG : Hid (graphB g ds.length = true) := hg
  obtain ⟨ad, cap, rfl, hl, hm, -⟩ := hk
  obtain ⟨adp, capp, rfl, hlp, hmp, -⟩ := hd
  have h400 : g.length ≤ 400 := graphB_len hg
  unfold maxLen at hm hmp
  clear hg
  go_enter Tryz.func26, Tryz.ntmps26
  go_wp2_with fail
  refine (l4Spine_calls g a _ _ HK.out ⟨_, HG.out⟩ ha).mono ?_
  rintro e w1 ⟨xs, v1, hxs, rfl, hi1, hb1⟩
  have HB1 : Hid (Below w.heap.size w w1) := hb1
  have HXS : Hid (∀ x, spine g a = some x → xs = x.2) := hxs
  have hlx : xs.length ≤ 9223372036854775807 := by
    obtain ⟨ad2, cap2, rfl, l1, l2, -⟩ := hi1
    rw [plI_length] at l1
    unfold maxLen at l2
    omega
  obtain ⟨ad2, cap2, rfl, -, -, -⟩ := hi1
  rw [plI_length]
  clear hb1 hxs
  cases hs : spine g a with
  | none =>
    have HV : Hid (valB (arsOf ds) g a = false) := valB_none hs
    have e1 : spI none = -1 := rfl
    rw [e1]
    clear hs
    go_wp2_with fail
    go_ret
    exact ⟨ret_bool HV.out.symm, HB1.out⟩
  | some x =>
    obtain ⟨f, ws⟩ := x
    obtain rfl : xs = ws := HXS.out _ hs
    have hok := spine_ok HG.out ha hs
    have hff : f < g.length := hok.1
    have HS : Hid (spine g a = some (f, xs)) := hs
    have e1 : spI (some (f, xs)) = (f : Int) := rfl
    rw [e1]
    obtain ⟨bl, off, r, rfl, c0, c1, c2, -, -, -⟩ := (HK.out.next HB1.out).at f hff
    have HOP : Hid (opAt g f = g[f].op) := opAt_at f hff
    have hbn : ¬ ((f : Int) < 0) := by omega
    clear hs hok c2
    by_cases ho2 : g[f].op = 2
    · have HV : Hid (valB (arsOf ds) g a = decide (xs.length = 0)) := valB_num HS.out (Or.inl (by rw [HOP.out]; exact ho2))
      have t2 : (g[f].op == 2) = true := by simp [ho2]
      clear ho2
      go_wp2_with fail
      go_ret
      exact ⟨ret_bool (by rw [HV.out]; exact dec_len xs), HB1.out⟩
    have t2 : (g[f].op == 2) = false := by simp [ho2]
    by_cases ho5 : g[f].op = 5
    · have HV : Hid (valB (arsOf ds) g a = decide (xs.length = 0)) := valB_num HS.out (Or.inr (by rw [HOP.out]; exact ho5))
      have t5 : (g[f].op == 5) = true := by simp [ho5]
      clear ho2 ho5
      go_wp2_with fail
      go_ret
      exact ⟨ret_bool (by rw [HV.out]; exact dec_len xs), HB1.out⟩
    have t5 : (g[f].op == 5) = false := by simp [ho5]
    by_cases ho3 : g[f].op = 3
    · obtain ⟨n, hn, hnl⟩ := glob_num HG.out f hff ho3
      have hnl' : n < ds.length := by omega
      have HV : Hid (valB (arsOf ds) g a = decide ((xs.length : Int) < ds[n].1)) := by
        rw [Hid, valB_glob HS.out (by rw [HOP.out]; exact ho3), numAt_at f hff, hn, arOf_at ds n hnl']
      have t3 : (g[f].op == 3) = true := by simp [ho3]
      obtain ⟨blp, offp, rp, rfl, d0, d1, d2, d3, -⟩ := (HD.out.next HB1.out).at n hnl'
      rw [hn] at c1
      clear ho2 ho5 ho3 hn d1 d2 d3
      go_wp2_with fail
      go_ret
      exact ⟨ret_bool HV.out.symm, HB1.out⟩
    · have t3 : (g[f].op == 3) = false := by simp [ho3]
      have HV : Hid (valB (arsOf ds) g a = false) := valB_no HS.out (by rw [HOP.out]; exact ho2) (by rw [HOP.out]; exact ho5) (by rw [HOP.out]; exact ho3)
      clear ho2 ho5 ho3
      go_wp2_with fail
      go_ret
      exact ⟨ret_bool HV.out.symm, HB1.out⟩

end Go.Proofs.YtiipcgnkfhjpeaaGreatDoor
