/-
  THE PROGRAM's sumOf, AND (*reducer).change but for calls.
-/
import Derived.Test.YtiipcgnkfhjpeaaGreatDoorMgExactEvalRun32
import Derived.Deep.RegionHeld3
namespace Go.Proofs.YtiipcgnkfhjpeaaGreatDoor
set_option linter.unusedVariables false
set_option linter.unusedSimpArgs false
open Go.RowKit

set_option maxHeartbeats 800000 in
theorem sumOf_calls (op a b : Int) (ho : op = 8 ∨ op = 9) (ha : 0 ≤ a ∧ a ≤ 999) (hb : 0 ≤ b ∧ b ≤ 999) (w : World) :
    Calls Tryz.prog 155 #[.int .i64 op, .int .i64 a, .int .i64 b] w fun e w' => e = .returned (.int .i64 (numberOf op a b)) ∧ w = w' := by
  obtain ⟨a0, a1⟩ := ha
  obtain ⟨b0, b1⟩ := hb
  rcases ho with rfl | rfl
  · have HV : Hid (numberOf 8 a b = (a + b) % 1000) := rfl
    go_enter Tryz.func155, Tryz.ntmps155
    go_wp2_with fail
    go_ret
    exact ⟨ret_int (by rw [HV.out]), rfl⟩
  · have HV : Hid (numberOf 9 a b = (a + (1000 - b)) % 1000) := rfl
    have h0 : 0 ≤ 1000 - b := by omega
    have h1 : 1000 - b ≤ 1000 := by omega
    go_enter Tryz.func155, Tryz.ntmps155
    go_wp2_with fail
    go_ret
    exact ⟨ret_int (by rw [HV.out]), rfl⟩

theorem cellsOf_ltI {w : World} {b : Nat} {o : Obj} (h : w.heap[b]? = some o) : b < w.heap.size := (Array.getElem?_eq_some_iff.1 h).1
theorem numI64 {n : Int} (h0 : 0 ≤ n) (h1 : n ≤ 999) : I64 (numC n).op ∧ I64 (numC n).num := by unfold I64 numC; simp; omega
theorem RedW.ownAt {R A lo b cap : Nat} {c : Value} {fu : Fu} {st : Int} {g : List Ce} {w : World} (h : RedW R A lo c fu st g w) (hA : w.heap[A]? = some (.cells #[.slice (some ⟨b, 0, none⟩) g.length cap] 142)) : OwnC w lo (fun b => lo ≤ b) g (.slice (some ⟨b, 0, none⟩) g.length cap) := by
  obtain ⟨ad2, cap2, h1, h2⟩ := h.are
  rw [hA] at h1
  simp at h1
  obtain ⟨rfl, rfl⟩ := h1
  exact h2
theorem RedW.rowAt {R A lo b cap : Nat} {c : Value} {fu : Fu} {st : Int} {g : List Ce} {w : World} (h : RedW R A lo c fu st g w) (hA : w.heap[A]? = some (.cells #[.slice (some ⟨b, 0, none⟩) g.length cap] 142)) : ∃ ys, w.ownsRow lo 93 3 (.slice (some ⟨b, 0, none⟩) g.length cap) g.length ys := (h.ownAt hA).row
/-- the operands of a cell do not lie in the row of the cells -/
theorem RedW.kidNe {R A lo b cap : Nat} {c : Value} {fu : Fu} {st : Int} {g : List Ce} {w : World} (h : RedW R A lo c fu st g w) (hA : w.heap[A]? = some (.cells #[.slice (some ⟨b, 0, none⟩) g.length cap] 142)) {at' : Nat} (ha : at' < g.length) {n2 cap2 : Nat} {ad : Option Addr}
    (h2 : w.cell? ⟨b, at' * 3 + 2, none⟩ = some (.slice ad n2 cap2)) (hne : 0 < g[at'].kids.length) : ∀ bk ok, ad = some ⟨bk, ok, none⟩ → bk ≠ b := by
  rintro bk ok rfl rfl
  obtain ⟨hi0, xs, kb, g1, g2, g3⟩ := h.ownAt hA
  have e1 := g1.cellAt (at' * 3 + 2) (by omega)
  obtain ⟨kv, e2, e3, e4, ad3, cap3, rfl, -, -, e5⟩ := g2 at' ha
  rw [h2, e4] at e1
  simp only [Option.some.injEq, Value.slice.injEq] at e1
  obtain ⟨rfl, -, -⟩ := e1
  rcases e5 with e5 | ⟨f, e5, e6, e7, -⟩
  · rw [e5] at hne; simp at hne
  · obtain ⟨C, hC, -⟩ := e7
    simp only [Option.some.injEq, Addr.mk.injEq] at e5
    rw [← e5.1] at hC
    rcases g1.2 with ⟨e8, -⟩ | ⟨b8, c8, cur8, e8, -, e9, -⟩
    · cases e8
    · cases e8
      rw [e9] at hC
      simp at hC
/-- a cell is overwritten by one without operands -/
theorem RedW.set0 {R A lo b cap : Nat} {c : Value} {fu : Fu} {st : Int} {g : List Ce} {w : World} (h : RedW R A lo c fu st g w) (hA : w.heap[A]? = some (.cells #[.slice (some ⟨b, 0, none⟩) g.length cap] 142)) (hbA : b ≠ A) (hbR : b ≠ R)
    (hlo : lo ≤ w.heap.size) {at' : Nat} (hat : at' < g.length) {ce : Ce} {kv : Value} (hc : I64 ce.op ∧ I64 ce.num) (hk : KRowS w (fun x => x = w.heap.size) ce.kids w.heap.size kv) :
    RedW R A lo c fu st (g.set at' ce) (st3 w b at' ce.op ce.num kv) := by
  have hO := h.ownAt hA
  refine ⟨?_, ⟨some ⟨b, 0, none⟩, cap, ?_, ?_⟩, h.loR, h.loA⟩
  · rw [st3_block hbR.symm]; exact h.red
  · rw [st3_block hbA.symm, List.length_set]; exact hA
  · have hoa : OwnC w lo (fun b => lo ≤ b ∧ b < w.heap.size) g (.slice (some ⟨b, 0, none⟩) g.length cap) :=
      hO.next (fun k hk hz => ⟨hk, hz⟩) (fun k _ hz => rfl) (fun k _ hz => rfl)
    have hset := hoa.setc at' hat (c := ce) hc hk (by rintro ⟨-, h⟩; omega)
    rw [List.length_set]
    exact hset.next (fun k hk _ => by rcases hk with h | h; exact h.1; omega) (fun _ _ _ => rfl) (fun _ _ _ => rfl)
theorem fld2 (a b d : Value) (w : World) : (Instr.field 93 (.agg #[a, b, d]) 2).run Tryz.prog w = .ok d w := by kernel_rfl
theorem fld1 (a b d : Value) (w : World) : (Instr.field 93 (.agg #[a, b, d]) 1).run Tryz.prog w = .ok b w := by kernel_rfl
theorem numRange {g : List Ce} {defs : Int} (h : graphB g defs = true) (f : Nat) (hf : f < g.length) (ho : g[f].op = 2) : 0 ≤ g[f].num ∧ g[f].num ≤ 999 := by
  have hc := graphB_cell h f hf
  unfold cellB fitsB ownB at hc
  simp only [ho, Bool.and_eq_true, decide_eq_true_eq] at hc
  simpa using hc.1.2
/-- a step is made: no error -/
def Made0 (P : World → Prop) (lo : Nat) (w : World) (e : Ending) (w' : World) : Prop := e = .returned .nilIface ∧ P w' ∧ Below lo w w'

/-- the first or the second operand of a pair -/
theorem partOf1_calls (op o n : Int) (xs : List Int) (k : Nat) (kv : Value) (w : World) (hk : IIn w xs kv) (h0 : 0 < xs.length) (he : xs[0] = (k : Int)) (ht : (op == 6) = true) :
    Calls Tryz.prog 123 #[.int .i64 op, .agg #[.int .i64 o, .int .i64 n, kv]] w fun e w' => e = .returned (.int .i64 (k : Int)) ∧ Below w.heap.size w w' := by
  obtain ⟨ad, cap, rfl, hl, hm, -⟩ := id hk
  obtain ⟨bk, ok, rfl, d0⟩ := hk.at 0 h0
  rw [he, Nat.add_zero] at d0
  have x2 := box_cell w #[.int .i64 o, .int .i64 n, .slice (some ⟨bk, ok, none⟩) xs.length cap] 93 2 _ rfl
  have dk := old_cell d0 (.cells #[.int .i64 o, .int .i64 n, .slice (some ⟨bk, ok, none⟩) xs.length cap] 93)
  have h0I : (0 : Int) < (xs.length : Int) := by omega
  have HB : Hid (Below w.heap.size w (w.alloc (.cells #[.int .i64 o, .int .i64 n, .slice (some ⟨bk, ok, none⟩) xs.length cap] 93))) := box_below _ _
  clear hk he d0
  go_enter Tryz.func123, Tryz.ntmps123
  go_wp2_with fail
  go_ret
  exact ⟨rfl, HB.out⟩
theorem partOf2_calls (op o n : Int) (xs : List Int) (k : Nat) (kv : Value) (w : World) (hk : IIn w xs kv) (h0 : 1 < xs.length) (he : xs[1] = (k : Int)) (ht : (op == 6) = false) :
    Calls Tryz.prog 123 #[.int .i64 op, .agg #[.int .i64 o, .int .i64 n, kv]] w fun e w' => e = .returned (.int .i64 (k : Int)) ∧ Below w.heap.size w w' := by
  obtain ⟨ad, cap, rfl, hl, hm, -⟩ := id hk
  obtain ⟨bk, ok, rfl, d0⟩ := hk.at 1 h0
  rw [he] at d0
  have x2 := box_cell w #[.int .i64 o, .int .i64 n, .slice (some ⟨bk, ok, none⟩) xs.length cap] 93 2 _ rfl
  have dk := old_cell d0 (.cells #[.int .i64 o, .int .i64 n, .slice (some ⟨bk, ok, none⟩) xs.length cap] 93)
  have h0I : (1 : Int) < (xs.length : Int) := by omega
  have HB : Hid (Below w.heap.size w (w.alloc (.cells #[.int .i64 o, .int .i64 n, .slice (some ⟨bk, ok, none⟩) xs.length cap] 93))) := box_below _ _
  clear hk he d0
  go_enter Tryz.func123, Tryz.ntmps123
  go_wp2_with fail
  go_ret
  exact ⟨rfl, HB.out⟩

set_option maxRecDepth 100000 in
set_option maxHeartbeats 6400000 in
theorem changeOp_calls (R A lo at' : Nat) (c : Value) (fu : Fu) (st : Int) (g : List Ce) (defs : Int) (w : World) (h : RedW R A lo c fu st g w) (hlo : lo ≤ w.heap.size) (hg : graphB g defs = true) (ha : at' < g.length) (hr : OpReady g at') :
    Calls Tryz.prog 150 #[.pointer (some ⟨R, 0, none⟩), .int .i64 (at' : Int)] w (Made0 (fun w' => RedW R A lo c fu st (g.set at' (opCell g at')) w' ∧ Kp R A w w') lo w) := by
  have HW := mkHid h
  have HG := mkHid hg
  obtain ⟨b5, cap, hA, hO, hbl5, hbz5, hbA, hbR⟩ := h.blk (by omega)
  have hC := (hO.own fun k hk _ => hk).inn
  have h400 : g.length ≤ 400 := graphB_len hg
  have HOA : Hid (opAt g at' = g[at'].op) := opAt_at at' ha
  obtain ⟨bl, off, r, hea, c0, c1, c2, -, -, hkk⟩ := hC.at at' ha
  cases hea
  simp only [Nat.zero_add] at c0 c1 c2
  have HKK := mkHid hkk
  obtain ⟨adk, capk, rfl, hkcl, hkcm, -⟩ := hkk
  have HNK0 : Hid (0 < g[at'].kids.length → ∀ bk ok, adk = some ⟨bk, ok, none⟩ → bk ≠ b5) := fun hne => h.kidNe hA ha c2 hne
  have r0 := cell_of_blk h.red 0 _ rfl
  have a0 := cell_of_blk hA 0 _ rfl
  have HBX : Hid (Below w.heap.size w (w.alloc (.cells #[.int .i64 g[at'].op, .int .i64 g[at'].num, .slice adk g[at'].kids.length capk] 93))) := box_below _ _
  have HX : Hid ((w.alloc (.cells #[.int .i64 g[at'].op, .int .i64 g[at'].num, .slice adk g[at'].kids.length capk] 93)).heap[w.heap.size]? = some (.cells #[.int .i64 g[at'].op, .int .i64 g[at'].num, .slice adk g[at'].kids.length capk] 93)) := Deep.blk_alloc_new _ _
  have HWX := mkHid (HW.out.next HBX.out)
  have HSX : Hid ((w.alloc (.cells #[.int .i64 g[at'].op, .int .i64 g[at'].num, .slice adk g[at'].kids.length capk] 93)).heap.size = w.heap.size + 1) := Deep.nblk_alloc _ _
  have hatI : (at' : Int) < (g.length : Int) := by omega
  unfold maxLen at hkcm
  have F2 := fld2
  have F1 := fld1
  have HAA := mkHid hA
  have HRR := mkHid h.red
  have HB5 := mkHid (And.intro hbA hbR)
  have HBZ5 := mkHid hbz5
  have HNX : Hid (∀ W : World, Below w.heap.size w W → NotRow W A w.heap.size) := fun W hb => notRow_of HAA.out (by have := HBZ5.out; omega) (hb.block A (cellsOf_ltI HAA.out))
  clear h hg hA hC hO hbl5 hbz5 hbA hbR
  rcases hr with ⟨h67, b, hb, hb5⟩ | ⟨h10, b, hb, hb2⟩ | ⟨h89, ⟨b, hb, hb2⟩, b1, hb1, hb12⟩
  · have hk0 : 0 < g[at'].kids.length := by
      have h1 := kids_op HG.out at' ha
      rcases h67 with h | h <;> rw [h] at h1 <;> have e : cArity 6 = 1 ∧ cArity 7 = 1 := by decide
      all_goals omega
    obtain ⟨hke, hkl⟩ := kidAt_get HG.out at' ha 0 hk0
    have hbl := (followN_lt HG.out _ _ _ hkl hb).1
    have hk2 : g[b].kids.length = 2 := by
      have h1 := kids_op HG.out b hbl
      rw [hb5] at h1
      have e : cArity 5 = 2 := by decide
      omega
    have HOPD : Hid (∀ W : World, RedW R A lo c fu st g W → IIn W g[at'].kids (.slice adk g[at'].kids.length capk) → Calls Tryz.prog 154 #[.pointer (some ⟨R, 0, none⟩), .agg #[.int .i64 g[at'].op, .int .i64 g[at'].num, .slice adk g[at'].kids.length capk], .int .i64 0] W (CellV g[b] W)) := fun W h1 h2 => operand_calls R A lo (kidAt g at' 0) b 0 c fu st g _ _ g[at'].kids _ W h1 ⟨_, HG.out⟩ h2 hk0 hke hkl hb hbl
    rcases h67 with h6 | h7
    · have HVC : Hid (opCell g at' = indTo (kidAt g b 0)) := by unfold Hid opCell; rw [if_pos h6, folAt_some hb]
      have hkl2 : 0 < g[b].kids.length := by omega
      obtain ⟨hke0, -⟩ := kidAt_get HG.out b hbl 0 hkl2
      rw [HOA.out] at h6
      have t6 : (g[at'].op == 6) = true := by simp [h6]
      have HKE := mkHid hke0
      have HPO : Hid (∀ (W : World) (kv : Value), IIn W g[b].kids kv → Calls Tryz.prog 123 #[.int .i64 g[at'].op, .agg #[.int .i64 g[b].op, .int .i64 g[b].num, kv]] W fun e w' => e = .returned (.int .i64 (kidAt g b 0 : Int)) ∧ Below W.heap.size W w') := fun W kv h => partOf1_calls _ _ _ _ _ _ W h hkl2 HKE.out t6
      have x0 := cell_of_blk HX.out 0 _ rfl
      have x1 := cell_of_blk HX.out 1 _ rfl
      have x2 := cell_of_blk HX.out 2 _ rfl
      have rr0 := old_cell r0 (.cells #[.int .i64 g[at'].op, .int .i64 g[at'].num, .slice adk g[at'].kids.length capk] 93)
      clear h6 hb hb5 hke hkl hk2 hke0
      go_enter Tryz.func150, Tryz.ntmps150
      go_wp2_with fail
      go_region_held3 (fun w' => w'.cell? ⟨R, 0, none⟩ = some (.pointer (some ⟨A, 0, none⟩)) ∧ w'.cell? ⟨w.heap.size, 0, none⟩ = some (.int .i64 g[at'].op) ∧ w'.cell? ⟨w.heap.size, 1, none⟩ = some (.int .i64 g[at'].num) ∧ w'.cell? ⟨w.heap.size, 2, none⟩ = some (.slice adk g[at'].kids.length capk))
        (first
          | go_keep
          | exact ⟨p0, p1, p2, p3⟩
          | exact ⟨n0, n1, n2, n3⟩
          | exact ⟨m0, m1, m2, m3⟩
          | exact ⟨rr0, x0, x1, x2⟩)
        (first
          | (go_at_call 154; refine (HOPD.out (w.alloc (.cells #[.int .i64 g[at'].op, .int .i64 g[at'].num, .slice adk g[at'].kids.length capk] 93)).drew (HWX.out.next ((Below.refl _ _).drew)) ((HKK.out.next HBX.out).next ((Below.refl _ _).drew))).mono ?_; rintro e w2 ⟨v2, rfl, hi2, hb2⟩; have HB12 : Hid (Below (w.alloc (.cells #[.int .i64 g[at'].op, .int .i64 g[at'].num, .slice adk g[at'].kids.length capk] 93)).heap.size (w.alloc (.cells #[.int .i64 g[at'].op, .int .i64 g[at'].num, .slice adk g[at'].kids.length capk] 93)) w2) := (Below.refl _ _).drew.trans hb2; have HBW2 : Hid (Below w.heap.size w w2) := HBX.out.trans (HB12.out.mono (by rw [HSX.out]; omega)); have HW2 := mkHid (HWX.out.next HB12.out); have HX2 := mkHid ((HB12.out.block w.heap.size (by rw [HSX.out]; omega)).trans HX.out); have m0 := cell_of_blk HW2.out.red 0 _ rfl; have m1 := cell_of_blk HX2.out 0 _ rfl; have m2 := cell_of_blk HX2.out 1 _ rfl; have m3 := cell_of_blk HX2.out 2 _ rfl; have HI2 := mkHid hi2; obtain ⟨ad2, cap2, rfl, -, -, -⟩ := hi2; clear hb2)
          | (go_at_call 123; refine (HPO.out w2 _ HI2.out).mono ?_; rintro e w3 ⟨rfl, hb3⟩; have HBW3 : Hid (Below w.heap.size w w3) := HBW2.out.trans (hb3.mono HBW2.out.size); have HW3 := mkHid (HW2.out.next hb3); have HX3 := mkHid ((hb3.block w.heap.size (cellsOf_ltI HX2.out)).trans HX2.out); have n0 := cell_of_blk HW3.out.red 0 _ rfl; have n1 := cell_of_blk HX3.out 0 _ rfl; have n2 := cell_of_blk HX3.out 1 _ rfl; have n3 := cell_of_blk HX3.out 2 _ rfl; clear hb3)
          | (go_at_call 122; refine (redirectX_calls R A lo at' (kidAt g b 0) c fu st g w3 HW3.out (Nat.le_trans hlo HBW3.out.size) ha (by omega)).mono ?_; rintro e w4 ⟨rfl, hw4, hb4, hn4⟩; have HW4 := mkHid hw4; have HB4 : Hid (Below lo w w4) := (HBW3.out.mono hlo).trans hb4; have HX4 := mkHid ((hn4 w.heap.size (cellsOf_ltI HX3.out) (HNX.out w3 HBW3.out)).trans HX3.out); have p0 := cell_of_blk HW4.out.red 0 _ rfl; have p1 := cell_of_blk HX4.out 0 _ rfl; have p2 := cell_of_blk HX4.out 1 _ rfl; have p3 := cell_of_blk HX4.out 2 _ rfl; have HKP : Hid (Kp R A w w4) := (Kp.below HBW3.out (cellsOf_ltI HAA.out)).trans (Kp.ofX hb4.size hn4 (Nat.lt_of_lt_of_le (cellsOf_ltI HAA.out) HBW3.out.size) (notRow_of HAA.out HB5.out.1.symm (HBW3.out.block A (cellsOf_ltI HAA.out)))); clear hw4 hb4 hn4))
      go_wp2_with fail
      go_ret
      exact ⟨rfl, ⟨by rw [HVC.out]; exact HW4.out, HKP.out⟩, HB4.out⟩
    · have HVC : Hid (opCell g at' = indTo (kidAt g b 1)) := by unfold Hid opCell; rw [if_neg (by omega), if_pos h7, folAt_some hb]
      have hkl2 : 1 < g[b].kids.length := by omega
      obtain ⟨hke0, -⟩ := kidAt_get HG.out b hbl 1 hkl2
      rw [HOA.out] at h7
      have t6 : (g[at'].op == 6) = false := by simp [h7]
      have t7 : (g[at'].op == 7) = true := by simp [h7]
      have HKE := mkHid hke0
      have HPO : Hid (∀ (W : World) (kv : Value), IIn W g[b].kids kv → Calls Tryz.prog 123 #[.int .i64 g[at'].op, .agg #[.int .i64 g[b].op, .int .i64 g[b].num, kv]] W fun e w' => e = .returned (.int .i64 (kidAt g b 1 : Int)) ∧ Below W.heap.size W w') := fun W kv h => partOf2_calls _ _ _ _ _ _ W h hkl2 HKE.out t6
      have x0 := cell_of_blk HX.out 0 _ rfl
      have x1 := cell_of_blk HX.out 1 _ rfl
      have x2 := cell_of_blk HX.out 2 _ rfl
      have rr0 := old_cell r0 (.cells #[.int .i64 g[at'].op, .int .i64 g[at'].num, .slice adk g[at'].kids.length capk] 93)
      clear h7 hb hb5 hke hkl hk2 hke0
      go_enter Tryz.func150, Tryz.ntmps150
      go_wp2_with fail
      go_region_held3 (fun w' => w'.cell? ⟨R, 0, none⟩ = some (.pointer (some ⟨A, 0, none⟩)) ∧ w'.cell? ⟨w.heap.size, 0, none⟩ = some (.int .i64 g[at'].op) ∧ w'.cell? ⟨w.heap.size, 1, none⟩ = some (.int .i64 g[at'].num) ∧ w'.cell? ⟨w.heap.size, 2, none⟩ = some (.slice adk g[at'].kids.length capk))
        (first
          | go_keep
          | exact ⟨p0, p1, p2, p3⟩
          | exact ⟨n0, n1, n2, n3⟩
          | exact ⟨m0, m1, m2, m3⟩
          | exact ⟨rr0, x0, x1, x2⟩)
        (first
          | (go_at_call 154; refine (HOPD.out (w.alloc (.cells #[.int .i64 g[at'].op, .int .i64 g[at'].num, .slice adk g[at'].kids.length capk] 93)).drew (HWX.out.next ((Below.refl _ _).drew)) ((HKK.out.next HBX.out).next ((Below.refl _ _).drew))).mono ?_; rintro e w2 ⟨v2, rfl, hi2, hb2⟩; have HB12 : Hid (Below (w.alloc (.cells #[.int .i64 g[at'].op, .int .i64 g[at'].num, .slice adk g[at'].kids.length capk] 93)).heap.size (w.alloc (.cells #[.int .i64 g[at'].op, .int .i64 g[at'].num, .slice adk g[at'].kids.length capk] 93)) w2) := (Below.refl _ _).drew.trans hb2; have HBW2 : Hid (Below w.heap.size w w2) := HBX.out.trans (HB12.out.mono (by rw [HSX.out]; omega)); have HW2 := mkHid (HWX.out.next HB12.out); have HX2 := mkHid ((HB12.out.block w.heap.size (by rw [HSX.out]; omega)).trans HX.out); have m0 := cell_of_blk HW2.out.red 0 _ rfl; have m1 := cell_of_blk HX2.out 0 _ rfl; have m2 := cell_of_blk HX2.out 1 _ rfl; have m3 := cell_of_blk HX2.out 2 _ rfl; have HI2 := mkHid hi2; obtain ⟨ad2, cap2, rfl, -, -, -⟩ := hi2; clear hb2)
          | (go_at_call 123; refine (HPO.out w2 _ HI2.out).mono ?_; rintro e w3 ⟨rfl, hb3⟩; have HBW3 : Hid (Below w.heap.size w w3) := HBW2.out.trans (hb3.mono HBW2.out.size); have HW3 := mkHid (HW2.out.next hb3); have HX3 := mkHid ((hb3.block w.heap.size (cellsOf_ltI HX2.out)).trans HX2.out); have n0 := cell_of_blk HW3.out.red 0 _ rfl; have n1 := cell_of_blk HX3.out 0 _ rfl; have n2 := cell_of_blk HX3.out 1 _ rfl; have n3 := cell_of_blk HX3.out 2 _ rfl; clear hb3)
          | (go_at_call 122; refine (redirectX_calls R A lo at' (kidAt g b 1) c fu st g w3 HW3.out (Nat.le_trans hlo HBW3.out.size) ha (by omega)).mono ?_; rintro e w4 ⟨rfl, hw4, hb4, hn4⟩; have HW4 := mkHid hw4; have HB4 : Hid (Below lo w w4) := (HBW3.out.mono hlo).trans hb4; have HX4 := mkHid ((hn4 w.heap.size (cellsOf_ltI HX3.out) (HNX.out w3 HBW3.out)).trans HX3.out); have p0 := cell_of_blk HW4.out.red 0 _ rfl; have p1 := cell_of_blk HX4.out 0 _ rfl; have p2 := cell_of_blk HX4.out 1 _ rfl; have p3 := cell_of_blk HX4.out 2 _ rfl; have HKP : Hid (Kp R A w w4) := (Kp.below HBW3.out (cellsOf_ltI HAA.out)).trans (Kp.ofX hb4.size hn4 (Nat.lt_of_lt_of_le (cellsOf_ltI HAA.out) HBW3.out.size) (notRow_of HAA.out HB5.out.1.symm (HBW3.out.block A (cellsOf_ltI HAA.out)))); clear hw4 hb4 hn4))
      go_wp2_with fail
      go_ret
      exact ⟨rfl, ⟨by rw [HVC.out]; exact HW4.out, HKP.out⟩, HB4.out⟩
  · have h1k := kids_op HG.out at' ha
    have hk3 : g[at'].kids.length = 3 := by
      rw [h10] at h1k
      have e : cArity 10 = 3 := by decide
      omega
    have hk0 : 0 < g[at'].kids.length := by omega
    obtain ⟨hke, hkl⟩ := kidAt_get HG.out at' ha 0 hk0
    have hbl := (followN_lt HG.out _ _ _ hkl hb).1
    have HOPD : Hid (∀ W : World, RedW R A lo c fu st g W → IIn W g[at'].kids (.slice adk g[at'].kids.length capk) → Calls Tryz.prog 154 #[.pointer (some ⟨R, 0, none⟩), .agg #[.int .i64 g[at'].op, .int .i64 g[at'].num, .slice adk g[at'].kids.length capk], .int .i64 0] W (CellV g[b] W)) := fun W h1 h2 => operand_calls R A lo (kidAt g at' 0) b 0 c fu st g _ _ g[at'].kids _ W h1 ⟨_, HG.out⟩ h2 hk0 hke hkl hb hbl
    have HNB : Hid (numAt g b = g[b].num) := numAt_at b hbl
    have h10' := h10
    rw [HOA.out] at h10'
    have t6 : (g[at'].op == 6) = false := by simp [h10']
    have t7 : (g[at'].op == 7) = false := by simp [h10']
    have t10 : (g[at'].op == 10) = true := by simp [h10']
    by_cases hz : g[b].num = 0
    · have HVC : Hid (opCell g at' = indTo (kidAt g at' 1)) := by unfold Hid opCell; rw [if_neg (by omega), if_neg (by omega), if_pos h10, folAt_some hb, HNB.out, if_pos hz]
      have hkl2 : 1 < g[at'].kids.length := by omega
      have hkI : (1 : Int) < (g[at'].kids.length : Int) := by omega
      have HNK := mkHid (HNK0.out (by omega))
      obtain ⟨hke0, -⟩ := kidAt_get HG.out at' ha 1 hkl2
      have HKE := mkHid hke0
      have tz : (g[b].num == 0) = true := by simp [hz]
      clear h10 h10' hb hb2 hke hkl hk3 hke0 hz h1k
      go_enter Tryz.func150, Tryz.ntmps150
      go_wp2_with fail
      refine (HOPD.out _ HWX.out (HKK.out.next HBX.out)).mono ?_
      rintro e w2 ⟨v2, rfl, hi2, hb2⟩
      have HB2 : Hid (Below w.heap.size w w2) := HBX.out.trans (hb2.mono (by rw [HSX.out]; omega))
      have HW2 := mkHid (HWX.out.next hb2)
      have HX2 := mkHid ((hb2.block w.heap.size (by rw [HSX.out]; omega)).trans HX.out)
      have HI2 := mkHid hi2
      obtain ⟨ad2, cap2, rfl, -, -, -⟩ := id hi2
      have x2 := cell_of_blk HX2.out 2 _ rfl
      obtain ⟨bk, ok, rfl, dk⟩ := (HKK.out.next HB2.out).at 1 hkl2
      rw [HKE.out] at dk
      clear hi2 hb2
      have m0 := cell_of_blk HW2.out.red 0 _ rfl
      have HDK := mkHid dk
      go_wp2_with fail
      go_region_held3 (fun w' => w'.cell? ⟨R, 0, none⟩ = some (.pointer (some ⟨A, 0, none⟩)) ∧ w'.cell? ⟨w.heap.size, 2, none⟩ = some (.slice (some ⟨bk, ok, none⟩) g[at'].kids.length capk) ∧ w'.cell? ⟨bk, ok + 1, none⟩ = some (.int .i64 (kidAt g at' 1 : Int)))
        (first
          | go_keep
          | exact ⟨n0, n1, n2⟩
          | exact ⟨m0, x2, dk⟩)
        (first
          | (go_at_call 122; refine (redirectX_calls R A lo at' (kidAt g at' 1) c fu st g w2.drew (HW2.out.next ((Below.refl _ _).drew)) (Nat.le_trans hlo HB2.out.size) ha (by omega)).mono ?_; rintro e w3 ⟨rfl, hw3, hb3, hn3⟩; have HW3 := mkHid hw3; have HB3 : Hid (Below lo w w3) := (HB2.out.mono hlo).drew.trans hb3; have hX3 := (hn3 w.heap.size (cellsOf_ltI HX2.out) (HNX.out w2.drew HB2.out.drew)).trans HX2.out; have n0 := cell_of_blk HW3.out.red 0 _ rfl; have n1 := cell_of_blk hX3 2 _ rfl; have n2 := (World.cell?_of_block (hn3 bk (cell_lt HDK.out) (notRow_of HAA.out (HNK.out bk ok rfl) (HB2.out.drew.block A (cellsOf_ltI HAA.out))))).trans HDK.out; have HKP : Hid (Kp R A w w3) := (Kp.below HB2.out.drew (cellsOf_ltI HAA.out)).trans (Kp.ofX hb3.size hn3 (Nat.lt_of_lt_of_le (cellsOf_ltI HAA.out) HB2.out.size) (notRow_of HAA.out HB5.out.1.symm (HB2.out.drew.block A (cellsOf_ltI HAA.out)))); clear hw3 hb3 hn3 hX3))
      go_wp2_with fail
      go_ret
      exact ⟨rfl, ⟨by rw [HVC.out]; exact HW3.out, HKP.out⟩, HB3.out⟩
    · have HVC : Hid (opCell g at' = indTo (kidAt g at' 2)) := by unfold Hid opCell; rw [if_neg (by omega), if_neg (by omega), if_pos h10, folAt_some hb, HNB.out, if_neg hz]
      have hkl2 : 2 < g[at'].kids.length := by omega
      have hkI : (2 : Int) < (g[at'].kids.length : Int) := by omega
      have HNK := mkHid (HNK0.out (by omega))
      obtain ⟨hke0, -⟩ := kidAt_get HG.out at' ha 2 hkl2
      have HKE := mkHid hke0
      have tz : (g[b].num == 0) = false := by simp [hz]
      clear h10 h10' hb hb2 hke hkl hk3 hke0 hz h1k
      go_enter Tryz.func150, Tryz.ntmps150
      go_wp2_with fail
      refine (HOPD.out _ HWX.out (HKK.out.next HBX.out)).mono ?_
      rintro e w2 ⟨v2, rfl, hi2, hb2⟩
      have HB2 : Hid (Below w.heap.size w w2) := HBX.out.trans (hb2.mono (by rw [HSX.out]; omega))
      have HW2 := mkHid (HWX.out.next hb2)
      have HX2 := mkHid ((hb2.block w.heap.size (by rw [HSX.out]; omega)).trans HX.out)
      have HI2 := mkHid hi2
      obtain ⟨ad2, cap2, rfl, -, -, -⟩ := id hi2
      have x2 := cell_of_blk HX2.out 2 _ rfl
      obtain ⟨bk, ok, rfl, dk⟩ := (HKK.out.next HB2.out).at 2 hkl2
      rw [HKE.out] at dk
      clear hi2 hb2
      have m0 := cell_of_blk HW2.out.red 0 _ rfl
      have HDK := mkHid dk
      go_wp2_with fail
      go_region_held3 (fun w' => w'.cell? ⟨R, 0, none⟩ = some (.pointer (some ⟨A, 0, none⟩)) ∧ w'.cell? ⟨w.heap.size, 2, none⟩ = some (.slice (some ⟨bk, ok, none⟩) g[at'].kids.length capk) ∧ w'.cell? ⟨bk, ok + 2, none⟩ = some (.int .i64 (kidAt g at' 2 : Int)))
        (first
          | go_keep
          | exact ⟨n0, n1, n2⟩
          | exact ⟨m0, x2, dk⟩)
        (first
          | (go_at_call 122; refine (redirectX_calls R A lo at' (kidAt g at' 2) c fu st g w2.drew (HW2.out.next ((Below.refl _ _).drew)) (Nat.le_trans hlo HB2.out.size) ha (by omega)).mono ?_; rintro e w3 ⟨rfl, hw3, hb3, hn3⟩; have HW3 := mkHid hw3; have HB3 : Hid (Below lo w w3) := (HB2.out.mono hlo).drew.trans hb3; have hX3 := (hn3 w.heap.size (cellsOf_ltI HX2.out) (HNX.out w2.drew HB2.out.drew)).trans HX2.out; have n0 := cell_of_blk HW3.out.red 0 _ rfl; have n1 := cell_of_blk hX3 2 _ rfl; have n2 := (World.cell?_of_block (hn3 bk (cell_lt HDK.out) (notRow_of HAA.out (HNK.out bk ok rfl) (HB2.out.drew.block A (cellsOf_ltI HAA.out))))).trans HDK.out; have HKP : Hid (Kp R A w w3) := (Kp.below HB2.out.drew (cellsOf_ltI HAA.out)).trans (Kp.ofX hb3.size hn3 (Nat.lt_of_lt_of_le (cellsOf_ltI HAA.out) HB2.out.size) (notRow_of HAA.out HB5.out.1.symm (HB2.out.drew.block A (cellsOf_ltI HAA.out)))); clear hw3 hb3 hn3 hX3))
      go_wp2_with fail
      go_ret
      exact ⟨rfl, ⟨by rw [HVC.out]; exact HW3.out, HKP.out⟩, HB3.out⟩
  · have h1k := kids_op HG.out at' ha
    have hk2 : g[at'].kids.length = 2 := by
      rcases h89 with h | h <;> rw [h] at h1k <;> have e : cArity 8 = 2 ∧ cArity 9 = 2 := by decide
      all_goals omega
    have hk0 : 0 < g[at'].kids.length := by omega
    have hk1 : 1 < g[at'].kids.length := by omega
    obtain ⟨hke, hkl⟩ := kidAt_get HG.out at' ha 0 hk0
    obtain ⟨hke1, hkl1⟩ := kidAt_get HG.out at' ha 1 hk1
    have hbl := (followN_lt HG.out _ _ _ hkl hb).1
    have hbl1 := (followN_lt HG.out _ _ _ hkl1 hb1).1
    have HOPD : Hid (∀ W : World, RedW R A lo c fu st g W → IIn W g[at'].kids (.slice adk g[at'].kids.length capk) → Calls Tryz.prog 154 #[.pointer (some ⟨R, 0, none⟩), .agg #[.int .i64 g[at'].op, .int .i64 g[at'].num, .slice adk g[at'].kids.length capk], .int .i64 0] W (CellV g[b] W)) := fun W h1 h2 => operand_calls R A lo (kidAt g at' 0) b 0 c fu st g _ _ g[at'].kids _ W h1 ⟨_, HG.out⟩ h2 hk0 hke hkl hb hbl
    have HOPD1 : Hid (∀ W : World, RedW R A lo c fu st g W → IIn W g[at'].kids (.slice adk g[at'].kids.length capk) → Calls Tryz.prog 154 #[.pointer (some ⟨R, 0, none⟩), .agg #[.int .i64 g[at'].op, .int .i64 g[at'].num, .slice adk g[at'].kids.length capk], .int .i64 1] W (CellV g[b1] W)) := fun W h1 h2 => operand_calls R A lo (kidAt g at' 1) b1 1 c fu st g _ _ g[at'].kids _ W h1 ⟨_, HG.out⟩ h2 hk1 hke1 hkl1 hb1 hbl1
    have HR0 := mkHid (numRange HG.out b hbl (by rw [← opAt_at b hbl]; exact hb2))
    have HR1 := mkHid (numRange HG.out b1 hbl1 (by rw [← opAt_at b1 hbl1]; exact hb12))
    obtain ⟨nv, hnv⟩ : ∃ nv, nv = numberOf g[at'].op g[b].num g[b1].num := ⟨_, rfl⟩
    have HVC : Hid (opCell g at' = numC nv) := by
      unfold Hid opCell
      rw [if_neg (by omega), if_neg (by omega), if_neg (by omega), folAt_some hb, folAt_some hb1, numAt_at b hbl, numAt_at b1 hbl1, HOA.out, hnv]
    have HNR : Hid (0 ≤ nv ∧ nv ≤ 999) := by rw [hnv]; exact numberOf_range _ _ _
    have HCN : Hid (∀ W : World, Calls Tryz.prog 155 #[.int .i64 g[at'].op, .int .i64 g[b].num, .int .i64 g[b1].num] W fun e w' => e = .returned (.int .i64 nv) ∧ W = w') := fun W => by
      rw [hnv]; exact sumOf_calls _ _ _ (by rw [← HOA.out]; exact h89) HR0.out HR1.out W
    rw [HOA.out] at h89
    have t6 : (g[at'].op == 6) = false := by simp; omega
    have t7 : (g[at'].op == 7) = false := by simp; omega
    have t10 : (g[at'].op == 10) = false := by simp; omega
    have h89' := h89
    have HRW1 := HWX
    have x0 := cell_of_blk HX.out 0 _ rfl
    have x1 := cell_of_blk HX.out 1 _ rfl
    have x2 := cell_of_blk HX.out 2 _ rfl
    have rr0 := old_cell r0 (.cells #[.int .i64 g[at'].op, .int .i64 g[at'].num, .slice adk g[at'].kids.length capk] 93)
    have aa0 := old_cell a0 (.cells #[.int .i64 g[at'].op, .int .i64 g[at'].num, .slice adk g[at'].kids.length capk] 93)
    have tok1 : True := trivial
    clear hb hb1 hb2 hb12 hke hke1 hkl hkl1 hk2 hnv h89 h1k
    rcases h89' with h8 | h9
    · have t8 : (g[at'].op == 8) = true := by simp [h8]
      clear h8
      go_enter Tryz.func150, Tryz.ntmps150
      go_wp2_with fail
      go_region_held3 (fun w' => w'.cell? ⟨R, 0, none⟩ = some (.pointer (some ⟨A, 0, none⟩)) ∧ w'.cell? ⟨A, 0, none⟩ = some (.slice (some ⟨b5, 0, none⟩) g.length cap) ∧ w'.cell? ⟨w.heap.size, 0, none⟩ = some (.int .i64 g[at'].op) ∧ w'.cell? ⟨w.heap.size, 1, none⟩ = some (.int .i64 g[at'].num) ∧ w'.cell? ⟨w.heap.size, 2, none⟩ = some (.slice adk g[at'].kids.length capk))
        (first
          | go_keep
          | exact ⟨n0, n1, n2, n3, n4⟩
          | exact ⟨m0, m1, m2, m3, m4⟩
          | exact ⟨rr0, aa0, x0, x1, x2⟩
          | exact ⟨p0, p1, p2, p3, p4⟩)
        (first
          | (go_at_call 154; have _t := tok1; refine (HOPD.out (w.alloc (.cells #[.int .i64 g[at'].op, .int .i64 g[at'].num, .slice adk g[at'].kids.length capk] 93)).drew (HWX.out.next ((Below.refl _ _).drew)) ((HKK.out.next HBX.out).next ((Below.refl _ _).drew))).mono ?_; rintro e w2 ⟨v2, rfl, hi2, hb2⟩; have HB12 : Hid (Below (w.alloc (.cells #[.int .i64 g[at'].op, .int .i64 g[at'].num, .slice adk g[at'].kids.length capk] 93)).heap.size (w.alloc (.cells #[.int .i64 g[at'].op, .int .i64 g[at'].num, .slice adk g[at'].kids.length capk] 93)) w2) := (Below.refl _ _).drew.trans hb2; have HBW2 : Hid (Below w.heap.size w w2) := HBX.out.trans (HB12.out.mono (by rw [HSX.out]; omega)); have HW2 := mkHid (HWX.out.next HB12.out); have HX2 := mkHid ((HB12.out.block w.heap.size (by rw [HSX.out]; omega)).trans HX.out); have m0 := cell_of_blk ((HBW2.out.block _ (Array.getElem?_eq_some_iff.1 HRR.out).1).trans HRR.out) 0 _ rfl; have m1 := cell_of_blk ((HBW2.out.block _ (Array.getElem?_eq_some_iff.1 HAA.out).1).trans HAA.out) 0 _ rfl; have m2 := cell_of_blk HX2.out 0 _ rfl; have m3 := cell_of_blk HX2.out 1 _ rfl; have m4 := cell_of_blk HX2.out 2 _ rfl; obtain ⟨ad2, cap2, rfl, -, -, -⟩ := hi2; clear hb2 tok1)
          | (go_at_call 154; refine (HOPD1.out w2 HW2.out (HKK.out.next HBW2.out)).mono ?_; rintro e w3 ⟨v3, rfl, hi3, hb3⟩; have HBW3 : Hid (Below w.heap.size w w3) := HBW2.out.trans (hb3.mono HBW2.out.size); have HW3 := mkHid (HW2.out.next hb3); have HX3 := mkHid ((hb3.block w.heap.size (cellsOf_ltI HX2.out)).trans HX2.out); have n0 := cell_of_blk ((HBW3.out.block _ (Array.getElem?_eq_some_iff.1 HRR.out).1).trans HRR.out) 0 _ rfl; have hA3 := (HBW3.out.block _ (Array.getElem?_eq_some_iff.1 HAA.out).1).trans HAA.out; have n1 := cell_of_blk hA3 0 _ rfl; have n2 := cell_of_blk HX3.out 0 _ rfl; have n3 := cell_of_blk HX3.out 1 _ rfl; have n4 := cell_of_blk HX3.out 2 _ rfl; have p0 := cell_of_blk ((st3_block (b := b5) (i := at') (o := 2) (m := nv) (kv := .slice none 0 0) (k := R) HB5.out.2.symm).trans ((HBW3.out.block _ (Array.getElem?_eq_some_iff.1 HRR.out).1).trans HRR.out)) 0 _ rfl; have p1 := cell_of_blk ((st3_block (b := b5) (i := at') (o := 2) (m := nv) (kv := .slice none 0 0) (k := A) HB5.out.1.symm).trans hA3) 0 _ rfl; have hX4 := (st3_block (w := w3) (b := b5) (i := at') (o := 2) (m := nv) (kv := .slice none 0 0) (k := w.heap.size) (by have := HBZ5.out; omega)).trans HX3.out; have p2 := cell_of_blk hX4 0 _ rfl; have p3 := cell_of_blk hX4 1 _ rfl; have p4 := cell_of_blk hX4 2 _ rfl; obtain ⟨ad3, cap3, rfl, -, -, -⟩ := hi3; have HSET := mkHid (HW3.out.set0 hA3 HB5.out.1 HB5.out.2 (Nat.le_trans hlo HBW3.out.size) ha (ce := numC nv) (kv := .slice none 0 0) (numI64 HNR.out.1 HNR.out.2) (krow_nil _ _ _)); have hys3 := HW3.out.rowAt hA3; obtain ⟨ys3, hys3⟩ := hys3; obtain ⟨q0, y0⟩ := own_cellI hys3 (at' * 3) (by omega); obtain ⟨q1, y1⟩ := own_cellI hys3 (at' * 3 + 1) (by omega); obtain ⟨q2, y2⟩ := own_cellI hys3 (at' * 3 + 2) (by omega); have f0 := hys3.frozenAt (at' * 3); have f1 := hys3.frozenAt (at' * 3 + 1); have f2 := hys3.frozenAt (at' * 3 + 2); have HBF := mkHid (st3_below (b := b5) (i := at') (o := 2) (m := nv) (kv := .slice none 0 0) (HBW3.out.mono hlo) (hys3.lt b5 rfl).1); have HKP : Hid (Kp R A w (st3 w3 b5 at' 2 nv (.slice none 0 0))) := (Kp.below HBW3.out (cellsOf_ltI HAA.out)).trans (Kp.st3 hA3 HB5.out.1); clear hb3 hA3 hys3 hX4)
          | (go_at_call 155; refine (HCN.out w3).mono ?_; rintro e w4 ⟨rfl, rfl⟩))
      go_wp2_with fail
      go_ret
      exact ⟨rfl, ⟨by rw [HVC.out]; exact HSET.out, HKP.out⟩, HBF.out⟩
    · have t8 : (g[at'].op == 8) = false := by simp [h9]
      have t9 : (g[at'].op == 9) = true := by simp [h9]
      clear h9
      go_enter Tryz.func150, Tryz.ntmps150
      go_wp2_with fail
      go_region_held3 (fun w' => w'.cell? ⟨R, 0, none⟩ = some (.pointer (some ⟨A, 0, none⟩)) ∧ w'.cell? ⟨A, 0, none⟩ = some (.slice (some ⟨b5, 0, none⟩) g.length cap) ∧ w'.cell? ⟨w.heap.size, 0, none⟩ = some (.int .i64 g[at'].op) ∧ w'.cell? ⟨w.heap.size, 1, none⟩ = some (.int .i64 g[at'].num) ∧ w'.cell? ⟨w.heap.size, 2, none⟩ = some (.slice adk g[at'].kids.length capk))
        (first
          | go_keep
          | exact ⟨n0, n1, n2, n3, n4⟩
          | exact ⟨m0, m1, m2, m3, m4⟩
          | exact ⟨rr0, aa0, x0, x1, x2⟩
          | exact ⟨p0, p1, p2, p3, p4⟩)
        (first
          | (go_at_call 154; have _t := tok1; refine (HOPD.out (w.alloc (.cells #[.int .i64 g[at'].op, .int .i64 g[at'].num, .slice adk g[at'].kids.length capk] 93)).drew (HWX.out.next ((Below.refl _ _).drew)) ((HKK.out.next HBX.out).next ((Below.refl _ _).drew))).mono ?_; rintro e w2 ⟨v2, rfl, hi2, hb2⟩; have HB12 : Hid (Below (w.alloc (.cells #[.int .i64 g[at'].op, .int .i64 g[at'].num, .slice adk g[at'].kids.length capk] 93)).heap.size (w.alloc (.cells #[.int .i64 g[at'].op, .int .i64 g[at'].num, .slice adk g[at'].kids.length capk] 93)) w2) := (Below.refl _ _).drew.trans hb2; have HBW2 : Hid (Below w.heap.size w w2) := HBX.out.trans (HB12.out.mono (by rw [HSX.out]; omega)); have HW2 := mkHid (HWX.out.next HB12.out); have HX2 := mkHid ((HB12.out.block w.heap.size (by rw [HSX.out]; omega)).trans HX.out); have m0 := cell_of_blk ((HBW2.out.block _ (Array.getElem?_eq_some_iff.1 HRR.out).1).trans HRR.out) 0 _ rfl; have m1 := cell_of_blk ((HBW2.out.block _ (Array.getElem?_eq_some_iff.1 HAA.out).1).trans HAA.out) 0 _ rfl; have m2 := cell_of_blk HX2.out 0 _ rfl; have m3 := cell_of_blk HX2.out 1 _ rfl; have m4 := cell_of_blk HX2.out 2 _ rfl; obtain ⟨ad2, cap2, rfl, -, -, -⟩ := hi2; clear hb2 tok1)
          | (go_at_call 154; refine (HOPD1.out w2 HW2.out (HKK.out.next HBW2.out)).mono ?_; rintro e w3 ⟨v3, rfl, hi3, hb3⟩; have HBW3 : Hid (Below w.heap.size w w3) := HBW2.out.trans (hb3.mono HBW2.out.size); have HW3 := mkHid (HW2.out.next hb3); have HX3 := mkHid ((hb3.block w.heap.size (cellsOf_ltI HX2.out)).trans HX2.out); have n0 := cell_of_blk ((HBW3.out.block _ (Array.getElem?_eq_some_iff.1 HRR.out).1).trans HRR.out) 0 _ rfl; have hA3 := (HBW3.out.block _ (Array.getElem?_eq_some_iff.1 HAA.out).1).trans HAA.out; have n1 := cell_of_blk hA3 0 _ rfl; have n2 := cell_of_blk HX3.out 0 _ rfl; have n3 := cell_of_blk HX3.out 1 _ rfl; have n4 := cell_of_blk HX3.out 2 _ rfl; have p0 := cell_of_blk ((st3_block (b := b5) (i := at') (o := 2) (m := nv) (kv := .slice none 0 0) (k := R) HB5.out.2.symm).trans ((HBW3.out.block _ (Array.getElem?_eq_some_iff.1 HRR.out).1).trans HRR.out)) 0 _ rfl; have p1 := cell_of_blk ((st3_block (b := b5) (i := at') (o := 2) (m := nv) (kv := .slice none 0 0) (k := A) HB5.out.1.symm).trans hA3) 0 _ rfl; have hX4 := (st3_block (w := w3) (b := b5) (i := at') (o := 2) (m := nv) (kv := .slice none 0 0) (k := w.heap.size) (by have := HBZ5.out; omega)).trans HX3.out; have p2 := cell_of_blk hX4 0 _ rfl; have p3 := cell_of_blk hX4 1 _ rfl; have p4 := cell_of_blk hX4 2 _ rfl; obtain ⟨ad3, cap3, rfl, -, -, -⟩ := hi3; have HSET := mkHid (HW3.out.set0 hA3 HB5.out.1 HB5.out.2 (Nat.le_trans hlo HBW3.out.size) ha (ce := numC nv) (kv := .slice none 0 0) (numI64 HNR.out.1 HNR.out.2) (krow_nil _ _ _)); have hys3 := HW3.out.rowAt hA3; obtain ⟨ys3, hys3⟩ := hys3; obtain ⟨q0, y0⟩ := own_cellI hys3 (at' * 3) (by omega); obtain ⟨q1, y1⟩ := own_cellI hys3 (at' * 3 + 1) (by omega); obtain ⟨q2, y2⟩ := own_cellI hys3 (at' * 3 + 2) (by omega); have f0 := hys3.frozenAt (at' * 3); have f1 := hys3.frozenAt (at' * 3 + 1); have f2 := hys3.frozenAt (at' * 3 + 2); have HBF := mkHid (st3_below (b := b5) (i := at') (o := 2) (m := nv) (kv := .slice none 0 0) (HBW3.out.mono hlo) (hys3.lt b5 rfl).1); have HKP : Hid (Kp R A w (st3 w3 b5 at' 2 nv (.slice none 0 0))) := (Kp.below HBW3.out (cellsOf_ltI HAA.out)).trans (Kp.st3 hA3 HB5.out.1); clear hb3 hA3 hys3 hX4)
          | (go_at_call 155; refine (HCN.out w3).mono ?_; rintro e w4 ⟨rfl, rfl⟩))
      go_wp2_with fail
      go_ret
      exact ⟨rfl, ⟨by rw [HVC.out]; exact HSET.out, HKP.out⟩, HBF.out⟩
end Go.Proofs.YtiipcgnkfhjpeaaGreatDoor
