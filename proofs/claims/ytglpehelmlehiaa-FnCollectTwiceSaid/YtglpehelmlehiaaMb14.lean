/-
  THE MODEL's l3Mutate: the walk.
-/
import Derived.Test.YtglpehelmlehiaaMb13
import Derived.Test.YtglpehelmlehiaaMb11
import Derived.Test.YtglpehelmlehiaaMb8
import Derived.Test.YtglpehelmlehiaaMb7
import Derived.Test.YtglpehelmlehiaaMb10
import Derived.Laws.OwnMore
namespace Go.Proofs.Ytglpehelmlehiaa
set_option linter.unusedVariables false
set_option linter.unusedSimpArgs false
open Go.RowKit

/-- a graph that may not be valid -/
def MutD (G : List Ce) (w : World) (b p : Nat) (e : Ending) (w' : World) : Prop := ∃ G' gv' p', e = .returned gv' ∧ CellsOn w' (Btw w.heap.size w'.heap.size) G' gv' ∧ G'.length = G.length ∧ RdOn w' b p' ∧ p' ≤ p + 3 ∧ But b w w'
theorem MutD.drew {G : List Ce} {w w' : World} {b p : Nat} {e : Ending} (h : MutD G w b p e w') : MutD G w b p e w'.drew := by
  obtain ⟨G', gv', p', h0, h1, h2, h3, h4, h5⟩ := h
  exact ⟨G', gv', p', h0, h1.mono (fun _ hk => hk) fun _ _ => rfl, h2, h3.drew, h4, h5.drew⟩
theorem mutD_of {G G' : List Ce} {w w' : World} {b p p' : Nat} {gv' : Value} (h1 : CellsOn w' (Btw w.heap.size w'.heap.size) G' gv') (h2 : G'.length = G.length) (h3 : RdOn w' b p') (h4 : p' ≤ p + 3) (h5 : But b w w') : MutD G w b p (.returned gv') w' := ⟨G', gv', p', rfl, h1, h2, h3, h4, h5⟩
theorem RowK.blk {w : World} {lo b0 cap : Nat} {g : List Ce} {xs : List Value} {KV : Nat → Value} (h : RowK w lo b0 cap g xs KV) : ∃ C, w.heap[b0]? = some (.cells C 48) ∧ ∀ k, k < g.length → C[k * 3]? = xs[k * 3]? ∧ C[k * 3 + 1]? = xs[k * 3 + 1]? ∧ C[k * 3 + 2]? = xs[k * 3 + 2]? := by
  rcases h.row.2 with ⟨e, -⟩ | ⟨b, cap2, cur, e, hg, hh, hn, hc, hs, htk⟩
  · cases e
  cases e
  refine ⟨cur, hh, fun k hk => ?_⟩
  have get : ∀ m, m < g.length * 3 → cur[m]? = xs[m]? := by
    intro m hm
    rw [← htk, List.getElem?_take_of_lt hm]
    simp
  exact ⟨get _ (by omega), get _ (by omega), get _ (by omega)⟩
theorem RowK.cell {w : World} {lo b0 cap : Nat} {g : List Ce} {xs : List Value} {KV : Nat → Value} (h : RowK w lo b0 cap g xs KV) (k : Nat) (hk : k < g.length) :
    w.cell? ⟨b0, k * 3, none⟩ = some (.int .i64 g[k].op) ∧ w.cell? ⟨b0, k * 3 + 1, none⟩ = some (.int .i64 g[k].num) ∧ w.cell? ⟨b0, k * 3 + 2, none⟩ = some (KV k) ∧ (∀ i, w.frozen? ⟨b0, i, none⟩ = false) := by
  obtain ⟨C, hC, hx⟩ := h.blk
  obtain ⟨a1, a2, a3, -, -⟩ := h.at' k hk
  obtain ⟨x1, x2, x3⟩ := hx k hk
  exact ⟨cell_of_blk hC _ _ (x1.trans a1), cell_of_blk hC _ _ (x2.trans a2), cell_of_blk hC _ _ (x3.trans a3), fun i => frz_of_blk hC i⟩
theorem RowK.row1 {w w1 : World} {lo b0 cap : Nat} {g : List Ce} {xs : List Value} {KV : Nat → Value} (h : RowK w lo b0 cap g xs KV) (k : Nat) (hk : k < g.length) (hg : w.grownBy w1 (KV k).ownBlock) : w1.heap[b0]? = w.heap[b0]? :=
  hg.block b0 h.lt.2 (fun e => (h.kidNe k hk e.symm) rfl)
theorem newsi (w : World) (y : Int) : ∀ j u, [Value.int .i64 y][j]? = some u → (w.alloc (.cells #[.int .i64 y] 3)).cell? ((⟨w.heap.size, 0, none⟩ : Addr).add j) = some u := by
  intro j u hu
  rw [WideShapes.add_plain, Nat.zero_add]
  exact box_cell w #[.int .i64 y] _ j u (by simpa using hu)
theorem kid_small {G : List Ce} {defs : Int} (hg : graphB G defs = true) (k : Nat) (hk : k < G.length) : G[k].kids.length ≤ 3 := (kids_graph hg k hk).1
theorem row_slice {w : World} {lo T s n : Nat} {v : Value} {xs : List Value} (h : w.ownsRow lo T s v n xs) (hn : 0 < n) (hpos : 0 < s) : ∃ g cap, v = .slice (some ⟨g, 0, none⟩) n cap ∧ n ≤ cap ∧ cap ≤ maxLen ∧ (∀ i, w.frozen? ⟨g, i, none⟩ = false) ∧ lo ≤ g ∧ g < w.heap.size ∧ (∃ u, w.cell? ⟨g, 0, none⟩ = some u) := by
  rcases h.2 with ⟨e, h0⟩ | ⟨g, cap, cur, e, hg, hh, h1, h2, h3, h4⟩
  · omega
  · refine ⟨g, cap, e, h1, h2, fun i => frz_of_blk hh i, hg, (Array.getElem?_eq_some_iff.1 hh).1, ?_⟩
    have hs : 0 < cur.size := by rw [h3]; exact Nat.mul_pos (by omega) hpos
    exact ⟨cur[0], cell_of_blk hh 0 _ (by simp [hs])⟩

set_option maxRecDepth 100000 in
set_option maxHeartbeats 1600000 in
theorem l3Mutate_calls (G : List Ce) (gv : Value) (w : World) (b p : Nat) (h : RdOn w b p) (hp : p ≤ 1000000) (hk : CIn w G gv) (hg : ∃ defs, graphB G defs = true) (hl : G.length ≤ 400) :
    Calls Try.prog 79 #[.pointer (some ⟨b, 0, none⟩), gv] w (MutD G w b p) := by
  have hbw := h.lt
  have HR := mkHid h
  have HK := mkHid hk
  have HG := mkHid hg
  obtain ⟨adg, capg, rfl, -, -, -⟩ := hk
  clear h hg
  go_enter Try.func79, Try.ntmps79
  go_wp2_with fail
  refine (l3CopyK_calls G _ w HK.out HG.out).mono ?_
  rintro e w1 ⟨v1, xs, rfl, ho1, hks1, hb1⟩
  have HR1 := mkHid (HR.out.next hb1)
  have HB1 : Hid (But b w w1) := But.of_below hb1
  have HO1 := mkHid ho1
  have HKS := mkHid hks1
  have hs1 : w.heap.size ≤ w1.heap.size := hb1.size
  by_cases hG0 : G.length = 0
  · obtain ⟨ad1, cap1, rfl⟩ := ho1.form
    clear ho1 hks1 hb1
    have hGz : (G.length : Int) = 0 := by omega
    have HC1 : Hid (CellsOn w1 (Btw w.heap.size w1.heap.size) G (.slice ad1 0 cap1)) := by
      have h : CellsOn w1 (Btw w.heap.size w1.heap.size) G (.slice ad1 G.length cap1) := (HO1.out.own fun _ h _ => h).onS fun k hk hk2 => ⟨by rw [List.mem_range'_1] at hk; exact hk.1, hk2⟩
      rw [hG0] at h
      exact h
    go_wp2_with fail
    go_ret
    exact mutD_of HC1.out rfl HR1.out (by omega) HB1.out
  obtain ⟨b0, cap1, rfl, hcap1, hcap2, -, hlo0, -, -⟩ := row_slice hks1.1 (by omega) (by omega)
  obtain ⟨KV, hrk⟩ := rowK_of ho1 hks1
  have HRK1 := mkHid hrk
  unfold maxLen at hcap2
  have hGi : ¬ (G.length : Int) = 0 := by omega
  have hGb : ((G.length : Int) == 0) = false := by simpa using hGi
  clear ho1 hks1 hb1 hrk
  go_wp2_with fail
  refine (pick_calls (G.length : Int) _ b p HR1.out (by omega) (by omega)).mono ?_
  rintro e w2 ⟨x, rfl, h0, h1, -, hr2, hb2⟩
  obtain ⟨k, rfl⟩ := Int.eq_ofNat_of_zero_le h0
  have hk : k < G.length := by have := h1 (by omega); omega
  have HR2 := mkHid hr2
  have HB2 : Hid (But b w w2) := HB1.out.trans hb2
  have HRK2 := mkHid (HRK1.out.but hb2 hbw)
  have hs2 : w.heap.size ≤ w2.heap.size := Nat.le_trans hs1 hb2.size
  clear h0 h1 hr2 hb2
  go_wp2_with fail
  refine (pick_calls 24 _ b (p + 1) HR2.out (by omega) (by omega)).mono ?_
  rintro e w3 ⟨z, rfl, -, -, -, hr3, hb3⟩
  have HR3 := mkHid hr3
  have HB3 : Hid (But b w w3) := HB2.out.trans hb3
  have HRK3 := mkHid (HRK2.out.but hb3 hbw)
  have hs3 : w.heap.size ≤ w3.heap.size := Nat.le_trans hs2 hb3.size
  clear hr3 hb3
  by_cases z0 : z = 0
  · subst z0
    go_wp2_with fail
    refine (num_calls [0, 12, 1, 11, 2] (.slice (some ⟨w3.heap.size, 0, none⟩) 5 5) _ b (p + 1 + 1) (HR3.out.next (box_below _ _)) (by omega) (ints_at w3 w3.heap.size rfl b [0, 12, 1, 11, 2] #[.int .i64 0, .int .i64 12, .int .i64 1, .int .i64 11, .int .i64 2] (by omega) rfl (ints_gen [0, 12, 1, 11, 2])) (by simp) (by simp)).mono ?_
    rintro e w4 ⟨y, rfl, hy, hr4, hb4⟩
    have hbb : But b w3 w4 := (But.of_below (box_below _ _)).trans hb4
    have HY := mkHid (rows_i64 hy (by decide))
    have HR4 := mkHid hr4
    have HB4 : Hid (But b w w4) := HB3.out.trans hbb
    have HRK4 := mkHid (HRK3.out.but hbb hbw)
    obtain ⟨c0, c1, c2, cf⟩ := HRK4.out.cell k hk
    have cf0 := cf (k * 3)
    clear hy hr4 hb4 hbb
    go_wp2_with fail
    go_ret
    exact mutD_of (HRK4.out.setOp k hk y HY.out) List.length_set (HR4.out.setCell (by show b < b0; omega) _) (by omega) (HB4.out.setNew (by exact hlo0) _)
  by_cases z1 : z = 1
  · subst z1
    go_wp2_with fail
    refine (num_calls [1000, (-1), 5, 9] (.slice (some ⟨w3.heap.size, 0, none⟩) 4 4) _ b (p + 1 + 1) (HR3.out.next (box_below _ _)) (by omega) (ints_at w3 w3.heap.size rfl b [1000, (-1), 5, 9] #[.int .i64 1000, .int .i64 (-1), .int .i64 5, .int .i64 9] (by omega) rfl (ints_gen [1000, (-1), 5, 9])) (by simp) (by simp)).mono ?_
    rintro e w4 ⟨y, rfl, hy, hr4, hb4⟩
    have hbb : But b w3 w4 := (But.of_below (box_below _ _)).trans hb4
    have HY := mkHid (rows_i64 hy (by decide))
    have HR4 := mkHid hr4
    have HB4 : Hid (But b w w4) := HB3.out.trans hbb
    have HRK4 := mkHid (HRK3.out.but hbb hbw)
    obtain ⟨c0, c1, c2, cf⟩ := HRK4.out.cell k hk
    have cf1 := cf (k * 3 + 1)
    clear hy hr4 hb4 hbb
    go_wp2_with fail
    go_ret
    exact mutD_of (HRK4.out.setNum k hk y HY.out) List.length_set (HR4.out.setCell (by show b < b0; omega) _) (by omega) (HB4.out.setNew (by exact hlo0) _)
  by_cases z2 : z = 2
  · subst z2
    obtain ⟨c0, c1, c2, cf⟩ := HRK3.out.cell k hk
    obtain ⟨adk, capk, hkv⟩ := own_frm (HRK3.out.kid k hk)
    have HKV := mkHid hkv
    rw [hkv] at c2
    have hk3 := (by obtain ⟨defs, hg⟩ := HG.out; exact kid_small hg k hk : G[k].kids.length ≤ 3)
    obtain ⟨n, hn⟩ : ∃ n, n = G[k].kids.length := ⟨_, rfl⟩
    have HNN := mkHid hn
    rw [← hn] at c2 hk3 HKV
    obtain ⟨V, hV⟩ : ∃ V : World, V = (w3.alloc (.cells #[.int .i64 0, .int .i64 1, .int .i64 (-1)] 3)).drew := ⟨_, rfl⟩
    have HV : Hid ((w3.alloc (.cells #[.int .i64 0, .int .i64 1, .int .i64 (-1)] 3)).drew = V) := hV.symm
    have HC : Hid (Calls Try.prog 83 #[.pointer (some ⟨b, 0, none⟩), .slice (some ⟨w3.heap.size, 0, none⟩) 3 3] (w3.alloc (.cells #[.int .i64 0, .int .i64 1, .int .i64 (-1)] 3)).drew (Numbered [0, 1, (-1)] (w3.alloc (.cells #[.int .i64 0, .int .i64 1, .int .i64 (-1)] 3)).drew b (p + 1 + 1))) :=
      num_calls [0, 1, (-1)] (.slice (some ⟨w3.heap.size, 0, none⟩) 3 3) _ b (p + 1 + 1) ((HR3.out.next (box_below _ _)).drew) (by omega) (ints_at w3 w3.heap.size rfl b [0, 1, (-1)] #[.int .i64 0, .int .i64 1, .int .i64 (-1)] (by omega) rfl (ints_gen [0, 1, (-1)])) (by simp) (by simp)
    obtain ⟨iI, zI, hII⟩ := infoI1
    have HII := mkHid hII
    have x1 : w3.drew.cell? ⟨b0, k * 3 + 2, none⟩ = some (.slice adk n capk) := c2
    have x2 := old_cell c2 (.cells #[.int .i64 0, .int .i64 1, .int .i64 (-1)] 3)
    have x3 : (w3.alloc (.cells #[.int .i64 0, .int .i64 1, .int .i64 (-1)] 3)).drew.cell? ⟨b0, k * 3 + 2, none⟩ = some (.slice adk n capk) := x2
    have x4 : (w3.drew.alloc (.cells #[.int .i64 0, .int .i64 1, .int .i64 (-1)] 3)).cell? ⟨b0, k * 3 + 2, none⟩ = some (.slice adk n capk) := x2
    clear c0 c1 cf hkv hn hII hV
    go_wp2_with fail
    go_region_law (first
      | (go_simp; go_at_call 83; go_must (refine HC.out.mono ?_); go_must (rintro e w4 ⟨y, rfl, hy, hr4, hb4⟩); go_must (have hbb : But b w3 w4 := ((But.of_below (box_below _ _)).drew).trans hb4); go_must (have HY := mkHid (rows_i64 hy (by decide))); go_must (have HR4 := mkHid hr4); go_must (have HB4 : Hid (But b w w4) := HB3.out.trans hbb); go_must (have HRK4 := mkHid (HRK3.out.but hbb hbw)); go_must (have d2 := (HRK4.out.cell k hk).2.2.1); go_must (rw [HKV.out] at d2); go_must (have HRK5 := mkHid (HRK4.out.but (But.of_below (b := b) (box_below w4 (.cells #[.int .i64 y] 3))) hbw)); go_must (have HOW : Hid ((w4.alloc (.cells #[.int .i64 y] 3)).ownsRow w.heap.size 3 1 (.slice adk n capk) n (G[k].kids.map fun (a : Int) => Value.int .i64 a)) := (by have h := HRK5.out.kid k hk; rw [HKV.out, ← HNN.out] at h; exact h)); go_must (have HSZ : Hid (w.heap.size ≤ (w4.alloc (.cells #[.int .i64 y] 3)).heap.size) := (by rw [Hid, Deep.nblk_alloc]; have := HB4.out.size; omega)); go_must (have e2 := old_cell d2 (.cells #[.int .i64 y] 3)); clear hy hr4 hb4 hbb)
      | (refine step_append_where rfl (.tmp 45) (.tmp 49) 37 rfl w.heap.size 3 iI zI 1 8 Try.underlying37 HII.out.1 HII.out.2.1 HII.out.2.2.1 HII.out.2.2.2.1 HII.out.2.2.2.2 (by decide) (.slice adk n capk) n (G[k].kids.map fun (a : Int) => Value.int .i64 a) (by simp [Act.eval, Act.put]) HOW.out ⟨w4.heap.size, 0, none⟩ 1 1 [.int .i64 y] (by simp [Act.eval, Act.put]) rfl (newsi w4 y) (by simp [Value.oneCell']) (by unfold maxLen; omega) (by omega) HSZ.out (by omega) ?_; go_must (intro v5 w5 hown hg hw5); go_must (have hg2 : (w4.alloc (.cells #[.int .i64 y] 3)).grownBy w5 (KV k).ownBlock := (by rw [HKV.out]; exact hg)); go_must (have HP := mkHid (HRK5.out.push k hk y v5 (by rw [← HNN.out]; exact hown) hg2)); go_must (have hrow : ∀ q, (Value.slice adk n capk).ownBlock = some q → w.heap.size ≤ q := fun q hq => (own_some HOW.out q hq).1); go_must (have HR5 : Hid (RdOn w5 b (p + 1 + 1 + 1)) := rd_grown (HR4.out.next (box_below _ _)) hg fun q hq => (by have := hrow q hq; omega)); go_must (have HB5 : Hid (But b w w5) := but_grown (HB4.out.trans (But.of_below (box_below _ _))) hg hrow); go_must (have hb5 := HRK5.out.row1 k hk hg2); go_must (have g2 : w5.cell? ⟨b0, k * 3 + 2, none⟩ = some (.slice adk n capk) := (World.cell?_of_block (w := w4.alloc (.cells #[.int .i64 y] 3)) hb5).trans e2); go_must (have gf : w5.frozen? ⟨b0, k * 3 + 2, none⟩ = false := (by obtain ⟨C, hC, -⟩ := HRK5.out.blk; exact frz_of_blk (hb5.trans hC) _)); go_must (obtain ⟨ad5, cap5, rfl⟩ := own_frm hown); clear hown hg hw5 hg2 hrow hb5))
    all_goals
      go_wp2_with fail
      go_ret
      exact mutD_of HP.out List.length_set (HR5.out.setCell (by show b < b0; omega) _) (by omega) (HB5.out.setNew (by exact hlo0) _)
  by_cases z3 : z = 3
  · subst z3
    obtain ⟨c0, c1, c2, cf⟩ := HRK3.out.cell k hk
    have hk3 := (by obtain ⟨defs, hg⟩ := HG.out; exact kid_small hg k hk : G[k].kids.length ≤ 3)
    by_cases hn0 : G[k].kids.length = 0
    · obtain ⟨adk, capk, hkv⟩ := own_frm (HRK3.out.kid k hk)
      rw [hkv, hn0] at c2
      clear c0 c1 cf hkv hk3 hn0
      go_wp2_with fail
      go_ret
      exact mutD_of HRK3.out.cells rfl HR3.out (by omega) HB3.out
    · obtain ⟨kb, capk, hkv, hnc, hcm, hkf, hkl, hkl2, u0, hu0⟩ := row_slice (HRK3.out.kid k hk) (by omega) (by omega)
      have HKV := mkHid hkv
      have HFK : Hid (∀ W, But b w3 W → W.frozen? ⟨kb, 0, none⟩ = false ∧ ∃ u, W.cell? ⟨kb, 0, none⟩ = some u) := fun W hW => by
        have h := (HRK3.out.but hW hbw).kid k hk
        obtain ⟨kb2, capk2, hkv2, -, -, hkf2, -, -, hu2⟩ := row_slice h (by omega) (by omega)
        rw [hkv] at hkv2
        cases hkv2
        exact ⟨hkf2 0, hu2⟩
      rw [hkv] at c2
      obtain ⟨n, hn⟩ : ∃ n, n = G[k].kids.length := ⟨_, rfl⟩
      have HNN := mkHid hn
      rw [← hn] at c2 hk3 HKV hn0
      have hn1 : 0 < n := by omega
      have hn2 : (0 : Int) < (n : Int) := by omega
      have HC : Hid (Calls Try.prog 83 #[.pointer (some ⟨b, 0, none⟩), .slice (some ⟨w3.heap.size, 0, none⟩) 4 4] (w3.alloc (.cells #[.int .i64 0, .int .i64 (-1), .int .i64 400, .int .i64 1] 3)).drew (Numbered [0, (-1), 400, 1] (w3.alloc (.cells #[.int .i64 0, .int .i64 (-1), .int .i64 400, .int .i64 1] 3)).drew b (p + 1 + 1))) :=
        num_calls [0, (-1), 400, 1] (.slice (some ⟨w3.heap.size, 0, none⟩) 4 4) _ b (p + 1 + 1) ((HR3.out.next (box_below _ _)).drew) (by omega) (ints_at w3 w3.heap.size rfl b [0, (-1), 400, 1] #[.int .i64 0, .int .i64 (-1), .int .i64 400, .int .i64 1] (by omega) rfl (ints_gen [0, (-1), 400, 1])) (by simp) (by simp)
      have x1 : w3.drew.cell? ⟨b0, k * 3 + 2, none⟩ = some (.slice (some ⟨kb, 0, none⟩) n capk) := c2
      have x2 := old_cell c2 (.cells #[.int .i64 0, .int .i64 (-1), .int .i64 400, .int .i64 1] 3)
      have x3 : (w3.alloc (.cells #[.int .i64 0, .int .i64 (-1), .int .i64 400, .int .i64 1] 3)).drew.cell? ⟨b0, k * 3 + 2, none⟩ = some (.slice (some ⟨kb, 0, none⟩) n capk) := x2
      have x4 : (w3.drew.alloc (.cells #[.int .i64 0, .int .i64 (-1), .int .i64 400, .int .i64 1] 3)).cell? ⟨b0, k * 3 + 2, none⟩ = some (.slice (some ⟨kb, 0, none⟩) n capk) := x2
      clear c0 c1 cf hkv hn hkf hu0
      go_wp2_with fail
      go_region_with ((go_at_call 83; go_must (refine HC.out.mono ?_); go_must (rintro e w4 ⟨y, rfl, hy, hr4, hb4⟩); go_must (have hbb : But b w3 w4 := ((But.of_below (box_below _ _)).drew).trans hb4); go_must (have HY := mkHid (rows_i64 hy (by decide))); go_must (have HR4 := mkHid hr4); go_must (have HB4 : Hid (But b w w4) := HB3.out.trans hbb); go_must (have HRK4 := mkHid (HRK3.out.but hbb hbw)); go_must (have d2 := (HRK4.out.cell k hk).2.2.1); go_must (rw [HKV.out] at d2); go_must (obtain ⟨df, u4, du⟩ := HFK.out w4 hbb); clear hy hr4 hb4 hbb))
      all_goals
        go_wp2_with fail
        go_ret
        exact mutD_of (HRK4.out.setKid k hk (by rw [← HNN.out]; exact HKV.out) y) List.length_set (HR4.out.setCell (by show b < kb; omega) _) (by omega) (HB4.out.setNew (by exact hkl) _)
  by_cases z4 : z = 4
  · subst z4
    obtain ⟨c0, c1, c2, cf⟩ := HRK3.out.cell k hk
    have HN := mkHid (HRK3.out.setAll k hk hs3)
    have d0 := old_cell c0 (.cells #[.int .i64 (k : Int)] 3)
    have d1 := old_cell c1 (.cells #[.int .i64 (k : Int)] 3)
    have d2 := old_cell c2 (.cells #[.int .i64 (k : Int)] 3)
    have hrk4 := (HRK3.out.but (But.of_below (b := b) (box_below w3 (.cells #[.int .i64 (k : Int)] 3))) hbw).cell k hk
    have df0 := hrk4.2.2.2 (k * 3)
    have df1 := hrk4.2.2.2 (k * 3 + 1)
    have df2 := hrk4.2.2.2 (k * 3 + 2)
    clear c0 c1 c2 cf hrk4
    go_wp2_with fail
    go_ret
    exact mutD_of HN.out List.length_set (((HR3.out.next (box_below _ _)).setCell (by show b < b0; omega) _ |>.setCell (by show b < b0; omega) _).setCell (by show b < b0; omega) _) (by omega) ((((HB3.out.trans (But.of_below (box_below _ _))).setNew (by exact hlo0) _).setNew (by exact hlo0) _).setNew (by exact hlo0) _)
  · have e0 : (z == 0) = false := by simpa using z0
    have e1 : (z == 1) = false := by simpa using z1
    have e2 : (z == 2) = false := by simpa using z2
    have e3 : (z == 3) = false := by simpa using z3
    have e4 : (z == 4) = false := by simpa using z4
    clear z0 z1 z2 z3 z4
    go_wp2_with fail
    go_ret
    exact mutD_of HRK3.out.cells rfl HR3.out (by omega) HB3.out
end Go.Proofs.Ytglpehelmlehiaa
/-
  THE MODEL's l5Case: a graph that may not be valid, and roots.
-/
namespace Go.Proofs.Ytglpehelmlehiaa
set_option linter.unusedVariables false
set_option linter.unusedSimpArgs false
open Go.RowKit

/-- a graph and roots were drawn out of bytes -/
def CaseR (w : World) (e : Ending) (w' : World) : Prop :=
  ∃ G gv X xv, e = .returned (.tuple #[gv, xv]) ∧ G.length ≤ 400 ∧ 1 ≤ X.length ∧ X.length ≤ 4 ∧ (∀ x ∈ X, I64 x) ∧ CellsOn w' (Btw w.heap.size w'.heap.size) G gv ∧ IntsOn w' (Btw w.heap.size w'.heap.size) X xv ∧ Below w.heap.size w w'
/-- roots so far -/
abbrev rootsV (X : List Int) : List Value := X.map fun (a : Int) => Value.int .i64 a
theorem own_but {w w' : World} {b lo T s n : Nat} {v : Value} {xs : List Value} (h : w.ownsRow lo T s v n xs) (hb : But b w w') (hl : b < lo) : w'.ownsRow lo T s v n xs :=
  own_kept h fun k hk hk2 => hb.block k hk2 (by have := (own_some h k hk).1; omega)
theorem roots_push {w' : World} {lo : Nat} {X : List Int} {y : Int} {v' : Value} (hown : w'.ownsRow lo 3 1 v' (X.length + 1) (rootsV X ++ [.int .i64 y])) : w'.ownsRow lo 3 1 v' (X ++ [y]).length (rootsV (X ++ [y])) := by
  unfold rootsV at hown ⊢
  rw [List.map_append, List.length_append]
  exact hown
theorem ints_but {w w' : World} {b lo hi : Nat} {X : List Int} {v : Value} (h : IntsOn w (Btw lo hi) X v) (hb : But b w w') (hl : b < lo) (hh : hi ≤ w.heap.size) : IntsOn w' (Btw lo hi) X v :=
  h.mono (fun _ hk => hk) fun k hk => hb.block k (by have := hk.2; omega) (by have := hk.1; omega)
theorem one_row (w : World) (x : Int) : (w.alloc (.cells #[.int .i64 x] 3)).ownsRow w.heap.size 3 1 (.slice (some ⟨w.heap.size, 0, none⟩) 1 1) 1 (rootsV [x]) :=
  ⟨rfl, Or.inr ⟨w.heap.size, 1, #[.int .i64 x], rfl, Nat.le_refl _, Deep.blk_alloc_new _ _, Nat.le_refl _, by simp [maxLen], rfl, rfl⟩⟩

set_option maxRecDepth 100000 in
set_option maxHeartbeats 1600000 in
theorem l5Case_calls (len : Nat) (v : Value) (w : World) (h : BytesOn w (Lt w.heap.size) len v) : Calls Try.prog 62 #[v] w (CaseR w) := by
  have H := mkHid h
  obtain ⟨ad, cap, rfl, -, -, -⟩ := h
  go_enter Try.func62, Try.ntmps62
  go_wp2_with fail
  refine (open_calls len _ w H.out).mono ?_
  rintro e w1 ⟨rfl, hr1, hb1⟩
  have HB1 := mkHid hb1
  obtain ⟨b, hbd⟩ : ∃ b, b = w.heap.size := ⟨_, rfl⟩
  have HBD := mkHid hbd
  rw [← hbd] at hr1 ⊢
  have hlt1 := hr1.lt
  have HR1 := mkHid hr1
  clear hb1 hbd hr1
  go_wp2_with fail
  refine (l5Run_calls w1 b 0 HR1.out (by omega)).mono ?_
  rintro e w2 ⟨ds, G, r, pv, gv, p', rfl, -, hgb, hr, hd2, ho2, hr2, hp2, hb2⟩
  have HG := mkHid hgb
  have hl2 : G.length ≤ 400 := graphB_len hgb
  have HB2 : Hid (Below w.heap.size w w2) := HB1.out.trans (hb2.below (by rw [HBD.out]; exact Nat.le_refl _) HB1.out.size)
  have HO2 := mkHid ho2
  have HR2 := mkHid hr2
  have hs2 : w1.heap.size ≤ w2.heap.size := hb2.size
  have hg0 : (0 : Int) < (G.length : Int) := by omega
  obtain ⟨adp, capp, rfl, -, -, -⟩ := hd2
  obtain ⟨adg, capg, rfl⟩ := ho2.form
  clear hgb ho2 hr2 hb2
  go_wp2_with fail
  refine (pick_calls 3 _ b p' (HR2.out.next (box_below _ _)) (by omega) (by decide)).mono ?_
  rintro e w4 ⟨x, rfl, h0, h1, -, hr4, hb4⟩
  obtain ⟨i0, rfl⟩ := Int.eq_ofNat_of_zero_le h0
  have hi0 : i0 ≤ 2 := by have := h1 (by omega); omega
  have HW4 : Hid (But b w2 w4) := (But.of_below (box_below _ _)).trans hb4
  have HX4 : Hid (w4.ownsRow w2.heap.size 3 1 (.slice (some ⟨w2.heap.size, 0, none⟩) 1 1) [(r : Int)].length (rootsV [(r : Int)])) := own_but (one_row w2 (r : Int)) hb4 (by omega)
  have HR4 := mkHid hr4
  obtain ⟨iI, zI, hII⟩ := infoI1
  have HII := mkHid hII
  clear h0 h1 hr4 hb4 hII
  go_wp2_with fail
  go_loopw [8, 9] (fun xv iv wr => ∃ (X : List Int) (i q : Nat), iv = .int .i64 (i : Int) ∧ 1 ≤ X.length ∧ X.length + i ≤ 3 ∧ q + i ≤ p' + 10 ∧ Hid (∀ x ∈ X, I64 x) ∧ Hid (wr.ownsRow w2.heap.size 3 1 xv X.length (rootsV X)) ∧ Hid (RdOn wr b q) ∧ Hid (But b w2 wr)) (fun _ iv _ => (intOf iv).toNat)
  case atStart => exact ⟨[(r : Int)], i0, p' + 1, rfl, by simp, by simp; omega, by omega, fun x hx => by (simp at hx; subst hx; unfold I64; omega), HX4.out, HR4.out, HW4.out⟩
  case round =>
    obtain ⟨X, i, q, rfl, hx1, hx3, hq, HXI, HX, HRr, HW⟩ := hrel
    obtain ⟨adx, capx, rfl⟩ := own_frm HX.out
    have hsw : w2.heap.size ≤ wr.heap.size := HW.out.size
    by_cases hi : i = 0
    · subst hi
      go_wp2_with fail
      refine (pick_calls 16 _ b q HRr.out (by omega) (by decide)).mono ?_
      rintro e w5 ⟨y, rfl, -, -, -, hr5, hb5⟩
      have HX5 := mkHid (own_but HX.out hb5 (by omega))
      have HR5 := mkHid hr5
      have HW5 : Hid (But b w2 w5) := HW.out.trans hb5
      have hs5 : w2.heap.size ≤ w5.heap.size := HW5.out.size
      clear hr5 hb5
      by_cases hy : y = 0
      · subst hy
        go_wp2_with fail
        refine (num_calls [(-1), 400] (.slice (some ⟨w5.heap.size, 0, none⟩) 2 2) _ b (q + 1) (HR5.out.next (box_below _ _)) (by omega) (ints_at w5 w5.heap.size rfl b [(-1), 400] #[.int .i64 (-1), .int .i64 400] (by omega) rfl (ints_gen [(-1), 400])) (by simp) (by simp)).mono ?_
        rintro e w6 ⟨z, rfl, hz, hr6, hb6⟩
        have hbb : But b w5 w6 := (But.of_below (box_below _ _)).trans hb6
        have HZ := mkHid (rows_i64 hz (by decide))
        have hbc : But b w5 (w6.alloc (.cells #[.int .i64 z] 3)) := hbb.trans (But.of_below (box_below _ _))
        have HX6 := mkHid (own_but HX5.out hbc (by omega))
        have HW6 := mkHid (HW5.out.trans hbc)
        have HR6 := mkHid (hr6.next (box_below w6 (.cells #[.int .i64 z] 3)))
        have HS6 : Hid (w2.heap.size ≤ (w6.alloc (.cells #[.int .i64 z] 3)).heap.size) := HW6.out.size
        clear hz hr6 hb6 hbb hbc
        go_wp2_with (at_builtin; go_must (refine wpList_append_where _ rfl _ _ 37 rfl w2.heap.size 3 iI zI 1 8 Try.underlying37 HII.out.1 HII.out.2.1 HII.out.2.2.1 HII.out.2.2.2.1 HII.out.2.2.2.2 (by decide) (.slice adx X.length capx) X.length (rootsV X) rfl HX6.out ⟨w6.heap.size, 0, none⟩ 1 1 [.int .i64 z] rfl rfl (newsi w6 z) (by simp [Value.oneCell']) (by unfold maxLen; omega) (by omega) HS6.out (by omega) ?_); go_must (intro v7 w7 hown hg7 hw7); go_must (have hrow : ∀ k, (Value.slice adx X.length capx).ownBlock = some k → w2.heap.size ≤ k := fun k hk => (own_some HX6.out k hk).1); go_must (have HX7 := mkHid (roots_push hown)); go_must (have HW7 : Hid (But b w2 w7) := but_grown HW6.out hg7 hrow); go_must (have HR7 := mkHid (rd_grown HR6.out hg7 fun k hk => by have := hrow k hk; omega)); go_must (obtain ⟨ad7, cap7, rfl⟩ := own_frm hown); clear hown hg7 hw7 hrow)
        have hs7 : w2.heap.size ≤ w7.heap.size := HW7.out.size
        have HO7 := mkHid (HO2.out.but HW7.out hlt1)
        have hXl : (X ++ [z]).length = X.length + 1 := by simp
        rw [hXl] at HX7
        refine (l3Mutate_calls G _ w7 b (q + 1 + 1) HR7.out (by omega) HO7.out.cinL ⟨_, HG.out⟩ hl2).mono ?_
        rintro e w8 ⟨G', gv', p8, rfl, hc8, hl8, hr8, hp8, hb8⟩
        have HB8 : Hid (Below w.heap.size w w8) := HB2.out.trans ((HW7.out.trans hb8).below (by rw [HBD.out]; exact Nat.le_refl _) HB2.out.size)
        have HC8 : Hid (CellsOn w8 (Btw w.heap.size w8.heap.size) G' gv') := hc8.mono (fun k hk => ⟨by have := hk.1; have := HB2.out.size; omega, hk.2⟩) fun _ _ => rfl
        have HXF : Hid (IntsOn w8 (Btw w.heap.size w8.heap.size) (X ++ [z]) (.slice ad7 (X.length + 1) cap7)) := by
          have h : IntsOn w7 (Btw w2.heap.size w7.heap.size) (X ++ [z]) (.slice ad7 (X.length + 1) cap7) := ints_own (by rw [hXl]; exact HX7.out)
          exact (ints_but h hb8 (by omega) (Nat.le_refl _)).mono (fun k hk => ⟨by have := hk.1; have := HB2.out.size; omega, by have := hk.2; have := hb8.size; omega⟩) fun _ _ => rfl
        have hl9 : G'.length ≤ 400 := by omega
        obtain ⟨ad8, cap8, rfl, -, -, -⟩ := id hc8
        clear hc8 hl8 hr8 hb8
        go_wp2_with fail
        exact bodyPost_ret (v := .tuple #[.slice ad8 G'.length cap8, .slice ad7 (X.length + 1) cap7]) (by simp [results, Try.results62, go_sem]) rfl ⟨G', _, X ++ [z], _, rfl, hl9, by simp, by simp; omega, fun x hx => by
          rw [List.mem_append, List.mem_singleton] at hx
          rcases hx with hx | rfl
          · exact HXI.out x hx
          · exact HZ.out, HC8.out, HXF.out, HB8.out⟩
      · have hyb : (y == 0) = false := by simpa using hy
        clear hy
        have HO5 := mkHid (HO2.out.but HW5.out hlt1)
        go_wp2_with fail
        refine (l3Mutate_calls G _ w5 b (q + 1) HR5.out (by omega) HO5.out.cinL ⟨_, HG.out⟩ hl2).mono ?_
        rintro e w8 ⟨G', gv', p8, rfl, hc8, hl8, hr8, hp8, hb8⟩
        have HB8 : Hid (Below w.heap.size w w8) := HB2.out.trans ((HW5.out.trans hb8).below (by rw [HBD.out]; exact Nat.le_refl _) HB2.out.size)
        have HC8 : Hid (CellsOn w8 (Btw w.heap.size w8.heap.size) G' gv') := hc8.mono (fun k hk => ⟨by have := hk.1; have := HB2.out.size; omega, hk.2⟩) fun _ _ => rfl
        have HXF : Hid (IntsOn w8 (Btw w.heap.size w8.heap.size) X (.slice adx X.length capx)) := by
          have h : IntsOn w5 (Btw w2.heap.size w5.heap.size) X (.slice adx X.length capx) := ints_own HX5.out
          exact (ints_but h hb8 (by omega) (Nat.le_refl _)).mono (fun k hk => ⟨by have := hk.1; have := HB2.out.size; omega, by have := hk.2; have := hb8.size; omega⟩) fun _ _ => rfl
        have hl9 : G'.length ≤ 400 := by omega
        obtain ⟨ad8, cap8, rfl, -, -, -⟩ := id hc8
        clear hc8 hl8 hr8 hb8
        go_wp2_with fail
        exact bodyPost_ret (v := .tuple #[.slice ad8 G'.length cap8, .slice adx X.length capx]) (by simp [results, Try.results62, go_sem]) rfl ⟨G', _, X, _, rfl, hl9, hx1, by omega, HXI.out, HC8.out, HXF.out, HB8.out⟩
    · obtain ⟨m, rfl⟩ : ∃ m, i = m + 1 := ⟨i - 1, by omega⟩
      go_wp2_with fail
      refine (pick_calls (G.length : Int) _ b q HRr.out (by omega) (by omega)).mono ?_
      rintro e w6 ⟨z, rfl, h0, h1, -, hr6, hb6⟩
      have HZ : Hid (I64 z) := by have := h1 (by omega); unfold Hid I64; omega
      have hbc : But b wr (w6.alloc (.cells #[.int .i64 z] 3)) := hb6.trans (But.of_below (box_below _ _))
      have HX6 := mkHid (own_but HX.out hbc (by omega))
      have HW6 := mkHid (HW.out.trans hbc)
      have HR6 := mkHid (hr6.next (box_below w6 (.cells #[.int .i64 z] 3)))
      have HS6 : Hid (w2.heap.size ≤ (w6.alloc (.cells #[.int .i64 z] 3)).heap.size) := HW6.out.size
      clear h0 h1 hr6 hb6 hbc
      go_wp2_with (at_builtin; go_must (refine wpList_append_where _ rfl _ _ 37 rfl w2.heap.size 3 iI zI 1 8 Try.underlying37 HII.out.1 HII.out.2.1 HII.out.2.2.1 HII.out.2.2.2.1 HII.out.2.2.2.2 (by decide) (.slice adx X.length capx) X.length (rootsV X) rfl HX6.out ⟨w6.heap.size, 0, none⟩ 1 1 [.int .i64 z] rfl rfl (newsi w6 z) (by simp [Value.oneCell']) (by unfold maxLen; omega) (by omega) HS6.out (by omega) ?_); go_must (intro v7 w7 hown hg7 hw7); go_must (have hrow : ∀ k, (Value.slice adx X.length capx).ownBlock = some k → w2.heap.size ≤ k := fun k hk => (own_some HX6.out k hk).1); go_must (have HX7 := mkHid (roots_push hown)); go_must (have HW7 : Hid (But b w2 w7) := but_grown HW6.out hg7 hrow); go_must (have HR7 := mkHid (rd_grown HR6.out hg7 fun k hk => by have := hrow k hk; omega)); go_must (obtain ⟨ad7, cap7, rfl⟩ := own_frm hown); clear hown hg7 hw7 hrow)
      go_roundw
      case rel => exact ⟨X ++ [z], m, q + 1, by go_num, by simp, by simp; omega, by omega, fun x hx => by
          rw [List.mem_append, List.mem_singleton] at hx
          rcases hx with hx | rfl
          · exact HXI.out x hx
          · exact HZ.out, HX7.out, HR7.out, HW7.out⟩
      case measure => simp [intOf] <;> omega
end Go.Proofs.Ytglpehelmlehiaa
/-
  THE MODEL's draws that are l5Case and nothing else.
-/
namespace Go.Proofs.Ytglpehelmlehiaa
set_option linter.unusedVariables false
set_option linter.unusedSimpArgs false
open Go.RowKit
theorem drawLiveCells_calls (len : Nat) (v : Value) (w : World) (h : BytesOn w (Lt w.heap.size) len v) : Calls Try.prog 26 #[v] w (CaseR w) := by
  have H := mkHid h
  obtain ⟨ad, cap, rfl, -, -, -⟩ := h
  go_enter Try.func26, Try.ntmps26
  go_wp2_with fail
  refine (l5Case_calls len _ w H.out).mono ?_
  rintro e w1 ⟨G, gv, X, xv, rfl, hl, hx1, hx4, hxi, hc, hx, hb⟩
  have HD := mkHid (And.intro hl (And.intro hx1 (And.intro hx4 (And.intro hxi (And.intro hc (And.intro hx hb))))))
  obtain ⟨adg, capg, rfl, -, -, -⟩ := hc
  obtain ⟨adx, capx, rfl, -, -, -⟩ := hx
  clear hb hl hx1 hx4 hxi
  go_wp2_with fail
  exact bodyPost_ret (v := .tuple #[.slice adg G.length capg, .slice adx X.length capx]) (by simp [results, Try.results26, go_sem]) rfl ⟨G, _, X, _, rfl, HD.out.1, HD.out.2.1, HD.out.2.2.1, HD.out.2.2.2.1, HD.out.2.2.2.2.1, HD.out.2.2.2.2.2.1, HD.out.2.2.2.2.2.2⟩
theorem drawCopyOrder_calls (len : Nat) (v : Value) (w : World) (h : BytesOn w (Lt w.heap.size) len v) : Calls Try.prog 21 #[v] w (CaseR w) := by
  have H := mkHid h
  obtain ⟨ad, cap, rfl, -, -, -⟩ := h
  go_enter Try.func21, Try.ntmps21
  go_wp2_with fail
  refine (l5Case_calls len _ w H.out).mono ?_
  rintro e w1 ⟨G, gv, X, xv, rfl, hl, hx1, hx4, hxi, hc, hx, hb⟩
  have HD := mkHid (And.intro hl (And.intro hx1 (And.intro hx4 (And.intro hxi (And.intro hc (And.intro hx hb))))))
  obtain ⟨adg, capg, rfl, -, -, -⟩ := hc
  obtain ⟨adx, capx, rfl, -, -, -⟩ := hx
  clear hb hl hx1 hx4 hxi
  go_wp2_with fail
  exact bodyPost_ret (v := .tuple #[.slice adg G.length capg, .slice adx X.length capx]) (by simp [results, Try.results21, go_sem]) rfl ⟨G, _, X, _, rfl, HD.out.1, HD.out.2.1, HD.out.2.2.1, HD.out.2.2.2.1, HD.out.2.2.2.2.1, HD.out.2.2.2.2.2.1, HD.out.2.2.2.2.2.2⟩
theorem drawCollectGraph_calls (len : Nat) (v : Value) (w : World) (h : BytesOn w (Lt w.heap.size) len v) : Calls Try.prog 30 #[v] w (CaseR w) := by
  have H := mkHid h
  obtain ⟨ad, cap, rfl, -, -, -⟩ := h
  go_enter Try.func30, Try.ntmps30
  go_wp2_with fail
  refine (l5Case_calls len _ w H.out).mono ?_
  rintro e w1 ⟨G, gv, X, xv, rfl, hl, hx1, hx4, hxi, hc, hx, hb⟩
  have HD := mkHid (And.intro hl (And.intro hx1 (And.intro hx4 (And.intro hxi (And.intro hc (And.intro hx hb))))))
  obtain ⟨adg, capg, rfl, -, -, -⟩ := hc
  obtain ⟨adx, capx, rfl, -, -, -⟩ := hx
  clear hb hl hx1 hx4 hxi
  go_wp2_with fail
  exact bodyPost_ret (v := .tuple #[.slice adg G.length capg, .slice adx X.length capx]) (by simp [results, Try.results30, go_sem]) rfl ⟨G, _, X, _, rfl, HD.out.1, HD.out.2.1, HD.out.2.2.1, HD.out.2.2.2.1, HD.out.2.2.2.2.1, HD.out.2.2.2.2.2.1, HD.out.2.2.2.2.2.2⟩
theorem drawCopyGraph_calls (len : Nat) (v : Value) (w : World) (h : BytesOn w (Lt w.heap.size) len v) : Calls Try.prog 38 #[v] w (CaseR w) := by
  have H := mkHid h
  obtain ⟨ad, cap, rfl, -, -, -⟩ := h
  go_enter Try.func38, Try.ntmps38
  go_wp2_with fail
  refine (l5Case_calls len _ w H.out).mono ?_
  rintro e w1 ⟨G, gv, X, xv, rfl, hl, hx1, hx4, hxi, hc, hx, hb⟩
  have HD := mkHid (And.intro hl (And.intro hx1 (And.intro hx4 (And.intro hxi (And.intro hc (And.intro hx hb))))))
  obtain ⟨adg, capg, rfl, -, -, -⟩ := hc
  obtain ⟨adx, capx, rfl, -, -, -⟩ := hx
  clear hb hl hx1 hx4 hxi
  go_wp2_with fail
  exact bodyPost_ret (v := .tuple #[.slice adg G.length capg, .slice adx X.length capx]) (by simp [results, Try.results38, go_sem]) rfl ⟨G, _, X, _, rfl, HD.out.1, HD.out.2.1, HD.out.2.2.1, HD.out.2.2.2.1, HD.out.2.2.2.2.1, HD.out.2.2.2.2.2.1, HD.out.2.2.2.2.2.2⟩
theorem drawTidyGraph_calls (len : Nat) (v : Value) (w : World) (h : BytesOn w (Lt w.heap.size) len v) : Calls Try.prog 45 #[v] w (CaseR w) := by
  have H := mkHid h
  obtain ⟨ad, cap, rfl, -, -, -⟩ := h
  go_enter Try.func45, Try.ntmps45
  go_wp2_with fail
  refine (l5Case_calls len _ w H.out).mono ?_
  rintro e w1 ⟨G, gv, X, xv, rfl, hl, hx1, hx4, hxi, hc, hx, hb⟩
  have HD := mkHid (And.intro hl (And.intro hx1 (And.intro hx4 (And.intro hxi (And.intro hc (And.intro hx hb))))))
  obtain ⟨adg, capg, rfl, -, -, -⟩ := hc
  obtain ⟨adx, capx, rfl, -, -, -⟩ := hx
  clear hb hl hx1 hx4 hxi
  go_wp2_with fail
  exact bodyPost_ret (v := .tuple #[.slice adg G.length capg, .slice adx X.length capx]) (by simp [results, Try.results45, go_sem]) rfl ⟨G, _, X, _, rfl, HD.out.1, HD.out.2.1, HD.out.2.2.1, HD.out.2.2.2.1, HD.out.2.2.2.2.1, HD.out.2.2.2.2.2.1, HD.out.2.2.2.2.2.2⟩
end Go.Proofs.Ytglpehelmlehiaa
/-
  PLAIN: the order in which cells are copied, their new places, and the copy. No program is named here.
-/
namespace Go.Proofs.Ytglpehelmlehiaa
set_option linter.unusedVariables false
set_option linter.unusedSimpArgs false

/-- the place of a number in a list, or its length -/
def posN : List Nat → Nat → Nat
  | [], _ => 0
  | a :: l, x => if a = x then 0 else posN l x + 1
theorem posN_lt : ∀ (l : List Nat) (x : Nat), x ∈ l → posN l x < l.length
  | [], _, h => by simp at h
  | a :: l, x, h => by
    unfold posN
    split
    · simp
    · rename_i hne
      have : x ∈ l := by rcases List.mem_cons.1 h with rfl | h; exact absurd rfl hne; exact h
      have := posN_lt l x this
      simp; omega
theorem posN_app : ∀ (l m : List Nat) (x : Nat), x ∈ l → posN (l ++ m) x = posN l x
  | [], _, _, h => by simp at h
  | a :: l, m, x, h => by
    simp only [List.cons_append, posN]
    split
    · rfl
    · rename_i hne
      have : x ∈ l := by rcases List.mem_cons.1 h with rfl | h; exact absurd rfl hne; exact h
      rw [posN_app l m x this]
theorem posN_out : ∀ (l : List Nat) (x : Nat), x ∉ l → posN l x = l.length
  | [], _, _ => rfl
  | a :: l, x, h => by
    simp only [List.mem_cons, not_or] at h
    unfold posN
    rw [if_neg (fun e => h.1 e.symm), posN_out l x h.2]; rfl
theorem posN_snoc (l : List Nat) (x : Nat) (h : x ∉ l) : posN (l ++ [x]) x = l.length := by
  induction l with
  | nil => simp [posN]
  | cons a l ih =>
    simp only [List.mem_cons, not_or] at h
    simp only [List.cons_append, posN]
    rw [if_neg (fun e => h.1 e.symm), ih h.2]; rfl
theorem get_posN : ∀ (l : List Nat) (x : Nat), x ∈ l → l[posN l x]? = some x
  | [], _, h => by simp at h
  | a :: l, x, h => by
    unfold posN
    split
    · rename_i e; simp [e]
    · rename_i hne
      have : x ∈ l := by rcases List.mem_cons.1 h with rfl | h; exact absurd rfl hne; exact h
      simpa using get_posN l x this
theorem posN_at : ∀ (l : List Nat) (i : Nat) (h : i < l.length), l.Nodup → posN l l[i] = i
  | [], _, h, _ => by simp at h
  | a :: l, 0, _, _ => by simp [posN]
  | a :: l, i + 1, h, hn => by
    rw [List.nodup_cons] at hn
    simp only [List.length_cons] at h
    simp only [List.getElem_cons_succ, posN]
    rw [if_neg (by intro e; exact hn.1 (by rw [e]; exact List.getElem_mem _)), posN_at l i (by omega) hn.2]
theorem posN_pre {l m : List Nat} (h : l <+: m) {x : Nat} (hx : x ∈ l) : posN m x = posN l x := by
  obtain ⟨t, rfl⟩ := h; exact posN_app l t x hx

/-- a list of different numbers below n is no longer than n -/
theorem nodup_len {n : Nat} {l : List Nat} (hn : l.Nodup) (hl : ∀ x ∈ l, x < n) : l.length ≤ n :=
  pigeon n l.length (fun i => l.getD i 0) (fun i hi => by rw [getD_at _ _ _ hi]; exact hl _ (List.getElem_mem hi)) (fun i j hi hj e => by
    simp only [getD_at _ _ _ hi, getD_at _ _ _ hj] at e
    rw [← posN_at l i hi hn, ← posN_at l j hj hn, e])

/-- one more cell, if it is not there yet -/
def visit (out : List Nat) (x : Nat) : List Nat := if x ∈ out then out else out ++ [x]
def visitL (out : List Nat) (l : List Nat) : List Nat := l.foldl visit out
theorem visit_in {out : List Nat} {x : Nat} (h : x ∈ out) : visit out x = out := by unfold visit; rw [if_pos h]
theorem visit_new {out : List Nat} {x : Nat} (h : x ∉ out) : visit out x = out ++ [x] := by unfold visit; rw [if_neg h]
theorem visit_pre (out : List Nat) (x : Nat) : out <+: visit out x := by
  unfold visit; split
  · exact List.prefix_refl _
  · exact List.prefix_append _ _
theorem visit_mem (out : List Nat) (x : Nat) : x ∈ visit out x := by
  unfold visit; split
  · assumption
  · simp
theorem visit_of {out : List Nat} {x y : Nat} (h : y ∈ visit out x) : y ∈ out ∨ y = x := by
  unfold visit at h; split at h
  · exact Or.inl h
  · simpa using h
theorem visit_nodup {out : List Nat} {x : Nat} (h : out.Nodup) : (visit out x).Nodup := by
  unfold visit; split
  · exact h
  · rename_i hx
    rw [List.nodup_append]
    exact ⟨h, by simp, by intro a ha b hb; simp only [List.mem_singleton] at hb; subst hb; intro e; exact hx (e ▸ ha)⟩
theorem visitL_nil (out : List Nat) : visitL out [] = out := rfl
theorem visitL_cons (out : List Nat) (x : Nat) (l : List Nat) : visitL out (x :: l) = visitL (visit out x) l := rfl
theorem visitL_snoc (out : List Nat) (l : List Nat) (x : Nat) : visitL out (l ++ [x]) = visit (visitL out l) x := by unfold visitL; rw [List.foldl_append]; rfl
theorem visitL_pre : ∀ (l out : List Nat), out <+: visitL out l
  | [], _ => List.prefix_refl _
  | x :: l, out => (visit_pre out x).trans (visitL_pre l _)
theorem visitL_mem : ∀ (l out : List Nat) (x : Nat), x ∈ l → x ∈ visitL out l
  | [], _, _, h => by simp at h
  | y :: l, out, x, h => by
    rcases List.mem_cons.1 h with rfl | h
    · exact (visitL_pre l _).subset (visit_mem out x)
    · exact visitL_mem l _ x h
theorem visitL_of : ∀ (l out : List Nat) (y : Nat), y ∈ visitL out l → y ∈ out ∨ y ∈ l
  | [], _, _, h => Or.inl h
  | x :: l, out, y, h => by
    rcases visitL_of l _ y h with h | h
    · rcases visit_of h with h | rfl
      · exact Or.inl h
      · exact Or.inr (List.mem_cons_self ..)
    · exact Or.inr (List.mem_cons_of_mem _ h)
theorem visitL_nodup : ∀ (l out : List Nat), out.Nodup → (visitL out l).Nodup
  | [], _, h => h
  | x :: l, out, h => visitL_nodup l _ (visit_nodup h)
theorem visitL_take (out l : List Nat) (i : Nat) (h : i < l.length) : visitL out (l.take (i + 1)) = visit (visitL out (l.take i)) l[i] := by
  rw [List.take_succ_eq_append_getElem h, visitL_snoc]

/-! ### The order -/
def ordN (g : List Ce) : Nat → Nat → List Nat → List Nat
  | 0, _, out => out
  | n + 1, i, out => if i < out.length then ordN g n (i + 1) (visitL out (kidsN g (out.getD i 0))) else out
def orderG (g : List Ce) (roots : List Nat) : List Nat := ordN g (g.length + 1) 0 (visitL [] roots)
/-- what holds when the operands of the first i cells have been copied -/
structure OrdRel (g : List Ce) (roots : List Nat) (i : Nat) (out : List Nat) : Prop where
  eq : ordN g (g.length + 1 - i) i out = orderG g roots
  le : i ≤ out.length
  nd : out.Nodup
  lt : ∀ x ∈ out, x < g.length
  rt : ∀ x ∈ roots, x ∈ out
  cl : ∀ j (hj : j < i), ∀ k ∈ kidsN g (out.getD j 0), k ∈ out
theorem OrdRel.len {g : List Ce} {roots : List Nat} {i : Nat} {out : List Nat} (h : OrdRel g roots i out) : out.length ≤ g.length := nodup_len h.nd h.lt
theorem OrdRel.start {g : List Ce} {roots : List Nat} (hr : ∀ x ∈ roots, x < g.length) : OrdRel g roots 0 (visitL [] roots) where
  eq := rfl
  le := Nat.zero_le _
  nd := visitL_nodup _ _ (by simp)
  lt := fun x hx => by rcases visitL_of _ _ _ hx with h | h; simp at h; exact hr x h
  rt := fun x hx => visitL_mem _ _ _ hx
  cl := fun j hj => absurd hj (by omega)
theorem getD_pre {l m : List Nat} (h : l <+: m) {j : Nat} (hj : j < l.length) : m.getD j 0 = l.getD j 0 := by
  obtain ⟨t, rfl⟩ := h
  rw [List.getD_eq_getElem?_getD, List.getD_eq_getElem?_getD, List.getElem?_append_left hj]
theorem OrdRel.step {g : List Ce} {defs : Int} {roots : List Nat} {i : Nat} {out : List Nat} (hg : graphB g defs = true) (h : OrdRel g roots i out) (hi : i < out.length) : OrdRel g roots (i + 1) (visitL out (kidsN g (out.getD i 0))) := by
  have hlen := h.len
  have hp := visitL_pre (kidsN g (out.getD i 0)) out
  have hx : out.getD i 0 < g.length := by rw [getD_at _ _ _ hi]; exact h.lt _ (List.getElem_mem hi)
  refine ⟨?_, Nat.le_trans hi hp.length_le, visitL_nodup _ _ h.nd, fun x hx2 => ?_, fun x hx2 => hp.subset (h.rt x hx2), fun j hj k hk => ?_⟩
  · rw [← h.eq, show g.length + 1 - i = (g.length + 1 - (i + 1)) + 1 by omega]
    conv => rhs; unfold ordN; rw [if_pos hi]
  · rcases visitL_of _ _ _ hx2 with h1 | h1
    · exact h.lt x h1
    · exact kidsN_lt hg _ hx x h1
  · rw [getD_pre hp (by omega)] at hk
    rcases Nat.lt_or_ge j i with h1 | h1
    · exact hp.subset (h.cl j h1 k hk)
    · obtain rfl : j = i := by omega
      exact visitL_mem _ _ _ hk
theorem OrdRel.fin {g : List Ce} {roots : List Nat} {i : Nat} {out : List Nat} (h : OrdRel g roots i out) (hi : ¬ i < out.length) : out = orderG g roots := by
  have := h.len
  have := h.le
  rw [← h.eq, show g.length + 1 - i = (g.length - i) + 1 by omega]
  unfold ordN; rw [if_neg hi]
/-- the order is reached -/
theorem order_rel {g : List Ce} {defs : Int} {roots : List Nat} (hg : graphB g defs = true) (hr : ∀ x ∈ roots, x < g.length) : ∃ i, OrdRel g roots i (orderG g roots) ∧ ¬ i < (orderG g roots).length := by
  have key : ∀ n i out, OrdRel g roots i out → g.length - i = n → ∃ i, OrdRel g roots i (orderG g roots) ∧ ¬ i < (orderG g roots).length := by
    intro n
    induction n with
    | zero =>
      intro i out h hn
      have := h.len
      have := h.le
      have hi : ¬ i < out.length := by omega
      have e := h.fin hi
      subst e
      exact ⟨i, h, hi⟩
    | succ n ih =>
      intro i out h hn
      by_cases hi : i < out.length
      · exact ih _ _ (h.step hg hi) (by omega)
      · have e := h.fin hi
        subst e
        exact ⟨i, h, hi⟩
  exact key _ _ _ (OrdRel.start hr) rfl

/-! ### The copy -/
/-- a copy, its operands by the places in an order -/
def cpCell (g : List Ce) (out : List Nat) (x : Nat) : Ce := ⟨opAt g x, numAt g x, (kidsN g x).map fun k => (posN out k : Int)⟩
def copyG (g : List Ce) (roots : List Nat) : List Ce := (orderG g roots).map (cpCell g (orderG g roots))
def topsG (g : List Ce) (roots : List Nat) : List Nat := roots.map (posN (orderG g roots))
theorem cpCell_pre {g : List Ce} {out out' : List Nat} (h : out <+: out') {x : Nat} (hx : ∀ k ∈ kidsN g x, k ∈ out) : cpCell g out' x = cpCell g out x := by
  unfold cpCell
  congr 1
  exact List.map_congr_left fun k hk => by rw [posN_pre h (hx k hk)]
theorem copyG_len (g : List Ce) (roots : List Nat) : (copyG g roots).length = (orderG g roots).length := by unfold copyG; simp
end Go.Proofs.Ytglpehelmlehiaa
/-
  PLAIN: roots of a graph; the marks of an order. No program is named here.
-/
namespace Go.Proofs.Ytglpehelmlehiaa
set_option linter.unusedVariables false
set_option linter.unusedSimpArgs false

/-- a graph and some of its cells -/
def rootB (g : List Ce) (rs : List Int) : Bool := graphB g 6 && (decide (rs.length ≤ 20) && rs.all (isAt g.length))
def natL (rs : List Int) : List Nat := rs.map Int.toNat
theorem natL_len (rs : List Int) : (natL rs).length = rs.length := by simp [natL]
theorem rootB_iff {g : List Ce} {rs : List Int} : rootB g rs = true ↔ graphB g 6 = true ∧ rs.length ≤ 20 ∧ rs.all (isAt g.length) = true := by unfold rootB; simp
theorem root_lt {g : List Ce} {rs : List Int} (h : rootB g rs = true) : ∀ x ∈ natL rs, x < g.length := by
  intro x hx
  have h3 := (rootB_iff.1 h).2.2
  simp only [natL, List.mem_map] at hx
  obtain ⟨a, ha, rfl⟩ := hx
  rw [List.all_eq_true] at h3
  have := h3 a ha
  simp only [isAt, decide_eq_true_eq] at this
  omega
theorem root_back {g : List Ce} {rs : List Int} (h : rootB g rs = true) : rs = (natL rs).map fun (a : Nat) => (a : Int) := by
  have h3 := (rootB_iff.1 h).2.2
  rw [List.all_eq_true] at h3
  unfold natL
  rw [List.map_map]
  conv => lhs; rw [← List.map_id rs]
  refine List.map_congr_left fun a ha => ?_
  have := h3 a ha
  simp only [isAt, decide_eq_true_eq] at this
  simp; omega
/-- is a cell in a list? -/
def memB (o : List Nat) (x : Nat) : Bool := decide (x ∈ o)
theorem memB_nil : memB [] = fun _ => false := by funext x; simp [memB]
theorem memB_yes {o : List Nat} {x : Nat} (h : memB o x = true) : visit o x = o := visit_in (by simpa [memB] using h)
theorem memB_no {o : List Nat} {x : Nat} (h : memB o x = false) : visit o x = o ++ [x] := visit_new (by simpa [memB] using h)
theorem memB_snoc (o : List Nat) (x : Nat) : memB (o ++ [x]) = setF (memB o) x := by
  funext y
  unfold setF memB
  by_cases e : y = x
  · simp [e]
  · simp [e]
theorem visitL_lt {n : Nat} {o l : List Nat} (ho : ∀ x ∈ o, x < n) (hl : ∀ x ∈ l, x < n) : ∀ x ∈ visitL o l, x < n := fun x hx => by
  rcases visitL_of _ _ _ hx with h | h
  · exact ho x h
  · exact hl x h
/-- different cells of a graph -/
def Cs (n : Nat) (o : List Nat) : Prop := o.Nodup ∧ ∀ x ∈ o, x < n
theorem Cs.len {n : Nat} {o : List Nat} (h : Cs n o) : o.length ≤ n := nodup_len h.1 h.2
theorem Cs.nil (n : Nat) : Cs n [] := ⟨by simp, fun x hx => by simp at hx⟩
theorem Cs.visit {n : Nat} {o : List Nat} {x : Nat} (h : Cs n o) (hx : x < n) : Cs n (visit o x) := ⟨visit_nodup h.1, fun y hy => by
  rcases visit_of hy with h1 | rfl
  · exact h.2 y h1
  · exact hx⟩
theorem OrdRel.cs {g : List Ce} {roots : List Nat} {i : Nat} {out : List Nat} (h : OrdRel g roots i out) : Cs g.length out := ⟨h.nd, h.lt⟩
/-- the place of a copy, or -1 -/
def placeV (o : List Nat) (x : Nat) : Int := if x ∈ o then (posN o x : Int) else -1
theorem placeV_nil : placeV [] = fun _ => -1 := by funext x; simp [placeV]
theorem placeV_snoc {o : List Nat} {x : Nat} (h : x ∉ o) (y : Nat) : placeV (o ++ [x]) y = if y = x then (o.length : Int) else placeV o y := by
  unfold placeV
  by_cases e : y = x
  · subst e
    rw [if_pos (by simp), if_pos rfl, posN_snoc o y h]
  · rw [if_neg e]
    by_cases hy : y ∈ o
    · rw [if_pos (by simp [hy]), if_pos hy, posN_app _ _ _ hy]
    · rw [if_neg (by simp [hy, e]), if_neg hy]
theorem placeV_in {o : List Nat} {x : Nat} (h : x ∈ o) : placeV o x = (posN o x : Int) := if_pos h
theorem take_not {o : List Nat} (hn : o.Nodup) {i x : Nat} (h : o[i]? = some x) : x ∉ o.take i := by
  intro hx
  obtain ⟨j, hj, e⟩ := List.getElem_of_mem hx
  rw [List.length_take] at hj
  rw [List.getElem_take] at e
  have hi : i < o.length := (List.getElem?_eq_some_iff.1 h).1
  have e2 : o[i] = x := (List.getElem?_eq_some_iff.1 h).2
  have := posN_at o j (by omega) hn
  rw [e, ← e2, posN_at o i hi hn] at this
  omega
end Go.Proofs.Ytglpehelmlehiaa
/-
  PLAIN: what CopyGraph, CopyOrder and CollectGraph answer. No program is named here.
-/
namespace Go.Proofs.Ytglpehelmlehiaa
set_option linter.unusedVariables false
set_option linter.unusedSimpArgs false

theorem order_closed {g : List Ce} {roots : List Nat} (hg : graphB g 6 = true) (hr : ∀ x ∈ roots, x < g.length) : ∀ a ∈ orderG g roots, ∀ k ∈ kidsN g a, k ∈ orderG g roots := by
  obtain ⟨i, h, hi⟩ := order_rel hg hr
  intro a ha k hk
  obtain ⟨j, hj, rfl⟩ := List.getElem_of_mem ha
  refine h.cl j (by omega) k ?_
  rw [getD_at _ _ _ hj]; exact hk
theorem order_cs {g : List Ce} {roots : List Nat} (hg : graphB g 6 = true) (hr : ∀ x ∈ roots, x < g.length) : Cs g.length (orderG g roots) := by
  obtain ⟨i, h, hi⟩ := order_rel hg hr
  exact h.cs
theorem order_root {g : List Ce} {roots : List Nat} (hg : graphB g 6 = true) (hr : ∀ x ∈ roots, x < g.length) : ∀ x ∈ roots, x ∈ orderG g roots := by
  obtain ⟨i, h, hi⟩ := order_rel hg hr
  exact h.rt
/-- what CopyGraph answers, but for whether -/
def copyO (g : List Ce) (rs : List Int) : List Ce × List Nat := if rootB g rs = true then (copyG g (natL rs), topsG g (natL rs)) else ([], [])
theorem copyO_no {g : List Ce} {rs : List Int} (h : rootB g rs = false) : copyO g rs = ([], []) := by unfold copyO; rw [if_neg (by rw [h]; simp)]
theorem copyO_yes {g : List Ce} {rs : List Int} (h : rootB g rs = true) : copyO g rs = (copyG g (natL rs), topsG g (natL rs)) := by unfold copyO; rw [if_pos h]
/-- what CopyOrder answers -/
def orderO (g : List Ce) (rs : List Int) : List Nat := if rootB g rs = true then orderG g (natL rs) else []
theorem orderO_no {g : List Ce} {rs : List Int} (h : rootB g rs = false) : orderO g rs = [] := by unfold orderO; rw [if_neg (by rw [h]; simp)]
theorem orderO_yes {g : List Ce} {rs : List Int} (h : rootB g rs = true) : orderO g rs = orderG g (natL rs) := by unfold orderO; rw [if_pos h]

/-! ### Past indirections -/
def skipN (g : List Ce) (a : Nat) : Nat := (followN g g.length a).getD a
def shortC (g : List Ce) (c : Ce) : Ce := ⟨c.op, c.num, (c.kids.map Int.toNat).map fun k => (skipN g k : Int)⟩
def shortG (g : List Ce) : List Ce := g.map (shortC g)
theorem skip_lt {g : List Ce} {defs : Int} (h : graphB g defs = true) {a : Nat} (ha : a < g.length) : skipN g a < g.length := by
  unfold skipN
  cases hf : followN g g.length a with
  | none => exact ha
  | some b => exact (followN_lt h _ a b ha hf).1
theorem shortG_len (g : List Ce) : (shortG g).length = g.length := by simp [shortG]
theorem shortG_at (g : List Ce) (i : Nat) (h : i < g.length) : (shortG g)[i]'(by rw [shortG_len]; exact h) = shortC g g[i] := by simp [shortG]
theorem shortG_valid {g : List Ce} {defs : Int} (h : graphB g defs = true) : graphB (shortG g) defs = true := by
  have h' := h
  unfold graphB at h ⊢
  simp only [Bool.and_eq_true, List.all_eq_true, decide_eq_true_eq] at h ⊢
  rw [shortG_len]
  refine ⟨h.1, fun c hc => ?_⟩
  obtain ⟨i, hi, rfl⟩ := List.getElem_of_mem hc
  rw [shortG_len] at hi
  rw [shortG_at g i hi]
  have hc := graphB_cell h' i hi
  unfold cellB fitsB shortC at *
  simp only [Bool.and_eq_true, decide_eq_true_eq, List.length_map] at hc ⊢
  refine ⟨hc.1, ?_⟩
  rw [List.all_eq_true]
  intro x hx
  simp only [List.mem_map] at hx
  obtain ⟨k, ⟨y, hy, rfl⟩, rfl⟩ := hx
  have hy2 := (kids_graph h' i hi).2 y hy
  have := skip_lt h' (a := y.toNat) (by omega)
  simp only [isAt, decide_eq_true_eq]
  omega
/-- what CollectGraph answers -/
def collO (g : List Ce) (rs : List Int) : List Ce × List Nat := if rootB g rs = true then (copyG (shortG g) ((natL rs).map (skipN g)), topsG (shortG g) ((natL rs).map (skipN g))) else ([], [])
theorem collO_no {g : List Ce} {rs : List Int} (h : rootB g rs = false) : collO g rs = ([], []) := by unfold collO; rw [if_neg (by rw [h]; simp)]
theorem collO_yes {g : List Ce} {rs : List Int} (h : rootB g rs = true) : collO g rs = (copyG (shortG g) ((natL rs).map (skipN g)), topsG (shortG g) ((natL rs).map (skipN g))) := by unfold collO; rw [if_pos h]
theorem coll_lt {g : List Ce} {rs : List Int} (h : rootB g rs = true) : ∀ x ∈ (natL rs).map (skipN g), x < (shortG g).length := by
  intro x hx
  simp only [List.mem_map] at hx
  obtain ⟨a, ha, rfl⟩ := hx
  rw [shortG_len]
  exact skip_lt (rootB_iff.1 h).1 (root_lt h a ha)

/-! ### How large -/
theorem kidsSum_le3 : ∀ (g : List Ce), (∀ c ∈ g, c.kids.length ≤ 3) → sumK g ≤ 3 * g.length
  | [], _ => by simp [sumK]
  | c :: g, h => by
    have h1 := h c (List.mem_cons_self ..)
    have h2 := kidsSum_le3 g fun d hd => h d (List.mem_cons_of_mem _ hd)
    have h3 : sumK (c :: g) = c.kids.length + sumK g := by simp [sumK]
    rw [h3]
    simp only [List.length_cons]
    omega
theorem copyG_small {g : List Ce} {roots : List Nat} (hg : graphB g 6 = true) (hr : ∀ x ∈ roots, x < g.length) : (copyG g roots).length + sumK (copyG g roots) ≤ 2000 := by
  have hl := (order_cs hg hr).len
  have h4 := graphB_len hg
  have h3 : sumK (copyG g roots) ≤ 3 * (copyG g roots).length := by
    refine kidsSum_le3 _ fun c hc => ?_
    unfold copyG at hc
    simp only [List.mem_map] at hc
    obtain ⟨a, ha, rfl⟩ := hc
    simp only [cpCell, List.length_map]
    exact kidsN_len hg a ((order_cs hg hr).2 a ha)
  rw [copyG_len] at h3 ⊢
  omega
theorem copyO_small (g : List Ce) (rs : List Int) : (copyO g rs).1.length + sumK (copyO g rs).1 ≤ 2000 ∧ (copyO g rs).2.length ≤ 2000 := by
  cases h : rootB g rs with
  | false => rw [copyO_no h]; simp [sumK]
  | true =>
    rw [copyO_yes h]
    refine ⟨copyG_small (rootB_iff.1 h).1 (root_lt h), ?_⟩
    have := (rootB_iff.1 h).2.1
    simp only [topsG, List.length_map, natL_len]; omega
theorem orderO_small (g : List Ce) (rs : List Int) : (orderO g rs).length ≤ 2000 := by
  cases h : rootB g rs with
  | false => rw [orderO_no h]; simp
  | true =>
    rw [orderO_yes h]
    have := (order_cs (rootB_iff.1 h).1 (root_lt h)).len
    have := graphB_len (rootB_iff.1 h).1
    omega
theorem collO_small (g : List Ce) (rs : List Int) : (collO g rs).1.length + sumK (collO g rs).1 ≤ 2000 ∧ (collO g rs).2.length ≤ 2000 := by
  cases h : rootB g rs with
  | false => rw [collO_no h]; simp [sumK]
  | true =>
    rw [collO_yes h]
    refine ⟨copyG_small (shortG_valid (rootB_iff.1 h).1) (coll_lt h), ?_⟩
    have := (rootB_iff.1 h).2.1
    simp only [topsG, List.length_map, natL_len]; omega
end Go.Proofs.Ytglpehelmlehiaa
/-
  PLAIN: two lists, compared element by element. No program is named here.
-/
namespace Go.Proofs.Ytglpehelmlehiaa
set_option linter.unusedVariables false
set_option linter.unusedSimpArgs false

def sameL {α : Type} (p : α → α → Bool) : List α → List α → Bool
  | [], [] => true
  | a :: xs, b :: ys => p a b && sameL p xs ys
  | _, _ => false
theorem sameL_len {α : Type} (p : α → α → Bool) : ∀ (a b : List α), a.length ≠ b.length → sameL p a b = false
  | [], [], h => by simp at h
  | [], _ :: _, _ => rfl
  | _ :: _, [], _ => rfl
  | a :: xs, b :: ys, h => by rw [sameL, sameL_len p xs ys (by simpa using h), Bool.and_false]
theorem sameL_no {α : Type} (p : α → α → Bool) : ∀ (a b : List α) (k : Nat) (h : k < a.length) (h' : k < b.length), p a[k] b[k] = false → sameL p a b = false
  | [], _, _, h, _, _ => by simp at h
  | _ :: _, [], _, _, h, _ => by simp at h
  | a :: xs, b :: ys, 0, _, _, e => by rw [sameL]; have : p a b = false := e; rw [this]; rfl
  | a :: xs, b :: ys, k + 1, h, h', e => by rw [sameL, sameL_no p xs ys k (by simpa using h) (by simpa using h') (by simpa using e), Bool.and_false]
theorem sameL_yes {α : Type} (p : α → α → Bool) : ∀ (a b : List α), a.length = b.length → (∀ k (h : k < a.length) (h' : k < b.length), p a[k] b[k] = true) → sameL p a b = true
  | [], [], _, _ => rfl
  | [], _ :: _, h, _ => by simp at h
  | _ :: _, [], h, _ => by simp at h
  | a :: xs, b :: ys, h, hp => by
    have h0 : p a b = true := hp 0 (by simp) (by simp)
    rw [sameL, h0, sameL_yes p xs ys (by simpa using h) fun k h1 h2 => hp (k + 1) (by simpa using h1) (by simpa using h2)]
    rfl
def sameI (a b : Int) : Bool := a == b
def sameC (a b : Ce) : Bool := (a.op == b.op) && ((a.num == b.num) && sameL sameI a.kids b.kids)
def sameG (a b : List Ce) : Bool := sameL sameC a b
theorem sameC_op {a b : Ce} (h : ¬ a.op = b.op) : sameC a b = false := by
  have e : (a.op == b.op) = false := by simpa using h
  unfold sameC; rw [e]; rfl
theorem sameC_num {a b : Ce} (h : ¬ a.num = b.num) : sameC a b = false := by
  have e : (a.num == b.num) = false := by simpa using h
  unfold sameC; rw [e]; simp
theorem sameC_kids {a b : Ce} (h : a.op = b.op) (h' : a.num = b.num) : sameC a b = sameL sameI a.kids b.kids := by unfold sameC; rw [h, h']; simp
end Go.Proofs.Ytglpehelmlehiaa
/-
  PLAIN: what LiveCells and SameFrom answer. No program is named here.
-/
namespace Go.Proofs.Ytglpehelmlehiaa
set_option linter.unusedVariables false
set_option linter.unusedSimpArgs false

def liveL (g : List Ce) (o : List Nat) : Nat := o.countP fun a => opAt g a != 11
/-- what LiveCells answers, but for whether -/
def liveO (g : List Ce) (rs : List Int) : Int := if rootB g rs = true then (liveL g (orderG g (natL rs)) : Int) else 0
theorem liveO_no {g : List Ce} {rs : List Int} (h : rootB g rs = false) : liveO g rs = 0 := by unfold liveO; rw [if_neg (by rw [h]; simp)]
theorem liveO_yes {g : List Ce} {rs : List Int} (h : rootB g rs = true) : liveO g rs = (liveL g (orderG g (natL rs)) : Int) := by unfold liveO; rw [if_pos h]
theorem liveL_snoc (g : List Ce) (o : List Nat) (a : Nat) : liveL g (o ++ [a]) = liveL g o + (if opAt g a != 11 then 1 else 0) := by
  unfold liveL; rw [List.countP_append, List.countP_singleton]
theorem liveL_le (g : List Ce) (o : List Nat) : liveL g o ≤ o.length := List.countP_le_length
def liveC (G : List Ce) : Nat := G.countP fun c => c.op != 11
theorem liveC_snoc (G : List Ce) (c : Ce) : liveC (G ++ [c]) = liveC G + (if c.op != 11 then 1 else 0) := by
  unfold liveC; rw [List.countP_append, List.countP_singleton]
theorem liveC_le (G : List Ce) : liveC G ≤ G.length := List.countP_le_length
theorem liveC_copy (g : List Ce) (rs : List Nat) : liveC (copyG g rs) = liveL g (orderG g rs) := by
  unfold liveC liveL copyG; rw [List.countP_map]; rfl
theorem take_snocC {α : Type} {l : List α} {k : Nat} (h : k < l.length) : l.take (k + 1) = l.take k ++ [l[k]] := List.take_succ_eq_append_getElem h

/-! ### Shapes -/
theorem root_one (g : List Ce) (x : Int) : rootB g [x] = (graphB g 6 && isAt g.length x) := by unfold rootB; simp
theorem nat_one (x : Int) : natL [x] = [x.toNat] := rfl
/-- what SameFrom answers -/
def sameO (a : List Ce) (x : Int) (b : List Ce) (y : Int) : Bool := rootB a [x] && (rootB b [y] && sameG (copyG a (natL [x])) (copyG b (natL [y])))
theorem sameO_no1 {a b : List Ce} {x y : Int} (h : rootB a [x] = false) : sameO a x b y = false := by unfold sameO; rw [h]; rfl
theorem sameO_no2 {a b : List Ce} {x y : Int} (h : rootB b [y] = false) : sameO a x b y = false := by unfold sameO; rw [h]; simp
theorem sameO_yes {a b : List Ce} {x y : Int} (h : rootB a [x] = true) (h' : rootB b [y] = true) : sameO a x b y = sameG (copyG a (natL [x])) (copyG b (natL [y])) := by unfold sameO; rw [h, h']; rfl
end Go.Proofs.Ytglpehelmlehiaa
/-
  PLAIN: what is copied can be reached from the roots; the first root comes first; fewer roots, fewer cells.
-/
namespace Go.Proofs.Ytglpehelmlehiaa
set_option linter.unusedVariables false
set_option linter.unusedSimpArgs false
open Go.RowKit

theorem visitL_all {P : Nat → Prop} (out l : List Nat) (ho : ∀ x ∈ out, P x) (hl : ∀ x ∈ l, P x) : ∀ x ∈ visitL out l, P x := fun x hx => by
  rcases visitL_of l out x hx with h | h
  · exact ho x h
  · exact hl x h
theorem ordN_all {g : List Ce} {P : Nat → Prop} (hk : ∀ a, P a → ∀ k ∈ kidsN g a, P k) : ∀ (n i : Nat) (out : List Nat), (∀ x ∈ out, P x) → ∀ x ∈ ordN g n i out, P x
  | 0, i, out, h, x, hx => h x (by simpa [ordN] using hx)
  | n + 1, i, out, h, x, hx => by
    unfold ordN at hx
    split at hx
    · rename_i hi
      refine ordN_all hk n (i + 1) _ (visitL_all out _ h fun k hkk => ?_) x hx
      exact hk _ (h _ (by rw [getD_at _ _ _ hi]; exact List.getElem_mem hi)) k hkk
    · exact h x hx
theorem ordN_pre (g : List Ce) : ∀ (n i : Nat) (out : List Nat), out <+: ordN g n i out
  | 0, i, out => by simp [ordN]
  | n + 1, i, out => by
    unfold ordN
    split
    · exact (visitL_pre _ _).trans (ordN_pre g n (i + 1) _)
    · exact List.prefix_refl _
theorem order_reach {g : List Ce} {rs : List Nat} : ∀ x ∈ orderG g rs, ∃ r ∈ rs, Reach g r x := by
  unfold orderG
  refine ordN_all (P := fun x => ∃ r ∈ rs, Reach g r x) (fun a ha k hk => ?_) _ _ _ fun x hx => ?_
  · obtain ⟨r, hr, h⟩ := ha
    exact ⟨r, hr, .kid a k h hk⟩
  · rcases visitL_of _ _ x hx with h | h
    · simp at h
    · exact ⟨x, h, .root⟩
theorem order_head (g : List Ce) (r : Nat) (rs : List Nat) : (orderG g (r :: rs))[0]? = some r := by
  have h : [r] <+: orderG g (r :: rs) := by
    unfold orderG
    rw [visitL_cons, visit_new (by simp)]
    exact (visitL_pre rs ([] ++ [r])).trans (ordN_pre g _ _ _)
  obtain ⟨s, hs⟩ := h
  rw [← hs]
  rfl
theorem reach_order {g : List Ce} {rs : List Nat} (hg : graphB g 6 = true) (hr : ∀ x ∈ rs, x < g.length) {r x : Nat} (hrr : r ∈ rs) (h : Reach g r x) : x ∈ orderG g rs := by
  induction h with
  | root => exact order_root hg hr _ hrr
  | kid a k ha hk ih => exact order_closed hg hr a ih k hk
theorem order_mono {g : List Ce} {rs rs' : List Nat} (hg : graphB g 6 = true) (hr : ∀ x ∈ rs', x < g.length) (hs : ∀ x ∈ rs, x ∈ rs') : ∀ x ∈ orderG g rs, x ∈ orderG g rs' := fun x hx => by
  obtain ⟨r, hr1, h⟩ := order_reach x hx
  exact reach_order hg hr (hs r hr1) h
theorem nodup_in : ∀ (l V : List Nat), l.Nodup → (∀ x ∈ l, x ∈ V) → l.length ≤ V.length
  | [], V, _, _ => by simp
  | a :: l, V, hn, hs => by
    have ha := hs a (by simp)
    rw [List.nodup_cons] at hn
    have h1 := nodup_in l (V.erase a) hn.2 fun x hx => by
      have hne : x ≠ a := fun e => hn.1 (e ▸ hx)
      exact (List.mem_erase_of_ne hne).2 (hs x (by simp [hx]))
    rw [List.length_erase_of_mem ha] at h1
    have := List.length_pos_of_mem ha
    rw [List.length_cons]
    omega
theorem live_mono {g : List Ce} {o o' : List Nat} (hn : o.Nodup) (hs : ∀ x ∈ o, x ∈ o') : liveL g o ≤ liveL g o' := by
  unfold liveL
  rw [List.countP_eq_length_filter, List.countP_eq_length_filter]
  refine nodup_in _ _ (hn.filter _) fun x hx => ?_
  rw [List.mem_filter] at hx ⊢
  exact ⟨hs x hx.1, hx.2⟩
end Go.Proofs.Ytglpehelmlehiaa
/-
  FACTS OF THE ORDER AND OF THE LIVE CELLS, for the drawn laws.
-/
namespace Go.Proofs.Ytglpehelmlehiaa
set_option linter.unusedVariables false
set_option linter.unusedSimpArgs false
open Go.RowKit

theorem order_nil (g : List Ce) : orderG g [] = [] := by
  rw [List.eq_nil_iff_forall_not_mem]
  intro x hx
  obtain ⟨r, hr, -⟩ := order_reach x hx
  simp at hr
theorem root_nil {g : List Ce} {X : List Int} (h : rootB g X = true) : rootB g [] = true := rootB_iff.2 ⟨(rootB_iff.1 h).1, by simp, by simp⟩
theorem live_nil (g : List Ce) : liveO g [] = 0 := by
  unfold liveO natL
  split
  · rw [List.map_nil, order_nil]; rfl
  · rfl
theorem root_take {g : List Ce} {X : List Int} (h : rootB g X = true) (q : Nat) : rootB g (X.take q) = true := by
  obtain ⟨h1, h2, h3⟩ := rootB_iff.1 h
  rw [List.all_eq_true] at h3
  refine rootB_iff.2 ⟨h1, by rw [List.length_take]; omega, ?_⟩
  rw [List.all_eq_true]
  exact fun x hx => h3 x (List.mem_of_mem_take hx)
theorem live_take {g : List Ce} {X : List Int} (h : rootB g X = true) (q : Nat) : liveO g (X.take q) ≤ liveO g X := by
  have h' := root_take h q
  rw [liveO_yes h, liveO_yes h']
  have hm := live_mono (g := g) (order_cs (rootB_iff.1 h).1 (root_lt h')).1 (order_mono (rs := natL (X.take q)) (rs' := natL X) (rootB_iff.1 h).1 (root_lt h) fun x hx => by
    unfold natL at hx ⊢
    rw [List.mem_map] at hx ⊢
    obtain ⟨a, ha, e⟩ := hx
    exact ⟨a, List.mem_of_mem_take ha, e⟩)
  omega
/-- each once, the roots among them, the first root first -/
theorem order_facts {g : List Ce} {X xs : List Int} (he : xs = plI (orderO g X)) (hn : xs.length ≠ 0) (h1 : 1 ≤ X.length) :
    (∀ i (hi : i < xs.length), xs[i] ∉ xs.take i) ∧ (∀ x ∈ X, x ∈ xs) ∧ ∃ (h : 0 < xs.length) (h' : 0 < X.length), xs[0] = X[0] := by
  cases hr : rootB g X with
  | false => exact absurd (by rw [he, orderO_no hr]; rfl) hn
  | true =>
    rw [orderO_yes hr] at he
    have hcs := order_cs (rootB_iff.1 hr).1 (root_lt hr)
    have hb := root_back hr
    refine ⟨fun i hi hm => ?_, fun x hx => ?_, by omega, by omega, ?_⟩
    · subst he
      obtain ⟨j, hj, e⟩ := List.getElem_of_mem hm
      rw [List.length_take] at hj
      rw [List.getElem_take] at e
      have hi2 : i < (orderG g (natL X)).length := by simpa [plI] using hi
      have hne := List.pairwise_iff_getElem.1 hcs.1 j i (by omega) hi2 (by omega)
      apply hne
      simp only [plI, List.getElem_map] at e
      omega
    · rw [hb, List.mem_map] at hx
      obtain ⟨a, ha, rfl⟩ := hx
      rw [he]
      exact List.mem_map.2 ⟨a, order_root (rootB_iff.1 hr).1 (root_lt hr) a ha, rfl⟩
    · subst he
      have e1 : (plI (orderG g (natL X)))[0]? = X[0]? := by
        cases X with
        | nil => simp at h1
        | cons x0 rest =>
          have h0 := order_head g x0.toNat (natL rest)
          rw [show natL (x0 :: rest) = x0.toNat :: natL rest from rfl] at hb ⊢
          rw [List.map_cons, List.cons.injEq] at hb
          unfold plI
          rw [List.getElem?_map, h0, List.getElem?_cons_zero, Option.map_some, ← hb.1]
      rw [List.getElem?_eq_getElem (by omega), List.getElem?_eq_getElem (by omega)] at e1
      exact Option.some.inj e1
theorem orderO_len (g : List Ce) (X : List Int) : (orderO g X).length ≤ g.length := by
  cases hr : rootB g X with
  | false => rw [orderO_no hr]; exact Nat.zero_le _
  | true => rw [orderO_yes hr]; exact (order_cs (rootB_iff.1 hr).1 (root_lt hr)).len
theorem live_le (g : List Ce) (X : List Int) : liveO g X ≤ ((orderO g X).length : Int) := by
  cases hr : rootB g X with
  | false => rw [liveO_no hr]; omega
  | true => rw [liveO_yes hr, orderO_yes hr]; have := liveL_le g (orderG g (natL X)); omega
theorem copyG_length' {g : List Ce} {X : List Int} (hr : rootB g X = true) : (copyG g (natL X)).length ≤ g.length := by
  unfold copyG
  rw [List.length_map]
  exact (order_cs (rootB_iff.1 hr).1 (root_lt hr)).len
/-- the first numbers of a slice -/
theorem ints_take {w : World} {xs : List Int} {ad : Option Addr} {cap q : Nat} (h : IIn w xs (.slice ad xs.length cap)) (hq : q ≤ xs.length) (hq0 : 0 < xs.length) : IIn w (xs.take q) (.slice ad q cap) := by
  obtain ⟨ad2, cap2, he, hlc, hm, hr⟩ := h
  simp only [Value.slice.injEq, true_and] at he
  obtain ⟨rfl, rfl⟩ := he
  have hl : (xs.take q).length = q := by rw [List.length_take]; omega
  refine ⟨ad, cap, by rw [hl], by rw [hl]; omega, hm, ?_⟩
  rcases hr with hr | ⟨bl, off, rfl, hlt, hc⟩
  · rw [hr] at hq0; exact absurd hq0 (by simp)
  · refine Or.inr ⟨bl, off, rfl, hlt, fun i hi => ?_⟩
    rw [hl] at hi
    rw [hc i (by omega)]
    simp
theorem ints_none (w : World) : IIn w [] (.slice none 0 0) := ⟨none, 0, rfl, Nat.le_refl _, by simp [maxLen], Or.inl rfl⟩
end Go.Proofs.Ytglpehelmlehiaa
/-
  THE CELLS OF A COPIER: the first ones are scanned, the others still have the operands of the old space.
-/
namespace Go.Proofs.Ytglpehelmlehiaa
set_option linter.unusedVariables false
set_option linter.unusedSimpArgs false
open Go.RowKit

/-- all blocks but those of a set are as they were -/
structure ButP (U : Nat → Prop) (w w' : World) : Prop where
  os : w'.os = w.os
  tape : w'.tape = w.tape
  output : w'.output = w.output
  size : w.heap.size ≤ w'.heap.size
  block : ∀ k, k < w.heap.size → ¬ U k → w'.heap[k]? = w.heap[k]?
theorem ButP.refl (U : Nat → Prop) (w : World) : ButP U w w := ⟨rfl, rfl, rfl, Nat.le_refl _, fun _ _ _ => rfl⟩
theorem ButP.trans {U V : Nat → Prop} {a c d : World} (h : ButP U a c) (k : ButP V c d) (hV : ∀ x, V x → x < a.heap.size → U x) : ButP U a d :=
  ⟨k.os.trans h.os, k.tape.trans h.tape, k.output.trans h.output, Nat.le_trans h.size k.size, fun i hi hb => (k.block i (Nat.lt_of_lt_of_le hi h.size) (fun e => hb (hV i e hi))).trans (h.block i hi hb)⟩
theorem ButP.mono {U V : Nat → Prop} {w w' : World} (h : ButP U w w') (hs : ∀ k, U k → k < w.heap.size → V k) : ButP V w w' := ⟨h.os, h.tape, h.output, h.size, fun k hk hb => h.block k hk fun e => hb (hs k e hk)⟩
theorem ButP.of_below {U : Nat → Prop} {w w' : World} (h : Below w.heap.size w w') : ButP U w w' := ⟨h.os, h.tape, h.output, h.size, fun k hk _ => h.block k hk⟩
theorem ButP.below {U : Nat → Prop} {lo : Nat} {w w' : World} (h : ButP U w w') (hU : ∀ k, U k → lo ≤ k) (hl : lo ≤ w.heap.size) : Below lo w w' := ⟨h.os, h.tape, h.output, h.size, fun k hk => h.block k (Nat.lt_of_lt_of_le hk hl) fun e => by have := hU k e; omega⟩
theorem ButP.of_grown {U : Nat → Prop} {w w' : World} {r : Option Nat} (h : w.grownBy w' r) (hU : ∀ k, some k = r → U k) : ButP U w w' := ⟨h.os, h.tape, h.output, h.size, fun k hk hb => h.block k hk fun e => hb (hU k e)⟩
theorem ButP.of_set {U : Nat → Prop} {w : World} {a : Addr} {u : Value} (hU : U a.block) : ButP U w (w.setCell a u) := ⟨rfl, rfl, rfl, by rw [size_setCell]; exact Nat.le_refl _, fun k hk hb => Below.heap_setCell _ _ _ _ fun e => hb (by rw [e]; exact hU)⟩

theorem own_uniq {w : World} {lo lo' n s : Nat} {T : TypeId} {v : Value} {xs ys : List Value} (h : w.ownsRow lo T s v n xs) (h' : w.ownsRow lo' T s v n ys) : xs = ys := by
  have a1 := h.1
  have a2 := h'.1
  rcases h.2 with ⟨rfl, h0⟩ | ⟨b, cap, cur, rfl, hg, hh, hn', hc', hs', htk⟩
  · rw [h0] at a1 a2
    rw [List.eq_nil_of_length_eq_zero (by omega : xs.length = 0), List.eq_nil_of_length_eq_zero (by omega : ys.length = 0)]
  · rcases h'.2 with ⟨e, -⟩ | ⟨b2, cap2, cur2, e, -, hh2, -, -, -, htk2⟩
    · cases e
    · cases e
      rw [hh] at hh2
      cases hh2
      rw [← htk, ← htk2]
/-- a row of cells is no row of ints -/
theorem cellrow_ne {w : World} {lo n : Nat} {v : Value} {xs : List Value} (h : w.ownsRow lo 48 3 v n xs) {C : Array Value} {k : Nat} (hC : w.heap[k]? = some (.cells C 3 (0, 0))) : some k ≠ v.ownBlock := by
  intro e
  rcases h.2 with ⟨rfl, -⟩ | ⟨b2, cap, cur, rfl, -, hh, -⟩
  · simp [Value.ownBlock] at e
  · simp only [Value.ownBlock, Option.some.injEq] at e
    subst e
    rw [hh] at hC
    simp at hC

/-- the operands of copy j, in the row blk once it is scanned -/
def CpK (w : World) (lo : Nat) (S : Nat → Prop) (g : List Ce) (o : List Nat) (i j blk : Nat) (kv : Value) : Prop :=
  (j < i → KRowS w S ((kidsN g (o.getD j 0)).map fun k => (posN o k : Int)) blk kv) ∧ (¬ j < i → IntsOn w (Lt lo) (plI (kidsN g (o.getD j 0))) kv)
/-- the copies of the cells o, the first i of them scanned -/
def CpG (w : World) (lo : Nat) (S : Nat → Prop) (g : List Ce) (o : List Nat) (i : Nat) (v : Value) : Prop :=
  ∃ (xs : List Value) (kb : Nat → Nat), w.ownsRow lo 48 3 v o.length xs ∧
    (∀ j, j < o.length → I64 (opAt g (o.getD j 0)) ∧ I64 (numAt g (o.getD j 0)) ∧ ∃ kv, xs[j * 3]? = some (.int .i64 (opAt g (o.getD j 0))) ∧ xs[j * 3 + 1]? = some (.int .i64 (numAt g (o.getD j 0))) ∧ xs[j * 3 + 2]? = some kv ∧ CpK w lo S g o i j (kb j) kv) ∧
    ∀ a b, a < i → b < i → a < o.length → b < o.length → a ≠ b → kidsN g (o.getD a 0) ≠ [] → kidsN g (o.getD b 0) ≠ [] → kb a ≠ kb b
theorem CpG.nil (w : World) (lo : Nat) (S : Nat → Prop) (g : List Ce) : CpG w lo S g [] 0 (.slice none 0 0) :=
  ⟨[], fun _ => 0, World.ownsRow_nil w lo _ _, fun j hj => absurd hj (by simp), fun a b ha => absurd ha (by omega)⟩
theorem CpG.row {w : World} {lo : Nat} {S : Nat → Prop} {g : List Ce} {o : List Nat} {i : Nat} {v : Value} (h : CpG w lo S g o i v) : ∃ xs, w.ownsRow lo 48 3 v o.length xs := by
  obtain ⟨xs, kb, h1, -⟩ := h; exact ⟨xs, h1⟩
theorem CpG.form {w : World} {lo : Nat} {S : Nat → Prop} {g : List Ce} {o : List Nat} {i : Nat} {v : Value} (h : CpG w lo S g o i v) : ∃ ad cap, v = .slice ad o.length cap := by
  obtain ⟨xs, h1⟩ := h.row
  rcases h1.2 with ⟨rfl, h0⟩ | ⟨b, cap, cur, rfl, -⟩
  · exact ⟨none, 0, by rw [h0]⟩
  · exact ⟨_, _, rfl⟩
theorem CpK.keep {w w' : World} {lo : Nat} {S S' : Nat → Prop} {g : List Ce} {o o' : List Nat} {i j blk : Nat} {kv : Value} (h : CpK w lo S g o i j blk kv) (hS : ∀ k, S k → k < w.heap.size → S' k) (hb : ∀ k C, S k → k < w.heap.size → w.heap[k]? = some (.cells C 3 (0, 0)) → w'.heap[k]? = w.heap[k]?) (hl : ∀ k, k < lo → w'.heap[k]? = w.heap[k]?)
    (ho : o'.getD j 0 = o.getD j 0) (hp : j < i → ∀ k ∈ kidsN g (o.getD j 0), posN o' k = posN o k) : CpK w' lo S' g o' i j blk kv := by
  refine ⟨fun hj => ?_, fun hj => ?_⟩
  · rw [ho]
    have e : (kidsN g (o.getD j 0)).map (fun k => (posN o' k : Int)) = (kidsN g (o.getD j 0)).map (fun k => (posN o k : Int)) := List.map_congr_left fun k hk => by rw [hp hj k hk]
    rw [e]
    exact (h.1 hj).keep hS fun C h1 h2 h3 => hb _ C h1 h2 h3
  · rw [ho]
    exact (h.2 hj).mono (fun _ hk => hk) fun k hk => hl k hk
theorem CpG.next {w w' : World} {lo : Nat} {S S' : Nat → Prop} {g : List Ce} {o : List Nat} {i : Nat} {v : Value} (h : CpG w lo S g o i v) (hS : ∀ k, S k → k < w.heap.size → S' k) (hr : ∀ k, some k = v.ownBlock → k < w.heap.size → w'.heap[k]? = w.heap[k]?) (hb : ∀ k C, S k → k < w.heap.size → w.heap[k]? = some (.cells C 3 (0, 0)) → w'.heap[k]? = w.heap[k]?) (hl : ∀ k, k < lo → w'.heap[k]? = w.heap[k]?) : CpG w' lo S' g o i v := by
  obtain ⟨xs, kb, h1, h2, h3⟩ := h
  refine ⟨xs, kb, ⟨h1.1, ?_⟩, fun j hj => ?_, h3⟩
  · rcases h1.2 with h | ⟨b, cap, cur, rfl, hg, hh, r⟩
    · exact Or.inl h
    · exact Or.inr ⟨b, cap, cur, rfl, hg, (hr b rfl (Array.getElem?_eq_some_iff.1 hh).1).trans hh, r⟩
  · obtain ⟨i1, i2, kv, e0, e1, e2, e3⟩ := h2 j hj
    exact ⟨i1, i2, kv, e0, e1, e2, e3.keep hS hb hl rfl fun _ _ _ => rfl⟩
theorem getD_snoc {o : List Nat} {a j : Nat} (h : j < o.length) : (o ++ [a]).getD j 0 = o.getD j 0 := by
  rw [List.getD_eq_getElem?_getD, List.getD_eq_getElem?_getD, List.getElem?_append_left h]
theorem getD_last (o : List Nat) (a : Nat) : (o ++ [a]).getD o.length 0 = a := by simp
/-- one copy more -/
theorem CpG.grow {w w' : World} {lo : Nat} {S : Nat → Prop} {g : List Ce} {o : List Nat} {i a : Nat} {v v' kv : Value} {xs : List Value} (h : CpG w lo S g o i v) (hi : i ≤ o.length) (hcl : ∀ j, j < i → ∀ k ∈ kidsN g (o.getD j 0), k ∈ o)
    (h64 : I64 (opAt g a) ∧ I64 (numAt g a)) (hk : IntsOn w' (Lt lo) (plI (kidsN g a)) kv) (hx : w.ownsRow lo 48 3 v o.length xs) (hown : w'.ownsRow lo 48 3 v' (o.length + 1) (xs ++ [.int .i64 (opAt g a), .int .i64 (numAt g a), kv]))
    (hb : ∀ k C, S k → k < w.heap.size → w.heap[k]? = some (.cells C 3 (0, 0)) → w'.heap[k]? = w.heap[k]?) (hl : ∀ k, k < lo → w'.heap[k]? = w.heap[k]?) : CpG w' lo S g (o ++ [a]) i v' := by
  obtain ⟨xs2, kb, h1, h2, h3⟩ := h
  obtain rfl := own_uniq hx h1
  have hlen := hx.1
  refine ⟨xs ++ [.int .i64 (opAt g a), .int .i64 (numAt g a), kv], kb, by simpa using hown, fun j hj => ?_, fun x y hx1 hy1 _ _ hne ex ey => ?_⟩
  · by_cases hjl : j < o.length
    · obtain ⟨i1, i2, kv', e0, e1, e2, e3⟩ := h2 j hjl
      rw [getD_snoc hjl]
      refine ⟨i1, i2, kv', ?_, ?_, ?_, ?_⟩
      · rw [List.getElem?_append_left (by omega)]; exact e0
      · rw [List.getElem?_append_left (by omega)]; exact e1
      · rw [List.getElem?_append_left (by omega)]; exact e2
      · exact e3.keep (fun _ h _ => h) hb hl (getD_snoc hjl) fun hji k hk => posN_app _ _ _ (hcl j hji k hk)
    · have hj' : j = o.length := by simp at hj; omega
      subst hj'
      rw [getD_last]
      refine ⟨h64.1, h64.2, kv, ?_, ?_, ?_, fun hj => absurd hj (by omega), fun _ => by rw [getD_last]; exact hk⟩
      · rw [List.getElem?_append_right (by omega)]; simp [hlen]
      · rw [List.getElem?_append_right (by omega)]; simp [hlen]
      · rw [List.getElem?_append_right (by omega)]; simp [hlen]
  · rw [getD_snoc (by omega)] at ex ey
    exact h3 x y hx1 hy1 (by omega) (by omega) hne ex ey
/-- copy i is scanned -/
theorem CpG.scan {w : World} {lo : Nat} {S : Nat → Prop} {g : List Ce} {o : List Nat} {i b cap blk : Nat} {kv : Value} (h : CpG w lo S g o i (.slice (some ⟨b, 0, none⟩) o.length cap)) (hi : i < o.length)
    (hk : KRowS w (fun x => x = blk) ((kidsN g (o.getD i 0)).map fun k => (posN o k : Int)) blk kv) (hS : ¬ S blk) : CpG (w.setCell ⟨b, i * 3 + 2, none⟩ kv) lo (fun x => S x ∨ x = blk) g o (i + 1) (.slice (some ⟨b, 0, none⟩) o.length cap) := by
  obtain ⟨xs, kb, h1, h2, h3⟩ := h
  have hx1 := (h1.stored (i * 3 + 2) kv).1
  have hlen := h1.1
  have hbl : lo ≤ b := own_block h1 rfl
  have keep : ∀ (k : Nat) (C : Array Value), w.heap[k]? = some (.cells C 3 (0, 0)) → (w.setCell ⟨b, i * 3 + 2, none⟩ kv).heap[k]? = w.heap[k]? := fun k C hC => Below.heap_setCell _ _ _ _ fun e => cellrow_ne h1 hC (by simp only [Value.ownBlock, Option.some.injEq]; exact e)
  have keepl : ∀ k, k < lo → (w.setCell ⟨b, i * 3 + 2, none⟩ kv).heap[k]? = w.heap[k]? := fun k hk => Below.heap_setCell _ _ _ _ (by show k ≠ b; omega)
  refine ⟨xs.set (i * 3 + 2) kv, fun j => if j = i then blk else kb j, hx1, fun j hj => ?_, fun x y hx1 hy1 hxl hyl hne ex ey => ?_⟩
  · obtain ⟨i1, i2, kv', e0, e1, e2, e3⟩ := h2 j hj
    by_cases hji : j = i
    · subst hji
      refine ⟨i1, i2, kv, ?_, ?_, ?_, fun _ => ?_, fun hn => absurd hn (by omega)⟩
      · rw [List.getElem?_set_ne (by omega)]; exact e0
      · rw [List.getElem?_set_ne (by omega)]; exact e1
      · rw [List.getElem?_set_self (by omega)]
      · simp only [if_pos]
        exact hk.keep (fun k hk _ => Or.inr hk) fun C _ _ hC => keep _ C hC
    · refine ⟨i1, i2, kv', ?_, ?_, ?_, ?_⟩
      · rw [List.getElem?_set_ne (by omega)]; exact e0
      · rw [List.getElem?_set_ne (by omega)]; exact e1
      · rw [List.getElem?_set_ne (by omega)]; exact e2
      · simp only [if_neg hji]
        have h4 : CpK (w.setCell ⟨b, i * 3 + 2, none⟩ kv) lo (fun x => S x ∨ x = blk) g o i j (kb j) kv' := e3.keep (fun k hk _ => Or.inl hk) (fun k C _ _ hC => keep k C hC) keepl rfl fun _ _ _ => rfl
        exact ⟨fun hj => h4.1 (by omega), fun hj => h4.2 (by omega)⟩
  · have ne : ∀ q, q < i → q < o.length → kidsN g (o.getD q 0) ≠ [] → kb q ≠ blk := by
      intro q hq hql hne e
      obtain ⟨-, -, kv', -, -, -, e3⟩ := h2 q hql
      obtain ⟨_, _, _, _, _, h5⟩ := e3.1 hq
      rcases h5 with h5 | ⟨f5, -, h6, -⟩
      · exact hne (by simpa using h5)
      · exact hS (e ▸ h6)
    by_cases hxi : x = i
    · have hyi : ¬ y = i := by omega
      simp only [if_pos hxi, if_neg hyi]
      exact (ne y (by omega) hyl ey).symm
    · by_cases hyi : y = i
      · simp only [if_neg hxi, if_pos hyi]
        exact ne x (by omega) hxl ex
      · simp only [if_neg hxi, if_neg hyi]
        exact h3 x y (by omega) (by omega) hxl hyl hne ex ey
/-- all are scanned -/
theorem CpG.done {w : World} {lo : Nat} {S : Nat → Prop} {g : List Ce} {o : List Nat} {i : Nat} {v : Value} (h : CpG w lo S g o i v) (hi : o.length ≤ i) : OwnC w lo S (o.map (cpCell g o)) v := by
  obtain ⟨xs, kb, h1, h2, h3⟩ := h
  have hat : ∀ j (hj : j < (o.map (cpCell g o)).length), (o.map (cpCell g o))[j] = cpCell g o (o.getD j 0) := fun j hj => by
    rw [List.length_map] at hj
    rw [List.getElem_map, getD_at _ _ _ hj]
  refine ⟨fun j hj => ?_, xs, kb, by rw [List.length_map]; exact h1, fun j hj => ?_, fun a b ha hb hne ea eb => ?_⟩
  · rw [hat j hj]
    rw [List.length_map] at hj
    obtain ⟨i1, i2, -⟩ := h2 j hj
    exact ⟨i1, i2⟩
  · rw [hat j hj]
    rw [List.length_map] at hj
    obtain ⟨i1, i2, kv, e0, e1, e2, e3⟩ := h2 j hj
    exact ⟨kv, e0, e1, e2, e3.1 (by omega)⟩
  · rw [hat a ha] at ea
    rw [hat b hb] at eb
    rw [List.length_map] at ha hb
    exact h3 a b (by omega) (by omega) ha hb hne (by simpa [cpCell] using ea) (by simpa [cpCell] using eb)
end Go.Proofs.Ytglpehelmlehiaa
