/-
  THE MODEL's l3Mutate: the walk.
-/
import Derived.Test.YtjdlfpdljmohiaaMgFollowInd8
import Derived.Test.YtjdlfpdljmohiaaMgFollowInd1
import Derived.Test.YtjdlfpdljmohiaaMgFollowInd7
import Derived.Test.YtjdlfpdljmohiaaMgFollowInd5
import Derived.Test.YtjdlfpdljmohiaaMgFollowInd2
import Derived.Deep.DeepCutAuto
namespace Go.Proofs.Ytjdlfpdljmohiaa
set_option linter.unusedVariables false
set_option linter.unusedSimpArgs false
open Go.RowKit

/-- a graph that may not be valid -/
def MutD (G : List Ce) (w : World) (b p : Nat) (e : Ending) (w' : World) : Prop := ∃ G' gv' p', e = .returned gv' ∧ CellsOn w' (Btw w.heap.size w'.heap.size) G' gv' ∧ G'.length = G.length ∧ RdOn w' b p' ∧ p' ≤ p + 3 ∧ But b w w'
theorem MutD.drew {G : List Ce} {w w' : World} {b p : Nat} {e : Ending} (h : MutD G w b p e w') : MutD G w b p e w'.drew := by
  obtain ⟨G', gv', p', h0, h1, h2, h3, h4, h5⟩ := h
  exact ⟨G', gv', p', h0, h1.mono (fun _ hk => hk) fun _ _ => rfl, h2, h3.drew, h4, h5.drew⟩
theorem mutD_of {G G' : List Ce} {w w' : World} {b p p' : Nat} {gv' : Value} (h1 : CellsOn w' (Btw w.heap.size w'.heap.size) G' gv') (h2 : G'.length = G.length) (h3 : RdOn w' b p') (h4 : p' ≤ p + 3) (h5 : But b w w') : MutD G w b p (.returned gv') w' := ⟨G', gv', p', rfl, h1, h2, h3, h4, h5⟩
theorem RowK.blk {w : World} {lo b0 cap : Nat} {g : List Ce} {xs : List Value} {KV : Nat → Value} (h : RowK w lo b0 cap g xs KV) : ∃ C, w.heap[b0]? = some (.cells C 35) ∧ ∀ k, k < g.length → C[k * 3]? = xs[k * 3]? ∧ C[k * 3 + 1]? = xs[k * 3 + 1]? ∧ C[k * 3 + 2]? = xs[k * 3 + 2]? := by
  rcases h.row.2 with ⟨e, -⟩ | ⟨b, cap2, cur, e, hg, hh, hn, hc, hs, htk⟩
  · cases e
  cases e
  refine ⟨cur, hh, fun k hk => ?_⟩
  have get : ∀ m, m < g.length * 3 → cur[m]? = xs[m]? := by
    intro m hm
    rw [← htk, List.getElem?_take_of_lt hm]
    simp
  exact ⟨get _ (by omega), get _ (by omega), get _ (by omega)⟩
theorem RowK.cell {w : World} {lo b0 cap : Nat} {g : List Ce} {xs : List Value} {KV : Nat → Value} (h : RowK w lo b0 cap g xs KV) (k : Nat) (hk : k < g.length) :
    w.cell? ⟨b0, k * 3, none⟩ = some (.int .i64 g[k].op) ∧ w.cell? ⟨b0, k * 3 + 1, none⟩ = some (.int .i64 g[k].num) ∧ w.cell? ⟨b0, k * 3 + 2, none⟩ = some (KV k) ∧ (∀ i, w.frozen? ⟨b0, i, none⟩ = false) := by
  obtain ⟨C, hC, hx⟩ := h.blk
  obtain ⟨a1, a2, a3, -, -⟩ := h.at' k hk
  obtain ⟨x1, x2, x3⟩ := hx k hk
  exact ⟨cell_of_blk hC _ _ (x1.trans a1), cell_of_blk hC _ _ (x2.trans a2), cell_of_blk hC _ _ (x3.trans a3), fun i => frz_of_blk hC i⟩
theorem RowK.row1 {w w1 : World} {lo b0 cap : Nat} {g : List Ce} {xs : List Value} {KV : Nat → Value} (h : RowK w lo b0 cap g xs KV) (k : Nat) (hk : k < g.length) (hg : w.grownBy w1 (KV k).ownBlock) : w1.heap[b0]? = w.heap[b0]? :=
  hg.block b0 h.lt.2 (fun e => (h.kidNe k hk e.symm) rfl)
theorem newsi (w : World) (y : Int) : ∀ j u, [Value.int .i64 y][j]? = some u → (w.alloc (.cells #[.int .i64 y] 3)).cell? ((⟨w.heap.size, 0, none⟩ : Addr).add j) = some u := by
  intro j u hu
  rw [WideShapes.add_plain, Nat.zero_add]
  exact box_cell w #[.int .i64 y] _ j u (by simpa using hu)
theorem kid_small {G : List Ce} {defs : Int} (hg : graphB G defs = true) (k : Nat) (hk : k < G.length) : G[k].kids.length ≤ 3 := (kids_graph hg k hk).1
theorem row_slice {w : World} {lo T s n : Nat} {v : Value} {xs : List Value} (h : w.ownsRow lo T s v n xs) (hn : 0 < n) (hpos : 0 < s) : ∃ g cap, v = .slice (some ⟨g, 0, none⟩) n cap ∧ n ≤ cap ∧ cap ≤ maxLen ∧ (∀ i, w.frozen? ⟨g, i, none⟩ = false) ∧ lo ≤ g ∧ g < w.heap.size ∧ (∃ u, w.cell? ⟨g, 0, none⟩ = some u) := by
  rcases h.2 with ⟨e, h0⟩ | ⟨g, cap, cur, e, hg, hh, h1, h2, h3, h4⟩
  · omega
  · refine ⟨g, cap, e, h1, h2, fun i => frz_of_blk hh i, hg, (Array.getElem?_eq_some_iff.1 hh).1, ?_⟩
    have hs : 0 < cur.size := by rw [h3]; exact Nat.mul_pos (by omega) hpos
    exact ⟨cur[0], cell_of_blk hh 0 _ (by simp [hs])⟩

set_option maxRecDepth 100000 in
set_option maxHeartbeats 1600000 in
theorem l3Mutate_calls (G : List Ce) (gv : Value) (w : World) (b p : Nat) (h : RdOn w b p) (hp : p ≤ 1000000) (hk : CIn w G gv) (hg : ∃ defs, graphB G defs = true) (hl : G.length ≤ 250) :
    Calls Try.prog 61 #[.pointer (some ⟨b, 0, none⟩), gv] w (MutD G w b p) := by
  have hbw := h.lt
  have HR := mkHid h
  have HK := mkHid hk
  have HG := mkHid hg
  obtain ⟨adg, capg, rfl, -, -, -⟩ := hk
  clear h hg
  go_enter Try.func61, Try.ntmps61
  go_wp2_with fail
  refine (l3CopyK_calls G _ w HK.out HG.out).mono ?_
  rintro e w1 ⟨v1, xs, rfl, ho1, hks1, hb1⟩
  have HR1 := mkHid (HR.out.next hb1)
  have HB1 : Hid (But b w w1) := But.of_below hb1
  have HO1 := mkHid ho1
  have HKS := mkHid hks1
  have hs1 : w.heap.size ≤ w1.heap.size := hb1.size
  by_cases hG0 : G.length = 0
  · obtain ⟨ad1, cap1, rfl⟩ := ho1.form
    clear ho1 hks1 hb1
    have hGz : (G.length : Int) = 0 := by omega
    have HC1 : Hid (CellsOn w1 (Btw w.heap.size w1.heap.size) G (.slice ad1 0 cap1)) := by
      have h : CellsOn w1 (Btw w.heap.size w1.heap.size) G (.slice ad1 G.length cap1) := (HO1.out.own fun _ h _ => h).onS fun k hk hk2 => ⟨by rw [List.mem_range'_1] at hk; exact hk.1, hk2⟩
      rw [hG0] at h
      exact h
    go_wp2_with fail
    go_ret
    exact mutD_of HC1.out rfl HR1.out (by omega) HB1.out
  obtain ⟨b0, cap1, rfl, hcap1, hcap2, -, hlo0, -, -⟩ := row_slice hks1.1 (by omega) (by omega)
  obtain ⟨KV, hrk⟩ := rowK_of ho1 hks1
  have HRK1 := mkHid hrk
  unfold maxLen at hcap2
  have hGi : ¬ (G.length : Int) = 0 := by omega
  have hGb : ((G.length : Int) == 0) = false := by simpa using hGi
  clear ho1 hks1 hb1 hrk
  go_wp2_with fail
  refine (pick_calls (G.length : Int) _ b p HR1.out (by omega) (by omega)).mono ?_
  rintro e w2 ⟨x, rfl, h0, h1, -, hr2, hb2⟩
  obtain ⟨k, rfl⟩ := Int.eq_ofNat_of_zero_le h0
  have hk : k < G.length := by have := h1 (by omega); omega
  have HR2 := mkHid hr2
  have HB2 : Hid (But b w w2) := HB1.out.trans hb2
  have HRK2 := mkHid (HRK1.out.but hb2 hbw)
  have hs2 : w.heap.size ≤ w2.heap.size := Nat.le_trans hs1 hb2.size
  clear h0 h1 hr2 hb2
  go_wp2_with fail
  refine (pick_calls 24 _ b (p + 1) HR2.out (by omega) (by omega)).mono ?_
  rintro e w3 ⟨z, rfl, -, -, -, hr3, hb3⟩
  have HR3 := mkHid hr3
  have HB3 : Hid (But b w w3) := HB2.out.trans hb3
  have HRK3 := mkHid (HRK2.out.but hb3 hbw)
  have hs3 : w.heap.size ≤ w3.heap.size := Nat.le_trans hs2 hb3.size
  clear hr3 hb3
  by_cases z0 : z = 0
  · subst z0
    go_wp2_with fail
    refine (num_calls [0, 12, 1, 11, 2] (.slice (some ⟨w3.heap.size, 0, none⟩) 5 5) _ b (p + 1 + 1) (HR3.out.next (box_below _ _)) (by omega) (ints_at w3 w3.heap.size rfl b [0, 12, 1, 11, 2] #[.int .i64 0, .int .i64 12, .int .i64 1, .int .i64 11, .int .i64 2] (by omega) rfl (ints_gen [0, 12, 1, 11, 2])) (by simp) (by simp)).mono ?_
    rintro e w4 ⟨y, rfl, hy, hr4, hb4⟩
    have hbb : But b w3 w4 := (But.of_below (box_below _ _)).trans hb4
    have HY := mkHid (rows_i64 hy (by decide))
    have HR4 := mkHid hr4
    have HB4 : Hid (But b w w4) := HB3.out.trans hbb
    have HRK4 := mkHid (HRK3.out.but hbb hbw)
    obtain ⟨c0, c1, c2, cf⟩ := HRK4.out.cell k hk
    have cf0 := cf (k * 3)
    clear hy hr4 hb4 hbb
    go_wp2_with fail
    go_ret
    exact mutD_of (HRK4.out.setOp k hk y HY.out) List.length_set (HR4.out.setCell (by show b < b0; omega) _) (by omega) (HB4.out.setNew (by exact hlo0) _)
  by_cases z1 : z = 1
  · subst z1
    go_wp2_with fail
    refine (num_calls [1000, (-1), 5, 9] (.slice (some ⟨w3.heap.size, 0, none⟩) 4 4) _ b (p + 1 + 1) (HR3.out.next (box_below _ _)) (by omega) (ints_at w3 w3.heap.size rfl b [1000, (-1), 5, 9] #[.int .i64 1000, .int .i64 (-1), .int .i64 5, .int .i64 9] (by omega) rfl (ints_gen [1000, (-1), 5, 9])) (by simp) (by simp)).mono ?_
    rintro e w4 ⟨y, rfl, hy, hr4, hb4⟩
    have hbb : But b w3 w4 := (But.of_below (box_below _ _)).trans hb4
    have HY := mkHid (rows_i64 hy (by decide))
    have HR4 := mkHid hr4
    have HB4 : Hid (But b w w4) := HB3.out.trans hbb
    have HRK4 := mkHid (HRK3.out.but hbb hbw)
    obtain ⟨c0, c1, c2, cf⟩ := HRK4.out.cell k hk
    have cf1 := cf (k * 3 + 1)
    clear hy hr4 hb4 hbb
    go_wp2_with fail
    go_ret
    exact mutD_of (HRK4.out.setNum k hk y HY.out) List.length_set (HR4.out.setCell (by show b < b0; omega) _) (by omega) (HB4.out.setNew (by exact hlo0) _)
  by_cases z2 : z = 2
  · subst z2
    obtain ⟨c0, c1, c2, cf⟩ := HRK3.out.cell k hk
    obtain ⟨adk, capk, hkv⟩ := own_frm (HRK3.out.kid k hk)
    have HKV := mkHid hkv
    rw [hkv] at c2
    have hk3 := (by obtain ⟨defs, hg⟩ := HG.out; exact kid_small hg k hk : G[k].kids.length ≤ 3)
    obtain ⟨n, hn⟩ : ∃ n, n = G[k].kids.length := ⟨_, rfl⟩
    have HNN := mkHid hn
    rw [← hn] at c2 hk3 HKV
    obtain ⟨V, hV⟩ : ∃ V : World, V = (w3.alloc (.cells #[.int .i64 0, .int .i64 1, .int .i64 (-1)] 3)).drew := ⟨_, rfl⟩
    have HV : Hid ((w3.alloc (.cells #[.int .i64 0, .int .i64 1, .int .i64 (-1)] 3)).drew = V) := hV.symm
    have HC : Hid (Calls Try.prog 60 #[.pointer (some ⟨b, 0, none⟩), .slice (some ⟨w3.heap.size, 0, none⟩) 3 3] (w3.alloc (.cells #[.int .i64 0, .int .i64 1, .int .i64 (-1)] 3)).drew (Numbered [0, 1, (-1)] (w3.alloc (.cells #[.int .i64 0, .int .i64 1, .int .i64 (-1)] 3)).drew b (p + 1 + 1))) :=
      num_calls [0, 1, (-1)] (.slice (some ⟨w3.heap.size, 0, none⟩) 3 3) _ b (p + 1 + 1) ((HR3.out.next (box_below _ _)).drew) (by omega) (ints_at w3 w3.heap.size rfl b [0, 1, (-1)] #[.int .i64 0, .int .i64 1, .int .i64 (-1)] (by omega) rfl (ints_gen [0, 1, (-1)])) (by simp) (by simp)
    obtain ⟨iI, zI, hII⟩ := infoI1
    have HII := mkHid hII
    have x1 : w3.drew.cell? ⟨b0, k * 3 + 2, none⟩ = some (.slice adk n capk) := c2
    have x2 := old_cell c2 (.cells #[.int .i64 0, .int .i64 1, .int .i64 (-1)] 3)
    have x3 : (w3.alloc (.cells #[.int .i64 0, .int .i64 1, .int .i64 (-1)] 3)).drew.cell? ⟨b0, k * 3 + 2, none⟩ = some (.slice adk n capk) := x2
    have x4 : (w3.drew.alloc (.cells #[.int .i64 0, .int .i64 1, .int .i64 (-1)] 3)).cell? ⟨b0, k * 3 + 2, none⟩ = some (.slice adk n capk) := x2
    clear c0 c1 cf hkv hn hII hV
    go_wp2_with fail
    go_region_law (first
      | (go_simp; go_at_call 60; go_must (refine HC.out.mono ?_); go_must (rintro e w4 ⟨y, rfl, hy, hr4, hb4⟩); go_must (have hbb : But b w3 w4 := ((But.of_below (box_below _ _)).drew).trans hb4); go_must (have HY := mkHid (rows_i64 hy (by decide))); go_must (have HR4 := mkHid hr4); go_must (have HB4 : Hid (But b w w4) := HB3.out.trans hbb); go_must (have HRK4 := mkHid (HRK3.out.but hbb hbw)); go_must (have d2 := (HRK4.out.cell k hk).2.2.1); go_must (rw [HKV.out] at d2); go_must (have HRK5 := mkHid (HRK4.out.but (But.of_below (b := b) (box_below w4 (.cells #[.int .i64 y] 3))) hbw)); go_must (have HOW : Hid ((w4.alloc (.cells #[.int .i64 y] 3)).ownsRow w.heap.size 3 1 (.slice adk n capk) n (G[k].kids.map fun (a : Int) => Value.int .i64 a)) := (by have h := HRK5.out.kid k hk; rw [HKV.out, ← HNN.out] at h; exact h)); go_must (have HSZ : Hid (w.heap.size ≤ (w4.alloc (.cells #[.int .i64 y] 3)).heap.size) := (by rw [Hid, Deep.nblk_alloc]; have := HB4.out.size; omega)); go_must (have e2 := old_cell d2 (.cells #[.int .i64 y] 3)); clear hy hr4 hb4 hbb)
      | (refine step_append_where rfl (.tmp 45) (.tmp 49) 33 rfl w.heap.size 3 iI zI 1 8 Try.underlying33 HII.out.1 HII.out.2.1 HII.out.2.2.1 HII.out.2.2.2.1 HII.out.2.2.2.2 (by decide) (.slice adk n capk) n (G[k].kids.map fun (a : Int) => Value.int .i64 a) (by simp [Act.eval, Act.put]) HOW.out ⟨w4.heap.size, 0, none⟩ 1 1 [.int .i64 y] (by simp [Act.eval, Act.put]) rfl (newsi w4 y) (by simp [Value.oneCell']) (by unfold maxLen; omega) (by omega) HSZ.out (by omega) ?_; go_must (intro v5 w5 hown hg hw5); go_must (have hg2 : (w4.alloc (.cells #[.int .i64 y] 3)).grownBy w5 (KV k).ownBlock := (by rw [HKV.out]; exact hg)); go_must (have HP := mkHid (HRK5.out.push k hk y v5 (by rw [← HNN.out]; exact hown) hg2)); go_must (have hrow : ∀ q, (Value.slice adk n capk).ownBlock = some q → w.heap.size ≤ q := fun q hq => (own_some HOW.out q hq).1); go_must (have HR5 : Hid (RdOn w5 b (p + 1 + 1 + 1)) := rd_grown (HR4.out.next (box_below _ _)) hg fun q hq => (by have := hrow q hq; omega)); go_must (have HB5 : Hid (But b w w5) := but_grown (HB4.out.trans (But.of_below (box_below _ _))) hg hrow); go_must (have hb5 := HRK5.out.row1 k hk hg2); go_must (have g2 : w5.cell? ⟨b0, k * 3 + 2, none⟩ = some (.slice adk n capk) := (World.cell?_of_block (w := w4.alloc (.cells #[.int .i64 y] 3)) hb5).trans e2); go_must (have gf : w5.frozen? ⟨b0, k * 3 + 2, none⟩ = false := (by obtain ⟨C, hC, -⟩ := HRK5.out.blk; exact frz_of_blk (hb5.trans hC) _)); go_must (obtain ⟨ad5, cap5, rfl⟩ := own_frm hown); clear hown hg hw5 hg2 hrow hb5))
    all_goals
      go_wp2_with fail
      go_ret
      exact mutD_of HP.out List.length_set (HR5.out.setCell (by show b < b0; omega) _) (by omega) (HB5.out.setNew (by exact hlo0) _)
  by_cases z3 : z = 3
  · subst z3
    obtain ⟨c0, c1, c2, cf⟩ := HRK3.out.cell k hk
    have hk3 := (by obtain ⟨defs, hg⟩ := HG.out; exact kid_small hg k hk : G[k].kids.length ≤ 3)
    by_cases hn0 : G[k].kids.length = 0
    · obtain ⟨adk, capk, hkv⟩ := own_frm (HRK3.out.kid k hk)
      rw [hkv, hn0] at c2
      clear c0 c1 cf hkv hk3 hn0
      go_wp2_with fail
      go_ret
      exact mutD_of HRK3.out.cells rfl HR3.out (by omega) HB3.out
    · obtain ⟨kb, capk, hkv, hnc, hcm, hkf, hkl, hkl2, u0, hu0⟩ := row_slice (HRK3.out.kid k hk) (by omega) (by omega)
      have HKV := mkHid hkv
      have HFK : Hid (∀ W, But b w3 W → W.frozen? ⟨kb, 0, none⟩ = false ∧ ∃ u, W.cell? ⟨kb, 0, none⟩ = some u) := fun W hW => by
        have h := (HRK3.out.but hW hbw).kid k hk
        obtain ⟨kb2, capk2, hkv2, -, -, hkf2, -, -, hu2⟩ := row_slice h (by omega) (by omega)
        rw [hkv] at hkv2
        cases hkv2
        exact ⟨hkf2 0, hu2⟩
      rw [hkv] at c2
      obtain ⟨n, hn⟩ : ∃ n, n = G[k].kids.length := ⟨_, rfl⟩
      have HNN := mkHid hn
      rw [← hn] at c2 hk3 HKV hn0
      have hn1 : 0 < n := by omega
      have hn2 : (0 : Int) < (n : Int) := by omega
      have HC : Hid (Calls Try.prog 60 #[.pointer (some ⟨b, 0, none⟩), .slice (some ⟨w3.heap.size, 0, none⟩) 4 4] (w3.alloc (.cells #[.int .i64 0, .int .i64 (-1), .int .i64 400, .int .i64 1] 3)).drew (Numbered [0, (-1), 400, 1] (w3.alloc (.cells #[.int .i64 0, .int .i64 (-1), .int .i64 400, .int .i64 1] 3)).drew b (p + 1 + 1))) :=
        num_calls [0, (-1), 400, 1] (.slice (some ⟨w3.heap.size, 0, none⟩) 4 4) _ b (p + 1 + 1) ((HR3.out.next (box_below _ _)).drew) (by omega) (ints_at w3 w3.heap.size rfl b [0, (-1), 400, 1] #[.int .i64 0, .int .i64 (-1), .int .i64 400, .int .i64 1] (by omega) rfl (ints_gen [0, (-1), 400, 1])) (by simp) (by simp)
      have x1 : w3.drew.cell? ⟨b0, k * 3 + 2, none⟩ = some (.slice (some ⟨kb, 0, none⟩) n capk) := c2
      have x2 := old_cell c2 (.cells #[.int .i64 0, .int .i64 (-1), .int .i64 400, .int .i64 1] 3)
      have x3 : (w3.alloc (.cells #[.int .i64 0, .int .i64 (-1), .int .i64 400, .int .i64 1] 3)).drew.cell? ⟨b0, k * 3 + 2, none⟩ = some (.slice (some ⟨kb, 0, none⟩) n capk) := x2
      have x4 : (w3.drew.alloc (.cells #[.int .i64 0, .int .i64 (-1), .int .i64 400, .int .i64 1] 3)).cell? ⟨b0, k * 3 + 2, none⟩ = some (.slice (some ⟨kb, 0, none⟩) n capk) := x2
      clear c0 c1 cf hkv hn hkf hu0
      go_wp2_with fail
      go_region_with ((go_at_call 60; go_must (refine HC.out.mono ?_); go_must (rintro e w4 ⟨y, rfl, hy, hr4, hb4⟩); go_must (have hbb : But b w3 w4 := ((But.of_below (box_below _ _)).drew).trans hb4); go_must (have HY := mkHid (rows_i64 hy (by decide))); go_must (have HR4 := mkHid hr4); go_must (have HB4 : Hid (But b w w4) := HB3.out.trans hbb); go_must (have HRK4 := mkHid (HRK3.out.but hbb hbw)); go_must (have d2 := (HRK4.out.cell k hk).2.2.1); go_must (rw [HKV.out] at d2); go_must (obtain ⟨df, u4, du⟩ := HFK.out w4 hbb); clear hy hr4 hb4 hbb))
      all_goals
        go_wp2_with fail
        go_ret
        exact mutD_of (HRK4.out.setKid k hk (by rw [← HNN.out]; exact HKV.out) y) List.length_set (HR4.out.setCell (by show b < kb; omega) _) (by omega) (HB4.out.setNew (by exact hkl) _)
  by_cases z4 : z = 4
  · subst z4
    obtain ⟨c0, c1, c2, cf⟩ := HRK3.out.cell k hk
    have HN := mkHid (HRK3.out.setAll k hk hs3)
    have d0 := old_cell c0 (.cells #[.int .i64 (k : Int)] 3)
    have d1 := old_cell c1 (.cells #[.int .i64 (k : Int)] 3)
    have d2 := old_cell c2 (.cells #[.int .i64 (k : Int)] 3)
    have hrk4 := (HRK3.out.but (But.of_below (b := b) (box_below w3 (.cells #[.int .i64 (k : Int)] 3))) hbw).cell k hk
    have df0 := hrk4.2.2.2 (k * 3)
    have df1 := hrk4.2.2.2 (k * 3 + 1)
    have df2 := hrk4.2.2.2 (k * 3 + 2)
    clear c0 c1 c2 cf hrk4
    go_wp2_with fail
    go_ret
    exact mutD_of HN.out List.length_set (((HR3.out.next (box_below _ _)).setCell (by show b < b0; omega) _ |>.setCell (by show b < b0; omega) _).setCell (by show b < b0; omega) _) (by omega) ((((HB3.out.trans (But.of_below (box_below _ _))).setNew (by exact hlo0) _).setNew (by exact hlo0) _).setNew (by exact hlo0) _)
  · have e0 : (z == 0) = false := by simpa using z0
    have e1 : (z == 1) = false := by simpa using z1
    have e2 : (z == 2) = false := by simpa using z2
    have e3 : (z == 3) = false := by simpa using z3
    have e4 : (z == 4) = false := by simpa using z4
    clear z0 z1 z2 z3 z4
    go_wp2_with fail
    go_ret
    exact mutD_of HRK3.out.cells rfl HR3.out (by omega) HB3.out
end Go.Proofs.Ytjdlfpdljmohiaa
/-
  THE MODEL's l3Case, DrawCellsFrom, DrawReadGraph: a program, a graph that may not be valid, a root that may not be one.
-/
namespace Go.Proofs.Ytjdlfpdljmohiaa
set_option linter.unusedVariables false
set_option linter.unusedSimpArgs false
open Go.RowKit

/-- a program, a graph and a root were drawn out of bytes -/
def CaseG (w : World) (e : Ending) (w' : World) : Prop :=
  ∃ ds G pv gv root, e = .returned (.tuple #[pv, gv, .int .i64 root]) ∧ progB ds = true ∧ I64 root ∧ G.length ≤ 250 ∧ DefsOn w' (PN w.heap.size w') ds pv ∧ CellsOn w' (Btw w.heap.size w'.heap.size) G gv ∧ Below w.heap.size w w'
theorem defs_down {w : World} {lo lo' : Nat} {ds : List Df} {v : Value} (h : DefsOn w (PN lo w) ds v) (hl : lo' ≤ lo) : DefsOn w (PN lo' w) ds v := h.mono (fun k hk => hk.go hl rfl) fun _ _ => rfl

set_option maxRecDepth 100000 in
set_option maxHeartbeats 1600000 in
theorem l3Case_calls (len : Nat) (v : Value) (w : World) (h : BytesOn w (Lt w.heap.size) len v) : Calls Try.prog 48 #[v] w (CaseG w) := by
  have H := mkHid h
  obtain ⟨ad, cap, rfl, -, -, -⟩ := h
  go_enter Try.func48, Try.ntmps48
  go_wp2_with fail
  refine (open_calls len _ w H.out).mono ?_
  rintro e w1 ⟨rfl, hr1, hb1⟩
  have HB1 := mkHid hb1
  obtain ⟨b, hbd⟩ : ∃ b, b = w.heap.size := ⟨_, rfl⟩
  have HBD := mkHid hbd
  rw [← hbd] at hr1 ⊢
  have hlt1 := hr1.lt
  have HR1 := mkHid hr1
  clear hb1 hbd hr1
  go_wp2_with fail
  refine (l3Draw_calls w1 b 0 HR1.out (by omega)).mono ?_
  rintro e w2 ⟨ds, G, r, pv, gv, p', rfl, hpr, hgb, hr, hl, hd2, ho2, hr2, hp2, hb2⟩
  have HP := mkHid hpr
  have HG := mkHid hgb
  have hl2 : G.length ≤ 250 := hl
  have HB2 : Hid (Below w.heap.size w w2) := HB1.out.trans (hb2.below (by rw [HBD.out]; exact Nat.le_refl _) HB1.out.size)
  have HD2 := mkHid hd2
  have HO2 := mkHid ho2
  have HR2 := mkHid hr2
  have hs1 : b < w1.heap.size := hlt1
  have hs2 := hb2.size
  obtain ⟨adp, capp, rfl, -, -, -⟩ := id hd2
  obtain ⟨adg, capg, rfl⟩ := ho2.form
  clear hpr hgb hl hd2 ho2 hr2 hb2
  go_wp2_with fail
  refine (pick_calls 12 _ b p' HR2.out (by omega) (by decide)).mono ?_
  rintro e w3 ⟨x, rfl, -, -, -, hr3, hb3⟩
  have HR3 := mkHid hr3
  have HB3 : Hid (Below w.heap.size w w3) := HB2.out.trans (hb3.below (by rw [HBD.out]; exact Nat.le_refl _) HB2.out.size)
  have HD3 := mkHid (defs_but HD2.out hb3 hs1)
  have HO3 := mkHid (HO2.out.but hb3 hs1)
  have hs3 := hb3.size
  clear hr3 hb3
  by_cases hx : x = 0
  · subst hx
    go_wp2_with fail
    refine (num_calls [0, (-1), 400] (.slice (some ⟨w3.heap.size, 0, none⟩) 3 3) _ b (p' + 1) (HR3.out.next (box_below _ _)) (by omega) (ints_at w3 w3.heap.size rfl b [0, (-1), 400] #[.int .i64 0, .int .i64 (-1), .int .i64 400] (by omega) rfl (ints_gen [0, (-1), 400])) (by simp) (by simp)).mono ?_
    rintro e w4 ⟨y, rfl, hy, hr4, hb4⟩
    have hbb : But b w3 w4 := (But.of_below (box_below _ _)).trans hb4
    have HY := mkHid (rows_i64 hy (by decide))
    have HR4 := mkHid hr4
    have HB4 : Hid (Below w.heap.size w w4) := HB3.out.trans (hbb.below (by rw [HBD.out]; exact Nat.le_refl _) HB3.out.size)
    have HD4 := mkHid (defs_but HD3.out hbb hs1)
    have HO4 := mkHid (HO3.out.but hbb hs1)
    have hs4 := hbb.size
    clear hy hr4 hb4 hbb
    go_wp2_with fail
    refine (l3Mutate_calls G _ w4 b (p' + 1 + 1) HR4.out (by omega) HO4.out.cin ⟨_, HG.out⟩ hl2).mono ?_
    rintro e w5 ⟨G', gv', p5, rfl, hc5, hl5, hr5, hp5, hb5⟩
    have HB5 : Hid (Below w.heap.size w w5) := HB4.out.trans (hb5.below (by rw [HBD.out]; exact Nat.le_refl _) HB4.out.size)
    have HD5 := mkHid (defs_but HD4.out hb5 hs1)
    have HC5 : Hid (CellsOn w5 (Btw w.heap.size w5.heap.size) G' gv') := hc5.mono (fun k hk => ⟨by have := hk.1; have := HB4.out.size; omega, hk.2⟩) fun _ _ => rfl
    have hl6 : G'.length ≤ 250 := by omega
    obtain ⟨ad5, cap5, rfl, -, -, -⟩ := id hc5
    clear hc5 hr5 hb5 hl5
    go_wp2_with fail
    exact bodyPost_ret (v := .tuple #[.slice adp ds.length capp, .slice ad5 G'.length cap5, .int .i64 y]) (by simp [results, Try.results48, go_sem]) rfl ⟨ds, G', _, _, y, rfl, HP.out, HY.out, hl6, defs_down HD5.out HB1.out.size, HC5.out, HB5.out⟩
  have hxb : (x == 0) = false := by simpa using hx
  clear hx
  go_wp2_with fail
  refine (l3Mutate_calls G _ w3 b (p' + 1) HR3.out (by omega) HO3.out.cin ⟨_, HG.out⟩ hl2).mono ?_
  rintro e w5 ⟨G', gv', p5, rfl, hc5, hl5, hr5, hp5, hb5⟩
  have HB5 : Hid (Below w.heap.size w w5) := HB3.out.trans (hb5.below (by rw [HBD.out]; exact Nat.le_refl _) HB3.out.size)
  have HD5 := mkHid (defs_but HD3.out hb5 hs1)
  have HC5 : Hid (CellsOn w5 (Btw w.heap.size w5.heap.size) G' gv') := hc5.mono (fun k hk => ⟨by have := hk.1; have := HB3.out.size; omega, hk.2⟩) fun _ _ => rfl
  have hl6 : G'.length ≤ 250 := by omega
  have HRI : Hid (I64 (r : Int)) := by unfold Hid I64; omega
  obtain ⟨ad5, cap5, rfl, -, -, -⟩ := id hc5
  clear hc5 hr5 hb5 hl5
  go_wp2_with fail
  exact bodyPost_ret (v := .tuple #[.slice adp ds.length capp, .slice ad5 G'.length cap5, .int .i64 (r : Int)]) (by simp [results, Try.results48, go_sem]) rfl ⟨ds, G', _, _, r, rfl, HP.out, HRI.out, hl6, defs_down HD5.out HB1.out.size, HC5.out, HB5.out⟩

/-- a graph and a root -/
def DrawnR (w : World) (e : Ending) (w' : World) : Prop := ∃ G gv root, e = .returned (.tuple #[gv, .int .i64 root]) ∧ I64 root ∧ G.length ≤ 250 ∧ CellsOn w' (Btw w.heap.size w'.heap.size) G gv ∧ Below w.heap.size w w'
theorem drawCells_calls (len : Nat) (v : Value) (w : World) (h : BytesOn w (Lt w.heap.size) len v) : Calls Try.prog 20 #[v] w (DrawnR w) := by
  have H := mkHid h
  obtain ⟨ad, cap, rfl, -, -, -⟩ := h
  go_enter Try.func20, Try.ntmps20
  go_wp2_with fail
  refine (l3Case_calls len _ w H.out).mono ?_
  rintro e w1 ⟨ds, G, pv, gv, root, rfl, -, hi, hl, hd, hc, hb⟩
  have HD := mkHid (And.intro hi (And.intro hl (And.intro hc hb)))
  obtain ⟨adp, capp, rfl, -, -, -⟩ := hd
  obtain ⟨adg, capg, rfl, -, -, -⟩ := hc
  clear hb hi hl
  go_wp2_with fail
  exact bodyPost_ret (v := .tuple #[.slice adg G.length capg, .int .i64 root]) (by simp [results, Try.results20, go_sem]) rfl ⟨G, _, root, rfl, HD.out.1, HD.out.2.1, HD.out.2.2.1, HD.out.2.2.2⟩
theorem drawFollow_calls (len : Nat) (v : Value) (w : World) (h : BytesOn w (Lt w.heap.size) len v) : Calls Try.prog 13 #[v] w (DrawnR w) := by
  have H := mkHid h
  obtain ⟨ad, cap, rfl, -, -, -⟩ := h
  go_enter Try.func13, Try.ntmps13
  go_wp2_with fail
  refine (drawCells_calls len _ w H.out).mono ?_
  rintro e w1 ⟨G, gv, root, rfl, hi, hl, hc, hb⟩
  have HD := mkHid (And.intro hi (And.intro hl (And.intro hc hb)))
  obtain ⟨adg, capg, rfl, -, -, -⟩ := hc
  clear hb hi hl
  go_wp2_with fail
  exact bodyPost_ret (v := .tuple #[.slice adg G.length capg, .int .i64 root]) (by simp [results, Try.results13, go_sem]) rfl ⟨G, _, root, rfl, HD.out.1, HD.out.2.1, HD.out.2.2.1, HD.out.2.2.2⟩
end Go.Proofs.Ytjdlfpdljmohiaa
/-
  PLAIN: the expression for which a cell stands, read with a budget of nodes and of depth. No program is named here.
-/
namespace Go.Proofs.Ytjdlfpdljmohiaa
set_option linter.unusedVariables false
set_option linter.unusedSimpArgs false

/-- the trees of a list of cells, one behind the other, with what is left of the budget -/
def readKids (f : Nat → Nat → Option (Tr × Nat)) : List Nat → Nat → Option (List Tr × Nat)
  | [], l => some ([], l)
  | k :: ks, l => match f k l with
    | none => none
    | some (t, l') => match readKids f ks l' with
      | none => none
      | some (ts, l'') => some (t :: ts, l'')
def readT (g : List Ce) : Nat → Nat → Nat → Option (Tr × Nat)
  | 0, _, _ => none
  | d + 1, a, l => match followN g g.length a with
    | none => none
    | some b => match l with
      | 0 => none
      | l + 1 => match readKids (readT g d) (kidsN g b) l with
        | none => none
        | some (ts, l') => some (.node (g.getD b ⟨0, 0, []⟩).op (g.getD b ⟨0, 0, []⟩).num ts, l')
theorem readKids_snoc (f : Nat → Nat → Option (Tr × Nat)) : ∀ (ks : List Nat) (k l : Nat), readKids f (ks ++ [k]) l = match readKids f ks l with
    | none => none
    | some (ts, l') => match f k l' with
      | none => none
      | some (t, l'') => some (ts ++ [t], l'')
  | [], k, l => by
    simp only [List.nil_append, readKids]
  | x :: ks, k, l => by
    simp only [List.cons_append, readKids]
    cases f x l with
    | none => rfl
    | some p =>
      obtain ⟨t, l'⟩ := p
      simp only [readKids_snoc f ks k l']
      cases readKids f ks l' with
      | none => rfl
      | some q =>
        obtain ⟨ts, l2⟩ := q
        simp only
        cases f k l2 with
        | none => rfl
        | some r => obtain ⟨t2, l3⟩ := r; rfl
theorem readKids_some_snoc {f : Nat → Nat → Option (Tr × Nat)} {ks : List Nat} {k l l' l'' : Nat} {ts : List Tr} {t : Tr} (h : readKids f ks l = some (ts, l')) (h' : f k l' = some (t, l'')) : readKids f (ks ++ [k]) l = some (ts ++ [t], l'') := by
  rw [readKids_snoc, h]; simp only [h']
theorem readKids_none_snoc {f : Nat → Nat → Option (Tr × Nat)} {ks : List Nat} {k l l' : Nat} {ts : List Tr} (h : readKids f ks l = some (ts, l')) (h' : f k l' = none) : readKids f (ks ++ [k]) l = none := by
  rw [readKids_snoc, h]; simp only [h']
theorem readKids_none_append {f : Nat → Nat → Option (Tr × Nat)} : ∀ (ks js : List Nat) (l : Nat), readKids f ks l = none → readKids f (ks ++ js) l = none
  | [], _, _, h => by simp [readKids] at h
  | x :: ks, js, l, h => by
    simp only [List.cons_append, readKids] at h ⊢
    cases hx : f x l with
    | none => rfl
    | some p =>
      obtain ⟨t, l'⟩ := p
      rw [hx] at h
      simp only at h ⊢
      cases hk : readKids f ks l' with
      | none => rw [readKids_none_append ks js l' hk]
      | some q => rw [hk] at h; simp at h
theorem readKids_none_take {f : Nat → Nat → Option (Tr × Nat)} {ks : List Nat} {j l : Nat} (h : readKids f (ks.take j) l = none) : readKids f ks l = none := by
  have := readKids_none_append (ks.take j) (ks.drop j) l h
  rwa [List.take_append_drop] at this
theorem readKids_len {f : Nat → Nat → Option (Tr × Nat)} : ∀ (ks : List Nat) (l : Nat) (ts : List Tr) (l' : Nat), readKids f ks l = some (ts, l') → ts.length = ks.length
  | [], _, _, _, h => by simp [readKids] at h; obtain ⟨rfl, -⟩ := h; rfl
  | x :: ks, l, ts, l', h => by
    simp only [readKids] at h
    cases hx : f x l with
    | none => rw [hx] at h; simp at h
    | some p =>
      obtain ⟨t, l1⟩ := p
      rw [hx] at h
      simp only at h
      cases hk : readKids f ks l1 with
      | none => rw [hk] at h; simp at h
      | some q =>
        obtain ⟨us, l2⟩ := q
        rw [hk] at h
        simp only [Option.some.injEq, Prod.mk.injEq] at h
        obtain ⟨rfl, -⟩ := h
        simp [readKids_len ks l1 us l2 hk]
theorem readKids_left {f : Nat → Nat → Option (Tr × Nat)} (hf : ∀ k l t l', f k l = some (t, l') → l' ≤ l) : ∀ (ks : List Nat) (l : Nat) (ts : List Tr) (l' : Nat), readKids f ks l = some (ts, l') → l' ≤ l
  | [], _, _, _, h => by simp [readKids] at h; omega
  | x :: ks, l, ts, l', h => by
    simp only [readKids] at h
    cases hx : f x l with
    | none => rw [hx] at h; simp at h
    | some p =>
      obtain ⟨t, l1⟩ := p
      rw [hx] at h
      simp only at h
      cases hk : readKids f ks l1 with
      | none => rw [hk] at h; simp at h
      | some q =>
        obtain ⟨us, l2⟩ := q
        rw [hk] at h
        simp only [Option.some.injEq, Prod.mk.injEq] at h
        have := hf x l t l1 hx
        have := readKids_left hf ks l1 us l2 hk
        omega
theorem readT_left (g : List Ce) : ∀ (d a l : Nat) (t : Tr) (l' : Nat), readT g d a l = some (t, l') → l' ≤ l
  | 0, _, _, _, _, h => by simp [readT] at h
  | d + 1, a, l, t, l', h => by
    unfold readT at h
    cases hf : followN g g.length a with
    | none => rw [hf] at h; simp at h
    | some b =>
      rw [hf] at h
      cases l with
      | zero => simp at h
      | succ l =>
        simp only at h
        cases hk : readKids (readT g d) (kidsN g b) l with
        | none => rw [hk] at h; simp at h
        | some q =>
          obtain ⟨ts, l2⟩ := q
          rw [hk] at h
          simp only [Option.some.injEq, Prod.mk.injEq] at h
          have := readKids_left (fun k l t l' => readT_left g d k l t l') (kidsN g b) l ts l2 hk
          omega
theorem readT_fol {g : List Ce} {d a l : Nat} (h : followN g g.length a = none) : readT g (d + 1) a l = none := by unfold readT; rw [h]
theorem readT_zero {g : List Ce} {d a : Nat} : readT g (d + 1) a 0 = none := by unfold readT; cases followN g g.length a <;> rfl
theorem readT_bad {g : List Ce} {d a b l : Nat} (h : followN g g.length a = some b) (hk : readKids (readT g d) (kidsN g b) l = none) : readT g (d + 1) a (l + 1) = none := by unfold readT; rw [h]; simp only [hk]
theorem readT_ok {g : List Ce} {d a b l l' : Nat} {ts : List Tr} (hb : b < g.length) (h : followN g g.length a = some b) (hk : readKids (readT g d) (kidsN g b) l = some (ts, l')) : readT g (d + 1) a (l + 1) = some (.node g[b].op g[b].num ts, l') := by
  unfold readT; rw [h]; simp only [hk, getD_at _ _ _ hb]
theorem readKids_sz {f : Nat → Nat → Option (Tr × Nat)} (hf : ∀ k l t l', f k l = some (t, l') → l' + 1 + szT t ≤ l) : ∀ (ks : List Nat) (l : Nat) (ts : List Tr) (l' : Nat), readKids f ks l = some (ts, l') → l' + szL ts ≤ l
  | [], _, _, _, h => by simp [readKids] at h; obtain ⟨rfl, rfl⟩ := h; simp [szL]
  | x :: ks, l, ts, l', h => by
    simp only [readKids] at h
    cases hx : f x l with
    | none => rw [hx] at h; simp at h
    | some p =>
      obtain ⟨t, l1⟩ := p
      rw [hx] at h
      simp only at h
      cases hk : readKids f ks l1 with
      | none => rw [hk] at h; simp at h
      | some q =>
        obtain ⟨us, l2⟩ := q
        rw [hk] at h
        simp only [Option.some.injEq, Prod.mk.injEq] at h
        obtain ⟨rfl, rfl⟩ := h
        have := hf x l t l1 hx
        have := readKids_sz hf ks l1 us l2 hk
        simp only [szL]
        omega
theorem readT_sz (g : List Ce) : ∀ (d a l : Nat) (t : Tr) (l' : Nat), readT g d a l = some (t, l') → l' + 1 + szT t ≤ l
  | 0, _, _, _, _, h => by simp [readT] at h
  | d + 1, a, l, t, l', h => by
    unfold readT at h
    cases hf : followN g g.length a with
    | none => rw [hf] at h; simp at h
    | some b =>
      rw [hf] at h
      cases l with
      | zero => simp at h
      | succ l =>
        simp only at h
        cases hk : readKids (readT g d) (kidsN g b) l with
        | none => rw [hk] at h; simp at h
        | some q =>
          obtain ⟨ts, l2⟩ := q
          rw [hk] at h
          simp only [Option.some.injEq, Prod.mk.injEq] at h
          obtain ⟨rfl, rfl⟩ := h
          have := readKids_sz (fun k l t l' => readT_sz g d k l t l') (kidsN g b) l ts l2 hk
          rw [szT_eq]
          simp only [Tr.kids_node]
          omega
end Go.Proofs.Ytjdlfpdljmohiaa
/-
  WHAT ReadGraph ANSWERS, plainly.
-/
namespace Go.Proofs.Ytjdlfpdljmohiaa
set_option linter.unusedVariables false
set_option linter.unusedSimpArgs false
open Go.RowKit

/-- what ReadGraph answers -/
def readB (g : List Ce) (root defs : Int) : Option Tr := if graphB g defs = true ∧ isAt g.length root = true then (readT g 16 root.toNat 60).map (·.1) else none
/-- an expression in new memory, all blocks distinct, and whether there is one -/
def ReadOut (o : Option Tr) (w : World) (e : Ending) (w' : World) : Prop :=
  match o with
  | none => e = .returned (.tuple #[.agg #[.int .i64 0, .int .i64 0, .slice none 0 0], .bool false]) ∧ Below w.heap.size w w'
  | some t => ∃ v, e = .returned (.tuple #[.agg #[.int .i64 t.op, .int .i64 t.num, v], .bool true]) ∧ Fresh w' w.heap.size t.kids v ∧ I64 t.op ∧ I64 t.num ∧ Below w.heap.size w w'
theorem graphB_six {g : List Ce} {defs : Int} (h : graphB g defs = true) : graphB g 6 = true := by
  unfold graphB at h ⊢
  simp only [Bool.and_eq_true, decide_eq_true_eq, List.all_eq_true] at h ⊢
  obtain ⟨h1, h2⟩ := h
  refine ⟨by omega, fun c hc => ?_⟩
  have h3 := h2 c hc
  unfold cellB fitsB at h3 ⊢
  simp only [Bool.and_eq_true] at h3 ⊢
  refine ⟨⟨h3.1.1, ?_⟩, h3.2⟩
  have h4 := h3.1.2
  unfold ownB at h4 ⊢
  by_cases e1 : c.op = 1
  · rw [if_pos e1] at h4 ⊢; exact h4
  rw [if_neg e1] at h4 ⊢
  by_cases e2 : c.op = 2
  · rw [if_pos e2] at h4 ⊢; exact h4
  rw [if_neg e2] at h4 ⊢
  by_cases e3 : c.op = 3
  · rw [if_pos e3] at h4 ⊢; simp at h4 ⊢; omega
  rw [if_neg e3] at h4 ⊢; exact h4
theorem readB_no {g : List Ce} {root defs : Int} (h : ¬ (graphB g defs = true ∧ isAt g.length root = true)) : readB g root defs = none := by unfold readB; rw [if_neg h]
theorem readB_yes {g : List Ce} {root defs : Int} (h : graphB g defs = true ∧ isAt g.length root = true) : readB g root defs = (readT g 16 root.toNat 60).map (·.1) := by unfold readB; rw [if_pos h]

/-- the result's box is written: another block stays -/
theorem box_stay {w : World} {R B : Nat} {x y z : Value} {o : Obj} (h : w.heap[R]? = some o) (hne : R ≠ B) : (((w.setCell ⟨B, 0, none⟩ x).setCell ⟨B, 1, none⟩ y).setCell ⟨B, 2, none⟩ z).heap[R]? = some o := by
  rw [Below.heap_setCell _ _ _ _ (by show R ≠ B; exact hne), Below.heap_setCell _ _ _ _ (by show R ≠ B; exact hne), Below.heap_setCell _ _ _ _ (by show R ≠ B; exact hne)]
  exact h
theorem box_but {fp : List Nat} {w w1 : World} {x y z : Value} (h : Below w.heap.size w w1) : ButL fp w (((w1.setCell ⟨w.heap.size, 0, none⟩ x).setCell ⟨w.heap.size, 1, none⟩ y).setCell ⟨w.heap.size, 2, none⟩ z) :=
  ButL.of_below (((h.setCell (Nat.le_refl _) _).setCell (Nat.le_refl _) _).setCell (Nat.le_refl _) _)

theorem readB_sz (g : List Ce) (root defs : Int) : ∀ t, readB g root defs = some t → szT t ≤ 60 := by
  intro t h
  unfold readB at h
  split at h
  · cases hr : readT g 16 root.toNat 60 with
    | none => rw [hr] at h; simp at h
    | some q =>
      obtain ⟨t', l⟩ := q
      rw [hr] at h
      simp only [Option.map_some, Option.some.injEq] at h
      subst h
      have := readT_sz g 16 _ _ _ _ hr
      omega
  · simp at h
theorem fresh_shape {w : World} {lo : Nat} {ks : List Tr} {v : Value} (h : Fresh w lo ks v) : ∃ ad cap, v = .slice ad ks.length cap := by
  obtain ⟨ad, cap, e, -⟩ := h.on
  exact ⟨ad, cap, e⟩
theorem fresh_nil (w : World) (lo : Nat) : Fresh w lo [] (.slice none 0 0) := (OwnF.nil w lo lo).fresh
end Go.Proofs.Ytjdlfpdljmohiaa
/-
  PLAIN: a cell and the cell for which it stands are read as the same; it can be reached.
-/
namespace Go.Proofs.Ytjdlfpdljmohiaa
set_option linter.unusedVariables false
set_option linter.unusedSimpArgs false
open Go.RowKit

theorem reach_trans {g : List Ce} {a b c : Nat} (h1 : Reach g a b) (h2 : Reach g b c) : Reach g a c := by
  induction h2 with
  | root => exact h1
  | kid x k _ hk ih => exact .kid x k ih hk
theorem follow_reach {g : List Ce} {defs : Int} (hg : graphB g defs = true) : ∀ (n a b : Nat), a < g.length → followN g n a = some b → Reach g a b
  | 0, a, b, _, h => by simp [followN] at h
  | n + 1, a, b, ha, h => by
    unfold followN at h
    split at h
    · rename_i ho
      have ho' : g[a].op = 11 := by unfold opAt at ho; rwa [getD_at _ _ _ ha] at ho
      obtain ⟨k, hk1, hk2, hk3⟩ := ind_kid hg a ha ho'
      rw [hk3] at h
      have h5 := follow_reach hg n k b hk2 h
      refine reach_trans (.kid a k .root ?_) h5
      rw [kidsN_at a ha, hk1]
      simp
    · simp only [Option.some.injEq] at h
      subst h
      exact .root
theorem follow_self {g : List Ce} {b : Nat} (hb : b < g.length) (ho : opAt g b ≠ 11) : followN g g.length b = some b := by
  obtain ⟨m, hm⟩ : ∃ m, g.length = m + 1 := ⟨g.length - 1, by omega⟩
  rw [hm]
  unfold followN
  rw [if_neg ho]
/-- what FollowInd finds -/
theorem fol_facts {g : List Ce} {a : Int} {b : Nat} (h : followB g a = some b) : graphB g 6 = true ∧ 0 ≤ a ∧ a < g.length ∧ b < g.length ∧ opAt g b ≠ 11 ∧ Reach g a.toNat b ∧ readB g a 6 = readB g (b : Int) 6 := by
  unfold followB at h
  split at h
  · rename_i hc
    obtain ⟨hg, h0, h1⟩ := hc
    have ha : a.toNat < g.length := by omega
    obtain ⟨hb, ho⟩ := followN_lt hg _ _ _ ha h
    refine ⟨hg, h0, h1, hb, ho, follow_reach hg _ _ _ ha h, ?_⟩
    have e1 : isAt g.length a = true := by unfold isAt; simp; omega
    have e2 : isAt g.length (b : Int) = true := by unfold isAt; simp; omega
    rw [readB_yes ⟨hg, e1⟩, readB_yes ⟨hg, e2⟩, Int.toNat_natCast]
    congr 1
    unfold readT
    rw [h, follow_self hb ho]
  · cases h
end Go.Proofs.Ytjdlfpdljmohiaa
/-
  PLAIN: the places that are set, in order.
-/
namespace Go.Proofs.Ytjdlfpdljmohiaa
set_option linter.unusedVariables false
set_option linter.unusedSimpArgs false

theorem numsN_mem (f : Nat → Bool) : ∀ n a, a ∈ numsN f n ↔ a < n ∧ f a = true
  | 0, a => by simp [numsN]
  | n + 1, a => by
    cases h : f n with
    | true =>
      rw [numsN_yes h, List.mem_append, numsN_mem f n a, List.mem_singleton]
      constructor
      · rintro (⟨h1, h2⟩ | rfl)
        · exact ⟨by omega, h2⟩
        · exact ⟨by omega, h⟩
      · rintro ⟨h1, h2⟩
        by_cases e : a = n
        · exact Or.inr e
        · exact Or.inl ⟨by omega, h2⟩
    | false =>
      rw [numsN_no h, numsN_mem f n a]
      constructor
      · rintro ⟨h1, h2⟩
        exact ⟨by omega, h2⟩
      · rintro ⟨h1, h2⟩
        refine ⟨?_, h2⟩
        by_cases e : a = n
        · subst e; rw [h] at h2; cases h2
        · omega
theorem numsTo_mem (f : Nat → Bool) (n : Nat) (x : Int) : x ∈ numsTo f n ↔ ∃ a : Nat, x = (a : Int) ∧ a < n ∧ f a = true := by
  unfold numsTo
  rw [List.mem_map]
  constructor
  · rintro ⟨a, ha, rfl⟩
    exact ⟨a, rfl, (numsN_mem f n a).1 ha⟩
  · rintro ⟨a, rfl, ha⟩
    exact ⟨a, (numsN_mem f n a).2 ha, rfl⟩
end Go.Proofs.Ytjdlfpdljmohiaa
/-
  THE LAWS' OWN SEARCH IN A LIST (glIn) AND COMPARISON OF LISTS (glInts).
-/
namespace Go.Proofs.Ytjdlfpdljmohiaa
set_option linter.unusedVariables false
set_option linter.unusedSimpArgs false
open Go.RowKit

set_option maxHeartbeats 800000 in
theorem glIn_calls (L : List Int) (v : Value) (x : Int) (w : World) (h : IIn w L v) : Calls Try.prog 18 #[v, .int .i64 x] w fun e w' => e = .returned (.bool (decide (x ∈ L))) ∧ Below w.heap.size w w' := by
  have HK := mkHid h
  obtain ⟨ad, cap, rfl, hl, hm, -⟩ := h
  unfold maxLen at hm
  obtain ⟨r, hr⟩ : ∃ r, r = decide (x ∈ L) := ⟨_, rfl⟩
  rw [← hr]
  have HR := mkHid hr
  clear hr
  go_enter Try.func18, Try.ntmps18
  go_wp2_with fail
  go_loopw [5] (fun iv wr => ∃ k : Nat, k ≤ L.length ∧ iv = .int .i64 (k : Int) ∧ Hid (∀ j (hj : j < L.length), j < k → L[j] ≠ x) ∧ Below w.heap.size w wr) (fun iv _ => L.length - (intOf iv).toNat)
  case atStart => exact ⟨0, Nat.zero_le _, rfl, fun j hj h => by omega, Below.refl _ _⟩
  case round =>
    obtain ⟨k, hk, rfl, HN, hb⟩ := hrel
    by_cases hlt : k < L.length
    · obtain ⟨bl, off, rfl, c0⟩ := (HK.out.next hb).at k hlt
      by_cases hx : L[k] = x
      · have HV : Hid (r = true) := by rw [Hid, HR.out]; simp only [decide_eq_true_eq]; rw [← hx]; exact List.getElem_mem hlt
        have t1 : (L[k] == x) = true := by simpa using hx
        go_wp2_with fail
        go_ret
        exact ⟨ret_bool HV.out.symm, hb⟩
      · have t1 : (L[k] == x) = false := by simpa using hx
        have HN2 : Hid (∀ j (hj : j < L.length), j < k + 1 → L[j] ≠ x) := fun j hj h => by
          by_cases e : j = k
          · subst e; exact hx
          · exact HN.out j hj (by omega)
        clear hx
        go_wp2_with fail
        go_roundw
        case rel => exact ⟨k + 1, by omega, by go_num, HN2, hb⟩
        case measure => simp [intOf]; omega
    · have HV : Hid (r = false) := by
        rw [Hid, HR.out]
        simp only [decide_eq_false_iff_not]
        intro hm
        obtain ⟨j, hj, e⟩ := List.getElem_of_mem hm
        exact HN.out j hj (by omega) e
      go_wp2_with fail
      go_ret
      exact ⟨ret_bool HV.out.symm, hb⟩

end Go.Proofs.Ytjdlfpdljmohiaa
/-
  WHAT ReadGraph ANSWERS, both ways in one form, with its numbers' size.
-/
namespace Go.Proofs.Ytjdlfpdljmohiaa
set_option linter.unusedVariables false
set_option linter.unusedSimpArgs false
open Go.RowKit

def RdOne (t : Tr) (b : Bool) (W : World) (en : Ending) (w' : World) : Prop := ∃ v, en = .returned (.tuple #[.agg #[.int .i64 t.op, .int .i64 t.num, v], .bool b]) ∧ Fresh w' W.heap.size t.kids v ∧ (I64 t.op ∧ I64 t.num) ∧ Below W.heap.size W w'
theorem readOut_two (o : Option Tr) (hs : ∀ t, o = some t → szT t ≤ 60) : ∃ (t : Tr) (b : Bool), b = o.isSome ∧ (∀ x, o = some x → t = x) ∧ (o = none → t = .node 0 0 []) ∧ szT t ≤ 60 ∧ ∀ (W : World) (en : Ending) (w' : World), ReadOut o W en w' → RdOne t b W en w' := by
  cases o with
  | none => exact ⟨.node 0 0 [], false, rfl, fun x h => by (cases h), fun _ => rfl, by simp [szT_eq, szL], fun W en w' h => ⟨_, h.1, fresh_nil _ _, ⟨by simp [I64], by simp [I64]⟩, h.2⟩⟩
  | some t => exact ⟨t, true, rfl, fun x h => by (cases h; rfl), fun h => by (cases h), hs t rfl, fun W en w' h => by obtain ⟨v, h1, h2, h3, h4, h5⟩ := h; exact ⟨v, h1, h2, ⟨h3, h4⟩, h5⟩⟩
end Go.Proofs.Ytjdlfpdljmohiaa
/-
  THE MODEL's l3Follow AND FollowInd; nothing that was there is changed.
-/
namespace Go.Proofs.Ytjdlfpdljmohiaa
set_option linter.unusedVariables false
set_option linter.unusedSimpArgs false
open Go.RowKit

set_option maxHeartbeats 800000 in
theorem specFollow_calls (g : List Ce) (a : Int) (v : Value) (w : World) (hk : CIn w g v) :
    Calls Try.prog 15 #[v, .int .i64 a] w fun e w' => e = .returned (.tuple #[.int .i64 (folV g a), .bool (folB g a)]) ∧ Below w.heap.size w w' := by
  have HK : Hid (CIn w g v) := hk
  obtain ⟨ad, cap, rfl, hl, hm, -⟩ := hk
  unfold maxLen at hm
  go_enter Try.func15, Try.ntmps15
  go_wp2_with fail
  refine (specGraph_calls g 6 _ _ HK.out).mono ?_
  rintro e w1 ⟨rfl, hb1⟩
  have HB1 : Hid (Below w.heap.size w w1) := hb1
  clear hb1
  cases hg : graphB g 6 with
  | false =>
    have HV : Hid (folV g a = 0 ∧ folB g a = false) := fol_no (by rw [hg]; simp)
    clear hg
    go_wp2_with fail
    go_ret2
    exact ⟨ret_ib HV.out.1.symm HV.out.2.symm, HB1.out⟩
  | true =>
    have HG : Hid (graphB g 6 = true) := hg
    clear hg
    by_cases h0 : a < 0
    · have HV : Hid (folV g a = 0 ∧ folB g a = false) := fol_no (by rintro ⟨-, h1, -⟩; omega)
      go_wp2_with fail
      go_ret2
      exact ⟨ret_ib HV.out.1.symm HV.out.2.symm, HB1.out⟩
    by_cases h1 : (g.length : Int) ≤ a
    · have HV : Hid (folV g a = 0 ∧ folB g a = false) := fol_no (by rintro ⟨-, -, h⟩; omega)
      go_wp2_with fail
      go_ret2
      exact ⟨ret_ib HV.out.1.symm HV.out.2.symm, HB1.out⟩
    obtain ⟨n, rfl⟩ : ∃ n : Nat, a = (n : Int) := ⟨a.toNat, by omega⟩
    have hn : n < g.length := by omega
    go_wp2_with fail
    refine (l3Follow_calls g n _ _ (HK.out.next HB1.out) ⟨6, HG.out⟩ hn).mono ?_
    rintro e w2 ⟨rfl, hb2⟩
    have HB2 : Hid (Below w.heap.size w w2) := HB1.out.trans (hb2.mono HB1.out.size)
    clear hb2
    rw [follow_enough HG.out n hn]
    cases hf : followN g g.length n with
    | none =>
      have HV : Hid (folV g (n : Int) = 0 ∧ folB g (n : Int) = false) := fol_none ⟨HG.out, by omega, by omega⟩ (by simpa using hf)
      clear hf
      have e1 : folI none = -1 := rfl
      rw [e1]
      go_wp2_with fail
      go_ret2
      exact ⟨ret_ib HV.out.1.symm HV.out.2.symm, HB2.out⟩
    | some b =>
      have HV : Hid (folV g (n : Int) = (b : Int) ∧ folB g (n : Int) = true) := fol_some ⟨HG.out, by omega, by omega⟩ (by simpa using hf)
      clear hf
      have e1 : folI (some b) = (b : Int) := rfl
      rw [e1]
      have hbn : ¬ ((b : Int) < 0) := by omega
      go_wp2_with fail
      go_ret2
      exact ⟨ret_ib HV.out.1.symm HV.out.2.symm, HB2.out⟩
end Go.Proofs.Ytjdlfpdljmohiaa
/-
  THE PROGRAM's GraphValid (cellFits, isCell, areCells); nothing that was there is changed.
-/
namespace Go.Proofs.Ytjdlfpdljmohiaa
set_option linter.unusedVariables false
set_option linter.unusedSimpArgs false
open Go.RowKit

set_option maxHeartbeats 400000 in
theorem isCell_calls (n cap : Nat) (ad : Option Addr) (a : Int) (w : World) (hn : n ≤ 9223372036854775807) :
    Calls Try.prog 45 #[.slice ad n cap, .int .i64 a] w fun e w' => e = .returned (.bool (isAt n a)) ∧ Below w.heap.size w w' := by
  by_cases h0 : 0 ≤ a
  · by_cases h1 : a < (n : Int)
    · have HV : Hid (isAt n a = true) := isAt_in h0 h1
      go_enter Try.func45, Try.ntmps45
      go_wp2_with fail
      go_ret
      exact ⟨ret_bool HV.out.symm, Below.refl _ _⟩
    · have HV : Hid (isAt n a = false) := isAt_hi h1
      go_enter Try.func45, Try.ntmps45
      go_wp2_with fail
      go_ret
      exact ⟨ret_bool HV.out.symm, Below.refl _ _⟩
  · have HV : Hid (isAt n a = false) := isAt_lo (by omega)
    go_enter Try.func45, Try.ntmps45
    go_wp2_with fail
    go_ret
    exact ⟨ret_bool HV.out.symm, Below.refl _ _⟩

set_option maxHeartbeats 800000 in
theorem areCells_calls (n cap : Nat) (ad : Option Addr) (xs : List Int) (v : Value) (w : World) (hn : n ≤ 9223372036854775807) (hk : IIn w xs v) :
    Calls Try.prog 56 #[.slice ad n cap, v] w fun e w' => e = .returned (.bool (xs.all (isAt n))) ∧ Below w.heap.size w w' := by
  have HK : Hid (IIn w xs v) := hk
  obtain ⟨ad2, cap2, rfl, hl, hm, -⟩ := hk
  unfold maxLen at hm
  go_enter Try.func56, Try.ntmps56
  go_wp2_with fail
  go_loopw [9] (fun i wr => ∃ k : Nat, k ≤ xs.length ∧ i = .int .i64 k ∧ (xs.take k).all (isAt n) = true ∧ Below w.heap.size w wr) (fun i _ => xs.length - (intOf i).toNat)
  case atStart => exact ⟨0, Nat.zero_le _, rfl, by simp, Below.refl _ _⟩
  case round =>
    obtain ⟨k, hk, rfl, hall, hb⟩ := hrel
    have HA : Hid ((xs.take k).all (isAt n) = true) := hall
    have HB : Hid (Below w.heap.size w wr) := hb
    clear hall hb
    by_cases hlt : k < xs.length
    · obtain ⟨bl, off, rfl, d0⟩ := (HK.out.next HB.out).at k hlt
      go_wp2_with fail
      refine (isCell_calls n cap ad xs[k] _ hn).mono ?_
      rintro e w1 ⟨rfl, hb1⟩
      have HB1 : Hid (Below w.heap.size w w1) := HB.out.trans (hb1.mono HB.out.size)
      clear hb1 d0
      cases hc : isAt n xs[k] with
      | false =>
        have HV : Hid (xs.all (isAt n) = false) := allI_false_of _ _ k hlt hc
        clear hc
        go_wp2_with fail
        go_ret
        exact ⟨ret_bool HV.out.symm, HB1.out⟩
      | true =>
        have HA2 : Hid ((xs.take (k + 1)).all (isAt n) = true) := by rw [Hid, allI_take_succ _ _ _ hlt, HA.out, hc]; rfl
        clear hc
        go_wp2_with fail
        go_roundw
        case rel => exact ⟨k + 1, by omega, by go_num, HA2.out, HB1.out⟩
        case measure => simp [intOf]; omega
    · have hke : xs.length = k := by omega
      have HV : Hid (xs.all (isAt n) = true) := all_end HA.out hke
      clear hke
      go_wp2_with fail
      go_ret
      exact ⟨ret_bool HV.out.symm, HB.out⟩

/-- cellFits, for a kind with a node -/
theorem fits_node {defs op num : Int} {n : Nat} (h : op ≠ 11) : topC op num n 0 defs = (decide ((n : Int) = cArity op) && ownB op num 0 defs) := by
  unfold topC cArity; rw [if_neg h]

set_option maxRecDepth 100000 in
set_option maxHeartbeats 800000 in
theorem cellFits_node (op num defs : Int) (n cap : Nat) (ad : Option Addr) (T : TypeId) (x : Value) (K : FuncId) (ok fit : Bool) (hn : NodeAt 0 defs op num n T x K ok fit) (h11 : op ≠ 11) (hm : n ≤ 9223372036854775807) (w : World) :
    Calls Try.prog 55 #[.agg #[.int .i64 op, .int .i64 num, .slice ad n cap], .int .i64 defs] w fun e w' => e = .returned (.bool (topC op num n 0 defs)) ∧ Below w.heap.size w w' := by
  have HN : Hid (NodeAt 0 defs op num n T x K ok fit) := hn
  have HBX : Hid (Below w.heap.size w (w.alloc (.cells #[.int .i64 op, .int .i64 num, .slice ad n cap] 35))) := box_below _ _
  have hme := hn.meth
  have hen := hn.enters
  have HT : Hid ((ok && fit) = topC op num n 0 defs) := hn.top
  have t11 : (op == 11) = false := by simpa using h11
  clear hn h11
  cases hok : ok with
  | false =>
    subst hok
    have HV : Hid (topC op num n 0 defs = false) := by have := HT.out; rw [Bool.false_and] at this; exact this.symm
    clear hme hen
    go_enter Try.func55, Try.ntmps55
    go_wp2_with fail
    refine (HN.out.node _).mono ?_
    rintro e w1 ⟨rfl, hb⟩
    have HB : Hid (Below w.heap.size w w1) := HBX.out.trans (hb.mono HBX.out.size)
    clear hb
    go_wp2_with fail
    go_ret
    exact ⟨ret_bool HV.out.symm, HB.out⟩
  | true =>
    subst hok
    have HV : Hid (topC op num n 0 defs = fit) := by have := HT.out; rw [Bool.true_and] at this; exact this.symm
    go_enter Try.func55, Try.ntmps55
    go_wp2_with fail
    refine (HN.out.node _).mono ?_
    rintro e w1 ⟨rfl, hb⟩
    have HB : Hid (Below w.heap.size w w1) := HBX.out.trans (hb.mono HBX.out.size)
    clear hb
    go_wp2_with fail
    refine (HN.out.fits rfl _).mono ?_
    rintro e w2 ⟨rfl, hb⟩
    have HB2 : Hid (Below w.heap.size w w2) := HB.out.trans (hb.mono HB.out.size)
    clear hb
    go_wp2_with fail
    go_ret
    exact ⟨ret_bool HV.out.symm, HB2.out⟩

set_option maxHeartbeats 800000 in
theorem cellFits_ind (num defs : Int) (n cap : Nat) (ad : Option Addr) (hm : n ≤ 9223372036854775807) (w : World) :
    Calls Try.prog 55 #[.agg #[.int .i64 11, .int .i64 num, .slice ad n cap], .int .i64 defs] w fun e w' => e = .returned (.bool ((num == 0) && ((n : Int) == 1))) ∧ Below w.heap.size w w' := by
  have HBX : Hid (Below w.heap.size w (w.alloc (.cells #[.int .i64 11, .int .i64 num, .slice ad n cap] 35))) := box_below _ _
  cases hnum : (num == 0) with
  | false =>
    go_enter Try.func55, Try.ntmps55
    go_wp2_with fail
    go_ret
    exact ⟨rfl, HBX.out⟩
  | true =>
    go_enter Try.func55, Try.ntmps55
    go_wp2_with fail
    go_ret
    exact ⟨rfl, HBX.out⟩

theorem cellFits_calls (c : Ce) (defs : Int) (v : Value) (w : World) (hk : IIn w c.kids v) :
    Calls Try.prog 55 #[.agg #[.int .i64 c.op, .int .i64 c.num, v], .int .i64 defs] w fun e w' => e = .returned (.bool (fitsB defs c)) ∧ Below w.heap.size w w' := by
  obtain ⟨ad, cap, rfl, hl, hm, -⟩ := hk
  have hm' : c.kids.length ≤ 9223372036854775807 := by unfold maxLen at hm; omega
  by_cases h11 : c.op = 11
  · have hv : fitsB defs c = ((c.num == 0) && ((c.kids.length : Int) == 1)) := by
      unfold fitsB cArity ownB
      rw [h11, if_pos rfl, if_neg (by omega), if_neg (by omega), if_neg (by omega), Bool.and_comm]
      rfl
    rw [hv, h11]
    exact cellFits_ind _ _ _ _ _ hm' w
  have hv : fitsB defs c = topC c.op c.num c.kids.length 0 defs := (fits_node h11).symm
  rw [hv]
  by_cases e1 : c.op = 1
  · exact cellFits_node _ _ _ _ _ _ _ _ _ _ _ (nodeAt_1 0 defs c.op c.num c.kids.length e1) h11 hm' w
  by_cases e2 : c.op = 2
  · exact cellFits_node _ _ _ _ _ _ _ _ _ _ _ (nodeAt_2 0 defs c.op c.num c.kids.length e2) h11 hm' w
  by_cases e3 : c.op = 3
  · exact cellFits_node _ _ _ _ _ _ _ _ _ _ _ (nodeAt_3 0 defs c.op c.num c.kids.length e3) h11 hm' w
  exact cellFits_node _ _ _ _ _ _ _ _ _ _ _ (nodeAt_o 0 defs c.op c.num c.kids.length e1 e2 e3) h11 hm' w

theorem cellB_fits {cells defs : Int} {c : Ce} (h : fitsB defs c = false) : cellB cells defs c = false := by unfold cellB; rw [h]; rfl
theorem cellB_kids {cells defs : Int} {c : Ce} (h : fitsB defs c = true) : cellB cells defs c = c.kids.all (isAt cells) := by unfold cellB; rw [h]; rfl

set_option maxHeartbeats 800000 in
theorem implGraph_calls (g : List Ce) (defs : Int) (v : Value) (w : World) (hk : CIn w g v) :
    Calls Try.prog 27 #[v, .int .i64 defs] w fun e w' => e = .returned (.bool (graphB g defs)) ∧ Below w.heap.size w w' := by
  have HK : Hid (CIn w g v) := hk
  obtain ⟨ad, cap, rfl, hl, hm, -⟩ := hk
  unfold maxLen at hm
  by_cases hlim : (g.length : Int) ≤ 400 ∧ 0 ≤ defs ∧ defs ≤ 6
  · have HLM : Hid ((g.length : Int) ≤ 400 ∧ 0 ≤ defs ∧ defs ≤ 6) := hlim
    obtain ⟨l1, l2, l3⟩ := hlim
    go_enter Try.func27, Try.ntmps27
    go_wp2_with fail
    go_loopw [20] (fun i wr => ∃ k : Nat, k ≤ g.length ∧ i = .int .i64 k ∧ (g.take k).all (cellB g.length defs) = true ∧ Below w.heap.size w wr) (fun i _ => g.length - (intOf i).toNat)
    case atStart => exact ⟨0, Nat.zero_le _, rfl, by simp, Below.refl _ _⟩
    case round =>
      obtain ⟨k, hk, rfl, hall, hb⟩ := hrel
      have HA : Hid ((g.take k).all (cellB g.length defs) = true) := hall
      have HB : Hid (Below w.heap.size w wr) := hb
      clear hall hb
      by_cases hlt : k < g.length
      · obtain ⟨bl, off, r, rfl, c0, c1, c2, -, -, hkk⟩ := (HK.out.next HB.out).at k hlt
        obtain ⟨ad2, cap2, rfl, -, -, -⟩ := id hkk
        have HKK : Hid (IIn wr g[k].kids (.slice ad2 g[k].kids.length cap2)) := hkk
        clear hkk
        go_wp2_with fail
        refine (cellFits_calls g[k] defs _ _ (HKK.out.next (box_below _ _))).mono ?_
        rintro e w1 ⟨rfl, hb1⟩
        have HB0 : Hid (Below wr.heap.size wr w1) := (box_below _ _).trans (hb1.mono (by rw [Deep.nblk_alloc]; omega))
        have HB1 : Hid (Below w.heap.size w w1) := HB.out.trans (HB0.out.mono HB.out.size)
        have b2 := (hb1.cell (p := ⟨wr.heap.size, 2, none⟩) (by rw [Deep.nblk_alloc]; exact Nat.lt_succ_self _)).trans (box_cell wr #[.int .i64 g[k].op, .int .i64 g[k].num, .slice ad2 g[k].kids.length cap2] 35 2 _ rfl)
        clear hb1 c0 c1 c2
        cases hc : fitsB defs g[k] with
        | false =>
          have HV : Hid (graphB g defs = false) := graphB_cellNo k hlt (cellB_fits hc)
          clear hc
          go_wp2_with fail
          go_ret
          exact ⟨ret_bool HV.out.symm, HB1.out⟩
        | true =>
          have HC : Hid (cellB (g.length : Int) defs g[k] = g[k].kids.all (isAt g.length)) := cellB_kids hc
          clear hc
          go_wp2_with fail
          refine (areCells_calls g.length cap _ g[k].kids _ _ (by omega) (HKK.out.next HB0.out)).mono ?_
          rintro e w2 ⟨rfl, hb2⟩
          have HB2 : Hid (Below w.heap.size w w2) := HB1.out.trans (hb2.mono HB1.out.size)
          clear hb2 b2
          cases hc2 : g[k].kids.all (isAt (g.length : Int)) with
          | false =>
            have HV : Hid (graphB g defs = false) := graphB_cellNo k hlt (by rw [HC.out, hc2])
            clear hc2
            go_wp2_with fail
            go_ret
            exact ⟨ret_bool HV.out.symm, HB2.out⟩
          | true =>
            have HA2 : Hid ((g.take (k + 1)).all (cellB g.length defs) = true) := by rw [Hid, allI_take_succ _ _ _ hlt, HA.out, HC.out, hc2]; rfl
            clear hc2
            go_wp2_with fail
            go_roundw
            case rel => exact ⟨k + 1, by omega, by go_num, HA2.out, HB2.out⟩
            case measure => simp [intOf]; omega
      · have hke : g.length = k := by omega
        have HV : Hid (graphB g defs = true) := graphB_yes HLM.out (all_end HA.out hke)
        clear hke
        go_wp2_with fail
        go_ret
        exact ⟨ret_bool HV.out.symm, HB.out⟩
  · have HV : Hid (graphB g defs = false) := graphB_no hlim
    by_cases l1 : (g.length : Int) ≤ 400
    · by_cases l2 : 0 ≤ defs
      · have l3 : ¬ defs ≤ 6 := fun h => hlim ⟨l1, l2, h⟩
        clear hlim
        go_enter Try.func27, Try.ntmps27
        go_wp2_with fail
        go_ret
        exact ⟨ret_bool HV.out.symm, Below.refl _ _⟩
      · clear hlim
        go_enter Try.func27, Try.ntmps27
        go_wp2_with fail
        go_ret
        exact ⟨ret_bool HV.out.symm, Below.refl _ _⟩
    · clear hlim
      go_enter Try.func27, Try.ntmps27
      go_wp2_with fail
      go_ret
      exact ⟨ret_bool HV.out.symm, Below.refl _ _⟩
end Go.Proofs.Ytjdlfpdljmohiaa
/-
  THE PROGRAM's hasCell.
-/
namespace Go.Proofs.Ytjdlfpdljmohiaa
set_option linter.unusedVariables false
set_option linter.unusedSimpArgs false
open Go.RowKit

set_option maxHeartbeats 800000 in
theorem hasCell_calls (g : List Ce) (a : Int) (v : Value) (w : World) (hk : CIn w g v) :
    Calls Try.prog 41 #[v, .int .i64 a] w fun e w' => e = .returned (.bool (graphB g 6 && isAt g.length a)) ∧ Below w.heap.size w w' := by
  have HK : Hid (CIn w g v) := hk
  obtain ⟨ad, cap, rfl, hl, hm, -⟩ := hk
  unfold maxLen at hm
  go_enter Try.func41, Try.ntmps41
  go_wp2_with fail
  refine (implGraph_calls g 6 _ _ HK.out).mono ?_
  rintro e w1 ⟨rfl, hb1⟩
  have HB1 : Hid (Below w.heap.size w w1) := hb1
  clear hb1
  cases hg : graphB g 6 with
  | false =>
    have HV : Hid ((graphB g 6 && isAt g.length a) = false) := by rw [Hid, hg]; rfl
    go_wp2_with fail
    go_ret
    exact ⟨ret_bool HV.out.symm, HB1.out⟩
  | true =>
    have HV : Hid ((graphB g 6 && isAt g.length a) = isAt g.length a) := by rw [Hid, hg]; rfl
    go_wp2_with fail
    refine (isCell_calls g.length cap ad a _ (by omega)).mono ?_
    rintro e w2 ⟨rfl, hb2⟩
    have HB2 : Hid (Below w.heap.size w w2) := HB1.out.trans (hb2.mono HB1.out.size)
    clear hb2
    go_wp2_with fail
    go_ret
    exact ⟨ret_bool HV.out.symm, HB2.out⟩

theorem isAt_iff {n a : Int} : isAt n a = true ↔ 0 ≤ a ∧ a < n := by unfold isAt; simp
end Go.Proofs.Ytjdlfpdljmohiaa
/-
  THE PROGRAM's standsFor; nothing that was there is changed.
-/
namespace Go.Proofs.Ytjdlfpdljmohiaa
set_option linter.unusedVariables false
set_option linter.unusedSimpArgs false
open Go.RowKit

/-- what standsFor answers -/
def folO (o : Option Nat) : Int := match o with | some b => (b : Int) | none => 0

set_option maxHeartbeats 800000 in
theorem standsFor_calls (g : List Ce) (a : Nat) (v : Value) (w : World) (hk : CIn w g v) (hg : ∃ defs, graphB g defs = true) (ha : a < g.length) :
    Calls Try.prog 42 #[v, .int .i64 (a : Int)] w fun e w' => e = .returned (.tuple #[.int .i64 (folO (followN g g.length a)), .bool (followN g g.length a).isSome]) ∧ Below w.heap.size w w' := by
  have HK : Hid (CIn w g v) := hk
  obtain ⟨ad, cap, rfl, hl, hm, -⟩ := hk
  unfold maxLen at hm
  obtain ⟨defs, hg⟩ := hg
  have HG : Hid (graphB g defs = true) := hg
  have h400 : g.length ≤ 400 := graphB_len hg
  clear hg
  go_enter Try.func42, Try.ntmps42
  go_wp2_with fail
  go_loopw [1, 8] (fun at' i wr => ∃ k b : Nat, k ≤ g.length ∧ i = .int .i64 k ∧ at' = .int .i64 (b : Int) ∧ b < g.length ∧ followN g g.length a = followN g (g.length - k) b ∧ Below w.heap.size w wr) (fun _ i _ => g.length - (intOf i).toNat)
  case atStart => exact ⟨0, a, Nat.zero_le _, rfl, rfl, ha, rfl, Below.refl _ _⟩
  case round =>
    obtain ⟨k, b, hk, rfl, rfl, hbl, hf, hb⟩ := hrel
    have HF : Hid (followN g g.length a = followN g (g.length - k) b) := hf
    have HB : Hid (Below w.heap.size w wr) := hb
    clear hf
    by_cases hlt : k < g.length
    · have HLT : Hid (k < g.length) := hlt
      obtain ⟨bl, off, r, rfl, c0, c1, c2, -, -, hkk⟩ := (HK.out.next hb).at b hbl
      clear hb
      by_cases ho : g[b].op = 11
      · obtain ⟨y, hy1, hy2, hy3⟩ := ind_kid HG.out b hbl ho
        have HV : Hid (followN g g.length a = followN g (g.length - (k + 1)) y) := by
          have h1 := HF.out
          rw [show g.length - k = (g.length - (k + 1)) + 1 by omega] at h1
          exact h1.trans ((followN_ind (by rw [opAt_at b hbl]; exact ho)).trans (by rw [hy3]))
        have t1 : (g[b].op != 11) = false := by simp [ho]
        obtain ⟨ad2, cap2, rfl, hl2, hm2, -⟩ := id hkk
        obtain ⟨bl2, off2, rfl, d0⟩ := hkk.at 0 (by rw [hy1]; simp)
        have hlen1 : g[b].kids.length = 1 := by rw [hy1]; rfl
        have hkid : g[b].kids[0]'(by omega) = (y : Int) := by simp [hy1]
        rw [hkid, Nat.add_zero] at d0
        rw [hlen1] at c2
        clear ho hy1 hy3 hkid hlen1 hkk hl2 hm2
        go_wp2_with fail
        go_roundw
        case rel => exact ⟨k + 1, y, by have := HLT.out; omega, by go_num, rfl, hy2, HV.out, HB.out⟩
        case measure => have := HLT.out; simp [intOf]; omega
      · have HV : Hid (followN g g.length a = some b) := by
          have h1 := HF.out
          rw [show g.length - k = (g.length - k - 1) + 1 by omega] at h1
          exact h1.trans (followN_stop (by rw [opAt_at b hbl]; exact ho))
        have t1 : (g[b].op != 11) = true := by simpa using ho
        clear ho hkk
        go_wp2_with fail
        go_ret2
        exact ⟨ret_ib (by rw [HV.out]; rfl) (by rw [HV.out]; rfl), HB.out⟩
    · have HV : Hid (followN g g.length a = none) := by
        have := HF.out
        rw [show g.length - k = 0 by omega] at this
        exact this
      clear hb
      go_wp2_with fail
      go_ret2
      exact ⟨ret_ib (by rw [HV.out]; rfl) (by rw [HV.out]; rfl), HB.out⟩

end Go.Proofs.Ytjdlfpdljmohiaa
/-
  THE PROGRAM's FollowInd (hasCell, standsFor); nothing that was there is changed.
-/
namespace Go.Proofs.Ytjdlfpdljmohiaa
set_option linter.unusedVariables false
set_option linter.unusedSimpArgs false
open Go.RowKit

set_option maxHeartbeats 800000 in
theorem implFollow_calls (g : List Ce) (a : Int) (v : Value) (w : World) (hk : CIn w g v) :
    Calls Try.prog 14 #[v, .int .i64 a] w fun e w' => e = .returned (.tuple #[.int .i64 (folV g a), .bool (folB g a)]) ∧ Below w.heap.size w w' := by
  have HK : Hid (CIn w g v) := hk
  clear hk
  go_enter Try.func14, Try.ntmps14
  go_wp2_with fail
  refine (hasCell_calls g a _ _ HK.out).mono ?_
  rintro e w1 ⟨rfl, hb1⟩
  have HB1 : Hid (Below w.heap.size w w1) := hb1
  clear hb1
  cases hh : (graphB g 6 && isAt g.length a) with
  | false =>
    have HV : Hid (folV g a = 0 ∧ folB g a = false) := fol_no (by rintro ⟨h1, h2⟩; rw [h1, isAt_iff.2 h2] at hh; cases hh)
    clear hh
    go_wp2_with fail
    go_ret2
    exact ⟨ret_ib HV.out.1.symm HV.out.2.symm, HB1.out⟩
  | true =>
    rw [Bool.and_eq_true, isAt_iff] at hh
    have HG : Hid (graphB g 6 = true ∧ 0 ≤ a ∧ a < g.length) := hh
    clear hh
    obtain ⟨n, rfl⟩ : ∃ n : Nat, a = (n : Int) := ⟨a.toNat, by have := HG.out.2.1; omega⟩
    have hn : n < g.length := by have := HG.out.2.2; omega
    go_wp2_with fail
    refine (standsFor_calls g n _ _ (HK.out.next HB1.out) ⟨6, HG.out.1⟩ hn).mono ?_
    rintro e w2 ⟨rfl, hb2⟩
    have HB2 : Hid (Below w.heap.size w w2) := HB1.out.trans (hb2.mono HB1.out.size)
    clear hb2
    have HV : Hid (folV g (n : Int) = folO (followN g g.length n) ∧ folB g (n : Int) = (followN g g.length n).isSome) := by
      cases hf : followN g g.length n with
      | none => exact fol_none HG.out (by simpa using hf)
      | some b => exact fol_some HG.out (by simpa using hf)
    go_wp2_with fail
    go_ret2
    exact ⟨ret_ib HV.out.1.symm HV.out.2.symm, HB2.out⟩
end Go.Proofs.Ytjdlfpdljmohiaa
/-
  THE PROGRAM's graphReader.expr.
-/
namespace Go.Proofs.Ytjdlfpdljmohiaa
set_option linter.unusedVariables false
set_option linter.unusedSimpArgs false
open Go.RowKit

/-- the reader: the graph and what is left -/
abbrev GRd (w : World) (R : Nat) (gv : Value) (n : Nat) : Prop := w.heap[R]? = some (.cells #[gv, .int .i64 (n : Int)] 58)
/-- what expr hands back -/
def ImRes (o : Option (Tr × Nat)) (R : Nat) (gv : Value) (w : World) (e : Ending) (w' : World) : Prop :=
  match o with
  | none => e = .returned (.tuple #[.agg #[.int .i64 0, .int .i64 0, .slice none 0 0], .bool false]) ∧ (∃ n, GRd w' R gv n) ∧ ButL [R] w w'
  | some (t, l) => ∃ v, e = .returned (.tuple #[.agg #[.int .i64 t.op, .int .i64 t.num, v], .bool true]) ∧ Fresh w' w.heap.size t.kids v ∧ I64 t.op ∧ I64 t.num ∧ GRd w' R gv l ∧ ButL [R] w w'
def ImSaid (g : List Ce) (d : Nat) : Prop := ∀ (R : Nat) (gv : Value) (a l : Nat) (w : World), CellsOn w (Lt R) g gv → R < w.heap.size → a < g.length → l ≤ 1000 → GRd w R gv l →
  Calls Try.prog 46 #[.pointer (some ⟨R, 0, none⟩), .int .i64 (a : Int), .int .i64 (d : Int)] w (ImRes (readT g d a l) R gv w)

set_option maxRecDepth 100000 in
set_option maxHeartbeats 1600000 in
theorem im_step (g : List Ce) (hg : graphB g 6 = true) (d : Nat) (hd : d ≤ 16) (ih : ImSaid g d) : ImSaid g (d + 1) := by
  intro R gv a l w hk hR ha hl hrd
  have HK : Hid (CellsOn w (Lt R) g gv) := hk
  have HG : Hid (graphB g 6 = true) := hg
  have HI : Hid (ImSaid g d) := ih
  have HRD : Hid (GRd w R gv l) := hrd
  obtain ⟨ad, cap, rfl, -, hm, -⟩ := hk
  unfold maxLen at hm
  have h400 : g.length ≤ 400 := graphB_len hg
  have hrd1 : (w.alloc (.cells #[.int .i64 0, .int .i64 0, .slice none 0 0] 30)).heap[R]? = some (.cells #[.slice ad g.length cap, .int .i64 (l : Int)] 58) := (Deep.blk_alloc_lt _ _ _ hR).trans hrd
  have p0 := cell_of_blk hrd1 0 _ rfl
  have HIN : Hid (CIn (w.alloc (.cells #[.int .i64 0, .int .i64 0, .slice none 0 0] 30)) g (.slice ad g.length cap)) := HK.out.mono (fun k (hk : k < R) => by show k < _; rw [Deep.nblk_alloc]; omega) (fun k (hk : k < R) => Deep.blk_alloc_lt _ _ _ (by omega))
  clear hg ih hrd hrd1
  go_enter Try.func46, Try.ntmps46
  go_wp2_with fail
  clear p0
  refine (standsFor_calls g a _ _ HIN.out ⟨6, HG.out⟩ ha).mono ?_
  rintro e w1 ⟨rfl, hb1⟩
  have HB1 : Hid (Below w.heap.size w w1) := (box_below _ _).trans (hb1.mono (by rw [Deep.nblk_alloc]; omega))
  have hz1 : w.heap.size < w1.heap.size := by have := hb1.size; rw [Deep.nblk_alloc] at this; omega
  have hr1 : w1.heap[w.heap.size]? = some (.cells #[.int .i64 0, .int .i64 0, .slice none 0 0] 30) := (hb1.block _ (by rw [Deep.nblk_alloc]; omega)).trans (Deep.blk_alloc_new _ _)
  have HR1 : Hid (w1.heap[w.heap.size]? = some (.cells #[.int .i64 0, .int .i64 0, .slice none 0 0] 30)) := hr1
  have hrd2 : w1.heap[R]? = some (.cells #[.slice ad g.length cap, .int .i64 (l : Int)] 58) := (HB1.out.block R hR).trans HRD.out
  have HRD1 : Hid (GRd w1 R (.slice ad g.length cap) l) := hrd2
  have p0 := cell_of_blk hrd2 0 _ rfl
  have p1 := cell_of_blk hrd2 1 _ rfl
  have pf := fun i => frz_of_blk hrd2 i
  have r0 := cell_of_blk hr1 0 _ rfl
  have r1 := cell_of_blk hr1 1 _ rfl
  have r2 := cell_of_blk hr1 2 _ rfl
  have rf := fun i => frz_of_blk hr1 i
  clear hb1 hr1 hrd2
  cases hf : followN g g.length a with
  | none =>
    have HV : Hid (readT g (d + 1) a l = none) := readT_fol hf
    have e1 : folO none = 0 := rfl
    have e2 : (none : Option Nat).isSome = false := rfl
    rw [e1, e2]
    clear hf
    go_wp2_with fail
    refine bodyPost_ret (v := .tuple #[.agg #[.int .i64 0, .int .i64 0, .slice none 0 0], .bool false]) (by simp [results, Try.results46, go_sem, r0, r1, r2, rf]) rfl ?_
    rw [HV.out]
    exact ⟨rfl, ⟨l, box_stay HRD1.out (by omega)⟩, box_but HB1.out⟩
  | some b =>
    obtain ⟨hbl, hbo⟩ := followN_lt HG.out _ _ _ ha hf
    have HF : Hid (followN g g.length a = some b) := hf
    have e1 : folO (some b) = (b : Int) := rfl
    have e2 : (some b).isSome = true := rfl
    rw [e1, e2]
    have hdn : ((d : Int) + 1 == 0) = false := by simp; omega
    clear hf hbo
    rcases l with _ | l
    · have HV : Hid (readT g (d + 1) a 0 = none) := readT_zero
      go_wp2_with fail
      refine bodyPost_ret (v := .tuple #[.agg #[.int .i64 0, .int .i64 0, .slice none 0 0], .bool false]) (by simp [results, Try.results46, go_sem, r0, r1, r2, rf]) rfl ?_
      rw [HV.out]
      exact ⟨rfl, ⟨0, box_stay HRD1.out (by omega)⟩, box_but HB1.out⟩
    · have hln : (((l : Int) + 1) == 0) = false := by simp; omega
      obtain ⟨bl, off, rr, rfl, hblR, c0w, c1w, c2w, io, iN, hkk⟩ := HK.out.atS b hbl
      have hblR' : bl < R := hblR
      obtain ⟨ad3, cap3, rfl, -, -, -⟩ := id hkk
      have HKK : Hid (IntsOn w (Lt R) g[b].kids (.slice ad3 g[b].kids.length cap3)) := hkk
      have HIO : Hid (I64 g[b].op ∧ I64 g[b].num) := ⟨io, iN⟩
      have LD : Hid (∀ (x o : Nat) (u : Value), x < R → w.cell? ⟨x, o, none⟩ = some u → (w1.setCell ⟨R, 1, none⟩ (.int .i64 (l : Int))).cell? ⟨x, o, none⟩ = some u) := by
        intro x o u hx hu
        rw [World.cell?_of_block (w := w1) (Below.heap_setCell _ _ _ _ (by show x ≠ R; omega)), HB1.out.cell (p := ⟨x, o, none⟩) (by show x < _; omega)]
        exact hu
      have c0 := LD.out _ _ _ hblR' c0w
      have c1 := LD.out _ _ _ hblR' c1w
      have c2 := LD.out _ _ _ hblR' c2w
      have hk3 : g[b].kids.length ≤ 3 := (kids_graph HG.out b hbl).1
      have HKN : Hid ((kidsN g b).length = g[b].kids.length) := by rw [Hid, kidsN_at b hbl]; simp
      clear io iN hkk c0w c1w c2w r0 r1 r2 rf hblR
      obtain ⟨iE, zE, hIE⟩ := infoE3
      have HE : Hid (Try.prog.info? 30 = some iE ∧ iE.zero = some zE ∧ iE.size = 3 ∧ iE.bytes = 40 ∧ zE.cells.size = 3) := hIE
      obtain ⟨wC, hwC⟩ : ∃ wC : World, wC = ((w1.setCell ⟨R, 1, none⟩ (.int .i64 (l : Int))).alloc (.cells #[.int .i64 g[b].op, .int .i64 g[b].num, .slice ad3 g[b].kids.length cap3] 35)).alloc (.cells #[.int .i64 g[b].op, .int .i64 g[b].num, .slice none 0 0] 30) := ⟨_, rfl⟩
      have HWC : Hid (wC = ((w1.setCell ⟨R, 1, none⟩ (.int .i64 (l : Int))).alloc (.cells #[.int .i64 g[b].op, .int .i64 g[b].num, .slice ad3 g[b].kids.length cap3] 35)).alloc (.cells #[.int .i64 g[b].op, .int .i64 g[b].num, .slice none 0 0] 30)) := hwC
      have hzC : wC.heap.size = w1.heap.size + 2 := by rw [hwC, Deep.nblk_alloc, Deep.nblk_alloc, size_setCell]
      have HZC : Hid (wC.heap.size = w1.heap.size + 2) := hzC
      have hoC : ∀ x, x < w1.heap.size → wC.heap[x]? = (w1.setCell ⟨R, 1, none⟩ (.int .i64 (l : Int))).heap[x]? := by
        intro x hx
        rw [hwC, Deep.blk_alloc_lt _ _ _ (by rw [Deep.nblk_alloc, size_setCell]; omega), Deep.blk_alloc_lt _ _ _ (by rw [size_setCell]; omega)]
      have HEC : Hid (wC.heap[w1.heap.size + 1]? = some (.cells #[.int .i64 g[b].op, .int .i64 g[b].num, .slice none 0 0] 30)) := by
        have h := Deep.blk_alloc_new ((w1.setCell ⟨R, 1, none⟩ (.int .i64 (l : Int))).alloc (.cells #[.int .i64 g[b].op, .int .i64 g[b].num, .slice ad3 g[b].kids.length cap3] 35)) (.cells #[.int .i64 g[b].op, .int .i64 g[b].num, .slice none 0 0] 30)
        rw [Deep.nblk_alloc, size_setCell, ← hwC] at h
        exact h
      have HRC : Hid (GRd wC R (.slice (some ⟨bl, off, none⟩) g.length cap) l) := by
        show wC.heap[R]? = _
        rw [hoC R (by omega)]
        have h : w1.heap[R]? = some (.cells #[.slice (some ⟨bl, off, none⟩) g.length cap, .int .i64 ((l + 1 : Nat) : Int)] 58) := HRD1.out
        simp [World.setCell, Array.getElem?_modify, h]
      have HXC : Hid (wC.heap[w.heap.size]? = some (.cells #[.int .i64 0, .int .i64 0, .slice none 0 0] 30)) := by
        rw [Hid, hoC _ hz1, Below.heap_setCell _ _ _ _ (by show w.heap.size ≠ R; omega)]; exact HR1.out
      have BW : Hid (∀ wx, ButL [R, w1.heap.size + 1] wC wx → ButL [R] w wx) := by
        intro wx hx
        have h1 := HB1.out
        have e1 : wC.os = w1.os := by rw [hwC]; rfl
        have e2 : wC.tape = w1.tape := by rw [hwC]; rfl
        have e3 : wC.output = w1.output := by rw [hwC]; rfl
        refine ⟨hx.os.trans (e1.trans h1.os), hx.tape.trans (e2.trans h1.tape), hx.output.trans (e3.trans h1.output), by have := hx.size; omega, fun x hxl hn => ?_⟩
        have hxR : x ≠ R := by simpa using hn
        rw [hx.block x (by omega) (by simp; omega), hoC x (by omega), Below.heap_setCell _ _ _ _ (by show x ≠ R; exact hxR)]
        exact h1.block x hxl
      have LDX : Hid (∀ wx, ButL [R, w1.heap.size + 1] wC wx → ∀ x, x < R → wx.heap[x]? = w.heap[x]?) := fun wx hx x hxR => (BW.out wx hx).block x (by omega) (by simp; omega)
      clear hIE hwC hzC hoC
      go_wp2_with fail
      rw [← HWC.out]
      clear c0 c1 c2 p0 p1 pf
      go_loopw [60] (fun i wr => ∃ (k : Nat) (ts : List Tr) (l' : Nat) (v : Value), k ≤ g[b].kids.length ∧ i = .int .i64 k ∧ Hid (readKids (readT g d) ((kidsN g b).take k) l = some (ts, l')) ∧ GRd wr R (.slice (some ⟨bl, off, none⟩) g.length cap) l' ∧ OwnF wr (w1.heap.size + 2) wr.heap.size ts v ∧ wr.heap[w1.heap.size + 1]? = some (.cells #[.int .i64 g[b].op, .int .i64 g[b].num, v] 30) ∧ ButL [R, w1.heap.size + 1] wC wr) (fun i _ => g[b].kids.length - (intOf i).toNat)
      case atStart => exact ⟨0, [], l, .slice none 0 0, Nat.zero_le _, rfl, rfl, HRC.out, OwnF.nil _ _ _, HEC.out, ButL.refl _ _⟩
      case round =>
        obtain ⟨k, ts, l', v, hk, rfl, HRS, hgr, hof, hbx, hbl2⟩ := hrel
        have HGR : Hid (GRd wr R (.slice (some ⟨bl, off, none⟩) g.length cap) l') := hgr
        have HOF : Hid (OwnF wr (w1.heap.size + 2) wr.heap.size ts v) := hof
        have HBX : Hid (wr.heap[w1.heap.size + 1]? = some (.cells #[.int .i64 g[b].op, .int .i64 g[b].num, v] 30)) := hbx
        have HBL2 : Hid (ButL [R, w1.heap.size + 1] wC wr) := hbl2
        have hll : l' ≤ l := readKids_left (fun k l t l' => readT_left g d k l t l') _ _ _ _ HRS.out
        have hwz : w1.heap.size + 2 ≤ wr.heap.size := by have := hbl2.size; rw [HZC.out] at this; exact this
        have HXR : Hid (wr.heap[w.heap.size]? = some (.cells #[.int .i64 0, .int .i64 0, .slice none 0 0] 30)) := (hbl2.block _ (by rw [HZC.out]; omega) (by simp; omega)).trans HXC.out
        by_cases hlt : k < g[b].kids.length
        · obtain ⟨kk, hk1, hk2, hk4⟩ := kidsN_get HG.out b hbl k hlt
          obtain ⟨bl3, off3, rfl, hb3, d0w⟩ := HKK.out.atS k hlt
          have d0 := (World.cell?_of_block (a := ⟨bl3, off3 + k, none⟩) (LDX.out wr hbl2 bl3 hb3)).trans d0w
          rw [hk1] at d0
          have HTK : Hid ((kidsN g b).take (k + 1) = (kidsN g b).take k ++ [kk]) := take_snoc hk4
          have HKW : Hid (CellsOn wr (Lt R) g (.slice (some ⟨bl, off, none⟩) g.length cap)) := HK.out.mono (fun _ h => h) fun x hx => LDX.out wr hbl2 x hx
          have hdd : (1 : Int) ≤ (d : Int) + 1 := by omega
          clear hk1 hk4 d0w hb3 hgr hof hbx hbl2
          go_wp2_with fail
          refine (HI.out R _ kk l' _ HKW.out (by omega) hk2 (by omega) HGR.out).mono ?_
          rintro e w2 hres2
          cases hr2 : readT g d kk l' with
          | none =>
            rw [hr2] at hres2
            obtain ⟨rfl, ⟨nn, hg2⟩, hb2⟩ := hres2
            have HV : Hid (readT g (d + 1) a (l + 1) = none) := readT_bad HF.out (readKids_none_take (j := k + 1) (by rw [HTK.out]; exact readKids_none_snoc HRS.out hr2))
            have HB2 : Hid (ButL [R] wr w2) := hb2
            have hrw3 : (w2.alloc (.cells #[.int .i64 0, .int .i64 0, .slice none 0 0] 30)).heap[w.heap.size]? = some (.cells #[.int .i64 0, .int .i64 0, .slice none 0 0] 30) := (Deep.blk_alloc_lt _ _ _ (by have := hb2.size; omega)).trans ((hb2.block _ (by omega) (by simp; omega)).trans HXR.out)
            have HG3 : Hid (GRd (w2.alloc (.cells #[.int .i64 0, .int .i64 0, .slice none 0 0] 30)) R (.slice (some ⟨bl, off, none⟩) g.length cap) nn) := (Deep.blk_alloc_lt _ _ _ (by have := hb2.size; omega)).trans hg2
            have HBF : Hid (ButL [R] w (w2.alloc (.cells #[.int .i64 0, .int .i64 0, .slice none 0 0] 30))) := ((BW.out wr HBL2.out).trans hb2).trans (ButL.of_below (box_below _ _))
            have r0 := cell_of_blk hrw3 0 _ rfl
            have r1 := cell_of_blk hrw3 1 _ rfl
            have r2 := cell_of_blk hrw3 2 _ rfl
            have rf := fun i => frz_of_blk hrw3 i
            clear hb2 hg2 hr2 hrw3 d0
            go_wp2_with fail
            refine bodyPost_ret (v := .tuple #[.agg #[.int .i64 0, .int .i64 0, .slice none 0 0], .bool false]) (by simp [results, Try.results46, go_sem, r0, r1, r2, rf]) rfl ?_
            rw [HV.out]
            exact ⟨rfl, ⟨nn, box_stay HG3.out (by omega)⟩, box_but2 HBF.out⟩
          | some q =>
            obtain ⟨t, l''⟩ := q
            rw [hr2] at hres2
            obtain ⟨vt, rfl, hfr, hto, htn, hg2, hb2⟩ := hres2
            have HV : Hid (readKids (readT g d) ((kidsN g b).take (k + 1)) l = some (ts ++ [t], l'')) := by rw [Hid, HTK.out]; exact readKids_some_snoc HRS.out hr2
            have HFR : Hid (Fresh w2 wr.heap.size t.kids vt) := hfr
            have HTO : Hid (I64 t.op ∧ I64 t.num) := ⟨hto, htn⟩
            have HB2 : Hid (ButL [R] wr w2) := hb2
            have HG2 : Hid (GRd w2 R (.slice (some ⟨bl, off, none⟩) g.length cap) l'') := hg2
            obtain ⟨adt, capt, rfl, -, -, -⟩ := hfr.on
            have HZ4 : Hid (((w2.alloc (.cells #[.int .i64 t.op, .int .i64 t.num, .slice adt t.kids.length capt] 30)).alloc (.cells #[.int .i64 t.op, .int .i64 t.num, .slice adt t.kids.length capt] 30)).heap.size = w2.heap.size + 2) := by rw [Hid, Deep.nblk_alloc, Deep.nblk_alloc]
            have HK4 : Hid (∀ j, j < w2.heap.size → ((w2.alloc (.cells #[.int .i64 t.op, .int .i64 t.num, .slice adt t.kids.length capt] 30)).alloc (.cells #[.int .i64 t.op, .int .i64 t.num, .slice adt t.kids.length capt] 30)).heap[j]? = w2.heap[j]?) := fun j hj => (Deep.blk_alloc_lt _ _ _ (by rw [Deep.nblk_alloc]; omega)).trans (Deep.blk_alloc_lt _ _ _ hj)
            have hs2 := hb2.size
            obtain ⟨xs, hx⟩ := (HOF.out.next (w' := ((w2.alloc (.cells #[.int .i64 t.op, .int .i64 t.num, .slice adt t.kids.length capt] 30)).alloc (.cells #[.int .i64 t.op, .int .i64 t.num, .slice adt t.kids.length capt] 30))) (Nat.le_refl _) (Nat.le_refl _) (fun j h1 h2 => (HK4.out j (by omega)).trans (hb2.block j h2 (by simp; omega)))).row
            have HX : Hid (((w2.alloc (.cells #[.int .i64 t.op, .int .i64 t.num, .slice adt t.kids.length capt] 30)).alloc (.cells #[.int .i64 t.op, .int .i64 t.num, .slice adt t.kids.length capt] 30)).ownsRow (w1.heap.size + 2) 30 3 v ts.length xs) := hx
            have hbx2 : w2.heap[w1.heap.size + 1]? = some (.cells #[.int .i64 g[b].op, .int .i64 g[b].num, v] 30) := (hb2.block _ (by omega) (by simp; omega)).trans HBX.out
            have HBX2 : Hid (w2.heap[w1.heap.size + 1]? = some (.cells #[.int .i64 g[b].op, .int .i64 g[b].num, v] 30)) := hbx2
            have hbx3 : (w2.alloc (.cells #[.int .i64 t.op, .int .i64 t.num, .slice adt t.kids.length capt] 30)).heap[w1.heap.size + 1]? = some (.cells #[.int .i64 g[b].op, .int .i64 g[b].num, v] 30) := (Deep.blk_alloc_lt _ _ _ (by omega)).trans hbx2
            have p2 := cell_of_blk hbx3 2 _ rfl
            have htl : ts.length < 1000000 := by have h1 := readKids_len _ _ _ _ HRS.out; rw [List.length_take] at h1; omega
            clear hb2 hg2 hr2 hfr hto htn hx hbx2 hbx3 d0
            go_wp2_with (at_builtin; go_must (refine wpList_append_where _ rfl _ _ 28 rfl (w1.heap.size + 2) 30 iE zE 3 40 Try.underlying28 HE.out.1 HE.out.2.1 HE.out.2.2.1 HE.out.2.2.2.1 HE.out.2.2.2.2 (by decide) v ts.length xs rfl HX.out ⟨w2.heap.size + 1, 0, none⟩ 1 1 [.int .i64 t.op, .int .i64 t.num, .slice adt t.kids.length capt] rfl rfl (by have h := news3 (w2.alloc (.cells #[.int .i64 t.op, .int .i64 t.num, .slice adt t.kids.length capt] 30)) (.int .i64 t.op) (.int .i64 t.num) (.slice adt t.kids.length capt); rw [Deep.nblk_alloc] at h; exact h) (by simp [Value.oneCell']) (by unfold maxLen; omega) (by omega) (by rw [HZ4.out]; omega) (by omega) ?_); go_must (intro v' w5 hown hg hw); go_must (have HOWN : Hid (w5.ownsRow (w1.heap.size + 2) 30 3 v' (ts.length + 1) (xs ++ [.int .i64 t.op, .int .i64 t.num, .slice adt t.kids.length capt])) := hown); go_must (have HGR5 : Hid (((w2.alloc (.cells #[.int .i64 t.op, .int .i64 t.num, .slice adt t.kids.length capt] 30)).alloc (.cells #[.int .i64 t.op, .int .i64 t.num, .slice adt t.kids.length capt] 30)).grownBy w5 v.ownBlock) := hg); go_must (have HWH : Hid (v'.ownBlock = v.ownBlock ∨ ∃ g, v'.ownBlock = some g ∧ ((w2.alloc (.cells #[.int .i64 t.op, .int .i64 t.num, .slice adt t.kids.length capt] 30)).alloc (.cells #[.int .i64 t.op, .int .i64 t.num, .slice adt t.kids.length capt] 30)).heap.size ≤ g) := hw); go_must (have hlow : ∀ j, j ≤ w1.heap.size + 1 → w5.heap[j]? = w2.heap[j]? := fun j hj => (hg.block j (by rw [HZ4.out]; omega) (fun e => by have := (own_some HX.out j e.symm).1; omega)).trans (HK4.out j (by omega))); go_must (have HBX5 : Hid (w5.heap[w1.heap.size + 1]? = some (.cells #[.int .i64 g[b].op, .int .i64 g[b].num, v] 30)) := (hlow _ (Nat.le_refl _)).trans HBX2.out); go_must (have hbx5 := HBX5.out); go_must (have HG5 : Hid (GRd w5 R (.slice (some ⟨bl, off, none⟩) g.length cap) l'') := (hlow R (by omega)).trans HG2.out); go_must (have HB5 : Hid (ButL [R, w1.heap.size + 1] wC w5) := ⟨by rw [hg.os]; exact HB2.out.os.trans HBL2.out.os, by rw [hg.tape]; exact HB2.out.tape.trans HBL2.out.tape, by rw [hg.output]; exact HB2.out.output.trans HBL2.out.output, by have h1 := hg.size; rw [HZ4.out] at h1; have := HZC.out; omega, fun j hj hn => by have hn2 : j ≠ R ∧ j ≠ w1.heap.size + 1 := (by simpa using hn); have hjl : j < w1.heap.size + 2 := (by have := HZC.out; omega); exact (hlow j (by omega)).trans ((HB2.out.block j (by omega) (by simp; exact hn2.1)).trans (HBL2.out.block j hj hn))⟩); go_must (obtain ⟨g', c', rfl, -, -, -, -⟩ := own_form hown (by omega)); go_must (have s2 := cell_of_blk hbx5 2 _ rfl); go_must (have sf := frz_of_blk hbx5 2); clear hown hg hw hlow hbx5 p2)
            go_roundw
            case rel =>
              have hpush := rd_push HOF.out (by omega) (fun j h1 h2 => HB2.out.block j h2 (by simp; omega)) HB2.out.size HFR.out HTO.out.1 HTO.out.2 _ _ xs HX.out HOWN.out HGR5.out HWH.out
              refine ⟨k + 1, ts ++ [t], l'', _, by omega, by go_num, HV, (Below.heap_setCell _ _ _ _ (by show R ≠ w1.heap.size + 1; omega)).trans HG5.out, hpush.next (by rw [size_setCell]; exact HGR5.out.size) HGR5.out.size (fun j h1 h2 => Below.heap_setCell _ _ _ _ (fun e => by have e' : j = w1.heap.size + 1 := e; omega)), box_set HBX5.out _, HB5.out.trans (ButL.setCell _ _ _ (by simp) _)⟩
            case measure => simp [intOf]; omega
        · have hke : k = g[b].kids.length := by omega
          have hall : readKids (readT g d) (kidsN g b) l = some (ts, l') := by
            have h := HRS.out
            rw [hke, ← HKN.out, List.take_length] at h
            exact h
          have HV : Hid (readT g (d + 1) a (l + 1) = some (.node g[b].op g[b].num ts, l')) := readT_ok hbl HF.out hall
          have HFR : Hid (Fresh wr (w1.heap.size + 2) ts v) := hof.fresh
          obtain ⟨adv, capv, rfl, -, -, -⟩ := hof.fresh.on
          have o0 := cell_of_blk hbx 0 _ rfl
          have o1 := cell_of_blk hbx 1 _ rfl
          have o2 := cell_of_blk hbx 2 _ rfl
          have hxr := HXR.out
          have r0 := cell_of_blk hxr 0 _ rfl
          have r1 := cell_of_blk hxr 1 _ rfl
          have r2 := cell_of_blk hxr 2 _ rfl
          have rf := fun i => frz_of_blk hxr i
          clear hgr hof hbx hbl2 hall hke hxr
          go_wp2_with fail
          refine bodyPost_ret (v := .tuple #[.agg #[.int .i64 g[b].op, .int .i64 g[b].num, .slice adv ts.length capv], .bool true]) (by simp [results, Try.results46, go_sem, r0, r1, r2, rf]) rfl ?_
          rw [HV.out]
          refine ⟨_, rfl, ?_, HIO.out.1, HIO.out.2, box_stay HGR.out (by omega), box_but2 (BW.out _ HBL2.out)⟩
          refine Fresh.mono (lo := w1.heap.size + 2) ?_ (by omega) (fun _ _ _ => rfl)
          exact ((HFR.out.setCell (by show w.heap.size < _; omega) _).setCell (by show w.heap.size < _; omega) _).setCell (by show w.heap.size < _; omega) _

theorem im_zero (g : List Ce) (hg : graphB g 6 = true) : ImSaid g 0 := by
  intro R gv a l w hk hR ha hl hrd
  have HK : Hid (CellsOn w (Lt R) g gv) := hk
  have HG : Hid (graphB g 6 = true) := hg
  have HRD : Hid (GRd w R gv l) := hrd
  obtain ⟨ad, cap, rfl, -, hm, -⟩ := hk
  have hrd1 : (w.alloc (.cells #[.int .i64 0, .int .i64 0, .slice none 0 0] 30)).heap[R]? = some (.cells #[.slice ad g.length cap, .int .i64 (l : Int)] 58) := (Deep.blk_alloc_lt _ _ _ hR).trans hrd
  have p0 := cell_of_blk hrd1 0 _ rfl
  have HIN : Hid (CIn (w.alloc (.cells #[.int .i64 0, .int .i64 0, .slice none 0 0] 30)) g (.slice ad g.length cap)) := HK.out.mono (fun k (hk : k < R) => by show k < _; rw [Deep.nblk_alloc]; omega) (fun k (hk : k < R) => Deep.blk_alloc_lt _ _ _ (by omega))
  have HV : Hid (readT g 0 a l = none) := rfl
  clear hg hrd hrd1 hm
  go_enter Try.func46, Try.ntmps46
  go_wp2_with fail
  clear p0
  refine (standsFor_calls g a _ _ HIN.out ⟨6, HG.out⟩ ha).mono ?_
  rintro e w1 ⟨rfl, hb1⟩
  have HB1 : Hid (Below w.heap.size w w1) := (box_below _ _).trans (hb1.mono (by rw [Deep.nblk_alloc]; omega))
  have hr1 : w1.heap[w.heap.size]? = some (.cells #[.int .i64 0, .int .i64 0, .slice none 0 0] 30) := (hb1.block _ (by rw [Deep.nblk_alloc]; omega)).trans (Deep.blk_alloc_new _ _)
  have hrd2 : w1.heap[R]? = some (.cells #[.slice ad g.length cap, .int .i64 (l : Int)] 58) := (HB1.out.block R hR).trans HRD.out
  have HRD1 : Hid (GRd w1 R (.slice ad g.length cap) l) := hrd2
  have p1 := cell_of_blk hrd2 1 _ rfl
  have r0 := cell_of_blk hr1 0 _ rfl
  have r1 := cell_of_blk hr1 1 _ rfl
  have r2 := cell_of_blk hr1 2 _ rfl
  have rf := fun i => frz_of_blk hr1 i
  clear hb1 hr1 hrd2
  generalize folO (followN g g.length a) = fi
  cases (followN g g.length a).isSome
  all_goals
    go_wp2_with fail
    refine bodyPost_ret (v := .tuple #[.agg #[.int .i64 0, .int .i64 0, .slice none 0 0], .bool false]) (by simp [results, Try.results46, go_sem, r0, r1, r2, rf]) rfl ?_
    rw [HV.out]
    exact ⟨rfl, ⟨l, box_stay HRD1.out (by omega)⟩, box_but HB1.out⟩
theorem im_calls (g : List Ce) (hg : graphB g 6 = true) : ∀ d, d ≤ 17 → ImSaid g d
  | 0, _ => im_zero g hg
  | d + 1, h => im_step g hg d (by omega) (im_calls g hg d (by omega))
end Go.Proofs.Ytjdlfpdljmohiaa
