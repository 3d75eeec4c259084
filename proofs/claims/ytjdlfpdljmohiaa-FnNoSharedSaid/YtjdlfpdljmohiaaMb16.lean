/-
  PLAIN: how often a cell stands among the operands of the cells of a list. No program is named here.
-/
import Derived.Test.YtjdlfpdljmohiaaMb2
import Derived.Test.YtjdlfpdljmohiaaMb14
import Derived.Test.YtjdlfpdljmohiaaMb1
import Derived.IntWalk
import Derived.Test.YtjdlfpdljmohiaaMb13
namespace Go.Proofs.Ytjdlfpdljmohiaa
set_option linter.unusedVariables false
set_option linter.unusedSimpArgs false

/-- how often a number stands in a list -/
def cntN (l : List Nat) (k : Nat) : Nat := l.countP (fun x => x == k)
theorem cntN_nil (k : Nat) : cntN [] k = 0 := rfl
theorem cntN_append (a b : List Nat) (k : Nat) : cntN (a ++ b) k = cntN a k + cntN b k := by unfold cntN; exact List.countP_append
theorem cntN_one (a k : Nat) : cntN [a] k = if k = a then 1 else 0 := by
  unfold cntN
  by_cases h : k = a
  · subst h; simp
  · have : (a == k) = false := by simp; omega
    simp [this, h]
theorem cntN_le (l : List Nat) (k : Nat) : cntN l k ≤ l.length := List.countP_le_length
/-- .. among the operands of the cells of a list -/
def useAt (g : List Ce) (l : List Nat) (k : Nat) : Nat := (l.map fun a => cntN (kidsN g a) k).sum
theorem useAt_nil (g : List Ce) (k : Nat) : useAt g [] k = 0 := rfl
theorem useAt_append (g : List Ce) (a b : List Nat) (k : Nat) : useAt g (a ++ b) k = useAt g a k + useAt g b k := by simp [useAt]
theorem useAt_one (g : List Ce) (a k : Nat) : useAt g [a] k = cntN (kidsN g a) k := by simp [useAt]
theorem useAt_le {g : List Ce} {defs : Int} (h : graphB g defs = true) : ∀ (l : List Nat) (k : Nat), (∀ a ∈ l, a < g.length) → useAt g l k ≤ 3 * l.length
  | [], _, _ => by simp [useAt]
  | a :: l, k, hl => by
    have h1 := useAt_le h l k fun x hx => hl x (List.mem_cons_of_mem _ hx)
    have h2 := cntN_le (kidsN g a) k
    have h3 := kidsN_len h a (hl a (by simp))
    have e : useAt g (a :: l) k = cntN (kidsN g a) k + useAt g l k := by simp [useAt]
    rw [e, List.length_cons]; omega
theorem numsN_lt (f : Nat → Bool) : ∀ (n a : Nat), a ∈ numsN f n → a < n
  | 0, a, h => by simp [numsN] at h
  | n + 1, a, h => by
    unfold numsN at h
    split at h
    · rcases List.mem_append.1 h with h | h
      · have := numsN_lt f n a h; omega
      · simp at h; omega
    · have := numsN_lt f n a h; omega
theorem numsN_none (n : Nat) : numsN (fun _ => false) n = [] := by
  induction n with
  | zero => rfl
  | succ n ih => rw [numsN_no rfl, ih]
theorem numsN_congr {f f' : Nat → Bool} : ∀ n, (∀ a, a < n → f a = f' a) → numsN f n = numsN f' n
  | 0, _ => rfl
  | n + 1, h => by
    have e := numsN_congr n fun a ha => h a (by omega)
    unfold numsN
    rw [e, h n (by omega)]
/-- is a count more than one? -/
def manyF (u : Nat → Nat) : Nat → Bool := fun k => decide (1 < u k)
/-- what SharedCells answers -/
def shareB (g : List Ce) (root : Int) (f : Nat → Bool) : List Int := if graphB g 6 = true ∧ isAt g.length root = true then numsTo (manyF (useAt g (numsN f g.length))) g.length else []
theorem shareB_len (g : List Ce) (root : Int) (f : Nat → Bool) : (shareB g root f).length ≤ g.length := by
  unfold shareB; split
  · exact numsTo_len _ _
  · simp
theorem shareB_no {g : List Ce} {root : Int} {fl : Nat → Bool} (h : ¬ (graphB g 6 = true ∧ isAt g.length root = true)) : shareB g root fl = [] := by unfold shareB; rw [if_neg h]
theorem shareB_yes {g : List Ce} {root : Int} {fl : Nat → Bool} (h : graphB g 6 = true ∧ isAt g.length root = true) : shareB g root fl = numsTo (manyF (useAt g (numsN fl g.length))) g.length := by unfold shareB; rw [if_pos h]
end Go.Proofs.Ytjdlfpdljmohiaa
/-
  A ROW OF COUNTS.
-/
namespace Go.Proofs.Ytjdlfpdljmohiaa
set_option linter.unusedVariables false
set_option linter.unusedSimpArgs false
open Go.RowKit

/-- a row of counts -/
abbrev Counts (w : World) (b n : Nat) (u : Nat → Nat) : Prop := w.rowIs b 3 n (fun i => .int .i64 (u i : Int))
theorem Counts.up {w : World} {b n : Nat} {u : Nat → Nat} (h : Counts w b n u) (k : Nat) (u' : Nat → Nat) (hu : ∀ i, u' i = u i + if i = k then 1 else 0) : Counts (w.setCell ⟨b, k, none⟩ (.int .i64 ((u k : Int) + 1))) b n u' := by
  refine World.rowIs.congr (h.set k _) fun i hi => ?_
  by_cases e : i = k
  · subst e; simp [hu]
  · simp [e, hu]
end Go.Proofs.Ytjdlfpdljmohiaa
/-
  THE PROGRAM's SharedCells.
-/
namespace Go.Proofs.Ytjdlfpdljmohiaa
set_option linter.unusedVariables false
set_option linter.unusedSimpArgs false
open Go.RowKit

theorem fromB_nat (g : List Ce) (root : Int) (fl : Nat → Bool) : ∃ ws : List Nat, fromB g root fl = ws.map (fun (a : Nat) => (a : Int)) ∧ (∀ a ∈ ws, graphB g 6 = true ∧ a < g.length) ∧ ws.length ≤ g.length ∧ shareB g root fl = numsTo (manyF (useAt g ws)) g.length := by
  by_cases h : graphB g 6 = true ∧ isAt g.length root = true
  · exact ⟨numsN fl g.length, fromB_yes h, fun a ha => ⟨h.1, numsN_lt fl _ a ha⟩, numsN_len fl _, shareB_yes h⟩
  · refine ⟨[], fromB_no h, fun a ha => by simp at ha, by simp, ?_⟩
    rw [shareB_no h]
    unfold numsTo
    have e : manyF (useAt g []) = fun _ => false := by funext k; simp [manyF, useAt_nil]
    rw [e, numsN_none]; rfl

set_option maxRecDepth 100000 in
set_option maxHeartbeats 3200000 in
theorem implShared_calls (g : List Ce) (root : Int) (v : Value) (w : World) (fl : Nat → Bool) (hfl : ∀ a, fl a = true ↔ Reach g root.toNat a) (hk : CIn w g v) (hz : g.length ≤ 1048576) :
    Calls Try.prog 30 #[v, .int .i64 root] w (NewInts (shareB g root fl) w) := by
  have HK : Hid (CIn w g v) := hk
  have HFL : Hid (∀ a, fl a = true ↔ Reach g root.toNat a) := hfl
  obtain ⟨ad, cap, rfl, hl, hm, -⟩ := hk
  unfold maxLen at hm
  obtain ⟨ws, hws1, hws2, hws3, hws4⟩ := fromB_nat g root fl
  have HW1 : Hid (fromB g root fl = ws.map (fun (a : Nat) => (a : Int))) := hws1
  have HW2 : Hid (∀ a ∈ ws, graphB g 6 = true ∧ a < g.length) := hws2
  have HV : Hid (shareB g root fl = numsTo (manyF (useAt g ws)) g.length) := hws4
  have hmi := make_ints g.length hz
  obtain ⟨w1, hw1⟩ : ∃ w1 : World, w1 = w.alloc (.cells (madeCells #[.int .i64 0] g.length) 3) := ⟨_, rfl⟩
  have hmi2 : (Instr.makeSlice 33 (.int .i64 (g.length : Int)) (.int .i64 (g.length : Int))).run Try.prog w = .ok (.slice (some ⟨w.heap.size, 0, none⟩) g.length g.length) w1 := by rw [hw1]; exact hmi w
  have HZ0 : Hid (Counts w1 w.heap.size g.length (fun _ => 0)) := by rw [Hid, hw1]; exact zero_row w g.length
  have HB1 : Hid (Below w.heap.size w w1) := by rw [Hid, hw1]; exact box_below _ _
  have HS1 : Hid (w1.heap.size = w.heap.size + 1) := by rw [Hid, hw1]; exact Deep.nblk_alloc _ _
  clear hfl hws1 hws2 hws4 hmi hw1
  go_enter Try.func30, Try.ntmps30
  go_wp2_with fail
  refine (implFrom_calls g root _ _ fl HFL.out (HK.out.next HB1.out)).mono ?_
  rintro e w3 ⟨v3, rfl, hi3, hb3⟩
  rw [HW1.out] at hi3
  have HI3 : Hid (IntRow w3 w1.heap.size (ws.map (fun (a : Nat) => (a : Int))) v3) := hi3
  have HB3 : Hid (Below w.heap.size w w3) := HB1.out.trans (hb3.mono HB1.out.size)
  have HC3 : Hid (Counts w3 w.heap.size g.length (useAt g (ws.take 0))) := by
    have h := HZ0.out.of_block (hb3.block w.heap.size (by rw [HS1.out]; exact Nat.lt_succ_self _))
    exact World.rowIs.congr h fun i _ => by simp [useAt_nil]
  obtain ⟨ad3, cap3, rfl, hl3, hm3, -⟩ := hi3
  rw [List.length_map] at hl3
  have HL : Hid (∀ j (h : j < ws.length), ∃ g3, ad3 = some ⟨g3, 0, none⟩ ∧ w.heap.size < g3 ∧ w3.cell? ⟨g3, j, none⟩ = some (.int .i64 (ws[j] : Int))) := by
    intro j h
    obtain ⟨_, _, he, -, -, hr⟩ := HI3.out
    simp only [Value.slice.injEq] at he
    obtain ⟨rfl, -, rfl⟩ := he
    rcases hr with hnil | ⟨g3, f3, rfl, hg3, hr, hf⟩
    · simp at hnil; subst hnil; simp at h
    · refine ⟨g3, rfl, by rw [HS1.out] at hg3; omega, ?_⟩
      rw [hr.cell (by omega), hf j (by simpa using h)]
      simp
  rw [List.length_map]
  clear hb3 hmi2
  go_wp2_with fail
  go_loopw [20] (fun i wr => ∃ j : Nat, j ≤ ws.length ∧ i = .int .i64 j ∧ Counts wr w.heap.size g.length (useAt g (ws.take j)) ∧ ButL [w.heap.size] w3 wr) (fun i _ => ws.length - (intOf i).toNat)
  case atStart => exact ⟨0, Nat.zero_le _, rfl, HC3.out, ButL.refl _ _⟩
  case round =>
    obtain ⟨j, hj, rfl, hct, hb⟩ := hrel
    obtain ⟨wo, rfl⟩ : ∃ wo : World, wo = wr := ⟨_, rfl⟩
    have HC : Hid (Counts wo w.heap.size g.length (useAt g (ws.take j))) := hct
    have HB : Hid (ButL [w.heap.size] w3 wo) := hb
    by_cases hlt : j < ws.length
    · obtain ⟨g3, rfl, hg3, e0⟩ := HL.out j hlt
      have hg3l : g3 < w3.heap.size := cell_lt e0
      have e1 := (World.cell?_of_block (a := ⟨g3, j, none⟩) (hb.block g3 hg3l (by simp; omega))).trans e0
      obtain ⟨a, ha⟩ : ∃ a : Nat, a = ws[j] := ⟨_, rfl⟩
      have HA : Hid (ws[j]? = some a) := by rw [Hid, List.getElem?_eq_getElem hlt, ha]
      rw [← ha] at e1
      obtain ⟨hg, hal⟩ := HW2.out a (by rw [ha]; exact List.getElem_mem hlt)
      have HG : Hid (graphB g 6 = true) := hg
      obtain ⟨bl, off, r2, rfl, c0w, c1w, c2w, -, -, hkk⟩ := HK.out.at a hal
      have hbl3 : bl < w.heap.size := cell_lt c0w
      obtain ⟨ad4, cap4, rfl, -, -, -⟩ := id hkk
      have HKK : Hid (IIn w g[a].kids (.slice ad4 g[a].kids.length cap4)) := hkk
      have hs3 : w.heap.size ≤ w3.heap.size := HB3.out.size
      have LD : Hid (∀ wx, ButL [w.heap.size] w3 wx → ∀ (b o : Nat) (u : Value), w.cell? ⟨b, o, none⟩ = some u → wx.cell? ⟨b, o, none⟩ = some u) := by
        intro wx hx b o u hu
        have hbw : b < w.heap.size := cell_lt hu
        have hs := HB3.out.size
        rw [World.cell?_of_block (a := ⟨b, o, none⟩) (hx.block b (by omega) (by simp; omega)), HB3.out.cell (p := ⟨b, o, none⟩) hbw]
        exact hu
      have c2 := LD.out wo hb _ _ _ c2w
      have hk3 : g[a].kids.length ≤ 3 := (kids_graph hg a hal).1
      have HKN : Hid ((kidsN g a).length = g[a].kids.length) := by rw [Hid, kidsN_at a hal]; simp
      have HT : Hid (useAt g (ws.take (j + 1)) = fun x => useAt g (ws.take j) x + cntN (kidsN g a) x) := by
        funext x
        rw [take_snoc HA.out, useAt_append, useAt_one]
      clear c0w c1w c2w hkk hct hb hbl3 hs3 e0 ha hg
      go_wp2_with fail
      clear c2 e1
      go_loopw [30] (fun k wr => ∃ q : Nat, q ≤ g[a].kids.length ∧ k = .int .i64 q ∧ Counts wr w.heap.size g.length (fun x => useAt g (ws.take j) x + cntN ((kidsN g a).take q) x) ∧ ButL [w.heap.size] w3 wr) (fun k _ => g[a].kids.length - (intOf k).toNat)
      case atStart => exact ⟨0, Nat.zero_le _, rfl, by simpa [cntN_nil] using HC.out, HB.out⟩
      case round =>
        obtain ⟨q, hq, rfl, hct, hb⟩ := hrel
        have HC2 : Hid (Counts wr w.heap.size g.length (fun x => useAt g (ws.take j) x + cntN ((kidsN g a).take q) x)) := hct
        have HB2' : Hid (ButL [w.heap.size] w3 wr) := hb
        by_cases hqt : q < g[a].kids.length
        · obtain ⟨k, hk1, hk2, hk4⟩ := kidsN_get HG.out a hal q hqt
          obtain ⟨bl3, off3, rfl, d0w⟩ := HKK.out.at q hqt
          have d0 := LD.out wr hb _ _ _ d0w
          rw [hk1] at d0
          have cn : wr.cell? ⟨w.heap.size, k, none⟩ = some (.int .i64 ((useAt g (ws.take j) k + cntN ((kidsN g a).take q) k : Nat) : Int)) := hct.cell (i := k) hk2
          have fn := hct.frozen k
          have hub : useAt g (ws.take j) k + cntN ((kidsN g a).take q) k ≤ 5000000 := by
            have h1 := useAt_le HG.out (ws.take j) k fun a ha => (HW2.out a (List.mem_of_mem_take ha)).2
            have h2 : (ws.take j).length ≤ ws.length := by rw [List.length_take]; omega
            have h3 := cntN_le ((kidsN g a).take q) k
            have h4 : ((kidsN g a).take q).length ≤ 3 := by rw [List.length_take, HKN.out]; omega
            omega
          have HC3' : Hid (Counts (wr.setCell ⟨w.heap.size, k, none⟩ (.int .i64 (((useAt g (ws.take j) k + cntN ((kidsN g a).take q) k : Nat) : Int) + 1))) w.heap.size g.length (fun x => useAt g (ws.take j) x + cntN ((kidsN g a).take (q + 1)) x)) := by
            refine Counts.up hct k _ fun x => ?_
            rw [take_snoc hk4, cntN_append, cntN_one]
            omega
          have HB3' : Hid (ButL [w.heap.size] w3 (wr.setCell ⟨w.heap.size, k, none⟩ (.int .i64 (((useAt g (ws.take j) k + cntN ((kidsN g a).take q) k : Nat) : Int) + 1)))) := hb.trans (ButL.setCell wr _ k (by simp) _)
          obtain ⟨u, hu⟩ : ∃ u : Nat, u = useAt g (ws.take j) k + cntN ((kidsN g a).take q) k := ⟨_, rfl⟩
          rw [← hu] at cn hub HC3' HB3'
          clear hk1 hk4 d0w hct hb hu
          go_wp2_with fail
          go_roundw
          case rel => exact ⟨q + 1, by omega, by go_num, HC3'.out, HB3'.out⟩
          case measure => simp [intOf]; omega
        · have hqe : q = g[a].kids.length := by omega
          have HC4 : Hid (Counts wr w.heap.size g.length (useAt g (ws.take (j + 1)))) := by
            rw [HT.out]
            refine World.rowIs.congr HC2.out fun x _ => ?_
            rw [hqe, ← HKN.out, List.take_length]
          clear hct hb hqe
          go_wp2_with fail
          go_roundw
          case rel => exact ⟨j + 1, by omega, by go_num, HC4.out, HB2'.out⟩
          case measure => simp [intOf]; omega
    · have hje : j = ws.length := by omega
      have HU : Hid (Counts wo w.heap.size g.length (useAt g ws)) := by have h := HC.out; rw [hje, List.take_length] at h; exact h
      have HBW : Hid (Below w.heap.size w wo) := HB3.out.trans (HB.out.below (by simp) HB3.out.size)
      have HLC : Hid (w.heap.size < wo.heap.size) := hct.lt
      clear hct hb hje
      go_wp2_with fail
      go_loopw [10, 44] (fun o i wr => ∃ k : Nat, k ≤ g.length ∧ i = .int .i64 k ∧ Stk wr wo.heap.size (numsN (manyF (useAt g ws)) k) o ∧ Below wo.heap.size wo wr) (fun _ i _ => g.length - (intOf i).toNat)
      case atStart => exact ⟨0, Nat.zero_le _, rfl, World.ownsRow_nil _ _ _ _, Below.refl _ _⟩
      case round =>
        obtain ⟨k, hk, rfl, hst, hb⟩ := hrel
        have HS : Hid (Stk wr wo.heap.size (numsN (manyF (useAt g ws)) k) _) := hst
        have HB5 : Hid (Below wo.heap.size wo wr) := hb
        have hnl := numsN_len (manyF (useAt g ws)) k
        obtain ⟨ad, cap, rfl⟩ := hst.len
        have cm := (hb.cell (p := ⟨w.heap.size, k, none⟩) HLC.out)
        clear hst hb
        by_cases hlt : k < g.length
        · have cm2 : wr.cell? ⟨w.heap.size, k, none⟩ = some (.int .i64 ((useAt g ws k : Nat) : Int)) := cm.trans (HU.out.cell hlt)
          clear cm
          by_cases hf : 1 < useAt g ws k
          · have HN : Hid (numsN (manyF (useAt g ws)) (k + 1) = numsN (manyF (useAt g ws)) k ++ [k]) := numsN_yes (by unfold manyF; simpa using hf)
            have HS3 : Hid (Stk (wr.alloc (.cells #[.int .i64 (k : Int)] 3)) wo.heap.size (numsN (manyF (useAt g ws)) k) (.slice ad (numsN (manyF (useAt g ws)) k).length cap)) := HS.out.alloc _
            have HK3 : Hid (IIn (wr.alloc (.cells #[.int .i64 (k : Int)] 3)) [(k : Int)] (.slice (some ⟨wr.heap.size, 0, none⟩) 1 1)) := one_in wr k
            have HLO : Hid (wo.heap.size ≤ (wr.alloc (.cells #[.int .i64 (k : Int)] 3)).heap.size) := by rw [Hid, Deep.nblk_alloc]; have := HB5.out.size; omega
            have HOB : Hid (∀ j, (Value.slice ad (numsN (manyF (useAt g ws)) k).length cap).ownBlock = some j → wo.heap.size ≤ j) := fun j hj => own_lo HS.out hj.symm
            have hf' : (1 : Int) < ((useAt g ws k : Nat) : Int) := by omega
            clear hf
            go_wp2_with (at_builtin; go_must (refine wpList_push rfl _ _ rfl _ wo.heap.size (numsN (manyF (useAt g ws)) k) [k] (.slice ad (numsN (manyF (useAt g ws)) k).length cap) (.slice (some ⟨wr.heap.size, 0, none⟩) 1 1) rfl HS3.out rfl HK3.out rfl HLO.out (by simp; omega) ?_); go_must (intro v' w5 hst5 hg5); go_must (have HS5 : Hid (Stk w5 wo.heap.size (numsN (manyF (useAt g ws)) (k + 1)) v') := by rw [HN.out]; exact hst5); go_must (have HB6 : Hid (Below wo.heap.size wo w5) := by have hb3 : Below wo.heap.size wo (wr.alloc (.cells #[.int .i64 (k : Int)] 3)) := HB5.out.alloc HB5.out.size _; exact ⟨by rw [hg5.os]; exact hb3.os, by rw [hg5.tape]; exact hb3.tape, by rw [hg5.output]; exact hb3.output, Nat.le_trans hb3.size hg5.size, fun j hj => (hg5.block j (by have := hb3.size; omega) (fun e => by have := HOB.out j e.symm; omega)).trans (hb3.block j hj)⟩); clear hst5 hg5 cm2)
            go_roundw
            case rel => first | exact ⟨k + 1, by omega, by go_num, HS5.out, HB6.out⟩ | ((repeat apply Exists.intro); exact ⟨⟨k + 1, by omega, by go_num, HS5.out, HB6.out⟩, rfl⟩)
            case measure => simp [intOf]; omega
          · have HN : Hid (numsN (manyF (useAt g ws)) (k + 1) = numsN (manyF (useAt g ws)) k) := numsN_no (by unfold manyF; simpa using hf)
            have hf' : ¬ (1 : Int) < ((useAt g ws k : Nat) : Int) := by omega
            clear hf
            go_wp2_with fail
            go_roundw
            case rel => exact ⟨k + 1, by omega, by go_num, by rw [HN.out]; exact HS.out, HB5.out⟩
            case measure => simp [intOf]; omega
        · have hke : k = g.length := by omega
          have HW : Hid (NewInts (shareB g root fl) w (.returned (.slice ad (numsN (manyF (useAt g ws)) k).length cap)) wr) := by
            rw [HV.out]
            subst hke; exact ⟨_, rfl, HS.out.row.keep HBW.out.size fun _ _ _ => rfl, HBW.out.trans (HB5.out.mono HBW.out.size)⟩
          clear cm hke
          go_wp2_with fail
          go_ret
          exact HW.out
end Go.Proofs.Ytjdlfpdljmohiaa
/-
  THE MODEL's SharedCells.
-/
namespace Go.Proofs.Ytjdlfpdljmohiaa
set_option linter.unusedVariables false
set_option linter.unusedSimpArgs false
open Go.RowKit

set_option maxRecDepth 100000 in
set_option maxHeartbeats 3200000 in
theorem specShared_calls (g : List Ce) (root : Int) (v : Value) (w : World) (fl : Nat → Bool) (hfl : ∀ a, fl a = true ↔ Reach g root.toNat a) (hk : CIn w g v) :
    Calls Try.prog 31 #[v, .int .i64 root] w (NewInts (shareB g root fl) w) := by
  have HK : Hid (CIn w g v) := hk
  have HFL : Hid (∀ a, fl a = true ↔ Reach g root.toNat a) := hfl
  obtain ⟨ad, cap, rfl, hl, hm, -⟩ := hk
  unfold maxLen at hm
  clear hfl
  go_enter Try.func31, Try.ntmps31
  go_wp2_with fail
  refine (specGraph_calls g 6 _ _ HK.out).mono ?_
  rintro e w1 ⟨rfl, hb1⟩
  have HB1 : Hid (Below w.heap.size w w1) := hb1
  clear hb1
  cases hg : graphB g 6 with
  | false =>
    have HV : Hid (shareB g root fl = []) := shareB_no (by rw [hg]; simp)
    clear hg
    go_wp2_with fail
    go_ret
    exact ⟨_, rfl, by rw [HV.out]; exact no_ints _ _ _ _ (by simp [maxLen]), HB1.out.alloc HB1.out.size _⟩
  | true =>
    have HG : Hid (graphB g 6 = true) := hg
    clear hg
    by_cases h0 : root < 0
    · have HV : Hid (shareB g root fl = []) := shareB_no (by rw [isAt_lo h0]; simp)
      go_wp2_with fail
      go_ret
      exact ⟨_, rfl, by rw [HV.out]; exact no_ints _ _ _ _ (by simp [maxLen]), HB1.out.alloc HB1.out.size _⟩
    by_cases h1 : (g.length : Int) ≤ root
    · have HV : Hid (shareB g root fl = []) := shareB_no (by rw [isAt_hi (by omega)]; simp)
      go_wp2_with fail
      go_ret
      exact ⟨_, rfl, by rw [HV.out]; exact no_ints _ _ _ _ (by simp [maxLen]), HB1.out.alloc HB1.out.size _⟩
    obtain ⟨n, rfl⟩ : ∃ n : Nat, root = (n : Int) := ⟨root.toNat, by omega⟩
    have hn : n < g.length := by omega
    have h400 : g.length ≤ 400 := graphB_len HG.out
    have HV : Hid (shareB g (n : Int) fl = numsTo (manyF (useAt g (numsN fl g.length))) g.length) := shareB_yes ⟨HG.out, isAt_in (by omega) (by omega)⟩
    go_wp2_with fail
    refine (l3From_calls g n _ _ fl (HK.out.next HB1.out) HG.out hn HFL.out).mono ?_
    rintro e w2 ⟨b, rfl, hbl, hmk, hb2⟩
    have HM : Hid (Marks w2 b g.length fl) := hmk
    have hbl2 : b < w2.heap.size := hmk.lt
    have HBL : Hid (b < w2.heap.size) := hmk.lt
    have HB2 : Hid (Below w.heap.size w w2) := HB1.out.trans (hb2.mono HB1.out.size)
    have hmi := make_ints g.length (by omega)
    have HZ0 : Hid (Counts (w2.alloc (.cells (madeCells #[.int .i64 0] g.length) 3)) w2.heap.size g.length (fun _ => 0)) := zero_row w2 g.length
    clear hmk hb2
    go_wp2_with fail
    go_loopw [7] (fun i wr => ∃ j : Nat, j ≤ g.length ∧ i = .int .i64 j ∧ Counts wr w2.heap.size g.length (useAt g (numsN fl j)) ∧ Below w2.heap.size w2 wr) (fun i _ => g.length - (intOf i).toNat)
    case atStart => exact ⟨0, Nat.zero_le _, rfl, HZ0.out, (Below.refl _ _).alloc (Nat.le_refl _) _⟩
    case round =>
      obtain ⟨j, hj, rfl, hct, hb⟩ := hrel
      obtain ⟨wo, rfl⟩ : ∃ wo : World, wo = wr := ⟨_, rfl⟩
      have HC : Hid (Counts wo w2.heap.size g.length (useAt g (numsN fl j))) := hct
      have HB : Hid (Below w2.heap.size w2 wo) := hb
      by_cases hlt : j < g.length
      · obtain ⟨bl, off, r2, rfl, c0w, c1w, c2w, -, -, hkk⟩ := HK.out.at j hlt
        have hbl3 : bl < w.heap.size := cell_lt c0w
        obtain ⟨ad3, cap3, rfl, -, -, -⟩ := id hkk
        have HKK : Hid (IIn w g[j].kids (.slice ad3 g[j].kids.length cap3)) := hkk
        have hw2 : w.heap.size ≤ w2.heap.size := HB2.out.size
        have C2 : Hid (∀ wx, Below w2.heap.size w2 wx → wx.cell? ⟨bl, off + j * 3 + 2, none⟩ = some (.slice ad3 g[j].kids.length cap3)) := fun wx hx => (hx.cell (p := ⟨bl, off + j * 3 + 2, none⟩) (by show bl < _; omega)).trans ((HB2.out.cell (p := ⟨bl, off + j * 3 + 2, none⟩) hbl3).trans c2w)
        have CM : Hid (∀ wx, Below w2.heap.size w2 wx → wx.cell? ⟨b, j, none⟩ = some (.bool (fl j))) := fun wx hx => (hx.cell (p := ⟨b, j, none⟩) HBL.out).trans (HM.out.cell hlt)
        have hk3 : g[j].kids.length ≤ 3 := (kids_graph HG.out j hlt).1
        have HKN : Hid ((kidsN g j).length = g[j].kids.length) := by rw [Hid, kidsN_at j hlt]; simp
        clear c0w c1w c2w hkk hct hb hbl3 hw2
        cases hf : fl j with
        | false =>
          have HN : Hid (numsN fl (j + 1) = numsN fl j) := numsN_no hf
          have CM0 : Hid (∀ wx, Below w2.heap.size w2 wx → wx.cell? ⟨b, j, none⟩ = some (.bool false)) := by rw [← hf]; exact CM.out
          clear hf
          go_wp2_with fail
          go_loopw [8] (fun k wr => k = .int .i64 0 ∧ wr = wo) (fun _ _ => 0)
          case atStart => exact ⟨rfl, rfl⟩
          case round =>
            obtain ⟨rfl, rfl⟩ := hrel
            have c2 := C2.out _ HB.out
            have cm := CM0.out _ HB.out
            by_cases hnk : g[j].kids.length = 0
            · rw [hnk] at c2
              go_wp2_with fail
              go_roundw
              case rel => exact ⟨j + 1, by omega, by go_num, by rw [HN.out]; exact HC.out, HB.out⟩
              case measure => simp [intOf]; omega
            · have hnk2 : 0 < g[j].kids.length := by omega
              clear hnk
              go_wp2_with fail
              go_roundw
              case rel => exact ⟨j + 1, by omega, by go_num, by rw [HN.out]; exact HC.out, HB.out⟩
              case measure => simp [intOf]; omega
        | true =>
          have HN : Hid (numsN fl (j + 1) = numsN fl j ++ [j]) := numsN_yes hf
          have CM1 : Hid (∀ wx, Below w2.heap.size w2 wx → wx.cell? ⟨b, j, none⟩ = some (.bool true)) := by rw [← hf]; exact CM.out
          clear hf
          go_wp2_with fail
          go_loopw [8] (fun k wr => ∃ q : Nat, q ≤ g[j].kids.length ∧ k = .int .i64 q ∧ Counts wr w2.heap.size g.length (fun x => useAt g (numsN fl j) x + cntN ((kidsN g j).take q) x) ∧ Below w2.heap.size w2 wr) (fun k _ => g[j].kids.length - (intOf k).toNat)
          case atStart => exact ⟨0, Nat.zero_le _, rfl, by simpa [cntN_nil] using HC.out, HB.out⟩
          case round =>
            obtain ⟨q, hq, rfl, hct, hb⟩ := hrel
            have HC2 : Hid (Counts wr w2.heap.size g.length (fun x => useAt g (numsN fl j) x + cntN ((kidsN g j).take q) x)) := hct
            have HB2' : Hid (Below w2.heap.size w2 wr) := hb
            have c2 := C2.out _ hb
            have cm := CM1.out _ hb
            by_cases hqt : q < g[j].kids.length
            · obtain ⟨k, hk1, hk2, hk4⟩ := kidsN_get HG.out j hlt q hqt
              obtain ⟨bl3, off3, rfl, d0w⟩ := HKK.out.at q hqt
              have hb3 : bl3 < w.heap.size := cell_lt d0w
              have hw2 : w.heap.size ≤ w2.heap.size := HB2.out.size
              have d0 := (hb.cell (p := ⟨bl3, off3 + q, none⟩) (by show bl3 < _; omega)).trans ((HB2.out.cell (p := ⟨bl3, off3 + q, none⟩) hb3).trans d0w)
              rw [hk1] at d0
              have cn : wr.cell? ⟨w2.heap.size, k, none⟩ = some (.int .i64 ((useAt g (numsN fl j) k + cntN ((kidsN g j).take q) k : Nat) : Int)) := hct.cell (i := k) hk2
              have fn := hct.frozen k
              have hub : useAt g (numsN fl j) k + cntN ((kidsN g j).take q) k ≤ 1203 := by
                have h1 := useAt_le HG.out (numsN fl j) k fun a ha => by have := numsN_lt fl j a ha; omega
                have h2 := numsN_len fl j
                have h3 := cntN_le ((kidsN g j).take q) k
                have h4 : ((kidsN g j).take q).length ≤ 3 := by rw [List.length_take, HKN.out]; omega
                omega
              have HC3 : Hid (Counts (wr.setCell ⟨w2.heap.size, k, none⟩ (.int .i64 (((useAt g (numsN fl j) k + cntN ((kidsN g j).take q) k : Nat) : Int) + 1))) w2.heap.size g.length (fun x => useAt g (numsN fl j) x + cntN ((kidsN g j).take (q + 1)) x)) := by
                refine Counts.up hct k _ fun x => ?_
                rw [take_snoc hk4, cntN_append, cntN_one]
                omega
              have HB3 : Hid (Below w2.heap.size w2 (wr.setCell ⟨w2.heap.size, k, none⟩ (.int .i64 (((useAt g (numsN fl j) k + cntN ((kidsN g j).take q) k : Nat) : Int) + 1)))) := hb.setCell (Nat.le_refl _) _
              obtain ⟨u, hu⟩ : ∃ u : Nat, u = useAt g (numsN fl j) k + cntN ((kidsN g j).take q) k := ⟨_, rfl⟩
              rw [← hu] at cn hub HC3 HB3
              clear hk1 hk4 d0w hct hb hb3 hw2 hu
              go_wp2_with fail
              have hwr : IntKind.i64.wrap ((u : Int) + 1) = (u : Int) + 1 := by
                exact IntWalk.i64_in _ (by omega)
              go_region_with (fail)
              all_goals
                go_wp2_with fail
                go_roundw
                case rel => exact ⟨q + 1, by omega, by go_num, HC3.out.of_block rfl, HB3.out.drew⟩
                case measure => simp [intOf]; omega
            · have hqe : q = g[j].kids.length := by omega
              have HC4 : Hid (Counts wr w2.heap.size g.length (useAt g (numsN fl (j + 1)))) := by
                rw [HN.out]
                refine World.rowIs.congr HC2.out fun x _ => ?_
                rw [useAt_append, useAt_one, hqe, ← HKN.out, List.take_length]
              clear hct hb hqe
              go_wp2_with fail
              go_roundw
              case rel => exact ⟨j + 1, by omega, by go_num, HC4.out, HB2'.out⟩
              case measure => simp [intOf]; omega
      · have hje : j = g.length := by omega
        have HU : Hid (Counts wo w2.heap.size g.length (useAt g (numsN fl g.length))) := by have h := HC.out; rw [hje] at h; exact h
        have hmk := make_bools g.length (by omega)
        obtain ⟨w3, hw3⟩ : ∃ w3 : World, w3 = wo.alloc (.cells (madeCells #[.bool false] g.length) 4) := ⟨_, rfl⟩
        have HW3 : Hid (w3 = wo.alloc (.cells (madeCells #[.bool false] g.length) 4)) := hw3
        have HM3 : Hid (Marks w3 wo.heap.size g.length (fun _ => false)) := by rw [Hid, hw3]; exact no_marks wo g.length
        have HB3 : Hid (Below wo.heap.size wo w3) := by rw [Hid, hw3]; exact box_below _ _
        have HLC : Hid (w2.heap.size < wo.heap.size) := hct.lt
        clear hct hb hje hw3
        go_wp2_with fail
        rw [← HW3.out]
        go_loopw [10] (fun i wr => ∃ j : Nat, j ≤ g.length ∧ i = .int .i64 j ∧ Marks wr wo.heap.size g.length (fun x => decide (x < j) && manyF (useAt g (numsN fl g.length)) x) ∧ Below wo.heap.size wo wr) (fun i _ => g.length - (intOf i).toNat)
        case atStart => exact ⟨0, Nat.zero_le _, rfl, World.rowIs.congr HM3.out fun i _ => by simp, HB3.out⟩
        case round =>
          obtain ⟨j, hj, rfl, hmm, hb⟩ := hrel
          have HM4 : Hid (Marks wr wo.heap.size g.length (fun x => decide (x < j) && manyF (useAt g (numsN fl g.length)) x)) := hmm
          have HB4 : Hid (Below wo.heap.size wo wr) := hb
          by_cases hlt : j < g.length
          · have cu : wr.cell? ⟨w2.heap.size, j, none⟩ = some (.int .i64 ((useAt g (numsN fl g.length) j : Nat) : Int)) := (hb.cell (p := ⟨w2.heap.size, j, none⟩) HLC.out).trans (HU.out.cell hlt)
            have cm := hmm.cell (i := j) hlt
            have fm := hmm.frozen j
            have HM5 : Hid (Marks (wr.setCell ⟨wo.heap.size, j, none⟩ (.bool (decide ((1 : Int) < ((useAt g (numsN fl g.length) j : Nat) : Int))))) wo.heap.size g.length (fun x => decide (x < j + 1) && manyF (useAt g (numsN fl g.length)) x)) := by
              refine World.rowIs.congr (hmm.set j _) fun x _ => ?_
              by_cases e : x = j
              · subst e; simp [manyF]; omega
              · have : decide (x < j + 1) = decide (x < j) := decide_eq_decide.2 (by omega)
                simp [e, this]
            have HB5 : Hid (Below wo.heap.size wo (wr.setCell ⟨wo.heap.size, j, none⟩ (.bool (decide ((1 : Int) < ((useAt g (numsN fl g.length) j : Nat) : Int)))))) := hb.setCell (Nat.le_refl _) _
            clear hmm hb
            go_wp2_with fail
            go_roundw
            case rel => exact ⟨j + 1, by omega, by go_num, HM5.out, HB5.out⟩
            case measure => simp [intOf]; omega
          · have hje : j = g.length := by omega
            have HM6 : Hid (Marks wr wo.heap.size g.length (fun x => decide (x < g.length) && manyF (useAt g (numsN fl g.length)) x)) := by have h := HM4.out; rw [hje] at h; exact h
            have HBW : Hid (Below w.heap.size w wr) := HB2.out.trans ((HB.out.trans (HB4.out.mono HB.out.size)).mono HB2.out.size)
            clear hmm hb hje
            go_wp2_with fail
            refine (l3Numbers_calls g.length _ _ _ HM6.out (graphB_len HG.out)).mono ?_
            rintro e w5 ⟨v5, rfl, hi5, hb5⟩
            have HI : Hid (IntRow w5 w.heap.size (numsTo (manyF (useAt g (numsN fl g.length))) g.length) v5) := by
              have e : numsTo (fun x => decide (x < g.length) && manyF (useAt g (numsN fl g.length)) x) g.length = numsTo (manyF (useAt g (numsN fl g.length))) g.length := by
                unfold numsTo
                rw [numsN_congr (f := fun x => decide (x < g.length) && manyF (useAt g (numsN fl g.length)) x) (f' := manyF (useAt g (numsN fl g.length))) g.length (fun a ha => by simp [ha])]
              rw [e] at hi5
              exact hi5.keep HBW.out.size fun _ _ _ => rfl
            have HB6 : Hid (Below w.heap.size w w5) := HBW.out.trans (hb5.mono HBW.out.size)
            clear hi5 hb5
            go_wp2_with fail
            go_ret
            exact ⟨_, rfl, by rw [HV.out]; exact HI.out, HB6.out⟩
end Go.Proofs.Ytjdlfpdljmohiaa
