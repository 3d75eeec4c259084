/-
  THE MODEL's l1Uses and VarsUsed: how often each variable stands in a tree.
-/
import Derived.Test.YticoegjackgldaaMark
import Derived.Test.YticoegjackgldaaProg
import Derived.Deep.QuietTactic
import Derived.BigQuiet
import Derived.WalkSmall
import Derived.Test.YticoegjackgldaaTally
import Derived.Test.YticoegjackgldaaRow3
import Derived.Test.YticoegjackgldaaMakeI
import Derived.Deep.RegionWith
namespace Go.Proofs.Yticoegjackgldaa
set_option linter.unusedVariables false
set_option linter.unusedSimpArgs false
open Go.RowKit

/-- is a node the variable i? -/
def isV (i : Nat) (t : Tr) : Bool := t.op == 1 && t.num == (i : Int)
def varsOf (n : Nat) (t : Tr) : List Int := (List.range n).map fun i => (cntT (isV i) t : Int)
theorem varsOf_length (n : Nat) (t : Tr) : (varsOf n t).length = n := by simp [varsOf]
theorem varsOf_get (n : Nat) (t : Tr) (i : Nat) (h : i < (varsOf n t).length) : (varsOf n t)[i] = (cntT (isV i) t : Int) := by simp [varsOf]

theorem KidsOn.but {w w' : World} {S : Nat → Prop} {g : Nat} {ks : List Tr} {c : Value} (h : KidsOn w S ks c) (hS : ∀ k, S k → k ≠ g ∧ k < w.heap.size) (hb : ButL [g] w w') : KidsOn w' S ks c :=
  h.mono (fun _ hk => hk) fun k hk => hb.block k (hS k hk).2 (by simpa using (hS k hk).1)

/-- a tree's blocks lie below lo, but for one -/
def Off (g lo : Nat) : Nat → Prop := fun k => k ≠ g ∧ k < lo

def UseSaid (t : Tr) : Prop := ∀ (g n : Nat) (f : Nat → Nat) (o m : Int) (c : Value) (w : World), w.rowIs g 3 n (fun i => .int .i64 (f i : Int)) → n ≤ 1048576 → (∀ i, i < n → f i + (1 + szT t) ≤ 1099511627776) → KidsOn w (Off g w.heap.size) t.kids c → o = t.op → m = t.num →
  Calls Try.prog 66 #[.slice (some ⟨g, 0, none⟩) n n, .agg #[.int .i64 o, .int .i64 m, c]] w fun e w' => e = .returned (.slice (some ⟨g, 0, none⟩) n n) ∧ w'.rowIs g 3 n (fun i => .int .i64 ((f i + cntT (isV i) t : Nat) : Int)) ∧ ButL [g] w w'

set_option maxRecDepth 100000 in
set_option maxHeartbeats 1600000 in
theorem uses_step (t : Tr) (ih : ∀ i (hi : i < t.kids.length), UseSaid (t.kids[i])) : UseSaid t := by
  intro g n f o m c w hrow hn hf hk ho hm
  subst ho
  subst hm
  have HI : Hid (∀ i (hi : i < t.kids.length), UseSaid (t.kids[i])) := ih
  have HK : Hid (KidsOn w (Off g w.heap.size) t.kids c) := hk
  have HF : Hid (∀ i, i < n → f i + (1 + szT t) ≤ 1099511627776) := hf
  have HRW : Hid (w.rowIs g 3 n (fun i => .int .i64 (f i : Int))) := hrow
  have hgl : g < w.heap.size := hrow.lt
  obtain ⟨ad, cap, rfl, hl, hm, -⟩ := hk
  unfold maxLen at hm
  clear ih hf hrow
  have hcase : t.op ≠ 1 ∨ (t.op = 1 ∧ t.num < 0) ∨ (t.op = 1 ∧ 0 ≤ t.num ∧ (n : Int) ≤ t.num) ∨ (∃ j : Nat, t.op = 1 ∧ t.num = j ∧ j < n) := by
    by_cases h1 : t.op = 1
    · by_cases h2 : t.num < 0
      · exact Or.inr (Or.inl ⟨h1, h2⟩)
      · by_cases h3 : (n : Int) ≤ t.num
        · exact Or.inr (Or.inr (Or.inl ⟨h1, by omega, h3⟩))
        · exact Or.inr (Or.inr (Or.inr ⟨t.num.toNat, h1, by omega, by omega⟩))
    · exact Or.inl h1
  obtain ⟨f1, hf1⟩ : ∃ f1 : Nat → Nat, f1 = fun i => f i + (if isV i t then 1 else 0) := ⟨_, rfl⟩
  have HF1 : Hid (f1 = fun i => f i + (if isV i t then 1 else 0)) := hf1
  clear hf1
  have hbx := box_below w (.cells #[.int .i64 t.op, .int .i64 t.num, .slice ad t.kids.length cap] 29)
  have hb2 := box_cell w #[.int .i64 t.op, .int .i64 t.num, .slice ad t.kids.length cap] 29 2 _ rfl
  have HBX : Hid _ := hbx
  have HB2 : Hid _ := hb2
  clear hbx hb2
  rcases hcase with hA | ⟨hA, hB⟩ | ⟨hA, hB, hC⟩ | ⟨j, hA, hB, hC⟩
  case' inl =>
    have t1 : (t.op == 1) = false := by simpa using hA
    have HN : Hid (∀ i, i < n → isV i t = false) := fun i _ => by simp [isV, hA]
    clear hA
    go_enter Try.func66, Try.ntmps66
    go_wp2_with fail
    obtain ⟨wh, hwh⟩ : ∃ wh : World, wh = w.alloc (.cells #[.int .i64 t.op, .int .i64 t.num, .slice ad t.kids.length cap] 29) := ⟨_, rfl⟩
    rw [← hwh]
    have HR : Hid (wh.rowIs g 3 n (fun i => .int .i64 (f1 i : Int))) := by
      rw [hwh]
      refine ((HRW.out.alloc _).congr fun i hi => ?_)
      have h1 := HN.out i hi
      rw [HF1.out]
      simp [h1]
    have HBL : Hid (ButL [g] w wh) := by rw [hwh]; exact ButL.of_below HBX.out
    have c2 : wh.cell? ⟨w.heap.size, 2, none⟩ = some (.slice ad t.kids.length cap) := by rw [hwh]; exact HB2.out
    clear hwh
  case' inr.inl =>
    have t1 : (t.op == 1) = true := by simpa using hA
    have t2 : decide (0 ≤ t.num) = false := by simpa using hB
    have HN : Hid (∀ i, i < n → isV i t = false) := fun i _ => by simp [isV, hA]; omega
    clear hA
    go_enter Try.func66, Try.ntmps66
    go_wp2_with fail
    obtain ⟨wh, hwh⟩ : ∃ wh : World, wh = w.alloc (.cells #[.int .i64 t.op, .int .i64 t.num, .slice ad t.kids.length cap] 29) := ⟨_, rfl⟩
    rw [← hwh]
    have HR : Hid (wh.rowIs g 3 n (fun i => .int .i64 (f1 i : Int))) := by
      rw [hwh]
      refine ((HRW.out.alloc _).congr fun i hi => ?_)
      have h1 := HN.out i hi
      rw [HF1.out]
      simp [h1]
    have HBL : Hid (ButL [g] w wh) := by rw [hwh]; exact ButL.of_below HBX.out
    have c2 : wh.cell? ⟨w.heap.size, 2, none⟩ = some (.slice ad t.kids.length cap) := by rw [hwh]; exact HB2.out
    clear hwh
  case' inr.inr.inl =>
    have t1 : (t.op == 1) = true := by simpa using hA
    have t2 : decide (0 ≤ t.num) = true := by simpa using hB
    have t3 : decide (t.num < (n : Int)) = false := by simp; omega
    have HN : Hid (∀ i, i < n → isV i t = false) := fun i _ => by simp [isV, hA]; omega
    clear hA
    go_enter Try.func66, Try.ntmps66
    go_wp2_with fail
    obtain ⟨wh, hwh⟩ : ∃ wh : World, wh = w.alloc (.cells #[.int .i64 t.op, .int .i64 t.num, .slice ad t.kids.length cap] 29) := ⟨_, rfl⟩
    rw [← hwh]
    have HR : Hid (wh.rowIs g 3 n (fun i => .int .i64 (f1 i : Int))) := by
      rw [hwh]
      refine ((HRW.out.alloc _).congr fun i hi => ?_)
      have h1 := HN.out i hi
      rw [HF1.out]
      simp [h1]
    have HBL : Hid (ButL [g] w wh) := by rw [hwh]; exact ButL.of_below HBX.out
    have c2 : wh.cell? ⟨w.heap.size, 2, none⟩ = some (.slice ad t.kids.length cap) := by rw [hwh]; exact HB2.out
    clear hwh
  case' inr.inr.inr =>
    have t1 : (t.op == 1) = true := by simpa using hA
    have HN : Hid (∀ i, i < n → isV i t = decide (i = j)) := fun i _ => by
      by_cases h : i = j
      · subst h; simp [isV, hA, hB]
      · have h2 : ¬ (j : Int) = i := by omega
        simp [isV, hA, hB, h, h2]
    have c0 := HRW.out.cell (i := j) hC
    have z0 := HRW.out.frozen j
    have hfj := HF.out j hC
    have HNum : Hid (t.num = (j : Int)) := hB
    rw [hB]
    clear hA hB
    go_enter Try.func66, Try.ntmps66
    go_wp2_with fail
    go_region
    go_wp2_with fail
    obtain ⟨wh, hwh⟩ : ∃ wh : World, wh = ((w.setCell ⟨g, j, none⟩ (.int .i64 ((f j : Int) + 1))).alloc (.cells #[.int .i64 t.op, .int .i64 (j : Int), .slice ad t.kids.length cap] 29)).drew := ⟨_, rfl⟩
    rw [← hwh]
    have HR : Hid (wh.rowIs g 3 n (fun i => .int .i64 (f1 i : Int))) := by
      rw [hwh]
      have h0 := (HRW.out.set j (.int .i64 ((f j : Int) + 1))).alloc (.cells #[.int .i64 t.op, .int .i64 (j : Int), .slice ad t.kids.length cap] 29)
      refine (World.rowIs.congr (w := ((w.setCell ⟨g, j, none⟩ (.int .i64 ((f j : Int) + 1))).alloc (.cells #[.int .i64 t.op, .int .i64 (j : Int), .slice ad t.kids.length cap] 29))) h0 fun i hi => ?_)
      have h1 := HN.out i hi
      rw [HF1.out]
      by_cases hij : i = j
      · subst hij; simp [h1]
      · simp [h1, hij]
    have hsz1 : (w.setCell ⟨g, j, none⟩ (.int .i64 ((f j : Int) + 1))).heap.size = w.heap.size := size_setCell _ _ _
    have HBL : Hid (ButL [g] w wh) := by
      rw [hwh]
      exact (ButL.setCell w g j (by simp) _).trans (ButL.of_below (box_below _ _).drew)
    have c2 : wh.cell? ⟨w.heap.size, 2, none⟩ = some (.slice ad t.kids.length cap) := by
      rw [hwh, ← hsz1]
      exact box_cell _ _ _ 2 _ rfl
    clear hwh hsz1 c0 z0 hfj
  all_goals
    have hz0 : w.heap.size < wh.heap.size := cell_lt c2
    have HC2 : Hid (wh.cell? ⟨w.heap.size, 2, none⟩ = some (.slice ad t.kids.length cap)) := c2
    clear c2
    go_loopw [0, 5] (fun v i wr => v = .slice (some ⟨g, 0, none⟩) n n ∧ ∃ k : Nat, k ≤ t.kids.length ∧ i = .int .i64 k ∧ wr.rowIs g 3 n (fun i => .int .i64 ((f1 i + cntL (isV i) (t.kids.take k) : Nat) : Int)) ∧ ButL [g] wh wr) (fun _ i _ => t.kids.length - (intOf i).toNat)
    case atStart => exact ⟨rfl, 0, Nat.zero_le _, rfl, by simpa [cntL] using HR.out, ButL.refl _ _⟩
    case round =>
      obtain ⟨rfl, k, hk, rfl, hrow, hb⟩ := hrel
      have HRR : Hid (wr.rowIs g 3 n (fun i => .int .i64 ((f1 i + cntL (isV i) (t.kids.take k) : Nat) : Int))) := hrow
      have HB : Hid (ButL [g] wh wr) := hb
      have cr : wr.cell? ⟨w.heap.size, 2, none⟩ = some (.slice ad t.kids.length cap) := (World.cell?_of_block (a := ⟨w.heap.size, 2, none⟩) (hb.block w.heap.size hz0 (by simp; omega))).trans HC2.out
      by_cases hlt : k < t.kids.length
      · have hkr := HK.out.but (fun k hk => ⟨hk.1, hk.2⟩) (HBL.out.trans HB.out)
        obtain ⟨ad', cap', he, -, -, hr⟩ := hkr
        cases he
        rcases hr with hnil | ⟨bl, off, rfl, hS, hr⟩
        · rw [hnil] at hlt; simp at hlt
        obtain ⟨p, q, r, e0, e1, e2, ht⟩ := RowOn.at t.kids off k hlt hr
        obtain ⟨rfl, rfl, -, -, hkk⟩ := trOn_iff.1 ht
        have HKK : Hid (KidsOn wr (Off g wr.heap.size) t.kids[k].kids r) := hkk.mono (fun k hk => ⟨hk.1, Nat.lt_of_lt_of_le hk.2 (Nat.le_trans HBL.out.size HB.out.size)⟩) (fun _ _ => rfl)
        have hfk : Hid (∀ i, i < n → f1 i + cntL (isV i) (t.kids.take k) + (1 + szT t.kids[k]) ≤ 1099511627776) := fun i hi => by
          have h1 := HF.out i hi
          have h2 := szL_take_succ t.kids k hlt
          have h3 := szL_take_le t.kids (k + 1)
          have h4 := cntL_le (isV i) (t.kids.take k)
          rw [szT_eq] at h1
          rw [HF1.out]
          have h5 : (if isV i t = true then 1 else 0) ≤ 1 := by split <;> omega
          simp only
          omega
        clear hkk ht hr hrow hb
        go_wp2_with fail
        refine (HI.out k hlt g n _ _ _ r wr HRR.out hn hfk.out HKK.out rfl rfl).mono ?_
        rintro e w1 ⟨rfl, hr1, hb1⟩
        have HR1 : Hid (w1.rowIs g 3 n (fun i => .int .i64 ((f1 i + cntL (isV i) (t.kids.take (k + 1)) : Nat) : Int))) := hr1.congr fun i hi => by rw [cntL_take_succ _ _ _ hlt, Nat.add_assoc]
        have HB1 : Hid (ButL [g] wh w1) := HB.out.trans hb1
        clear hr1 hb1
        go_wp2_with fail
        go_roundw
        case rel => exact ⟨rfl, k + 1, by omega, by go_num, HR1.out, HB1.out⟩
        case measure => simp [intOf]; omega
      · have hke : k = t.kids.length := by omega
        have HV : Hid (wr.rowIs g 3 n (fun i => .int .i64 ((f i + cntT (isV i) t : Nat) : Int)) ∧ ButL [g] w wr) := by
          refine ⟨HRR.out.congr fun i hi => ?_, HBL.out.trans HB.out⟩
          rw [hke, List.take_length, HF1.out, cntT_eq, Nat.add_assoc]
        clear hke hrow hb
        go_wp2_with fail
        go_ret
        exact ⟨rfl, HV.out⟩

theorem uses_any : ∀ (n : Nat) (t : Tr), szT t ≤ n → UseSaid t := by
  intro n
  induction n with
  | zero =>
    intro t h
    exact uses_step t fun i hi => absurd (szT_lt_szL t.kids i hi) (by rw [szT_eq] at h; omega)
  | succ n ih =>
    intro t h
    exact uses_step t fun i hi => ih _ (by have := szT_lt_szL t.kids i hi; rw [szT_eq] at h; omega)
theorem uses_calls (t : Tr) : UseSaid t := uses_any _ t (Nat.le_refl _)
end Go.Proofs.Yticoegjackgldaa
