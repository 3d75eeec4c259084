/-
  THE MODEL's l8Depths AND StackOf.
-/
import Derived.Test.YthknbafcnobgdaaInsOn
import Derived.Test.YthknbafcnobgdaaSpecOwn
import Derived.Test.YthknbafcnobgdaaStkI
import Derived.Test.YthknbafcnobgdaaImplHt
namespace Go.Proofs.Ythknbafcnobgdaa
set_option linter.unusedVariables false
set_option linter.unusedSimpArgs false
open Go.RowKit

/-- heights, as numbers -/
def hN (ds : List Nat) : List Int := ds.map fun (a : Nat) => (a : Int)
theorem hN_length (ds : List Nat) : (hN ds).length = ds.length := by simp [hN]
/-- the heights, in new memory, and whether one element is left -/
def DepRes (cs : List Ins) (w : World) (e : Ending) (w' : World) : Prop :=
  ∃ v, e = .returned (.tuple #[v, .bool (match dsC [] cs with | some ds => decide (topH ds = 1) | none => false)]) ∧ StkI w' w.heap.size (match dsC [] cs with | some ds => hN ds | none => []) v ∧ Below w.heap.size w w'

set_option maxRecDepth 100000 in
set_option maxHeartbeats 1600000 in
theorem l8Depths_calls (cs : List Ins) (c : Value) (w : World) (hk : InsIn w cs c) (hl : cs.length ≤ 1048576) : Calls Try.prog 43 #[c] w (DepRes cs w) := by
  have HK : Hid (InsIn w cs c) := hk
  obtain ⟨ad, cap, rfl, -, -, -⟩ := hk
  go_enter Try.func43, Try.ntmps43
  go_wp2_with fail
  go_loopw [4, 5, 6] (fun o n i wr => ∃ (k : Nat) (ds : List Nat), k ≤ cs.length ∧ i = .int .i64 k ∧ Hid (dsC [] (cs.take k) = some ds) ∧ n = .int .i64 (topH ds : Int) ∧ StkI wr w.heap.size (hN ds) o ∧ Below w.heap.size w wr) (fun _ _ i _ => cs.length - (intOf i).toNat)
  case atStart => exact ⟨0, [], Nat.zero_le _, rfl, rfl, rfl, StkI.nil _ _ (Nat.le_refl _), box_below _ _⟩
  case round =>
    obtain ⟨k, ds, hk, rfl, HD, rfl, hst, hb⟩ := hrel
    obtain ⟨htk, hdl⟩ := dsC_take HD.out hk
    have HS : Hid (StkI wr w.heap.size (hN ds) u4) := hst
    have HB : Hid (Below w.heap.size w wr) := hb
    clear hst
    by_cases hlt : k < cs.length
    · obtain ⟨bl, off, rfl, -, c0, c1⟩ := (HK.out.next hb).at k hlt
      obtain ⟨ado, no, capo, rfl⟩ := HS.out.form
      clear hb
      by_cases hok : 0 ≤ arity cs[k].op ∧ arN cs[k].op ≤ topH ds
      · have HN := mkHid (dsC_some HD.out hlt hok.1 hok.2)
        obtain ⟨hok1, hok2⟩ := hok
        have har : arity cs[k].op = (arN cs[k].op : Int) := by
          rcases arity_cases cs[k].op with e | ⟨-, e, -⟩
          · omega
          · exact e
        have hq := l1Kids_calls cs[k].op wr
        rw [har] at hq
        have HT := mkHid (topH_snoc ds (topH ds - arN cs[k].op + 1))
        have HE : Hid ((topH ds : Int) - (arN cs[k].op : Int) + 1 = ((topH ds - arN cs[k].op + 1 : Nat) : Int)) := by unfold Hid; omega
        have hn1 : ¬ ((arN cs[k].op : Int) < 0) := by omega
        have hn2 : ¬ ((topH ds : Int) < (arN cs[k].op : Int)) := by omega
        have HNL : Hid (hN (ds ++ [topH ds - arN cs[k].op + 1]) = hN ds ++ [(topH ds : Int) - (arN cs[k].op : Int) + 1]) := by unfold Hid; rw [HE.out]; simp [hN]
        have HDL : Hid ((hN ds).length ≤ 1048575) := by unfold Hid; rw [hN_length]; omega
        have A1 := mkHid (HS.out.alloc (.cells #[.int .i64 ((topH ds : Int) - (arN cs[k].op : Int) + 1)] 3))
        have K1 := mkHid (oneI_in wr ((topH ds : Int) - (arN cs[k].op : Int) + 1))
        have L1 : Hid (w.heap.size ≤ (wr.alloc (.cells #[.int .i64 ((topH ds : Int) - (arN cs[k].op : Int) + 1)] 3)).heap.size) := by rw [Hid, Deep.nblk_alloc]; have := HB.out.size; omega
        have HB5 : Hid (Below w.heap.size w (wr.alloc (.cells #[.int .i64 ((topH ds : Int) - (arN cs[k].op : Int) + 1)] 3))) := HB.out.alloc HB.out.size _
        clear hok1 har
        go_wp2_with fail
        refine hq.mono ?_
        rintro e w1 ⟨rfl, rfl⟩
        go_wp2_with (have tk := A1; clear tk; at_builtin; go_must (refine wpList_pushI rfl _ _ rfl _ w.heap.size (hN ds) [(topH ds : Int) - (arN cs[k].op : Int) + 1] (.slice ado no capo) (.slice (some ⟨wr.heap.size, 0, none⟩) 1 1) rfl A1.out rfl K1.out L1.out (by have := HDL.out; simp only [List.length_cons, List.length_nil]; omega) ?_); go_must (intro v1 w6 hst1 hg1); go_must (have HB6 : Hid (Below w.heap.size w w6) := StkI.grown A1.out rfl HB5.out hg1); go_must (have HS6 : Hid (StkI w6 w.heap.size (hN (ds ++ [topH ds - arN cs[k].op + 1])) v1) := by rw [HNL.out]; exact hst1); go_must (obtain ⟨ad1, n1, cap1, rfl⟩ := hst1.form); clear hst1 hg1)
        go_roundw
        case rel => exact ⟨k + 1, _, by omega, by go_num, HN, by rw [HT.out, ← HE.out], HS6.out, HB6.out⟩
        case measure => simp [intOf]; omega
      · have HV := mkHid (dsC_no HD.out hlt hok)
        have HST : Hid (StkI (wr.alloc (.cells #[] 3)) w.heap.size [] (.slice (some ⟨wr.heap.size, 0, none⟩) 0 0)) := StkI.nil _ _ HB.out.size
        have HBA : Hid (Below w.heap.size w (wr.alloc (.cells #[] 3))) := HB.out.alloc HB.out.size _
        have hq := l1Kids_calls cs[k].op wr
        by_cases h1 : 0 ≤ arity cs[k].op
        · have har : arity cs[k].op = (arN cs[k].op : Int) := by
            rcases arity_cases cs[k].op with e | ⟨-, e, -⟩
            · omega
            · exact e
          rw [har] at hq
          have hn1 : ¬ ((arN cs[k].op : Int) < 0) := by omega
          have hn2 : (topH ds : Int) < (arN cs[k].op : Int) := by omega
          have hn3 : topH ds < arN cs[k].op := by omega
          clear hok h1 har
          go_wp2_with fail
          refine hq.mono ?_
          rintro e w1 ⟨rfl, rfl⟩
          go_wp2_with fail
          go_ret2
          exact ⟨.slice (some ⟨wr.heap.size, 0, none⟩) 0 0, by rw [HV.out]; rfl, by rw [HV.out]; exact HST.out, HBA.out⟩
        · have har : arity cs[k].op = -1 := by
            rcases arity_cases cs[k].op with e | ⟨e, -, -⟩
            · exact e
            · omega
          rw [har] at hq
          clear hok h1 har
          go_wp2_with fail
          refine hq.mono ?_
          rintro e w1 ⟨rfl, rfl⟩
          go_wp2_with fail
          go_ret2
          exact ⟨.slice (some ⟨wr.heap.size, 0, none⟩) 0 0, by rw [HV.out]; rfl, by rw [HV.out]; exact HST.out, HBA.out⟩
    · have hke : k = cs.length := by omega
      have HV : Hid (dsC [] cs = some ds) := by
        have := HD.out
        rw [hke, List.take_length] at this
        exact this
      clear hke hb
      obtain ⟨ado, no, capo, rfl⟩ := HS.out.form
      go_wp2_with fail
      go_ret2
      refine ⟨.slice ado no capo, ?_, ?_, HB.out⟩
      · rw [HV.out]; refine congrArg (fun b => Ending.returned (.tuple #[.slice ado no capo, .bool b])) (?_ : ((topH ds : Int) == 1) = decide (topH ds = 1)); by_cases h : topH ds = 1 <;> simp [h] <;> omega
      · rw [HV.out]; exact HS.out

theorem mxL_take (ds : List Nat) (j : Nat) (h : j < ds.length) : mxL (ds.take (j + 1)) = max (mxL (ds.take j)) ds[j] := by
  rw [List.take_succ_eq_append_getElem h, mxL_snoc]

set_option maxRecDepth 100000 in
set_option maxHeartbeats 1600000 in
theorem specStack_calls (cs : List Ins) (c : Value) (w : World) (hk : InsIn w cs c) (hl : cs.length ≤ 1048576) : Calls Try.prog 35 #[c] w fun e w' => e = .returned (.int .i64 (stackO cs : Int)) ∧ Below w.heap.size w w' := by
  obtain ⟨L, hL⟩ : ∃ L : List Nat, L = (match dsC [] cs with | some ds => ds | none => []) := ⟨_, rfl⟩
  have HV : Hid (stackO cs = mxL L) := by rw [hL]; unfold Hid stackO; cases dsC [] cs <;> rfl
  have HLN : Hid (L.length ≤ 1048576) := by
    rw [hL]; unfold Hid
    cases h : dsC [] cs with
    | none => simp
    | some ds => have := dsC_len h; simp at this ⊢; omega
  have HQ : Hid (∀ W : World, InsIn W cs c → Calls Try.prog 43 #[c] W fun e w' => ∃ v b, e = .returned (.tuple #[v, .bool b]) ∧ StkI w' W.heap.size (hN L) v ∧ Below W.heap.size W w') := fun W hW => (l8Depths_calls cs c W hW hl).mono fun e w' h => by
    obtain ⟨v, e1, e2, e3⟩ := h
    refine ⟨v, _, e1, ?_, e3⟩
    rw [hL]
    cases h : dsC [] cs <;> rw [h] at e2 <;> exact e2
  have HK : Hid (InsIn w cs c) := hk
  clear hL hk
  go_enter Try.func35, Try.ntmps35
  go_wp2_with fail
  refine (HQ.out w HK.out).mono ?_
  rintro e w1 ⟨v, b, rfl, hst, hb⟩
  have HS : Hid (StkI w1 w.heap.size (hN L) v) := hst
  have HB : Hid (Below w.heap.size w w1) := hb
  obtain ⟨ado, no, capo, rfl⟩ := HS.out.form
  have hno : no = L.length := by rw [HS.out.eq_len, hN_length]
  subst hno
  have HI : Hid (IIn w1 (hN L) (.slice ado L.length capo)) := HS.out.row.inn
  clear hst hb
  go_wp2_with fail
  go_loopw [3, 6] (fun m i wr => ∃ (j : Nat), j ≤ L.length ∧ i = .int .i64 j ∧ m = .int .i64 (mxL (L.take j) : Int) ∧ Below w1.heap.size w1 wr) (fun _ i _ => L.length - (intOf i).toNat)
  case atStart => exact ⟨0, Nat.zero_le _, rfl, rfl, Below.refl _ _⟩
  case round =>
    obtain ⟨j, hj, rfl, rfl, hb⟩ := hrel
    have HBR := mkHid hb
    have hln := HLN.out
    by_cases hlt : j < L.length
    · clear hb
      obtain ⟨bl, off, rfl, c0⟩ := (HI.out.next HBR.out).at j (by rw [hN_length]; exact hlt)
      have hel : (hN L)[j]'(by rw [hN_length]; exact hlt) = (L[j] : Int) := by simp [hN]
      rw [hel] at c0
      have HM := mkHid (mxL_take L j hlt)
      clear hel
      by_cases hgt : (mxL (L.take j) : Int) < (L[j] : Int)
      · have HM2 : Hid (mxL (L.take (j + 1)) = L[j]) := by rw [Hid, HM.out]; omega
        clear HM
        go_wp2_with fail
        go_roundw
        case rel => exact ⟨j + 1, by omega, by go_num, by rw [HM2.out], HBR.out⟩
        case measure => simp [intOf]; omega
      · have HM2 : Hid (mxL (L.take (j + 1)) = mxL (L.take j)) := by rw [Hid, HM.out]; omega
        clear HM
        go_wp2_with fail
        go_roundw
        case rel => exact ⟨j + 1, by omega, by go_num, by rw [HM2.out], HBR.out⟩
        case measure => simp [intOf]; omega
    · have hje : j = L.length := by omega
      have HV2 : Hid (stackO cs = mxL (L.take j)) := by rw [Hid, HV.out, hje, List.take_length]
      have HBB := mkHid (HB.out.trans (HBR.out.mono HB.out.size))
      clear hje hb
      go_wp2_with fail
      go_ret
      rw [HV2.out]
      exact ⟨rfl, HBB.out⟩
end Go.Proofs.Ythknbafcnobgdaa
