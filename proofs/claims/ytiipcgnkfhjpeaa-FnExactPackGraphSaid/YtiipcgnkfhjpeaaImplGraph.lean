/-
  THE PROGRAM's GraphValid (cellFits, isCell, areCells); nothing that was there is changed.
-/
import Derived.Test.YtiipcgnkfhjpeaaSpecGraph
import Derived.Test.YtiipcgnkfhjpeaaNodeAt
namespace Go.Proofs.Ytiipcgnkfhjpeaa
set_option linter.unusedVariables false
set_option linter.unusedSimpArgs false
open Go.RowKit

set_option maxHeartbeats 400000 in
theorem isCell_calls (n cap : Nat) (ad : Option Addr) (a : Int) (w : World) (hn : n ≤ 9223372036854775807) :
    Calls Try.prog 74 #[.slice ad n cap, .int .i64 a] w fun e w' => e = .returned (.bool (isAt n a)) ∧ Below w.heap.size w w' := by
  by_cases h0 : 0 ≤ a
  · by_cases h1 : a < (n : Int)
    · have HV : Hid (isAt n a = true) := isAt_in h0 h1
      go_enter Try.func74, Try.ntmps74
      go_wp2_with fail
      go_ret
      exact ⟨ret_bool HV.out.symm, Below.refl _ _⟩
    · have HV : Hid (isAt n a = false) := isAt_hi h1
      go_enter Try.func74, Try.ntmps74
      go_wp2_with fail
      go_ret
      exact ⟨ret_bool HV.out.symm, Below.refl _ _⟩
  · have HV : Hid (isAt n a = false) := isAt_lo (by omega)
    go_enter Try.func74, Try.ntmps74
    go_wp2_with fail
    go_ret
    exact ⟨ret_bool HV.out.symm, Below.refl _ _⟩

set_option maxHeartbeats 800000 in
theorem areCells_calls (n cap : Nat) (ad : Option Addr) (xs : List Int) (v : Value) (w : World) (hn : n ≤ 9223372036854775807) (hk : IIn w xs v) :
    Calls Try.prog 61 #[.slice ad n cap, v] w fun e w' => e = .returned (.bool (xs.all (isAt n))) ∧ Below w.heap.size w w' := by
  have HK : Hid (IIn w xs v) := hk
  obtain ⟨ad2, cap2, rfl, hl, hm, -⟩ := hk
  unfold maxLen at hm
  go_enter Try.func61, Try.ntmps61
  go_wp2_with fail
  go_loopw [9] (fun i wr => ∃ k : Nat, k ≤ xs.length ∧ i = .int .i64 k ∧ (xs.take k).all (isAt n) = true ∧ Below w.heap.size w wr) (fun i _ => xs.length - (intOf i).toNat)
  case atStart => exact ⟨0, Nat.zero_le _, rfl, by simp, Below.refl _ _⟩
  case round =>
    obtain ⟨k, hk, rfl, hall, hb⟩ := hrel
    have HA : Hid ((xs.take k).all (isAt n) = true) := hall
    have HB : Hid (Below w.heap.size w wr) := hb
    clear hall hb
    by_cases hlt : k < xs.length
    · obtain ⟨bl, off, rfl, d0⟩ := (HK.out.next HB.out).at k hlt
      go_wp2_with fail
      refine (isCell_calls n cap ad xs[k] _ hn).mono ?_
      rintro e w1 ⟨rfl, hb1⟩
      have HB1 : Hid (Below w.heap.size w w1) := HB.out.trans (hb1.mono HB.out.size)
      clear hb1 d0
      cases hc : isAt n xs[k] with
      | false =>
        have HV : Hid (xs.all (isAt n) = false) := allI_false_of _ _ k hlt hc
        clear hc
        go_wp2_with fail
        go_ret
        exact ⟨ret_bool HV.out.symm, HB1.out⟩
      | true =>
        have HA2 : Hid ((xs.take (k + 1)).all (isAt n) = true) := by rw [Hid, allI_take_succ _ _ _ hlt, HA.out, hc]; rfl
        clear hc
        go_wp2_with fail
        go_roundw
        case rel => exact ⟨k + 1, by omega, by go_num, HA2.out, HB1.out⟩
        case measure => simp [intOf]; omega
    · have hke : xs.length = k := by omega
      have HV : Hid (xs.all (isAt n) = true) := all_end HA.out hke
      clear hke
      go_wp2_with fail
      go_ret
      exact ⟨ret_bool HV.out.symm, HB.out⟩

/-- cellFits, for a kind with a node -/
theorem fits_node {defs op num : Int} {n : Nat} (h : op ≠ 11) : topC op num n 0 defs = (decide ((n : Int) = cArity op) && ownB op num 0 defs) := by
  unfold topC cArity; rw [if_neg h]

set_option maxRecDepth 100000 in
set_option maxHeartbeats 800000 in
theorem cellFits_node (op num defs : Int) (n cap : Nat) (ad : Option Addr) (T : TypeId) (x : Value) (K : FuncId) (ok fit : Bool) (hn : NodeAt 0 defs op num n T x K ok fit) (h11 : op ≠ 11) (hm : n ≤ 9223372036854775807) (w : World) :
    Calls Try.prog 60 #[.agg #[.int .i64 op, .int .i64 num, .slice ad n cap], .int .i64 defs] w fun e w' => e = .returned (.bool (topC op num n 0 defs)) ∧ Below w.heap.size w w' := by
  have HN : Hid (NodeAt 0 defs op num n T x K ok fit) := hn
  have HBX : Hid (Below w.heap.size w (w.alloc (.cells #[.int .i64 op, .int .i64 num, .slice ad n cap] 40))) := box_below _ _
  have hme := hn.meth
  have hen := hn.enters
  have HT : Hid ((ok && fit) = topC op num n 0 defs) := hn.top
  have t11 : (op == 11) = false := by simpa using h11
  clear hn h11
  cases hok : ok with
  | false =>
    subst hok
    have HV : Hid (topC op num n 0 defs = false) := by have := HT.out; rw [Bool.false_and] at this; exact this.symm
    clear hme hen
    go_enter Try.func60, Try.ntmps60
    go_wp2_with fail
    refine (HN.out.node _).mono ?_
    rintro e w1 ⟨rfl, hb⟩
    have HB : Hid (Below w.heap.size w w1) := HBX.out.trans (hb.mono HBX.out.size)
    clear hb
    go_wp2_with fail
    go_ret
    exact ⟨ret_bool HV.out.symm, HB.out⟩
  | true =>
    subst hok
    have HV : Hid (topC op num n 0 defs = fit) := by have := HT.out; rw [Bool.true_and] at this; exact this.symm
    go_enter Try.func60, Try.ntmps60
    go_wp2_with fail
    refine (HN.out.node _).mono ?_
    rintro e w1 ⟨rfl, hb⟩
    have HB : Hid (Below w.heap.size w w1) := HBX.out.trans (hb.mono HBX.out.size)
    clear hb
    go_wp2_with fail
    refine (HN.out.fits rfl _).mono ?_
    rintro e w2 ⟨rfl, hb⟩
    have HB2 : Hid (Below w.heap.size w w2) := HB.out.trans (hb.mono HB.out.size)
    clear hb
    go_wp2_with fail
    go_ret
    exact ⟨ret_bool HV.out.symm, HB2.out⟩

set_option maxHeartbeats 800000 in
theorem cellFits_ind (num defs : Int) (n cap : Nat) (ad : Option Addr) (hm : n ≤ 9223372036854775807) (w : World) :
    Calls Try.prog 60 #[.agg #[.int .i64 11, .int .i64 num, .slice ad n cap], .int .i64 defs] w fun e w' => e = .returned (.bool ((num == 0) && ((n : Int) == 1))) ∧ Below w.heap.size w w' := by
  have HBX : Hid (Below w.heap.size w (w.alloc (.cells #[.int .i64 11, .int .i64 num, .slice ad n cap] 40))) := box_below _ _
  cases hnum : (num == 0) with
  | false =>
    go_enter Try.func60, Try.ntmps60
    go_wp2_with fail
    go_ret
    exact ⟨rfl, HBX.out⟩
  | true =>
    go_enter Try.func60, Try.ntmps60
    go_wp2_with fail
    go_ret
    exact ⟨rfl, HBX.out⟩

theorem cellFits_calls (c : Ce) (defs : Int) (v : Value) (w : World) (hk : IIn w c.kids v) :
    Calls Try.prog 60 #[.agg #[.int .i64 c.op, .int .i64 c.num, v], .int .i64 defs] w fun e w' => e = .returned (.bool (fitsB defs c)) ∧ Below w.heap.size w w' := by
  obtain ⟨ad, cap, rfl, hl, hm, -⟩ := hk
  have hm' : c.kids.length ≤ 9223372036854775807 := by unfold maxLen at hm; omega
  by_cases h11 : c.op = 11
  · have hv : fitsB defs c = ((c.num == 0) && ((c.kids.length : Int) == 1)) := by
      unfold fitsB cArity ownB
      rw [h11, if_pos rfl, if_neg (by omega), if_neg (by omega), if_neg (by omega), Bool.and_comm]
      rfl
    rw [hv, h11]
    exact cellFits_ind _ _ _ _ _ hm' w
  have hv : fitsB defs c = topC c.op c.num c.kids.length 0 defs := (fits_node h11).symm
  rw [hv]
  by_cases e1 : c.op = 1
  · exact cellFits_node _ _ _ _ _ _ _ _ _ _ _ (nodeAt_1 0 defs c.op c.num c.kids.length e1) h11 hm' w
  by_cases e2 : c.op = 2
  · exact cellFits_node _ _ _ _ _ _ _ _ _ _ _ (nodeAt_2 0 defs c.op c.num c.kids.length e2) h11 hm' w
  by_cases e3 : c.op = 3
  · exact cellFits_node _ _ _ _ _ _ _ _ _ _ _ (nodeAt_3 0 defs c.op c.num c.kids.length e3) h11 hm' w
  exact cellFits_node _ _ _ _ _ _ _ _ _ _ _ (nodeAt_o 0 defs c.op c.num c.kids.length e1 e2 e3) h11 hm' w

theorem cellB_fits {cells defs : Int} {c : Ce} (h : fitsB defs c = false) : cellB cells defs c = false := by unfold cellB; rw [h]; rfl
theorem cellB_kids {cells defs : Int} {c : Ce} (h : fitsB defs c = true) : cellB cells defs c = c.kids.all (isAt cells) := by unfold cellB; rw [h]; rfl

set_option maxHeartbeats 800000 in
theorem implGraph_calls (g : List Ce) (defs : Int) (v : Value) (w : World) (hk : CIn w g v) :
    Calls Try.prog 37 #[v, .int .i64 defs] w fun e w' => e = .returned (.bool (graphB g defs)) ∧ Below w.heap.size w w' := by
  have HK : Hid (CIn w g v) := hk
  obtain ⟨ad, cap, rfl, hl, hm, -⟩ := hk
  unfold maxLen at hm
  by_cases hlim : (g.length : Int) ≤ 400 ∧ 0 ≤ defs ∧ defs ≤ 6
  · have HLM : Hid ((g.length : Int) ≤ 400 ∧ 0 ≤ defs ∧ defs ≤ 6) := hlim
    obtain ⟨l1, l2, l3⟩ := hlim
    go_enter Try.func37, Try.ntmps37
    go_wp2_with fail
    go_loopw [20] (fun i wr => ∃ k : Nat, k ≤ g.length ∧ i = .int .i64 k ∧ (g.take k).all (cellB g.length defs) = true ∧ Below w.heap.size w wr) (fun i _ => g.length - (intOf i).toNat)
    case atStart => exact ⟨0, Nat.zero_le _, rfl, by simp, Below.refl _ _⟩
    case round =>
      obtain ⟨k, hk, rfl, hall, hb⟩ := hrel
      have HA : Hid ((g.take k).all (cellB g.length defs) = true) := hall
      have HB : Hid (Below w.heap.size w wr) := hb
      clear hall hb
      by_cases hlt : k < g.length
      · obtain ⟨bl, off, r, rfl, c0, c1, c2, -, -, hkk⟩ := (HK.out.next HB.out).at k hlt
        obtain ⟨ad2, cap2, rfl, -, -, -⟩ := id hkk
        have HKK : Hid (IIn wr g[k].kids (.slice ad2 g[k].kids.length cap2)) := hkk
        clear hkk
        go_wp2_with fail
        refine (cellFits_calls g[k] defs _ _ (HKK.out.next (box_below _ _))).mono ?_
        rintro e w1 ⟨rfl, hb1⟩
        have HB0 : Hid (Below wr.heap.size wr w1) := (box_below _ _).trans (hb1.mono (by rw [Deep.nblk_alloc]; omega))
        have HB1 : Hid (Below w.heap.size w w1) := HB.out.trans (HB0.out.mono HB.out.size)
        have b2 := (hb1.cell (p := ⟨wr.heap.size, 2, none⟩) (by rw [Deep.nblk_alloc]; exact Nat.lt_succ_self _)).trans (box_cell wr #[.int .i64 g[k].op, .int .i64 g[k].num, .slice ad2 g[k].kids.length cap2] 40 2 _ rfl)
        clear hb1 c0 c1 c2
        cases hc : fitsB defs g[k] with
        | false =>
          have HV : Hid (graphB g defs = false) := graphB_cellNo k hlt (cellB_fits hc)
          clear hc
          go_wp2_with fail
          go_ret
          exact ⟨ret_bool HV.out.symm, HB1.out⟩
        | true =>
          have HC : Hid (cellB (g.length : Int) defs g[k] = g[k].kids.all (isAt g.length)) := cellB_kids hc
          clear hc
          go_wp2_with fail
          refine (areCells_calls g.length cap _ g[k].kids _ _ (by omega) (HKK.out.next HB0.out)).mono ?_
          rintro e w2 ⟨rfl, hb2⟩
          have HB2 : Hid (Below w.heap.size w w2) := HB1.out.trans (hb2.mono HB1.out.size)
          clear hb2 b2
          cases hc2 : g[k].kids.all (isAt (g.length : Int)) with
          | false =>
            have HV : Hid (graphB g defs = false) := graphB_cellNo k hlt (by rw [HC.out, hc2])
            clear hc2
            go_wp2_with fail
            go_ret
            exact ⟨ret_bool HV.out.symm, HB2.out⟩
          | true =>
            have HA2 : Hid ((g.take (k + 1)).all (cellB g.length defs) = true) := by rw [Hid, allI_take_succ _ _ _ hlt, HA.out, HC.out, hc2]; rfl
            clear hc2
            go_wp2_with fail
            go_roundw
            case rel => exact ⟨k + 1, by omega, by go_num, HA2.out, HB2.out⟩
            case measure => simp [intOf]; omega
      · have hke : g.length = k := by omega
        have HV : Hid (graphB g defs = true) := graphB_yes HLM.out (all_end HA.out hke)
        clear hke
        go_wp2_with fail
        go_ret
        exact ⟨ret_bool HV.out.symm, HB.out⟩
  · have HV : Hid (graphB g defs = false) := graphB_no hlim
    by_cases l1 : (g.length : Int) ≤ 400
    · by_cases l2 : 0 ≤ defs
      · have l3 : ¬ defs ≤ 6 := fun h => hlim ⟨l1, l2, h⟩
        clear hlim
        go_enter Try.func37, Try.ntmps37
        go_wp2_with fail
        go_ret
        exact ⟨ret_bool HV.out.symm, Below.refl _ _⟩
      · clear hlim
        go_enter Try.func37, Try.ntmps37
        go_wp2_with fail
        go_ret
        exact ⟨ret_bool HV.out.symm, Below.refl _ _⟩
    · clear hlim
      go_enter Try.func37, Try.ntmps37
      go_wp2_with fail
      go_ret
      exact ⟨ret_bool HV.out.symm, Below.refl _ _⟩
end Go.Proofs.Ytiipcgnkfhjpeaa
