/-
  THE LAWS' OWN SEARCH IN A LIST (glIn) AND COMPARISON OF LISTS (glInts).
-/
import Derived.Test.YtjdlfpdljmohiaaMb1
import Derived.Test.YtjdlfpdljmohiaaMb12
import Derived.Test.YtjdlfpdljmohiaaMb10
import Derived.Test.YtjdlfpdljmohiaaMb11
import Derived.Test.YtjdlfpdljmohiaaMb6
import Derived.Test.YtjdlfpdljmohiaaMb2
import Derived.Deep.DeepCutAuto
import Derived.Deep.LoopGhost
namespace Go.Proofs.Ytjdlfpdljmohiaa
set_option linter.unusedVariables false
set_option linter.unusedSimpArgs false
open Go.RowKit

set_option maxHeartbeats 800000 in
theorem glIn_calls (L : List Int) (v : Value) (x : Int) (w : World) (h : IIn w L v) : Calls Try.prog 18 #[v, .int .i64 x] w fun e w' => e = .returned (.bool (decide (x ∈ L))) ∧ Below w.heap.size w w' := by
  have HK := mkHid h
  obtain ⟨ad, cap, rfl, hl, hm, -⟩ := h
  unfold maxLen at hm
  obtain ⟨r, hr⟩ : ∃ r, r = decide (x ∈ L) := ⟨_, rfl⟩
  rw [← hr]
  have HR := mkHid hr
  clear hr
  go_enter Try.func18, Try.ntmps18
  go_wp2_with fail
  go_loopw [5] (fun iv wr => ∃ k : Nat, k ≤ L.length ∧ iv = .int .i64 (k : Int) ∧ Hid (∀ j (hj : j < L.length), j < k → L[j] ≠ x) ∧ Below w.heap.size w wr) (fun iv _ => L.length - (intOf iv).toNat)
  case atStart => exact ⟨0, Nat.zero_le _, rfl, fun j hj h => by omega, Below.refl _ _⟩
  case round =>
    obtain ⟨k, hk, rfl, HN, hb⟩ := hrel
    by_cases hlt : k < L.length
    · obtain ⟨bl, off, rfl, c0⟩ := (HK.out.next hb).at k hlt
      by_cases hx : L[k] = x
      · have HV : Hid (r = true) := by rw [Hid, HR.out]; simp only [decide_eq_true_eq]; rw [← hx]; exact List.getElem_mem hlt
        have t1 : (L[k] == x) = true := by simpa using hx
        go_wp2_with fail
        go_ret
        exact ⟨ret_bool HV.out.symm, hb⟩
      · have t1 : (L[k] == x) = false := by simpa using hx
        have HN2 : Hid (∀ j (hj : j < L.length), j < k + 1 → L[j] ≠ x) := fun j hj h => by
          by_cases e : j = k
          · subst e; exact hx
          · exact HN.out j hj (by omega)
        clear hx
        go_wp2_with fail
        go_roundw
        case rel => exact ⟨k + 1, by omega, by go_num, HN2, hb⟩
        case measure => simp [intOf]; omega
    · have HV : Hid (r = false) := by
        rw [Hid, HR.out]
        simp only [decide_eq_false_iff_not]
        intro hm
        obtain ⟨j, hj, e⟩ := List.getElem_of_mem hm
        exact HN.out j hj (by omega) e
      go_wp2_with fail
      go_ret
      exact ⟨ret_bool HV.out.symm, hb⟩

set_option maxHeartbeats 800000 in
theorem glInts_same (xs : List Int) (c d : Value) (w : World) (hc : IIn w xs c) (hd : IIn w xs d) :
    Calls Try.prog 21 #[c, d] w fun e w' => e = .returned (.bool true) ∧ Below w.heap.size w w' := by
  have HC : Hid (IIn w xs c) := hc
  have HD : Hid (IIn w xs d) := hd
  obtain ⟨ad, cap, rfl, hl, hm, -⟩ := hc
  obtain ⟨ad', cap', rfl, hl', hm', -⟩ := hd
  unfold maxLen at hm hm'
  have t1 : ((xs.length : Int) != xs.length) = false := by simp
  go_enter Try.func21, Try.ntmps21
  go_wp2_with fail
  go_loopw [5] (fun i wr => ∃ k : Nat, k ≤ xs.length ∧ i = .int .i64 k ∧ ∃ n, wr = w.drewN n) (fun i _ => xs.length - (intOf i).toNat)
  case atStart => exact ⟨0, Nat.zero_le _, rfl, 0, rfl⟩
  case round =>
    obtain ⟨k, hk, rfl, n, rfl⟩ := hrel
    by_cases hlt : k < xs.length
    · obtain ⟨_, _, he, -, -, hr1⟩ := HC.out
      cases he
      obtain ⟨_, _, he, -, -, hr2⟩ := HD.out
      cases he
      rcases hr1 with rfl | ⟨bl, off, rfl, -, hr1⟩
      · simp at hlt
      rcases hr2 with rfl | ⟨bl', off', rfl, -, hr2⟩
      · simp at hlt
      have c0 := hr1 k hlt
      have d0 := hr2 k hlt
      have t2 : (xs[k] != xs[k]) = false := by simp
      clear hr1 hr2
      go_wp2_with fail
      go_quiet (fail)
      go_wp2_with fail
      go_roundw
      case rel => exact ⟨k + 1, by omega, by go_num, _, rfl⟩
      case measure => simp [intOf]; omega
    · go_wp2_with fail
      go_ret
      exact ⟨rfl, below_drewN (Below.refl _ _) _⟩

end Go.Proofs.Ytjdlfpdljmohiaa
/-
  WHAT ReadGraph ANSWERS, both ways in one form, with its numbers' size.
-/
namespace Go.Proofs.Ytjdlfpdljmohiaa
set_option linter.unusedVariables false
set_option linter.unusedSimpArgs false
open Go.RowKit

def RdOne (t : Tr) (b : Bool) (W : World) (en : Ending) (w' : World) : Prop := ∃ v, en = .returned (.tuple #[.agg #[.int .i64 t.op, .int .i64 t.num, v], .bool b]) ∧ Fresh w' W.heap.size t.kids v ∧ (I64 t.op ∧ I64 t.num) ∧ Below W.heap.size W w'
theorem readOut_two (o : Option Tr) (hs : ∀ t, o = some t → szT t ≤ 60) : ∃ (t : Tr) (b : Bool), b = o.isSome ∧ (∀ x, o = some x → t = x) ∧ (o = none → t = .node 0 0 []) ∧ szT t ≤ 60 ∧ ∀ (W : World) (en : Ending) (w' : World), ReadOut o W en w' → RdOne t b W en w' := by
  cases o with
  | none => exact ⟨.node 0 0 [], false, rfl, fun x h => by (cases h), fun _ => rfl, by simp [szT_eq, szL], fun W en w' h => ⟨_, h.1, fresh_nil _ _, ⟨by simp [I64], by simp [I64]⟩, h.2⟩⟩
  | some t => exact ⟨t, true, rfl, fun x h => by (cases h; rfl), fun h => by (cases h), hs t rfl, fun W en w' h => by obtain ⟨v, h1, h2, h3, h4, h5⟩ := h; exact ⟨v, h1, h2, ⟨h3, h4⟩, h5⟩⟩
end Go.Proofs.Ytjdlfpdljmohiaa
/-
  THE MODEL's l3Follow AND FollowInd; nothing that was there is changed.
-/
namespace Go.Proofs.Ytjdlfpdljmohiaa
set_option linter.unusedVariables false
set_option linter.unusedSimpArgs false
open Go.RowKit

set_option maxHeartbeats 800000 in
theorem specFollow_calls (g : List Ce) (a : Int) (v : Value) (w : World) (hk : CIn w g v) :
    Calls Try.prog 15 #[v, .int .i64 a] w fun e w' => e = .returned (.tuple #[.int .i64 (folV g a), .bool (folB g a)]) ∧ Below w.heap.size w w' := by
  have HK : Hid (CIn w g v) := hk
  obtain ⟨ad, cap, rfl, hl, hm, -⟩ := hk
  unfold maxLen at hm
  go_enter Try.func15, Try.ntmps15
  go_wp2_with fail
  refine (specGraph_calls g 6 _ _ HK.out).mono ?_
  rintro e w1 ⟨rfl, hb1⟩
  have HB1 : Hid (Below w.heap.size w w1) := hb1
  clear hb1
  cases hg : graphB g 6 with
  | false =>
    have HV : Hid (folV g a = 0 ∧ folB g a = false) := fol_no (by rw [hg]; simp)
    clear hg
    go_wp2_with fail
    go_ret2
    exact ⟨ret_ib HV.out.1.symm HV.out.2.symm, HB1.out⟩
  | true =>
    have HG : Hid (graphB g 6 = true) := hg
    clear hg
    by_cases h0 : a < 0
    · have HV : Hid (folV g a = 0 ∧ folB g a = false) := fol_no (by rintro ⟨-, h1, -⟩; omega)
      go_wp2_with fail
      go_ret2
      exact ⟨ret_ib HV.out.1.symm HV.out.2.symm, HB1.out⟩
    by_cases h1 : (g.length : Int) ≤ a
    · have HV : Hid (folV g a = 0 ∧ folB g a = false) := fol_no (by rintro ⟨-, -, h⟩; omega)
      go_wp2_with fail
      go_ret2
      exact ⟨ret_ib HV.out.1.symm HV.out.2.symm, HB1.out⟩
    obtain ⟨n, rfl⟩ : ∃ n : Nat, a = (n : Int) := ⟨a.toNat, by omega⟩
    have hn : n < g.length := by omega
    go_wp2_with fail
    refine (l3Follow_calls g n _ _ (HK.out.next HB1.out) ⟨6, HG.out⟩ hn).mono ?_
    rintro e w2 ⟨rfl, hb2⟩
    have HB2 : Hid (Below w.heap.size w w2) := HB1.out.trans (hb2.mono HB1.out.size)
    clear hb2
    rw [follow_enough HG.out n hn]
    cases hf : followN g g.length n with
    | none =>
      have HV : Hid (folV g (n : Int) = 0 ∧ folB g (n : Int) = false) := fol_none ⟨HG.out, by omega, by omega⟩ (by simpa using hf)
      clear hf
      have e1 : folI none = -1 := rfl
      rw [e1]
      go_wp2_with fail
      go_ret2
      exact ⟨ret_ib HV.out.1.symm HV.out.2.symm, HB2.out⟩
    | some b =>
      have HV : Hid (folV g (n : Int) = (b : Int) ∧ folB g (n : Int) = true) := fol_some ⟨HG.out, by omega, by omega⟩ (by simpa using hf)
      clear hf
      have e1 : folI (some b) = (b : Int) := rfl
      rw [e1]
      have hbn : ¬ ((b : Int) < 0) := by omega
      go_wp2_with fail
      go_ret2
      exact ⟨ret_ib HV.out.1.symm HV.out.2.symm, HB2.out⟩
end Go.Proofs.Ytjdlfpdljmohiaa
/-
  THE PROGRAM's GraphValid (cellFits, isCell, areCells); nothing that was there is changed.
-/
namespace Go.Proofs.Ytjdlfpdljmohiaa
set_option linter.unusedVariables false
set_option linter.unusedSimpArgs false
open Go.RowKit

set_option maxHeartbeats 400000 in
theorem isCell_calls (n cap : Nat) (ad : Option Addr) (a : Int) (w : World) (hn : n ≤ 9223372036854775807) :
    Calls Try.prog 45 #[.slice ad n cap, .int .i64 a] w fun e w' => e = .returned (.bool (isAt n a)) ∧ Below w.heap.size w w' := by
  by_cases h0 : 0 ≤ a
  · by_cases h1 : a < (n : Int)
    · have HV : Hid (isAt n a = true) := isAt_in h0 h1
      go_enter Try.func45, Try.ntmps45
      go_wp2_with fail
      go_ret
      exact ⟨ret_bool HV.out.symm, Below.refl _ _⟩
    · have HV : Hid (isAt n a = false) := isAt_hi h1
      go_enter Try.func45, Try.ntmps45
      go_wp2_with fail
      go_ret
      exact ⟨ret_bool HV.out.symm, Below.refl _ _⟩
  · have HV : Hid (isAt n a = false) := isAt_lo (by omega)
    go_enter Try.func45, Try.ntmps45
    go_wp2_with fail
    go_ret
    exact ⟨ret_bool HV.out.symm, Below.refl _ _⟩

set_option maxHeartbeats 800000 in
theorem areCells_calls (n cap : Nat) (ad : Option Addr) (xs : List Int) (v : Value) (w : World) (hn : n ≤ 9223372036854775807) (hk : IIn w xs v) :
    Calls Try.prog 56 #[.slice ad n cap, v] w fun e w' => e = .returned (.bool (xs.all (isAt n))) ∧ Below w.heap.size w w' := by
  have HK : Hid (IIn w xs v) := hk
  obtain ⟨ad2, cap2, rfl, hl, hm, -⟩ := hk
  unfold maxLen at hm
  go_enter Try.func56, Try.ntmps56
  go_wp2_with fail
  go_loopw [9] (fun i wr => ∃ k : Nat, k ≤ xs.length ∧ i = .int .i64 k ∧ (xs.take k).all (isAt n) = true ∧ Below w.heap.size w wr) (fun i _ => xs.length - (intOf i).toNat)
  case atStart => exact ⟨0, Nat.zero_le _, rfl, by simp, Below.refl _ _⟩
  case round =>
    obtain ⟨k, hk, rfl, hall, hb⟩ := hrel
    have HA : Hid ((xs.take k).all (isAt n) = true) := hall
    have HB : Hid (Below w.heap.size w wr) := hb
    clear hall hb
    by_cases hlt : k < xs.length
    · obtain ⟨bl, off, rfl, d0⟩ := (HK.out.next HB.out).at k hlt
      go_wp2_with fail
      refine (isCell_calls n cap ad xs[k] _ hn).mono ?_
      rintro e w1 ⟨rfl, hb1⟩
      have HB1 : Hid (Below w.heap.size w w1) := HB.out.trans (hb1.mono HB.out.size)
      clear hb1 d0
      cases hc : isAt n xs[k] with
      | false =>
        have HV : Hid (xs.all (isAt n) = false) := allI_false_of _ _ k hlt hc
        clear hc
        go_wp2_with fail
        go_ret
        exact ⟨ret_bool HV.out.symm, HB1.out⟩
      | true =>
        have HA2 : Hid ((xs.take (k + 1)).all (isAt n) = true) := by rw [Hid, allI_take_succ _ _ _ hlt, HA.out, hc]; rfl
        clear hc
        go_wp2_with fail
        go_roundw
        case rel => exact ⟨k + 1, by omega, by go_num, HA2.out, HB1.out⟩
        case measure => simp [intOf]; omega
    · have hke : xs.length = k := by omega
      have HV : Hid (xs.all (isAt n) = true) := all_end HA.out hke
      clear hke
      go_wp2_with fail
      go_ret
      exact ⟨ret_bool HV.out.symm, HB.out⟩

/-- cellFits, for a kind with a node -/
theorem fits_node {defs op num : Int} {n : Nat} (h : op ≠ 11) : topC op num n 0 defs = (decide ((n : Int) = cArity op) && ownB op num 0 defs) := by
  unfold topC cArity; rw [if_neg h]

set_option maxRecDepth 100000 in
set_option maxHeartbeats 800000 in
theorem cellFits_node (op num defs : Int) (n cap : Nat) (ad : Option Addr) (T : TypeId) (x : Value) (K : FuncId) (ok fit : Bool) (hn : NodeAt 0 defs op num n T x K ok fit) (h11 : op ≠ 11) (hm : n ≤ 9223372036854775807) (w : World) :
    Calls Try.prog 55 #[.agg #[.int .i64 op, .int .i64 num, .slice ad n cap], .int .i64 defs] w fun e w' => e = .returned (.bool (topC op num n 0 defs)) ∧ Below w.heap.size w w' := by
  have HN : Hid (NodeAt 0 defs op num n T x K ok fit) := hn
  have HBX : Hid (Below w.heap.size w (w.alloc (.cells #[.int .i64 op, .int .i64 num, .slice ad n cap] 35))) := box_below _ _
  have hme := hn.meth
  have hen := hn.enters
  have HT : Hid ((ok && fit) = topC op num n 0 defs) := hn.top
  have t11 : (op == 11) = false := by simpa using h11
  clear hn h11
  cases hok : ok with
  | false =>
    subst hok
    have HV : Hid (topC op num n 0 defs = false) := by have := HT.out; rw [Bool.false_and] at this; exact this.symm
    clear hme hen
    go_enter Try.func55, Try.ntmps55
    go_wp2_with fail
    refine (HN.out.node _).mono ?_
    rintro e w1 ⟨rfl, hb⟩
    have HB : Hid (Below w.heap.size w w1) := HBX.out.trans (hb.mono HBX.out.size)
    clear hb
    go_wp2_with fail
    go_ret
    exact ⟨ret_bool HV.out.symm, HB.out⟩
  | true =>
    subst hok
    have HV : Hid (topC op num n 0 defs = fit) := by have := HT.out; rw [Bool.true_and] at this; exact this.symm
    go_enter Try.func55, Try.ntmps55
    go_wp2_with fail
    refine (HN.out.node _).mono ?_
    rintro e w1 ⟨rfl, hb⟩
    have HB : Hid (Below w.heap.size w w1) := HBX.out.trans (hb.mono HBX.out.size)
    clear hb
    go_wp2_with fail
    refine (HN.out.fits rfl _).mono ?_
    rintro e w2 ⟨rfl, hb⟩
    have HB2 : Hid (Below w.heap.size w w2) := HB.out.trans (hb.mono HB.out.size)
    clear hb
    go_wp2_with fail
    go_ret
    exact ⟨ret_bool HV.out.symm, HB2.out⟩

set_option maxHeartbeats 800000 in
theorem cellFits_ind (num defs : Int) (n cap : Nat) (ad : Option Addr) (hm : n ≤ 9223372036854775807) (w : World) :
    Calls Try.prog 55 #[.agg #[.int .i64 11, .int .i64 num, .slice ad n cap], .int .i64 defs] w fun e w' => e = .returned (.bool ((num == 0) && ((n : Int) == 1))) ∧ Below w.heap.size w w' := by
  have HBX : Hid (Below w.heap.size w (w.alloc (.cells #[.int .i64 11, .int .i64 num, .slice ad n cap] 35))) := box_below _ _
  cases hnum : (num == 0) with
  | false =>
    go_enter Try.func55, Try.ntmps55
    go_wp2_with fail
    go_ret
    exact ⟨rfl, HBX.out⟩
  | true =>
    go_enter Try.func55, Try.ntmps55
    go_wp2_with fail
    go_ret
    exact ⟨rfl, HBX.out⟩

theorem cellFits_calls (c : Ce) (defs : Int) (v : Value) (w : World) (hk : IIn w c.kids v) :
    Calls Try.prog 55 #[.agg #[.int .i64 c.op, .int .i64 c.num, v], .int .i64 defs] w fun e w' => e = .returned (.bool (fitsB defs c)) ∧ Below w.heap.size w w' := by
  obtain ⟨ad, cap, rfl, hl, hm, -⟩ := hk
  have hm' : c.kids.length ≤ 9223372036854775807 := by unfold maxLen at hm; omega
  by_cases h11 : c.op = 11
  · have hv : fitsB defs c = ((c.num == 0) && ((c.kids.length : Int) == 1)) := by
      unfold fitsB cArity ownB
      rw [h11, if_pos rfl, if_neg (by omega), if_neg (by omega), if_neg (by omega), Bool.and_comm]
      rfl
    rw [hv, h11]
    exact cellFits_ind _ _ _ _ _ hm' w
  have hv : fitsB defs c = topC c.op c.num c.kids.length 0 defs := (fits_node h11).symm
  rw [hv]
  by_cases e1 : c.op = 1
  · exact cellFits_node _ _ _ _ _ _ _ _ _ _ _ (nodeAt_1 0 defs c.op c.num c.kids.length e1) h11 hm' w
  by_cases e2 : c.op = 2
  · exact cellFits_node _ _ _ _ _ _ _ _ _ _ _ (nodeAt_2 0 defs c.op c.num c.kids.length e2) h11 hm' w
  by_cases e3 : c.op = 3
  · exact cellFits_node _ _ _ _ _ _ _ _ _ _ _ (nodeAt_3 0 defs c.op c.num c.kids.length e3) h11 hm' w
  exact cellFits_node _ _ _ _ _ _ _ _ _ _ _ (nodeAt_o 0 defs c.op c.num c.kids.length e1 e2 e3) h11 hm' w

theorem cellB_fits {cells defs : Int} {c : Ce} (h : fitsB defs c = false) : cellB cells defs c = false := by unfold cellB; rw [h]; rfl
theorem cellB_kids {cells defs : Int} {c : Ce} (h : fitsB defs c = true) : cellB cells defs c = c.kids.all (isAt cells) := by unfold cellB; rw [h]; rfl

set_option maxHeartbeats 800000 in
theorem implGraph_calls (g : List Ce) (defs : Int) (v : Value) (w : World) (hk : CIn w g v) :
    Calls Try.prog 27 #[v, .int .i64 defs] w fun e w' => e = .returned (.bool (graphB g defs)) ∧ Below w.heap.size w w' := by
  have HK : Hid (CIn w g v) := hk
  obtain ⟨ad, cap, rfl, hl, hm, -⟩ := hk
  unfold maxLen at hm
  by_cases hlim : (g.length : Int) ≤ 400 ∧ 0 ≤ defs ∧ defs ≤ 6
  · have HLM : Hid ((g.length : Int) ≤ 400 ∧ 0 ≤ defs ∧ defs ≤ 6) := hlim
    obtain ⟨l1, l2, l3⟩ := hlim
    go_enter Try.func27, Try.ntmps27
    go_wp2_with fail
    go_loopw [20] (fun i wr => ∃ k : Nat, k ≤ g.length ∧ i = .int .i64 k ∧ (g.take k).all (cellB g.length defs) = true ∧ Below w.heap.size w wr) (fun i _ => g.length - (intOf i).toNat)
    case atStart => exact ⟨0, Nat.zero_le _, rfl, by simp, Below.refl _ _⟩
    case round =>
      obtain ⟨k, hk, rfl, hall, hb⟩ := hrel
      have HA : Hid ((g.take k).all (cellB g.length defs) = true) := hall
      have HB : Hid (Below w.heap.size w wr) := hb
      clear hall hb
      by_cases hlt : k < g.length
      · obtain ⟨bl, off, r, rfl, c0, c1, c2, -, -, hkk⟩ := (HK.out.next HB.out).at k hlt
        obtain ⟨ad2, cap2, rfl, -, -, -⟩ := id hkk
        have HKK : Hid (IIn wr g[k].kids (.slice ad2 g[k].kids.length cap2)) := hkk
        clear hkk
        go_wp2_with fail
        refine (cellFits_calls g[k] defs _ _ (HKK.out.next (box_below _ _))).mono ?_
        rintro e w1 ⟨rfl, hb1⟩
        have HB0 : Hid (Below wr.heap.size wr w1) := (box_below _ _).trans (hb1.mono (by rw [Deep.nblk_alloc]; omega))
        have HB1 : Hid (Below w.heap.size w w1) := HB.out.trans (HB0.out.mono HB.out.size)
        have b2 := (hb1.cell (p := ⟨wr.heap.size, 2, none⟩) (by rw [Deep.nblk_alloc]; exact Nat.lt_succ_self _)).trans (box_cell wr #[.int .i64 g[k].op, .int .i64 g[k].num, .slice ad2 g[k].kids.length cap2] 35 2 _ rfl)
        clear hb1 c0 c1 c2
        cases hc : fitsB defs g[k] with
        | false =>
          have HV : Hid (graphB g defs = false) := graphB_cellNo k hlt (cellB_fits hc)
          clear hc
          go_wp2_with fail
          go_ret
          exact ⟨ret_bool HV.out.symm, HB1.out⟩
        | true =>
          have HC : Hid (cellB (g.length : Int) defs g[k] = g[k].kids.all (isAt g.length)) := cellB_kids hc
          clear hc
          go_wp2_with fail
          refine (areCells_calls g.length cap _ g[k].kids _ _ (by omega) (HKK.out.next HB0.out)).mono ?_
          rintro e w2 ⟨rfl, hb2⟩
          have HB2 : Hid (Below w.heap.size w w2) := HB1.out.trans (hb2.mono HB1.out.size)
          clear hb2 b2
          cases hc2 : g[k].kids.all (isAt (g.length : Int)) with
          | false =>
            have HV : Hid (graphB g defs = false) := graphB_cellNo k hlt (by rw [HC.out, hc2])
            clear hc2
            go_wp2_with fail
            go_ret
            exact ⟨ret_bool HV.out.symm, HB2.out⟩
          | true =>
            have HA2 : Hid ((g.take (k + 1)).all (cellB g.length defs) = true) := by rw [Hid, allI_take_succ _ _ _ hlt, HA.out, HC.out, hc2]; rfl
            clear hc2
            go_wp2_with fail
            go_roundw
            case rel => exact ⟨k + 1, by omega, by go_num, HA2.out, HB2.out⟩
            case measure => simp [intOf]; omega
      · have hke : g.length = k := by omega
        have HV : Hid (graphB g defs = true) := graphB_yes HLM.out (all_end HA.out hke)
        clear hke
        go_wp2_with fail
        go_ret
        exact ⟨ret_bool HV.out.symm, HB.out⟩
  · have HV : Hid (graphB g defs = false) := graphB_no hlim
    by_cases l1 : (g.length : Int) ≤ 400
    · by_cases l2 : 0 ≤ defs
      · have l3 : ¬ defs ≤ 6 := fun h => hlim ⟨l1, l2, h⟩
        clear hlim
        go_enter Try.func27, Try.ntmps27
        go_wp2_with fail
        go_ret
        exact ⟨ret_bool HV.out.symm, Below.refl _ _⟩
      · clear hlim
        go_enter Try.func27, Try.ntmps27
        go_wp2_with fail
        go_ret
        exact ⟨ret_bool HV.out.symm, Below.refl _ _⟩
    · clear hlim
      go_enter Try.func27, Try.ntmps27
      go_wp2_with fail
      go_ret
      exact ⟨ret_bool HV.out.symm, Below.refl _ _⟩
end Go.Proofs.Ytjdlfpdljmohiaa
/-
  THE PROGRAM's hasCell.
-/
namespace Go.Proofs.Ytjdlfpdljmohiaa
set_option linter.unusedVariables false
set_option linter.unusedSimpArgs false
open Go.RowKit

set_option maxHeartbeats 800000 in
theorem hasCell_calls (g : List Ce) (a : Int) (v : Value) (w : World) (hk : CIn w g v) :
    Calls Try.prog 41 #[v, .int .i64 a] w fun e w' => e = .returned (.bool (graphB g 6 && isAt g.length a)) ∧ Below w.heap.size w w' := by
  have HK : Hid (CIn w g v) := hk
  obtain ⟨ad, cap, rfl, hl, hm, -⟩ := hk
  unfold maxLen at hm
  go_enter Try.func41, Try.ntmps41
  go_wp2_with fail
  refine (implGraph_calls g 6 _ _ HK.out).mono ?_
  rintro e w1 ⟨rfl, hb1⟩
  have HB1 : Hid (Below w.heap.size w w1) := hb1
  clear hb1
  cases hg : graphB g 6 with
  | false =>
    have HV : Hid ((graphB g 6 && isAt g.length a) = false) := by rw [Hid, hg]; rfl
    go_wp2_with fail
    go_ret
    exact ⟨ret_bool HV.out.symm, HB1.out⟩
  | true =>
    have HV : Hid ((graphB g 6 && isAt g.length a) = isAt g.length a) := by rw [Hid, hg]; rfl
    go_wp2_with fail
    refine (isCell_calls g.length cap ad a _ (by omega)).mono ?_
    rintro e w2 ⟨rfl, hb2⟩
    have HB2 : Hid (Below w.heap.size w w2) := HB1.out.trans (hb2.mono HB1.out.size)
    clear hb2
    go_wp2_with fail
    go_ret
    exact ⟨ret_bool HV.out.symm, HB2.out⟩

theorem isAt_iff {n a : Int} : isAt n a = true ↔ 0 ≤ a ∧ a < n := by unfold isAt; simp
end Go.Proofs.Ytjdlfpdljmohiaa
/-
  THE PROGRAM's standsFor; nothing that was there is changed.
-/
namespace Go.Proofs.Ytjdlfpdljmohiaa
set_option linter.unusedVariables false
set_option linter.unusedSimpArgs false
open Go.RowKit

/-- what standsFor answers -/
def folO (o : Option Nat) : Int := match o with | some b => (b : Int) | none => 0

set_option maxHeartbeats 800000 in
theorem standsFor_calls (g : List Ce) (a : Nat) (v : Value) (w : World) (hk : CIn w g v) (hg : ∃ defs, graphB g defs = true) (ha : a < g.length) :
    Calls Try.prog 42 #[v, .int .i64 (a : Int)] w fun e w' => e = .returned (.tuple #[.int .i64 (folO (followN g g.length a)), .bool (followN g g.length a).isSome]) ∧ Below w.heap.size w w' := by
  have HK : Hid (CIn w g v) := hk
  obtain ⟨ad, cap, rfl, hl, hm, -⟩ := hk
  unfold maxLen at hm
  obtain ⟨defs, hg⟩ := hg
  have HG : Hid (graphB g defs = true) := hg
  have h400 : g.length ≤ 400 := graphB_len hg
  clear hg
  go_enter Try.func42, Try.ntmps42
  go_wp2_with fail
  go_loopw [1, 8] (fun at' i wr => ∃ k b : Nat, k ≤ g.length ∧ i = .int .i64 k ∧ at' = .int .i64 (b : Int) ∧ b < g.length ∧ followN g g.length a = followN g (g.length - k) b ∧ Below w.heap.size w wr) (fun _ i _ => g.length - (intOf i).toNat)
  case atStart => exact ⟨0, a, Nat.zero_le _, rfl, rfl, ha, rfl, Below.refl _ _⟩
  case round =>
    obtain ⟨k, b, hk, rfl, rfl, hbl, hf, hb⟩ := hrel
    have HF : Hid (followN g g.length a = followN g (g.length - k) b) := hf
    have HB : Hid (Below w.heap.size w wr) := hb
    clear hf
    by_cases hlt : k < g.length
    · have HLT : Hid (k < g.length) := hlt
      obtain ⟨bl, off, r, rfl, c0, c1, c2, -, -, hkk⟩ := (HK.out.next hb).at b hbl
      clear hb
      by_cases ho : g[b].op = 11
      · obtain ⟨y, hy1, hy2, hy3⟩ := ind_kid HG.out b hbl ho
        have HV : Hid (followN g g.length a = followN g (g.length - (k + 1)) y) := by
          have h1 := HF.out
          rw [show g.length - k = (g.length - (k + 1)) + 1 by omega] at h1
          exact h1.trans ((followN_ind (by rw [opAt_at b hbl]; exact ho)).trans (by rw [hy3]))
        have t1 : (g[b].op != 11) = false := by simp [ho]
        obtain ⟨ad2, cap2, rfl, hl2, hm2, -⟩ := id hkk
        obtain ⟨bl2, off2, rfl, d0⟩ := hkk.at 0 (by rw [hy1]; simp)
        have hlen1 : g[b].kids.length = 1 := by rw [hy1]; rfl
        have hkid : g[b].kids[0]'(by omega) = (y : Int) := by simp [hy1]
        rw [hkid, Nat.add_zero] at d0
        rw [hlen1] at c2
        clear ho hy1 hy3 hkid hlen1 hkk hl2 hm2
        go_wp2_with fail
        go_roundw
        case rel => exact ⟨k + 1, y, by have := HLT.out; omega, by go_num, rfl, hy2, HV.out, HB.out⟩
        case measure => have := HLT.out; simp [intOf]; omega
      · have HV : Hid (followN g g.length a = some b) := by
          have h1 := HF.out
          rw [show g.length - k = (g.length - k - 1) + 1 by omega] at h1
          exact h1.trans (followN_stop (by rw [opAt_at b hbl]; exact ho))
        have t1 : (g[b].op != 11) = true := by simpa using ho
        clear ho hkk
        go_wp2_with fail
        go_ret2
        exact ⟨ret_ib (by rw [HV.out]; rfl) (by rw [HV.out]; rfl), HB.out⟩
    · have HV : Hid (followN g g.length a = none) := by
        have := HF.out
        rw [show g.length - k = 0 by omega] at this
        exact this
      clear hb
      go_wp2_with fail
      go_ret2
      exact ⟨ret_ib (by rw [HV.out]; rfl) (by rw [HV.out]; rfl), HB.out⟩

end Go.Proofs.Ytjdlfpdljmohiaa
/-
  THE PROGRAM's FollowInd (hasCell, standsFor); nothing that was there is changed.
-/
namespace Go.Proofs.Ytjdlfpdljmohiaa
set_option linter.unusedVariables false
set_option linter.unusedSimpArgs false
open Go.RowKit

set_option maxHeartbeats 800000 in
theorem implFollow_calls (g : List Ce) (a : Int) (v : Value) (w : World) (hk : CIn w g v) :
    Calls Try.prog 14 #[v, .int .i64 a] w fun e w' => e = .returned (.tuple #[.int .i64 (folV g a), .bool (folB g a)]) ∧ Below w.heap.size w w' := by
  have HK : Hid (CIn w g v) := hk
  clear hk
  go_enter Try.func14, Try.ntmps14
  go_wp2_with fail
  refine (hasCell_calls g a _ _ HK.out).mono ?_
  rintro e w1 ⟨rfl, hb1⟩
  have HB1 : Hid (Below w.heap.size w w1) := hb1
  clear hb1
  cases hh : (graphB g 6 && isAt g.length a) with
  | false =>
    have HV : Hid (folV g a = 0 ∧ folB g a = false) := fol_no (by rintro ⟨h1, h2⟩; rw [h1, isAt_iff.2 h2] at hh; cases hh)
    clear hh
    go_wp2_with fail
    go_ret2
    exact ⟨ret_ib HV.out.1.symm HV.out.2.symm, HB1.out⟩
  | true =>
    rw [Bool.and_eq_true, isAt_iff] at hh
    have HG : Hid (graphB g 6 = true ∧ 0 ≤ a ∧ a < g.length) := hh
    clear hh
    obtain ⟨n, rfl⟩ : ∃ n : Nat, a = (n : Int) := ⟨a.toNat, by have := HG.out.2.1; omega⟩
    have hn : n < g.length := by have := HG.out.2.2; omega
    go_wp2_with fail
    refine (standsFor_calls g n _ _ (HK.out.next HB1.out) ⟨6, HG.out.1⟩ hn).mono ?_
    rintro e w2 ⟨rfl, hb2⟩
    have HB2 : Hid (Below w.heap.size w w2) := HB1.out.trans (hb2.mono HB1.out.size)
    clear hb2
    have HV : Hid (folV g (n : Int) = folO (followN g g.length n) ∧ folB g (n : Int) = (followN g g.length n).isSome) := by
      cases hf : followN g g.length n with
      | none => exact fol_none HG.out (by simpa using hf)
      | some b => exact fol_some HG.out (by simpa using hf)
    go_wp2_with fail
    go_ret2
    exact ⟨ret_ib HV.out.1.symm HV.out.2.symm, HB2.out⟩
end Go.Proofs.Ytjdlfpdljmohiaa
/-
  THE PROGRAM's graphReader.expr.
-/
namespace Go.Proofs.Ytjdlfpdljmohiaa
set_option linter.unusedVariables false
set_option linter.unusedSimpArgs false
open Go.RowKit

/-- the reader: the graph and what is left -/
abbrev GRd (w : World) (R : Nat) (gv : Value) (n : Nat) : Prop := w.heap[R]? = some (.cells #[gv, .int .i64 (n : Int)] 58)
/-- what expr hands back -/
def ImRes (o : Option (Tr × Nat)) (R : Nat) (gv : Value) (w : World) (e : Ending) (w' : World) : Prop :=
  match o with
  | none => e = .returned (.tuple #[.agg #[.int .i64 0, .int .i64 0, .slice none 0 0], .bool false]) ∧ (∃ n, GRd w' R gv n) ∧ ButL [R] w w'
  | some (t, l) => ∃ v, e = .returned (.tuple #[.agg #[.int .i64 t.op, .int .i64 t.num, v], .bool true]) ∧ Fresh w' w.heap.size t.kids v ∧ I64 t.op ∧ I64 t.num ∧ GRd w' R gv l ∧ ButL [R] w w'
def ImSaid (g : List Ce) (d : Nat) : Prop := ∀ (R : Nat) (gv : Value) (a l : Nat) (w : World), CellsOn w (Lt R) g gv → R < w.heap.size → a < g.length → l ≤ 1000 → GRd w R gv l →
  Calls Try.prog 46 #[.pointer (some ⟨R, 0, none⟩), .int .i64 (a : Int), .int .i64 (d : Int)] w (ImRes (readT g d a l) R gv w)

set_option maxRecDepth 100000 in
set_option maxHeartbeats 1600000 in
theorem im_step (g : List Ce) (hg : graphB g 6 = true) (d : Nat) (hd : d ≤ 16) (ih : ImSaid g d) : ImSaid g (d + 1) := by
  intro R gv a l w hk hR ha hl hrd
  have HK : Hid (CellsOn w (Lt R) g gv) := hk
  have HG : Hid (graphB g 6 = true) := hg
  have HI : Hid (ImSaid g d) := ih
  have HRD : Hid (GRd w R gv l) := hrd
  obtain ⟨ad, cap, rfl, -, hm, -⟩ := hk
  unfold maxLen at hm
  have h400 : g.length ≤ 400 := graphB_len hg
  have hrd1 : (w.alloc (.cells #[.int .i64 0, .int .i64 0, .slice none 0 0] 30)).heap[R]? = some (.cells #[.slice ad g.length cap, .int .i64 (l : Int)] 58) := (Deep.blk_alloc_lt _ _ _ hR).trans hrd
  have p0 := cell_of_blk hrd1 0 _ rfl
  have HIN : Hid (CIn (w.alloc (.cells #[.int .i64 0, .int .i64 0, .slice none 0 0] 30)) g (.slice ad g.length cap)) := HK.out.mono (fun k (hk : k < R) => by show k < _; rw [Deep.nblk_alloc]; omega) (fun k (hk : k < R) => Deep.blk_alloc_lt _ _ _ (by omega))
  clear hg ih hrd hrd1
  go_enter Try.func46, Try.ntmps46
  go_wp2_with fail
  clear p0
  refine (standsFor_calls g a _ _ HIN.out ⟨6, HG.out⟩ ha).mono ?_
  rintro e w1 ⟨rfl, hb1⟩
  have HB1 : Hid (Below w.heap.size w w1) := (box_below _ _).trans (hb1.mono (by rw [Deep.nblk_alloc]; omega))
  have hz1 : w.heap.size < w1.heap.size := by have := hb1.size; rw [Deep.nblk_alloc] at this; omega
  have hr1 : w1.heap[w.heap.size]? = some (.cells #[.int .i64 0, .int .i64 0, .slice none 0 0] 30) := (hb1.block _ (by rw [Deep.nblk_alloc]; omega)).trans (Deep.blk_alloc_new _ _)
  have HR1 : Hid (w1.heap[w.heap.size]? = some (.cells #[.int .i64 0, .int .i64 0, .slice none 0 0] 30)) := hr1
  have hrd2 : w1.heap[R]? = some (.cells #[.slice ad g.length cap, .int .i64 (l : Int)] 58) := (HB1.out.block R hR).trans HRD.out
  have HRD1 : Hid (GRd w1 R (.slice ad g.length cap) l) := hrd2
  have p0 := cell_of_blk hrd2 0 _ rfl
  have p1 := cell_of_blk hrd2 1 _ rfl
  have pf := fun i => frz_of_blk hrd2 i
  have r0 := cell_of_blk hr1 0 _ rfl
  have r1 := cell_of_blk hr1 1 _ rfl
  have r2 := cell_of_blk hr1 2 _ rfl
  have rf := fun i => frz_of_blk hr1 i
  clear hb1 hr1 hrd2
  cases hf : followN g g.length a with
  | none =>
    have HV : Hid (readT g (d + 1) a l = none) := readT_fol hf
    have e1 : folO none = 0 := rfl
    have e2 : (none : Option Nat).isSome = false := rfl
    rw [e1, e2]
    clear hf
    go_wp2_with fail
    refine bodyPost_ret (v := .tuple #[.agg #[.int .i64 0, .int .i64 0, .slice none 0 0], .bool false]) (by simp [results, Try.results46, go_sem, r0, r1, r2, rf]) rfl ?_
    rw [HV.out]
    exact ⟨rfl, ⟨l, box_stay HRD1.out (by omega)⟩, box_but HB1.out⟩
  | some b =>
    obtain ⟨hbl, hbo⟩ := followN_lt HG.out _ _ _ ha hf
    have HF : Hid (followN g g.length a = some b) := hf
    have e1 : folO (some b) = (b : Int) := rfl
    have e2 : (some b).isSome = true := rfl
    rw [e1, e2]
    have hdn : ((d : Int) + 1 == 0) = false := by simp; omega
    clear hf hbo
    rcases l with _ | l
    · have HV : Hid (readT g (d + 1) a 0 = none) := readT_zero
      go_wp2_with fail
      refine bodyPost_ret (v := .tuple #[.agg #[.int .i64 0, .int .i64 0, .slice none 0 0], .bool false]) (by simp [results, Try.results46, go_sem, r0, r1, r2, rf]) rfl ?_
      rw [HV.out]
      exact ⟨rfl, ⟨0, box_stay HRD1.out (by omega)⟩, box_but HB1.out⟩
    · have hln : (((l : Int) + 1) == 0) = false := by simp; omega
      obtain ⟨bl, off, rr, rfl, hblR, c0w, c1w, c2w, io, iN, hkk⟩ := HK.out.atS b hbl
      have hblR' : bl < R := hblR
      obtain ⟨ad3, cap3, rfl, -, -, -⟩ := id hkk
      have HKK : Hid (IntsOn w (Lt R) g[b].kids (.slice ad3 g[b].kids.length cap3)) := hkk
      have HIO : Hid (I64 g[b].op ∧ I64 g[b].num) := ⟨io, iN⟩
      have LD : Hid (∀ (x o : Nat) (u : Value), x < R → w.cell? ⟨x, o, none⟩ = some u → (w1.setCell ⟨R, 1, none⟩ (.int .i64 (l : Int))).cell? ⟨x, o, none⟩ = some u) := by
        intro x o u hx hu
        rw [World.cell?_of_block (w := w1) (Below.heap_setCell _ _ _ _ (by show x ≠ R; omega)), HB1.out.cell (p := ⟨x, o, none⟩) (by show x < _; omega)]
        exact hu
      have c0 := LD.out _ _ _ hblR' c0w
      have c1 := LD.out _ _ _ hblR' c1w
      have c2 := LD.out _ _ _ hblR' c2w
      have hk3 : g[b].kids.length ≤ 3 := (kids_graph HG.out b hbl).1
      have HKN : Hid ((kidsN g b).length = g[b].kids.length) := by rw [Hid, kidsN_at b hbl]; simp
      clear io iN hkk c0w c1w c2w r0 r1 r2 rf hblR
      obtain ⟨iE, zE, hIE⟩ := infoE3
      have HE : Hid (Try.prog.info? 30 = some iE ∧ iE.zero = some zE ∧ iE.size = 3 ∧ iE.bytes = 40 ∧ zE.cells.size = 3) := hIE
      obtain ⟨wC, hwC⟩ : ∃ wC : World, wC = ((w1.setCell ⟨R, 1, none⟩ (.int .i64 (l : Int))).alloc (.cells #[.int .i64 g[b].op, .int .i64 g[b].num, .slice ad3 g[b].kids.length cap3] 35)).alloc (.cells #[.int .i64 g[b].op, .int .i64 g[b].num, .slice none 0 0] 30) := ⟨_, rfl⟩
      have HWC : Hid (wC = ((w1.setCell ⟨R, 1, none⟩ (.int .i64 (l : Int))).alloc (.cells #[.int .i64 g[b].op, .int .i64 g[b].num, .slice ad3 g[b].kids.length cap3] 35)).alloc (.cells #[.int .i64 g[b].op, .int .i64 g[b].num, .slice none 0 0] 30)) := hwC
      have hzC : wC.heap.size = w1.heap.size + 2 := by rw [hwC, Deep.nblk_alloc, Deep.nblk_alloc, size_setCell]
      have HZC : Hid (wC.heap.size = w1.heap.size + 2) := hzC
      have hoC : ∀ x, x < w1.heap.size → wC.heap[x]? = (w1.setCell ⟨R, 1, none⟩ (.int .i64 (l : Int))).heap[x]? := by
        intro x hx
        rw [hwC, Deep.blk_alloc_lt _ _ _ (by rw [Deep.nblk_alloc, size_setCell]; omega), Deep.blk_alloc_lt _ _ _ (by rw [size_setCell]; omega)]
      have HEC : Hid (wC.heap[w1.heap.size + 1]? = some (.cells #[.int .i64 g[b].op, .int .i64 g[b].num, .slice none 0 0] 30)) := by
        have h := Deep.blk_alloc_new ((w1.setCell ⟨R, 1, none⟩ (.int .i64 (l : Int))).alloc (.cells #[.int .i64 g[b].op, .int .i64 g[b].num, .slice ad3 g[b].kids.length cap3] 35)) (.cells #[.int .i64 g[b].op, .int .i64 g[b].num, .slice none 0 0] 30)
        rw [Deep.nblk_alloc, size_setCell, ← hwC] at h
        exact h
      have HRC : Hid (GRd wC R (.slice (some ⟨bl, off, none⟩) g.length cap) l) := by
        show wC.heap[R]? = _
        rw [hoC R (by omega)]
        have h : w1.heap[R]? = some (.cells #[.slice (some ⟨bl, off, none⟩) g.length cap, .int .i64 ((l + 1 : Nat) : Int)] 58) := HRD1.out
        simp [World.setCell, Array.getElem?_modify, h]
      have HXC : Hid (wC.heap[w.heap.size]? = some (.cells #[.int .i64 0, .int .i64 0, .slice none 0 0] 30)) := by
        rw [Hid, hoC _ hz1, Below.heap_setCell _ _ _ _ (by show w.heap.size ≠ R; omega)]; exact HR1.out
      have BW : Hid (∀ wx, ButL [R, w1.heap.size + 1] wC wx → ButL [R] w wx) := by
        intro wx hx
        have h1 := HB1.out
        have e1 : wC.os = w1.os := by rw [hwC]; rfl
        have e2 : wC.tape = w1.tape := by rw [hwC]; rfl
        have e3 : wC.output = w1.output := by rw [hwC]; rfl
        refine ⟨hx.os.trans (e1.trans h1.os), hx.tape.trans (e2.trans h1.tape), hx.output.trans (e3.trans h1.output), by have := hx.size; omega, fun x hxl hn => ?_⟩
        have hxR : x ≠ R := by simpa using hn
        rw [hx.block x (by omega) (by simp; omega), hoC x (by omega), Below.heap_setCell _ _ _ _ (by show x ≠ R; exact hxR)]
        exact h1.block x hxl
      have LDX : Hid (∀ wx, ButL [R, w1.heap.size + 1] wC wx → ∀ x, x < R → wx.heap[x]? = w.heap[x]?) := fun wx hx x hxR => (BW.out wx hx).block x (by omega) (by simp; omega)
      clear hIE hwC hzC hoC
      go_wp2_with fail
      rw [← HWC.out]
      clear c0 c1 c2 p0 p1 pf
      go_loopw [60] (fun i wr => ∃ (k : Nat) (ts : List Tr) (l' : Nat) (v : Value), k ≤ g[b].kids.length ∧ i = .int .i64 k ∧ Hid (readKids (readT g d) ((kidsN g b).take k) l = some (ts, l')) ∧ GRd wr R (.slice (some ⟨bl, off, none⟩) g.length cap) l' ∧ OwnF wr (w1.heap.size + 2) wr.heap.size ts v ∧ wr.heap[w1.heap.size + 1]? = some (.cells #[.int .i64 g[b].op, .int .i64 g[b].num, v] 30) ∧ ButL [R, w1.heap.size + 1] wC wr) (fun i _ => g[b].kids.length - (intOf i).toNat)
      case atStart => exact ⟨0, [], l, .slice none 0 0, Nat.zero_le _, rfl, rfl, HRC.out, OwnF.nil _ _ _, HEC.out, ButL.refl _ _⟩
      case round =>
        obtain ⟨k, ts, l', v, hk, rfl, HRS, hgr, hof, hbx, hbl2⟩ := hrel
        have HGR : Hid (GRd wr R (.slice (some ⟨bl, off, none⟩) g.length cap) l') := hgr
        have HOF : Hid (OwnF wr (w1.heap.size + 2) wr.heap.size ts v) := hof
        have HBX : Hid (wr.heap[w1.heap.size + 1]? = some (.cells #[.int .i64 g[b].op, .int .i64 g[b].num, v] 30)) := hbx
        have HBL2 : Hid (ButL [R, w1.heap.size + 1] wC wr) := hbl2
        have hll : l' ≤ l := readKids_left (fun k l t l' => readT_left g d k l t l') _ _ _ _ HRS.out
        have hwz : w1.heap.size + 2 ≤ wr.heap.size := by have := hbl2.size; rw [HZC.out] at this; exact this
        have HXR : Hid (wr.heap[w.heap.size]? = some (.cells #[.int .i64 0, .int .i64 0, .slice none 0 0] 30)) := (hbl2.block _ (by rw [HZC.out]; omega) (by simp; omega)).trans HXC.out
        by_cases hlt : k < g[b].kids.length
        · obtain ⟨kk, hk1, hk2, hk4⟩ := kidsN_get HG.out b hbl k hlt
          obtain ⟨bl3, off3, rfl, hb3, d0w⟩ := HKK.out.atS k hlt
          have d0 := (World.cell?_of_block (a := ⟨bl3, off3 + k, none⟩) (LDX.out wr hbl2 bl3 hb3)).trans d0w
          rw [hk1] at d0
          have HTK : Hid ((kidsN g b).take (k + 1) = (kidsN g b).take k ++ [kk]) := take_snoc hk4
          have HKW : Hid (CellsOn wr (Lt R) g (.slice (some ⟨bl, off, none⟩) g.length cap)) := HK.out.mono (fun _ h => h) fun x hx => LDX.out wr hbl2 x hx
          have hdd : (1 : Int) ≤ (d : Int) + 1 := by omega
          clear hk1 hk4 d0w hb3 hgr hof hbx hbl2
          go_wp2_with fail
          refine (HI.out R _ kk l' _ HKW.out (by omega) hk2 (by omega) HGR.out).mono ?_
          rintro e w2 hres2
          cases hr2 : readT g d kk l' with
          | none =>
            rw [hr2] at hres2
            obtain ⟨rfl, ⟨nn, hg2⟩, hb2⟩ := hres2
            have HV : Hid (readT g (d + 1) a (l + 1) = none) := readT_bad HF.out (readKids_none_take (j := k + 1) (by rw [HTK.out]; exact readKids_none_snoc HRS.out hr2))
            have HB2 : Hid (ButL [R] wr w2) := hb2
            have hrw3 : (w2.alloc (.cells #[.int .i64 0, .int .i64 0, .slice none 0 0] 30)).heap[w.heap.size]? = some (.cells #[.int .i64 0, .int .i64 0, .slice none 0 0] 30) := (Deep.blk_alloc_lt _ _ _ (by have := hb2.size; omega)).trans ((hb2.block _ (by omega) (by simp; omega)).trans HXR.out)
            have HG3 : Hid (GRd (w2.alloc (.cells #[.int .i64 0, .int .i64 0, .slice none 0 0] 30)) R (.slice (some ⟨bl, off, none⟩) g.length cap) nn) := (Deep.blk_alloc_lt _ _ _ (by have := hb2.size; omega)).trans hg2
            have HBF : Hid (ButL [R] w (w2.alloc (.cells #[.int .i64 0, .int .i64 0, .slice none 0 0] 30))) := ((BW.out wr HBL2.out).trans hb2).trans (ButL.of_below (box_below _ _))
            have r0 := cell_of_blk hrw3 0 _ rfl
            have r1 := cell_of_blk hrw3 1 _ rfl
            have r2 := cell_of_blk hrw3 2 _ rfl
            have rf := fun i => frz_of_blk hrw3 i
            clear hb2 hg2 hr2 hrw3 d0
            go_wp2_with fail
            refine bodyPost_ret (v := .tuple #[.agg #[.int .i64 0, .int .i64 0, .slice none 0 0], .bool false]) (by simp [results, Try.results46, go_sem, r0, r1, r2, rf]) rfl ?_
            rw [HV.out]
            exact ⟨rfl, ⟨nn, box_stay HG3.out (by omega)⟩, box_but2 HBF.out⟩
          | some q =>
            obtain ⟨t, l''⟩ := q
            rw [hr2] at hres2
            obtain ⟨vt, rfl, hfr, hto, htn, hg2, hb2⟩ := hres2
            have HV : Hid (readKids (readT g d) ((kidsN g b).take (k + 1)) l = some (ts ++ [t], l'')) := by rw [Hid, HTK.out]; exact readKids_some_snoc HRS.out hr2
            have HFR : Hid (Fresh w2 wr.heap.size t.kids vt) := hfr
            have HTO : Hid (I64 t.op ∧ I64 t.num) := ⟨hto, htn⟩
            have HB2 : Hid (ButL [R] wr w2) := hb2
            have HG2 : Hid (GRd w2 R (.slice (some ⟨bl, off, none⟩) g.length cap) l'') := hg2
            obtain ⟨adt, capt, rfl, -, -, -⟩ := hfr.on
            have HZ4 : Hid (((w2.alloc (.cells #[.int .i64 t.op, .int .i64 t.num, .slice adt t.kids.length capt] 30)).alloc (.cells #[.int .i64 t.op, .int .i64 t.num, .slice adt t.kids.length capt] 30)).heap.size = w2.heap.size + 2) := by rw [Hid, Deep.nblk_alloc, Deep.nblk_alloc]
            have HK4 : Hid (∀ j, j < w2.heap.size → ((w2.alloc (.cells #[.int .i64 t.op, .int .i64 t.num, .slice adt t.kids.length capt] 30)).alloc (.cells #[.int .i64 t.op, .int .i64 t.num, .slice adt t.kids.length capt] 30)).heap[j]? = w2.heap[j]?) := fun j hj => (Deep.blk_alloc_lt _ _ _ (by rw [Deep.nblk_alloc]; omega)).trans (Deep.blk_alloc_lt _ _ _ hj)
            have hs2 := hb2.size
            obtain ⟨xs, hx⟩ := (HOF.out.next (w' := ((w2.alloc (.cells #[.int .i64 t.op, .int .i64 t.num, .slice adt t.kids.length capt] 30)).alloc (.cells #[.int .i64 t.op, .int .i64 t.num, .slice adt t.kids.length capt] 30))) (Nat.le_refl _) (Nat.le_refl _) (fun j h1 h2 => (HK4.out j (by omega)).trans (hb2.block j h2 (by simp; omega)))).row
            have HX : Hid (((w2.alloc (.cells #[.int .i64 t.op, .int .i64 t.num, .slice adt t.kids.length capt] 30)).alloc (.cells #[.int .i64 t.op, .int .i64 t.num, .slice adt t.kids.length capt] 30)).ownsRow (w1.heap.size + 2) 30 3 v ts.length xs) := hx
            have hbx2 : w2.heap[w1.heap.size + 1]? = some (.cells #[.int .i64 g[b].op, .int .i64 g[b].num, v] 30) := (hb2.block _ (by omega) (by simp; omega)).trans HBX.out
            have HBX2 : Hid (w2.heap[w1.heap.size + 1]? = some (.cells #[.int .i64 g[b].op, .int .i64 g[b].num, v] 30)) := hbx2
            have hbx3 : (w2.alloc (.cells #[.int .i64 t.op, .int .i64 t.num, .slice adt t.kids.length capt] 30)).heap[w1.heap.size + 1]? = some (.cells #[.int .i64 g[b].op, .int .i64 g[b].num, v] 30) := (Deep.blk_alloc_lt _ _ _ (by omega)).trans hbx2
            have p2 := cell_of_blk hbx3 2 _ rfl
            have htl : ts.length < 1000000 := by have h1 := readKids_len _ _ _ _ HRS.out; rw [List.length_take] at h1; omega
            clear hb2 hg2 hr2 hfr hto htn hx hbx2 hbx3 d0
            go_wp2_with (at_builtin; go_must (refine wpList_append_where _ rfl _ _ 28 rfl (w1.heap.size + 2) 30 iE zE 3 40 Try.underlying28 HE.out.1 HE.out.2.1 HE.out.2.2.1 HE.out.2.2.2.1 HE.out.2.2.2.2 (by decide) v ts.length xs rfl HX.out ⟨w2.heap.size + 1, 0, none⟩ 1 1 [.int .i64 t.op, .int .i64 t.num, .slice adt t.kids.length capt] rfl rfl (by have h := news3 (w2.alloc (.cells #[.int .i64 t.op, .int .i64 t.num, .slice adt t.kids.length capt] 30)) (.int .i64 t.op) (.int .i64 t.num) (.slice adt t.kids.length capt); rw [Deep.nblk_alloc] at h; exact h) (by simp [Value.oneCell']) (by unfold maxLen; omega) (by omega) (by rw [HZ4.out]; omega) (by omega) ?_); go_must (intro v' w5 hown hg hw); go_must (have HOWN : Hid (w5.ownsRow (w1.heap.size + 2) 30 3 v' (ts.length + 1) (xs ++ [.int .i64 t.op, .int .i64 t.num, .slice adt t.kids.length capt])) := hown); go_must (have HGR5 : Hid (((w2.alloc (.cells #[.int .i64 t.op, .int .i64 t.num, .slice adt t.kids.length capt] 30)).alloc (.cells #[.int .i64 t.op, .int .i64 t.num, .slice adt t.kids.length capt] 30)).grownBy w5 v.ownBlock) := hg); go_must (have HWH : Hid (v'.ownBlock = v.ownBlock ∨ ∃ g, v'.ownBlock = some g ∧ ((w2.alloc (.cells #[.int .i64 t.op, .int .i64 t.num, .slice adt t.kids.length capt] 30)).alloc (.cells #[.int .i64 t.op, .int .i64 t.num, .slice adt t.kids.length capt] 30)).heap.size ≤ g) := hw); go_must (have hlow : ∀ j, j ≤ w1.heap.size + 1 → w5.heap[j]? = w2.heap[j]? := fun j hj => (hg.block j (by rw [HZ4.out]; omega) (fun e => by have := (own_some HX.out j e.symm).1; omega)).trans (HK4.out j (by omega))); go_must (have HBX5 : Hid (w5.heap[w1.heap.size + 1]? = some (.cells #[.int .i64 g[b].op, .int .i64 g[b].num, v] 30)) := (hlow _ (Nat.le_refl _)).trans HBX2.out); go_must (have hbx5 := HBX5.out); go_must (have HG5 : Hid (GRd w5 R (.slice (some ⟨bl, off, none⟩) g.length cap) l'') := (hlow R (by omega)).trans HG2.out); go_must (have HB5 : Hid (ButL [R, w1.heap.size + 1] wC w5) := ⟨by rw [hg.os]; exact HB2.out.os.trans HBL2.out.os, by rw [hg.tape]; exact HB2.out.tape.trans HBL2.out.tape, by rw [hg.output]; exact HB2.out.output.trans HBL2.out.output, by have h1 := hg.size; rw [HZ4.out] at h1; have := HZC.out; omega, fun j hj hn => by have hn2 : j ≠ R ∧ j ≠ w1.heap.size + 1 := (by simpa using hn); have hjl : j < w1.heap.size + 2 := (by have := HZC.out; omega); exact (hlow j (by omega)).trans ((HB2.out.block j (by omega) (by simp; exact hn2.1)).trans (HBL2.out.block j hj hn))⟩); go_must (obtain ⟨g', c', rfl, -, -, -, -⟩ := own_form hown (by omega)); go_must (have s2 := cell_of_blk hbx5 2 _ rfl); go_must (have sf := frz_of_blk hbx5 2); clear hown hg hw hlow hbx5 p2)
            go_roundw
            case rel =>
              have hpush := rd_push HOF.out (by omega) (fun j h1 h2 => HB2.out.block j h2 (by simp; omega)) HB2.out.size HFR.out HTO.out.1 HTO.out.2 _ _ xs HX.out HOWN.out HGR5.out HWH.out
              refine ⟨k + 1, ts ++ [t], l'', _, by omega, by go_num, HV, (Below.heap_setCell _ _ _ _ (by show R ≠ w1.heap.size + 1; omega)).trans HG5.out, hpush.next (by rw [size_setCell]; exact HGR5.out.size) HGR5.out.size (fun j h1 h2 => Below.heap_setCell _ _ _ _ (fun e => by have e' : j = w1.heap.size + 1 := e; omega)), box_set HBX5.out _, HB5.out.trans (ButL.setCell _ _ _ (by simp) _)⟩
            case measure => simp [intOf]; omega
        · have hke : k = g[b].kids.length := by omega
          have hall : readKids (readT g d) (kidsN g b) l = some (ts, l') := by
            have h := HRS.out
            rw [hke, ← HKN.out, List.take_length] at h
            exact h
          have HV : Hid (readT g (d + 1) a (l + 1) = some (.node g[b].op g[b].num ts, l')) := readT_ok hbl HF.out hall
          have HFR : Hid (Fresh wr (w1.heap.size + 2) ts v) := hof.fresh
          obtain ⟨adv, capv, rfl, -, -, -⟩ := hof.fresh.on
          have o0 := cell_of_blk hbx 0 _ rfl
          have o1 := cell_of_blk hbx 1 _ rfl
          have o2 := cell_of_blk hbx 2 _ rfl
          have hxr := HXR.out
          have r0 := cell_of_blk hxr 0 _ rfl
          have r1 := cell_of_blk hxr 1 _ rfl
          have r2 := cell_of_blk hxr 2 _ rfl
          have rf := fun i => frz_of_blk hxr i
          clear hgr hof hbx hbl2 hall hke hxr
          go_wp2_with fail
          refine bodyPost_ret (v := .tuple #[.agg #[.int .i64 g[b].op, .int .i64 g[b].num, .slice adv ts.length capv], .bool true]) (by simp [results, Try.results46, go_sem, r0, r1, r2, rf]) rfl ?_
          rw [HV.out]
          refine ⟨_, rfl, ?_, HIO.out.1, HIO.out.2, box_stay HGR.out (by omega), box_but2 (BW.out _ HBL2.out)⟩
          refine Fresh.mono (lo := w1.heap.size + 2) ?_ (by omega) (fun _ _ _ => rfl)
          exact ((HFR.out.setCell (by show w.heap.size < _; omega) _).setCell (by show w.heap.size < _; omega) _).setCell (by show w.heap.size < _; omega) _

theorem im_zero (g : List Ce) (hg : graphB g 6 = true) : ImSaid g 0 := by
  intro R gv a l w hk hR ha hl hrd
  have HK : Hid (CellsOn w (Lt R) g gv) := hk
  have HG : Hid (graphB g 6 = true) := hg
  have HRD : Hid (GRd w R gv l) := hrd
  obtain ⟨ad, cap, rfl, -, hm, -⟩ := hk
  have hrd1 : (w.alloc (.cells #[.int .i64 0, .int .i64 0, .slice none 0 0] 30)).heap[R]? = some (.cells #[.slice ad g.length cap, .int .i64 (l : Int)] 58) := (Deep.blk_alloc_lt _ _ _ hR).trans hrd
  have p0 := cell_of_blk hrd1 0 _ rfl
  have HIN : Hid (CIn (w.alloc (.cells #[.int .i64 0, .int .i64 0, .slice none 0 0] 30)) g (.slice ad g.length cap)) := HK.out.mono (fun k (hk : k < R) => by show k < _; rw [Deep.nblk_alloc]; omega) (fun k (hk : k < R) => Deep.blk_alloc_lt _ _ _ (by omega))
  have HV : Hid (readT g 0 a l = none) := rfl
  clear hg hrd hrd1 hm
  go_enter Try.func46, Try.ntmps46
  go_wp2_with fail
  clear p0
  refine (standsFor_calls g a _ _ HIN.out ⟨6, HG.out⟩ ha).mono ?_
  rintro e w1 ⟨rfl, hb1⟩
  have HB1 : Hid (Below w.heap.size w w1) := (box_below _ _).trans (hb1.mono (by rw [Deep.nblk_alloc]; omega))
  have hr1 : w1.heap[w.heap.size]? = some (.cells #[.int .i64 0, .int .i64 0, .slice none 0 0] 30) := (hb1.block _ (by rw [Deep.nblk_alloc]; omega)).trans (Deep.blk_alloc_new _ _)
  have hrd2 : w1.heap[R]? = some (.cells #[.slice ad g.length cap, .int .i64 (l : Int)] 58) := (HB1.out.block R hR).trans HRD.out
  have HRD1 : Hid (GRd w1 R (.slice ad g.length cap) l) := hrd2
  have p1 := cell_of_blk hrd2 1 _ rfl
  have r0 := cell_of_blk hr1 0 _ rfl
  have r1 := cell_of_blk hr1 1 _ rfl
  have r2 := cell_of_blk hr1 2 _ rfl
  have rf := fun i => frz_of_blk hr1 i
  clear hb1 hr1 hrd2
  generalize folO (followN g g.length a) = fi
  cases (followN g g.length a).isSome
  all_goals
    go_wp2_with fail
    refine bodyPost_ret (v := .tuple #[.agg #[.int .i64 0, .int .i64 0, .slice none 0 0], .bool false]) (by simp [results, Try.results46, go_sem, r0, r1, r2, rf]) rfl ?_
    rw [HV.out]
    exact ⟨rfl, ⟨l, box_stay HRD1.out (by omega)⟩, box_but HB1.out⟩
theorem im_calls (g : List Ce) (hg : graphB g 6 = true) : ∀ d, d ≤ 17 → ImSaid g d
  | 0, _ => im_zero g hg
  | d + 1, h => im_step g hg d (by omega) (im_calls g hg d (by omega))
end Go.Proofs.Ytjdlfpdljmohiaa
/-
  THE PROGRAM's ReadGraph.
-/
namespace Go.Proofs.Ytjdlfpdljmohiaa
set_option linter.unusedVariables false
set_option linter.unusedSimpArgs false
open Go.RowKit

set_option maxRecDepth 100000 in
set_option maxHeartbeats 1600000 in
theorem implRead_calls (g : List Ce) (root defs : Int) (v : Value) (w : World) (hk : CIn w g v) :
    Calls Try.prog 16 #[v, .int .i64 root, .int .i64 defs] w (ReadOut (readB g root defs) w) := by
  have HK : Hid (CIn w g v) := hk
  obtain ⟨ad, cap, rfl, hl, hm, -⟩ := hk
  unfold maxLen at hm
  go_enter Try.func16, Try.ntmps16
  go_wp2_with fail
  refine (implGraph_calls g defs _ _ (HK.out.next (box_below _ _))).mono ?_
  rintro e w1 ⟨rfl, hb1⟩
  have HB1 : Hid (Below w.heap.size w w1) := (box_below _ _).trans (hb1.mono (by rw [Deep.nblk_alloc]; omega))
  have hz1 : w.heap.size < w1.heap.size := by have := hb1.size; rw [Deep.nblk_alloc] at this; omega
  have hr1 : w1.heap[w.heap.size]? = some (.cells #[.int .i64 0, .int .i64 0, .slice none 0 0] 30) := (hb1.block _ (by rw [Deep.nblk_alloc]; omega)).trans (Deep.blk_alloc_new _ _)
  have HR1 : Hid (w1.heap[w.heap.size]? = some (.cells #[.int .i64 0, .int .i64 0, .slice none 0 0] 30)) := hr1
  clear hb1
  cases hg : graphB g defs with
  | false =>
    have HV : Hid (readB g root defs = none) := readB_no (by rw [hg]; simp)
    have r0 := cell_of_blk hr1 0 _ rfl
    have r1 := cell_of_blk hr1 1 _ rfl
    have r2 := cell_of_blk hr1 2 _ rfl
    have rf := fun i => frz_of_blk hr1 i
    clear hg hr1
    go_wp2_with fail
    refine bodyPost_ret (v := .tuple #[.agg #[.int .i64 0, .int .i64 0, .slice none 0 0], .bool false]) (by simp [results, Try.results16, go_sem, r0, r1, r2, rf]) rfl ?_
    rw [HV.out]
    exact ⟨rfl, ((HB1.out.setCell (Nat.le_refl _) _).setCell (Nat.le_refl _) _).setCell (Nat.le_refl _) _⟩
  | true =>
    have HGD : Hid (graphB g defs = true) := hg
    have h400 : g.length ≤ 400 := graphB_len hg
    clear hg hr1
    go_wp2_with fail
    refine (isCell_calls g.length cap ad root _ (by omega)).mono ?_
    rintro e w2 ⟨rfl, hb2⟩
    have hr2 := (hb2.block w.heap.size hz1).trans HR1.out
    have HR2 : Hid (w2.heap[w.heap.size]? = some (.cells #[.int .i64 0, .int .i64 0, .slice none 0 0] 30)) := hr2
    have HB2 : Hid (Below w.heap.size w w2) := HB1.out.trans (hb2.mono HB1.out.size)
    have hz2 : w.heap.size < w2.heap.size := Nat.lt_of_lt_of_le hz1 hb2.size
    clear hb2
    cases hi : isAt (g.length : Int) root with
    | false =>
      have HV : Hid (readB g root defs = none) := readB_no (by rw [hi]; simp)
      have r0 := cell_of_blk hr2 0 _ rfl
      have r1 := cell_of_blk hr2 1 _ rfl
      have r2 := cell_of_blk hr2 2 _ rfl
      have rf := fun i => frz_of_blk hr2 i
      clear hi hr2
      go_wp2_with fail
      refine bodyPost_ret (v := .tuple #[.agg #[.int .i64 0, .int .i64 0, .slice none 0 0], .bool false]) (by simp [results, Try.results16, go_sem, r0, r1, r2, rf]) rfl ?_
      rw [HV.out]
      exact ⟨rfl, ((HB2.out.setCell (Nat.le_refl _) _).setCell (Nat.le_refl _) _).setCell (Nat.le_refl _) _⟩
    | true =>
      have HV : Hid (readB g root defs = (readT g 16 root.toNat 60).map (·.1)) := readB_yes ⟨HGD.out, hi⟩
      have HG : Hid (graphB g 6 = true) := graphB_six HGD.out
      obtain ⟨h0, h1⟩ : 0 ≤ root ∧ root < (g.length : Int) := by unfold isAt at hi; simpa using hi
      obtain ⟨n, rfl⟩ : ∃ n : Nat, root = (n : Int) := ⟨root.toNat, by omega⟩
      have hn : n < g.length := by omega
      obtain ⟨w3, hw3⟩ : ∃ w3 : World, w3 = w2.alloc (.cells #[.slice ad g.length cap, .int .i64 60] 58) := ⟨_, rfl⟩
      have HW3 : Hid (w3 = w2.alloc (.cells #[.slice ad g.length cap, .int .i64 60] 58)) := hw3
      have HZ3 : Hid (w2.heap.size < w3.heap.size) := by rw [Hid, hw3, Deep.nblk_alloc]; omega
      have HO3 : Hid (∀ j, j < w2.heap.size → w3.heap[j]? = w2.heap[j]?) := fun j hj => by rw [hw3]; exact Deep.blk_alloc_lt _ _ _ hj
      have HRD : Hid (GRd w3 w2.heap.size (.slice ad g.length cap) 60) := by rw [Hid, hw3]; exact Deep.blk_alloc_new _ _
      have HK3 : Hid (CellsOn w3 (Lt w2.heap.size) g (.slice ad g.length cap)) := (HK.out.next HB2.out).mono (fun _ h => h) fun j hj => HO3.out j hj
      have HB3 : Hid (Below w.heap.size w w3) := by rw [Hid, hw3]; exact HB2.out.alloc HB2.out.size _
      clear hi hr2 h0 h1 hw3
      go_wp2_with fail
      rw [← HW3.out]
      refine (im_calls g HG.out 16 (by omega) w2.heap.size _ n 60 w3 HK3.out HZ3.out hn (by omega) HRD.out).mono ?_
      rintro e w4 hres
      cases hr : readT g 16 n 60 with
      | none =>
        rw [hr] at hres
        obtain ⟨rfl, -, hb4⟩ := hres
        have HN : Hid (readB g (n : Int) defs = none) := by rw [Hid, HV.out, show ((n : Int)).toNat = n from rfl, hr]; rfl
        have hr4 := (hb4.block w.heap.size (Nat.lt_trans hz2 HZ3.out) (by simp; omega)).trans ((HO3.out _ hz2).trans HR2.out)
        have r0 := cell_of_blk hr4 0 _ rfl
        have r1 := cell_of_blk hr4 1 _ rfl
        have r2 := cell_of_blk hr4 2 _ rfl
        have rf := fun i => frz_of_blk hr4 i
        have HB4 : Hid (Below w.heap.size w w4) := HB3.out.trans (hb4.below (by simp; omega) HB3.out.size)
        clear hb4 hr4 hr
        go_wp2_with fail
        refine bodyPost_ret (v := .tuple #[.agg #[.int .i64 0, .int .i64 0, .slice none 0 0], .bool false]) (by simp [results, Try.results16, go_sem, r0, r1, r2, rf]) rfl ?_
        rw [HN.out]
        exact ⟨rfl, ((HB4.out.setCell (Nat.le_refl _) _).setCell (Nat.le_refl _) _).setCell (Nat.le_refl _) _⟩
      | some q =>
        obtain ⟨t, l⟩ := q
        rw [hr] at hres
        obtain ⟨vt, rfl, hfr, hto, htn, -, hb4⟩ := hres
        have HN : Hid (readB g (n : Int) defs = some t) := by rw [Hid, HV.out, show ((n : Int)).toNat = n from rfl, hr]; rfl
        have HFR : Hid (Fresh w4 w3.heap.size t.kids vt) := hfr
        have HTO : Hid (I64 t.op ∧ I64 t.num) := ⟨hto, htn⟩
        obtain ⟨adt, capt, rfl, -, -, -⟩ := hfr.on
        have hr4 := (hb4.block w.heap.size (Nat.lt_trans hz2 HZ3.out) (by simp; omega)).trans ((HO3.out _ hz2).trans HR2.out)
        have r0 := cell_of_blk hr4 0 _ rfl
        have r1 := cell_of_blk hr4 1 _ rfl
        have r2 := cell_of_blk hr4 2 _ rfl
        have rf := fun i => frz_of_blk hr4 i
        have HB4 : Hid (Below w.heap.size w w4) := HB3.out.trans (hb4.below (by simp; omega) HB3.out.size)
        clear hb4 hr4 hr hfr hto htn
        go_wp2_with fail
        refine bodyPost_ret (v := .tuple #[.agg #[.int .i64 t.op, .int .i64 t.num, .slice adt t.kids.length capt], .bool true]) (by simp [results, Try.results16, go_sem, r0, r1, r2, rf]) rfl ?_
        rw [HN.out]
        refine ⟨_, rfl, ?_, HTO.out.1, HTO.out.2, ((HB4.out.setCell (Nat.le_refl _) _).setCell (Nat.le_refl _) _).setCell (Nat.le_refl _) _⟩
        refine Fresh.mono (lo := w3.heap.size) ?_ (by have := HZ3.out; omega) (fun _ _ _ => rfl)
        have hwl : w.heap.size < w3.heap.size := Nat.lt_trans hz2 HZ3.out
        exact ((HFR.out.setCell (by show w.heap.size < _; omega) _).setCell (by show w.heap.size < _; omega) _).setCell (by show w.heap.size < _; omega) _
end Go.Proofs.Ytjdlfpdljmohiaa
/-
  MARKS: a row of bools.
-/
namespace Go.Proofs.Ytjdlfpdljmohiaa
set_option linter.unusedVariables false
set_option linter.unusedSimpArgs false
open Go.RowKit

/-! ### Marks -/
theorem infoB : (Try.prog.info? 4).map (fun i => (i.zero, i.size, i.bytes)) = some (some (.bool false), 1, 1) := by kernel_rfl
theorem make_bools (n : Nat) (h : n ≤ 1048576) : ∀ w : World, (Instr.makeSlice 65 (.int .i64 (n : Int)) (.int .i64 (n : Int))).run Try.prog w = .ok (.slice (some ⟨w.heap.size, 0, none⟩) n n) (w.alloc (.cells (madeCells #[.bool false] n) 4)) := by
  obtain ⟨i, hi, hzz⟩ := Option.map_eq_some_iff.1 infoB
  simp only [Prod.mk.injEq] at hzz
  obtain ⟨hz, hs, hb⟩ := hzz
  intro w
  have hr := run_make (P := Try.prog) w 65 4 i _ Try.underlying65 hi hz .i64 .i64 n n (by omega) (Int.le_refl _) (by rw [hb]; omega) (by omega)
  simp only [Int.toNat_natCast, hs, Nat.mul_one] at hr
  exact hr
/-- a row of marks -/
abbrev Marks (w : World) (b n : Nat) (f : Nat → Bool) : Prop := w.rowIs b 4 n (fun i => .bool (f i))
theorem no_marks (w : World) (n : Nat) : Marks (w.alloc (.cells (madeCells #[.bool false] n) 4)) w.heap.size n (fun _ => false) := by
  have hl : (madeCells #[.bool false] n).toList = List.replicate n (.bool false) := toList_madeCells_one _ _
  have hsz : (madeCells #[.bool false] n).size = n := by rw [← Array.length_toList, hl, List.length_replicate]
  refine ⟨_, Deep.blk_alloc_new _ _, hsz, fun i hi => ?_⟩
  rw [← Array.getElem?_toList, hl, List.getElem?_replicate, if_pos hi]
theorem Marks.mark {w : World} {b n : Nat} {f : Nat → Bool} (h : Marks w b n f) (a : Nat) : Marks (w.setCell ⟨b, a, none⟩ (.bool true)) b n (setF f a) := by
  refine World.rowIs.congr (h.set a _) fun i hi => ?_
  unfold setF
  by_cases e : i = a
  · simp [e]
  · simp [e]
end Go.Proofs.Ytjdlfpdljmohiaa
/-
  THE MODEL's l3From, l3Numbers: what can be reached.
-/
namespace Go.Proofs.Ytjdlfpdljmohiaa
set_option linter.unusedVariables false
set_option linter.unusedSimpArgs false
open Go.RowKit

/-- marks in a new row -/
def NewMarks (n : Nat) (fl : Nat → Bool) (w : World) (e : Ending) (w' : World) : Prop :=
  ∃ b, e = .returned (.slice (some ⟨b, 0, none⟩) n n) ∧ w.heap.size ≤ b ∧ Marks w' b n fl ∧ Below w.heap.size w w'

set_option maxRecDepth 100000 in
set_option maxHeartbeats 1600000 in
theorem l3From_calls (g : List Ce) (r : Nat) (v : Value) (w : World) (fl : Nat → Bool) (hk : CIn w g v) (hg : graphB g 6 = true) (hr : r < g.length) (hfl : ∀ a, fl a = true ↔ Reach g r a) :
    Calls Try.prog 50 #[v, .int .i64 (r : Int)] w (NewMarks g.length fl w) := by
  have HK : Hid (CIn w g v) := hk
  obtain ⟨ad, cap, rfl, hl, hm, -⟩ := hk
  have HG : Hid (graphB g 6 = true) := hg
  have HFL : Hid (∀ a, fl a = true ↔ Reach g r a) := hfl
  have h400 : g.length ≤ 400 := graphB_len hg
  have hmk := make_bools g.length (by omega)
  obtain ⟨iI, zI, hIE⟩ := infoI1
  have HE : Hid (Try.prog.info? 3 = some iI ∧ iI.zero = some zI ∧ iI.size = 1 ∧ iI.bytes = 8 ∧ zI.cells.size = 1) := hIE
  have HM0 : Hid (Marks (w.alloc (.cells (madeCells #[.bool false] g.length) 4)) w.heap.size g.length (fun _ => false)) := no_marks w g.length
  obtain ⟨w1, hw1⟩ : ∃ w1 : World, w1 = w.alloc (.cells (madeCells #[.bool false] g.length) 4) := ⟨_, rfl⟩
  have HW1 : Hid (w1 = w.alloc (.cells (madeCells #[.bool false] g.length) 4)) := hw1
  have hz1 : w1.heap.size = w.heap.size + 1 := by rw [hw1]; exact Deep.nblk_alloc _ _
  have HZ1 : Hid (w1.heap.size = w.heap.size + 1) := hz1
  clear hg hfl hl hm hIE hw1 hz1
  go_enter Try.func50, Try.ntmps50
  go_wp2_with fail
  go_loopg [6] (4 * g.length + 2) (fun k wk wr => ∃ (f : Nat → Bool) (ws : List Nat), Stk wr (w.heap.size + 1) ws wk ∧ Marks wr w.heap.size g.length f ∧ SInv g r f ws ∧ 4 * unset f g.length + ws.length < k ∧ 4 * unset f g.length + ws.length ≤ 4 * g.length + 1 ∧ Below w.heap.size w wr)
  case atStart =>
    have h0 := unset_le (fun _ => false) g.length
    refine ⟨fun _ => false, [r], ?_, ?_, SInv.start g r hr, ?_, ?_, ?_⟩
    · have h := Stk.one (w.alloc (.cells (madeCells #[.bool false] g.length) 4)) (w.heap.size + 1) r (by rw [Deep.nblk_alloc]; exact Nat.le_refl _)
      rw [Deep.nblk_alloc] at h
      exact h
    · exact HM0.out.of_block (Deep.blk_alloc_lt _ _ _ (by simp))
    · simp; omega
    · simp; omega
    · exact ((Below.refl _ _).alloc (Nat.le_refl _) _).alloc (by simp) _
  case round =>
    obtain ⟨f, ws, hst, hmk2, hinv, hms, hwl, hb⟩ := hrel
    have HB : Hid (Below w.heap.size w wr) := hb
    have HMK : Hid (Marks wr w.heap.size g.length f) := hmk2
    have HS : Hid (Stk wr (w.heap.size + 1) ws _) := hst
    have HI : Hid (SInv g r f ws) := hinv
    by_cases h0 : ws.length = 0
    · obtain rfl : ws = [] := List.eq_nil_of_length_eq_zero h0
      obtain ⟨ad2, cap2, rfl⟩ := hst.len
      have HV : Hid (Marks wr w.heap.size g.length fl) := by
        have := marks_eq (f := f) (f' := fl) (g := g) (r := r) hinv.done HFL.out
        rw [← this]; exact HMK.out
      clear hst hmk2 hinv hb
      go_wp2_with fail
      go_ret
      exact ⟨_, rfl, Nat.le_refl _, HV.out, HB.out⟩
    · obtain ⟨rest, a, rfl⟩ := split_last ws (by omega)
      obtain ⟨gb, capw, rfl, hgb, hgl, hcl, hcm, ct, hst2⟩ := hst.top
      have HS2 : Hid (Stk wr (w.heap.size + 1) rest (.slice (some ⟨gb, 0, none⟩) rest.length capw)) := hst2
      have ha := hinv.wk a (List.mem_append_right _ (by simp))
      have hal : a < g.length := ha.2
      have cm := hmk2.cell (i := a) hal
      have fm := hmk2.frozen a
      have hgb2 : gb ≠ w.heap.size := by omega
      unfold maxLen at hcm
      simp only [List.length_append, List.length_cons, List.length_nil, Nat.zero_add] at hms hwl h0
      obtain ⟨bl, off, r2, rfl, c0w, c1w, c2w, -, -, hkk⟩ := HK.out.at a hal
      have hbl : bl < w.heap.size := cell_lt c0w
      have c2 := (hb.cell (p := ⟨bl, off + a * 3 + 2, none⟩) hbl).trans c2w
      have HKK : Hid (IIn w g[a].kids r2) := hkk
      clear c0w c1w c2w
      clear hst hst2 hmk2 hinv hb ha
      cases hf : f a with
      | true =>
        rw [hf] at cm
        have HI2 : Hid (SInv g r f rest) := HI.out.old hf
        go_wp2_with fail
        go_roundg (4 * unset f g.length + rest.length + 1)
        case measure => omega
        case rel => exact ⟨f, rest, HS2.out, HMK.out, HI2.out, by omega, by omega, HB.out⟩
      | false =>
        rw [hf] at cm
        obtain ⟨ad3, cap3, rfl, -, -, -⟩ := id hkk
        have hun := unset_set f a hf g.length hal
        have hkl := kidsN_len HG.out a hal
        have HI2 : Hid (SInv g r (setF f a) (rest ++ kidsN g a)) := HI.out.new HG.out
        have hne : ∀ k, k ≠ w.heap.size → (wr.setCell ⟨w.heap.size, a, none⟩ (.bool true)).heap[k]? = wr.heap[k]? := fun k hk => Below.heap_setCell _ _ _ _ (fun e => hk e)
        have hsz3 : (wr.setCell ⟨w.heap.size, a, none⟩ (.bool true)).heap.size = wr.heap.size := size_setCell _ _ _
        have HS3 : Hid (Stk (wr.setCell ⟨w.heap.size, a, none⟩ (.bool true)) (w.heap.size + 1) rest (.slice (some ⟨gb, 0, none⟩) rest.length capw)) := HS2.out.keep fun k hk _ => hne k (by omega)
        have HMK3 : Hid (Marks (wr.setCell ⟨w.heap.size, a, none⟩ (.bool true)) w.heap.size g.length (setF f a)) := HMK.out.mark a
        have HB3 : Hid (Below w.heap.size w (wr.setCell ⟨w.heap.size, a, none⟩ (.bool true))) := HB.out.setCell (Nat.le_refl _) _
        have d2 : (wr.setCell ⟨w.heap.size, a, none⟩ (.bool true)).cell? ⟨bl, off + a * 3 + 2, none⟩ = some (.slice ad3 g[a].kids.length cap3) := (World.cell?_of_block (hne bl (by omega))).trans c2
        have HLO : Hid (w.heap.size + 1 ≤ (wr.setCell ⟨w.heap.size, a, none⟩ (.bool true)).heap.size) := by unfold Hid; omega
        have HK3 : Hid (IIn (wr.setCell ⟨w.heap.size, a, none⟩ (.bool true)) g[a].kids (.slice ad3 g[a].kids.length cap3)) := HKK.out.next HB3.out
        clear hne hsz3 c2 hkk
        go_wp2_with (at_builtin; go_must (refine wpList_push rfl _ _ rfl _ (w.heap.size + 1) rest (kidsN g a) (.slice (some ⟨gb, 0, none⟩) rest.length capw) (.slice ad3 g[a].kids.length cap3) rfl HS3.out rfl HK3.out (kids_back HG.out a hal) HLO.out (by omega) ?_); go_must (intro v' w5 hst5 hg5); go_must (have HS5 : Hid (Stk w5 (w.heap.size + 1) (rest ++ kidsN g a) v') := hst5); go_must (have hmk5 : Marks w5 w.heap.size g.length (setF f a) := HMK3.out.of_block (hg5.block _ (by have := HLO.out; omega) (by intro e; simp [Value.ownBlock] at e; omega))); go_must (have HMK5 : Hid (Marks w5 w.heap.size g.length (setF f a)) := hmk5); go_must (have HB5 : Hid (Below w.heap.size w w5) := by have hb3 := HB3.out; exact ⟨by rw [hg5.os]; exact hb3.os, by rw [hg5.tape]; exact hb3.tape, by rw [hg5.output]; exact hb3.output, Nat.le_trans hb3.size hg5.size, fun k hk => (hg5.block k (by have := hb3.size; omega) (by intro e; simp [Value.ownBlock] at e; omega)).trans (hb3.block k hk)⟩); clear hst5 hg5 hmk5 d2 cm fm ct)
        go_roundg (4 * unset (setF f a) g.length + (rest.length + (kidsN g a).length) + 1)
        case measure => omega
        case rel => exact ⟨setF f a, rest ++ kidsN g a, HS5.out, HMK5.out, HI2.out, by rw [List.length_append]; omega, by rw [List.length_append]; omega, HB5.out⟩

set_option maxRecDepth 100000 in
set_option maxHeartbeats 1600000 in
theorem l3Numbers_calls (n b : Nat) (fl : Nat → Bool) (w : World) (hm : Marks w b n fl) (hn : n ≤ 400) :
    Calls Try.prog 49 #[.slice (some ⟨b, 0, none⟩) n n] w (NewInts (numsTo fl n) w) := by
  have HM : Hid (Marks w b n fl) := hm
  have hbl : b < w.heap.size := hm.lt
  obtain ⟨iI, zI, hIE⟩ := infoI1
  have HE : Hid (Try.prog.info? 3 = some iI ∧ iI.zero = some zI ∧ iI.size = 1 ∧ iI.bytes = 8 ∧ zI.cells.size = 1) := hIE
  have h0 : ∀ C t, Stk (w.alloc (.cells C t)) w.heap.size [] (.slice none 0 0) := fun C t => World.ownsRow_nil _ _ _ _
  have H0 : Hid (Stk (w.alloc (.cells #[] 3)) w.heap.size [] (.slice (some ⟨w.heap.size, 0, none⟩) 0 0)) := ⟨rfl, Or.inr ⟨_, 0, _, rfl, Nat.le_refl _, Deep.blk_alloc_new _ _, Nat.le_refl _, by simp [maxLen], rfl, rfl⟩⟩
  clear hm hIE h0
  go_enter Try.func49, Try.ntmps49
  go_wp2_with fail
  go_loopw [3, 4] (fun o i wr => ∃ k : Nat, k ≤ n ∧ i = .int .i64 k ∧ Stk wr w.heap.size (numsN fl k) o ∧ Below w.heap.size w wr) (fun _ i _ => n - (intOf i).toNat)
  case atStart => exact ⟨0, Nat.zero_le _, rfl, H0.out, (Below.refl _ _).alloc (Nat.le_refl _) _⟩
  case round =>
    obtain ⟨k, hk, rfl, hst, hb⟩ := hrel
    have HS : Hid (Stk wr w.heap.size (numsN fl k) _) := hst
    have HB : Hid (Below w.heap.size w wr) := hb
    have hnl := numsN_len fl k
    obtain ⟨ad, cap, rfl⟩ := hst.len
    have cm := (hb.cell (p := ⟨b, k, none⟩) hbl)
    clear hst hb
    by_cases hlt : k < n
    · have cm2 := cm.trans (HM.out.cell hlt)
      clear cm
      cases hf : fl k with
      | true =>
        rw [hf] at cm2
        have HN : Hid (numsN fl (k + 1) = numsN fl k ++ [k]) := numsN_yes hf
        have HS3 : Hid (Stk (wr.alloc (.cells #[.int .i64 (k : Int)] 3)) w.heap.size (numsN fl k) (.slice ad (numsN fl k).length cap)) := HS.out.alloc _
        have HK3 : Hid (IIn (wr.alloc (.cells #[.int .i64 (k : Int)] 3)) [(k : Int)] (.slice (some ⟨wr.heap.size, 0, none⟩) 1 1)) := one_in wr k
        have HLO : Hid (w.heap.size ≤ (wr.alloc (.cells #[.int .i64 (k : Int)] 3)).heap.size) := by rw [Hid, Deep.nblk_alloc]; have := HB.out.size; omega
        have hob : ∀ j, (Value.slice ad (numsN fl k).length cap).ownBlock = some j → w.heap.size ≤ j := fun j hj => own_lo HS.out hj.symm
        have HOB : Hid (∀ j, (Value.slice ad (numsN fl k).length cap).ownBlock = some j → w.heap.size ≤ j) := hob
        clear hf hob
        go_wp2_with (at_builtin; go_must (refine wpList_push rfl _ _ rfl _ w.heap.size (numsN fl k) [k] (.slice ad (numsN fl k).length cap) (.slice (some ⟨wr.heap.size, 0, none⟩) 1 1) rfl HS3.out rfl HK3.out rfl HLO.out (by simp; omega) ?_); go_must (intro v' w5 hst5 hg5); go_must (have HS5 : Hid (Stk w5 w.heap.size (numsN fl (k + 1)) v') := by rw [HN.out]; exact hst5); go_must (have HB5 : Hid (Below w.heap.size w w5) := by have hb3 : Below w.heap.size w (wr.alloc (.cells #[.int .i64 (k : Int)] 3)) := HB.out.alloc HB.out.size _; exact ⟨by rw [hg5.os]; exact hb3.os, by rw [hg5.tape]; exact hb3.tape, by rw [hg5.output]; exact hb3.output, Nat.le_trans hb3.size hg5.size, fun j hj => (hg5.block j (by have := hb3.size; omega) (fun e => by have := HOB.out j e.symm; omega)).trans (hb3.block j hj)⟩); clear hst5 hg5 cm2)
        go_roundw
        case rel => first | exact ⟨k + 1, by omega, by go_num, HS5.out, HB5.out⟩ | ((repeat apply Exists.intro); exact ⟨⟨k + 1, by omega, by go_num, HS5.out, HB5.out⟩, rfl⟩)
        case measure => simp [intOf]; omega
      | false =>
        rw [hf] at cm2
        have HN : Hid (numsN fl (k + 1) = numsN fl k) := numsN_no hf
        clear hf
        go_wp2_with fail
        go_roundw
        case rel => exact ⟨k + 1, by omega, by go_num, by rw [HN.out]; exact HS.out, HB.out⟩
        case measure => simp [intOf]; omega
    · have hke : k = n := by omega
      have HV : Hid (NewInts (numsTo fl n) w (.returned (.slice ad (numsN fl k).length cap)) wr) := by
        subst hke; exact ⟨_, rfl, HS.out.row, HB.out⟩
      clear cm hke
      go_wp2_with fail
      go_ret
      exact HV.out

end Go.Proofs.Ytjdlfpdljmohiaa
