/-
  THE PROGRAM's nodesLeft AND ExprValid: which trees they take for valid; nothing that was there is changed.
-/
import Derived.Test.YtocnkjicmchbdaaNodeAt
namespace Go.Proofs.Ytocnkjicmchbdaa
set_option linter.unusedVariables false
set_option linter.unusedSimpArgs false
open Go.RowKit

def NlSaid (vars defs : Int) (d : Nat) (t : Tr) : Prop := ∀ (c : Value) (nodes : Int) (w : World), In w t.kids c → 0 ≤ nodes → nodes ≤ 1000 →
  Calls Try.prog 123 #[.agg #[.int .i64 t.op, .int .i64 t.num, c], .int .i64 vars, .int .i64 defs, .int .i64 (d : Int), .int .i64 nodes] w fun e w' => e = .returned (.int .i64 (nlOut vars defs d t nodes)) ∧ Below w.heap.size w w'

theorem nlOut_bad (vars defs : Int) (d : Nat) (t : Tr) (nodes : Int) (h : topB t vars defs = false) : nlOut vars defs d t nodes = -1 := by
  unfold nlOut
  rw [if_neg]
  rintro ⟨h1, _⟩
  cases d with
  | zero => simp [shB] at h1
  | succ d =>
    simp only [shB, Bool.and_eq_true] at h1
    simp only [topB, topC] at h
    rw [h1.1.1, h1.1.2] at h
    simp at h
theorem nlOut_zero (vars defs : Int) (t : Tr) (nodes : Int) : nlOut vars defs 0 t nodes = -1 := by
  unfold nlOut; rw [if_neg]; rintro ⟨h1, _⟩; simp [shB] at h1
theorem nlOut_none (vars defs : Int) (d : Nat) (t : Tr) : nlOut vars defs d t 0 = -1 := by
  unfold nlOut; rw [if_neg]; rintro ⟨_, h⟩; omega

/-- what is left behind the first k operands -/
def nlAt (t : Tr) (nodes : Int) (k : Nat) : Int := nodes - 1 - szL (t.kids.take k)
theorem nlOut_kid (vars defs : Int) (d : Nat) (t : Tr) (nodes : Int) (k : Nat) (hk : k < t.kids.length) (h : 0 ≤ nlOut vars defs d t.kids[k] (nlAt t nodes k)) :
    nlOut vars defs d t.kids[k] (nlAt t nodes k) = nlAt t nodes (k + 1) ∧ shB vars defs d t.kids[k] = true := by
  have e := szL_take_succ t.kids k hk
  unfold nlOut at h ⊢
  split at h
  · rename_i h1
    rw [if_pos h1]
    unfold nlAt
    rw [e]
    exact ⟨by omega, h1.1⟩
  · omega
theorem nlOut_kid_bad (vars defs : Int) (d : Nat) (t : Tr) (nodes : Int) (k : Nat) (hk : k < t.kids.length) (h : nlOut vars defs d t.kids[k] (nlAt t nodes k) < 0) (h0 : 0 ≤ nlAt t nodes k) : nlOut vars defs (d + 1) t nodes = -1 := by
  have e := szL_take_succ t.kids k hk
  have e2 := szL_take_le t.kids (k + 1)
  unfold nlOut
  rw [if_neg]
  rintro ⟨h1, h2⟩
  simp only [shB, Bool.and_eq_true, List.all_eq_true] at h1
  have h3 := h1.2 _ (List.getElem_mem hk)
  unfold nlOut at h
  rw [if_pos] at h
  · rw [szT_eq t] at h2; unfold nlAt at *; omega
  · refine ⟨h3, ?_⟩
    rw [szT_eq t] at h2; unfold nlAt; omega
theorem nlOut_end (vars defs : Int) (d : Nat) (t : Tr) (nodes : Int) (ht : topB t vars defs = true) (ha : (t.kids.take t.kids.length).all (shB vars defs d) = true) (h0 : 0 ≤ nlAt t nodes t.kids.length) : nlOut vars defs (d + 1) t nodes = nlAt t nodes t.kids.length := by
  rw [List.take_length] at ha
  unfold nlAt at *
  rw [List.take_length] at *
  unfold nlOut
  rw [if_pos, szT_eq]
  · omega
  · refine ⟨?_, by rw [szT_eq]; omega⟩
    simp only [topB, topC, Bool.and_eq_true] at ht
    simp only [shB, ha, ht.1, ht.2, Bool.and_true]
theorem nlOut_range (vars defs : Int) (d : Nat) (t : Tr) (nodes : Int) (h : 0 ≤ nodes) : -1 ≤ nlOut vars defs d t nodes ∧ nlOut vars defs d t nodes ≤ nodes := by
  unfold nlOut; split <;> omega

set_option maxRecDepth 100000 in
set_option maxHeartbeats 800000 in
/-- the node is not right at its top, or nothing is left -/
theorem nl_leave (vars defs : Int) (d : Nat) (t : Tr) (T : TypeId) (x : Value) (K : FuncId) (ok fit : Bool) (hn : NodeAt vars defs t.op t.num t.kids.length T x K ok fit) (ad : Option Addr) (cap : Nat) (nodes : Int) (w : World)
    (h : topB t vars defs = false ∨ d = 0 ∨ nodes = 0) :
    Calls Try.prog 123 #[.agg #[.int .i64 t.op, .int .i64 t.num, .slice ad t.kids.length cap], .int .i64 vars, .int .i64 defs, .int .i64 (d : Int), .int .i64 nodes] w fun e w' => e = .returned (.int .i64 (nlOut vars defs d t nodes)) ∧ Below w.heap.size w w' := by
  have HV : Hid (nlOut vars defs d t nodes = -1) := by
    rcases h with h | rfl | rfl
    · exact nlOut_bad _ _ _ _ _ h
    · exact nlOut_zero _ _ _ _
    · exact nlOut_none _ _ _ _
  have HN : Hid (NodeAt vars defs t.op t.num t.kids.length T x K ok fit) := hn
  have hme := hn.meth
  have hen := hn.enters
  have htop : (ok && fit) = topB t vars defs := hn.top
  clear hn
  cases hok : ok with
  | false =>
    clear htop h
    subst hok
    clear hme hen
    go_enter Try.func123, Try.ntmps123
    go_wp2_with fail
    refine (HN.out.node _).mono ?_
    rintro e w1 ⟨rfl, hb⟩
    have HB : Hid (Below w.heap.size w w1) := (box_below _ _).trans (hb.mono (by rw [Deep.nblk_alloc]; omega))
    clear hb
    go_wp2_with fail
    go_ret
    exact ⟨ret_int HV.out.symm, HB.out⟩
  | true =>
    subst hok
    rw [Bool.true_and] at htop
    rw [← htop] at h
    clear htop
    cases hfit : fit with
    | false =>
      subst hfit
      clear h
      go_enter Try.func123, Try.ntmps123
      go_wp2_with fail
      refine (HN.out.node _).mono ?_
      rintro e w1 ⟨rfl, hb⟩
      have HB : Hid (Below w.heap.size w w1) := (box_below _ _).trans (hb.mono (by rw [Deep.nblk_alloc]; omega))
      clear hb
      go_wp2_with fail
      refine (HN.out.fits rfl _).mono ?_
      rintro e w2 ⟨rfl, hb⟩
      have HB2 : Hid (Below w.heap.size w w2) := HB.out.trans (hb.mono HB.out.size)
      clear hb
      go_wp2_with fail
      go_ret
      exact ⟨ret_int HV.out.symm, HB2.out⟩
    | true =>
      subst hfit
      by_cases hd : d = 0
      · subst hd
        clear h
        have hd' : (((0 : Nat) : Int) == 0) = true := rfl
        go_enter Try.func123, Try.ntmps123
        go_wp2_with fail
        refine (HN.out.node _).mono ?_
        rintro e w1 ⟨rfl, hb⟩
        have HB : Hid (Below w.heap.size w w1) := (box_below _ _).trans (hb.mono (by rw [Deep.nblk_alloc]; omega))
        clear hb
        go_wp2_with fail
        refine (HN.out.fits rfl _).mono ?_
        rintro e w2 ⟨rfl, hb⟩
        have HB2 : Hid (Below w.heap.size w w2) := HB.out.trans (hb.mono HB.out.size)
        clear hb
        go_wp2_with fail
        go_ret
        exact ⟨ret_int HV.out.symm, HB2.out⟩
      · have hn0 : nodes = 0 := by
          rcases h with h | h | h
          · simp at h
          · exact absurd h hd
          · exact h
        subst hn0
        clear h
        have hd' : ((d : Int) == 0) = false := by simpa using hd
        go_enter Try.func123, Try.ntmps123
        go_wp2_with fail
        refine (HN.out.node _).mono ?_
        rintro e w1 ⟨rfl, hb⟩
        have HB : Hid (Below w.heap.size w w1) := (box_below _ _).trans (hb.mono (by rw [Deep.nblk_alloc]; omega))
        clear hb
        go_wp2_with fail
        refine (HN.out.fits rfl _).mono ?_
        rintro e w2 ⟨rfl, hb⟩
        have HB2 : Hid (Below w.heap.size w w2) := HB.out.trans (hb.mono HB.out.size)
        clear hb
        go_wp2_with fail
        go_ret
        exact ⟨ret_int HV.out.symm, HB2.out⟩

set_option maxRecDepth 100000 in
set_option maxHeartbeats 800000 in
/-- the node is right at its top, and something is left: its operands -/
theorem nl_go (vars defs : Int) (d : Nat) (t : Tr) (T : TypeId) (x : Value) (K : FuncId) (ok fit : Bool) (hn : NodeAt vars defs t.op t.num t.kids.length T x K ok fit) (c : Value) (nodes : Int) (w : World)
    (ih : ∀ i (hi : i < t.kids.length), NlSaid vars defs d (t.kids[i])) (hk : In w t.kids c) (ht : topB t vars defs = true) (h0 : 0 < nodes) (h1 : nodes ≤ 1000) (hd : d ≤ 100) :
    Calls Try.prog 123 #[.agg #[.int .i64 t.op, .int .i64 t.num, c], .int .i64 vars, .int .i64 defs, .int .i64 ((d + 1 : Nat) : Int), .int .i64 nodes] w fun e w' => e = .returned (.int .i64 (nlOut vars defs (d + 1) t nodes)) ∧ Below w.heap.size w w' := by
  have HI : Hid (∀ i (hi : i < t.kids.length), NlSaid vars defs d (t.kids[i])) := ih
  have HK : Hid (In w t.kids c) := hk
  have HT : Hid (topB t vars defs = true) := ht
  have HN : Hid (NodeAt vars defs t.op t.num t.kids.length T x K ok fit) := hn
  have hme := hn.meth
  have hen := hn.enters
  have htop : (ok && fit) = topB t vars defs := hn.top
  rw [ht, Bool.and_eq_true] at htop
  obtain ⟨rfl, rfl⟩ := htop
  clear hn ih ht
  obtain ⟨ad, cap, rfl, hl, hm, -⟩ := hk
  unfold maxLen at hm
  have d1 : ((d : Int) + 1 == 0) = false := by simp; omega
  have n1 : (nodes == 0) = false := by simp; omega
  go_enter Try.func123, Try.ntmps123
  go_wp2_with fail
  refine (HN.out.node _).mono ?_
  rintro e w1 ⟨rfl, hb⟩
  have HB : Hid (Below w.heap.size w w1) := (box_below _ _).trans (hb.mono (by rw [Deep.nblk_alloc]; omega))
  have hz : w.heap.size < w1.heap.size := by have := hb.size; rw [Deep.nblk_alloc] at this; omega
  have c2 := (hb.cell (p := ⟨w.heap.size, 2, none⟩) (by rw [Deep.nblk_alloc]; exact Nat.lt_succ_self _)).trans (box_cell w #[.int .i64 t.op, .int .i64 t.num, .slice ad t.kids.length cap] 31 2 _ rfl)
  have C2 : Hid (w1.cell? ⟨w.heap.size, 2, none⟩ = some (.slice ad t.kids.length cap)) := c2
  clear hb c2
  go_wp2_with fail
  refine (HN.out.fits rfl _).mono ?_
  rintro e w2 ⟨rfl, hb⟩
  have HB2 : Hid (Below w.heap.size w w2) := HB.out.trans (hb.mono HB.out.size)
  have c2 := (hb.cell (p := ⟨w.heap.size, 2, none⟩) hz).trans C2.out
  clear hb hme hen
  go_wp2_with fail
  clear c2
  go_loopw [4, 48] (fun n i wr => ∃ k : Nat, k ≤ t.kids.length ∧ i = .int .i64 k ∧ n = .int .i64 (nlAt t nodes k) ∧ 0 ≤ nlAt t nodes k ∧ (t.kids.take k).all (shB vars defs d) = true ∧ Below w.heap.size w wr) (fun _ i _ => t.kids.length - (intOf i).toNat)
  case atStart => exact ⟨0, Nat.zero_le _, rfl, by simp [nlAt, szL], by simp [nlAt, szL]; omega, by simp, HB2.out⟩
  case round =>
    obtain ⟨k, hk, rfl, rfl, hpos, hall, hb⟩ := hrel
    have HA : Hid ((t.kids.take k).all (shB vars defs d) = true) := hall
    have HBW : Hid (Below w.heap.size w wr) := hb
    have hle : nlAt t nodes k ≤ nodes := by unfold nlAt; omega
    clear hall
    by_cases hlt : k < t.kids.length
    · have hrow' := HK.out.next hb
      clear hb
      obtain ⟨ad', cap', he, -, -, hr⟩ := hrow'
      cases he
      rcases hr with hnil | ⟨bl, off, rfl, -, hr⟩
      · rw [hnil] at hlt; simp at hlt
      obtain ⟨p, q, r, e0, e1, e2, ht⟩ := RowOn.at t.kids off k hlt hr
      obtain ⟨rfl, rfl, -, -, hkk⟩ := trOn_iff.1 ht
      obtain ⟨ad2, cap2, rfl, -, -, -⟩ := id hkk
      have HKK : Hid (In wr t.kids[k].kids (.slice ad2 t.kids[k].kids.length cap2)) := hkk
      clear hkk ht hr
      go_wp2_with fail
      refine (HI.out k hlt (.slice ad2 t.kids[k].kids.length cap2) _ _ ?_ hpos (by omega)).mono ?_
      · exact HKK.out.next (box_below _ _)
      rintro e w3 ⟨rfl, hb3⟩
      have HB3 : Hid (Below w.heap.size w w3) := HBW.out.trans (((box_below _ _).trans (hb3.mono (by rw [Deep.nblk_alloc]; omega))).mono HBW.out.size)
      clear hb3
      have hrg := nlOut_range vars defs d t.kids[k] (nlAt t nodes k) hpos
      by_cases hneg : nlOut vars defs d t.kids[k] (nlAt t nodes k) < 0
      · have HV : Hid (nlOut vars defs (d + 1) t nodes = -1) := nlOut_kid_bad vars defs d t nodes k hlt hneg hpos
        go_wp2_with fail
        go_ret
        exact ⟨ret_int HV.out.symm, HB3.out⟩
      · have hkid := nlOut_kid vars defs d t nodes k hlt (by omega)
        have HV : Hid (nlOut vars defs d t.kids[k] (nlAt t nodes k) = nlAt t nodes (k + 1)) := hkid.1
        have HA2 : Hid ((t.kids.take (k + 1)).all (shB vars defs d) = true) := by rw [Hid, all_take_succ _ _ _ hlt, HA.out, hkid.2]; rfl
        have hnn : 0 ≤ nlAt t nodes (k + 1) := by rw [← HV.out]; omega
        clear hkid
        go_wp2_with fail
        go_roundw
        case rel => exact ⟨k + 1, by omega, by go_num, by rw [HV.out], hnn, HA2.out, HB3.out⟩
        case measure => simp [intOf]; omega
    · have hke : t.kids.length = k := by omega
      have HV : Hid (nlOut vars defs (d + 1) t nodes = nlAt t nodes k) := by
        have h2 := HA.out
        rw [← hke] at hpos h2 ⊢
        exact nlOut_end vars defs d t nodes HT.out h2 hpos
      clear hke hb
      go_wp2_with fail
      go_ret
      exact ⟨ret_int HV.out.symm, HBW.out⟩
theorem nl_step (vars defs : Int) (d : Nat) (t : Tr) (hd : d ≤ 100) (ih : ∀ i (hi : i < t.kids.length), ∀ d', d' < d → NlSaid vars defs d' (t.kids[i])) : NlSaid vars defs d t := by
  intro c nodes w hk h0 h1
  have key : ∀ (T : TypeId) (x : Value) (K : FuncId) (ok fit : Bool), NodeAt vars defs t.op t.num t.kids.length T x K ok fit →
      Calls Try.prog 123 #[.agg #[.int .i64 t.op, .int .i64 t.num, c], .int .i64 vars, .int .i64 defs, .int .i64 (d : Int), .int .i64 nodes] w fun e w' => e = .returned (.int .i64 (nlOut vars defs d t nodes)) ∧ Below w.heap.size w w' := by
    intro T x K ok fit hn
    by_cases hl : topB t vars defs = false ∨ d = 0 ∨ nodes = 0
    · obtain ⟨ad, cap, rfl, -, -, -⟩ := hk
      exact nl_leave vars defs d t T x K ok fit hn ad cap nodes w hl
    · simp only [not_or, Bool.not_eq_false] at hl
      obtain ⟨e, rfl⟩ : ∃ e, d = e + 1 := ⟨d - 1, by omega⟩
      exact nl_go vars defs e t T x K ok fit hn c nodes w (fun i hi => ih i hi e (by omega)) hk hl.1 (by omega) h1 (by omega)
  by_cases e1 : t.op = 1
  · exact key _ _ _ _ _ (nodeAt_1 vars defs t.op t.num t.kids.length e1)
  by_cases e2 : t.op = 2
  · exact key _ _ _ _ _ (nodeAt_2 vars defs t.op t.num t.kids.length e2)
  by_cases e3 : t.op = 3
  · exact key _ _ _ _ _ (nodeAt_3 vars defs t.op t.num t.kids.length e3)
  exact key _ _ _ _ _ (nodeAt_o vars defs t.op t.num t.kids.length e1 e2 e3)

theorem nl_any (vars defs : Int) : ∀ (d : Nat) (t : Tr), d ≤ 100 → NlSaid vars defs d t := by
  intro d
  induction d using Nat.strongRecOn with
  | ind d ih => intro t h; exact nl_step vars defs d t h fun i hi d' hd' => ih d' hd' _ (by omega)

set_option maxHeartbeats 400000 in
/-- THE PROGRAM's ExprValid -/
theorem implValid_calls (t : Tr) (vars defs : Int) (c : Value) (w : World) (hk : In w t.kids c) : Calls Try.prog 100 #[.agg #[.int .i64 t.op, .int .i64 t.num, c], .int .i64 vars, .int .i64 defs] w fun e w' => e = .returned (.bool (validB t vars defs)) ∧ Below w.heap.size w w' := by
  have HK : Hid (In w t.kids c) := hk
  clear hk
  have HBX : Hid (Below w.heap.size w (w.alloc (.cells #[.int .i64 t.op, .int .i64 t.num, c] 31))) := box_below _ _
  by_cases hv0 : 0 ≤ vars
  · by_cases hv4 : vars ≤ 4
    · by_cases hd0 : 0 ≤ defs
      · by_cases hd6 : defs ≤ 6
        · have HV : Hid (validB t vars defs = decide (0 ≤ nlOut vars defs 16 t 60)) := by
            simp only [Hid, validB]
            rw [decide_eq_true (show 0 ≤ vars ∧ vars ≤ 4 ∧ 0 ≤ defs ∧ defs ≤ 6 from ⟨hv0, hv4, hd0, hd6⟩), Bool.true_and]
            unfold nlOut
            cases hs : shB vars defs 16 t with
            | false => simp
            | true =>
              simp only [true_and, Bool.true_and]
              rw [decide_eq_decide]
              split <;> omega
          have hrg := nlOut_range vars defs 16 t 60 (by omega)
          go_enter Try.func100, Try.ntmps100
          go_wp2_with fail
          refine (nl_any vars defs 16 t (by omega) c _ _ (HK.out.next HBX.out) (by omega) (by omega)).mono ?_
          rintro e w2 ⟨rfl, hb2⟩
          have HB2 : Hid (Below w.heap.size w w2) := HBX.out.trans (hb2.mono HBX.out.size)
          clear hb2
          go_wp2_with fail
          go_ret
          exact ⟨ret_bool HV.out.symm, HB2.out⟩
        · have HV : Hid (validB t vars defs = false) := by
            simp only [Hid, validB]
            rw [decide_eq_false (show ¬ (0 ≤ vars ∧ vars ≤ 4 ∧ 0 ≤ defs ∧ defs ≤ 6) by omega), Bool.false_and]
          go_enter Try.func100, Try.ntmps100
          go_wp2_with fail
          go_ret
          exact ⟨ret_bool HV.out.symm, HBX.out⟩
      · have HV : Hid (validB t vars defs = false) := by
          simp only [Hid, validB]
          rw [decide_eq_false (show ¬ (0 ≤ vars ∧ vars ≤ 4 ∧ 0 ≤ defs ∧ defs ≤ 6) by omega), Bool.false_and]
        go_enter Try.func100, Try.ntmps100
        go_wp2_with fail
        go_ret
        exact ⟨ret_bool HV.out.symm, HBX.out⟩
    · have HV : Hid (validB t vars defs = false) := by
        simp only [Hid, validB]
        rw [decide_eq_false (show ¬ (0 ≤ vars ∧ vars ≤ 4 ∧ 0 ≤ defs ∧ defs ≤ 6) by omega), Bool.false_and]
      go_enter Try.func100, Try.ntmps100
      go_wp2_with fail
      go_ret
      exact ⟨ret_bool HV.out.symm, HBX.out⟩
  · have HV : Hid (validB t vars defs = false) := by
      simp only [Hid, validB]
      rw [decide_eq_false (show ¬ (0 ≤ vars ∧ vars ≤ 4 ∧ 0 ≤ defs ∧ defs ≤ 6) by omega), Bool.false_and]
    go_enter Try.func100, Try.ntmps100
    go_wp2_with fail
    go_ret
    exact ⟨ret_bool HV.out.symm, HBX.out⟩
end Go.Proofs.Ytocnkjicmchbdaa
