/-
  THE PROGRAM's nodesLeft AND ExprValid: which trees they take for valid; nothing that was there is changed.
-/
import Derived.Test.YtglpehelmlehiaaMb4
import Derived.Test.YtglpehelmlehiaaMb1
import Derived.Test.YtglpehelmlehiaaProg
import Derived.Deep.QuietTactic
import Derived.BigQuiet
import Derived.Deep.DeepMust
import Derived.WalkSpells
namespace Go.Proofs.Ytglpehelmlehiaa
set_option linter.unusedVariables false
set_option linter.unusedSimpArgs false
open Go.RowKit

def NlSaid (vars defs : Int) (d : Nat) (t : Tr) : Prop := ∀ (c : Value) (nodes : Int) (w : World), In w t.kids c → 0 ≤ nodes → nodes ≤ 1000 →
  Calls Try.prog 88 #[.agg #[.int .i64 t.op, .int .i64 t.num, c], .int .i64 vars, .int .i64 defs, .int .i64 (d : Int), .int .i64 nodes] w fun e w' => e = .returned (.int .i64 (nlOut vars defs d t nodes)) ∧ Below w.heap.size w w'

theorem nlOut_bad (vars defs : Int) (d : Nat) (t : Tr) (nodes : Int) (h : topB t vars defs = false) : nlOut vars defs d t nodes = -1 := by
  unfold nlOut
  rw [if_neg]
  rintro ⟨h1, _⟩
  cases d with
  | zero => simp [shB] at h1
  | succ d =>
    simp only [shB, Bool.and_eq_true] at h1
    simp only [topB, topC] at h
    rw [h1.1.1, h1.1.2] at h
    simp at h
theorem nlOut_zero (vars defs : Int) (t : Tr) (nodes : Int) : nlOut vars defs 0 t nodes = -1 := by
  unfold nlOut; rw [if_neg]; rintro ⟨h1, _⟩; simp [shB] at h1
theorem nlOut_none (vars defs : Int) (d : Nat) (t : Tr) : nlOut vars defs d t 0 = -1 := by
  unfold nlOut; rw [if_neg]; rintro ⟨_, h⟩; omega

/-- what is left behind the first k operands -/
def nlAt (t : Tr) (nodes : Int) (k : Nat) : Int := nodes - 1 - szL (t.kids.take k)
theorem nlOut_kid (vars defs : Int) (d : Nat) (t : Tr) (nodes : Int) (k : Nat) (hk : k < t.kids.length) (h : 0 ≤ nlOut vars defs d t.kids[k] (nlAt t nodes k)) :
    nlOut vars defs d t.kids[k] (nlAt t nodes k) = nlAt t nodes (k + 1) ∧ shB vars defs d t.kids[k] = true := by
  have e := szL_take_succ t.kids k hk
  unfold nlOut at h ⊢
  split at h
  · rename_i h1
    rw [if_pos h1]
    unfold nlAt
    rw [e]
    exact ⟨by omega, h1.1⟩
  · omega
theorem nlOut_kid_bad (vars defs : Int) (d : Nat) (t : Tr) (nodes : Int) (k : Nat) (hk : k < t.kids.length) (h : nlOut vars defs d t.kids[k] (nlAt t nodes k) < 0) (h0 : 0 ≤ nlAt t nodes k) : nlOut vars defs (d + 1) t nodes = -1 := by
  have e := szL_take_succ t.kids k hk
  have e2 := szL_take_le t.kids (k + 1)
  unfold nlOut
  rw [if_neg]
  rintro ⟨h1, h2⟩
  simp only [shB, Bool.and_eq_true, List.all_eq_true] at h1
  have h3 := h1.2 _ (List.getElem_mem hk)
  unfold nlOut at h
  rw [if_pos] at h
  · rw [szT_eq t] at h2; unfold nlAt at *; omega
  · refine ⟨h3, ?_⟩
    rw [szT_eq t] at h2; unfold nlAt; omega
theorem nlOut_end (vars defs : Int) (d : Nat) (t : Tr) (nodes : Int) (ht : topB t vars defs = true) (ha : (t.kids.take t.kids.length).all (shB vars defs d) = true) (h0 : 0 ≤ nlAt t nodes t.kids.length) : nlOut vars defs (d + 1) t nodes = nlAt t nodes t.kids.length := by
  rw [List.take_length] at ha
  unfold nlAt at *
  rw [List.take_length] at *
  unfold nlOut
  rw [if_pos, szT_eq]
  · omega
  · refine ⟨?_, by rw [szT_eq]; omega⟩
    simp only [topB, topC, Bool.and_eq_true] at ht
    simp only [shB, ha, ht.1, ht.2, Bool.and_true]
theorem nlOut_range (vars defs : Int) (d : Nat) (t : Tr) (nodes : Int) (h : 0 ≤ nodes) : -1 ≤ nlOut vars defs d t nodes ∧ nlOut vars defs d t nodes ≤ nodes := by
  unfold nlOut; split <;> omega

set_option maxRecDepth 100000 in
set_option maxHeartbeats 800000 in
/-- the node is not right at its top, or nothing is left -/
theorem nl_leave (vars defs : Int) (d : Nat) (t : Tr) (T : TypeId) (x : Value) (K : FuncId) (ok fit : Bool) (hn : NodeAt vars defs t.op t.num t.kids.length T x K ok fit) (ad : Option Addr) (cap : Nat) (nodes : Int) (w : World)
    (h : topB t vars defs = false ∨ d = 0 ∨ nodes = 0) :
    Calls Try.prog 88 #[.agg #[.int .i64 t.op, .int .i64 t.num, .slice ad t.kids.length cap], .int .i64 vars, .int .i64 defs, .int .i64 (d : Int), .int .i64 nodes] w fun e w' => e = .returned (.int .i64 (nlOut vars defs d t nodes)) ∧ Below w.heap.size w w' := by
  have HV : Hid (nlOut vars defs d t nodes = -1) := by
    rcases h with h | rfl | rfl
    · exact nlOut_bad _ _ _ _ _ h
    · exact nlOut_zero _ _ _ _
    · exact nlOut_none _ _ _ _
  have HN : Hid (NodeAt vars defs t.op t.num t.kids.length T x K ok fit) := hn
  have hme := hn.meth
  have hen := hn.enters
  have htop : (ok && fit) = topB t vars defs := hn.top
  clear hn
  cases hok : ok with
  | false =>
    clear htop h
    subst hok
    clear hme hen
    go_enter Try.func88, Try.ntmps88
    go_wp2_with fail
    refine (HN.out.node _).mono ?_
    rintro e w1 ⟨rfl, hb⟩
    have HB : Hid (Below w.heap.size w w1) := (box_below _ _).trans (hb.mono (by rw [Deep.nblk_alloc]; omega))
    clear hb
    go_wp2_with fail
    go_ret
    exact ⟨ret_int HV.out.symm, HB.out⟩
  | true =>
    subst hok
    rw [Bool.true_and] at htop
    rw [← htop] at h
    clear htop
    cases hfit : fit with
    | false =>
      subst hfit
      clear h
      go_enter Try.func88, Try.ntmps88
      go_wp2_with fail
      refine (HN.out.node _).mono ?_
      rintro e w1 ⟨rfl, hb⟩
      have HB : Hid (Below w.heap.size w w1) := (box_below _ _).trans (hb.mono (by rw [Deep.nblk_alloc]; omega))
      clear hb
      go_wp2_with fail
      refine (HN.out.fits rfl _).mono ?_
      rintro e w2 ⟨rfl, hb⟩
      have HB2 : Hid (Below w.heap.size w w2) := HB.out.trans (hb.mono HB.out.size)
      clear hb
      go_wp2_with fail
      go_ret
      exact ⟨ret_int HV.out.symm, HB2.out⟩
    | true =>
      subst hfit
      by_cases hd : d = 0
      · subst hd
        clear h
        have hd' : (((0 : Nat) : Int) == 0) = true := rfl
        go_enter Try.func88, Try.ntmps88
        go_wp2_with fail
        refine (HN.out.node _).mono ?_
        rintro e w1 ⟨rfl, hb⟩
        have HB : Hid (Below w.heap.size w w1) := (box_below _ _).trans (hb.mono (by rw [Deep.nblk_alloc]; omega))
        clear hb
        go_wp2_with fail
        refine (HN.out.fits rfl _).mono ?_
        rintro e w2 ⟨rfl, hb⟩
        have HB2 : Hid (Below w.heap.size w w2) := HB.out.trans (hb.mono HB.out.size)
        clear hb
        go_wp2_with fail
        go_ret
        exact ⟨ret_int HV.out.symm, HB2.out⟩
      · have hn0 : nodes = 0 := by
          rcases h with h | h | h
          · simp at h
          · exact absurd h hd
          · exact h
        subst hn0
        clear h
        have hd' : ((d : Int) == 0) = false := by simpa using hd
        go_enter Try.func88, Try.ntmps88
        go_wp2_with fail
        refine (HN.out.node _).mono ?_
        rintro e w1 ⟨rfl, hb⟩
        have HB : Hid (Below w.heap.size w w1) := (box_below _ _).trans (hb.mono (by rw [Deep.nblk_alloc]; omega))
        clear hb
        go_wp2_with fail
        refine (HN.out.fits rfl _).mono ?_
        rintro e w2 ⟨rfl, hb⟩
        have HB2 : Hid (Below w.heap.size w w2) := HB.out.trans (hb.mono HB.out.size)
        clear hb
        go_wp2_with fail
        go_ret
        exact ⟨ret_int HV.out.symm, HB2.out⟩

set_option maxRecDepth 100000 in
set_option maxHeartbeats 800000 in
/-- the node is right at its top, and something is left: its operands -/
theorem nl_go (vars defs : Int) (d : Nat) (t : Tr) (T : TypeId) (x : Value) (K : FuncId) (ok fit : Bool) (hn : NodeAt vars defs t.op t.num t.kids.length T x K ok fit) (c : Value) (nodes : Int) (w : World)
    (ih : ∀ i (hi : i < t.kids.length), NlSaid vars defs d (t.kids[i])) (hk : In w t.kids c) (ht : topB t vars defs = true) (h0 : 0 < nodes) (h1 : nodes ≤ 1000) (hd : d ≤ 100) :
    Calls Try.prog 88 #[.agg #[.int .i64 t.op, .int .i64 t.num, c], .int .i64 vars, .int .i64 defs, .int .i64 ((d + 1 : Nat) : Int), .int .i64 nodes] w fun e w' => e = .returned (.int .i64 (nlOut vars defs (d + 1) t nodes)) ∧ Below w.heap.size w w' := by
  have HI : Hid (∀ i (hi : i < t.kids.length), NlSaid vars defs d (t.kids[i])) := ih
  have HK : Hid (In w t.kids c) := hk
  have HT : Hid (topB t vars defs = true) := ht
  have HN : Hid (NodeAt vars defs t.op t.num t.kids.length T x K ok fit) := hn
  have hme := hn.meth
  have hen := hn.enters
  have htop : (ok && fit) = topB t vars defs := hn.top
  rw [ht, Bool.and_eq_true] at htop
  obtain ⟨rfl, rfl⟩ := htop
  clear hn ih ht
  obtain ⟨ad, cap, rfl, hl, hm, -⟩ := hk
  unfold maxLen at hm
  have d1 : ((d : Int) + 1 == 0) = false := by simp; omega
  have n1 : (nodes == 0) = false := by simp; omega
  go_enter Try.func88, Try.ntmps88
  go_wp2_with fail
  refine (HN.out.node _).mono ?_
  rintro e w1 ⟨rfl, hb⟩
  have HB : Hid (Below w.heap.size w w1) := (box_below _ _).trans (hb.mono (by rw [Deep.nblk_alloc]; omega))
  have hz : w.heap.size < w1.heap.size := by have := hb.size; rw [Deep.nblk_alloc] at this; omega
  have c2 := (hb.cell (p := ⟨w.heap.size, 2, none⟩) (by rw [Deep.nblk_alloc]; exact Nat.lt_succ_self _)).trans (box_cell w #[.int .i64 t.op, .int .i64 t.num, .slice ad t.kids.length cap] 32 2 _ rfl)
  have C2 : Hid (w1.cell? ⟨w.heap.size, 2, none⟩ = some (.slice ad t.kids.length cap)) := c2
  clear hb c2
  go_wp2_with fail
  refine (HN.out.fits rfl _).mono ?_
  rintro e w2 ⟨rfl, hb⟩
  have HB2 : Hid (Below w.heap.size w w2) := HB.out.trans (hb.mono HB.out.size)
  have c2 := (hb.cell (p := ⟨w.heap.size, 2, none⟩) hz).trans C2.out
  clear hb hme hen
  go_wp2_with fail
  clear c2
  go_loopw [4, 48] (fun n i wr => ∃ k : Nat, k ≤ t.kids.length ∧ i = .int .i64 k ∧ n = .int .i64 (nlAt t nodes k) ∧ 0 ≤ nlAt t nodes k ∧ (t.kids.take k).all (shB vars defs d) = true ∧ Below w.heap.size w wr) (fun _ i _ => t.kids.length - (intOf i).toNat)
  case atStart => exact ⟨0, Nat.zero_le _, rfl, by simp [nlAt, szL], by simp [nlAt, szL]; omega, by simp, HB2.out⟩
  case round =>
    obtain ⟨k, hk, rfl, rfl, hpos, hall, hb⟩ := hrel
    have HA : Hid ((t.kids.take k).all (shB vars defs d) = true) := hall
    have HBW : Hid (Below w.heap.size w wr) := hb
    have hle : nlAt t nodes k ≤ nodes := by unfold nlAt; omega
    clear hall
    by_cases hlt : k < t.kids.length
    · have hrow' := HK.out.next hb
      clear hb
      obtain ⟨ad', cap', he, -, -, hr⟩ := hrow'
      cases he
      rcases hr with hnil | ⟨bl, off, rfl, -, hr⟩
      · rw [hnil] at hlt; simp at hlt
      obtain ⟨p, q, r, e0, e1, e2, ht⟩ := RowOn.at t.kids off k hlt hr
      obtain ⟨rfl, rfl, -, -, hkk⟩ := trOn_iff.1 ht
      obtain ⟨ad2, cap2, rfl, -, -, -⟩ := id hkk
      have HKK : Hid (In wr t.kids[k].kids (.slice ad2 t.kids[k].kids.length cap2)) := hkk
      clear hkk ht hr
      go_wp2_with fail
      refine (HI.out k hlt (.slice ad2 t.kids[k].kids.length cap2) _ _ ?_ hpos (by omega)).mono ?_
      · exact HKK.out.next (box_below _ _)
      rintro e w3 ⟨rfl, hb3⟩
      have HB3 : Hid (Below w.heap.size w w3) := HBW.out.trans (((box_below _ _).trans (hb3.mono (by rw [Deep.nblk_alloc]; omega))).mono HBW.out.size)
      clear hb3
      have hrg := nlOut_range vars defs d t.kids[k] (nlAt t nodes k) hpos
      by_cases hneg : nlOut vars defs d t.kids[k] (nlAt t nodes k) < 0
      · have HV : Hid (nlOut vars defs (d + 1) t nodes = -1) := nlOut_kid_bad vars defs d t nodes k hlt hneg hpos
        go_wp2_with fail
        go_ret
        exact ⟨ret_int HV.out.symm, HB3.out⟩
      · have hkid := nlOut_kid vars defs d t nodes k hlt (by omega)
        have HV : Hid (nlOut vars defs d t.kids[k] (nlAt t nodes k) = nlAt t nodes (k + 1)) := hkid.1
        have HA2 : Hid ((t.kids.take (k + 1)).all (shB vars defs d) = true) := by rw [Hid, all_take_succ _ _ _ hlt, HA.out, hkid.2]; rfl
        have hnn : 0 ≤ nlAt t nodes (k + 1) := by rw [← HV.out]; omega
        clear hkid
        go_wp2_with fail
        go_roundw
        case rel => exact ⟨k + 1, by omega, by go_num, by rw [HV.out], hnn, HA2.out, HB3.out⟩
        case measure => simp [intOf]; omega
    · have hke : t.kids.length = k := by omega
      have HV : Hid (nlOut vars defs (d + 1) t nodes = nlAt t nodes k) := by
        have h2 := HA.out
        rw [← hke] at hpos h2 ⊢
        exact nlOut_end vars defs d t nodes HT.out h2 hpos
      clear hke hb
      go_wp2_with fail
      go_ret
      exact ⟨ret_int HV.out.symm, HBW.out⟩
theorem nl_step (vars defs : Int) (d : Nat) (t : Tr) (hd : d ≤ 100) (ih : ∀ i (hi : i < t.kids.length), ∀ d', d' < d → NlSaid vars defs d' (t.kids[i])) : NlSaid vars defs d t := by
  intro c nodes w hk h0 h1
  have key : ∀ (T : TypeId) (x : Value) (K : FuncId) (ok fit : Bool), NodeAt vars defs t.op t.num t.kids.length T x K ok fit →
      Calls Try.prog 88 #[.agg #[.int .i64 t.op, .int .i64 t.num, c], .int .i64 vars, .int .i64 defs, .int .i64 (d : Int), .int .i64 nodes] w fun e w' => e = .returned (.int .i64 (nlOut vars defs d t nodes)) ∧ Below w.heap.size w w' := by
    intro T x K ok fit hn
    by_cases hl : topB t vars defs = false ∨ d = 0 ∨ nodes = 0
    · obtain ⟨ad, cap, rfl, -, -, -⟩ := hk
      exact nl_leave vars defs d t T x K ok fit hn ad cap nodes w hl
    · simp only [not_or, Bool.not_eq_false] at hl
      obtain ⟨e, rfl⟩ : ∃ e, d = e + 1 := ⟨d - 1, by omega⟩
      exact nl_go vars defs e t T x K ok fit hn c nodes w (fun i hi => ih i hi e (by omega)) hk hl.1 (by omega) h1 (by omega)
  by_cases e1 : t.op = 1
  · exact key _ _ _ _ _ (nodeAt_1 vars defs t.op t.num t.kids.length e1)
  by_cases e2 : t.op = 2
  · exact key _ _ _ _ _ (nodeAt_2 vars defs t.op t.num t.kids.length e2)
  by_cases e3 : t.op = 3
  · exact key _ _ _ _ _ (nodeAt_3 vars defs t.op t.num t.kids.length e3)
  exact key _ _ _ _ _ (nodeAt_o vars defs t.op t.num t.kids.length e1 e2 e3)

theorem nl_any (vars defs : Int) : ∀ (d : Nat) (t : Tr), d ≤ 100 → NlSaid vars defs d t := by
  intro d
  induction d using Nat.strongRecOn with
  | ind d ih => intro t h; exact nl_step vars defs d t h fun i hi d' hd' => ih d' hd' _ (by omega)

set_option maxHeartbeats 400000 in
/-- THE PROGRAM's ExprValid -/
theorem implValid_calls (t : Tr) (vars defs : Int) (c : Value) (w : World) (hk : In w t.kids c) : Calls Try.prog 55 #[.agg #[.int .i64 t.op, .int .i64 t.num, c], .int .i64 vars, .int .i64 defs] w fun e w' => e = .returned (.bool (validB t vars defs)) ∧ Below w.heap.size w w' := by
  have HK : Hid (In w t.kids c) := hk
  clear hk
  have HBX : Hid (Below w.heap.size w (w.alloc (.cells #[.int .i64 t.op, .int .i64 t.num, c] 32))) := box_below _ _
  by_cases hv0 : 0 ≤ vars
  · by_cases hv4 : vars ≤ 4
    · by_cases hd0 : 0 ≤ defs
      · by_cases hd6 : defs ≤ 6
        · have HV : Hid (validB t vars defs = decide (0 ≤ nlOut vars defs 16 t 60)) := by
            simp only [Hid, validB]
            rw [decide_eq_true (show 0 ≤ vars ∧ vars ≤ 4 ∧ 0 ≤ defs ∧ defs ≤ 6 from ⟨hv0, hv4, hd0, hd6⟩), Bool.true_and]
            unfold nlOut
            cases hs : shB vars defs 16 t with
            | false => simp
            | true =>
              simp only [true_and, Bool.true_and]
              rw [decide_eq_decide]
              split <;> omega
          have hrg := nlOut_range vars defs 16 t 60 (by omega)
          go_enter Try.func55, Try.ntmps55
          go_wp2_with fail
          refine (nl_any vars defs 16 t (by omega) c _ _ (HK.out.next HBX.out) (by omega) (by omega)).mono ?_
          rintro e w2 ⟨rfl, hb2⟩
          have HB2 : Hid (Below w.heap.size w w2) := HBX.out.trans (hb2.mono HBX.out.size)
          clear hb2
          go_wp2_with fail
          go_ret
          exact ⟨ret_bool HV.out.symm, HB2.out⟩
        · have HV : Hid (validB t vars defs = false) := by
            simp only [Hid, validB]
            rw [decide_eq_false (show ¬ (0 ≤ vars ∧ vars ≤ 4 ∧ 0 ≤ defs ∧ defs ≤ 6) by omega), Bool.false_and]
          go_enter Try.func55, Try.ntmps55
          go_wp2_with fail
          go_ret
          exact ⟨ret_bool HV.out.symm, HBX.out⟩
      · have HV : Hid (validB t vars defs = false) := by
          simp only [Hid, validB]
          rw [decide_eq_false (show ¬ (0 ≤ vars ∧ vars ≤ 4 ∧ 0 ≤ defs ∧ defs ≤ 6) by omega), Bool.false_and]
        go_enter Try.func55, Try.ntmps55
        go_wp2_with fail
        go_ret
        exact ⟨ret_bool HV.out.symm, HBX.out⟩
    · have HV : Hid (validB t vars defs = false) := by
        simp only [Hid, validB]
        rw [decide_eq_false (show ¬ (0 ≤ vars ∧ vars ≤ 4 ∧ 0 ≤ defs ∧ defs ≤ 6) by omega), Bool.false_and]
      go_enter Try.func55, Try.ntmps55
      go_wp2_with fail
      go_ret
      exact ⟨ret_bool HV.out.symm, HBX.out⟩
  · have HV : Hid (validB t vars defs = false) := by
      simp only [Hid, validB]
      rw [decide_eq_false (show ¬ (0 ≤ vars ∧ vars ≤ 4 ∧ 0 ≤ defs ∧ defs ≤ 6) by omega), Bool.false_and]
    go_enter Try.func55, Try.ntmps55
    go_wp2_with fail
    go_ret
    exact ⟨ret_bool HV.out.symm, HBX.out⟩
end Go.Proofs.Ytglpehelmlehiaa
/-
  THE MODEL's AND THE PROGRAM's ProgramValid: which programs they take for valid; nothing that was there is changed.
-/
namespace Go.Proofs.Ytglpehelmlehiaa
set_option linter.unusedVariables false
set_option linter.unusedSimpArgs false
open Go.RowKit

/-- a valid program -/
def progB (ds : List Df) : Bool := decide (ds.length ≤ 6) && ds.all fun d => validB d.2 d.1 ds.length

theorem progB_long (ds : List Df) (h : 6 < ds.length) : progB ds = false := by unfold progB; rw [decide_eq_false (by omega), Bool.false_and]
theorem progB_bad (ds : List Df) (k : Nat) (hk : k < ds.length) (h : validB ds[k].2 ds[k].1 ds.length = false) : progB ds = false := by
  unfold progB
  rw [Bool.and_eq_false_iff]
  right
  rw [List.all_eq_false]
  exact ⟨ds[k], List.getElem_mem hk, by simp [h]⟩
theorem progB_end (ds : List Df) (h : ds.length ≤ 6) (ha : (ds.take ds.length).all (fun d => validB d.2 d.1 ds.length) = true) : progB ds = true := by
  rw [List.take_length] at ha
  unfold progB
  rw [ha, decide_eq_true h]; rfl
theorem all_take_succ' {α : Type} (p : α → Bool) (l : List α) (i : Nat) (h : i < l.length) : (l.take (i + 1)).all p = ((l.take i).all p && p l[i]) := by
  rw [List.take_succ_eq_append_getElem h, List.all_append]; simp
theorem validB_is (t : Tr) (v d : Int) (h : 0 ≤ v ∧ v ≤ 4 ∧ 0 ≤ d ∧ d ≤ 6) : validB t v d = isB t v d := by
  simp only [validB, isB]
  rw [decide_eq_true h, Bool.true_and]
  congr 1
  rw [decide_eq_decide]
  omega
theorem validB_no (t : Tr) (v d : Int) (h : ¬ (0 ≤ v ∧ v ≤ 4 ∧ 0 ≤ d ∧ d ≤ 6)) : validB t v d = false := by
  simp only [validB]; rw [decide_eq_false h, Bool.false_and]

theorem is_val (b : Bool) (t : Tr) (vars defs : Int) (c : Value) (W : World) (hk : In W t.kids c) (h : isB t vars defs = b) : Calls Try.prog 110 #[.agg #[.int .i64 t.op, .int .i64 t.num, c], .int .i64 vars, .int .i64 defs] W fun e w' => e = .returned (.bool b) ∧ Below W.heap.size W w' := by
  have := l1Is_calls t vars defs c W hk; rwa [h] at this

theorem is_quiet (b : Bool) (t : Tr) (vars defs : Int) (c : Value) (wr : World) (hk : In wr t.kids c) (h : isB t vars defs = b) (dq : Nat) (osq : Array Obj) :
    Calls Try.prog 110 #[.agg #[.int .i64 t.op, .int .i64 t.num, c], .int .i64 vars, .int .i64 defs] (Sort.grow (redrawn wr dq) osq) fun e w'' => e = .returned (.bool b) ∧ ∃ p : Regrown, w'' = Sort.grow (redrawn wr p.d) p.os :=
  quietB (fun W hW => is_val b t vars defs c W (hk.next hW) h) dq osq

set_option maxRecDepth 100000 in
set_option maxHeartbeats 800000 in
theorem specProg_calls (ds : List Df) (c : Value) (w : World) (hk : DIn w ds c) : Calls Try.prog 86 #[c] w fun e w' => e = .returned (.bool (progB ds)) ∧ Below w.heap.size w w' := by
  have HK : Hid (DIn w ds c) := hk
  obtain ⟨ad, cap, rfl, hl, hm, -⟩ := hk
  unfold maxLen at hm
  go_enter Try.func86, Try.ntmps86
  go_wp2_with fail
  go_loopw [3] (fun i wr => ∃ k : Nat, k ≤ ds.length ∧ i = .int .i64 k ∧ (ds.take k).all (fun d => validB d.2 d.1 ds.length || decide (6 < ds.length)) = true ∧ Below w.heap.size w wr) (fun i _ => ds.length - (intOf i).toNat)
  case atStart => exact ⟨0, Nat.zero_le _, rfl, by simp, Below.refl _ _⟩
  case round =>
    obtain ⟨k, hk, rfl, hall, hb⟩ := hrel
    have HA : Hid ((ds.take k).all (fun d => validB d.2 d.1 ds.length || decide (6 < ds.length)) = true) := hall
    have HBW : Hid (Below w.heap.size w wr) := hb
    clear hall
    by_cases hlt : k < ds.length
    · by_cases h6 : (k : Int) ≤ 6
      · obtain ⟨bl, off, r, rfl, c0, c1, c2, c3, -, -, -, hkk⟩ := (HK.out.next hb).at k hlt
        have HKK : Hid (In wr ds[k].2.kids r) := hkk
        clear hkk hb
        have k0 := cell_regrown c0
        have k1 := cell_regrown c1
        have k2 := cell_regrown c2
        have k3 := cell_regrown c3
        by_cases ha0 : ds[k].1 < 0
        · have hd0 : decide (ds[k].1 < 0) = true := by simpa using ha0
          have HV : Hid (progB ds = false) := progB_bad ds k hlt (validB_no _ _ _ (by omega))
          go_wp2_with fail
          refine wp_region_quiet_below (by kernel_rfl) (by kernel_rfl) ?_
          repeat (any_goals (first | go_big_quiet_step (fail) | quiet_step (fail)))
          refine wpQuiet_nil ?_
          intro _ hw'
          obtain ⟨⟨dq, osq⟩, hw''⟩ := hw'
          subst hw''
          clear k0 k1 k2 k3
          go_wp2_with fail
          go_ret
          exact ⟨ret_bool HV.out.symm, HBW.out.trans ((below_regrown _ _ _).mono HBW.out.size)⟩
        · have hd0 : decide (ds[k].1 < 0) = false := by simpa using ha0
          by_cases ha4 : 4 < ds[k].1
          · have hd4 : decide (4 < ds[k].1) = true := by simpa using ha4
            have HV : Hid (progB ds = false) := progB_bad ds k hlt (validB_no _ _ _ (by omega))
            go_wp2_with fail
            refine wp_region_quiet_below (by kernel_rfl) (by kernel_rfl) ?_
            repeat (any_goals (first | go_big_quiet_step (fail) | quiet_step (fail)))
            refine wpQuiet_nil ?_
            intro _ hw'
            obtain ⟨⟨dq, osq⟩, hw''⟩ := hw'
            subst hw''
            clear k0 k1 k2 k3
            go_wp2_with fail
            go_ret
            exact ⟨ret_bool HV.out.symm, HBW.out.trans ((below_regrown _ _ _).mono HBW.out.size)⟩
          · have hd4 : decide (4 < ds[k].1) = false := by simpa using ha4
            cases hib : isB ds[k].2 ds[k].1 ds.length with
            | false =>
              have HC : Hid (∀ (dq : Nat) (osq : Array Obj), Calls Try.prog 110 #[.agg #[.int .i64 ds[k].2.op, .int .i64 ds[k].2.num, r], .int .i64 ds[k].1, .int .i64 (ds.length : Int)] (Sort.grow (redrawn wr dq) osq) fun e w'' => e = .returned (.bool false) ∧ ∃ p : Regrown, w'' = Sort.grow (redrawn wr p.d) p.os) :=
                fun dq osq => is_quiet false ds[k].2 ds[k].1 ds.length r wr HKK.out hib dq osq
              have HV : Hid (progB ds = false) := by
                by_cases hl6 : 6 < ds.length
                · exact progB_long ds hl6
                · exact progB_bad ds k hlt (by rw [validB_is _ _ _ (by omega)]; exact hib)
              go_wp2_with fail
              refine wp_region_quiet_below (by kernel_rfl) (by kernel_rfl) ?_
              repeat (any_goals (first | go_big_quiet_step ((go_at_call 110; go_must (exact HC.out _ _))) | quiet_step ((go_at_call 110; go_must (exact HC.out _ _)))))
              refine wpQuiet_nil ?_
              intro _ hw'
              obtain ⟨⟨dq, osq⟩, hw''⟩ := hw'
              subst hw''
              clear k0 k1 k2 k3
              go_wp2_with fail
              go_ret
              exact ⟨ret_bool HV.out.symm, HBW.out.trans ((below_regrown _ _ _).mono HBW.out.size)⟩
            | true =>
              have HC : Hid (∀ (dq : Nat) (osq : Array Obj), Calls Try.prog 110 #[.agg #[.int .i64 ds[k].2.op, .int .i64 ds[k].2.num, r], .int .i64 ds[k].1, .int .i64 (ds.length : Int)] (Sort.grow (redrawn wr dq) osq) fun e w'' => e = .returned (.bool true) ∧ ∃ p : Regrown, w'' = Sort.grow (redrawn wr p.d) p.os) :=
                fun dq osq => is_quiet true ds[k].2 ds[k].1 ds.length r wr HKK.out hib dq osq
              have HV : Hid ((ds.take (k + 1)).all (fun d => validB d.2 d.1 ds.length || decide (6 < ds.length)) = true) := by
                rw [Hid, all_take_succ' _ _ _ hlt, HA.out, Bool.true_and]
                by_cases hl6 : 6 < ds.length
                · simp [hl6]
                · rw [validB_is _ _ _ (by omega), hib, Bool.true_or]
              go_wp2_with fail
              refine wp_region_quiet_below (by kernel_rfl) (by kernel_rfl) ?_
              repeat (any_goals (first | go_big_quiet_step ((go_at_call 110; go_must (exact HC.out _ _))) | quiet_step ((go_at_call 110; go_must (exact HC.out _ _)))))
              refine wpQuiet_nil ?_
              intro _ hw'
              obtain ⟨⟨dq, osq⟩, hw''⟩ := hw'
              subst hw''
              clear k0 k1 k2 k3
              have HB2 : Hid (Below w.heap.size w (Sort.grow (redrawn wr dq) osq)) := HBW.out.trans ((below_regrown _ _ _).mono HBW.out.size)
              clear hib
              go_wp2_with fail
              go_roundw
              case rel => exact ⟨k + 1, by omega, by go_num, HV.out, HB2.out⟩
              case measure => simp [intOf]; omega
      · have HV : Hid (progB ds = decide (ds.length ≤ 6)) := by
          rw [Hid, progB_long ds (by omega), decide_eq_false (by omega)]
        have hd6 : decide ((k : Int) ≤ 6) = false := by simpa using h6
        clear hb
        go_wp2_with fail
        go_ret
        exact ⟨ret_bool (by rw [HV.out, decide_eq_decide]; omega), HBW.out⟩
    · have HV : Hid (progB ds = decide (ds.length ≤ 6)) := by
        have hke : ds.length = k := by omega
        by_cases hl6 : 6 < ds.length
        · rw [Hid, progB_long ds hl6, decide_eq_false (by omega)]
        · rw [Hid, progB_end ds (by omega) _, decide_eq_true (by omega)]
          have h2 := HA.out
          rw [← hke] at h2
          simpa [hl6] using h2
      clear hb
      go_wp2_with fail
      go_ret
      exact ⟨ret_bool (by rw [HV.out, decide_eq_decide]; omega), HBW.out⟩

set_option maxRecDepth 100000 in
set_option maxHeartbeats 1600000 in
theorem implProg_calls (ds : List Df) (c : Value) (w : World) (hk : DIn w ds c) : Calls Try.prog 17 #[c] w fun e w' => e = .returned (.bool (progB ds)) ∧ Below w.heap.size w w' := by
  have HK : Hid (DIn w ds c) := hk
  obtain ⟨ad, cap, rfl, hl, hm, -⟩ := hk
  unfold maxLen at hm
  by_cases h6 : 6 < ds.length
  · have HV : Hid (progB ds = false) := progB_long ds h6
    go_enter Try.func17, Try.ntmps17
    go_wp2_with fail
    go_ret
    exact ⟨ret_bool HV.out.symm, Below.refl _ _⟩
  have h6' : ¬ (6 < (ds.length : Int)) := by omega
  go_enter Try.func17, Try.ntmps17
  go_wp2_with fail
  go_loopw [10] (fun i wr => ∃ k : Nat, k ≤ ds.length ∧ i = .int .i64 k ∧ (ds.take k).all (fun d => validB d.2 d.1 ds.length) = true ∧ Below w.heap.size w wr) (fun i _ => ds.length - (intOf i).toNat)
  case atStart => exact ⟨0, Nat.zero_le _, rfl, by simp, Below.refl _ _⟩
  case round =>
    obtain ⟨k, hk, rfl, hall, hb⟩ := hrel
    have HA : Hid ((ds.take k).all (fun d => validB d.2 d.1 ds.length) = true) := hall
    have HBW : Hid (Below w.heap.size w wr) := hb
    clear hall
    by_cases hlt : k < ds.length
    · obtain ⟨bl, off, r, rfl, c0, c1, c2, c3, -, -, -, hkk⟩ := (HK.out.next hb).at k hlt
      obtain ⟨ad2, cap2, rfl, -, -, -⟩ := id hkk
      have HKK : Hid (In wr ds[k].2.kids (.slice ad2 ds[k].2.kids.length cap2)) := hkk
      clear hkk hb
      go_wp2_with fail
      refine (implValid_calls ds[k].2 _ _ (.slice ad2 ds[k].2.kids.length cap2) _ ?_).mono ?_
      · exact HKK.out.next (box_below _ _)
      rintro e w1 ⟨rfl, hb1⟩
      have HB1 : Hid (Below w.heap.size w w1) := HBW.out.trans (((box_below _ _).trans (hb1.mono (by rw [Deep.nblk_alloc]; omega))).mono HBW.out.size)
      clear hb1
      cases hib : validB ds[k].2 ds[k].1 ds.length with
      | false =>
        have HV : Hid (progB ds = false) := progB_bad ds k hlt hib
        clear hib
        go_wp2_with fail
        go_ret
        exact ⟨ret_bool HV.out.symm, HB1.out⟩
      | true =>
        have HV : Hid ((ds.take (k + 1)).all (fun d => validB d.2 d.1 ds.length) = true) := by
          rw [Hid, all_take_succ' _ _ _ hlt, HA.out, hib]; rfl
        clear hib
        go_wp2_with fail
        go_roundw
        case rel => exact ⟨k + 1, by omega, by go_num, HV.out, HB1.out⟩
        case measure => simp [intOf]; omega
    · have HV : Hid (progB ds = true) := by
        have hke : ds.length = k := by omega
        have h2 := HA.out
        rw [← hke] at h2
        exact progB_end ds (by omega) h2
      clear hb
      go_wp2_with fail
      go_ret
      exact ⟨ret_bool HV.out.symm, HBW.out⟩
end Go.Proofs.Ytglpehelmlehiaa
/-
  THE MODEL's l1Program.
-/
namespace Go.Proofs.Ytglpehelmlehiaa
set_option linter.unusedVariables false
set_option linter.unusedSimpArgs false
open Go.RowKit

/-- a program's text, from a place on -/
def progT : Nat → List Df → List UInt8
  | _, [] => []
  | i, d :: ds => [byt (65 + i)] ++ decT d.1.toNat ++ [61] ++ textT d.2 ++ [10] ++ progT (i + 1) ds
def decB (n : Nat) : ByteArray := ⟨(decT n).toArray⟩
theorem app_mk (a b : List UInt8) : (⟨a.toArray⟩ : ByteArray) ++ ⟨b.toArray⟩ = ⟨(a ++ b).toArray⟩ := by rw [ByteArray.mk_append_mk]; first | done | simp

set_option maxRecDepth 100000 in
set_option maxHeartbeats 3200000 in
theorem l1Program_calls (ds : List Df) (v : Value) (w : World) (hk : DIn w ds v) (hp : progB ds = true) :
    Calls Try.prog 128 #[v] w fun e w' => e = .returned (.string ⟨(progT 0 ds).toArray⟩) ∧ Below w.heap.size w w' := by
  have hp6 : ds.length ≤ 6 := by by_cases h : ds.length ≤ 6; exact h; rw [progB_long ds (by omega)] at hp; exact absurd hp (by decide)
  have HVD : Hid (∀ d ∈ ds, validB d.2 d.1 ds.length = true) := by
    unfold progB at hp
    rw [Bool.and_eq_true, List.all_eq_true] at hp
    exact hp.2
  have HK := mkHid hk
  obtain ⟨ad, cap, rfl, hlc, hcm, -⟩ := id hk
  unfold maxLen at hcm
  obtain ⟨r, hr⟩ : ∃ r, r = progT 0 ds := ⟨_, rfl⟩
  rw [← hr]
  have HR := mkHid hr
  obtain ⟨n, hn⟩ : ∃ n, n = ds.length := ⟨_, rfl⟩
  have HN := mkHid hn
  rw [← hn] at HK hlc hp6 HVD ⊢
  clear hk hr hp hn
  go_enter Try.func128, Try.ntmps128
  go_wp2_with fail
  go_loopw [3, 4] (fun sv iv wr => ∃ (i : Nat) (S : ByteArray) (L : List UInt8), i ≤ n ∧ sv = .string S ∧ iv = .int .i64 (i : Int) ∧ S.size ≤ i * 300 ∧ Hid (S = ⟨L.toArray⟩) ∧ Hid (r = L ++ progT i (ds.drop i)) ∧ Hid (Below w.heap.size w wr)) (fun _ iv _ => n - (intOf iv).toNat)
  case atStart => exact ⟨0, ⟨#[]⟩, [], Nat.zero_le _, rfl, rfl, Nat.zero_le _, rfl, HR.out, Below.refl _ _⟩
  case round =>
    obtain ⟨i, S, L, hi, rfl, rfl, hsz, HS, HRR, HB⟩ := hrel
    by_cases hlt : i < n
    · have hid : i < ds.length := by rw [← HN.out]; exact hlt
      obtain ⟨bl, off, c, rfl, k0, k1, k2, k3, hI0, hI1, hI2, hIK⟩ := (DefsOn.next HK.out HB.out).at i hid
      have hvd : validB ds[i].2 ds[i].1 n = true := HVD.out _ (List.getElem_mem hid)
      have hsm : szT ds[i].2 ≤ 60 ∧ 0 ≤ ds[i].1 ∧ ds[i].1 ≤ 4 := by
        unfold validB at hvd
        simp only [Bool.and_eq_true, decide_eq_true_eq] at hvd
        omega
      have hsh := ShE.of_valid hvd
      obtain ⟨A, hA⟩ : ∃ A : Nat, ds[i].1 = (A : Int) := ⟨ds[i].1.toNat, by omega⟩
      obtain ⟨D, hD⟩ : ∃ D, D = decB A := ⟨_, rfl⟩
      obtain ⟨T, hT⟩ : ∃ T, T = textB ds[i].2 := ⟨_, rfl⟩
      obtain ⟨B1, hB1⟩ : ∃ B1 : ByteArray, B1 = ⟨#[byt (65 + i)]⟩ := ⟨_, rfl⟩
      have hA4 : A ≤ 4 := by omega
      have hDs : D.size ≤ 3 := by rw [hD]; show (decT A).toArray.size ≤ 3; rw [List.size_toArray]; exact decT_len A (by omega)
      have hTs : T.size ≤ 250 := by rw [hT, textB_size]; have := textT_len _ _ (Nat.le_refl _) hsh; omega
      have hBs : B1.size = 1 := by rw [hB1]; rfl
      have H1 : Hid (∀ W, Below wr.heap.size wr W → Calls Try.prog 134 #[.int .u8 65, .int .i64 (i : Int)] W fun e w' => e = .returned (.string B1) ∧ Below W.heap.size W w') := fun W _ => by rw [hB1]; exact l1Letter_calls 65 i W (by omega) (by decide)
      have H2 : Hid (∀ W, Below wr.heap.size wr W → Calls Try.prog 135 #[.int .i64 (A : Int)] W fun e w' => e = .returned (.string D) ∧ Below W.heap.size W w') := fun W _ => by rw [hD]; exact l16Dec_calls A W (by omega)
      have H3 : Hid (∀ W, Below wr.heap.size wr W → Calls Try.prog 131 #[.agg #[.int .i64 ds[i].2.op, .int .i64 ds[i].2.num, c]] W fun e w' => e = .returned (.string T) ∧ Below W.heap.size W w') := fun W h => by rw [hT]; exact l1Text_calls _ hsh (by omega) c W (hIK.next h) ⟨hI1, hI2⟩
      have HSS : Hid (S ++ B1 ++ D ++ (⟨#[61]⟩ : ByteArray) ++ T ++ (⟨#[10]⟩ : ByteArray) = ⟨(L ++ ([byt (65 + i)] ++ decT A ++ [61] ++ textT ds[i].2 ++ [10])).toArray⟩) := by
        have e1 : B1 = ⟨[byt (65 + i)].toArray⟩ := by rw [hB1]
        have e2 : (⟨#[61]⟩ : ByteArray) = ⟨[(61 : UInt8)].toArray⟩ := rfl
        have e3 : (⟨#[10]⟩ : ByteArray) = ⟨[(10 : UInt8)].toArray⟩ := rfl
        rw [Hid, HS.out, e1, hD, hT, decB, textB, e2, e3, app_mk, app_mk, app_mk, app_mk, app_mk]
        simp only [List.append_assoc]
      have HV : Hid (r = (L ++ ([byt (65 + i)] ++ decT A ++ [61] ++ textT ds[i].2 ++ [10])) ++ progT (i + 1) (ds.drop (i + 1))) := by
        rw [Hid, HRR.out, List.drop_eq_getElem_cons hid, progT, hA, Int.toNat_natCast]
        simp only [List.append_assoc]
      obtain ⟨adc, capc, rfl, -, -, -⟩ := hIK
      obtain ⟨o, ho⟩ : ∃ o, o = ds[i].2.op := ⟨_, rfl⟩
      obtain ⟨m, hm⟩ : ∃ m, m = ds[i].2.num := ⟨_, rfl⟩
      obtain ⟨z, hz⟩ : ∃ z, z = ds[i].2.kids.length := ⟨_, rfl⟩
      rw [← ho, ← hm, ← hz] at H3
      rw [hA] at k0
      rw [← ho] at k1
      rw [← hm] at k2
      rw [← hz] at k3
      have r0 := cell_regrown k0
      have r1 := cell_regrown k1
      have r2 := cell_regrown k2
      have r3 := cell_regrown k3
      obtain ⟨LL, hLL⟩ : ∃ LL, LL = L ++ ([byt (65 + i)] ++ decT A ++ [61] ++ textT ds[i].2 ++ [10]) := ⟨_, rfl⟩
      rw [← hLL] at HSS HV
      clear k0 k1 k2 k3 hI0 hI1 hI2 hvd hsm hsh hA hD hT hB1 ho hm hz hLL HRR HS
      go_wp2_with fail
      refine wp_region_quiet_below (by kernel_rfl) (by kernel_rfl) ?_
      iterate 2 (any_goals (first | go_big_quiet_step (fail) | quiet_step (fail)))
      any_goals (first | go_big_quiet_step (exact quietB (fun W h => H1.out W h) _ _) | quiet_step (exact quietB (fun W h => H1.out W h) _ _))
      iterate 6 (any_goals (first | go_big_quiet_step (fail) | quiet_step (fail)))
      any_goals (first | go_big_quiet_step (exact quietB (fun W h => H2.out W h) _ _) | quiet_step (exact quietB (fun W h => H2.out W h) _ _))
      iterate 7 (any_goals (first | go_big_quiet_step (fail) | quiet_step (fail)))
      any_goals (first | go_big_quiet_step (exact quietB (fun W h => H3.out W h) _ _) | quiet_step (exact quietB (fun W h => H3.out W h) _ _))
      iterate 3 (any_goals (first | go_big_quiet_step (fail) | quiet_step (fail)))
      refine wpQuiet_nil ?_
      intro _ hw'
      obtain ⟨⟨dq, osq⟩, hw''⟩ := hw'
      subst hw''
      clear r0 r1 r2 r3
      go_wp2_with fail
      have e61 : (⟨#[61]⟩ : ByteArray).size = 1 := rfl
      have e10 : (⟨#[10]⟩ : ByteArray).size = 1 := rfl
      exact ⟨⟨i + 1, _, LL, hlt, rfl, by simp, by simp only [ByteArray.size_append]; omega, HSS.out, HV.out, HB.out.trans ((below_regrown _ _ _).mono HB.out.size)⟩, by simp only [intOf]; omega⟩
    · have hin : i = n := by omega
      have HV : Hid (r = L) := by
        have e : ds.drop i = [] := List.drop_eq_nil_of_le (by rw [hin, HN.out]; exact Nat.le_refl _)
        rw [Hid, HRR.out, e]; simp [progT]
      subst hin
      go_wp2_with fail
      go_ret
      exact ⟨ret_str (by rw [HV.out]; exact HS.out), HB.out⟩
end Go.Proofs.Ytglpehelmlehiaa
/-
  THE MODEL's ParseProgram.
-/
namespace Go.Proofs.Ytglpehelmlehiaa
set_option linter.unusedVariables false
set_option linter.unusedSimpArgs false
open Go.RowKit

/-- a program's line -/
def lineT (l : ByteArray) : Option Df := if 4 ≤ l.size ∧ 48 ≤ bN l 1 ∧ bN l 1 ≤ 57 ∧ bN l 2 = 61 ∧ (parseE (l.extract 3 l.size)).2 = true then some (((bN l 1 - 48 : Nat) : Int), (parseE (l.extract 3 l.size)).1) else none
def linesT : List ByteArray → Option (List Df)
  | [] => some []
  | l :: ls => (lineT l).bind fun d => (linesT ls).map (d :: ·)
/-- the lines that count -/
def linesOf (s : ByteArray) : List ByteArray := ((cutT s 10 (s.size + 1) 0 0).take ((cutT s 10 (s.size + 1) 0 0).length - 1)).take 7
def parseP (s : ByteArray) : Option (List Df) := (linesT (linesOf s)).bind fun ds => if progB ds = true ∧ (⟨(progT 0 ds).toArray⟩ : ByteArray) = s then some ds else none
/-- functions in a row of one's own, their bodies elsewhere -/
def OwnDf (w : World) (lo : Nat) (ds : List Df) (v : Value) : Prop :=
  ∃ xs, w.ownsRow lo 63 4 v ds.length xs ∧ ∀ j (hj : j < ds.length), ∃ a b c e, xs[j * 4]? = some a ∧ xs[j * 4 + 1]? = some b ∧ xs[j * 4 + 2]? = some c ∧ xs[j * 4 + 3]? = some e ∧ DfOn w (fun k => PN lo w k ∧ some k ≠ v.ownBlock) ds[j] a b c e
theorem DfOn.mono {w w' : World} {S S' : Nat → Prop} {d : Df} {a b c e : Value} (h : DfOn w S d a b c e) (hS : ∀ k, S k → S' k) (hw : ∀ k, S k → w'.heap[k]? = w.heap[k]?) : DfOn w' S' d a b c e :=
  ⟨h.1, h.2.1, h.2.2.mono hS hw⟩
theorem OwnDf.next {w w' : World} {lo : Nat} {ds : List Df} {v : Value} (h : OwnDf w lo ds v) (hb : Below w.heap.size w w') : OwnDf w' lo ds v := by
  obtain ⟨xs, h1, h2⟩ := h
  refine ⟨xs, own_keep h1 fun k _ hk => hb.block k hk, fun j hj => ?_⟩
  obtain ⟨a, b, c, e, e1, e2, e3, e4, e5⟩ := h2 j hj
  exact ⟨a, b, c, e, e1, e2, e3, e4, e5.mono (fun k hk => ⟨hk.1.go (Nat.le_refl _) (hb.block k hk.1.2.1), hk.2⟩) fun k hk => hb.block k hk.1.2.1⟩
theorem OwnDf.step {w w' : World} {lo : Nat} {ds : List Df} {v v' : Value} {d : Df} {a b c e : Value} (xs : List Value) (hx : w.ownsRow lo 63 4 v ds.length xs) (hlo : lo ≤ w.heap.size)
    (ht : ∀ j (hj : j < ds.length), ∃ a b c e, xs[j * 4]? = some a ∧ xs[j * 4 + 1]? = some b ∧ xs[j * 4 + 2]? = some c ∧ xs[j * 4 + 3]? = some e ∧ DfOn w (fun k => PN lo w k ∧ some k ≠ v.ownBlock) ds[j] a b c e)
    (hn : DfOn w (fun k => PN lo w k ∧ some k ≠ v.ownBlock) d a b c e)
    (hown : w'.ownsRow lo 63 4 v' (ds.length + 1) (xs ++ [a, b, c, e])) (hg : w.grownBy w' v.ownBlock) (hw : v'.ownBlock = v.ownBlock ∨ ∃ g, v'.ownBlock = some g ∧ w.heap.size ≤ g) : OwnDf w' lo (ds ++ [d]) v' := by
  have hlen := hx.1
  have keep : ∀ (s : Df) (x y z u : Value), DfOn w (fun k => PN lo w k ∧ some k ≠ v.ownBlock) s x y z u → DfOn w' (fun k => PN lo w' k ∧ some k ≠ v'.ownBlock) s x y z u := by
    intro s x y z u hs
    refine hs.mono (fun k hk => ⟨hk.1.go (Nat.le_refl _) (hg.block k hk.1.2.1 hk.2), ?_⟩) (fun k hk => hg.block k hk.1.2.1 hk.2)
    rcases hw with hw | ⟨g, hw, hge⟩
    · rw [hw]; exact hk.2
    · rw [hw]; intro e; simp only [Option.some.injEq] at e; have := hk.1.2.1; omega
  refine ⟨xs ++ [a, b, c, e], by simpa using hown, fun j hj => ?_⟩
  by_cases hjl : j < ds.length
  · obtain ⟨x, y, z, u, e1, e2, e3, e4, e5⟩ := ht j hjl
    have l1 : j * 4 + 3 < xs.length := by omega
    refine ⟨x, y, z, u, ?_, ?_, ?_, ?_, ?_⟩
    · rw [List.getElem?_append_left (by omega)]; exact e1
    · rw [List.getElem?_append_left (by omega)]; exact e2
    · rw [List.getElem?_append_left (by omega)]; exact e3
    · rw [List.getElem?_append_left (by omega)]; exact e4
    · rw [List.getElem_append_left hjl]; exact keep _ _ _ _ _ e5
  · have hj' : j = ds.length := by simp at hj; omega
    subst hj'
    refine ⟨a, b, c, e, ?_, ?_, ?_, ?_, ?_⟩
    · rw [List.getElem?_append_right (by omega)]; simp [hlen]
    · rw [List.getElem?_append_right (by omega)]; simp [hlen]
    · rw [List.getElem?_append_right (by omega)]; simp [hlen]
    · rw [List.getElem?_append_right (by omega)]; simp [hlen]
    · simpa using keep _ _ _ _ _ hn
theorem OwnDf.defs {w : World} {lo : Nat} {ds : List Df} {v : Value} (h : OwnDf w lo ds v) : DefsOn w (PN lo w) ds v := by
  obtain ⟨xs, h1, h2⟩ := h
  rcases h1.2 with ⟨rfl, h0⟩ | ⟨g, cap, cur, rfl, hg, hh, hn, hc, hs, htk⟩
  · obtain rfl : ds = [] := List.eq_nil_of_length_eq_zero h0
    exact ⟨none, 0, rfl, Nat.le_refl _, by simp [maxLen], Or.inl rfl⟩
  · refine ⟨_, cap, rfl, hn, hc, Or.inr ⟨g, 0, rfl, ⟨hg, (Array.getElem?_eq_some_iff.1 hh).1, _, _, hh⟩, fun i hi => ?_⟩⟩
    obtain ⟨a, b, c, e, e1, e2, e3, e4, e5⟩ := h2 i hi
    refine ⟨a, b, c, e, ?_, ?_, ?_, ?_, e5.mono (fun k hk => hk.1) (fun _ _ => rfl)⟩
    · rw [Nat.zero_add, h1.cellAt (i * 4) (by omega)]; exact e1
    · rw [Nat.zero_add, h1.cellAt (i * 4 + 1) (by omega)]; exact e2
    · rw [Nat.zero_add, h1.cellAt (i * 4 + 2) (by omega)]; exact e3
    · rw [Nat.zero_add, h1.cellAt (i * 4 + 3) (by omega)]; exact e4
theorem infoD4 : ∃ i z, Try.prog.info? 63 = some i ∧ i.zero = some z ∧ i.size = 4 ∧ i.bytes = 48 ∧ z.cells.size = 4 := by
  obtain ⟨i, hi, hzz⟩ := Option.map_eq_some_iff.1 infoD
  simp only [Prod.mk.injEq] at hzz
  obtain ⟨hz, hs, hb⟩ := hzz
  exact ⟨i, _, hi, hz, hs, hb, rfl⟩
theorem cutT_small (s : ByteArray) (c : Nat) : ∀ k i f, ∀ x ∈ cutT s c k i f, x.size ≤ s.size
  | 0, _, _ => by simp [cutT]
  | k + 1, i, f => by
    intro x hx
    unfold cutT at hx
    split at hx
    · rcases List.mem_cons.1 hx with rfl | h
      · rw [ByteArray.size_extract]; omega
      · exact cutT_small s c k _ _ x h
    · exact cutT_small s c k _ _ x hx
theorem cutT_pos (s : ByteArray) (c : Nat) : ∀ k i f, i + k = s.size → 1 ≤ (cutT s c (k + 1) i f).length
  | 0, i, f, h => by unfold cutT; rw [if_pos (Or.inl (by omega))]; simp
  | k + 1, i, f, h => by
    unfold cutT
    split
    · simp
    · exact cutT_pos s c k (i + 1) f (by omega)
end Go.Proofs.Ytglpehelmlehiaa
/-
  THE MODEL's ParseProgram, THE WALK.
-/
namespace Go.Proofs.Ytglpehelmlehiaa
set_option linter.unusedVariables false
set_option linter.unusedSimpArgs false
open Go.RowKit

def PpRes (r : Option (List Df)) (w : World) (e : Ending) (w' : World) : Prop := ∃ v, e = .returned (.tuple #[v, .bool r.isSome]) ∧ DefsOn w' (PN w.heap.size w') (r.getD []) v ∧ Below w.heap.size w w'
theorem PpRes.none {r : Option (List Df)} {w w' : World} {ad : Option Addr} {cap : Nat} (h : r = Option.none) (hc : cap ≤ maxLen) (hb : Below w.heap.size w w') : PpRes r w (.returned (.tuple #[.slice ad 0 cap, .bool false])) w' := by
  subst h
  exact ⟨_, rfl, ⟨ad, cap, rfl, Nat.zero_le _, hc, Or.inl rfl⟩, hb⟩

/-- what the loop keeps -/
structure PqR (w w1 wr : World) (ds : List Df) (ov : Value) : Prop where
  own : OwnDf wr w.heap.size ds ov
  blk : ∀ g, ov.ownBlock = some g → g = w.heap.size + 1 ∨ w1.heap.size ≤ g
  low : Below w.heap.size w wr
  mid : ∀ k, w.heap.size + 2 ≤ k → k < w1.heap.size → wr.heap[k]? = w1.heap[k]?
  size : w1.heap.size ≤ wr.heap.size

set_option maxRecDepth 100000 in
set_option maxHeartbeats 3200000 in
theorem specParseProgram_calls (s : ByteArray) (w : World) (hs : s.size ≤ 1099511627775) :
    Calls Try.prog 118 #[.string s] w (PpRes (parseP s) w) := by
  obtain ⟨r, hr⟩ : ∃ r, r = parseP s := ⟨_, rfl⟩
  rw [← hr]
  have HR := mkHid hr
  have HSZ : Hid (∀ x ∈ cutT s 10 (s.size + 1) 0 0, x.size ≤ 1099511627775) := fun x hx => Nat.le_trans (cutT_small s 10 _ _ _ x hx) hs
  have hcl := cutT_len s 10 (s.size + 1) 0 0
  have hcp := cutT_pos s 10 s.size 0 0 (by omega)
  have HCUT := mkHid fun W => l16Cut_calls s 10 W (by decide) (by omega)
  unfold parseP linesOf at HR
  obtain ⟨ls, hls⟩ : ∃ ls, ls = cutT s 10 (s.size + 1) 0 0 := ⟨_, rfl⟩
  rw [← hls] at HSZ hcl hcp HCUT HR
  obtain ⟨nl, hnl⟩ : ∃ nl, nl = ls.length := ⟨_, rfl⟩
  have HNL := mkHid hnl
  rw [← hnl] at hcl hcp HR
  obtain ⟨L0, hL0⟩ : ∃ L0, L0 = (ls.take (nl - 1)).take 7 := ⟨_, rfl⟩
  rw [← hL0] at HR
  have HL0 := mkHid hL0
  obtain ⟨iE, zE, hiE, hzE, hsE, hbE, hcE⟩ := infoD4
  have HE : Hid (Try.prog.info? 63 = some iE ∧ iE.zero = some zE ∧ iE.size = 4 ∧ iE.bytes = 48 ∧ zE.cells.size = 4) := ⟨hiE, hzE, hsE, hbE, hcE⟩
  clear hr hls hnl hL0 hiE hzE hsE hbE hcE
  go_enter Try.func118, Try.ntmps118
  go_wp2_with fail
  refine (HCUT.out _).mono ?_
  rintro e w1 ⟨lv, rfl, hlv, hb1⟩
  have hs2 : ((w.alloc (.cells #[] 63)).alloc (.cells #[] 63)).heap.size = w.heap.size + 2 := by rw [Deep.nblk_alloc, Deep.nblk_alloc]
  have HB1 := mkHid hb1
  rw [hs2] at hb1 hlv
  have hsw := hb1.size
  rw [hs2] at hsw
  have HBW : Hid (Below w.heap.size w w1) := ((box_below _ _).trans ((box_below _ _).mono (by rw [Deep.nblk_alloc]; omega))).trans (hb1.mono (by omega))
  have HD0 : Hid (w1.heap[w.heap.size + 1]? = some (.cells #[] 63)) := (hb1.block _ (by omega)).trans (by have h := Deep.blk_alloc_new (w.alloc (.cells #[] 63)) (.cells #[] 63); rwa [Deep.nblk_alloc] at h)
  rcases id hlv.2 with ⟨rfl, h0⟩ | ⟨g, cap, cur, rfl, hg, hh, hn, hc, -, -⟩
  · rw [← HNL.out] at h0; omega
  have hgw : g < w1.heap.size := (Array.getElem?_eq_some_iff.1 hh).1
  have HCL : Hid (∀ i (hi : i < ls.length), w1.cell? ⟨g, i, none⟩ = some (.string ls[i])) := fun i hi => by
    rw [World.ownsRow.cellAt hlv i (by rw [Nat.mul_one]; exact hi), List.getElem?_map, List.getElem?_eq_getElem hi]; rfl
  rw [← HNL.out] at hn ⊢
  obtain ⟨n0, hn0⟩ : ∃ n0, n0 = L0.length := ⟨_, rfl⟩
  have hn1 : n0 = min 7 (nl - 1) := by rw [hn0, HL0.out, List.length_take, List.length_take, ← HNL.out]; omega
  have HN0 := mkHid hn0
  have HLI : Hid (∀ i (hi : i < L0.length) (hi' : i < ls.length), L0[i] = ls[i]) := fun i hi hi' => by
    have h : L0[i]? = ls[i]? := by
      have h2 := hi
      rw [HL0.out, List.length_take, List.length_take] at h2
      rw [HL0.out, List.getElem?_take_of_lt (by omega), List.getElem?_take_of_lt (by omega)]
    rw [List.getElem?_eq_getElem hi, List.getElem?_eq_getElem hi'] at h
    exact Option.some.inj h
  unfold maxLen at hc
  clear hlv hb1 hs2 hh hn0
  go_wp2_with fail
  go_loopw [5, 7] (fun ov iv wr => ∃ (i : Nat) (ds : List Df), i ≤ n0 ∧ iv = .int .i64 (i : Int) ∧ Hid (PqR w w1 wr ds ov) ∧ Hid (ds.length = i) ∧ Hid (linesT L0 = (linesT (L0.drop i)).map (ds ++ ·))) (fun _ iv _ => n0 - (intOf iv).toNat)
  case atStart =>
    refine ⟨0, [], Nat.zero_le _, rfl, ⟨⟨[], ⟨rfl, Or.inr ⟨_, 0, #[], rfl, by omega, HD0.out, Nat.le_refl _, by unfold maxLen; omega, rfl, rfl⟩⟩, fun j hj => absurd hj (by simp)⟩, fun b hb => Or.inl ?_, HBW.out, fun _ _ _ => rfl, Nat.le_refl _⟩, rfl, ?_⟩
    · simp only [Value.ownBlock, Option.some.injEq] at hb; omega
    · rw [Hid, List.drop_zero]; cases linesT L0 <;> simp
  case round =>
    obtain ⟨i, ds, hi, rfl, HP, HDL, HLT⟩ := hrel
    by_cases hlt : i < n0
    · have hi1 : (i : Int) < (nl : Int) - 1 := by omega
      have hi2 : (i : Int) ≤ 6 := by omega
      have hil : i < L0.length := by rw [← HN0.out]; exact hlt
      have hil2 : i < ls.length := by rw [← HNL.out]; omega
      obtain ⟨l, hl⟩ : ∃ l, l = ls[i] := ⟨_, rfl⟩
      have hlz : l.size ≤ 1099511627775 := by rw [hl]; exact HSZ.out _ (List.getElem_mem hil2)
      have c0 : wr.cell? ⟨g, i, none⟩ = some (.string l) := by
        rw [World.cell?_of_block (w := w1) (HP.out.mid g hg hgw), hl]; exact HCL.out i hil2
      have HDR : Hid (L0.drop i = l :: L0.drop (i + 1)) := by rw [Hid, List.drop_eq_getElem_cons hil, HLI.out i hil hil2, hl]
      have HRN : Hid (lineT l = none → r = none) := fun h => by
        rw [HR.out, HLT.out, HDR.out, linesT, h]; rfl
      have HRS : Hid (∀ d, lineT l = some d → linesT L0 = (linesT (L0.drop (i + 1))).map ((ds ++ [d]) ++ ·)) := fun d h => by
        rw [HLT.out, HDR.out, linesT, h]
        cases linesT (L0.drop (i + 1)) <;> simp
      clear hl
      by_cases t4 : 4 ≤ l.size
      case neg =>
        have HV : Hid (r = none) := HRN.out (by unfold lineT; rw [if_neg (fun h => t4 h.1)])
        go_wp2_with fail
        go_ret2
        exact PpRes.none HV.out (by simp [maxLen]) HP.out.low
      have h1 : 1 < l.size := by omega
      have h2 : 2 < l.size := by omega
      have t4' : ¬ (l.size : Int) < 4 := by omega
      have hb1 := bN_at h1
      have hb2 := bN_at h2
      obtain ⟨b1, hB1⟩ : ∃ b1, b1 = bN l 1 := ⟨_, rfl⟩
      obtain ⟨b2, hB2⟩ : ∃ b2, b2 = bN l 2 := ⟨_, rfl⟩
      rw [← hB1] at hb1
      rw [← hB2] at hb2
      have HBB := mkHid (And.intro hB1 hB2)
      clear hB1 hB2
      by_cases t48 : 48 ≤ b1
      case neg =>
        have HV : Hid (r = none) := HRN.out (by unfold lineT; rw [if_neg (fun h => t48 (by rw [HBB.out.1]; exact h.2.1))])
        go_wp2_with fail
        go_ret2
        exact PpRes.none HV.out (by simp [maxLen]) HP.out.low
      by_cases t57 : b1 ≤ 57
      case neg =>
        have HV : Hid (r = none) := HRN.out (by unfold lineT; rw [if_neg (fun h => t57 (by rw [HBB.out.1]; exact h.2.2.1))])
        go_wp2_with fail
        go_ret2
        exact PpRes.none HV.out (by simp [maxLen]) HP.out.low
      by_cases t61 : b2 = 61
      case neg =>
        have HV : Hid (r = none) := HRN.out (by unfold lineT; rw [if_neg (fun h => t61 (by rw [HBB.out.2]; exact h.2.2.2.1))])
        have t61' : ((b2 : Int) == 61) = false := by simp; omega
        have t61'' : ((b2 : Int) != 61) = true := by simp; omega
        go_wp2_with fail
        go_ret2
        exact PpRes.none HV.out (by simp [maxLen]) HP.out.low
      have HPC := mkHid (specParseExpr_calls (l.extract 3 l.size) wr (by rw [ByteArray.size_extract]; omega))
      obtain ⟨q, hq⟩ : ∃ q, q = parseE (l.extract 3 l.size) := ⟨_, rfl⟩
      have HQ := mkHid hq
      rw [← hq] at HPC
      obtain ⟨x, ok⟩ := q
      subst t61
      clear hq
      go_wp2_with fail
      refine HPC.out.mono ?_
      rintro e w2 ⟨kv, rfl, hkv, hb2⟩
      obtain ⟨adk, capk, rfl, -, -, -⟩ := id hkv
      have HKV := mkHid hkv
      have HB2 := mkHid hb2
      have HXI : Hid (I64 x.op ∧ I64 x.num) := by
        have h := (parseT_rng (l.extract 3 l.size) 16 0).i64
        have h2 := HQ.out
        unfold parseE at h2
        split at h2
        · rw [Prod.mk.injEq] at h2; rw [h2.1]; exact h
        · rw [Prod.mk.injEq] at h2; rw [h2.1]; exact ⟨⟨by decide, by decide⟩, ⟨by decide, by decide⟩⟩
      obtain ⟨o, ho⟩ : ∃ o, o = x.op := ⟨_, rfl⟩
      obtain ⟨m, hm⟩ : ∃ m, m = x.num := ⟨_, rfl⟩
      obtain ⟨z, hz⟩ : ∃ z, z = x.kids.length := ⟨_, rfl⟩
      simp only [] at HKV ⊢
      rw [← ho, ← hm, ← hz]
      rw [← hz] at HKV
      have HOM := mkHid (And.intro ho hm)
      have HL2 : Hid (Below w.heap.size w (w2.alloc (.cells #[.int .i64 o, .int .i64 m, .slice adk z capk] 32))) := HP.out.low.trans ((hb2.trans ((box_below _ _).mono hb2.size)).mono HP.out.low.size)
      clear hkv hb2 ho hm hz
      cases ok with
      | false =>
        have HV : Hid (r = none) := HRN.out (by unfold lineT; rw [if_neg (fun h => by rw [← HQ.out] at h; exact absurd h.2.2.2.2 Bool.false_ne_true)])
        go_wp2_with fail
        go_ret2
        exact PpRes.none HV.out (by simp [maxLen]) HL2.out
      | true =>
        obtain ⟨A, hA⟩ : ∃ A, A = b1 - 48 := ⟨_, rfl⟩
        have hA9 : A ≤ 9 := by omega
        have hw1 : IntKind.u8.wrap ((b1 : Int) - 48) = (A : Int) := by rw [IntWalk.u8_in _ (by omega)]; omega
        have HV : Hid (linesT L0 = (linesT (L0.drop (i + 1))).map ((ds ++ [((A : Int), x)]) ++ ·)) := HRS.out _ (by
          unfold lineT
          have e := HBB.out
          have q := HQ.out
          rw [← q, ← e.1, ← e.2, if_pos ⟨t4, t48, t57, rfl, rfl⟩, hA])
        obtain ⟨wb, hwb⟩ : ∃ wb, wb = w2.alloc (.cells #[.int .i64 o, .int .i64 m, .slice adk z capk] 32) := ⟨_, rfl⟩
        have HWB := mkHid hwb
        have x0 := box_cell w2 #[.int .i64 o, .int .i64 m, .slice adk z capk] 32 0 _ rfl
        have x1 := box_cell w2 #[.int .i64 o, .int .i64 m, .slice adk z capk] 32 1 _ rfl
        have x2 := box_cell w2 #[.int .i64 o, .int .i64 m, .slice adk z capk] 32 2 _ rfl
        rw [← hwb] at HL2
        clear hA hwb
        go_wp2_with fail
        rw [← HWB.out] at x0 x1 x2 ⊢
        obtain ⟨xs, hx1, hx2⟩ := HP.out.own
        rw [HDL.out] at hx1
        have HBB2 : Hid (Below wr.heap.size wr wb) := by rw [Hid, HWB.out]; exact HB2.out.trans ((box_below _ _).mono HB2.out.size)
        have HWW : Hid (Below wr.heap.size wr (wb.alloc (.cells #[.int .i64 (A : Int), .int .i64 o, .int .i64 m, .slice adk z capk] 63)).drew) := (HBB2.out.alloc HBB2.out.size _).drew
        have HXW : Hid ((wb.alloc (.cells #[.int .i64 (A : Int), .int .i64 o, .int .i64 m, .slice adk z capk] 63)).drew.ownsRow w.heap.size 63 4 u5 i xs) := own_keep hx1 fun k _ hk => HWW.out.block k hk
        have HXT : Hid (∀ (j : Nat) (hj : j < ds.length), ∃ a b c e, xs[j * 4]? = some a ∧ xs[j * 4 + 1]? = some b ∧ xs[j * 4 + 2]? = some c ∧ xs[j * 4 + 3]? = some e ∧ DfOn (wb.alloc (.cells #[.int .i64 (A : Int), .int .i64 o, .int .i64 m, .slice adk z capk] 63)).drew (fun k => PN w.heap.size (wb.alloc (.cells #[.int .i64 (A : Int), .int .i64 o, .int .i64 m, .slice adk z capk] 63)).drew k ∧ some k ≠ u5.ownBlock) ds[j] a b c e) := by
          intro j hj
          obtain ⟨a, b, c, e, e1, e2, e3, e4, e5⟩ := hx2 j hj
          exact ⟨a, b, c, e, e1, e2, e3, e4, e5.mono (fun k hk => ⟨hk.1.go (Nat.le_refl _) (HWW.out.block k hk.1.2.1), hk.2⟩) fun k hk => HWW.out.block k hk.1.2.1⟩
        have HOB : Hid (∀ g, some g = u5.ownBlock → w.heap.size ≤ g ∧ g < wr.heap.size) := fun g e => own_some hx1 g e.symm
        have HXN : Hid (DfOn (wb.alloc (.cells #[.int .i64 (A : Int), .int .i64 o, .int .i64 m, .slice adk z capk] 63)).drew (fun k => PN w.heap.size (wb.alloc (.cells #[.int .i64 (A : Int), .int .i64 o, .int .i64 m, .slice adk z capk] 63)).drew k ∧ some k ≠ u5.ownBlock) ((A : Int), x) (.int .i64 (A : Int)) (.int .i64 o) (.int .i64 m) (.slice adk z capk)) := by
          have hblk : ∀ k, k < w2.heap.size → (wb.alloc (.cells #[.int .i64 (A : Int), .int .i64 o, .int .i64 m, .slice adk z capk] 63)).drew.heap[k]? = w2.heap[k]? := fun k h1 => by
            have h3 : wb.heap.size = w2.heap.size + 1 := by rw [HWB.out, Deep.nblk_alloc]
            refine (Deep.blk_alloc_lt wb _ k (by omega)).trans ?_
            rw [HWB.out, Deep.blk_alloc_lt _ _ _ h1]
          refine ⟨rfl, ⟨by show _ ≤ (A : Int); omega, by show (A : Int) ≤ _; omega⟩, trOn_iff.2 ⟨by rw [HOM.out.1], by rw [HOM.out.2], HXI.out.1, HXI.out.2, HKV.out.mono (fun k hk => ⟨hk.go HP.out.low.size (hblk k hk.2.1), fun e => ?_⟩) fun k hk => hblk k hk.2.1⟩⟩
          have h1 : wr.heap.size ≤ k := hk.1
          have := (HOB.out k e).2
          omega
        have HSB : Hid (w.heap.size ≤ (wb.alloc (.cells #[.int .i64 (A : Int), .int .i64 o, .int .i64 m, .slice adk z capk] 63)).drew.heap.size) := Nat.le_trans HP.out.low.size HWW.out.size
        have hi6 : i ≤ 6 := by omega
        have hw2 : IntKind.i64.wrap (A : Int) = (A : Int) := IntWalk.i64_in _ (by omega)
        have HN1 := mkHid hn1
        clear hx1 hx2
        go_region_law (go_must (refine step_append_where rfl (.tmp 58) (.tmp 65) 23 rfl w.heap.size 63 iE zE 4 48 Try.underlying23 HE.out.1 HE.out.2.1 HE.out.2.2.1 HE.out.2.2.2.1 HE.out.2.2.2.2 (by decide) u5 i xs (by simp [Act.eval, Act.put]) HXW.out ⟨wb.heap.size, 0, none⟩ 1 1 [.int .i64 (A : Int), .int .i64 o, .int .i64 m, .slice adk z capk] (by simp [Act.eval, Act.put]) rfl (fun j u hu => by rw [WideShapes.add_plain, Nat.zero_add]; exact box_cell wb #[.int .i64 (A : Int), .int .i64 o, .int .i64 m, .slice adk z capk] _ j u (by simpa using hu)) (by simp [Value.oneCell']) (by unfold maxLen; omega) (by omega) HSB.out (by omega) ?_); go_must (intro v' w3 hown hg hw); go_must (have HX3 := mkHid hown); go_must (have HG3 := mkHid hg); go_must (have HW3 := mkHid hw); clear hown hg hw)
        all_goals
          have HP3 : Hid (PqR w w1 w3 (ds ++ [((A : Int), x)]) v') := by
            have hwb2 : wb.heap.size ≤ w3.heap.size := Nat.le_trans (by show wb.heap.size ≤ (wb.alloc _).heap.size; rw [Deep.nblk_alloc]; omega) HG3.out.size
            have hwr : wr.heap.size ≤ w3.heap.size := Nat.le_trans HBB2.out.size hwb2
            refine ⟨OwnDf.step xs (by rw [HDL.out]; exact HXW.out) HSB.out HXT.out HXN.out (by rw [HDL.out]; exact HX3.out) HG3.out HW3.out, fun b hb => ?_, ?_, fun k h1 h2 => ?_, Nat.le_trans HP.out.size hwr⟩
            · rcases HW3.out with h | ⟨b', h, hge⟩
              · exact HP.out.blk b (h ▸ hb)
              · rw [h] at hb
                obtain rfl := Option.some.inj hb
                exact Or.inr (Nat.le_trans HP.out.size (Nat.le_trans HWW.out.size hge))
            · exact (HP.out.low.trans (HWW.out.mono HP.out.low.size)).grown HG3.out HSB.out fun b e => (HOB.out b e.symm).1
            · have hkw : k < wr.heap.size := Nat.lt_of_lt_of_le h2 HP.out.size
              rw [HG3.out.block k (Nat.lt_of_lt_of_le hkw HWW.out.size) (fun e => by rcases HP.out.blk k e.symm with h | h <;> omega), HWW.out.block k hkw]
              exact HP.out.mid k h1 h2
          have HDL3 : Hid ((ds ++ [((A : Int), x)]).length = i + 1) := by rw [Hid, List.length_append, HDL.out]; rfl
          clear HX3 HG3 HW3
          go_wp2_with fail
          exact ⟨⟨i + 1, ds ++ [((A : Int), x)], hlt, by simp, HP3, HDL3, HV⟩, by simp only [intOf]; omega⟩
    · have hin : i = n0 := by omega
      have HR2 : Hid (r = if progB ds = true ∧ (⟨(progT 0 ds).toArray⟩ : ByteArray) = s then some ds else none) := by
        have e : L0.drop i = [] := List.drop_eq_nil_of_le (by rw [hin, HN0.out]; exact Nat.le_refl _)
        rw [Hid, HR.out, HLT.out, e]; simp [linesT]
      have HDD := mkHid (OwnDf.defs HP.out.own)
      have HDI := mkHid (show DIn wr ds u5 from HDD.out.mono (fun _ hk => hk.2.1) (fun _ _ => rfl))
      have HPV := mkHid (specProg_calls ds u5 wr HDI.out)
      have HPP : Hid (∀ W, Below wr.heap.size wr W → progB ds = true → Calls Try.prog 128 #[u5] W fun e w' => e = .returned (.string ⟨(progT 0 ds).toArray⟩) ∧ Below W.heap.size W w') := fun W h hp => l1Program_calls ds u5 W (HDI.out.next h) hp
      obtain ⟨T, hT⟩ : ∃ T, T = (⟨(progT 0 ds).toArray⟩ : ByteArray) := ⟨_, rfl⟩
      rw [← hT] at HR2 HPP
      have hcond : ((i : Int) < (nl : Int) - 1 ∧ ¬ (i : Int) ≤ 6) ∨ ¬ (i : Int) < (nl : Int) - 1 := by omega
      clear hin hT
      rcases hcond with ⟨hi1, hi2⟩ | hi1
      all_goals
        go_wp2_with fail
        refine HPV.out.mono ?_
        rintro e w2 ⟨rfl, hb2⟩
        have HB2 := mkHid hb2
        clear hb2
        cases hp : progB ds with
        | false =>
          have HV : Hid (r = none) := by rw [Hid, HR2.out, if_neg (fun h => by rw [hp] at h; exact absurd h.1 Bool.false_ne_true)]
          go_wp2_with fail
          go_ret2
          exact PpRes.none HV.out (by simp [maxLen]) (HP.out.low.trans (HB2.out.mono HP.out.low.size))
        | true =>
          have HPC := mkHid (HPP.out w2 HB2.out hp)
          go_wp2_with fail
          refine HPC.out.mono ?_
          rintro e w3 ⟨rfl, hb3⟩
          have HB3 : Hid (Below wr.heap.size wr w3) := HB2.out.trans (hb3.mono HB2.out.size)
          clear hb3
          by_cases hTs : T = s
          · have HV : Hid (r = some ds) := by rw [Hid, HR2.out, if_pos ⟨hp, hTs⟩]
            subst hTs
            go_wp2_with fail
            go_ret2
            rw [HV.out]
            exact ⟨_, rfl, HDD.out.mono (fun k hk => hk.go (Nat.le_refl _) (HB3.out.block k hk.2.1)) (fun k hk => HB3.out.block k hk.2.1), HP.out.low.trans (HB3.out.mono HP.out.low.size)⟩
          · have HV : Hid (r = none) := by rw [Hid, HR2.out, if_neg (fun h => hTs h.2)]
            have m1 : ¬ T.toList = s.toList := fun h => hTs (by
              rw [ByteArray.toList_eq, ByteArray.toList_eq] at h
              cases T; cases s; congr; exact Array.toList_inj.1 h)
            have m2 : (T.toList == s.toList) = false := by simpa using m1
            go_wp2_with fail
            go_ret2
            exact PpRes.none HV.out (by simp [maxLen]) (HP.out.low.trans (HB3.out.mono HP.out.low.size))
end Go.Proofs.Ytglpehelmlehiaa
/-
  THE MODEL's READER OF DRAWS (l16Open, pick, num): it answers a number in its range, and changes the reader's own block alone.
-/
namespace Go.Proofs.Ytglpehelmlehiaa
set_option linter.unusedVariables false
set_option linter.unusedSimpArgs false
open Go.RowKit

/-- a slice value that holds bytes, in blocks out of S -/
def BytesOn (w : World) (S : Nat → Prop) (len : Nat) (v : Value) : Prop :=
  ∃ ad cap, v = .slice ad len cap ∧ len ≤ cap ∧ cap ≤ maxLen ∧ (len = 0 ∨ ∃ bl off, ad = some ⟨bl, off, none⟩ ∧ S bl ∧ ∀ i, i < len → ∃ z : Int, w.cell? ⟨bl, off + i, none⟩ = some (.int .u8 z) ∧ 0 ≤ z ∧ z ≤ 255)
theorem BytesOn.mono {w w' : World} {S S' : Nat → Prop} {len : Nat} {v : Value} (h : BytesOn w S len v) (hS : ∀ k, S k → S' k) (hw : ∀ k, S k → w'.heap[k]? = w.heap[k]?) : BytesOn w' S' len v := by
  obtain ⟨ad, cap, e, l1, l2, h5⟩ := h
  refine ⟨ad, cap, e, l1, l2, ?_⟩
  rcases h5 with h5 | ⟨bl, off, e, s, r⟩
  · exact Or.inl h5
  · refine Or.inr ⟨bl, off, e, hS _ s, fun i hi => ?_⟩
    obtain ⟨z, h1, h2⟩ := r i hi
    exact ⟨z, (World.cell?_of_block (w := w) (hw bl s)).trans h1, h2⟩

/-- all blocks but one are as they were -/
structure But (b : Nat) (w w' : World) : Prop where
  os : w'.os = w.os
  tape : w'.tape = w.tape
  output : w'.output = w.output
  size : w.heap.size ≤ w'.heap.size
  block : ∀ k, k < w.heap.size → k ≠ b → w'.heap[k]? = w.heap[k]?
theorem But.refl (b : Nat) (w : World) : But b w w := ⟨rfl, rfl, rfl, Nat.le_refl _, fun _ _ _ => rfl⟩
theorem But.trans {b : Nat} {a c d : World} (h : But b a c) (k : But b c d) : But b a d :=
  ⟨k.os.trans h.os, k.tape.trans h.tape, k.output.trans h.output, Nat.le_trans h.size k.size, fun i hi hb => (k.block i (Nat.lt_of_lt_of_le hi h.size) hb).trans (h.block i hi hb)⟩
theorem But.of_below {b : Nat} {w w' : World} (h : Below w.heap.size w w') : But b w w' := ⟨h.os, h.tape, h.output, h.size, fun k hk _ => h.block k hk⟩
theorem But.below {b B : Nat} {w w' : World} (h : But b w w') (hb : B ≤ b) (hB : B ≤ w.heap.size) : Below B w w' := ⟨h.os, h.tape, h.output, h.size, fun k hk => h.block k (by omega) (by omega)⟩
theorem But.setCell (b : Nat) (w : World) (o : Nat) (s : Option Nat) (u : Value) : But b w (w.setCell ⟨b, o, s⟩ u) :=
  ⟨rfl, rfl, rfl, by simp [World.setCell], fun k hk hb => Below.heap_setCell _ _ _ _ hb⟩
theorem But.setNew {b : Nat} {w w' : World} (h : But b w w') {a : Addr} (ha : w.heap.size ≤ a.block) (u : Value) : But b w (w'.setCell a u) :=
  ⟨h.os, h.tape, h.output, by rw [size_setCell]; exact h.size, fun k hk hb => (Below.heap_setCell _ _ _ _ (by omega)).trans (h.block k hk hb)⟩
theorem But.drew {b : Nat} {a w : World} (h : But b a w) : But b a w.drew := ⟨h.os, h.tape, h.output, h.size, h.block⟩
theorem But.cell {b : Nat} {w w' : World} (h : But b w w') {p : Addr} (hp : p.block < w.heap.size) (hb : p.block ≠ b) : w'.cell? p = w.cell? p := World.cell?_of_block (w := w) (h.block p.block hp hb)

/-- the reader in block b: its bytes, and how many draws it has made -/
def RdOn (w : World) (b : Nat) (p : Nat) : Prop :=
  ∃ len v, BytesOn w (fun k => k < b) len v ∧ len ≤ 2000 ∧ w.heap[b]? = some (.cells #[v, .int .i64 (p : Int)] 97)
theorem RdOn.lt {w : World} {b p : Nat} (h : RdOn w b p) : b < w.heap.size := by
  obtain ⟨_, _, _, _, h⟩ := h
  exact (Array.getElem?_eq_some_iff.1 h).1
/-- the reader stays while its block does -/
theorem RdOn.next {w w' : World} {b p : Nat} (h : RdOn w b p) (hb : Below w.heap.size w w') : RdOn w' b p := by
  have hlt := h.lt
  obtain ⟨len, v, h1, h2, h3⟩ := h
  exact ⟨len, v, h1.mono (fun k hk => hk) (fun k hk => hb.block k (Nat.lt_trans hk hlt)), h2, (hb.block b hlt).trans h3⟩
theorem RdOn.keep {w w' : World} {b p : Nat} (h : RdOn w b p) (hw : ∀ k, k ≤ b → w'.heap[k]? = w.heap[k]?) : RdOn w' b p := by
  obtain ⟨len, v, h1, h2, h3⟩ := h
  exact ⟨len, v, h1.mono (fun k hk => hk) (fun k hk => hw k (Nat.le_of_lt hk)), h2, (hw b (Nat.le_refl _)).trans h3⟩
theorem RdOn.setCell {w : World} {b p : Nat} (h : RdOn w b p) {a : Addr} (ha : b < a.block) (u : Value) : RdOn (w.setCell a u) b p :=
  h.keep fun k hk => Below.heap_setCell _ _ _ _ (by omega)

theorem RdOn.step {w : World} {b p : Nat} (h : RdOn w b p) : RdOn (w.setCell ⟨b, 1, none⟩ (.int .i64 ((p + 1 : Nat) : Int))) b (p + 1) := by
  have hlt := h.lt
  obtain ⟨len, v, h1, h2, h3⟩ := h
  refine ⟨len, v, h1.mono (fun k hk => hk) (fun k hk => Below.heap_setCell _ _ _ _ (Nat.ne_of_lt hk)), h2, ?_⟩
  simp [World.setCell, Array.getElem?_modify, h3]

/-- pick has answered -/
def Picked (n : Int) (w : World) (b p : Nat) (e : Ending) (w' : World) : Prop :=
  ∃ v : Int, e = .returned (.int .i64 v) ∧ 0 ≤ v ∧ (0 < n → v < n) ∧ (n ≤ 0 → v = 0) ∧ RdOn w' b (p + 1) ∧ But b w w'

theorem picked_of {n v : Int} {w : World} {b p : Nat} (h : RdOn w b p) (h0 : 0 ≤ v) (h1 : 0 < n → v < n) (h2 : n ≤ 0 → v = 0) (d : Nat) (os : Array Obj) :
    Picked n w b p (.returned (.int .i64 v)) (w.setCell ⟨b, 1, none⟩ (.int .i64 ((p : Int) + 1))) := by
  have := h.step
  rw [show ((p + 1 : Nat) : Int) = (p : Int) + 1 by omega] at this
  exact ⟨v, rfl, h0, h1, h2, this, But.setCell _ _ _ _ _⟩

theorem Picked.next {n : Int} {w w' w'' : World} {b p : Nat} {e : Ending} (h : Picked n w b p e w') (hb : Below w'.heap.size w' w'') : Picked n w b p e w'' := by
  obtain ⟨v, h1, h2, h3, h4, h5, h6⟩ := h
  exact ⟨v, h1, h2, h3, h4, h5.next hb, h6.trans (But.of_below hb)⟩

set_option maxHeartbeats 800000 in
theorem pick_none (n : Int) (w : World) (b p : Nat) (h : RdOn w b p) (hp : p ≤ 1099511627776) (hn : n < 1) :
    Calls Try.prog 50 #[.pointer (some ⟨b, 0, none⟩), .int .i64 n] w (Picked n w b p) := by
  have HP : Hid (Picked n w b p (.returned (.int .i64 0)) (w.setCell ⟨b, 1, none⟩ (.int .i64 ((p : Int) + 1)))) := picked_of h (by omega) (by omega) (by omega) 0 #[]
  obtain ⟨len, v, hb, hl, hh⟩ := h
  have c0 : w.cell? ⟨b, 0, none⟩ = some v := by simp [World.cell?, hh]
  have c1 : w.cell? ⟨b, 1, none⟩ = some (.int .i64 p) := by simp [World.cell?, hh]
  have f1 : w.frozen? ⟨b, 1, none⟩ = false := by simp [World.frozen?, hh]
  clear hh hb
  have d1 : decide (n < 1) = true := by simpa using hn
  go_enter Try.func50, Try.ntmps50
  go_wp2_with fail
  go_ret
  exact HP.out

set_option maxHeartbeats 800000 in
theorem pick_empty (n : Int) (w : World) (b p : Nat) (h : RdOn w b p) (hp : p ≤ 1099511627776) (hn : ¬ n < 1) (ad : Option Addr) (cap : Nat) (hv : w.heap[b]? = some (.cells #[.slice ad 0 cap, .int .i64 (p : Int)] 97)) :
    Calls Try.prog 50 #[.pointer (some ⟨b, 0, none⟩), .int .i64 n] w (Picked n w b p) := by
  have HP : Hid (Picked n w b p (.returned (.int .i64 0)) (w.setCell ⟨b, 1, none⟩ (.int .i64 ((p : Int) + 1)))) := picked_of h (by omega) (by omega) (by omega) 0 #[]
  have c0 : w.cell? ⟨b, 0, none⟩ = some (.slice ad 0 cap) := by simp [World.cell?, hv]
  have c1 : w.cell? ⟨b, 1, none⟩ = some (.int .i64 p) := by simp [World.cell?, hv]
  have f1 : w.frozen? ⟨b, 1, none⟩ = false := by simp [World.frozen?, hv]
  clear hv h
  have d1 : decide (n < 1) = false := by simpa using hn
  go_enter Try.func50, Try.ntmps50
  go_wp2_with fail
  go_ret
  exact HP.out

set_option maxHeartbeats 800000 in
theorem pick_byte (n : Int) (w : World) (b p : Nat) (h : RdOn w b p) (hp : p ≤ 1099511627776) (hn : ¬ n < 1) (hn1 : n ≤ 1099511627776) (bl off len cap : Nat) (hv : w.heap[b]? = some (.cells #[.slice (some ⟨bl, off, none⟩) len cap, .int .i64 (p : Int)] 97))
    (hlen : p < len) (hl : len ≤ 2000) (hbl : bl ≠ b) (z : Int) (hz : w.cell? ⟨bl, off + p, none⟩ = some (.int .u8 z)) (hz0 : 0 ≤ z) (hz1 : z ≤ 255) :
    Calls Try.prog 50 #[.pointer (some ⟨b, 0, none⟩), .int .i64 n] w (Picked n w b p) := by
  have HP : Hid (Picked n w b p (.returned (.int .i64 (z % n))) (w.setCell ⟨b, 1, none⟩ (.int .i64 ((p : Int) + 1)))) := picked_of h (Int.emod_nonneg _ (by omega)) (fun _ => Int.emod_lt_of_pos _ (by omega)) (by omega) 0 #[]
  have c0 : w.cell? ⟨b, 0, none⟩ = some (.slice (some ⟨bl, off, none⟩) len cap) := by simp [World.cell?, hv]
  have c1 : w.cell? ⟨b, 1, none⟩ = some (.int .i64 p) := by simp [World.cell?, hv]
  have f1 : w.frozen? ⟨b, 1, none⟩ = false := by simp [World.frozen?, hv]
  clear hv h
  have d1 : decide (n < 1) = false := by simpa using hn
  have l0 : ((len : Int) == 0) = false := by simp; omega
  go_enter Try.func50, Try.ntmps50
  go_wp2_with fail
  go_ret
  exact HP.out

theorem i64_xor_range (a b : Int) (ha : 0 ≤ a ∧ a < 4611686018427387904) (hb : 0 ≤ b ∧ b < 4611686018427387904) : 0 ≤ bits .xor .i64 a b ∧ bits .xor .i64 a b < 4611686018427387904 := by
  obtain ⟨A, rfl⟩ := Int.eq_ofNat_of_zero_le ha.1
  obtain ⟨B, rfl⟩ := Int.eq_ofNat_of_zero_le hb.1
  have hx : A ^^^ B < 2 ^ 62 := Nat.xor_lt_two_pow (by omega) (by omega)
  have h1 : (BitVec.ofInt 64 (A : Int)).toNat = A := by
    rw [BitVec.ofInt_natCast, BitVec.toNat_ofNat]; exact Nat.mod_eq_of_lt (by omega)
  have h2 : (BitVec.ofInt 64 (B : Int)).toNat = B := by
    rw [BitVec.ofInt_natCast, BitVec.toNat_ofNat]; exact Nat.mod_eq_of_lt (by omega)
  show 0 ≤ IntKind.i64.wrap ((BitVec.ofInt 64 (A : Int) ^^^ BitVec.ofInt 64 (B : Int)).toNat : Int) ∧ IntKind.i64.wrap ((BitVec.ofInt 64 (A : Int) ^^^ BitVec.ofInt 64 (B : Int)).toNat : Int) < _
  rw [BitVec.toNat_xor, h1, h2, IntKind.wrap_i64]
  omega

theorem cell_set_other {w : World} {b bl o : Nat} (h : bl ≠ b) (i : Nat) (u : Value) : (w.setCell ⟨b, o, none⟩ u).cell? ⟨bl, i, none⟩ = w.cell? ⟨bl, i, none⟩ :=
  World.cell?_of_block (w := w) (Below.heap_setCell _ _ _ _ h)
theorem cell_set_same {w : World} {b p : Nat} {v : Value} (hv : w.heap[b]? = some (.cells #[v, .int .i64 (p : Int)] 97)) (u : Value) :
    (w.setCell ⟨b, 1, none⟩ u).cell? ⟨b, 0, none⟩ = some v ∧ (w.setCell ⟨b, 1, none⟩ u).cell? ⟨b, 1, none⟩ = some u := by
  constructor <;> simp [World.cell?, World.setCell, Array.getElem?_modify, hv]

set_option maxRecDepth 100000 in
set_option maxHeartbeats 1600000 in
theorem pick_mix (n : Int) (w : World) (b p : Nat) (h : RdOn w b p) (hp : p ≤ 1099511627776) (hn : ¬ n < 1) (hn1 : n ≤ 1099511627776) (bl off len cap : Nat) (hv : w.heap[b]? = some (.cells #[.slice (some ⟨bl, off, none⟩) len cap, .int .i64 (p : Int)] 97))
    (hlen : 0 < len) (hle : len ≤ p) (hl : len ≤ 2000) (hbl : bl ≠ b) (z1 z2 : Int) (hz1 : w.cell? ⟨bl, off + p % len, none⟩ = some (.int .u8 z1)) (hz2 : w.cell? ⟨bl, off + (p * 7 + 3) % len, none⟩ = some (.int .u8 z2)) (hr1 : 0 ≤ z1 ∧ z1 ≤ 255) (hr2 : 0 ≤ z2 ∧ z2 ≤ 255) :
    Calls Try.prog 50 #[.pointer (some ⟨b, 0, none⟩), .int .i64 n] w (Picked n w b p) := by
  have HR : Hid (RdOn w b p) := h
  obtain ⟨r1, r2⟩ := hr1
  obtain ⟨r3, r4⟩ := hr2
  have c0 : w.cell? ⟨b, 0, none⟩ = some (.slice (some ⟨bl, off, none⟩) len cap) := by simp [World.cell?, hv]
  have c1 : w.cell? ⟨b, 1, none⟩ = some (.int .i64 p) := by simp [World.cell?, hv]
  have f1 : w.frozen? ⟨b, 1, none⟩ = false := by simp [World.frozen?, hv]
  have e0 := (cell_set_same hv (.int .i64 ((p : Int) + 1))).1
  have e1 := (cell_set_same hv (.int .i64 ((p : Int) + 1))).2
  have e2 := (cell_set_other (o := 1) hbl (off + p % len) (.int .i64 ((p : Int) + 1))).trans hz1
  have e3 := (cell_set_other (o := 1) hbl (off + (p * 7 + 3) % len) (.int .i64 ((p : Int) + 1))).trans hz2
  clear hv h
  have d1 : decide (n < 1) = false := by simpa using hn
  have l0 : ((len : Int) == 0) = false := by simp; omega
  go_enter Try.func50, Try.ntmps50
  go_wp2_with fail
  have k0 := cell_regrown e0
  have k1 := cell_regrown e1
  have k2 := cell_regrown e2
  have k3 := cell_regrown e3
  clear e0 e1 e2 e3 c0 c1 f1
  have q3 : 0 ≤ (p : Int) / (len : Int) := Int.ediv_nonneg (by omega) (by omega)
  have q3' : (p : Int) / (len : Int) ≤ 1099511627776 := by
    have : ((p / len : Nat) : Int) ≤ 1099511627776 := by have := Nat.div_le_self p len; omega
    simpa using this
  have q1 : 0 ≤ (p : Int) % (len : Int) := Int.emod_nonneg _ (by omega)
  have q1' : (p : Int) % (len : Int) < len := Int.emod_lt_of_pos _ (by omega)
  have q2 : 0 ≤ ((p : Int) * 7 + 3) % (len : Int) := Int.emod_nonneg _ (by omega)
  have q2' : ((p : Int) * 7 + 3) % (len : Int) < len := Int.emod_lt_of_pos _ (by omega)
  refine wp_region_quiet_below (by kernel_rfl) (by kernel_rfl) ?_
  repeat (any_goals (first | go_big_quiet_step (fail) | quiet_step (fail)))
  refine wpQuiet_nil ?_
  intro _ hw'
  obtain ⟨⟨dq, osq⟩, hw''⟩ := hw'
  subst hw''
  clear k0 k1 k2 k3
  have hX : 0 ≤ z1 * 131 + z2 * 1117 + (p : Int) * 29 + (p : Int) / (len : Int) * 53 ∧ z1 * 131 + z2 * 1117 + (p : Int) * 29 + (p : Int) / (len : Int) * 53 < 1125899906842624 := by omega
  generalize z1 * 131 + z2 * 1117 + (p : Int) * 29 + (p : Int) / (len : Int) * 53 = X at *
  obtain ⟨x0, x1⟩ := hX
  have hx := i64_xor_range X (X / 64) ⟨x0, by omega⟩ ⟨by omega, by omega⟩
  obtain ⟨y0, y1⟩ := hx
  go_wp2_with fail
  go_ret
  exact Picked.next (picked_of HR.out (Int.emod_nonneg _ (by omega)) (fun _ => Int.emod_lt_of_pos _ (by omega)) (by omega) 0 #[]) (below_regrown _ _ _)

/-- PICK, FOR EVERY READER -/
theorem pick_calls (n : Int) (w : World) (b p : Nat) (h : RdOn w b p) (hp : p ≤ 1099511627776) (hn1 : n ≤ 1099511627776) :
    Calls Try.prog 50 #[.pointer (some ⟨b, 0, none⟩), .int .i64 n] w (Picked n w b p) := by
  by_cases hn : n < 1
  · exact pick_none n w b p h hp hn
  have h' := h
  obtain ⟨len, v, ⟨ad, cap, rfl, hl, hm, hr⟩, h2, hh⟩ := h'
  rcases hr with rfl | ⟨bl, off, rfl, hs, hr⟩
  · exact pick_empty n w b p h hp hn ad cap hh
  by_cases h0 : len = 0
  · subst h0
    exact pick_empty n w b p h hp hn _ cap hh
  by_cases hpl : p < len
  · obtain ⟨z, hz, z0, z1⟩ := hr p hpl
    exact pick_byte n w b p h hp hn hn1 bl off len cap hh hpl h2 (Nat.ne_of_lt hs) z hz z0 z1
  · obtain ⟨z1, hz1, r1⟩ := hr (p % len) (Nat.mod_lt _ (by omega))
    obtain ⟨z2, hz2, r2⟩ := hr ((p * 7 + 3) % len) (Nat.mod_lt _ (by omega))
    exact pick_mix n w b p h hp hn hn1 bl off len cap hh (by omega) (by omega) h2 (Nat.ne_of_lt hs) z1 z2 hz1 hz2 r1 r2
end Go.Proofs.Ytglpehelmlehiaa
/-
  THE MODEL's READER OF DRAWS: num, l16Open.
-/
namespace Go.Proofs.Ytglpehelmlehiaa
set_option linter.unusedVariables false
set_option linter.unusedSimpArgs false
open Go.RowKit

/-- a slice value that holds these numbers, in a block other than b -/
def IntsBut (w : World) (b : Nat) (L : List Int) (v : Value) : Prop :=
  ∃ bl off cap, v = .slice (some ⟨bl, off, none⟩) L.length cap ∧ bl ≠ b ∧ bl < w.heap.size ∧ ∀ i (hi : i < L.length), w.cell? ⟨bl, off + i, none⟩ = some (.int .i64 L[i])

/-- num has answered -/
def Numbered (L : List Int) (w : World) (b p : Nat) (e : Ending) (w' : World) : Prop :=
  ∃ x : Int, e = .returned (.int .i64 x) ∧ x ∈ L ∧ RdOn w' b (p + 1) ∧ But b w w'

set_option maxHeartbeats 800000 in
theorem num_calls (L : List Int) (v : Value) (w : World) (b p : Nat) (h : RdOn w b p) (hp : p ≤ 1099511627776) (hv : IntsBut w b L v) (hL : 0 < L.length) (hL1 : L.length ≤ 1000) :
    Calls Try.prog 83 #[.pointer (some ⟨b, 0, none⟩), v] w (Numbered L w b p) := by
  obtain ⟨bl, off, cap, rfl, hb, hlt, hc⟩ := hv
  have HC : Hid (∀ i (hi : i < L.length), w.cell? ⟨bl, off + i, none⟩ = some (.int .i64 L[i])) := hc
  have HR : Hid (RdOn w b p) := h
  clear hc h
  go_enter Try.func83, Try.ntmps83
  go_wp2_with fail
  refine (pick_calls L.length _ b p HR.out hp (by omega)).mono ?_
  rintro e w1 ⟨x, rfl, h0, h1, -, hr1, hb1⟩
  have HR1 : Hid (RdOn w1 b (p + 1)) := hr1
  have HB1 : Hid (But b w w1) := hb1
  have hx : x < L.length := h1 (by omega)
  obtain ⟨k, rfl⟩ := Int.eq_ofNat_of_zero_le h0
  have hk : k < L.length := by omega
  have c1 : w1.cell? ⟨bl, off + k, none⟩ = some (.int .i64 L[k]) := (hb1.cell (p := ⟨bl, off + k, none⟩) hlt hb).trans (HC.out k hk)
  clear h1 hr1 hb1
  go_wp2_with fail
  go_ret
  exact ⟨L[k], rfl, List.getElem_mem hk, HR1.out, HB1.out⟩

/-- a new reader lies in block b -/
def Opened (w : World) (e : Ending) (w' : World) : Prop := e = .returned (.pointer (some ⟨w.heap.size, 0, none⟩)) ∧ RdOn w' w.heap.size 0 ∧ Below w.heap.size w w'

theorem opened_of (w : World) (len : Nat) (v : Value) (h : BytesOn w (Lt w.heap.size) len v) (hl : len ≤ 2000) : Opened w (.returned (.pointer (some ⟨w.heap.size, 0, none⟩))) (w.alloc (.cells #[v, .int .i64 0] 97)) := by
  refine ⟨rfl, ⟨len, v, h.mono (fun k hk => hk) (fun k hk => Deep.blk_alloc_lt _ _ _ hk), hl, ?_⟩, box_below _ _⟩
  exact Deep.blk_alloc_new _ _

set_option maxHeartbeats 800000 in
theorem open_calls (len : Nat) (v : Value) (w : World) (h : BytesOn w (Lt w.heap.size) len v) : Calls Try.prog 49 #[v] w (Opened w) := by
  by_cases hl : 2000 < len
  · have h' := h
    obtain ⟨ad, cap, rfl, h1, h2, h3⟩ := h
    unfold maxLen at h2
    rcases h3 with h3 | ⟨bl, off, rfl, hs, hr⟩
    · omega
    have HO : Hid (Opened w (.returned (.pointer (some ⟨w.heap.size, 0, none⟩))) (w.alloc (.cells #[.slice (some ⟨bl, off, none⟩) 2000 cap, .int .i64 0] 97))) :=
      opened_of w 2000 _ ⟨_, cap, rfl, by omega, by unfold maxLen; omega, Or.inr ⟨bl, off, rfl, hs, fun i hi => hr i (by omega)⟩⟩ (by omega)
    clear hr h'
    go_enter Try.func49, Try.ntmps49
    go_wp2_with fail
    go_ret
    exact HO.out
  · have HO : Hid (Opened w (.returned (.pointer (some ⟨w.heap.size, 0, none⟩))) (w.alloc (.cells #[v, .int .i64 0] 97))) := opened_of w len v h (by omega)
    obtain ⟨ad, cap, rfl, h1, h2, -⟩ := h
    go_enter Try.func49, Try.ntmps49
    go_wp2_with fail
    go_ret
    exact HO.out
end Go.Proofs.Ytglpehelmlehiaa
