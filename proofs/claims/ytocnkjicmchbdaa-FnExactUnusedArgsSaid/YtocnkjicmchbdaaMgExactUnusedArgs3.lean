/-
  A NODE OF THE PROGRAM: nodeOf's answer, the method fits that it leads to, and that one's answer.
-/
import Derived.Test.YtocnkjicmchbdaaMgExactUnusedArgs2
import Derived.Test.YtocnkjicmchbdaaMgExactUnusedArgs1
import Derived.Test.YtocnkjicmchbdaaProg
import Derived.Deep.QuietTactic
import Derived.BigQuiet
import Derived.WalkSmall
import Derived.Deep.RegionHeld3
import Derived.Deep.RegionWith
import Derived.Deep.DeepMust
namespace Go.Proofs.Ytocnkjicmchbdaa
set_option linter.unusedVariables false
set_option linter.unusedSimpArgs false
open Go.RowKit

/-- is a node right at its top? -/
def topC (op num : Int) (n : Nat) (vars defs : Int) : Bool := decide ((n : Int) = arity op) && ownB op num vars defs
def topB (t : Tr) (vars defs : Int) : Bool := topC t.op t.num t.kids.length vars defs

/-- what is known of the node at a tree's top: nodeOf's answer, the method that it leads to, and that one's answer -/
structure NodeAt (vars defs op num : Int) (n : Nat) (T : TypeId) (x : Value) (K : FuncId) (ok fit : Bool) : Prop where
  node : ∀ (w : World), Calls Try.prog 126 #[.int .i64 op, .int .i64 num, .int .i64 (n : Int)] w fun e w' => e = .returned (.tuple #[.iface T x, .bool ok]) ∧ Below w.heap.size w w'
  meth : ∀ w : World, (method 285 T x "loop.example/graphreducer/impl.fits").run Try.prog w = .ok (K, x) w
  enters : ∀ (args : Array Value) (w : World), (callFunc K args).run Try.prog w = .ok (.enter K args) w
  fits : ok = true → ∀ w : World, Calls Try.prog K #[x, .int .i64 vars, .int .i64 defs] w fun e w' => e = .returned (.bool fit) ∧ Below w.heap.size w w'
  top : (ok && fit) = topC op num n vars defs

set_option maxHeartbeats 400000 in
theorem fits_1 (n vars defs : Int) (w : World) : Calls Try.prog 149 #[.int .i64 n, .int .i64 vars, .int .i64 defs] w fun e w' => e = .returned (.bool (ownB 1 n vars defs)) ∧ Below w.heap.size w w' := by
  by_cases h0 : 0 ≤ n
  · go_enter Try.func149, Try.ntmps149
    go_wp2_with fail
    go_ret
    exact ⟨ret_bool (by simp [ownB, h0]), Below.refl _ _⟩
  · have h1 : decide (0 ≤ n) = false := by simpa using h0
    go_enter Try.func149, Try.ntmps149
    go_wp2_with fail
    go_ret
    exact ⟨ret_bool (by simp [ownB]; omega), Below.refl _ _⟩
theorem meth_1 (n : Int) (w : World) : (method 285 159 (.int .i64 n) "loop.example/graphreducer/impl.fits").run Try.prog w = .ok (149, .int .i64 n) w := by kernel_rfl
theorem enters_1 (args : Array Value) (w : World) : (callFunc 149 args).run Try.prog w = .ok (.enter 149 args) w := by kernel_rfl
theorem nodeAt_1 (vars defs op num : Int) (n : Nat) (h : op = 1) : NodeAt vars defs op num n 159 (.int .i64 num) 149 ((n : Int) == 0) (ownB op num vars defs) where
  node w := by rw [h]; exact nodeOf_1 num n w
  meth w := meth_1 _ w
  enters := enters_1
  fits _ w := by rw [h]; exact fits_1 _ _ _ w
  top := by unfold topC; rw [h, show arity 1 = 0 from rfl]; rfl

set_option maxHeartbeats 400000 in
theorem fits_2 (n vars defs : Int) (w : World) : Calls Try.prog 151 #[.int .i64 n, .int .i64 vars, .int .i64 defs] w fun e w' => e = .returned (.bool (ownB 2 n vars defs)) ∧ Below w.heap.size w w' := by
  by_cases h0 : 0 ≤ n
  · go_enter Try.func151, Try.ntmps151
    go_wp2_with fail
    go_ret
    exact ⟨ret_bool (by simp [ownB, h0]), Below.refl _ _⟩
  · have h1 : decide (0 ≤ n) = false := by simpa using h0
    go_enter Try.func151, Try.ntmps151
    go_wp2_with fail
    go_ret
    exact ⟨ret_bool (by simp [ownB]; omega), Below.refl _ _⟩
theorem meth_2 (n : Int) (w : World) : (method 285 160 (.int .i64 n) "loop.example/graphreducer/impl.fits").run Try.prog w = .ok (151, .int .i64 n) w := by kernel_rfl
theorem enters_2 (args : Array Value) (w : World) : (callFunc 151 args).run Try.prog w = .ok (.enter 151 args) w := by kernel_rfl
theorem nodeAt_2 (vars defs op num : Int) (n : Nat) (h : op = 2) : NodeAt vars defs op num n 160 (.int .i64 num) 151 ((n : Int) == 0) (ownB op num vars defs) where
  node w := by rw [h]; exact nodeOf_2 num n w
  meth w := meth_2 _ w
  enters := enters_2
  fits _ w := by rw [h]; exact fits_2 _ _ _ w
  top := by unfold topC; rw [h, show arity 2 = 0 from rfl]; rfl

set_option maxHeartbeats 400000 in
theorem fits_3 (n vars defs : Int) (w : World) : Calls Try.prog 153 #[.int .i64 n, .int .i64 vars, .int .i64 defs] w fun e w' => e = .returned (.bool (ownB 3 n vars defs)) ∧ Below w.heap.size w w' := by
  by_cases h0 : 0 ≤ n
  · go_enter Try.func153, Try.ntmps153
    go_wp2_with fail
    go_ret
    exact ⟨ret_bool (by simp [ownB, h0]), Below.refl _ _⟩
  · have h1 : decide (0 ≤ n) = false := by simpa using h0
    go_enter Try.func153, Try.ntmps153
    go_wp2_with fail
    go_ret
    exact ⟨ret_bool (by simp [ownB]; omega), Below.refl _ _⟩
theorem meth_3 (n : Int) (w : World) : (method 285 161 (.int .i64 n) "loop.example/graphreducer/impl.fits").run Try.prog w = .ok (153, .int .i64 n) w := by kernel_rfl
theorem enters_3 (args : Array Value) (w : World) : (callFunc 153 args).run Try.prog w = .ok (.enter 153 args) w := by kernel_rfl
theorem nodeAt_3 (vars defs op num : Int) (n : Nat) (h : op = 3) : NodeAt vars defs op num n 161 (.int .i64 num) 153 ((n : Int) == 0) (ownB op num vars defs) where
  node w := by rw [h]; exact nodeOf_3 num n w
  meth w := meth_3 _ w
  enters := enters_3
  fits _ w := by rw [h]; exact fits_3 _ _ _ w
  top := by unfold topC; rw [h, show arity 3 = 0 from rfl]; rfl

set_option maxHeartbeats 400000 in
theorem fits_o (k : Int) (m : ByteArray) (vars defs : Int) (w : World) : Calls Try.prog 155 #[.agg #[.int .i64 k, .string m], .int .i64 vars, .int .i64 defs] w fun e w' => e = .returned (.bool true) ∧ Below w.heap.size w w' := by
  go_enter Try.func155, Try.ntmps155
  go_wp2_with fail
  go_ret
  exact ⟨rfl, box_below _ _⟩
theorem meth_o (k : Int) (m : ByteArray) (w : World) : (method 285 163 (.agg #[.int .i64 k, .string m]) "loop.example/graphreducer/impl.fits").run Try.prog w = .ok (155, .agg #[.int .i64 k, .string m]) w := by kernel_rfl
theorem enters_o (args : Array Value) (w : World) : (callFunc 155 args).run Try.prog w = .ok (.enter 155 args) w := by kernel_rfl
theorem nodeAt_o (vars defs op num : Int) (n : Nat) (h1 : op ≠ 1) (h2 : op ≠ 2) (h3 : op ≠ 3) : NodeAt vars defs op num n 163 (.agg #[.int .i64 (opKids op), .string (opMarks op)]) 155 (opOk op && ((num == 0) && ((n : Int) == opKids op))) true where
  node w := nodeOf_op op num n w (by simpa using h1) (by simpa using h2) (by simpa using h3)
  meth w := meth_o _ _ w
  enters := enters_o
  fits _ w := fits_o _ _ _ _ w
  top := by
    unfold topC ownB
    rw [if_neg h1, if_neg h2, if_neg h3, Bool.and_true]
    by_cases hr : 4 ≤ op ∧ op ≤ 10
    · have e : opKids op = arity op := by
        have : op = 4 ∨ op = 5 ∨ op = 6 ∨ op = 7 ∨ op = 8 ∨ op = 9 ∨ op = 10 := by omega
        rcases this with h | h | h | h | h | h | h <;> rw [h] <;> rfl
      have e2 : opOk op = true := by unfold opOk; rw [decide_eq_true hr]
      rw [e, e2, Bool.true_and, Bool.and_comm]
      rfl
    · have e2 : opOk op = false := by unfold opOk; rw [decide_eq_false hr]
      have e3 : arity op = -1 := by
        unfold arity
        rw [if_neg (by omega), if_neg (by omega), if_neg (by omega), if_neg (by omega)]
      rw [e2, e3, Bool.false_and, decide_eq_false (by omega), Bool.false_and]
end Go.Proofs.Ytocnkjicmchbdaa
/-
  THE PROGRAM's nodesLeft AND ExprValid: which trees they take for valid; nothing that was there is changed.
-/
namespace Go.Proofs.Ytocnkjicmchbdaa
set_option linter.unusedVariables false
set_option linter.unusedSimpArgs false
open Go.RowKit

def NlSaid (vars defs : Int) (d : Nat) (t : Tr) : Prop := ∀ (c : Value) (nodes : Int) (w : World), In w t.kids c → 0 ≤ nodes → nodes ≤ 1000 →
  Calls Try.prog 123 #[.agg #[.int .i64 t.op, .int .i64 t.num, c], .int .i64 vars, .int .i64 defs, .int .i64 (d : Int), .int .i64 nodes] w fun e w' => e = .returned (.int .i64 (nlOut vars defs d t nodes)) ∧ Below w.heap.size w w'

theorem nlOut_bad (vars defs : Int) (d : Nat) (t : Tr) (nodes : Int) (h : topB t vars defs = false) : nlOut vars defs d t nodes = -1 := by
  unfold nlOut
  rw [if_neg]
  rintro ⟨h1, _⟩
  cases d with
  | zero => simp [shB] at h1
  | succ d =>
    simp only [shB, Bool.and_eq_true] at h1
    simp only [topB, topC] at h
    rw [h1.1.1, h1.1.2] at h
    simp at h
theorem nlOut_zero (vars defs : Int) (t : Tr) (nodes : Int) : nlOut vars defs 0 t nodes = -1 := by
  unfold nlOut; rw [if_neg]; rintro ⟨h1, _⟩; simp [shB] at h1
theorem nlOut_none (vars defs : Int) (d : Nat) (t : Tr) : nlOut vars defs d t 0 = -1 := by
  unfold nlOut; rw [if_neg]; rintro ⟨_, h⟩; omega

/-- what is left behind the first k operands -/
def nlAt (t : Tr) (nodes : Int) (k : Nat) : Int := nodes - 1 - szL (t.kids.take k)
theorem nlOut_kid (vars defs : Int) (d : Nat) (t : Tr) (nodes : Int) (k : Nat) (hk : k < t.kids.length) (h : 0 ≤ nlOut vars defs d t.kids[k] (nlAt t nodes k)) :
    nlOut vars defs d t.kids[k] (nlAt t nodes k) = nlAt t nodes (k + 1) ∧ shB vars defs d t.kids[k] = true := by
  have e := szL_take_succ t.kids k hk
  unfold nlOut at h ⊢
  split at h
  · rename_i h1
    rw [if_pos h1]
    unfold nlAt
    rw [e]
    exact ⟨by omega, h1.1⟩
  · omega
theorem nlOut_kid_bad (vars defs : Int) (d : Nat) (t : Tr) (nodes : Int) (k : Nat) (hk : k < t.kids.length) (h : nlOut vars defs d t.kids[k] (nlAt t nodes k) < 0) (h0 : 0 ≤ nlAt t nodes k) : nlOut vars defs (d + 1) t nodes = -1 := by
  have e := szL_take_succ t.kids k hk
  have e2 := szL_take_le t.kids (k + 1)
  unfold nlOut
  rw [if_neg]
  rintro ⟨h1, h2⟩
  simp only [shB, Bool.and_eq_true, List.all_eq_true] at h1
  have h3 := h1.2 _ (List.getElem_mem hk)
  unfold nlOut at h
  rw [if_pos] at h
  · rw [szT_eq t] at h2; unfold nlAt at *; omega
  · refine ⟨h3, ?_⟩
    rw [szT_eq t] at h2; unfold nlAt; omega
theorem nlOut_end (vars defs : Int) (d : Nat) (t : Tr) (nodes : Int) (ht : topB t vars defs = true) (ha : (t.kids.take t.kids.length).all (shB vars defs d) = true) (h0 : 0 ≤ nlAt t nodes t.kids.length) : nlOut vars defs (d + 1) t nodes = nlAt t nodes t.kids.length := by
  rw [List.take_length] at ha
  unfold nlAt at *
  rw [List.take_length] at *
  unfold nlOut
  rw [if_pos, szT_eq]
  · omega
  · refine ⟨?_, by rw [szT_eq]; omega⟩
    simp only [topB, topC, Bool.and_eq_true] at ht
    simp only [shB, ha, ht.1, ht.2, Bool.and_true]
theorem nlOut_range (vars defs : Int) (d : Nat) (t : Tr) (nodes : Int) (h : 0 ≤ nodes) : -1 ≤ nlOut vars defs d t nodes ∧ nlOut vars defs d t nodes ≤ nodes := by
  unfold nlOut; split <;> omega

set_option maxRecDepth 100000 in
set_option maxHeartbeats 800000 in
/-- the node is not right at its top, or nothing is left -/
theorem nl_leave (vars defs : Int) (d : Nat) (t : Tr) (T : TypeId) (x : Value) (K : FuncId) (ok fit : Bool) (hn : NodeAt vars defs t.op t.num t.kids.length T x K ok fit) (ad : Option Addr) (cap : Nat) (nodes : Int) (w : World)
    (h : topB t vars defs = false ∨ d = 0 ∨ nodes = 0) :
    Calls Try.prog 123 #[.agg #[.int .i64 t.op, .int .i64 t.num, .slice ad t.kids.length cap], .int .i64 vars, .int .i64 defs, .int .i64 (d : Int), .int .i64 nodes] w fun e w' => e = .returned (.int .i64 (nlOut vars defs d t nodes)) ∧ Below w.heap.size w w' := by
  have HV : Hid (nlOut vars defs d t nodes = -1) := by
    rcases h with h | rfl | rfl
    · exact nlOut_bad _ _ _ _ _ h
    · exact nlOut_zero _ _ _ _
    · exact nlOut_none _ _ _ _
  have HN : Hid (NodeAt vars defs t.op t.num t.kids.length T x K ok fit) := hn
  have hme := hn.meth
  have hen := hn.enters
  have htop : (ok && fit) = topB t vars defs := hn.top
  clear hn
  cases hok : ok with
  | false =>
    clear htop h
    subst hok
    clear hme hen
    go_enter Try.func123, Try.ntmps123
    go_wp2_with fail
    refine (HN.out.node _).mono ?_
    rintro e w1 ⟨rfl, hb⟩
    have HB : Hid (Below w.heap.size w w1) := (box_below _ _).trans (hb.mono (by rw [Deep.nblk_alloc]; omega))
    clear hb
    go_wp2_with fail
    go_ret
    exact ⟨ret_int HV.out.symm, HB.out⟩
  | true =>
    subst hok
    rw [Bool.true_and] at htop
    rw [← htop] at h
    clear htop
    cases hfit : fit with
    | false =>
      subst hfit
      clear h
      go_enter Try.func123, Try.ntmps123
      go_wp2_with fail
      refine (HN.out.node _).mono ?_
      rintro e w1 ⟨rfl, hb⟩
      have HB : Hid (Below w.heap.size w w1) := (box_below _ _).trans (hb.mono (by rw [Deep.nblk_alloc]; omega))
      clear hb
      go_wp2_with fail
      refine (HN.out.fits rfl _).mono ?_
      rintro e w2 ⟨rfl, hb⟩
      have HB2 : Hid (Below w.heap.size w w2) := HB.out.trans (hb.mono HB.out.size)
      clear hb
      go_wp2_with fail
      go_ret
      exact ⟨ret_int HV.out.symm, HB2.out⟩
    | true =>
      subst hfit
      by_cases hd : d = 0
      · subst hd
        clear h
        have hd' : (((0 : Nat) : Int) == 0) = true := rfl
        go_enter Try.func123, Try.ntmps123
        go_wp2_with fail
        refine (HN.out.node _).mono ?_
        rintro e w1 ⟨rfl, hb⟩
        have HB : Hid (Below w.heap.size w w1) := (box_below _ _).trans (hb.mono (by rw [Deep.nblk_alloc]; omega))
        clear hb
        go_wp2_with fail
        refine (HN.out.fits rfl _).mono ?_
        rintro e w2 ⟨rfl, hb⟩
        have HB2 : Hid (Below w.heap.size w w2) := HB.out.trans (hb.mono HB.out.size)
        clear hb
        go_wp2_with fail
        go_ret
        exact ⟨ret_int HV.out.symm, HB2.out⟩
      · have hn0 : nodes = 0 := by
          rcases h with h | h | h
          · simp at h
          · exact absurd h hd
          · exact h
        subst hn0
        clear h
        have hd' : ((d : Int) == 0) = false := by simpa using hd
        go_enter Try.func123, Try.ntmps123
        go_wp2_with fail
        refine (HN.out.node _).mono ?_
        rintro e w1 ⟨rfl, hb⟩
        have HB : Hid (Below w.heap.size w w1) := (box_below _ _).trans (hb.mono (by rw [Deep.nblk_alloc]; omega))
        clear hb
        go_wp2_with fail
        refine (HN.out.fits rfl _).mono ?_
        rintro e w2 ⟨rfl, hb⟩
        have HB2 : Hid (Below w.heap.size w w2) := HB.out.trans (hb.mono HB.out.size)
        clear hb
        go_wp2_with fail
        go_ret
        exact ⟨ret_int HV.out.symm, HB2.out⟩

set_option maxRecDepth 100000 in
set_option maxHeartbeats 800000 in
/-- the node is right at its top, and something is left: its operands -/
theorem nl_go (vars defs : Int) (d : Nat) (t : Tr) (T : TypeId) (x : Value) (K : FuncId) (ok fit : Bool) (hn : NodeAt vars defs t.op t.num t.kids.length T x K ok fit) (c : Value) (nodes : Int) (w : World)
    (ih : ∀ i (hi : i < t.kids.length), NlSaid vars defs d (t.kids[i])) (hk : In w t.kids c) (ht : topB t vars defs = true) (h0 : 0 < nodes) (h1 : nodes ≤ 1000) (hd : d ≤ 100) :
    Calls Try.prog 123 #[.agg #[.int .i64 t.op, .int .i64 t.num, c], .int .i64 vars, .int .i64 defs, .int .i64 ((d + 1 : Nat) : Int), .int .i64 nodes] w fun e w' => e = .returned (.int .i64 (nlOut vars defs (d + 1) t nodes)) ∧ Below w.heap.size w w' := by
  have HI : Hid (∀ i (hi : i < t.kids.length), NlSaid vars defs d (t.kids[i])) := ih
  have HK : Hid (In w t.kids c) := hk
  have HT : Hid (topB t vars defs = true) := ht
  have HN : Hid (NodeAt vars defs t.op t.num t.kids.length T x K ok fit) := hn
  have hme := hn.meth
  have hen := hn.enters
  have htop : (ok && fit) = topB t vars defs := hn.top
  rw [ht, Bool.and_eq_true] at htop
  obtain ⟨rfl, rfl⟩ := htop
  clear hn ih ht
  obtain ⟨ad, cap, rfl, hl, hm, -⟩ := hk
  unfold maxLen at hm
  have d1 : ((d : Int) + 1 == 0) = false := by simp; omega
  have n1 : (nodes == 0) = false := by simp; omega
  go_enter Try.func123, Try.ntmps123
  go_wp2_with fail
  refine (HN.out.node _).mono ?_
  rintro e w1 ⟨rfl, hb⟩
  have HB : Hid (Below w.heap.size w w1) := (box_below _ _).trans (hb.mono (by rw [Deep.nblk_alloc]; omega))
  have hz : w.heap.size < w1.heap.size := by have := hb.size; rw [Deep.nblk_alloc] at this; omega
  have c2 := (hb.cell (p := ⟨w.heap.size, 2, none⟩) (by rw [Deep.nblk_alloc]; exact Nat.lt_succ_self _)).trans (box_cell w #[.int .i64 t.op, .int .i64 t.num, .slice ad t.kids.length cap] 31 2 _ rfl)
  have C2 : Hid (w1.cell? ⟨w.heap.size, 2, none⟩ = some (.slice ad t.kids.length cap)) := c2
  clear hb c2
  go_wp2_with fail
  refine (HN.out.fits rfl _).mono ?_
  rintro e w2 ⟨rfl, hb⟩
  have HB2 : Hid (Below w.heap.size w w2) := HB.out.trans (hb.mono HB.out.size)
  have c2 := (hb.cell (p := ⟨w.heap.size, 2, none⟩) hz).trans C2.out
  clear hb hme hen
  go_wp2_with fail
  clear c2
  go_loopw [4, 48] (fun n i wr => ∃ k : Nat, k ≤ t.kids.length ∧ i = .int .i64 k ∧ n = .int .i64 (nlAt t nodes k) ∧ 0 ≤ nlAt t nodes k ∧ (t.kids.take k).all (shB vars defs d) = true ∧ Below w.heap.size w wr) (fun _ i _ => t.kids.length - (intOf i).toNat)
  case atStart => exact ⟨0, Nat.zero_le _, rfl, by simp [nlAt, szL], by simp [nlAt, szL]; omega, by simp, HB2.out⟩
  case round =>
    obtain ⟨k, hk, rfl, rfl, hpos, hall, hb⟩ := hrel
    have HA : Hid ((t.kids.take k).all (shB vars defs d) = true) := hall
    have HBW : Hid (Below w.heap.size w wr) := hb
    have hle : nlAt t nodes k ≤ nodes := by unfold nlAt; omega
    clear hall
    by_cases hlt : k < t.kids.length
    · have hrow' := HK.out.next hb
      clear hb
      obtain ⟨ad', cap', he, -, -, hr⟩ := hrow'
      cases he
      rcases hr with hnil | ⟨bl, off, rfl, -, hr⟩
      · rw [hnil] at hlt; simp at hlt
      obtain ⟨p, q, r, e0, e1, e2, ht⟩ := RowOn.at t.kids off k hlt hr
      obtain ⟨rfl, rfl, -, -, hkk⟩ := trOn_iff.1 ht
      obtain ⟨ad2, cap2, rfl, -, -, -⟩ := id hkk
      have HKK : Hid (In wr t.kids[k].kids (.slice ad2 t.kids[k].kids.length cap2)) := hkk
      clear hkk ht hr
      go_wp2_with fail
      refine (HI.out k hlt (.slice ad2 t.kids[k].kids.length cap2) _ _ ?_ hpos (by omega)).mono ?_
      · exact HKK.out.next (box_below _ _)
      rintro e w3 ⟨rfl, hb3⟩
      have HB3 : Hid (Below w.heap.size w w3) := HBW.out.trans (((box_below _ _).trans (hb3.mono (by rw [Deep.nblk_alloc]; omega))).mono HBW.out.size)
      clear hb3
      have hrg := nlOut_range vars defs d t.kids[k] (nlAt t nodes k) hpos
      by_cases hneg : nlOut vars defs d t.kids[k] (nlAt t nodes k) < 0
      · have HV : Hid (nlOut vars defs (d + 1) t nodes = -1) := nlOut_kid_bad vars defs d t nodes k hlt hneg hpos
        go_wp2_with fail
        go_ret
        exact ⟨ret_int HV.out.symm, HB3.out⟩
      · have hkid := nlOut_kid vars defs d t nodes k hlt (by omega)
        have HV : Hid (nlOut vars defs d t.kids[k] (nlAt t nodes k) = nlAt t nodes (k + 1)) := hkid.1
        have HA2 : Hid ((t.kids.take (k + 1)).all (shB vars defs d) = true) := by rw [Hid, all_take_succ _ _ _ hlt, HA.out, hkid.2]; rfl
        have hnn : 0 ≤ nlAt t nodes (k + 1) := by rw [← HV.out]; omega
        clear hkid
        go_wp2_with fail
        go_roundw
        case rel => exact ⟨k + 1, by omega, by go_num, by rw [HV.out], hnn, HA2.out, HB3.out⟩
        case measure => simp [intOf]; omega
    · have hke : t.kids.length = k := by omega
      have HV : Hid (nlOut vars defs (d + 1) t nodes = nlAt t nodes k) := by
        have h2 := HA.out
        rw [← hke] at hpos h2 ⊢
        exact nlOut_end vars defs d t nodes HT.out h2 hpos
      clear hke hb
      go_wp2_with fail
      go_ret
      exact ⟨ret_int HV.out.symm, HBW.out⟩
theorem nl_step (vars defs : Int) (d : Nat) (t : Tr) (hd : d ≤ 100) (ih : ∀ i (hi : i < t.kids.length), ∀ d', d' < d → NlSaid vars defs d' (t.kids[i])) : NlSaid vars defs d t := by
  intro c nodes w hk h0 h1
  have key : ∀ (T : TypeId) (x : Value) (K : FuncId) (ok fit : Bool), NodeAt vars defs t.op t.num t.kids.length T x K ok fit →
      Calls Try.prog 123 #[.agg #[.int .i64 t.op, .int .i64 t.num, c], .int .i64 vars, .int .i64 defs, .int .i64 (d : Int), .int .i64 nodes] w fun e w' => e = .returned (.int .i64 (nlOut vars defs d t nodes)) ∧ Below w.heap.size w w' := by
    intro T x K ok fit hn
    by_cases hl : topB t vars defs = false ∨ d = 0 ∨ nodes = 0
    · obtain ⟨ad, cap, rfl, -, -, -⟩ := hk
      exact nl_leave vars defs d t T x K ok fit hn ad cap nodes w hl
    · simp only [not_or, Bool.not_eq_false] at hl
      obtain ⟨e, rfl⟩ : ∃ e, d = e + 1 := ⟨d - 1, by omega⟩
      exact nl_go vars defs e t T x K ok fit hn c nodes w (fun i hi => ih i hi e (by omega)) hk hl.1 (by omega) h1 (by omega)
  by_cases e1 : t.op = 1
  · exact key _ _ _ _ _ (nodeAt_1 vars defs t.op t.num t.kids.length e1)
  by_cases e2 : t.op = 2
  · exact key _ _ _ _ _ (nodeAt_2 vars defs t.op t.num t.kids.length e2)
  by_cases e3 : t.op = 3
  · exact key _ _ _ _ _ (nodeAt_3 vars defs t.op t.num t.kids.length e3)
  exact key _ _ _ _ _ (nodeAt_o vars defs t.op t.num t.kids.length e1 e2 e3)

theorem nl_any (vars defs : Int) : ∀ (d : Nat) (t : Tr), d ≤ 100 → NlSaid vars defs d t := by
  intro d
  induction d using Nat.strongRecOn with
  | ind d ih => intro t h; exact nl_step vars defs d t h fun i hi d' hd' => ih d' hd' _ (by omega)

set_option maxHeartbeats 400000 in
/-- THE PROGRAM's ExprValid -/
theorem implValid_calls (t : Tr) (vars defs : Int) (c : Value) (w : World) (hk : In w t.kids c) : Calls Try.prog 100 #[.agg #[.int .i64 t.op, .int .i64 t.num, c], .int .i64 vars, .int .i64 defs] w fun e w' => e = .returned (.bool (validB t vars defs)) ∧ Below w.heap.size w w' := by
  have HK : Hid (In w t.kids c) := hk
  clear hk
  have HBX : Hid (Below w.heap.size w (w.alloc (.cells #[.int .i64 t.op, .int .i64 t.num, c] 31))) := box_below _ _
  by_cases hv0 : 0 ≤ vars
  · by_cases hv4 : vars ≤ 4
    · by_cases hd0 : 0 ≤ defs
      · by_cases hd6 : defs ≤ 6
        · have HV : Hid (validB t vars defs = decide (0 ≤ nlOut vars defs 16 t 60)) := by
            simp only [Hid, validB]
            rw [decide_eq_true (show 0 ≤ vars ∧ vars ≤ 4 ∧ 0 ≤ defs ∧ defs ≤ 6 from ⟨hv0, hv4, hd0, hd6⟩), Bool.true_and]
            unfold nlOut
            cases hs : shB vars defs 16 t with
            | false => simp
            | true =>
              simp only [true_and, Bool.true_and]
              rw [decide_eq_decide]
              split <;> omega
          have hrg := nlOut_range vars defs 16 t 60 (by omega)
          go_enter Try.func100, Try.ntmps100
          go_wp2_with fail
          refine (nl_any vars defs 16 t (by omega) c _ _ (HK.out.next HBX.out) (by omega) (by omega)).mono ?_
          rintro e w2 ⟨rfl, hb2⟩
          have HB2 : Hid (Below w.heap.size w w2) := HBX.out.trans (hb2.mono HBX.out.size)
          clear hb2
          go_wp2_with fail
          go_ret
          exact ⟨ret_bool HV.out.symm, HB2.out⟩
        · have HV : Hid (validB t vars defs = false) := by
            simp only [Hid, validB]
            rw [decide_eq_false (show ¬ (0 ≤ vars ∧ vars ≤ 4 ∧ 0 ≤ defs ∧ defs ≤ 6) by omega), Bool.false_and]
          go_enter Try.func100, Try.ntmps100
          go_wp2_with fail
          go_ret
          exact ⟨ret_bool HV.out.symm, HBX.out⟩
      · have HV : Hid (validB t vars defs = false) := by
          simp only [Hid, validB]
          rw [decide_eq_false (show ¬ (0 ≤ vars ∧ vars ≤ 4 ∧ 0 ≤ defs ∧ defs ≤ 6) by omega), Bool.false_and]
        go_enter Try.func100, Try.ntmps100
        go_wp2_with fail
        go_ret
        exact ⟨ret_bool HV.out.symm, HBX.out⟩
    · have HV : Hid (validB t vars defs = false) := by
        simp only [Hid, validB]
        rw [decide_eq_false (show ¬ (0 ≤ vars ∧ vars ≤ 4 ∧ 0 ≤ defs ∧ defs ≤ 6) by omega), Bool.false_and]
      go_enter Try.func100, Try.ntmps100
      go_wp2_with fail
      go_ret
      exact ⟨ret_bool HV.out.symm, HBX.out⟩
  · have HV : Hid (validB t vars defs = false) := by
      simp only [Hid, validB]
      rw [decide_eq_false (show ¬ (0 ≤ vars ∧ vars ≤ 4 ∧ 0 ≤ defs ∧ defs ≤ 6) by omega), Bool.false_and]
    go_enter Try.func100, Try.ntmps100
    go_wp2_with fail
    go_ret
    exact ⟨ret_bool HV.out.symm, HBX.out⟩
end Go.Proofs.Ytocnkjicmchbdaa
/-
  THE MODEL's AND THE PROGRAM's ProgramValid: which programs they take for valid; nothing that was there is changed.
-/
namespace Go.Proofs.Ytocnkjicmchbdaa
set_option linter.unusedVariables false
set_option linter.unusedSimpArgs false
open Go.RowKit

/-- a valid program -/
def progB (ds : List Df) : Bool := decide (ds.length ≤ 6) && ds.all fun d => validB d.2 d.1 ds.length

theorem progB_long (ds : List Df) (h : 6 < ds.length) : progB ds = false := by unfold progB; rw [decide_eq_false (by omega), Bool.false_and]
theorem progB_bad (ds : List Df) (k : Nat) (hk : k < ds.length) (h : validB ds[k].2 ds[k].1 ds.length = false) : progB ds = false := by
  unfold progB
  rw [Bool.and_eq_false_iff]
  right
  rw [List.all_eq_false]
  exact ⟨ds[k], List.getElem_mem hk, by simp [h]⟩
theorem progB_end (ds : List Df) (h : ds.length ≤ 6) (ha : (ds.take ds.length).all (fun d => validB d.2 d.1 ds.length) = true) : progB ds = true := by
  rw [List.take_length] at ha
  unfold progB
  rw [ha, decide_eq_true h]; rfl
theorem all_take_succ' {α : Type} (p : α → Bool) (l : List α) (i : Nat) (h : i < l.length) : (l.take (i + 1)).all p = ((l.take i).all p && p l[i]) := by
  rw [List.take_succ_eq_append_getElem h, List.all_append]; simp
theorem validB_is (t : Tr) (v d : Int) (h : 0 ≤ v ∧ v ≤ 4 ∧ 0 ≤ d ∧ d ≤ 6) : validB t v d = isB t v d := by
  simp only [validB, isB]
  rw [decide_eq_true h, Bool.true_and]
  congr 1
  rw [decide_eq_decide]
  omega
theorem validB_no (t : Tr) (v d : Int) (h : ¬ (0 ≤ v ∧ v ≤ 4 ∧ 0 ≤ d ∧ d ≤ 6)) : validB t v d = false := by
  simp only [validB]; rw [decide_eq_false h, Bool.false_and]

theorem is_val (b : Bool) (t : Tr) (vars defs : Int) (c : Value) (W : World) (hk : In W t.kids c) (h : isB t vars defs = b) : Calls Try.prog 98 #[.agg #[.int .i64 t.op, .int .i64 t.num, c], .int .i64 vars, .int .i64 defs] W fun e w' => e = .returned (.bool b) ∧ Below W.heap.size W w' := by
  have := l1Is_calls t vars defs c W hk; rwa [h] at this

theorem is_quiet (b : Bool) (t : Tr) (vars defs : Int) (c : Value) (wr : World) (hk : In wr t.kids c) (h : isB t vars defs = b) (dq : Nat) (osq : Array Obj) :
    Calls Try.prog 98 #[.agg #[.int .i64 t.op, .int .i64 t.num, c], .int .i64 vars, .int .i64 defs] (Sort.grow (redrawn wr dq) osq) fun e w'' => e = .returned (.bool b) ∧ ∃ p : Regrown, w'' = Sort.grow (redrawn wr p.d) p.os :=
  quietB (fun W hW => is_val b t vars defs c W (hk.next hW) h) dq osq

set_option maxRecDepth 100000 in
set_option maxHeartbeats 800000 in
theorem specProg_calls (ds : List Df) (c : Value) (w : World) (hk : DIn w ds c) : Calls Try.prog 60 #[c] w fun e w' => e = .returned (.bool (progB ds)) ∧ Below w.heap.size w w' := by
  have HK : Hid (DIn w ds c) := hk
  obtain ⟨ad, cap, rfl, hl, hm, -⟩ := hk
  unfold maxLen at hm
  go_enter Try.func60, Try.ntmps60
  go_wp2_with fail
  go_loopw [3] (fun i wr => ∃ k : Nat, k ≤ ds.length ∧ i = .int .i64 k ∧ (ds.take k).all (fun d => validB d.2 d.1 ds.length || decide (6 < ds.length)) = true ∧ Below w.heap.size w wr) (fun i _ => ds.length - (intOf i).toNat)
  case atStart => exact ⟨0, Nat.zero_le _, rfl, by simp, Below.refl _ _⟩
  case round =>
    obtain ⟨k, hk, rfl, hall, hb⟩ := hrel
    have HA : Hid ((ds.take k).all (fun d => validB d.2 d.1 ds.length || decide (6 < ds.length)) = true) := hall
    have HBW : Hid (Below w.heap.size w wr) := hb
    clear hall
    by_cases hlt : k < ds.length
    · by_cases h6 : (k : Int) ≤ 6
      · obtain ⟨bl, off, r, rfl, c0, c1, c2, c3, -, -, -, hkk⟩ := (HK.out.next hb).at k hlt
        have HKK : Hid (In wr ds[k].2.kids r) := hkk
        clear hkk hb
        have k0 := cell_regrown c0
        have k1 := cell_regrown c1
        have k2 := cell_regrown c2
        have k3 := cell_regrown c3
        by_cases ha0 : ds[k].1 < 0
        · have hd0 : decide (ds[k].1 < 0) = true := by simpa using ha0
          have HV : Hid (progB ds = false) := progB_bad ds k hlt (validB_no _ _ _ (by omega))
          go_wp2_with fail
          refine wp_region_quiet_below (by kernel_rfl) (by kernel_rfl) ?_
          repeat (any_goals (first | go_big_quiet_step (fail) | quiet_step (fail)))
          refine wpQuiet_nil ?_
          intro _ hw'
          obtain ⟨⟨dq, osq⟩, hw''⟩ := hw'
          subst hw''
          clear k0 k1 k2 k3
          go_wp2_with fail
          go_ret
          exact ⟨ret_bool HV.out.symm, HBW.out.trans ((below_regrown _ _ _).mono HBW.out.size)⟩
        · have hd0 : decide (ds[k].1 < 0) = false := by simpa using ha0
          by_cases ha4 : 4 < ds[k].1
          · have hd4 : decide (4 < ds[k].1) = true := by simpa using ha4
            have HV : Hid (progB ds = false) := progB_bad ds k hlt (validB_no _ _ _ (by omega))
            go_wp2_with fail
            refine wp_region_quiet_below (by kernel_rfl) (by kernel_rfl) ?_
            repeat (any_goals (first | go_big_quiet_step (fail) | quiet_step (fail)))
            refine wpQuiet_nil ?_
            intro _ hw'
            obtain ⟨⟨dq, osq⟩, hw''⟩ := hw'
            subst hw''
            clear k0 k1 k2 k3
            go_wp2_with fail
            go_ret
            exact ⟨ret_bool HV.out.symm, HBW.out.trans ((below_regrown _ _ _).mono HBW.out.size)⟩
          · have hd4 : decide (4 < ds[k].1) = false := by simpa using ha4
            cases hib : isB ds[k].2 ds[k].1 ds.length with
            | false =>
              have HC : Hid (∀ (dq : Nat) (osq : Array Obj), Calls Try.prog 98 #[.agg #[.int .i64 ds[k].2.op, .int .i64 ds[k].2.num, r], .int .i64 ds[k].1, .int .i64 (ds.length : Int)] (Sort.grow (redrawn wr dq) osq) fun e w'' => e = .returned (.bool false) ∧ ∃ p : Regrown, w'' = Sort.grow (redrawn wr p.d) p.os) :=
                fun dq osq => is_quiet false ds[k].2 ds[k].1 ds.length r wr HKK.out hib dq osq
              have HV : Hid (progB ds = false) := by
                by_cases hl6 : 6 < ds.length
                · exact progB_long ds hl6
                · exact progB_bad ds k hlt (by rw [validB_is _ _ _ (by omega)]; exact hib)
              go_wp2_with fail
              refine wp_region_quiet_below (by kernel_rfl) (by kernel_rfl) ?_
              repeat (any_goals (first | go_big_quiet_step ((go_at_call 98; go_must (exact HC.out _ _))) | quiet_step ((go_at_call 98; go_must (exact HC.out _ _)))))
              refine wpQuiet_nil ?_
              intro _ hw'
              obtain ⟨⟨dq, osq⟩, hw''⟩ := hw'
              subst hw''
              clear k0 k1 k2 k3
              go_wp2_with fail
              go_ret
              exact ⟨ret_bool HV.out.symm, HBW.out.trans ((below_regrown _ _ _).mono HBW.out.size)⟩
            | true =>
              have HC : Hid (∀ (dq : Nat) (osq : Array Obj), Calls Try.prog 98 #[.agg #[.int .i64 ds[k].2.op, .int .i64 ds[k].2.num, r], .int .i64 ds[k].1, .int .i64 (ds.length : Int)] (Sort.grow (redrawn wr dq) osq) fun e w'' => e = .returned (.bool true) ∧ ∃ p : Regrown, w'' = Sort.grow (redrawn wr p.d) p.os) :=
                fun dq osq => is_quiet true ds[k].2 ds[k].1 ds.length r wr HKK.out hib dq osq
              have HV : Hid ((ds.take (k + 1)).all (fun d => validB d.2 d.1 ds.length || decide (6 < ds.length)) = true) := by
                rw [Hid, all_take_succ' _ _ _ hlt, HA.out, Bool.true_and]
                by_cases hl6 : 6 < ds.length
                · simp [hl6]
                · rw [validB_is _ _ _ (by omega), hib, Bool.true_or]
              go_wp2_with fail
              refine wp_region_quiet_below (by kernel_rfl) (by kernel_rfl) ?_
              repeat (any_goals (first | go_big_quiet_step ((go_at_call 98; go_must (exact HC.out _ _))) | quiet_step ((go_at_call 98; go_must (exact HC.out _ _)))))
              refine wpQuiet_nil ?_
              intro _ hw'
              obtain ⟨⟨dq, osq⟩, hw''⟩ := hw'
              subst hw''
              clear k0 k1 k2 k3
              have HB2 : Hid (Below w.heap.size w (Sort.grow (redrawn wr dq) osq)) := HBW.out.trans ((below_regrown _ _ _).mono HBW.out.size)
              clear hib
              go_wp2_with fail
              go_roundw
              case rel => exact ⟨k + 1, by omega, by go_num, HV.out, HB2.out⟩
              case measure => simp [intOf]; omega
      · have HV : Hid (progB ds = decide (ds.length ≤ 6)) := by
          rw [Hid, progB_long ds (by omega), decide_eq_false (by omega)]
        have hd6 : decide ((k : Int) ≤ 6) = false := by simpa using h6
        clear hb
        go_wp2_with fail
        go_ret
        exact ⟨ret_bool (by rw [HV.out, decide_eq_decide]; omega), HBW.out⟩
    · have HV : Hid (progB ds = decide (ds.length ≤ 6)) := by
        have hke : ds.length = k := by omega
        by_cases hl6 : 6 < ds.length
        · rw [Hid, progB_long ds hl6, decide_eq_false (by omega)]
        · rw [Hid, progB_end ds (by omega) _, decide_eq_true (by omega)]
          have h2 := HA.out
          rw [← hke] at h2
          simpa [hl6] using h2
      clear hb
      go_wp2_with fail
      go_ret
      exact ⟨ret_bool (by rw [HV.out, decide_eq_decide]; omega), HBW.out⟩

set_option maxRecDepth 100000 in
set_option maxHeartbeats 1600000 in
theorem implProg_calls (ds : List Df) (c : Value) (w : World) (hk : DIn w ds c) : Calls Try.prog 63 #[c] w fun e w' => e = .returned (.bool (progB ds)) ∧ Below w.heap.size w w' := by
  have HK : Hid (DIn w ds c) := hk
  obtain ⟨ad, cap, rfl, hl, hm, -⟩ := hk
  unfold maxLen at hm
  by_cases h6 : 6 < ds.length
  · have HV : Hid (progB ds = false) := progB_long ds h6
    go_enter Try.func63, Try.ntmps63
    go_wp2_with fail
    go_ret
    exact ⟨ret_bool HV.out.symm, Below.refl _ _⟩
  have h6' : ¬ (6 < (ds.length : Int)) := by omega
  go_enter Try.func63, Try.ntmps63
  go_wp2_with fail
  go_loopw [10] (fun i wr => ∃ k : Nat, k ≤ ds.length ∧ i = .int .i64 k ∧ (ds.take k).all (fun d => validB d.2 d.1 ds.length) = true ∧ Below w.heap.size w wr) (fun i _ => ds.length - (intOf i).toNat)
  case atStart => exact ⟨0, Nat.zero_le _, rfl, by simp, Below.refl _ _⟩
  case round =>
    obtain ⟨k, hk, rfl, hall, hb⟩ := hrel
    have HA : Hid ((ds.take k).all (fun d => validB d.2 d.1 ds.length) = true) := hall
    have HBW : Hid (Below w.heap.size w wr) := hb
    clear hall
    by_cases hlt : k < ds.length
    · obtain ⟨bl, off, r, rfl, c0, c1, c2, c3, -, -, -, hkk⟩ := (HK.out.next hb).at k hlt
      obtain ⟨ad2, cap2, rfl, -, -, -⟩ := id hkk
      have HKK : Hid (In wr ds[k].2.kids (.slice ad2 ds[k].2.kids.length cap2)) := hkk
      clear hkk hb
      go_wp2_with fail
      refine (implValid_calls ds[k].2 _ _ (.slice ad2 ds[k].2.kids.length cap2) _ ?_).mono ?_
      · exact HKK.out.next (box_below _ _)
      rintro e w1 ⟨rfl, hb1⟩
      have HB1 : Hid (Below w.heap.size w w1) := HBW.out.trans (((box_below _ _).trans (hb1.mono (by rw [Deep.nblk_alloc]; omega))).mono HBW.out.size)
      clear hb1
      cases hib : validB ds[k].2 ds[k].1 ds.length with
      | false =>
        have HV : Hid (progB ds = false) := progB_bad ds k hlt hib
        clear hib
        go_wp2_with fail
        go_ret
        exact ⟨ret_bool HV.out.symm, HB1.out⟩
      | true =>
        have HV : Hid ((ds.take (k + 1)).all (fun d => validB d.2 d.1 ds.length) = true) := by
          rw [Hid, all_take_succ' _ _ _ hlt, HA.out, hib]; rfl
        clear hib
        go_wp2_with fail
        go_roundw
        case rel => exact ⟨k + 1, by omega, by go_num, HV.out, HB1.out⟩
        case measure => simp [intOf]; omega
    · have HV : Hid (progB ds = true) := by
        have hke : ds.length = k := by omega
        have h2 := HA.out
        rw [← hke] at h2
        exact progB_end ds (by omega) h2
      clear hb
      go_wp2_with fail
      go_ret
      exact ⟨ret_bool HV.out.symm, HBW.out⟩
end Go.Proofs.Ytocnkjicmchbdaa
/-
  THE PROGRAM's isValue: which closed expressions are values; nothing that was there is changed.
-/
namespace Go.Proofs.Ytocnkjicmchbdaa
set_option linter.unusedVariables false
set_option linter.unusedSimpArgs false
open Go.RowKit

/-- the arity of a function of a program -/
def arityAt (ds : List Df) (n : Int) : Int := ((ds.map (·.1))[n.toNat]?).getD 0
/-- is a closed expression a value? -/
def valueB (ds : List Df) (t : Tr) : Bool := decide (t.op = 2) || (decide (t.op = 5) || (decide ((unwT t []).1.op = 3) && decide (((unwT t []).2.length : Int) < arityAt ds (unwT t []).1.num)))
/-- closed for so many functions, down to some depth -/
def Closed (ds : List Df) (t : Tr) : Prop := ∃ d, shB 0 ds.length d t = true

theorem closed_of_valid {ds : List Df} {t : Tr} (h : validB t 0 ds.length = true) : Closed ds t := by
  unfold validB at h
  simp only [Bool.and_eq_true] at h
  exact ⟨16, h.2.1⟩
theorem Closed.kid {ds : List Df} {t : Tr} (h : Closed ds t) {k : Tr} (hk : k ∈ t.kids) : Closed ds k := by
  obtain ⟨d, h⟩ := h
  cases d with
  | zero => simp [shB] at h
  | succ d =>
    unfold shB at h
    simp only [Bool.and_eq_true, List.all_eq_true] at h
    exact ⟨d, h.2 k hk⟩
theorem Closed.fun {ds : List Df} {t : Tr} (h : Closed ds t) (ho : t.op = 3) : 0 ≤ t.num ∧ t.num < ds.length := by
  obtain ⟨d, h⟩ := h
  cases d with
  | zero => simp [shB] at h
  | succ d =>
    unfold shB at h
    simp only [Bool.and_eq_true] at h
    have h2 := h.1.2
    unfold ownB at h2
    rw [if_neg (by omega), if_neg (by omega), if_pos ho] at h2
    simpa using h2
theorem Unw.closed {w : World} {a t : Tr} {c ct : Value} {l : List Cd} (h : Unw w a c t ct l) {ds : List Df} (ha : Closed ds a) : Closed ds t := by
  induction h with
  | here => exact ha
  | down h ho hk _ _ _ _ _ ih => exact ih.kid (by rw [hk]; simp)
theorem Unw.value {w : World} {a t : Tr} {c ct : Value} {l : List Cd} (h : Unw w a c t ct l) (hs : ¬ (t.op = 4 ∧ t.kids.length = 2)) : unwT a [] = (t, (l.map (·.1)).reverse) := by
  rw [h.unw, unwT_stop hs]

theorem unwT_closed (ds : List Df) : ∀ (n : Nat) (t : Tr) (acc : List Tr), szT t ≤ n → Closed ds t → Closed ds (unwT t acc).1 := by
  intro n
  induction n with
  | zero =>
    intro t acc hz hc
    rw [unwT_stop]
    · exact hc
    · rintro ⟨-, hl⟩
      rw [szT_eq, szL_sum] at hz
      omega
  | succ n ih =>
    intro t acc hz hc
    by_cases h : t.op = 4 ∧ t.kids.length = 2
    · obtain ⟨f, x, hk⟩ : ∃ f x, t.kids = [f, x] := by
        match hks : t.kids, h.2 with
        | [f, x], _ => exact ⟨f, x, rfl⟩
      rw [unwT_app h.1 hk]
      refine ih f _ ?_ (hc.kid (by rw [hk]; simp))
      rw [szT_eq, hk] at hz
      simp only [szL] at hz
      omega
    · rw [unwT_stop h]; exact hc
theorem CdRow.form {w : World} {lo : Nat} {l : List Cd} {v : Value} (h : CdRow w lo l v) : ∃ ad cap, v = .slice ad l.length cap := by
  rcases h with ⟨rfl, rfl⟩ | ⟨g, cap, f, rfl, -⟩
  · exact ⟨_, _, rfl⟩
  · exact ⟨_, _, rfl⟩

/-- a valid program and a closed expression -/
def closedB (ds : List Df) (t : Tr) : Bool := progB ds && validB t 0 ds.length
/-- .. that is a value -/
def headB (ds : List Df) (t : Tr) : Bool := closedB ds t && valueB ds t

end Go.Proofs.Ytocnkjicmchbdaa
/-
  NEEDS THAT HOLD, AND THE GREATEST OF THEM, as plain lists: more needs make an expression need more; what is the greatest is one.
-/
namespace Go.Proofs.Ytocnkjicmchbdaa
set_option linter.unusedVariables false
set_option linter.unusedSimpArgs false
open Go.RowKit

/-- it has a row for each function, as long as its arity says -/
def FitN (ds : List Df) (need : List (List Bool)) : Prop := need.length = ds.length ∧ ∀ i (h : i < ds.length) (h' : i < need.length), (need[i].length : Int) = ds[i].1
/-- .. and the bodies need what it says -/
def HoldN (ds : List Df) (need : List (List Bool)) : Prop := FitN ds need ∧ ∀ i (h : i < ds.length) (h' : i < need.length) (v : Nat) (hv : v < need[i].length), need[i][v] = true → needB need (v : Int) ds[i].2 = true
/-- so long are its rows, and it says no more -/
def LeR (a b : List Bool) : Prop := a.length = b.length ∧ ∀ v (h : v < a.length) (h' : v < b.length), a[v] = true → b[v] = true
def LeN (a b : List (List Bool)) : Prop := a.length = b.length ∧ ∀ i (h : i < a.length) (h' : i < b.length), LeR a[i] b[i]
theorem LeR.refl (a : List Bool) : LeR a a := ⟨rfl, fun _ _ _ h => h⟩
theorem LeN.refl (a : List (List Bool)) : LeN a a := ⟨rfl, fun _ _ _ => LeR.refl _⟩
theorem LeR.cons {x y : Bool} {a b : List Bool} (h : x = true → y = true) (hl : LeR a b) : LeR (x :: a) (y :: b) := by
  refine ⟨by simp [hl.1], fun v h1 h2 => ?_⟩
  cases v with
  | zero => exact h
  | succ v => exact hl.2 v (by simpa using h1) (by simpa using h2)
theorem callB_mono {a b : List (List Bool)} (h : LeN a b) (n : Int) {x y : List Bool} (hx : LeR x y) (hc : callB a n x = true) : callB b n y = true := by
  unfold callB at hc ⊢
  simp only [Bool.and_eq_true] at hc ⊢
  refine ⟨hc.1, ?_⟩
  by_cases hl : n.toNat < a.length
  · have hl' : n.toNat < b.length := h.1 ▸ hl
    have hr := h.2 _ hl hl'
    rw [List.getElem?_eq_getElem hl] at hc
    rw [List.getElem?_eq_getElem hl']
    simp only [Bool.and_eq_true, decide_eq_true_eq] at hc ⊢
    obtain ⟨-, hc1, hc2⟩ := hc
    refine ⟨by rw [← hr.1, ← hx.1]; exact hc1, ?_⟩
    rw [List.any_eq_true] at hc2
    obtain ⟨p, hp, hpp⟩ := hc2
    obtain ⟨k, hk, rfl⟩ := List.getElem_of_mem hp
    simp only [List.length_zip] at hk
    simp only [List.getElem_zip, Bool.and_eq_true] at hpp
    have h1 := hr.2 k (by omega) (by have := hr.1; omega) hpp.1
    have h2 := hx.2 k (by omega) (by have := hx.1; omega) hpp.2
    exact anyTo_true _ _ k (by have := hr.1; omega) (by have := hx.1; omega) (by rw [← hr.1, ← hx.1]; exact hc1) h1 h2
  · rw [List.getElem?_eq_none (by omega)] at hc
    simp at hc
theorem needG_mono {a b : List (List Bool)} (h : LeN a b) (v : Int) : ∀ (n : Nat) (t : Tr) (x y : List Bool), szT t ≤ n → LeR x y → needG a v t x = true → needG b v t y = true := by
  intro n
  induction n using Nat.strongRecOn with
  | ind n ih =>
    intro t x y hz hx hg
    have hz' : szL t.kids ≤ n := by rw [← szT_eq]; exact hz
    have kid : ∀ k, k ∈ t.kids → ∀ x y, LeR x y → needG a v k x = true → needG b v k y = true := by
      intro k hk x y hxy hg
      obtain ⟨i, hi, rfl⟩ := List.getElem_of_mem hk
      have := szT_lt_szL t.kids i hi
      exact ih _ (by omega) _ x y (Nat.le_refl _) hxy hg
    have kidB : ∀ k, k ∈ t.kids → needB a v k = true → needB b v k = true := fun k hk hg => kid k hk [] [] (LeR.refl _) hg
    match hk : t.kids with
    | [] =>
      rw [needG_leaf hk] at hg ⊢
      split
      · rename_i h1; rw [if_pos h1] at hg; exact hg
      · rename_i h1
        rw [if_neg h1] at hg
        split
        · rename_i h3; rw [if_pos h3] at hg; exact callB_mono h _ hx hg
        · rename_i h3; rw [if_neg h3] at hg; exact hg
    | [p] =>
      rw [needG_one hk] at hg ⊢
      split
      · rename_i h1; rw [if_pos h1] at hg; exact kidB p (by rw [hk]; simp) hg
      · rename_i h1; rw [if_neg h1] at hg; exact hg
    | [p, q] =>
      rw [needG_two hk] at hg ⊢
      split
      · rename_i h1
        rw [if_pos h1] at hg
        exact kid p (by rw [hk]; simp) _ _ (LeR.cons (kidB q (by rw [hk]; simp)) hx) hg
      · rename_i h1
        rw [if_neg h1] at hg
        split
        · rename_i h2
          rw [if_pos h2] at hg
          simp only [Bool.or_eq_true] at hg ⊢
          exact hg.imp (kidB p (by rw [hk]; simp)) (kidB q (by rw [hk]; simp))
        · rename_i h2; rw [if_neg h2] at hg; exact hg
    | [p, q, r] =>
      rw [needG_three hk] at hg ⊢
      split
      · rename_i h1
        rw [if_pos h1] at hg
        simp only [Bool.or_eq_true, Bool.and_eq_true] at hg ⊢
        exact hg.imp (kidB p (by rw [hk]; simp)) fun h => ⟨kidB q (by rw [hk]; simp) h.1, kidB r (by rw [hk]; simp) h.2⟩
      · rename_i h1; rw [if_neg h1] at hg; exact hg
    | p :: q :: r :: s :: l => rw [needG_more hk] at hg; cases hg
theorem needB_mono {a b : List (List Bool)} (h : LeN a b) (v : Int) (t : Tr) (hg : needB a v t = true) : needB b v t = true := needG_mono h v _ t [] [] (Nat.le_refl _) (LeR.refl _) hg

/-- the greatest need that holds -/
def Great (ds : List Df) (g : List (List Bool)) : Prop := HoldN ds g ∧ ∀ h, HoldN ds h → LeN h g
theorem LeR.antisymm {a b : List Bool} (h : LeR a b) (k : LeR b a) : a = b := by
  refine List.ext_getElem h.1 fun i h1 h2 => ?_
  have e1 := h.2 i h1 h2
  have e2 := k.2 i h2 h1
  cases ha : a[i] <;> cases hb : b[i] <;> simp_all
theorem LeN.antisymm {a b : List (List Bool)} (h : LeN a b) (k : LeN b a) : a = b :=
  List.ext_getElem h.1 fun i h1 h2 => (h.2 i h1 h2).antisymm (k.2 i h2 h1)
theorem Great.uniq {ds : List Df} {a b : List (List Bool)} (h : Great ds a) (k : Great ds b) : a = b := (k.2 a h.1).antisymm (h.2 b k.1)

/-- how much is said -/
def trues (l : List Bool) : Nat := (l.filter id).length
def truesN (l : List (List Bool)) : Nat := (l.map trues).sum
theorem trues_set {l : List Bool} : ∀ {v : Nat} (h : v < l.length), l[v] = true → trues (l.set v false) + 1 = trues l := by
  induction l with
  | nil => intro v h; simp at h
  | cons x l ih =>
    intro v h hv
    cases v with
    | zero => simp only [List.getElem_cons_zero] at hv; subst hv; simp [trues]
    | succ v =>
      have := ih (v := v) (by simpa using h) (by simpa using hv)
      cases x <;> simp [trues] at this ⊢ <;> omega
theorem truesN_set {l : List (List Bool)} : ∀ {i : Nat} (h : i < l.length) (r : List Bool), truesN (l.set i r) + trues l[i] = truesN l + trues r := by
  induction l with
  | nil => intro i h; simp at h
  | cons x l ih =>
    intro i h r
    cases i with
    | zero => simp [truesN]; omega
    | succ i =>
      have := ih (i := i) (by simpa using h) r
      simp [truesN] at this ⊢
      omega
/-- what the bodies do not need is said no longer -/
def dropN (need : List (List Bool)) (i v : Nat) : List (List Bool) := need.set i (((need[i]?).getD []).set v false)
theorem dropN_trues {need : List (List Bool)} {i v : Nat} (h : i < need.length) (hv : v < need[i].length) (hb : need[i][v] = true) : truesN (dropN need i v) + 1 = truesN need := by
  unfold dropN
  rw [List.getElem?_eq_getElem h, Option.getD_some]
  have h1 := truesN_set h (need[i].set v false)
  have h2 := trues_set hv hb
  omega
theorem dropN_fit {ds : List Df} {need : List (List Bool)} {i v : Nat} (h : FitN ds need) : FitN ds (dropN need i v) := by
  by_cases hi : i < need.length
  · unfold dropN
    rw [List.getElem?_eq_getElem hi, Option.getD_some]
    refine ⟨by rw [List.length_set]; exact h.1, fun j hj hj' => ?_⟩
    rw [List.getElem_set]
    split
    · rename_i e; subst e; rw [List.length_set]; exact h.2 _ hj hi
    · exact h.2 j hj (by simpa using hj')
  · unfold dropN
    rw [List.set_eq_of_length_le (by omega)]
    exact h
/-- what is greater than every need that holds stays so -/
theorem dropN_great {ds : List Df} {need : List (List Bool)} {i v : Nat} (hf : FitN ds need) (h : ∀ k, HoldN ds k → LeN k need) (hi : i < need.length) (hi' : i < ds.length) (hn : needB need (v : Int) ds[i].2 = false) :
    ∀ k, HoldN ds k → LeN k (dropN need i v) := by
  intro k hk
  have hl := h k hk
  unfold dropN
  rw [List.getElem?_eq_getElem hi, Option.getD_some]
  refine ⟨by rw [List.length_set]; exact hl.1, fun j hj hj' => ?_⟩
  rw [List.getElem_set]
  split
  · rename_i e
    subst e
    have hr := hl.2 i hj hi
    refine ⟨by rw [List.length_set]; exact hr.1, fun u hu hu' => ?_⟩
    rw [List.getElem_set]
    split
    · rename_i e
      subst e
      intro ht
      have := hk.2 i hi' hj v hu ht
      have := needB_mono hl (v : Int) ds[i].2 this
      rw [hn] at this
      cases this
    · exact hr.2 u hu (by simpa using hu')
  · exact hl.2 j hj (by simpa using hj')

/-- everything is said -/
def topN (ds : List Df) : List (List Bool) := ds.map fun d => List.replicate d.1.toNat true
theorem topN_fit {ds : List Df} (h : ∀ d ∈ ds, 0 ≤ d.1) : FitN ds (topN ds) := by
  refine ⟨by simp [topN], fun i h1 h2 => ?_⟩
  have := h _ (List.getElem_mem h1)
  simp only [topN, List.getElem_map, List.length_replicate]
  omega
theorem topN_great {ds : List Df} (h : ∀ d ∈ ds, 0 ≤ d.1) : ∀ k, HoldN ds k → LeN k (topN ds) := by
  intro k hk
  have hf := topN_fit h
  refine ⟨hk.1.1.trans hf.1.symm, fun i h1 h2 => ⟨?_, fun v h3 h4 _ => ?_⟩⟩
  · have e1 := hk.1.2 i (by rw [← hk.1.1]; exact h1) h1
    have e2 := hf.2 i (by rw [← hk.1.1]; exact h1) h2
    omega
  · simp [topN]
/-- what is great and holds is the greatest -/
theorem great_of {ds : List Df} {need : List (List Bool)} (h : HoldN ds need) (hg : ∀ k, HoldN ds k → LeN k need) : Great ds need := ⟨h, hg⟩
theorem exists_great {ds : List Df} (h : ∀ d ∈ ds, 0 ≤ d.1) : ∃ g, Great ds g := by
  have key : ∀ (n : Nat) (need : List (List Bool)), truesN need ≤ n → FitN ds need → (∀ k, HoldN ds k → LeN k need) → ∃ g, Great ds g := by
    intro n
    induction n with
    | zero =>
      intro need hz hf hg
      by_cases hh : HoldN ds need
      · exact ⟨need, hh, hg⟩
      exfalso
      refine hh ⟨hf, fun i h1 h2 v hv hb => ?_⟩
      have := dropN_trues h2 hv hb
      omega
    | succ n ih =>
      intro need hz hf hg
      by_cases hh : HoldN ds need
      · exact ⟨need, hh, hg⟩
      have : ∃ i, ∃ (h1 : i < ds.length) (h2 : i < need.length), ∃ v, ∃ (hv : v < need[i].length), need[i][v] = true ∧ needB need (v : Int) ds[i].2 = false := by
        apply Classical.byContradiction
        intro hno
        refine hh ⟨hf, fun i h1 h2 v hv hb => ?_⟩
        cases hc : needB need (v : Int) ds[i].2 with
        | true => rfl
        | false => exact absurd ⟨i, h1, h2, v, hv, hb, hc⟩ hno
      obtain ⟨i, h1, h2, v, hv, hb, hc⟩ := this
      have e := dropN_trues h2 hv hb
      exact ih (dropN need i v) (by omega) (dropN_fit hf) (dropN_great hf hg h2 h1 hc)
  exact key _ _ (Nat.le_refl _) (topN_fit h) (topN_great h)
open Classical in
/-- the answer of StrictArgs -/
noncomputable def strictA (ds : List Df) : List (List Bool) := if h : progB ds = true ∧ ∃ g, Great ds g then Classical.choose h.2 else []
theorem progB_ar {ds : List Df} (h : progB ds = true) : ∀ d ∈ ds, 0 ≤ d.1 ∧ d.1 ≤ 4 := by
  intro d hd
  unfold progB at h
  simp only [Bool.and_eq_true, decide_eq_true_eq, List.all_eq_true] at h
  have := h.2 d hd
  unfold validB at this
  simp only [Bool.and_eq_true, decide_eq_true_eq] at this
  omega
theorem strictA_no {ds : List Df} (h : progB ds = false) : strictA ds = [] := by unfold strictA; rw [dif_neg]; rw [h]; simp
theorem strictA_great {ds : List Df} (h : progB ds = true) : Great ds (strictA ds) := by
  have he := exists_great fun d hd => (progB_ar h d hd).1
  unfold strictA
  rw [dif_pos ⟨h, he⟩]
  exact Classical.choose_spec he
theorem strictA_of {ds : List Df} {g : List (List Bool)} (h : progB ds = true) (hg : Great ds g) : strictA ds = g := (strictA_great h).uniq hg
theorem progB_body {ds : List Df} (h : progB ds = true) (i : Nat) (hi : i < ds.length) : ShE ds[i].2 := by
  unfold progB at h
  simp only [Bool.and_eq_true, decide_eq_true_eq, List.all_eq_true] at h
  exact ShE.of_valid (h.2 _ (List.getElem_mem hi))
theorem progB_len {ds : List Df} (h : progB ds = true) : ds.length ≤ 6 := by
  unfold progB at h
  simp only [Bool.and_eq_true, decide_eq_true_eq] at h
  exact h.1
open Classical in
/-- the answer of NeedHolds -/
noncomputable def holdsO (ds : List Df) (need : List (List Bool)) : Bool := progB ds && decide (HoldN ds need)
end Go.Proofs.Ytocnkjicmchbdaa
/-
  make, OF SO MANY INTS: a new row of zeros.
-/
namespace Go.Proofs.Ytocnkjicmchbdaa
set_option linter.unusedVariables false
set_option linter.unusedSimpArgs false
open Go.RowKit

theorem infoI : (Try.prog.info? 3).map (fun i => (i.zero, i.size, i.bytes)) = some (some (.int .i64 0), 1, 8) := by kernel_rfl
/-- make, of so many ints: a new row of zeros -/
theorem make_ints (n : Nat) (h : n ≤ 1048576) : ∀ w : World, (Instr.makeSlice 49 (.int .i64 (n : Int)) (.int .i64 (n : Int))).run Try.prog w = .ok (.slice (some ⟨w.heap.size, 0, none⟩) n n) (w.alloc (.cells (madeCells #[.int .i64 0] n) 3)) := by
  obtain ⟨i, hi, hzz⟩ := Option.map_eq_some_iff.1 infoI
  simp only [Prod.mk.injEq] at hzz
  obtain ⟨hz, hs, hb⟩ := hzz
  intro w
  have hr := run_make (P := Try.prog) w 49 3 i _ Try.underlying49 hi hz .i64 .i64 n n (by omega) (Int.le_refl _) (by rw [hb]; omega) (by omega)
  simp only [Int.toNat_natCast, hs, Nat.mul_one] at hr
  exact hr
theorem zero_row (w : World) (n : Nat) : (w.alloc (.cells (madeCells #[.int .i64 0] n) 3)).rowIs w.heap.size 3 n (fun i => .int .i64 (((fun _ => 0 : Nat → Nat) i : Nat) : Int)) := by
  have hl : (madeCells #[.int .i64 0] n).toList = List.replicate n (.int .i64 0) := toList_madeCells_one _ _
  have hsz : (madeCells #[.int .i64 0] n).size = n := by rw [← Array.length_toList, hl, List.length_replicate]
  refine ⟨_, Deep.blk_alloc_new _ _, hsz, fun i hi => ?_⟩
  rw [← Array.getElem?_toList, hl, List.getElem?_replicate, if_pos hi]
  rfl
end Go.Proofs.Ytocnkjicmchbdaa
/-
  SLICES OF TRUTH VALUES IN MEMORY; the laws' own count, copy and comparison of them (szBoolS, toBoolS, eqBoolS).
-/
namespace Go.Proofs.Ytocnkjicmchbdaa
set_option linter.unusedVariables false
set_option linter.unusedSimpArgs false
open Go.RowKit

/-- a slice value that holds these truth values, its block out of S -/
def BoolsOn (w : World) (S : Nat → Prop) (xs : List Bool) (v : Value) : Prop :=
  ∃ ad cap, v = .slice ad xs.length cap ∧ xs.length ≤ cap ∧ cap ≤ maxLen ∧ (xs = [] ∨ ∃ bl off, ad = some ⟨bl, off, none⟩ ∧ S bl ∧ ∀ i (h : i < xs.length), w.cell? ⟨bl, off + i, none⟩ = some (.bool xs[i]))
/-- .. in a row of its own, from block lo on -/
def BoolRow (w : World) (lo : Nat) (xs : List Bool) (v : Value) : Prop :=
  ∃ ad cap, v = .slice ad xs.length cap ∧ xs.length ≤ cap ∧ cap ≤ maxLen ∧ (xs = [] ∨ ∃ g f, ad = some ⟨g, 0, none⟩ ∧ lo ≤ g ∧ w.rowIs g 4 cap f ∧ ∀ i (h : i < xs.length), f i = .bool xs[i])
theorem BoolRow.on {w : World} {lo : Nat} {xs : List Bool} {v : Value} (h : BoolRow w lo xs v) : BoolsOn w (fun k => lo ≤ k ∧ k < w.heap.size) xs v := by
  obtain ⟨ad, cap, e, l1, l2, h⟩ := h
  refine ⟨ad, cap, e, l1, l2, h.imp id ?_⟩
  rintro ⟨g, f, rfl, hg, hr, hf⟩
  refine ⟨g, 0, rfl, ⟨hg, hr.lt⟩, fun i hi => ?_⟩
  rw [Nat.zero_add, hr.cell (by omega), hf i hi]
theorem BoolsOn.mono {w w' : World} {S S' : Nat → Prop} {xs : List Bool} {v : Value} (h : BoolsOn w S xs v) (hS : ∀ k, S k → S' k) (hw : ∀ k, S k → w'.heap[k]? = w.heap[k]?) : BoolsOn w' S' xs v := by
  obtain ⟨ad, cap, e, l1, l2, h⟩ := h
  refine ⟨ad, cap, e, l1, l2, h.imp id ?_⟩
  rintro ⟨bl, off, rfl, hb, hc⟩
  exact ⟨bl, off, rfl, hS _ hb, fun i hi => (World.cell?_of_block (a := ⟨bl, off + i, none⟩) (hw _ hb)).trans (hc i hi)⟩
theorem BoolRow.keep {w w' : World} {lo lo' : Nat} {xs : List Bool} {v : Value} (h : BoolRow w lo xs v) (hl : lo' ≤ lo) (hw : ∀ k, lo ≤ k → k < w.heap.size → w'.heap[k]? = w.heap[k]?) : BoolRow w' lo' xs v := by
  obtain ⟨ad, cap, e, l1, l2, h⟩ := h
  refine ⟨ad, cap, e, l1, l2, h.imp id ?_⟩
  rintro ⟨g, f, rfl, hg, hr, hf⟩
  exact ⟨g, f, rfl, by omega, hr.of_block (hw g hg hr.lt), hf⟩
theorem BoolRow.next {w w' : World} {lo : Nat} {xs : List Bool} {v : Value} (h : BoolRow w lo xs v) (hb : Below w.heap.size w w') : BoolRow w' lo xs v := h.keep (Nat.le_refl _) fun k _ hk => hb.block k hk
/-- truth values that lie in a world, wherever -/
abbrev BIn (w : World) (xs : List Bool) (v : Value) : Prop := BoolsOn w (Lt w.heap.size) xs v
theorem BoolRow.inn {w : World} {lo : Nat} {xs : List Bool} {v : Value} (h : BoolRow w lo xs v) : BIn w xs v := h.on.mono (fun k hk => hk.2) fun _ _ => rfl
theorem BoolsOn.next {w w' : World} {xs : List Bool} {v : Value} (h : BIn w xs v) (hb : Below w.heap.size w w') : BIn w' xs v :=
  h.mono (fun k (hk : k < _) => Nat.lt_of_lt_of_le hk hb.size) fun k hk => hb.block k hk
theorem BoolsOn.drew {w : World} {xs : List Bool} {v : Value} (h : BIn w xs v) : BIn w.drew xs v := h.next ((Below.refl _ _).drew)
/-- value i, opened -/
theorem BoolsOn.at {w : World} {xs : List Bool} {ad : Option Addr} {n cap : Nat} (h : BIn w xs (.slice ad n cap)) (i : Nat) (hi : i < xs.length) :
    ∃ bl off, ad = some ⟨bl, off, none⟩ ∧ bl < w.heap.size ∧ w.cell? ⟨bl, off + i, none⟩ = some (.bool xs[i]) := by
  obtain ⟨ad', cap', he, -, -, hr⟩ := h
  cases he
  rcases hr with rfl | ⟨bl, off, rfl, hb, r⟩
  · simp at hi
  exact ⟨bl, off, rfl, hb, r i hi⟩
theorem BoolRow.none (w : World) (lo : Nat) : BoolRow w lo [] (.slice none 0 0) := ⟨_, _, rfl, Nat.le_refl _, by simp [maxLen], Or.inl rfl⟩
theorem BoolRow.down {w : World} {lo lo' : Nat} {xs : List Bool} {v : Value} (h : BoolRow w lo xs v) (hl : lo' ≤ lo) : BoolRow w lo' xs v := h.keep hl fun _ _ _ => rfl
theorem BoolRow.setCell {w : World} {lo : Nat} {xs : List Bool} {v : Value} (h : BoolRow w lo xs v) {a : Addr} (ha : a.block < lo) (u : Value) : BoolRow (w.setCell a u) lo xs v :=
  h.keep (Nat.le_refl _) fun k hk _ => Below.heap_setCell _ _ _ _ (fun e => by omega)
/-- the answer: the truth values in a row of their own -/
def NewBools (xs : List Bool) (w : World) (e : Ending) (w' : World) : Prop := ∃ v, e = .returned v ∧ BoolRow w' w.heap.size xs v ∧ Below w.heap.size w w'

/-! ### The comparison -/
set_option maxHeartbeats 400000 in
theorem eqBools_calls (xs : List Bool) (c d : Value) (w : World) (hc : BIn w xs c) (hd : BIn w xs d) :
    Calls Try.prog 58 #[c, d] w fun e w' => e = .returned (.bool true) ∧ Below w.heap.size w w' := by
  have HC : Hid (BIn w xs c) := hc
  have HD : Hid (BIn w xs d) := hd
  obtain ⟨ad, cap, rfl, hl, hm, -⟩ := hc
  obtain ⟨ad', cap', rfl, hl', hm', -⟩ := hd
  unfold maxLen at hm hm'
  have t1 : ((xs.length : Int) != xs.length) = false := by simp
  go_enter Try.func58, Try.ntmps58
  go_wp2_with fail
  go_loopw [5] (fun i wr => ∃ k : Nat, k ≤ xs.length ∧ i = .int .i64 k ∧ ∃ n, wr = w.drewN n) (fun i _ => xs.length - (intOf i).toNat)
  case atStart => exact ⟨0, Nat.zero_le _, rfl, 0, rfl⟩
  case round =>
    obtain ⟨k, hk, rfl, n, rfl⟩ := hrel
    by_cases hlt : k < xs.length
    · obtain ⟨bl, off, rfl, -, c0⟩ := HC.out.at k hlt
      obtain ⟨bl', off', rfl, -, d0⟩ := HD.out.at k hlt
      obtain ⟨b, hb⟩ : ∃ b : Bool, xs[k] = b := ⟨_, rfl⟩
      rw [hb] at c0 d0
      have t2 : (b != b) = false := by simp
      clear hb
      go_wp2_with fail
      go_quiet (fail)
      go_wp2_with fail
      go_roundw
      case rel => exact ⟨k + 1, by omega, by go_num, _, rfl⟩
      case measure => simp [intOf]; omega
    · go_wp2_with fail
      go_ret
      exact ⟨rfl, below_drewN (Below.refl _ _) _⟩

/-! ### The copy -/
theorem infoBx : (Try.prog.info? 4).map (fun i => (i.zero, i.size, i.bytes)) = some (some (.bool false), 1, 1) := by kernel_rfl
/-- make, of so many truth values: a new row of false -/
theorem make_boolx (n : Nat) (h : n ≤ 1048576) : ∀ w : World, (Instr.makeSlice 74 (.int .i64 (n : Int)) (.int .i64 (n : Int))).run Try.prog w = .ok (.slice (some ⟨w.heap.size, 0, none⟩) n n) (w.alloc (.cells (madeCells #[.bool false] n) 4)) := by
  obtain ⟨i, hi, hzz⟩ := Option.map_eq_some_iff.1 infoBx
  simp only [Prod.mk.injEq] at hzz
  obtain ⟨hz, hs, hb⟩ := hzz
  intro w
  have hr := run_make (P := Try.prog) w 74 4 i _ Try.underlying74 hi hz .i64 .i64 n n (by omega) (Int.le_refl _) (by rw [hb]; omega) (by omega)
  simp only [Int.toNat_natCast, hs, Nat.mul_one] at hr
  exact hr
theorem false_row (w : World) (n : Nat) : (w.alloc (.cells (madeCells #[.bool false] n) 4)).rowIs w.heap.size 4 n (fun i => .bool (((fun _ => false : Nat → Bool)) i)) := by
  have hl : (madeCells #[.bool false] n).toList = List.replicate n (.bool false) := toList_madeCells_one _ _
  have hsz : (madeCells #[.bool false] n).size = n := by rw [← Array.length_toList, hl, List.length_replicate]
  refine ⟨_, Deep.blk_alloc_new _ _, hsz, fun i hi => ?_⟩
  rw [← Array.getElem?_toList, hl, List.getElem?_replicate, if_pos hi]
/-- what holds of the copy behind k rounds -/
def ToBRel (xs : List Bool) (w : World) (k : Nat) (wr : World) : Prop :=
  ∃ f : Nat → Value, wr.rowIs w.heap.size 4 xs.length f ∧ (∀ j (_ : j < k) (hj : j < xs.length), f j = .bool xs[j]) ∧ Below w.heap.size w wr
theorem toBRel_start (xs : List Bool) (w : World) : ToBRel xs w 0 (w.alloc (.cells (madeCells #[.bool false] xs.length) 4)) :=
  ⟨_, false_row w xs.length, fun j hj => absurd hj (by omega), (Below.refl _ _).alloc (Nat.le_refl _) _⟩
theorem toBRel_step {xs : List Bool} {w wr : World} {k : Nat} (h : ToBRel xs w k wr) (hk : k < xs.length) : ToBRel xs w (k + 1) (wr.setCell ⟨w.heap.size, k, none⟩ (.bool xs[k])) := by
  obtain ⟨f, hr, ht, hb⟩ := h
  refine ⟨_, hr.set k _, fun j hj hl => ?_, hb.setCell (Nat.le_refl _) _⟩
  by_cases hjk : j = k
  · subst hjk; simp
  · simp [hjk, ht j (by omega) hl]
theorem toBRel_end {xs : List Bool} {w wr : World} (h : ToBRel xs w xs.length wr) (hl : xs.length ≤ 1048576) : NewBools xs w (.returned (.slice (some ⟨w.heap.size, 0, none⟩) xs.length xs.length)) wr := by
  obtain ⟨f, hr, ht, hb⟩ := h
  exact ⟨_, rfl, ⟨_, _, rfl, Nat.le_refl _, by unfold maxLen; omega, Or.inr ⟨_, f, rfl, Nat.le_refl _, hr, fun i hi => ht i hi hi⟩⟩, hb⟩

set_option maxHeartbeats 400000 in
theorem toBools_calls (xs : List Bool) (c : Value) (w : World) (hc : BIn w xs c) (hlen : xs.length ≤ 1048576) :
    Calls Try.prog 55 #[c] w (NewBools xs w) := by
  have HC : Hid (BIn w xs c) := hc
  obtain ⟨ad, cap, rfl, hl, hm, -⟩ := hc
  unfold maxLen at hm
  have hmk := make_boolx xs.length hlen
  go_enter Try.func55, Try.ntmps55
  go_wp2_with fail
  go_loopw [4] (fun i wr => ∃ k : Nat, k ≤ xs.length ∧ i = .int .i64 k ∧ ToBRel xs w k wr) (fun i _ => xs.length - (intOf i).toNat)
  case atStart => exact ⟨0, Nat.zero_le _, rfl, toBRel_start xs w⟩
  case round =>
    obtain ⟨k, hk, rfl, hto⟩ := hrel
    have HT : Hid (ToBRel xs w k wr) := hto
    obtain ⟨f, hr0, _, hb⟩ := hto
    by_cases hlt : k < xs.length
    · obtain ⟨bl, off, rfl, -, c0⟩ := (HC.out.next hb).at k hlt
      have g0 := hr0.cell (i := k) (by omega)
      have f0 := hr0.frozen k
      have HS : Hid (ToBRel xs w (k + 1) (wr.setCell ⟨w.heap.size, k, none⟩ (.bool xs[k]))) := toBRel_step HT.out hlt
      clear hb hr0
      go_wp2_with fail
      go_roundw
      case rel => exact ⟨k + 1, by omega, by go_num, HS.out⟩
      case measure => simp [intOf]; omega
    · have hke : xs.length = k := by omega
      have HV : Hid (NewBools xs w (.returned (.slice (some ⟨w.heap.size, 0, none⟩) xs.length xs.length)) wr) := by subst hke; exact toBRel_end HT.out hlen
      clear hke hr0 hb
      go_wp2_with fail
      go_ret
      exact HV.out

/-! ### The count -/
set_option maxHeartbeats 400000 in
theorem szBools_calls (n cap : Nat) (ad : Option Addr) (left : Int) (w : World) (hn : n ≤ 9223372036854775807) (h0 : 0 ≤ left) (h1 : left ≤ 4611686018427387904) :
    Calls Try.prog 51 #[.slice ad n cap, .int .i64 left] w fun e w' => e = .returned (.int .i64 (if (n : Int) ≤ left then left - n else -1)) ∧ Below w.heap.size w w' := by
  by_cases h : (n : Int) ≤ left
  · have h' : ¬ (left - (n : Int) < 0) := by omega
    rw [if_pos h]
    go_enter Try.func51, Try.ntmps51
    go_wp2_with fail
    go_ret
    exact ⟨rfl, Below.refl _ _⟩
  · rw [if_neg h]
    go_enter Try.func51, Try.ntmps51
    go_wp2_with fail
    go_ret
    exact ⟨rfl, Below.refl _ _⟩
end Go.Proofs.Ytocnkjicmchbdaa
/-
  NEEDS IN MEMORY: a slice of slices of truth values; the laws' own count, copy and comparison of them (szBoolSS, toBoolSS, eqBoolSS).
-/
namespace Go.Proofs.Ytocnkjicmchbdaa
set_option linter.unusedVariables false
set_option linter.unusedSimpArgs false
open Go.RowKit

/-- a slice value that holds these rows, its blocks out of S -/
def NeedsOn (w : World) (S : Nat → Prop) (g : List (List Bool)) (v : Value) : Prop :=
  ∃ ad cap, v = .slice ad g.length cap ∧ g.length ≤ cap ∧ cap ≤ maxLen ∧ (g = [] ∨ ∃ bl off, ad = some ⟨bl, off, none⟩ ∧ S bl ∧ ∀ i (hi : i < g.length), ∃ c,
    w.cell? ⟨bl, off + i, none⟩ = some c ∧ BoolsOn w S g[i] c)
theorem NeedsOn.mono {w w' : World} {S S' : Nat → Prop} {g : List (List Bool)} {v : Value} (h : NeedsOn w S g v) (hS : ∀ k, S k → S' k) (hw : ∀ k, S k → w'.heap[k]? = w.heap[k]?) : NeedsOn w' S' g v := by
  obtain ⟨ad, cap, e, l1, l2, h5⟩ := h
  refine ⟨ad, cap, e, l1, l2, ?_⟩
  rcases h5 with h5 | ⟨bl, off, e, s, r⟩
  · exact Or.inl h5
  · refine Or.inr ⟨bl, off, e, hS _ s, fun i hi => ?_⟩
    obtain ⟨c, h1, g3⟩ := r i hi
    exact ⟨c, (World.cell?_of_block (a := ⟨bl, off + i, none⟩) (hw bl s)).trans h1, g3.mono hS hw⟩
/-- needs that lie in a world, wherever -/
abbrev NIn (w : World) (g : List (List Bool)) (v : Value) : Prop := NeedsOn w (Lt w.heap.size) g v
theorem NeedsOn.next {w w' : World} {g : List (List Bool)} {v : Value} (h : NIn w g v) (hb : Below w.heap.size w w') : NIn w' g v :=
  h.mono (fun k (hk : k < w.heap.size) => Nat.lt_of_lt_of_le hk hb.size) (fun k hk => hb.block k hk)
theorem NeedsOn.drew {w : World} {g : List (List Bool)} {v : Value} (h : NIn w g v) : NIn w.drew g v := h.next ((Below.refl _ _).drew)
/-- row i, opened -/
theorem NeedsOn.at {w : World} {g : List (List Bool)} {ad : Option Addr} {n cap : Nat} (h : NIn w g (.slice ad n cap)) (i : Nat) (hi : i < g.length) :
    ∃ bl off c, ad = some ⟨bl, off, none⟩ ∧ bl < w.heap.size ∧ w.cell? ⟨bl, off + i, none⟩ = some c ∧ BIn w g[i] c := by
  obtain ⟨ad', cap', he, -, -, hr⟩ := h
  cases he
  rcases hr with rfl | ⟨bl, off, rfl, hb, r⟩
  · simp at hi
  obtain ⟨c, h1, h4⟩ := r i hi
  exact ⟨bl, off, c, rfl, hb, h1, h4⟩

/-! ### The count -/
/-- the values of the first rows -/
def sumB (l : List (List Bool)) : Nat := (l.map (·.length)).sum
theorem sumB_append (a b : List (List Bool)) : sumB (a ++ b) = sumB a + sumB b := by simp [sumB]
theorem sumB_take_succ (l : List (List Bool)) (i : Nat) (h : i < l.length) : sumB (l.take (i + 1)) = sumB (l.take i) + l[i].length := by
  rw [List.take_succ_eq_append_getElem h, sumB_append]; simp [sumB]
theorem sumB_take_le (l : List (List Bool)) (i : Nat) : sumB (l.take i) ≤ sumB l := by
  conv => rhs; rw [← List.take_append_drop i l, sumB_append]
  omega
theorem row_le_sumB (l : List (List Bool)) (i : Nat) (h : i < l.length) : l[i].length ≤ sumB l := by
  have := sumB_take_succ l i h
  have := sumB_take_le l (i + 1)
  omega
/-- what the law's own count leaves of a budget -/
def szN (g : List (List Bool)) (left : Int) : Int := if (g.length : Int) + sumB g ≤ left then left - (g.length + sumB g) else -1
theorem szN_range (g : List (List Bool)) (left : Int) (h : 0 ≤ left) : -1 ≤ szN g left ∧ szN g left ≤ left := by unfold szN; split <;> omega
def szNAt (g : List (List Bool)) (left : Int) (k : Nat) : Int := left - g.length - sumB (g.take k)
theorem szN_kid (g : List (List Bool)) (left : Int) (k : Nat) (hk : k < g.length) (h : (g[k].length : Int) ≤ szNAt g left k) : szNAt g left k - g[k].length = szNAt g left (k + 1) := by
  have e := sumB_take_succ g k hk
  unfold szNAt; rw [e]; omega
theorem szN_neg (g : List (List Bool)) (left : Int) (k : Nat) (hk : k < g.length) (h : ¬ (g[k].length : Int) ≤ szNAt g left k) : szN g left = -1 := by
  have e := sumB_take_succ g k hk
  have e2 := sumB_take_le g (k + 1)
  unfold szN; rw [if_neg]; unfold szNAt at h; omega
theorem szN_end (g : List (List Bool)) (left : Int) (h : 0 ≤ szNAt g left g.length) : szN g left = szNAt g left g.length := by
  unfold szNAt at h ⊢; rw [List.take_length] at h ⊢; unfold szN; rw [if_pos (by omega)]; omega

set_option maxHeartbeats 400000 in
theorem szNeeds_calls (g : List (List Bool)) (c : Value) (left : Int) (w : World) (hk : NIn w g c) (h0 : 0 ≤ left) (h1 : left ≤ 4611686018427387904) :
    Calls Try.prog 10 #[c, .int .i64 left] w fun e w' => e = .returned (.int .i64 (szN g left)) ∧ Below w.heap.size w w' := by
  have HK : Hid (NIn w g c) := hk
  obtain ⟨ad, cap, rfl, hl, hm, -⟩ := hk
  unfold maxLen at hm
  by_cases hlen : left < g.length
  · have HV : Hid (szN g left = -1) := by unfold Hid szN; rw [if_neg]; omega
    go_enter Try.func10, Try.ntmps10
    go_wp2_with fail
    go_ret
    exact ⟨ret_int HV.out.symm, Below.refl _ _⟩
  · have hneg : ¬ (left - g.length < 0) := by omega
    go_enter Try.func10, Try.ntmps10
    go_wp2_with fail
    go_loopw [1, 5] (fun l i wr => ∃ k : Nat, k ≤ g.length ∧ i = .int .i64 k ∧ l = .int .i64 (szNAt g left k) ∧ 0 ≤ szNAt g left k ∧ Below w.heap.size w wr) (fun _ i _ => g.length - (intOf i).toNat)
    case atStart => exact ⟨0, Nat.zero_le _, rfl, by simp [szNAt, sumB], by simp [szNAt, sumB]; omega, Below.refl _ _⟩
    case round =>
      obtain ⟨k, hk, rfl, rfl, hpos, hb⟩ := hrel
      have hle : szNAt g left k ≤ left := by unfold szNAt; omega
      by_cases hlt : k < g.length
      · obtain ⟨bl, off, r, rfl, -, c0, hkk⟩ := (HK.out.next hb).at k hlt
        obtain ⟨ad2, cap2, rfl, hl2, hm2, -⟩ := hkk
        have hm3 : g[k].length ≤ 9223372036854775807 := by unfold maxLen at hm2; omega
        clear hl2 hm2
        go_wp2_with fail
        refine (szBools_calls _ _ _ _ _ hm3 hpos (by omega)).mono ?_
        rintro e w1 ⟨rfl, hb1⟩
        have hb2 : Below w.heap.size w w1 := hb.trans (hb1.mono hb.size)
        clear hb1
        by_cases hneg1 : (g[k].length : Int) ≤ szNAt g left k
        · have HV : Hid (szNAt g left k - g[k].length = szNAt g left (k + 1)) := szN_kid g left k hlt hneg1
          rw [if_pos hneg1]
          have hnn : 0 ≤ szNAt g left (k + 1) := by rw [← HV.out]; omega
          have hq : ¬ (szNAt g left k - g[k].length < 0) := by omega
          go_wp2_with fail
          go_roundw
          case rel => exact ⟨k + 1, by omega, by go_num, by rw [HV.out], hnn, hb2⟩
          case measure => simp [intOf]; omega
        · have HV : Hid (szN g left = -1) := szN_neg g left k hlt hneg1
          rw [if_neg hneg1]
          go_wp2_with fail
          go_ret
          exact ⟨ret_int HV.out.symm, hb2⟩
      · have hke : g.length = k := by omega
        have HV : Hid (szN g left = szNAt g left k) := by subst hke; exact szN_end g left hpos
        clear hke
        go_wp2_with fail
        go_ret
        exact ⟨ret_int HV.out.symm, hb⟩

/-! ### The copy -/
/-- a slice value that holds these rows in a row of its own, the rows in such too, from block lo on -/
def NeedRow (w : World) (lo : Nat) (g : List (List Bool)) (v : Value) : Prop :=
  ∃ ad cap, v = .slice ad g.length cap ∧ g.length ≤ cap ∧ cap ≤ maxLen ∧ (g = [] ∨ ∃ b f, ad = some ⟨b, 0, none⟩ ∧ lo ≤ b ∧ w.rowIs b 74 cap f ∧ ∀ i (h : i < g.length), BoolRow w lo g[i] (f i))
theorem NeedRow.inn {w : World} {lo : Nat} {g : List (List Bool)} {v : Value} (h : NeedRow w lo g v) : NIn w g v := by
  obtain ⟨ad, cap, e, l1, l2, h⟩ := h
  refine ⟨ad, cap, e, l1, l2, h.imp id ?_⟩
  rintro ⟨b, f, rfl, hg, hr, hf⟩
  refine ⟨b, 0, rfl, hr.lt, fun i hi => ?_⟩
  refine ⟨_, ?_, (hf i hi).inn⟩
  rw [Nat.zero_add, hr.cell (by omega)]
theorem NeedRow.keep {w w' : World} {lo lo' : Nat} {g : List (List Bool)} {v : Value} (h : NeedRow w lo g v) (hl : lo' ≤ lo) (hw : ∀ k, lo ≤ k → k < w.heap.size → w'.heap[k]? = w.heap[k]?) : NeedRow w' lo' g v := by
  obtain ⟨ad, cap, e, l1, l2, h⟩ := h
  refine ⟨ad, cap, e, l1, l2, h.imp id ?_⟩
  rintro ⟨b, f, rfl, hg, hr, hf⟩
  exact ⟨b, f, rfl, by omega, hr.of_block (hw b hg hr.lt), fun i hi => (hf i hi).keep hl hw⟩
theorem NeedRow.next {w w' : World} {lo : Nat} {g : List (List Bool)} {v : Value} (h : NeedRow w lo g v) (hb : Below w.heap.size w w') : NeedRow w' lo g v := h.keep (Nat.le_refl _) fun k _ hk => hb.block k hk
theorem NeedRow.none (w : World) (lo : Nat) : NeedRow w lo [] (.slice none 0 0) := ⟨_, _, rfl, Nat.le_refl _, by simp [maxLen], Or.inl rfl⟩
def NewNeeds (g : List (List Bool)) (w : World) (e : Ending) (w' : World) : Prop := ∃ v, e = .returned v ∧ NeedRow w' w.heap.size g v ∧ Below w.heap.size w w'

theorem infoBB : (Try.prog.info? 74).map (fun i => (i.zero, i.size, i.bytes)) = some (some (.slice none 0 0), 1, 24) := by kernel_rfl
theorem make_needs (n : Nat) (h : n ≤ 1048576) : ∃ C : Array Value, C.size = n ∧ (∀ i, i < n → C[i]? = some (.slice none 0 0)) ∧ ∀ w : World, (Instr.makeSlice 25 (.int .i64 (n : Int)) (.int .i64 (n : Int))).run Try.prog w = .ok (.slice (some ⟨w.heap.size, 0, none⟩) n n) (w.alloc (.cells C 74)) := by
  obtain ⟨i, hi, hzz⟩ := Option.map_eq_some_iff.1 infoBB
  simp only [Prod.mk.injEq] at hzz
  obtain ⟨hz, hs, hb⟩ := hzz
  have hl : (madeCells #[.slice none 0 0] n).toList = List.replicate n (.slice none 0 0) := toList_madeCells_one _ _
  refine ⟨madeCells #[.slice none 0 0] n, by rw [← Array.length_toList, hl, List.length_replicate], fun i hi => by rw [← Array.getElem?_toList, hl, List.getElem?_replicate, if_pos hi], fun w => ?_⟩
  have hr := run_make (P := Try.prog) w 25 74 i _ Try.underlying25 hi hz .i64 .i64 n n (by omega) (Int.le_refl _) (by rw [hb]; omega) (by omega)
  simp only [Int.toNat_natCast, hs, Nat.mul_one] at hr
  exact hr

/-- what holds of the copy behind k rounds -/
def ToNRel (g : List (List Bool)) (w : World) (k : Nat) (wr : World) : Prop :=
  ∃ f : Nat → Value, wr.rowIs w.heap.size 74 g.length f ∧ (∀ j (_ : j < k) (hj : j < g.length), BoolRow wr (w.heap.size + 1) g[j] (f j)) ∧ Below w.heap.size w wr
theorem toNRel_start (g : List (List Bool)) (w : World) (C : Array Value) (h : C.size = g.length) : ToNRel g w 0 (w.alloc (.cells C 74)) := by
  refine ⟨fun i => C.getD i undef, ⟨C, Deep.blk_alloc_new _ _, h, fun i hi => ?_⟩, fun j hj => absurd hj (by omega), (Below.refl _ _).alloc (Nat.le_refl _) _⟩
  simp [Array.getElem?_eq_getElem (h ▸ hi : i < C.size), Array.getD, (h ▸ hi : i < C.size)]
theorem toNRel_step (g : List (List Bool)) (w wr w1 : World) (k : Nat) (hk : k < g.length) (h : ToNRel g w k wr) (v : Value) (hb : Below wr.heap.size wr w1) (hv : BoolRow w1 wr.heap.size g[k] v) :
    ToNRel g w (k + 1) (w1.setCell ⟨w.heap.size, k, none⟩ v) := by
  obtain ⟨f, hr, ht, hbw⟩ := h
  have hlt := hr.lt
  have hr1 : w1.rowIs w.heap.size 74 g.length f := hr.of_block (hb.block _ hlt)
  have hsz := hb.size
  refine ⟨_, hr1.set k _, fun j hj hjl => ?_, (hbw.trans (hb.mono (Nat.le_of_lt hlt))).setCell (by simp) _⟩
  by_cases hjk : j = k
  · subst hjk
    have h1 : BoolRow w1 (w.heap.size + 1) g[j] v := hv.down (by omega)
    simpa using h1.setCell (a := ⟨w.heap.size, j, none⟩) (by simp) v
  · have h1 : BoolRow w1 (w.heap.size + 1) g[j] (f j) := (ht j (by omega) hjl).next hb
    simp only [if_neg hjk]
    exact h1.setCell (by simp) v
theorem toNRel_end (g : List (List Bool)) (w wr : World) (h : ToNRel g w g.length wr) (hl : g.length ≤ 1048576) : NewNeeds g w (.returned (.slice (some ⟨w.heap.size, 0, none⟩) g.length g.length)) wr := by
  obtain ⟨f, hr, ht, hbw⟩ := h
  exact ⟨_, rfl, ⟨_, _, rfl, Nat.le_refl _, by unfold maxLen; omega, Or.inr ⟨_, f, rfl, Nat.le_refl _, hr, fun i hi => (ht i hi hi).down (by omega)⟩⟩, hbw⟩

set_option maxHeartbeats 400000 in
theorem toNeeds_calls (g : List (List Bool)) (c : Value) (w : World) (hk : NIn w g c) (hsz : g.length + sumB g ≤ 1048576) : Calls Try.prog 13 #[c] w (NewNeeds g w) := by
  have HK : Hid (NIn w g c) := hk
  have hlen : g.length ≤ 1048576 := by omega
  obtain ⟨ad, cap, rfl, -, -, -⟩ := hk
  obtain ⟨C, hC, -, hmk⟩ := make_needs g.length hlen
  have HC : Hid (C.size = g.length) := hC
  clear hC
  go_enter Try.func13, Try.ntmps13
  go_wp2_with fail
  go_loopw [4] (fun i wr => ∃ k : Nat, k ≤ g.length ∧ i = .int .i64 k ∧ ToNRel g w k wr) (fun i _ => g.length - (intOf i).toNat)
  case atStart => exact ⟨0, Nat.zero_le _, rfl, toNRel_start g w C HC.out⟩
  case round =>
    obtain ⟨k, hk, rfl, hto⟩ := hrel
    have HT : Hid (ToNRel g w k wr) := hto
    obtain ⟨f, hr0, _, hb⟩ := hto
    have hlt0 := hr0.lt
    by_cases hlt : k < g.length
    · obtain ⟨bl, off, r, rfl, -, c0, hkk⟩ := (HK.out.next hb).at k hlt
      have HKK : Hid (BIn wr g[k] r) := hkk
      have hkz : g[k].length ≤ 1048576 := by have := row_le_sumB g k hlt; omega
      have HR : Hid (wr.rowIs w.heap.size 74 g.length f) := hr0
      clear hkk hr0 hb
      go_wp2_with fail
      refine (toBools_calls g[k] r _ HKK.out hkz).mono ?_
      rintro e w1 ⟨v, rfl, hv, hb1⟩
      have hr1 : w1.rowIs w.heap.size 74 g.length f := HR.out.of_block (hb1.block _ hlt0)
      have HS : Hid (ToNRel g w (k + 1) (w1.setCell ⟨w.heap.size, k, none⟩ v)) := toNRel_step g w wr w1 k hlt HT.out v hb1 hv
      obtain ⟨ad2, cap2, rfl, _, _, _⟩ := hv
      have g0 := hr1.cell (i := k) (by omega)
      have f0 := hr1.frozen k
      clear hr1 hb1
      go_wp2_with fail
      go_roundw
      case rel => exact ⟨k + 1, by omega, by go_num, HS.out⟩
      case measure => simp [intOf]; omega
    · have hke : g.length = k := by omega
      have HV : Hid (NewNeeds g w (.returned (.slice (some ⟨w.heap.size, 0, none⟩) g.length g.length)) wr) := by subst hke; exact toNRel_end g w wr HT.out hlen
      clear hke hr0 hb
      go_wp2_with fail
      go_ret
      exact HV.out

/-! ### The comparison -/
set_option maxHeartbeats 400000 in
theorem eqNeeds_calls (g : List (List Bool)) (c d : Value) (w : World) (hc : NIn w g c) (hd : NIn w g d) : Calls Try.prog 16 #[c, d] w fun e w' => e = .returned (.bool true) ∧ Below w.heap.size w w' := by
  have HC : Hid (NIn w g c) := hc
  have HD : Hid (NIn w g d) := hd
  obtain ⟨ad, cap, rfl, hl, hm, -⟩ := hc
  obtain ⟨ad', cap', rfl, hl', hm', -⟩ := hd
  unfold maxLen at hm hm'
  have t1 : ((g.length : Int) != g.length) = false := by simp
  go_enter Try.func16, Try.ntmps16
  go_wp2_with fail
  go_loopw [5] (fun i wr => ∃ k : Nat, k ≤ g.length ∧ i = .int .i64 k ∧ Below w.heap.size w wr) (fun i _ => g.length - (intOf i).toNat)
  case atStart => exact ⟨0, Nat.zero_le _, rfl, Below.refl _ _⟩
  case round =>
    obtain ⟨k, hk, rfl, hb⟩ := hrel
    by_cases hlt : k < g.length
    · obtain ⟨bl, off, r, rfl, -, c0, hk1⟩ := (HC.out.next hb).at k hlt
      obtain ⟨bl', off', r', rfl, -, d0, hk2⟩ := (HD.out.next hb).at k hlt
      have HK1 : Hid (BIn wr g[k] r) := hk1
      have HK2 : Hid (BIn wr g[k] r') := hk2
      clear hk1 hk2
      go_wp2_with fail
      go_region_with ((go_at_call 58; refine (eqBools_calls g[k] r r' _ ?_ ?_).mono ?_; exact HK1.out.drew; exact HK2.out.drew; rintro e w1 ⟨rfl, hb1⟩))
      all_goals
        have hb2 : Below w.heap.size w w1 := hb.drew.trans (hb1.mono hb.drew.size)
        clear hb1
        go_wp2_with fail
        go_roundw
        case rel => exact ⟨k + 1, by omega, by go_num, hb2⟩
        case measure => simp [intOf]; omega
    · have hke : k = g.length := by omega
      have HB : Hid (Below w.heap.size w wr) := hb
      clear hb
      clear hke
      go_wp2_with fail
      go_ret
      exact ⟨rfl, HB.out⟩
end Go.Proofs.Ytocnkjicmchbdaa
