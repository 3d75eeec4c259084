/-
  THE PROGRAM's addExpr in an arena, and arenaOf at no graph.
-/
import Derived.Test.YtiipcgnkfhjpeaaGreatDoorMgExactEvalRun30
import Derived.Test.YtiipcgnkfhjpeaaGreatDoorMgExactEvalRun13
import Derived.Test.YtiipcgnkfhjpeaaGreatDoorMgExactEvalRun18
import Derived.Test.YtiipcgnkfhjpeaaGreatDoorMgExactEvalRun7
import Derived.Test.YtiipcgnkfhjpeaaGreatDoorMgExactEvalRun27
import Derived.Test.YtiipcgnkfhjpeaaGreatDoorMgExactEvalRun28
namespace Go.Proofs.YtiipcgnkfhjpeaaGreatDoor
set_option linter.unusedVariables false
set_option linter.unusedSimpArgs false
open Go.RowKit

theorem OwnC.down {w : World} {lo lo' : Nat} {S S' : Nat → Prop} {g : List Ce} {v : Value} (h : OwnC w lo S g v) (hl : lo' ≤ lo) (hS : ∀ k, S k → S' k) : OwnC w lo' S' g v := by
  obtain ⟨hi0, xs, kb, h1, h2, h3⟩ := h.next (S' := S') (fun k hk _ => hS k hk) (fun _ _ _ => rfl) (fun _ _ _ => rfl)
  refine ⟨hi0, xs, kb, ⟨h1.1, ?_⟩, h2, h3⟩
  rcases h1.2 with h | ⟨b, cap, cur, rfl, hg, r⟩
  · exact Or.inl h
  · exact Or.inr ⟨b, cap, cur, rfl, Nat.le_trans hl hg, r⟩
theorem fdRes_down {r : List Ce × Nat} {lo A : Nat} {S : Nat → Prop} {gv : Value} {w W : World} {e : Ending} {w' : World} (h : FdRes r lo S gv A W e w') (hb : Below w.heap.size w W) : FdRes r lo S gv A w e w' := by
  obtain ⟨gv', h1, h2, h3, h4, h5⟩ := h
  have hs := hb.size
  refine ⟨gv', h1, h2.next (fun b hb _ => hb.imp id fun h => by omega) (fun _ _ _ => rfl) (fun _ _ _ => rfl), h3, ⟨h4.os.trans hb.os, h4.tape.trans hb.tape, h4.output.trans hb.output, Nat.le_trans hs h4.size, fun k hk hn hne => (h4.block k (by omega) hn hne).trans (hb.block k hk)⟩, ?_⟩
  rcases h5 with e | ⟨g, e, hg⟩
  · exact Or.inl e
  · exact Or.inr ⟨g, e, by omega⟩

set_option maxRecDepth 100000 in
set_option maxHeartbeats 1600000 in
theorem ax_callsT (args : List Nat) (t : Tr) (gv c : Value) (ada : Option Addr) (na ca : Nat) (lo A : Nat) (S T : Nat → Prop) (cs : List Ce) (w : World) (hg : OwnC w lo S cs gv) (hA : w.heap[A]? = some (.cells #[gv] 142))
    (hlo : lo ≤ w.heap.size) (hT : Free T w A gv) (ha : IntsOn w T (args.map fun (a : Nat) => (a : Int)) (.slice ada na ca)) (hk : KidsOn w T t.kids c) (hz : cs.length + szT t ≤ 500000) (hal : args.length ≤ 1048576) (ho : I64 t.op) (hn : I64 t.num) (hp : AllT (VarOk args.length) t) :
    Calls Tryz.prog 117 #[.pointer (some ⟨A, 0, none⟩), .agg #[.int .i64 t.op, .int .i64 t.num, c], .slice ada na ca] w (FdRes (addT args t cs) lo S gv A w) := by
  have hAl : A < w.heap.size := (Array.getElem?_eq_some_iff.1 hA).1
  have hkeep : ∀ o1 o2 o3 b, b < w.heap.size → (((w.alloc o1).alloc o2).alloc o3).heap[b]? = w.heap[b]? := fun o1 o2 o3 b hb => (Deep.blk_alloc_lt _ _ _ (by rw [Deep.nblk_alloc, Deep.nblk_alloc]; omega)).trans ((Deep.blk_alloc_lt _ _ _ (by rw [Deep.nblk_alloc]; omega)).trans (Deep.blk_alloc_lt _ _ _ hb))
  have hbw : Below w.heap.size w (((w.alloc (.cells #[.pointer (some ⟨A, 0, none⟩)] 122)).alloc (.cells #[.int .i64 t.op, .int .i64 t.num, c] 48)).alloc (.cells #[.slice ada na ca] 88)) := (((box_below w _).alloc (by rw [Deep.nblk_alloc]; omega) _).alloc (by rw [Deep.nblk_alloc, Deep.nblk_alloc]; omega) _)
  have hc := fd_calls args (.slice ada na ca) t gv c lo A (w.heap.size + 1 + 1) w.heap.size S T cs (((w.alloc (.cells #[.pointer (some ⟨A, 0, none⟩)] 122)).alloc (.cells #[.int .i64 t.op, .int .i64 t.num, c] 48)).alloc (.cells #[.slice ada na ca] 88))
    (hg.next (fun _ h _ => h) (fun b _ hb => hkeep _ _ _ b hb) (fun b _ hb => hkeep _ _ _ b hb)) ((hkeep _ _ _ A hAl).trans hA)
    (by have h := Deep.blk_alloc_new ((w.alloc (.cells #[.pointer (some ⟨A, 0, none⟩)] 122)).alloc (.cells #[.int .i64 t.op, .int .i64 t.num, c] 48)) (.cells #[.slice ada na ca] 88); rw [Deep.nblk_alloc, Deep.nblk_alloc] at h; exact h)
    ((Deep.blk_alloc_lt _ _ _ (by rw [Deep.nblk_alloc, Deep.nblk_alloc]; omega)).trans ((Deep.blk_alloc_lt _ _ _ (by rw [Deep.nblk_alloc]; omega)).trans (Deep.blk_alloc_new _ _)))
    (by rw [Deep.nblk_alloc, Deep.nblk_alloc, Deep.nblk_alloc]; omega) (fun b hb => ⟨by have := (hT b hb).1; rw [Deep.nblk_alloc, Deep.nblk_alloc, Deep.nblk_alloc]; omega, (hT b hb).2⟩) (ha.mono (fun _ h => h) (fun b hb => hkeep _ _ _ b (hT b hb).1)) (hk.mono (fun _ h => h) (fun b hb => hkeep _ _ _ b (hT b hb).1)) hz hal ho hn hp
  have HC := mkHid (hc.mono fun e w' h => fdRes_down h hbw)
  clear hc hbw hkeep hg hA ha hk hp ho hn
  go_enter Tryz.func117, Tryz.ntmps117
  go_wp2_with fail
  refine HC.out.mono ?_
  intro e w' hr
  have HR := hr
  obtain ⟨gv', rfl, -⟩ := hr
  have HR := mkHid HR
  go_wp2_with fail
  go_ret
  exact HR.out

theorem ax_calls (args : List Nat) (t : Tr) (gv c : Value) (ada : Option Addr) (na ca : Nat) (lo A : Nat) (S : Nat → Prop) (cs : List Ce) (w : World) (hg : OwnC w lo S cs gv) (hA : w.heap[A]? = some (.cells #[gv] 142))
    (hlo : lo ≤ w.heap.size) (hlA : lo ≤ A) (ha : IntsOn w (Lt lo) (args.map fun (a : Nat) => (a : Int)) (.slice ada na ca)) (hk : KidsOn w (Lt lo) t.kids c) (hz : cs.length + szT t ≤ 500000) (hal : args.length ≤ 1048576) (ho : I64 t.op) (hn : I64 t.num) (hp : AllT (VarOk args.length) t) :
    Calls Tryz.prog 117 #[.pointer (some ⟨A, 0, none⟩), .agg #[.int .i64 t.op, .int .i64 t.num, c], .slice ada na ca] w (FdRes (addT args t cs) lo S gv A w) :=
  ax_callsT args t gv c ada na ca lo A S (Lt lo) cs w hg hA hlo (fun b hb => ⟨Nat.lt_of_lt_of_le hb hlo, fun e => by obtain ⟨ys, hy⟩ := hg.row; have := (own_some hy b e.symm).1; have h2 : b < lo := hb; omega, fun e => by have h2 : b < lo := hb; omega⟩) ha hk hz hal ho hn hp

set_option maxRecDepth 100000 in
set_option maxHeartbeats 1600000 in
theorem arena0 (w : World) : Calls Tryz.prog 79 #[.slice none 0 0] w fun e w' => e = .returned (.pointer (some ⟨w.heap.size, 0, none⟩)) ∧ w' = w.alloc (.cells #[.slice none 0 0] 142) := by
  go_enter Tryz.func79, Tryz.ntmps79
  go_wp2_with fail
  go_loopw [10] (fun i wr => i = .int .i64 0 ∧ wr = w.alloc (.cells #[.slice none 0 0] 142)) (fun i _ => 0)
  case atStart => exact ⟨rfl, rfl⟩
  case round =>
    obtain ⟨rfl, rfl⟩ := hrel
    go_wp2_with fail
    go_ret
    exact ⟨rfl, rfl⟩

end Go.Proofs.YtiipcgnkfhjpeaaGreatDoor
/-
  THE PROGRAM's GraphValid (cellFits, isCell, areCells); nothing that was there is changed.
-/
namespace Go.Proofs.YtiipcgnkfhjpeaaGreatDoor
set_option linter.unusedVariables false
set_option linter.unusedSimpArgs false
open Go.RowKit

set_option maxHeartbeats 400000 in
theorem isCell_calls (n cap : Nat) (ad : Option Addr) (a : Int) (w : World) (hn : n ≤ 9223372036854775807) :
    Calls Tryz.prog 97 #[.slice ad n cap, .int .i64 a] w fun e w' => e = .returned (.bool (isAt n a)) ∧ Below w.heap.size w w' := by
  by_cases h0 : 0 ≤ a
  · by_cases h1 : a < (n : Int)
    · have HV : Hid (isAt n a = true) := isAt_in h0 h1
      go_enter Tryz.func97, Tryz.ntmps97
      go_wp2_with fail
      go_ret
      exact ⟨ret_bool HV.out.symm, Below.refl _ _⟩
    · have HV : Hid (isAt n a = false) := isAt_hi h1
      go_enter Tryz.func97, Tryz.ntmps97
      go_wp2_with fail
      go_ret
      exact ⟨ret_bool HV.out.symm, Below.refl _ _⟩
  · have HV : Hid (isAt n a = false) := isAt_lo (by omega)
    go_enter Tryz.func97, Tryz.ntmps97
    go_wp2_with fail
    go_ret
    exact ⟨ret_bool HV.out.symm, Below.refl _ _⟩

set_option maxHeartbeats 800000 in
theorem areCells_calls (n cap : Nat) (ad : Option Addr) (xs : List Int) (v : Value) (w : World) (hn : n ≤ 9223372036854775807) (hk : IIn w xs v) :
    Calls Tryz.prog 113 #[.slice ad n cap, v] w fun e w' => e = .returned (.bool (xs.all (isAt n))) ∧ Below w.heap.size w w' := by
  have HK : Hid (IIn w xs v) := hk
  obtain ⟨ad2, cap2, rfl, hl, hm, -⟩ := hk
  unfold maxLen at hm
  go_enter Tryz.func113, Tryz.ntmps113
  go_wp2_with fail
  go_loopw [9] (fun i wr => ∃ k : Nat, k ≤ xs.length ∧ i = .int .i64 k ∧ (xs.take k).all (isAt n) = true ∧ Below w.heap.size w wr) (fun i _ => xs.length - (intOf i).toNat)
  case atStart => exact ⟨0, Nat.zero_le _, rfl, by simp, Below.refl _ _⟩
  case round =>
    obtain ⟨k, hk, rfl, hall, hb⟩ := hrel
    have HA : Hid ((xs.take k).all (isAt n) = true) := hall
    have HB : Hid (Below w.heap.size w wr) := hb
    clear hall hb
    by_cases hlt : k < xs.length
    · obtain ⟨bl, off, rfl, d0⟩ := (HK.out.next HB.out).at k hlt
      go_wp2_with fail
      refine (isCell_calls n cap ad xs[k] _ hn).mono ?_
      rintro e w1 ⟨rfl, hb1⟩
      have HB1 : Hid (Below w.heap.size w w1) := HB.out.trans (hb1.mono HB.out.size)
      clear hb1 d0
      cases hc : isAt n xs[k] with
      | false =>
        have HV : Hid (xs.all (isAt n) = false) := allI_false_of _ _ k hlt hc
        clear hc
        go_wp2_with fail
        go_ret
        exact ⟨ret_bool HV.out.symm, HB1.out⟩
      | true =>
        have HA2 : Hid ((xs.take (k + 1)).all (isAt n) = true) := by rw [Hid, allI_take_succ _ _ _ hlt, HA.out, hc]; rfl
        clear hc
        go_wp2_with fail
        go_roundw
        case rel => exact ⟨k + 1, by omega, by go_num, HA2.out, HB1.out⟩
        case measure => simp [intOf]; omega
    · have hke : xs.length = k := by omega
      have HV : Hid (xs.all (isAt n) = true) := all_end HA.out hke
      clear hke
      go_wp2_with fail
      go_ret
      exact ⟨ret_bool HV.out.symm, HB.out⟩

/-- cellFits, for a kind with a node -/
theorem fits_node {defs op num : Int} {n : Nat} (h : op ≠ 11) : topC op num n 0 defs = (decide ((n : Int) = cArity op) && ownB op num 0 defs) := by
  unfold topC cArity; rw [if_neg h]

set_option maxRecDepth 100000 in
set_option maxHeartbeats 800000 in
theorem cellFits_node (op num defs : Int) (n cap : Nat) (ad : Option Addr) (T : TypeId) (x : Value) (K : FuncId) (ok fit : Bool) (hn : NodeAt 0 defs op num n T x K ok fit) (h11 : op ≠ 11) (hm : n ≤ 9223372036854775807) (w : World) :
    Calls Tryz.prog 112 #[.agg #[.int .i64 op, .int .i64 num, .slice ad n cap], .int .i64 defs] w fun e w' => e = .returned (.bool (topC op num n 0 defs)) ∧ Below w.heap.size w w' := by
  have HN : Hid (NodeAt 0 defs op num n T x K ok fit) := hn
  have HBX : Hid (Below w.heap.size w (w.alloc (.cells #[.int .i64 op, .int .i64 num, .slice ad n cap] 93))) := box_below _ _
  have hme := hn.meth
  have hen := hn.enters
  have HT : Hid ((ok && fit) = topC op num n 0 defs) := hn.top
  have t11 : (op == 11) = false := by simpa using h11
  clear hn h11
  cases hok : ok with
  | false =>
    subst hok
    have HV : Hid (topC op num n 0 defs = false) := by have := HT.out; rw [Bool.false_and] at this; exact this.symm
    clear hme hen
    go_enter Tryz.func112, Tryz.ntmps112
    go_wp2_with fail
    refine (HN.out.node _).mono ?_
    rintro e w1 ⟨rfl, hb⟩
    have HB : Hid (Below w.heap.size w w1) := HBX.out.trans (hb.mono HBX.out.size)
    clear hb
    go_wp2_with fail
    go_ret
    exact ⟨ret_bool HV.out.symm, HB.out⟩
  | true =>
    subst hok
    have HV : Hid (topC op num n 0 defs = fit) := by have := HT.out; rw [Bool.true_and] at this; exact this.symm
    go_enter Tryz.func112, Tryz.ntmps112
    go_wp2_with fail
    refine (HN.out.node _).mono ?_
    rintro e w1 ⟨rfl, hb⟩
    have HB : Hid (Below w.heap.size w w1) := HBX.out.trans (hb.mono HBX.out.size)
    clear hb
    go_wp2_with fail
    refine (HN.out.fits rfl _).mono ?_
    rintro e w2 ⟨rfl, hb⟩
    have HB2 : Hid (Below w.heap.size w w2) := HB.out.trans (hb.mono HB.out.size)
    clear hb
    go_wp2_with fail
    go_ret
    exact ⟨ret_bool HV.out.symm, HB2.out⟩

set_option maxHeartbeats 800000 in
theorem cellFits_ind (num defs : Int) (n cap : Nat) (ad : Option Addr) (hm : n ≤ 9223372036854775807) (w : World) :
    Calls Tryz.prog 112 #[.agg #[.int .i64 11, .int .i64 num, .slice ad n cap], .int .i64 defs] w fun e w' => e = .returned (.bool ((num == 0) && ((n : Int) == 1))) ∧ Below w.heap.size w w' := by
  have HBX : Hid (Below w.heap.size w (w.alloc (.cells #[.int .i64 11, .int .i64 num, .slice ad n cap] 93))) := box_below _ _
  cases hnum : (num == 0) with
  | false =>
    go_enter Tryz.func112, Tryz.ntmps112
    go_wp2_with fail
    go_ret
    exact ⟨rfl, HBX.out⟩
  | true =>
    go_enter Tryz.func112, Tryz.ntmps112
    go_wp2_with fail
    go_ret
    exact ⟨rfl, HBX.out⟩

theorem cellFits_calls (c : Ce) (defs : Int) (v : Value) (w : World) (hk : IIn w c.kids v) :
    Calls Tryz.prog 112 #[.agg #[.int .i64 c.op, .int .i64 c.num, v], .int .i64 defs] w fun e w' => e = .returned (.bool (fitsB defs c)) ∧ Below w.heap.size w w' := by
  obtain ⟨ad, cap, rfl, hl, hm, -⟩ := hk
  have hm' : c.kids.length ≤ 9223372036854775807 := by unfold maxLen at hm; omega
  by_cases h11 : c.op = 11
  · have hv : fitsB defs c = ((c.num == 0) && ((c.kids.length : Int) == 1)) := by
      unfold fitsB cArity ownB
      rw [h11, if_pos rfl, if_neg (by omega), if_neg (by omega), if_neg (by omega), Bool.and_comm]
      rfl
    rw [hv, h11]
    exact cellFits_ind _ _ _ _ _ hm' w
  have hv : fitsB defs c = topC c.op c.num c.kids.length 0 defs := (fits_node h11).symm
  rw [hv]
  by_cases e1 : c.op = 1
  · exact cellFits_node _ _ _ _ _ _ _ _ _ _ _ (nodeAt_1 0 defs c.op c.num c.kids.length e1) h11 hm' w
  by_cases e2 : c.op = 2
  · exact cellFits_node _ _ _ _ _ _ _ _ _ _ _ (nodeAt_2 0 defs c.op c.num c.kids.length e2) h11 hm' w
  by_cases e3 : c.op = 3
  · exact cellFits_node _ _ _ _ _ _ _ _ _ _ _ (nodeAt_3 0 defs c.op c.num c.kids.length e3) h11 hm' w
  exact cellFits_node _ _ _ _ _ _ _ _ _ _ _ (nodeAt_o 0 defs c.op c.num c.kids.length e1 e2 e3) h11 hm' w

theorem cellB_fits {cells defs : Int} {c : Ce} (h : fitsB defs c = false) : cellB cells defs c = false := by unfold cellB; rw [h]; rfl
theorem cellB_kids {cells defs : Int} {c : Ce} (h : fitsB defs c = true) : cellB cells defs c = c.kids.all (isAt cells) := by unfold cellB; rw [h]; rfl

set_option maxHeartbeats 800000 in
theorem implGraph_calls (g : List Ce) (defs : Int) (v : Value) (w : World) (hk : CIn w g v) :
    Calls Tryz.prog 96 #[v, .int .i64 defs] w fun e w' => e = .returned (.bool (graphB g defs)) ∧ Below w.heap.size w w' := by
  have HK : Hid (CIn w g v) := hk
  obtain ⟨ad, cap, rfl, hl, hm, -⟩ := hk
  unfold maxLen at hm
  by_cases hlim : (g.length : Int) ≤ 400 ∧ 0 ≤ defs ∧ defs ≤ 6
  · have HLM : Hid ((g.length : Int) ≤ 400 ∧ 0 ≤ defs ∧ defs ≤ 6) := hlim
    obtain ⟨l1, l2, l3⟩ := hlim
    go_enter Tryz.func96, Tryz.ntmps96
    go_wp2_with fail
    go_loopw [20] (fun i wr => ∃ k : Nat, k ≤ g.length ∧ i = .int .i64 k ∧ (g.take k).all (cellB g.length defs) = true ∧ Below w.heap.size w wr) (fun i _ => g.length - (intOf i).toNat)
    case atStart => exact ⟨0, Nat.zero_le _, rfl, by simp, Below.refl _ _⟩
    case round =>
      obtain ⟨k, hk, rfl, hall, hb⟩ := hrel
      have HA : Hid ((g.take k).all (cellB g.length defs) = true) := hall
      have HB : Hid (Below w.heap.size w wr) := hb
      clear hall hb
      by_cases hlt : k < g.length
      · obtain ⟨bl, off, r, rfl, c0, c1, c2, -, -, hkk⟩ := (HK.out.next HB.out).at k hlt
        obtain ⟨ad2, cap2, rfl, -, -, -⟩ := id hkk
        have HKK : Hid (IIn wr g[k].kids (.slice ad2 g[k].kids.length cap2)) := hkk
        clear hkk
        go_wp2_with fail
        refine (cellFits_calls g[k] defs _ _ (HKK.out.next (box_below _ _))).mono ?_
        rintro e w1 ⟨rfl, hb1⟩
        have HB0 : Hid (Below wr.heap.size wr w1) := (box_below _ _).trans (hb1.mono (by rw [Deep.nblk_alloc]; omega))
        have HB1 : Hid (Below w.heap.size w w1) := HB.out.trans (HB0.out.mono HB.out.size)
        have b2 := (hb1.cell (p := ⟨wr.heap.size, 2, none⟩) (by rw [Deep.nblk_alloc]; exact Nat.lt_succ_self _)).trans (box_cell wr #[.int .i64 g[k].op, .int .i64 g[k].num, .slice ad2 g[k].kids.length cap2] 93 2 _ rfl)
        clear hb1 c0 c1 c2
        cases hc : fitsB defs g[k] with
        | false =>
          have HV : Hid (graphB g defs = false) := graphB_cellNo k hlt (cellB_fits hc)
          clear hc
          go_wp2_with fail
          go_ret
          exact ⟨ret_bool HV.out.symm, HB1.out⟩
        | true =>
          have HC : Hid (cellB (g.length : Int) defs g[k] = g[k].kids.all (isAt g.length)) := cellB_kids hc
          clear hc
          go_wp2_with fail
          refine (areCells_calls g.length cap _ g[k].kids _ _ (by omega) (HKK.out.next HB0.out)).mono ?_
          rintro e w2 ⟨rfl, hb2⟩
          have HB2 : Hid (Below w.heap.size w w2) := HB1.out.trans (hb2.mono HB1.out.size)
          clear hb2 b2
          cases hc2 : g[k].kids.all (isAt (g.length : Int)) with
          | false =>
            have HV : Hid (graphB g defs = false) := graphB_cellNo k hlt (by rw [HC.out, hc2])
            clear hc2
            go_wp2_with fail
            go_ret
            exact ⟨ret_bool HV.out.symm, HB2.out⟩
          | true =>
            have HA2 : Hid ((g.take (k + 1)).all (cellB g.length defs) = true) := by rw [Hid, allI_take_succ _ _ _ hlt, HA.out, HC.out, hc2]; rfl
            clear hc2
            go_wp2_with fail
            go_roundw
            case rel => exact ⟨k + 1, by omega, by go_num, HA2.out, HB2.out⟩
            case measure => simp [intOf]; omega
      · have hke : g.length = k := by omega
        have HV : Hid (graphB g defs = true) := graphB_yes HLM.out (all_end HA.out hke)
        clear hke
        go_wp2_with fail
        go_ret
        exact ⟨ret_bool HV.out.symm, HB.out⟩
  · have HV : Hid (graphB g defs = false) := graphB_no hlim
    by_cases l1 : (g.length : Int) ≤ 400
    · by_cases l2 : 0 ≤ defs
      · have l3 : ¬ defs ≤ 6 := fun h => hlim ⟨l1, l2, h⟩
        clear hlim
        go_enter Tryz.func96, Tryz.ntmps96
        go_wp2_with fail
        go_ret
        exact ⟨ret_bool HV.out.symm, Below.refl _ _⟩
      · clear hlim
        go_enter Tryz.func96, Tryz.ntmps96
        go_wp2_with fail
        go_ret
        exact ⟨ret_bool HV.out.symm, Below.refl _ _⟩
    · clear hlim
      go_enter Tryz.func96, Tryz.ntmps96
      go_wp2_with fail
      go_ret
      exact ⟨ret_bool HV.out.symm, Below.refl _ _⟩
end Go.Proofs.YtiipcgnkfhjpeaaGreatDoor
/-
  THE PROGRAM's AddExpr at no graph.
-/
namespace Go.Proofs.YtiipcgnkfhjpeaaGreatDoor
set_option linter.unusedVariables false
set_option linter.unusedSimpArgs false
open Go.RowKit

set_option maxRecDepth 100000 in
set_option maxHeartbeats 1600000 in
theorem implAdd0_calls (t : Tr) (defs : Int) (c : Value) (w : World) (hk : In w t.kids c) (ho : I64 t.op) (hn : I64 t.num) :
    Calls Tryz.prog 106 #[.slice none 0 0, .agg #[.int .i64 t.op, .int .i64 t.num, c], .slice none 0 0, .int .i64 defs] w (AddOut (addOut [] t [] defs) w) := by
  have HK : Hid (In w t.kids c) := hk
  have HT : Hid (I64 t.op ∧ I64 t.num) := ⟨ho, hn⟩
  obtain ⟨ad, cap, rfl, -, hm, -⟩ := hk
  unfold maxLen at hm
  clear ho hn
  go_enter Tryz.func106, Tryz.ntmps106
  go_wp2_with fail
  refine (implGraph_calls [] defs _ _ ⟨none, 0, rfl, Nat.le_refl _, by simp [maxLen], Or.inl rfl⟩).mono ?_
  rintro e w1 ⟨rfl, hb1⟩
  have HB1 : Hid (Below w.heap.size w w1) := (box_below _ _).trans (hb1.mono (by rw [Deep.nblk_alloc]; omega))
  have hz1 : w.heap.size < w1.heap.size := by have := hb1.size; rw [Deep.nblk_alloc] at this; omega
  have hr1 : w1.heap[w.heap.size]? = some (.cells #[.int .i64 t.op, .int .i64 t.num, .slice ad t.kids.length cap] 48) := (hb1.block _ (by rw [Deep.nblk_alloc]; omega)).trans (Deep.blk_alloc_new _ _)
  have HR1 : Hid (w1.heap[w.heap.size]? = some (.cells #[.int .i64 t.op, .int .i64 t.num, .slice ad t.kids.length cap] 48)) := hr1
  have r0 := cell_of_blk hr1 0 _ rfl
  have r1 := cell_of_blk hr1 1 _ rfl
  have r2 := cell_of_blk hr1 2 _ rfl
  clear hb1 hr1
  by_cases hg : graphB [] defs = true
  · rw [hg]
    clear hg
    go_wp2_with fail
    have hval := implValid_calls t 0 defs (.slice ad t.kids.length cap) w1 (HK.out.next HB1.out)
    refine hval.mono ?_
    rintro e w2 ⟨rfl, hb2⟩
    have HB2 : Hid (Below w.heap.size w w2) := HB1.out.trans (hb2.mono HB1.out.size)
    have hz2 : w.heap.size < w2.heap.size := by have := hb2.size; omega
    have hr2 : w2.heap[w.heap.size]? = some (.cells #[.int .i64 t.op, .int .i64 t.num, .slice ad t.kids.length cap] 48) := (hb2.block _ hz1).trans HR1.out
    have HR2 : Hid (w2.heap[w.heap.size]? = some (.cells #[.int .i64 t.op, .int .i64 t.num, .slice ad t.kids.length cap] 48)) := hr2
    clear hb2 hval r0 r1 r2
    by_cases hv : validB t 0 defs = true
    · have hv' := hv
      unfold validB at hv'
      simp only [Bool.and_eq_true, decide_eq_true_eq] at hv'
      have HV : Hid (addOut [] t [] defs = ((addT [] t []).1, (addT [] t []).2, true)) := by rw [Hid, addOut_closed, if_pos hv]
      have HP : Hid (AllT (VarOk 0) t) := varOk_of_sh 0 defs 16 t hv'.2.1
      have HSZ : Hid (1 + szT t ≤ 60) := hv'.2.2
      rw [hv]
      clear hv hv' hr2
      go_wp2_with fail
      refine (areCells_calls 0 0 none [] _ w2 (by omega) ⟨none, 0, rfl, Nat.le_refl _, by simp [maxLen], Or.inl rfl⟩).mono ?_
      rintro e w3 ⟨rfl, hb3⟩
      have HB3 : Hid (Below w.heap.size w w3) := HB2.out.trans (hb3.mono HB2.out.size)
      have hz3 : w.heap.size < w3.heap.size := by have := hb3.size; omega
      have hr3 : w3.heap[w.heap.size]? = some (.cells #[.int .i64 t.op, .int .i64 t.num, .slice ad t.kids.length cap] 48) := (hb3.block _ hz2).trans HR2.out
      have HR3 : Hid (w3.heap[w.heap.size]? = some (.cells #[.int .i64 t.op, .int .i64 t.num, .slice ad t.kids.length cap] 48)) := hr3
      rw [show ([] : List Int).all (isAt ((0 : Nat) : Int)) = true from rfl]
      clear hb3 hr3
      go_wp2_with fail
      refine (arena0 w3).mono ?_
      rintro e w4 ⟨rfl, hw4⟩
      have hr4 : w4.heap[w.heap.size]? = some (.cells #[.int .i64 t.op, .int .i64 t.num, .slice ad t.kids.length cap] 48) := by rw [hw4]; exact (Deep.blk_alloc_lt _ _ _ hz3).trans HR3.out
      have HZ4 : Hid (w4.heap.size = w3.heap.size + 1) := by rw [Hid, hw4, Deep.nblk_alloc]
      have HB4 : Hid (Below w.heap.size w w4) := by rw [hw4]; exact HB3.out.alloc HB3.out.size _
      have HA4 : Hid (w4.heap[w3.heap.size]? = some (.cells #[.slice none 0 0] 142)) := by rw [Hid, hw4]; exact Deep.blk_alloc_new _ _
      have r0 := cell_of_blk hr4 0 _ rfl
      have r1 := cell_of_blk hr4 1 _ rfl
      have r2 := cell_of_blk hr4 2 _ rfl
      clear hr4 hw4
      have hc := ax_calls [] t (.slice none 0 0) (.slice ad t.kids.length cap) none 0 0 w.heap.size w3.heap.size (fun b => w.heap.size ≤ b) [] w4 (OwnC.nil _ _ _) HA4.out (by have := HZ4.out; omega) (by omega) ⟨none, 0, rfl, Nat.le_refl _, by simp [maxLen], Or.inl rfl⟩ (HK.out.mono (fun _ h => h) (fun b hb => HB4.out.block b hb)) (by have := HSZ.out; simp only [List.length_nil]; omega) (by simp) HT.out.1 HT.out.2 HP.out
      have HC := mkHid hc
      clear hc
      go_wp2_with fail
      refine HC.out.mono ?_
      rintro e w5 ⟨gv', rfl, hg5, hA5, hk5, -⟩
      have HG5 : Hid (OwnC w5 w.heap.size (fun b => w.heap.size ≤ b) (addT [] t []).1 gv') := hg5.next (fun b hb _ => by rcases hb with hb | hb; exact hb; have := HZ4.out; omega) (fun _ _ _ => rfl) (fun _ _ _ => rfl)
      have HB5 : Hid (Below w.heap.size w w5) := ⟨hk5.os.trans HB4.out.os, hk5.tape.trans HB4.out.tape, hk5.output.trans HB4.out.output, Nat.le_trans HB4.out.size hk5.size, fun b hb => (hk5.block b (by have := HZ4.out; omega) (by simp [Value.ownBlock]) (by omega)).trans (HB4.out.block b hb)⟩
      obtain ⟨adg, capg, rfl⟩ := hg5.form
      have p0 := cell_of_blk hA5 0 _ rfl
      have hle : (addT [] t []).1.length ≤ 400 := by have h := (addT_size [] t []).2.1; have := HSZ.out; simp only [List.length_nil] at h; omega
      have hle2 : ¬ ((400 : Int) < ((addT [] t []).1.length : Int)) := by omega
      clear hg5 hA5 hk5
      go_wp2_with fail
      refine bodyPost_ret (v := .tuple #[.slice adg (addT [] t []).1.length capg, .int .i64 ((addT [] t []).2 : Int), .bool true]) (by simp [results, Tryz.results106, go_sem]) rfl ?_
      rw [HV.out]
      exact ⟨_, rfl, HG5.out, HB5.out⟩
    · have HV : Hid (addOut [] t [] defs = ([], 0, false)) := by rw [Hid, addOut_closed, if_neg hv]
      rw [Bool.not_eq_true] at hv
      rw [hv]
      clear hv hr2
      go_wp2_with fail
      refine bodyPost_ret (v := .tuple #[.slice none 0 0, .int .i64 0, .bool false]) (by simp [results, Tryz.results106, go_sem]) rfl ?_
      rw [HV.out]
      exact ⟨_, rfl, OwnC.nil _ _ _, HB2.out⟩
  · have HV : Hid (addOut [] t [] defs = ([], 0, false)) := addOut_no fun h => hg h.1
    rw [Bool.not_eq_true] at hg
    rw [hg]
    clear hg
    go_wp2_with fail
    refine bodyPost_ret (v := .tuple #[.slice none 0 0, .int .i64 0, .bool false]) (by simp [results, Tryz.results106, go_sem]) rfl ?_
    rw [HV.out]
    exact ⟨_, rfl, OwnC.nil _ _ _, HB1.out⟩

end Go.Proofs.YtiipcgnkfhjpeaaGreatDoor
/-
  THE PROGRAM's BuildGraph (AddExpr at no graph).
-/
namespace Go.Proofs.YtiipcgnkfhjpeaaGreatDoor
set_option linter.unusedVariables false
set_option linter.unusedSimpArgs false
open Go.RowKit

set_option maxRecDepth 100000 in
set_option maxHeartbeats 1600000 in
theorem implBuild_calls (t : Tr) (defs : Int) (c : Value) (w : World) (hk : In w t.kids c) (ho : I64 t.op) (hn : I64 t.num) :
    Calls Tryz.prog 88 #[.agg #[.int .i64 t.op, .int .i64 t.num, c], .int .i64 defs] w (AddOut (addOut [] t [] defs) w) := by
  have HK : Hid (In w t.kids c) := hk
  have HT : Hid (I64 t.op ∧ I64 t.num) := ⟨ho, hn⟩
  obtain ⟨ad, cap, rfl, -, hm, -⟩ := hk
  unfold maxLen at hm
  clear ho hn
  go_enter Tryz.func88, Tryz.ntmps88
  go_wp2_with fail
  refine (implAdd0_calls t defs _ _ (HK.out.next (box_below _ _)) HT.out.1 HT.out.2).mono ?_
  rintro e w1 ⟨v, rfl, h1, h2⟩
  have HG : Hid (OwnC w1 w.heap.size (fun b => w.heap.size ≤ b) (addOut [] t [] defs).1 v) := h1.down (by rw [Deep.nblk_alloc]; omega) (fun b hb => by rw [Deep.nblk_alloc] at hb; omega)
  have HB : Hid (Below w.heap.size w w1) := (box_below _ _).trans (h2.mono (by rw [Deep.nblk_alloc]; omega))
  clear h1 h2
  go_wp2_with fail
  refine bodyPost_ret (v := .tuple #[v, .int .i64 ((addOut [] t [] defs).2.1 : Int), .bool (addOut [] t [] defs).2.2]) (by simp [results, Tryz.results88, go_sem]) rfl ?_
  exact ⟨v, rfl, HG.out, HB.out⟩
end Go.Proofs.YtiipcgnkfhjpeaaGreatDoor
/-
  THE PROGRAM's StartRun.
-/
namespace Go.Proofs.YtiipcgnkfhjpeaaGreatDoor
set_option linter.unusedVariables false
set_option linter.unusedSimpArgs false
open Go.RowKit

/-- a run by value in memory of its own, and whether -/
def OwnX (r : Rn × Bool) (w : World) (e : Ending) (w' : World) : Prop := ∃ gv, e = .returned (.tuple #[.agg (rnC gv r.1), .bool r.2]) ∧ OwnC w' w.heap.size (fun k => w.heap.size ≤ k) r.1.g gv ∧ Below w.heap.size w w'
set_option maxRecDepth 100000 in
set_option maxHeartbeats 1600000 in
theorem implStart_calls (ds : List Df) (t : Tr) (p c : Value) (w : World) (hp : DIn w ds p) (hk : In w t.kids c) (ht : I64 t.op ∧ I64 t.num) :
    Calls Tryz.prog 67 #[p, .agg #[.int .i64 t.op, .int .i64 t.num, c]] w (OwnX (sxO ds t) w) := by
  have HK : Hid (In w t.kids c) := hk
  have HP : Hid (DIn w ds p) := hp
  have HT := mkHid ht
  obtain ⟨ad, cap, rfl, -, -, -⟩ := hk
  obtain ⟨adp, capp, rfl, -, -, -⟩ := hp
  obtain ⟨W, hW⟩ : ∃ W, W = (w.alloc (.cells #[.int .i64 t.op, .int .i64 t.num, .slice ad t.kids.length cap] 48)).alloc (.cells #[.slice none 0 0, .int .i64 0, .int .i64 0, .int .i64 0, .int .i64 0, .int .i64 0, .int .i64 0] 30) := ⟨_, rfl⟩
  have HB_W : Hid (Below w.heap.size w W) := by rw [hW]; exact (box_below _ _).alloc (by rw [Deep.nblk_alloc]; omega) _
  have HX_W : Hid (W.heap[w.heap.size]? = some (.cells #[.int .i64 t.op, .int .i64 t.num, .slice ad t.kids.length cap] 48)) := by
    rw [hW]; exact (Deep.blk_alloc_lt _ _ _ (by rw [Deep.nblk_alloc]; omega)).trans (Deep.blk_alloc_new _ _)
  have HY_W : Hid (W.heap[w.heap.size + 1]? = some (.cells #[.slice none 0 0, .int .i64 0, .int .i64 0, .int .i64 0, .int .i64 0, .int .i64 0, .int .i64 0] 30)) := by
    have h := Deep.blk_alloc_new (w.alloc (.cells #[.int .i64 t.op, .int .i64 t.num, .slice ad t.kids.length cap] 48)) (.cells #[.slice none 0 0, .int .i64 0, .int .i64 0, .int .i64 0, .int .i64 0, .int .i64 0, .int .i64 0] 30)
    rw [Deep.nblk_alloc] at h
    rw [hW]; exact h
  have HL_W : Hid (W.heap.size = w.heap.size + 2) := by rw [hW, Hid, Deep.nblk_alloc, Deep.nblk_alloc]
  clear ht
  go_enter Tryz.func67, Tryz.ntmps67
  go_wp2_with fail
  rw [← hW]
  clear hW
  refine (implBuild_calls t ds.length _ W (HK.out.next HB_W.out) HT.out.1 HT.out.2).mono ?_
  rintro e w1 ⟨v, rfl, ho, hb1⟩
  have HB1 : Hid (Below w.heap.size w w1) := HB_W.out.trans (hb1.mono HB_W.out.size)
  have HL1 : Hid (w.heap.size + 2 ≤ w1.heap.size) := by have := hb1.size; have := HL_W.out; unfold Hid; omega
  have HY1 := mkHid ((hb1.block _ (by have := HL_W.out; omega)).trans HY_W.out)
  rw [HL_W.out] at ho
  rw [addOut_closed] at ho ⊢
  clear hb1
  cases hr : validB t 0 ds.length with
  | false =>
    have HV : Hid (sxO ds t = (rnZ, false)) := by unfold Hid sxO closedB; rw [hr, Bool.and_false]; rfl
    rw [hr] at ho
    rw [if_neg (by simp)] at ho ⊢
    obtain ⟨ada, capa, rfl⟩ := ho.form
    have y0 := cell_of_blk HY1.out 0 _ rfl
    have y1 := cell_of_blk HY1.out 1 _ rfl
    have y2 := cell_of_blk HY1.out 2 _ rfl
    have y3 := cell_of_blk HY1.out 3 _ rfl
    have y4 := cell_of_blk HY1.out 4 _ rfl
    have y5 := cell_of_blk HY1.out 5 _ rfl
    have y6 := cell_of_blk HY1.out 6 _ rfl
    have fy := frz_of_blk HY1.out
    clear hr ho
    go_wp2_with fail
    refine bodyPost_ret (v := .tuple #[.agg (rnC (.slice none 0 0) rnZ), .bool false]) (by simp [results, Tryz.results67, go_sem, y0, y1, y2, y3, y4, y5, y6, fy, rnC, rnZ]) rfl ?_
    rw [HV.out]
    exact ⟨_, rfl, OwnC.nil _ _ _, st7_below HB1.out (by omega)⟩
  | true =>
    rw [hr] at ho
    rw [if_pos rfl] at ho ⊢
    dsimp only at ho ⊢
    obtain ⟨g0, hg0⟩ : ∃ g0, g0 = (addT [] t []).1 := ⟨_, rfl⟩
    obtain ⟨a0, ha0⟩ : ∃ a0, a0 = (addT [] t []).2 := ⟨_, rfl⟩
    have HVV : Hid (sxO ds t = if progB ds = true then (startX g0 a0, true) else (rnZ, false)) := by unfold Hid sxO closedB; rw [hr, Bool.and_true, hg0, ha0]
    rw [← hg0] at ho
    rw [← ha0]
    obtain ⟨ada, capa, rfl⟩ := ho.form
    have HO := mkHid ho
    clear hr ho hg0 ha0
    go_wp2_with fail
    refine (implProg_calls ds _ w1 (HP.out.next HB1.out)).mono ?_
    rintro e w2 ⟨rfl, hb2⟩
    have HB2 : Hid (Below w.heap.size w w2) := HB1.out.trans (hb2.mono HB1.out.size)
    have HY2 := mkHid ((hb2.block _ (by have := HL1.out; omega)).trans HY1.out)
    have HO2 : Hid (OwnC w2 (w.heap.size + 2) (fun k => w.heap.size + 2 ≤ k) g0 (.slice ada g0.length capa)) := HO.out.next (fun _ h _ => h) (fun k _ hz => hb2.block k hz) (fun k _ hz => hb2.block k hz)
    have y0 := cell_of_blk HY2.out 0 _ rfl
    have y1 := cell_of_blk HY2.out 1 _ rfl
    have y2 := cell_of_blk HY2.out 2 _ rfl
    have y3 := cell_of_blk HY2.out 3 _ rfl
    have y4 := cell_of_blk HY2.out 4 _ rfl
    have y5 := cell_of_blk HY2.out 5 _ rfl
    have y6 := cell_of_blk HY2.out 6 _ rfl
    have fy := frz_of_blk HY2.out
    clear hb2
    cases hpb : progB ds with
    | false =>
      have HV : Hid (sxO ds t = (rnZ, false)) := HVV.out.trans (by rw [hpb]; rfl)
      clear hpb
      go_wp2_with fail
      refine bodyPost_ret (v := .tuple #[.agg (rnC (.slice none 0 0) rnZ), .bool false]) (by simp [results, Tryz.results67, go_sem, y0, y1, y2, y3, y4, y5, y6, fy, rnC, rnZ]) rfl ?_
      rw [HV.out]
      exact ⟨_, rfl, OwnC.nil _ _ _, st7_below HB2.out (by omega)⟩
    | true =>
      have HV : Hid (sxO ds t = (startX g0 a0, true)) := HVV.out.trans (by rw [hpb]; rfl)
      clear hpb
      go_wp2_with fail
      refine bodyPost_ret (v := .tuple #[.agg (rnC (.slice ada g0.length capa) (startX g0 a0)), .bool true]) (by simp [results, Tryz.results67, go_sem, y0, y1, y2, y3, y4, y5, y6, fy, rnC, startX]) rfl ?_
      rw [HV.out]
      exact ⟨_, rfl, (HO2.out.far (fun k hk => st7_far (by omega))).lower (by omega) (fun k hk => by omega), st7_below HB2.out (by omega)⟩
end Go.Proofs.YtiipcgnkfhjpeaaGreatDoor
