/-
  THE PROGRAM's GraphValid (cellFits, isCell, areCells); nothing that was there is changed.
-/
import Derived.Test.YtiipcgnkfhjpeaaMgExactCopyWords2
import Derived.Test.YtiipcgnkfhjpeaaMgExactCopyWords7
import Derived.Test.YtiipcgnkfhjpeaaMgExactCopyWords3
import Derived.Test.YtiipcgnkfhjpeaaMgExactCopyWords1
import Derived.Test.YtiipcgnkfhjpeaaMgExactCopyWords6
import Derived.IntWalk
import Derived.Test.YtiipcgnkfhjpeaaMgExactCopyWords5
import Derived.Deep.LoopGhost
import Derived.BigQuiet
import Derived.Test.YtiipcgnkfhjpeaaProg
namespace Go.Proofs.Ytiipcgnkfhjpeaa
set_option linter.unusedVariables false
set_option linter.unusedSimpArgs false
open Go.RowKit

set_option maxHeartbeats 400000 in
theorem isCell_calls (n cap : Nat) (ad : Option Addr) (a : Int) (w : World) (hn : n ≤ 9223372036854775807) :
    Calls Try.prog 74 #[.slice ad n cap, .int .i64 a] w fun e w' => e = .returned (.bool (isAt n a)) ∧ Below w.heap.size w w' := by
  by_cases h0 : 0 ≤ a
  · by_cases h1 : a < (n : Int)
    · have HV : Hid (isAt n a = true) := isAt_in h0 h1
      go_enter Try.func74, Try.ntmps74
      go_wp2_with fail
      go_ret
      exact ⟨ret_bool HV.out.symm, Below.refl _ _⟩
    · have HV : Hid (isAt n a = false) := isAt_hi h1
      go_enter Try.func74, Try.ntmps74
      go_wp2_with fail
      go_ret
      exact ⟨ret_bool HV.out.symm, Below.refl _ _⟩
  · have HV : Hid (isAt n a = false) := isAt_lo (by omega)
    go_enter Try.func74, Try.ntmps74
    go_wp2_with fail
    go_ret
    exact ⟨ret_bool HV.out.symm, Below.refl _ _⟩

set_option maxHeartbeats 800000 in
theorem areCells_calls (n cap : Nat) (ad : Option Addr) (xs : List Int) (v : Value) (w : World) (hn : n ≤ 9223372036854775807) (hk : IIn w xs v) :
    Calls Try.prog 61 #[.slice ad n cap, v] w fun e w' => e = .returned (.bool (xs.all (isAt n))) ∧ Below w.heap.size w w' := by
  have HK : Hid (IIn w xs v) := hk
  obtain ⟨ad2, cap2, rfl, hl, hm, -⟩ := hk
  unfold maxLen at hm
  go_enter Try.func61, Try.ntmps61
  go_wp2_with fail
  go_loopw [9] (fun i wr => ∃ k : Nat, k ≤ xs.length ∧ i = .int .i64 k ∧ (xs.take k).all (isAt n) = true ∧ Below w.heap.size w wr) (fun i _ => xs.length - (intOf i).toNat)
  case atStart => exact ⟨0, Nat.zero_le _, rfl, by simp, Below.refl _ _⟩
  case round =>
    obtain ⟨k, hk, rfl, hall, hb⟩ := hrel
    have HA : Hid ((xs.take k).all (isAt n) = true) := hall
    have HB : Hid (Below w.heap.size w wr) := hb
    clear hall hb
    by_cases hlt : k < xs.length
    · obtain ⟨bl, off, rfl, d0⟩ := (HK.out.next HB.out).at k hlt
      go_wp2_with fail
      refine (isCell_calls n cap ad xs[k] _ hn).mono ?_
      rintro e w1 ⟨rfl, hb1⟩
      have HB1 : Hid (Below w.heap.size w w1) := HB.out.trans (hb1.mono HB.out.size)
      clear hb1 d0
      cases hc : isAt n xs[k] with
      | false =>
        have HV : Hid (xs.all (isAt n) = false) := allI_false_of _ _ k hlt hc
        clear hc
        go_wp2_with fail
        go_ret
        exact ⟨ret_bool HV.out.symm, HB1.out⟩
      | true =>
        have HA2 : Hid ((xs.take (k + 1)).all (isAt n) = true) := by rw [Hid, allI_take_succ _ _ _ hlt, HA.out, hc]; rfl
        clear hc
        go_wp2_with fail
        go_roundw
        case rel => exact ⟨k + 1, by omega, by go_num, HA2.out, HB1.out⟩
        case measure => simp [intOf]; omega
    · have hke : xs.length = k := by omega
      have HV : Hid (xs.all (isAt n) = true) := all_end HA.out hke
      clear hke
      go_wp2_with fail
      go_ret
      exact ⟨ret_bool HV.out.symm, HB.out⟩

/-- cellFits, for a kind with a node -/
theorem fits_node {defs op num : Int} {n : Nat} (h : op ≠ 11) : topC op num n 0 defs = (decide ((n : Int) = cArity op) && ownB op num 0 defs) := by
  unfold topC cArity; rw [if_neg h]

set_option maxRecDepth 100000 in
set_option maxHeartbeats 800000 in
theorem cellFits_node (op num defs : Int) (n cap : Nat) (ad : Option Addr) (T : TypeId) (x : Value) (K : FuncId) (ok fit : Bool) (hn : NodeAt 0 defs op num n T x K ok fit) (h11 : op ≠ 11) (hm : n ≤ 9223372036854775807) (w : World) :
    Calls Try.prog 60 #[.agg #[.int .i64 op, .int .i64 num, .slice ad n cap], .int .i64 defs] w fun e w' => e = .returned (.bool (topC op num n 0 defs)) ∧ Below w.heap.size w w' := by
  have HN : Hid (NodeAt 0 defs op num n T x K ok fit) := hn
  have HBX : Hid (Below w.heap.size w (w.alloc (.cells #[.int .i64 op, .int .i64 num, .slice ad n cap] 40))) := box_below _ _
  have hme := hn.meth
  have hen := hn.enters
  have HT : Hid ((ok && fit) = topC op num n 0 defs) := hn.top
  have t11 : (op == 11) = false := by simpa using h11
  clear hn h11
  cases hok : ok with
  | false =>
    subst hok
    have HV : Hid (topC op num n 0 defs = false) := by have := HT.out; rw [Bool.false_and] at this; exact this.symm
    clear hme hen
    go_enter Try.func60, Try.ntmps60
    go_wp2_with fail
    refine (HN.out.node _).mono ?_
    rintro e w1 ⟨rfl, hb⟩
    have HB : Hid (Below w.heap.size w w1) := HBX.out.trans (hb.mono HBX.out.size)
    clear hb
    go_wp2_with fail
    go_ret
    exact ⟨ret_bool HV.out.symm, HB.out⟩
  | true =>
    subst hok
    have HV : Hid (topC op num n 0 defs = fit) := by have := HT.out; rw [Bool.true_and] at this; exact this.symm
    go_enter Try.func60, Try.ntmps60
    go_wp2_with fail
    refine (HN.out.node _).mono ?_
    rintro e w1 ⟨rfl, hb⟩
    have HB : Hid (Below w.heap.size w w1) := HBX.out.trans (hb.mono HBX.out.size)
    clear hb
    go_wp2_with fail
    refine (HN.out.fits rfl _).mono ?_
    rintro e w2 ⟨rfl, hb⟩
    have HB2 : Hid (Below w.heap.size w w2) := HB.out.trans (hb.mono HB.out.size)
    clear hb
    go_wp2_with fail
    go_ret
    exact ⟨ret_bool HV.out.symm, HB2.out⟩

set_option maxHeartbeats 800000 in
theorem cellFits_ind (num defs : Int) (n cap : Nat) (ad : Option Addr) (hm : n ≤ 9223372036854775807) (w : World) :
    Calls Try.prog 60 #[.agg #[.int .i64 11, .int .i64 num, .slice ad n cap], .int .i64 defs] w fun e w' => e = .returned (.bool ((num == 0) && ((n : Int) == 1))) ∧ Below w.heap.size w w' := by
  have HBX : Hid (Below w.heap.size w (w.alloc (.cells #[.int .i64 11, .int .i64 num, .slice ad n cap] 40))) := box_below _ _
  cases hnum : (num == 0) with
  | false =>
    go_enter Try.func60, Try.ntmps60
    go_wp2_with fail
    go_ret
    exact ⟨rfl, HBX.out⟩
  | true =>
    go_enter Try.func60, Try.ntmps60
    go_wp2_with fail
    go_ret
    exact ⟨rfl, HBX.out⟩

theorem cellFits_calls (c : Ce) (defs : Int) (v : Value) (w : World) (hk : IIn w c.kids v) :
    Calls Try.prog 60 #[.agg #[.int .i64 c.op, .int .i64 c.num, v], .int .i64 defs] w fun e w' => e = .returned (.bool (fitsB defs c)) ∧ Below w.heap.size w w' := by
  obtain ⟨ad, cap, rfl, hl, hm, -⟩ := hk
  have hm' : c.kids.length ≤ 9223372036854775807 := by unfold maxLen at hm; omega
  by_cases h11 : c.op = 11
  · have hv : fitsB defs c = ((c.num == 0) && ((c.kids.length : Int) == 1)) := by
      unfold fitsB cArity ownB
      rw [h11, if_pos rfl, if_neg (by omega), if_neg (by omega), if_neg (by omega), Bool.and_comm]
      rfl
    rw [hv, h11]
    exact cellFits_ind _ _ _ _ _ hm' w
  have hv : fitsB defs c = topC c.op c.num c.kids.length 0 defs := (fits_node h11).symm
  rw [hv]
  by_cases e1 : c.op = 1
  · exact cellFits_node _ _ _ _ _ _ _ _ _ _ _ (nodeAt_1 0 defs c.op c.num c.kids.length e1) h11 hm' w
  by_cases e2 : c.op = 2
  · exact cellFits_node _ _ _ _ _ _ _ _ _ _ _ (nodeAt_2 0 defs c.op c.num c.kids.length e2) h11 hm' w
  by_cases e3 : c.op = 3
  · exact cellFits_node _ _ _ _ _ _ _ _ _ _ _ (nodeAt_3 0 defs c.op c.num c.kids.length e3) h11 hm' w
  exact cellFits_node _ _ _ _ _ _ _ _ _ _ _ (nodeAt_o 0 defs c.op c.num c.kids.length e1 e2 e3) h11 hm' w

theorem cellB_fits {cells defs : Int} {c : Ce} (h : fitsB defs c = false) : cellB cells defs c = false := by unfold cellB; rw [h]; rfl
theorem cellB_kids {cells defs : Int} {c : Ce} (h : fitsB defs c = true) : cellB cells defs c = c.kids.all (isAt cells) := by unfold cellB; rw [h]; rfl

set_option maxHeartbeats 800000 in
theorem implGraph_calls (g : List Ce) (defs : Int) (v : Value) (w : World) (hk : CIn w g v) :
    Calls Try.prog 37 #[v, .int .i64 defs] w fun e w' => e = .returned (.bool (graphB g defs)) ∧ Below w.heap.size w w' := by
  have HK : Hid (CIn w g v) := hk
  obtain ⟨ad, cap, rfl, hl, hm, -⟩ := hk
  unfold maxLen at hm
  by_cases hlim : (g.length : Int) ≤ 400 ∧ 0 ≤ defs ∧ defs ≤ 6
  · have HLM : Hid ((g.length : Int) ≤ 400 ∧ 0 ≤ defs ∧ defs ≤ 6) := hlim
    obtain ⟨l1, l2, l3⟩ := hlim
    go_enter Try.func37, Try.ntmps37
    go_wp2_with fail
    go_loopw [20] (fun i wr => ∃ k : Nat, k ≤ g.length ∧ i = .int .i64 k ∧ (g.take k).all (cellB g.length defs) = true ∧ Below w.heap.size w wr) (fun i _ => g.length - (intOf i).toNat)
    case atStart => exact ⟨0, Nat.zero_le _, rfl, by simp, Below.refl _ _⟩
    case round =>
      obtain ⟨k, hk, rfl, hall, hb⟩ := hrel
      have HA : Hid ((g.take k).all (cellB g.length defs) = true) := hall
      have HB : Hid (Below w.heap.size w wr) := hb
      clear hall hb
      by_cases hlt : k < g.length
      · obtain ⟨bl, off, r, rfl, c0, c1, c2, -, -, hkk⟩ := (HK.out.next HB.out).at k hlt
        obtain ⟨ad2, cap2, rfl, -, -, -⟩ := id hkk
        have HKK : Hid (IIn wr g[k].kids (.slice ad2 g[k].kids.length cap2)) := hkk
        clear hkk
        go_wp2_with fail
        refine (cellFits_calls g[k] defs _ _ (HKK.out.next (box_below _ _))).mono ?_
        rintro e w1 ⟨rfl, hb1⟩
        have HB0 : Hid (Below wr.heap.size wr w1) := (box_below _ _).trans (hb1.mono (by rw [Deep.nblk_alloc]; omega))
        have HB1 : Hid (Below w.heap.size w w1) := HB.out.trans (HB0.out.mono HB.out.size)
        have b2 := (hb1.cell (p := ⟨wr.heap.size, 2, none⟩) (by rw [Deep.nblk_alloc]; exact Nat.lt_succ_self _)).trans (box_cell wr #[.int .i64 g[k].op, .int .i64 g[k].num, .slice ad2 g[k].kids.length cap2] 40 2 _ rfl)
        clear hb1 c0 c1 c2
        cases hc : fitsB defs g[k] with
        | false =>
          have HV : Hid (graphB g defs = false) := graphB_cellNo k hlt (cellB_fits hc)
          clear hc
          go_wp2_with fail
          go_ret
          exact ⟨ret_bool HV.out.symm, HB1.out⟩
        | true =>
          have HC : Hid (cellB (g.length : Int) defs g[k] = g[k].kids.all (isAt g.length)) := cellB_kids hc
          clear hc
          go_wp2_with fail
          refine (areCells_calls g.length cap _ g[k].kids _ _ (by omega) (HKK.out.next HB0.out)).mono ?_
          rintro e w2 ⟨rfl, hb2⟩
          have HB2 : Hid (Below w.heap.size w w2) := HB1.out.trans (hb2.mono HB1.out.size)
          clear hb2 b2
          cases hc2 : g[k].kids.all (isAt (g.length : Int)) with
          | false =>
            have HV : Hid (graphB g defs = false) := graphB_cellNo k hlt (by rw [HC.out, hc2])
            clear hc2
            go_wp2_with fail
            go_ret
            exact ⟨ret_bool HV.out.symm, HB2.out⟩
          | true =>
            have HA2 : Hid ((g.take (k + 1)).all (cellB g.length defs) = true) := by rw [Hid, allI_take_succ _ _ _ hlt, HA.out, HC.out, hc2]; rfl
            clear hc2
            go_wp2_with fail
            go_roundw
            case rel => exact ⟨k + 1, by omega, by go_num, HA2.out, HB2.out⟩
            case measure => simp [intOf]; omega
      · have hke : g.length = k := by omega
        have HV : Hid (graphB g defs = true) := graphB_yes HLM.out (all_end HA.out hke)
        clear hke
        go_wp2_with fail
        go_ret
        exact ⟨ret_bool HV.out.symm, HB.out⟩
  · have HV : Hid (graphB g defs = false) := graphB_no hlim
    by_cases l1 : (g.length : Int) ≤ 400
    · by_cases l2 : 0 ≤ defs
      · have l3 : ¬ defs ≤ 6 := fun h => hlim ⟨l1, l2, h⟩
        clear hlim
        go_enter Try.func37, Try.ntmps37
        go_wp2_with fail
        go_ret
        exact ⟨ret_bool HV.out.symm, Below.refl _ _⟩
      · clear hlim
        go_enter Try.func37, Try.ntmps37
        go_wp2_with fail
        go_ret
        exact ⟨ret_bool HV.out.symm, Below.refl _ _⟩
    · clear hlim
      go_enter Try.func37, Try.ntmps37
      go_wp2_with fail
      go_ret
      exact ⟨ret_bool HV.out.symm, Below.refl _ _⟩
end Go.Proofs.Ytiipcgnkfhjpeaa
/-
  ONE ROW OF NUMBERS OF ITS OWN; a graph that keeps its rows while it is marked.
-/
namespace Go.Proofs.Ytiipcgnkfhjpeaa
set_option linter.unusedVariables false
set_option linter.unusedSimpArgs false
open Go.RowKit

/-- numbers in the row b -/
def OneRow (w : World) (b : Nat) (X : List Int) (v : Value) : Prop := KRow w [b] X b v
theorem OneRow.keep {w w' : World} {b : Nat} {X : List Int} {v : Value} (h : OneRow w b X v) (hb : ∀ k, k = b → k < w.heap.size → w'.heap[k]? = w.heap[k]?) : OneRow w' b X v := by
  unfold OneRow at h ⊢
  refine h.keep (fun _ h => h) fun hx hm => ?_
  obtain ⟨_, _, _, _, _, h5⟩ := h
  rcases h5 with h5 | ⟨f5, -, -, h6, -⟩
  · exact absurd h5 hx
  · exact hb _ rfl h6.lt
theorem OneRow.next {w w' : World} {b : Nat} {X : List Int} {v : Value} (h : OneRow w b X v) (hb : Below w.heap.size w w') : OneRow w' b X v := h.keep fun k _ hk => hb.block k hk
theorem OneRow.form {w : World} {b : Nat} {X : List Int} {v : Value} (h : OneRow w b X v) : ∃ ad cap, v = .slice ad X.length cap := by
  obtain ⟨ad, cap, e, -⟩ := h; exact ⟨ad, cap, e⟩
theorem OneRow.inn {w : World} {b : Nat} {X : List Int} {v : Value} (h : OneRow w b X v) : IIn w X v := by
  obtain ⟨ad, cap, e, l1, l2, h⟩ := h
  refine ⟨ad, cap, e, l1, l2, h.imp id ?_⟩
  rintro ⟨f, rfl, -, hr, hf⟩
  exact ⟨b, 0, rfl, hr.lt, fun i hi => by rw [Nat.zero_add, hr.cell (by omega), hf i hi]⟩
theorem OneRow.nil (w : World) (b : Nat) (ad : Option Addr) (cap : Nat) (h : cap ≤ maxLen) : OneRow w b [] (.slice ad 0 cap) := ⟨ad, cap, rfl, Nat.zero_le _, h, Or.inl rfl⟩
theorem one_of_row {w : World} {lo : Nat} {X : List Int} {v : Value} (h : IntRow w lo X v) (d : Nat) : ∃ b, OneRow w b X v ∧ ((X ≠ [] ∧ lo ≤ b ∧ b < w.heap.size ∧ v.ownBlock = some b) ∨ b = d) := by
  obtain ⟨ad, cap, e, l1, l2, h⟩ := h
  by_cases hx : X = []
  · exact ⟨d, ⟨ad, cap, e, l1, l2, Or.inl hx⟩, Or.inr rfl⟩
  · rcases h with h | ⟨g, f, rfl, hg, hr, hf⟩
    · exact absurd h hx
    · exact ⟨g, ⟨_, cap, e, l1, l2, Or.inr ⟨f, rfl, by simp, hr, hf⟩⟩, Or.inl ⟨hx, hg, hr.lt, by rw [e]; rfl⟩⟩
theorem markOne_calls (X : List Int) (b : Nat) (v : Value) (k : Int) (w : World) (h : OneRow w b X v) (h0 : 0 ≤ k) (h1 : k + (X.length : Int) ≤ 1152921504606846976) :
    Calls Try.prog 16 #[v, .int .i64 k] w fun e w' => e = .returned (.int .i64 (k + (X.length : Int))) ∧ OneRow w' b (upFrom k X.length) v ∧ ButL [b] w w' :=
  (markK_calls X [b] b v k w h h0 h1).mono fun e w' h => ⟨h.1, h.2.1, h.2.2.1⟩

/-- what a call hands back: a graph and numbers, in rows of their own -/
def GIRes (G : List Ce) (X : List Int) (gv tv : Value) (w w' : World) : Prop :=
  ∃ fG bL, GOwn w' fG G gv ∧ (∀ k ∈ fG, w.heap.size ≤ k ∧ k < w'.heap.size) ∧ OneRow w' bL X tv ∧ w.heap.size ≤ bL ∧ bL ∉ fG
theorem GIRes.inn {G : List Ce} {X : List Int} {gv tv : Value} {w w' : World} (h : GIRes G X gv tv w w') : CIn w' G gv ∧ IIn w' X tv := by
  obtain ⟨fG, bL, h1, -, h3, -⟩ := h
  exact ⟨h1.inn, h3.inn⟩
theorem IntRow.shape {w : World} {lo : Nat} {xs : List Int} {v : Value} (h : IntRow w lo xs v) : IShape w (List.range' lo (w.heap.size - lo)) xs.length v := by
  obtain ⟨ad, cap, e, l1, l2, h⟩ := h
  refine ⟨ad, cap, e, l1, l2, ?_⟩
  rcases h with rfl | ⟨b, f, rfl, hb, hr, -⟩
  · exact Or.inl rfl
  · exact Or.inr ⟨b, f, rfl, by rw [List.mem_range'_1]; have := hr.lt; omega, hr⟩
theorem IShape.blocks {fp : List Nat} {w w' : World} {n : Nat} {v : Value} (h : IShape w fp n v) (k : ∀ b ∈ fp, w'.heap[b]? = w.heap[b]?) : IShape w' fp n v := by
  obtain ⟨ad, cap, e, l1, l2, h⟩ := h
  refine ⟨ad, cap, e, l1, l2, h.imp id ?_⟩
  rintro ⟨g, f, rfl, hg, hr⟩
  exact ⟨g, f, rfl, hg, hr.of_block (k g hg)⟩
theorem GIRes.lower {G : List Ce} {X : List Int} {gv tv : Value} {w w1 w' : World} (h : GIRes G X gv tv w1 w') (hl : w.heap.size ≤ w1.heap.size) : GIRes G X gv tv w w' := by
  obtain ⟨fG, bL, h1, h2, h3, h4, h5⟩ := h
  exact ⟨fG, bL, h1, fun k hk => ⟨Nat.le_trans hl (h2 k hk).1, (h2 k hk).2⟩, h3, Nat.le_trans hl h4, h5⟩
end Go.Proofs.Ytiipcgnkfhjpeaa
/-
  THE PROGRAM's PackGraph.
-/
namespace Go.Proofs.Ytiipcgnkfhjpeaa
set_option linter.unusedVariables false
set_option linter.unusedSimpArgs false
open Go.RowKit


/-- two lists of numbers in rows of their own -/
def TwoRows (X Y : List Int) (t s : Value) (w w' : World) : Prop := ∃ b0 b1, (OneRow w' b0 X t ∧ OneRow w' b1 Y s) ∧ (w.heap.size ≤ b0 ∧ w.heap.size ≤ b1) ∧ b0 ≠ b1
theorem two_rows {w w1 w' : World} {X Y : List Int} {t s : Value} (hs : IntRow w1 w.heap.size Y s) (hb : Below w1.heap.size w1 w') (ht : IntRow w' w1.heap.size X t) (hl : w.heap.size ≤ w1.heap.size) : TwoRows X Y t s w w' := by
  obtain ⟨b0, h0, c0⟩ := one_of_row ht w'.heap.size
  have hb0 : w1.heap.size ≤ b0 := by have := hb.size; rcases c0 with c0 | c0 <;> omega
  obtain ⟨ad, cap, rfl, l1, l2, h⟩ := hs
  rcases h with rfl | ⟨g, f, rfl, hg, hr, hf⟩
  · exact ⟨b0, b0 + 1, ⟨h0, OneRow.nil _ _ _ _ l2⟩, ⟨by omega, by omega⟩, by omega⟩
  · have h1 : OneRow w1 g Y (.slice (some ⟨g, 0, none⟩) Y.length cap) := ⟨_, cap, rfl, l1, l2, Or.inr ⟨f, rfl, by simp, hr, hf⟩⟩
    exact ⟨b0, g, ⟨h0, h1.next hb⟩, ⟨by omega, hg⟩, by have := hr.lt; omega⟩
theorem two_nil (w w' : World) : TwoRows [] [] (.slice none 0 0) (.slice none 0 0) w w' :=
  ⟨w.heap.size, w.heap.size + 1, ⟨OneRow.nil _ _ _ _ (by simp [maxLen]), OneRow.nil _ _ _ _ (by simp [maxLen])⟩, ⟨Nat.le_refl _, by omega⟩, by omega⟩
/-- the answer of PackGraph -/
def OwnPack (r : List Int × List Int × Bool) (w : World) (e : Ending) (w' : World) : Prop := ∃ t s, e = .returned (.tuple #[t, s, .bool r.2.2]) ∧ TwoRows r.1 r.2.1 t s w w' ∧ Below w.heap.size w w'

        end Go.Proofs.Ytiipcgnkfhjpeaa
/-
  THE PROGRAM's ForwardStep.
-/
namespace Go.Proofs.Ytiipcgnkfhjpeaa
set_option linter.unusedVariables false
set_option linter.unusedSimpArgs false
open Go.RowKit


theorem KeepQ.base {Q S lo : Nat} {w w1 w2 : World} (h : Below lo w w1) (k : KeepQ Q S w1 w2) (hQ : lo ≤ Q) (hS : lo ≤ S) (hl : lo ≤ w1.heap.size) : Below lo w w2 :=
  ⟨k.os.trans h.os, k.tape.trans h.tape, k.output.trans h.output, Nat.le_trans h.size k.size, fun j hj => (k.block j (by omega) (by omega) (by omega)).trans (h.block j hj)⟩
theorem MvW.drew {w : World} {M Q S : Nat} {F T : List Int} {fs ts : Int} (h : MvW w M Q S F T fs ts) : MvW w.drew M Q S F T fs ts := ⟨h.box, h.old.keep rfl, h.new.keep rfl, h.ne⟩
end Go.Proofs.Ytiipcgnkfhjpeaa
/-
  THE PROGRAM's wordMover: forwardAll in a row of its own.
-/
namespace Go.Proofs.Ytiipcgnkfhjpeaa
set_option linter.unusedVariables false
set_option linter.unusedSimpArgs false
open Go.RowKit


theorem MvW.far {w w' : World} {M Q S : Nat} {F T : List Int} {fs ts : Int} (h : MvW w M Q S F T fs ts) (hM : w'.heap[M]? = w.heap[M]?) (hQ : w'.heap[Q]? = w.heap[Q]?) (hS : w'.heap[S]? = w.heap[S]?) : MvW w' M Q S F T fs ts := ⟨hM.trans h.box, h.old.keep hQ, h.new.keep hS, h.ne⟩
set_option maxRecDepth 100000 in
set_option maxHeartbeats 1600000 in
theorem forwardAllT_calls (M Q S b lo : Nat) (ws st r : List Int) (fs ts : Int) (v : Value) (w0 w : World) (hg : GoodW ws st) (hr : ∀ x ∈ r, x ∈ st) (h : MvW w M Q S ws [] fs ts) (hv : StkI w lo r v) (hrl : r.length ≤ 20)
    (hlo : M < lo ∧ Q < lo ∧ S < lo) (hb : Below b w0 w) (hbb : b ≤ Q ∧ b ≤ S ∧ b ≤ lo ∧ b ≤ w.heap.size) :
    Calls Try.prog 48 #[.pointer (some ⟨M, 0, none⟩), v] w fun e w' => e = .returned (.tuple #[]) ∧ MvW w' M Q S (tpN ws r r.length).1 (tpN ws r r.length).2.1 fs ts ∧ StkI w' lo (tpN ws r r.length).2.2 v ∧ Below b w0 w' ∧ w.heap.size ≤ w'.heap.size := by
  have HG := mkHid hg
  have HR := mkHid hr
  have H := mkHid h
  have HV := mkHid hv
  have HB0 := mkHid hb
  have HBB := mkHid hbb
  have HLO := mkHid hlo
  obtain ⟨ad, cap, rfl⟩ := hv.len
  obtain ⟨_, cap2, he, hc1, hc2, -⟩ := hv.row
  simp only [Value.slice.injEq] at he
  obtain ⟨-, -, rfl⟩ := he
  unfold maxLen at hc2
  clear hg hr h hv hb
  go_enter Try.func48, Try.ntmps48
  go_wp2_with fail
  go_loopw [8] (fun a wr => ∃ q : Nat, a = .int .i64 q ∧ q ≤ r.length ∧ MvW wr M Q S (tpN ws r q).1 (tpN ws r q).2.1 fs ts ∧ StkI wr lo (topL ws r q) (.slice ad r.length cap) ∧ Below b w0 wr ∧ w.heap.size ≤ wr.heap.size) (fun a _ => r.length - (intOf a).toNat)
  case atStart => exact ⟨0, rfl, Nat.zero_le _, H.out, HV.out, HB0.out, Nat.le_refl _⟩
  case round =>
    obtain ⟨q, rfl, hq, hmv, hst, hbq, hsz⟩ := hrel
    by_cases hlt : q < r.length
    · obtain ⟨wo, rfl⟩ : ∃ wo : World, wo = wr := ⟨_, rfl⟩
      obtain ⟨a, hra, has, -⟩ := root_at HG.out HR.out hlt
      have hinv := tpN_inv HG.out HR.out q (by omega)
      have HN := mkHid (tpN_next (F := ws) (st := []) hra)
      have HTN := mkHid (topL_next (F := ws) hlt hra)
      have hca := hinv.can HG.out has
      have hfl : (fwd (tpN ws r q).1 (tpN ws r q).2.1 a).2.1.length ≤ 1600 := (hinv.fwd HG.out has).lenT HG.out
      obtain ⟨g, cp, cur, he, hgl, d0, hgb, -, -⟩ := stki_cellAt hst (a := q) (by rw [topL_len (by omega)]; exact hlt)
      rw [topL_at hlt, hra] at d0
      simp only [Value.slice.injEq] at he
      obtain ⟨rfl, -, -⟩ := he
      have HCA := mkHid hca
      have HFL := mkHid hfl
      have HMV := mkHid hmv
      have HST := mkHid hst
      have HBQ := mkHid hbq
      have HGL := mkHid hgl
      have HGB := mkHid hgb
      generalize hF1 : (tpN ws r q).1 = F1 at *
      generalize hT1 : (tpN ws r q).2.1 = T1 at *
      clear hmv hst hbq hca hfl hinv hra has hgb hF1 hT1
      go_wp2_with fail
      refine (forward_calls M Q S a F1 T1 fs ts wo HMV.out HCA.out HFL.out).mono ?_
      rintro e w5 ⟨rfl, hm5, hk5⟩
      have hgQ : g ≠ Q := by have := HLO.out; omega
      have hgS : g ≠ S := by have := HLO.out; omega
      have hg5 : w5.heap[g]? = wo.heap[g]? := hk5.block g (Array.getElem?_eq_some_iff.1 HGB.out).1 hgQ hgS
      have HST5 : Hid (StkI w5 lo (topL ws r q) (.slice (some ⟨g, 0, none⟩) r.length cap)) := stki_blk HST.out hg5
      have hblk := hg5.trans HGB.out
      have f5 := frz_of_blk hblk q
      obtain ⟨y, c5⟩ : ∃ y, w5.cell? ⟨g, q, none⟩ = some y := by
        obtain ⟨g2, cp2, cur2, he2, -, d2, -, -, -⟩ := stki_cellAt HST5.out (a := q) (by rw [topL_len (by omega)]; exact hlt)
        simp only [Value.slice.injEq, Option.some.injEq, Addr.mk.injEq, and_true] at he2
        obtain ⟨rfl, -, -⟩ := he2
        exact ⟨_, d2⟩
      have HST6 : Hid (StkI (w5.setCell ⟨g, q, none⟩ (.int .i64 (fwd F1 T1 a).2.2)) lo (topL ws r (q + 1)) (.slice (some ⟨g, 0, none⟩) r.length cap)) := by rw [HTN.out]; exact stki_set HST5.out
      have HM6 : Hid (MvW (w5.setCell ⟨g, q, none⟩ (.int .i64 (fwd F1 T1 a).2.2)) M Q S (fwd F1 T1 a).1 (fwd F1 T1 a).2.1 fs ts) := hm5.far (Below.heap_setCell _ _ _ _ (by show M ≠ g; have := HLO.out; have := HGL.out; omega)) (Below.heap_setCell _ _ _ _ hgQ.symm) (Below.heap_setCell _ _ _ _ hgS.symm)
      have HB6 : Hid (Below b w0 (w5.setCell ⟨g, q, none⟩ (.int .i64 (fwd F1 T1 a).2.2))) := (KeepQ.base HBQ.out hk5 HBB.out.1 HBB.out.2.1 (Nat.le_trans HBB.out.2.2.2 hsz)).setCell (Nat.le_trans HBB.out.2.2.1 HGL.out) _
      have HZ6 : Hid (w.heap.size ≤ (w5.setCell ⟨g, q, none⟩ (.int .i64 (fwd F1 T1 a).2.2)).heap.size) := by rw [Hid, size_setCell]; exact Nat.le_trans hsz hk5.size
      clear hm5 hk5 d0 hg5 hblk
      go_wp2_with fail
      go_roundw
      case rel => first | exact ⟨q + 1, by go_num, by omega, by rw [HN.out]; exact HM6.out, HST6.out, HB6.out, HZ6.out⟩ | ((repeat apply Exists.intro); exact ⟨⟨q + 1, by go_num, by omega, by rw [HN.out]; exact HM6.out, HST6.out, HB6.out, HZ6.out⟩, rfl⟩)
      case measure => simp [intOf]; omega
    · obtain rfl : q = r.length := by omega
      rw [topL_all] at hst
      have HMV := mkHid hmv
      have HST := mkHid hst
      have HBQ := mkHid hbq
      have HSZ := mkHid hsz
      clear hmv hst hbq hsz
      go_wp2_with fail
      refine bodyPost_end (results_none rfl _ _ _) rfl ?_
      exact ⟨rfl, HMV.out, HST.out, HBQ.out, HSZ.out⟩
end Go.Proofs.Ytiipcgnkfhjpeaa
/-
  THE PROGRAM's unpack, UnpackWords, AddressesOf.
-/
namespace Go.Proofs.Ytiipcgnkfhjpeaa
set_option linter.unusedVariables false
set_option linter.unusedSimpArgs false
open Go.RowKit


theorem oc_formI {w : World} {lo : Nat} {S : Nat → Prop} {g : List Ce} {v : Value} (h : OwnC w lo S g v) : ∃ ad n cap, v = .slice ad n cap := by obtain ⟨ad, cap, e⟩ := h.form; exact ⟨ad, _, cap, e⟩
theorem cellW_64I {ws : List Int} {a : Nat} (hw : ∀ x ∈ ws, I64 x) (ha : a < ws.length) (h : WholeAt ws a) : I64 (cellW ws a).op ∧ I64 (cellW ws a).num := by
  have h2 := wLen_pos h.1
  have h3 := h.2
  refine ⟨by rw [cellW_op, opW_at ha]; exact hw _ (List.getElem_mem ha), ?_⟩
  cases h : isNumOp (opW ws a) with
  | true => rw [cellW_num h]; show I64 (opW ws (a + 1)); rw [opW_at (by omega)]; exact hw _ (List.getElem_mem _)
  | false => rw [cellW_kid h]; unfold I64; simp
theorem ow_low {w : World} {lo lo' : Nat} {g : List Ce} {v : Value} (h : OwnC w lo (fun b => lo ≤ b) g v) (hl : lo' ≤ lo) : OwnC w lo' (fun b => lo' ≤ b) g v := by
  obtain ⟨hi0, xs, kb, h1, h2, h3⟩ := h
  refine ⟨hi0, xs, kb, ⟨h1.1, ?_⟩, fun j hj => ?_, h3⟩
  · rcases h1.2 with h | ⟨g, cap, cur, rfl, hg, r⟩
    · exact Or.inl h
    · exact Or.inr ⟨g, cap, cur, rfl, Nat.le_trans hl hg, r⟩
  · obtain ⟨kv, e0, e1, e2, e3⟩ := h2 j hj
    exact ⟨kv, e0, e1, e2, e3.keep (fun k hk _ => Nat.le_trans hl hk) fun _ _ _ _ => rfl⟩
theorem plcB_all {st xs : List Int} (h : plcB st xs = false) : ∃ x ∈ xs, idxI st x = -1 := by
  unfold plcB at h
  rw [List.all_eq_false] at h
  obtain ⟨x, hx, h1⟩ := h
  refine ⟨x, hx, ?_⟩
  have := (idxI_bound st x).1
  simp at h1
  omega
/-- a graph in rows of its own and addresses, and whether there are any -/
def OwnUnp (r : List Ce × List Int × Bool) (w : World) (e : Ending) (w' : World) : Prop := ∃ gv t, e = .returned (.tuple #[gv, t, .bool r.2.2]) ∧ OwnC w' w.heap.size (fun b => w.heap.size ≤ b) r.1 gv ∧ IntRow w' w.heap.size r.2.1 t ∧ Below w.heap.size w w'
set_option maxRecDepth 100000 in
set_option maxHeartbeats 1600000 in
theorem unpack_calls (ws : List Int) (v : Value) (w : World) (hk : IIn w ws v) (hw : ∀ x ∈ ws, I64 x) (hl : ws.length ≤ 1048576) :
    Calls Try.prog 41 #[v] w (OwnUnp (unpO ws) w) := by
  have HK := mkHid hk
  have HW := mkHid hw
  obtain ⟨ad, cap, rfl, hlc, hm, -⟩ := hk
  unfold maxLen at hm
  clear hw
  go_enter Try.func41, Try.ntmps41
  have HNIL : Hid (∀ w', Below w.heap.size w w' → unpO ws = ([], [], false) → OwnUnp (unpO ws) w (.returned (.tuple #[.slice none 0 0, .slice none 0 0, .bool false])) w') := fun w' hb h => by
    rw [h]; exact ⟨_, _, rfl, OwnC.nil _ _ _, IntRow.none _ _, hb⟩
  by_cases hbig : ws.length ≤ 1600
  case neg =>
    have HV := mkHid (unpO_long hbig)
    have hb' : (1600 : Int) < (ws.length : Int) := by omega
    clear hbig
    go_wp2_with fail
    refine bodyPost_ret (v := .tuple #[.slice none 0 0, .slice none 0 0, .bool false]) (by simp [results, Try.results41, go_sem]) rfl ?_
    exact HNIL.out _ (Below.refl _ _) HV.out
  go_wp2_with fail
  refine (startsOf_calls ws _ w HK.out hl).mono ?_
  rintro e w2 ⟨sv, rfl, hsv, hb2⟩
  have HB2 := mkHid hb2
  have HSV := mkHid hsv
  clear hsv hb2
  obtain ⟨bs, hbs⟩ : ∃ bs, bs = (startsW ws 0).isSome := ⟨_, rfl⟩
  rw [← hbs]
  cases hst : startsW ws 0 with
  | none =>
    have HV := mkHid (unpO_none hst)
    obtain rfl : bs = false := by rw [hbs, hst]; rfl
    clear hst hbs
    go_wp2_with fail
    refine bodyPost_ret (v := .tuple #[.slice none 0 0, .slice none 0 0, .bool false]) (by simp [results, Try.results41, go_sem]) rfl ?_
    exact HNIL.out _ HB2.out HV.out
  | some st =>
    rw [hst] at HSV
    obtain rfl : bs = true := by rw [hbs, hst]; rfl
    clear hbs
    have HST := mkHid hst
    have HSO := mkHid (starts_sorted hst)
    have hsm := starts_small hst
    have HSC : Hid (∀ x ∈ st, CellAt ws x) := fun x hx => starts_cell HST.out hx
    clear hst
    have HSR : Hid (IntRow w2 w.heap.size st sv) := (show StkI w2 w.heap.size st sv from HSV.out).row
    have HSI : Hid (IIn w2 st sv) := HSR.out.inn
    obtain ⟨ads, caps, rfl, -, -, -⟩ := id HSI.out
    obtain ⟨iC, zC, hII⟩ := infoC1
    have HII := mkHid hII
    clear hII
    go_wp2_with fail
    go_loopw [7, 25] (fun o i wr => ∃ j : Nat, j ≤ st.length ∧ i = .int .i64 j ∧ OwnC wr w2.heap.size (fun b => w2.heap.size ≤ b ∧ b < wr.heap.size) (graphTo ws st j) o ∧ Below w2.heap.size w2 wr) (fun _ i _ => st.length - (intOf i).toNat)
    case atStart => exact ⟨0, Nat.zero_le _, rfl, by rw [graphTo_zero]; exact OwnC.nil _ _ _, Below.refl _ _⟩
    case round =>
      obtain ⟨j, hj, rfl, hown, hb⟩ := hrel
      obtain ⟨wo, rfl⟩ : ∃ wo : World, wo = wr := ⟨_, rfl⟩
      obtain ⟨ado, capo, rfl⟩ := hown.form
      rw [graphTo_len hj] at hown ⊢
      have HO := mkHid hown
      have HB := mkHid hb
      by_cases hlt : j < st.length
      · obtain ⟨b0, o0, rfl, d0w⟩ := HSI.out.at j hlt
        obtain ⟨a, hae, ha, hc, he⟩ := HSC.out _ (List.getElem_mem hlt)
        rw [hae] at d0w
        have d0 := (hb.cell (p := ⟨b0, o0 + j, none⟩) (cell_lt d0w)).trans d0w
        have HSN := mkHid (graphTo_snoc (ws := ws) hlt hae)
        have HMISS : Hid (∀ x ∈ (cellW ws a).kids, idxI st x = -1 → graphB (graphW ws st) 6 = false) := fun x hx hi => graph_miss hlt hae hx hi
        rw [← opW_at ha] at hc he
        have HWA : Hid (WholeAt ws a) := ⟨hc, he⟩
        have H64 := mkHid (cellW_64I HW.out ha HWA.out)
        obtain ⟨bl, off, rfl, -⟩ := HK.out.at a ha
        have HKW : Hid (∀ W, Below w2.heap.size w2 W → IIn W ws (.slice (some ⟨bl, off, none⟩) ws.length cap)) := fun W hW => HK.out.next (HB2.out.trans (hW.mono HB2.out.size))
        clear hown hb d0w hae hc he
        go_wp2_with fail
        refine (wordsAt_yes ws a bl off cap wo (HKW.out wo HB.out) ha HWA.out hl).mono ?_
        rintro e w5 ⟨rfl, hb5⟩
        have HB5 : Hid (Below wo.heap.size wo w5) := hb5
        obtain ⟨n, hn⟩ : ∃ n : Nat, n = wLen (opW ws a) := ⟨_, rfl⟩
        rw [← hn]
        have HCI : Hid (∀ W, Below w2.heap.size w2 W → CellIn ws a n bl (off + a) (cap - a) W) := fun W hW => by
          have h2 := wLen_pos HWA.out.1
          have h3 := HWA.out.2
          rw [← hn] at h2 h3
          refine ⟨hn, h2, by omega, by omega, fun q hq => ?_, h3⟩
          obtain ⟨b9, o9, e9, d9⟩ := (HKW.out W hW).at (a + q) (by omega)
          simp only [Option.some.injEq, Addr.mk.injEq, and_true] at e9
          obtain ⟨rfl, rfl⟩ := e9
          rw [opW_at (by omega), Nat.add_assoc]
          exact d9
        clear hb5 hn d0 ha
        go_wp2_with fail
        refine (cellOf_calls ws a n bl (off + a) (cap - a) w5 (HCI.out w5 (HB.out.trans (HB5.out.mono HB.out.size))) hl).mono ?_
        rintro e w6 ⟨kv, rfl, hkv, hb6⟩
        obtain ⟨c, hcw⟩ : ∃ c, c = cellW ws a := ⟨_, rfl⟩
        have HKL : Hid (c.kids.length ≤ 3) := by
          rw [hcw, Hid]
          have h4 := wLen_le (opW ws a)
          cases hnum : isNumOp (opW ws a) with
          | true => rw [cellW_num hnum]; simp
          | false => rw [cellW_kid hnum, List.length_take]; omega
        rw [← hcw] at HSN H64 hkv HMISS ⊢
        obtain ⟨adk, nk, capk, rfl⟩ := hkv.form
        have HKV := mkHid hkv
        have HB6 : Hid (Below wo.heap.size wo w6) := HB5.out.trans (hb6.mono HB5.out.size)
        clear hcw hkv hb6
        obtain ⟨w7, hw7⟩ : ∃ w7 : World, w7 = w6.alloc (.cells #[.int .i64 c.op, .int .i64 c.num, .slice adk nk capk] 40) := ⟨_, rfl⟩
        have HX7 : Hid (w7.heap[w6.heap.size]? = some (.cells #[.int .i64 c.op, .int .i64 c.num, .slice adk nk capk] 40)) := by rw [hw7]; exact Deep.blk_alloc_new _ _
        have HB7 : Hid (Below wo.heap.size wo w7) := by rw [hw7]; exact HB6.out.alloc HB6.out.size _
        have HK7 : Hid (IIn w7 c.kids (.slice adk nk capk)) := by rw [hw7]; exact (StkI.alloc HKV.out _).row.inn
        have HS7 : Hid (IIn w7 st (.slice (some ⟨b0, o0, none⟩) st.length caps)) := HSI.out.next (HB.out.trans (HB7.out.mono HB.out.size))
        go_wp2_with fail
        rw [← hw7]
        clear hw7
        have x2 := cell_of_blk HX7.out 2 _ rfl
        go_wp2_with fail
        refine (placesIn_calls st c.kids _ _ w7 HS7.out HK7.out HSO.out (by omega) (by have := HKL.out; omega)).mono ?_
        rintro e w8 ⟨tv, rfl, htv, hb8⟩
        have HX8 := mkHid ((hb8.block _ (Array.getElem?_eq_some_iff.1 HX7.out).1).trans HX7.out)
        have HB8 : Hid (Below wo.heap.size wo w8) := HB7.out.trans (hb8.mono HB7.out.size)
        have HT8 := mkHid htv
        have HL8 : Hid (w6.heap.size < w7.heap.size) := (Array.getElem?_eq_some_iff.1 HX7.out).1
        obtain ⟨adt, nt, capt, rfl⟩ := htv.form
        have y2 := cell_of_blk HX8.out 2 _ rfl
        have fy := frz_of_blk HX8.out
        clear htv hb8 x2
        cases hp : plcB st c.kids with
        | false =>
          obtain ⟨x, hx, hxi⟩ := plcB_all hp
          have HV := mkHid (unpO_bad HST.out (HMISS.out x hx hxi))
          clear hp hx hxi
          go_wp2_with fail
          refine bodyPost_ret (v := .tuple #[.slice none 0 0, .slice none 0 0, .bool false]) (by simp [results, Try.results41, go_sem]) rfl ?_
          exact HNIL.out _ ((HB2.out.trans (HB.out.mono HB2.out.size)).trans ((HB8.out.mono (Nat.le_trans HB2.out.size HB.out.size)).setCell (by show _ ≤ w6.heap.size; exact Nat.le_trans (Nat.le_trans HB2.out.size HB.out.size) HB6.out.size) _)) HV.out
        | true =>
          have HT9 : Hid (StkI w8 w7.heap.size (cellP st c).kids (.slice adt nt capt)) := by
            have h := HT8.out
            rw [plcL_yes hp] at h
            exact h
          clear hp
          obtain ⟨wq, hwq⟩ : ∃ wq : World, wq = w8.setCell ⟨w6.heap.size, 2, none⟩ (.slice adt nt capt) := ⟨_, rfl⟩
          have HXQ : Hid (wq.heap[w6.heap.size]? = some (.cells #[.int .i64 c.op, .int .i64 c.num, .slice adt nt capt] 40)) := by rw [hwq]; exact c2_blk HX8.out
          have HBQ : Hid (Below wo.heap.size wo wq) := by rw [hwq]; exact HB8.out.setCell HB6.out.size _
          have HKA : Hid (StkI wq wo.heap.size (cellP st c).kids (.slice adt nt capt)) := by
            rw [hwq]
            exact (HT9.out.keep fun k hk _ => Below.heap_setCell _ _ _ _ (by show k ≠ w6.heap.size; have := HL8.out; omega)).lower HB7.out.size
          have q0 := cell_of_blk HXQ.out 0 _ rfl
          have q1 := cell_of_blk HXQ.out 1 _ rfl
          have q2 := cell_of_blk HXQ.out 2 _ rfl
          rw [hwq] at q0 q1 q2
          have HOA : Hid (OwnC (wq.alloc (.cells #[.int .i64 c.op, .int .i64 c.num, .slice adt nt capt] 40)) w2.heap.size (fun b => w2.heap.size ≤ b ∧ b < wo.heap.size) (graphTo ws st j) (.slice ado j capo)) := (HO.out.keepB HBQ.out).next (fun _ h _ => h) (fun b _ hb => Deep.blk_alloc_lt _ _ _ hb) (fun b _ hb => Deep.blk_alloc_lt _ _ _ hb)
          obtain ⟨xs, hx⟩ := HOA.out.row
          rw [graphTo_len hj] at hx
          have HX := mkHid hx
          have hj9 : j ≤ 800 := by omega
          have HSZ : Hid (w2.heap.size ≤ wo.heap.size ∧ wo.heap.size ≤ wq.heap.size) := ⟨HB.out.size, HBQ.out.size⟩
          have HNW : Hid (∀ (k : Nat) (u : Value), [.int .i64 c.op, .int .i64 c.num, .slice adt nt capt][k]? = some u → (wq.alloc (.cells #[.int .i64 c.op, .int .i64 c.num, .slice adt nt capt] 40)).cell? ((⟨w8.heap.size, 0, none⟩ : Addr).add k) = some u) := fun k u hu => by
            have h := news3c wq (.int .i64 c.op) (.int .i64 c.num) (.slice adt nt capt) k u hu
            have e : wq.heap.size = w8.heap.size := by rw [hwq, size_setCell]
            rw [e] at h
            exact h
          clear hx
          subst hwq
          go_wp2_with (at_builtin; go_must (refine wpList_append_where _ rfl _ _ 27 rfl w2.heap.size 40 iC zC 3 40 Try.underlying27 HII.out.1 HII.out.2.1 HII.out.2.2.1 HII.out.2.2.2.1 HII.out.2.2.2.2 (by decide) (.slice ado j capo) j xs rfl HX.out ⟨w8.heap.size, 0, none⟩ 1 1 [.int .i64 c.op, .int .i64 c.num, .slice adt nt capt] rfl rfl HNW.out (by simp [Value.oneCell']) (by unfold maxLen; omega) (by omega) (by rw [Deep.nblk_alloc]; have := HSZ.out; omega) (by omega) ?_); go_must (intro v' w9 hown hg5 hw5); go_must (have HB9 : Hid (Below w2.heap.size w2 w9) := below_grown ((HB.out.trans (HBQ.out.mono HB.out.size)).alloc (by have := HSZ.out; omega) _) hg5 (fun k hk => own_lo HX.out hk.symm)); go_must (have HO9 : Hid (OwnC w9 w2.heap.size (fun b => w2.heap.size ≤ b ∧ b < w9.heap.size) (graphTo ws st (j + 1)) v') := by rw [HSN.out]; exact OwnC.push (c := cellP st c) HOA.out (StkI.alloc HKA.out _) HSZ.out.1 (by rw [Deep.nblk_alloc]; have := HSZ.out; omega) H64.out (by rw [graphTo_len hj]; exact HX.out) (by rw [graphTo_len hj]; exact hown) hg5); go_must (obtain ⟨ad9, n9, cap9, rfl⟩ := oc_formI HO9.out); clear hown hg5 hw5 q0 q1 q2 y2 fy)
          go_roundw
          case rel => first | exact ⟨j + 1, by omega, by go_num, HO9.out, HB9.out⟩ | ((repeat apply Exists.intro); exact ⟨⟨j + 1, by omega, by go_num, HO9.out, HB9.out⟩, rfl⟩)
          case measure => simp [intOf]; omega
      · have hje : j = st.length := by omega
        have HOG : Hid (OwnC wo w2.heap.size (fun b => w2.heap.size ≤ b ∧ b < wo.heap.size) (graphW ws st) (.slice ado j capo)) := by
          have h := HO.out
          rw [hje, graphTo_all] at h
          rw [hje]; exact h
        have HCI : Hid (CIn wo (graphW ws st) (.slice ado j capo)) := HOG.out.inn fun k h _ => h.1
        have HBW : Hid (Below w.heap.size w wo) := HB2.out.trans (HB.out.mono HB2.out.size)
        have HS9 : Hid (IntRow wo w.heap.size st (.slice ads st.length caps)) := HSR.out.next HB.out
        clear hown hb hje
        go_wp2_with fail
        refine (implGraph_calls (graphW ws st) 6 _ _ HCI.out).mono ?_
        rintro e w7 ⟨rfl, hb7⟩
        have HB7 : Hid (Below w.heap.size w w7) := HBW.out.trans (hb7.mono HBW.out.size)
        have HC7 : Hid (OwnC w7 w.heap.size (fun b => w.heap.size ≤ b) (graphW ws st) (.slice ado j capo)) := ow_low ((HOG.out.keepB hb7).next (S' := fun b => w2.heap.size ≤ b) (fun _ h _ => h.1) (fun _ _ _ => rfl) (fun _ _ _ => rfl)) HB2.out.size
        have HS7 := mkHid (HS9.out.next hb7)
        clear hb7
        cases hg : graphB (graphW ws st) 6 with
        | false =>
          have HV := mkHid (unpO_bad HST.out hg)
          clear hg
          go_wp2_with fail
          refine bodyPost_ret (v := .tuple #[.slice none 0 0, .slice none 0 0, .bool false]) (by simp [results, Try.results41, go_sem]) rfl ?_
          exact HNIL.out _ HB7.out HV.out
        | true =>
          have HV := mkHid (unpO_yes hbig HST.out hg)
          clear hg
          go_wp2_with fail
          refine bodyPost_ret (v := .tuple #[.slice ado j capo, .slice ads st.length caps, .bool true]) (by simp [results, Try.results41, go_sem]) rfl ?_
          rw [HV.out]
          exact ⟨_, _, rfl, HC7.out, HS7.out, HB7.out⟩

set_option maxHeartbeats 400000 in
theorem implAddr_calls (ws : List Int) (v : Value) (w : World) (hk : IIn w ws v) (hw : ∀ x ∈ ws, I64 x) (hl : ws.length ≤ 1048576) :
    Calls Try.prog 30 #[v] w fun e w' => ∃ t, e = .returned (.tuple #[t, .bool (unpO ws).2.2]) ∧ IntRow w' w.heap.size (unpO ws).2.1 t ∧ Below w.heap.size w w' := by
  have HK := mkHid hk
  obtain ⟨ad, cap, rfl, -, -, -⟩ := hk
  obtain ⟨r, hr⟩ : ∃ r, r = unpO ws := ⟨_, rfl⟩
  have HR := mkHid hr
  rw [← hr]
  clear hr
  go_enter Try.func30, Try.ntmps30
  go_wp2_with fail
  refine (unpack_calls ws _ w HK.out hw hl).mono ?_
  rw [← HR.out]
  rintro e w1 ⟨gv, t, rfl, h1, h2, h3⟩
  have H1 := mkHid (And.intro h2 h3)
  clear h1 h2 h3
  go_wp2_with fail
  refine bodyPost_ret (v := .tuple #[t, .bool r.2.2]) (by simp [results, Try.results30, go_sem]) rfl ?_
  exact ⟨_, rfl, H1.out.1, H1.out.2⟩
end Go.Proofs.Ytiipcgnkfhjpeaa
/-
  PLAIN FACTS: the cell at an address; the model's WordAt.
-/
namespace Go.Proofs.Ytiipcgnkfhjpeaa
set_option linter.unusedVariables false
set_option linter.unusedSimpArgs false
open Go.RowKit


theorem unpO_ok {ws : List Int} (h : (unpO ws).2.2 = true) : ws.length ≤ 1600 ∧ ∃ st, startsW ws 0 = some st ∧ graphB (graphW ws st) 6 = true ∧ unpO ws = (graphW ws st, st, true) := by
  by_cases hb : ws.length ≤ 1600
  · refine ⟨hb, ?_⟩
    cases hs : startsW ws 0 with
    | none => rw [unpO_none hs] at h; cases h
    | some st =>
      cases hg : graphB (graphW ws st) 6 with
      | false => rw [unpO_bad hs hg] at h; cases h
      | true => exact ⟨st, rfl, hg, unpO_yes hb hs hg⟩
  · rw [unpO_long hb] at h; cases h
theorem unpO_sorted (ws : List Int) : (unpO ws).2.1.Pairwise (· < ·) := by
  cases h : (unpO ws).2.2 with
  | true =>
    obtain ⟨-, st, h1, -, h2⟩ := unpO_ok h
    rw [h2]; exact starts_sorted h1
  | false =>
    by_cases hb : ws.length ≤ 1600
    · cases hs : startsW ws 0 with
      | none => rw [unpO_none hs]; exact List.Pairwise.nil
      | some st =>
        cases hg : graphB (graphW ws st) 6 with
        | false => rw [unpO_bad hs hg]; exact List.Pairwise.nil
        | true => rw [unpO_yes hb hs hg] at h; cases h
    · rw [unpO_long hb]; exact List.Pairwise.nil
theorem unpO_len (ws : List Int) : (unpO ws).2.1.length ≤ 1048576 := by
  cases h : (unpO ws).2.2 with
  | true =>
    obtain ⟨h0, st, h1, -, h2⟩ := unpO_ok h
    have := starts_small h1
    rw [h2]; show st.length ≤ 1048576; omega
  | false =>
    by_cases hb : ws.length ≤ 1600
    · cases hs : startsW ws 0 with
      | none => rw [unpO_none hs]; simp
      | some st =>
        cases hg : graphB (graphW ws st) 6 with
        | false => rw [unpO_bad hs hg]; simp
        | true => rw [unpO_yes hb hs hg] at h; cases h
    · rw [unpO_long hb]; simp
end Go.Proofs.Ytiipcgnkfhjpeaa
/-
  THE PROGRAM's haveCells AND WordAt.
-/
namespace Go.Proofs.Ytiipcgnkfhjpeaa
set_option linter.unusedVariables false
set_option linter.unusedSimpArgs false
open Go.RowKit


/-- are all of these addresses those of cells? -/
def haveB (ws xs : List Int) : Bool := (unpO ws).2.2 && plcB (unpO ws).2.1 xs
set_option maxHeartbeats 400000 in
theorem haveCells_calls (ws xs : List Int) (v xv : Value) (w : World) (hk : IIn w ws v) (hx : IIn w xs xv) (hw : ∀ y ∈ ws, I64 y) (hl : ws.length ≤ 1048576) (hl2 : xs.length ≤ 1048576) :
    Calls Try.prog 45 #[v, xv] w fun e w' => e = .returned (.bool (haveB ws xs)) ∧ Below w.heap.size w w' := by
  have HK := mkHid hk
  have HXS := mkHid hx
  obtain ⟨ad, cap, rfl, -, -, -⟩ := hk
  obtain ⟨adx, capx, rfl, -, -, -⟩ := hx
  obtain ⟨st, hst⟩ : ∃ st, st = (unpO ws).2.1 := ⟨_, rfl⟩
  obtain ⟨ok, hok⟩ : ∃ ok, ok = (unpO ws).2.2 := ⟨_, rfl⟩
  have HSO : Hid (st.Pairwise (· < ·)) := by rw [hst]; exact unpO_sorted ws
  have HSL : Hid (st.length ≤ 1048576) := by rw [hst]; exact unpO_len ws
  have HAD : Hid (∀ W, Below w.heap.size w W → Calls Try.prog 30 #[.slice ad ws.length cap] W fun e w' => ∃ t, e = .returned (.tuple #[t, .bool ok]) ∧ IntRow w' W.heap.size st t ∧ Below W.heap.size W w') := fun W hW => by
    rw [hst, hok]; exact implAddr_calls ws _ W (HK.out.next hW) hw hl
  have HV : Hid (haveB ws xs = (ok && plcB st xs)) := by rw [hst, hok]; rfl
  rw [HV.out]
  clear hst hok
  go_enter Try.func45, Try.ntmps45
  go_wp2_with fail
  refine (HAD.out w (Below.refl _ _)).mono ?_
  rintro e w1 ⟨t, rfl, ht, hb1⟩
  have HT := mkHid ht.inn
  have HB1 := mkHid hb1
  obtain ⟨adt, capt, rfl, -, -, -⟩ := id ht
  clear ht hb1
  cases ok with
  | false =>
    go_wp2_with fail
    go_ret
    exact ⟨rfl, HB1.out⟩
  | true =>
    go_wp2_with fail
    refine (placesIn_calls st xs _ _ w1 HT.out (HXS.out.next HB1.out) HSO.out HSL.out hl2).mono ?_
    rintro e w2 ⟨t2, rfl, -, hb2⟩
    have HB2 : Hid (Below w.heap.size w w2) := HB1.out.trans (hb2.mono HB1.out.size)
    clear hb2
    go_wp2_with fail
    go_ret
    exact ⟨by simp, HB2.out⟩
end Go.Proofs.Ytiipcgnkfhjpeaa
/-
  THE PROGRAM's CopyWords.
-/
namespace Go.Proofs.Ytiipcgnkfhjpeaa
set_option linter.unusedVariables false
set_option linter.unusedSimpArgs false
open Go.RowKit


theorem haveB_yes {ws r : List Int} (h : haveB ws r = true) : (unpO ws).2.2 = true ∧ ∀ x ∈ r, x ∈ (unpO ws).2.1 := by
  unfold haveB at h
  rw [Bool.and_eq_true] at h
  refine ⟨h.1, fun x hx => ?_⟩
  have h2 := h.2
  unfold plcB at h2
  rw [List.all_eq_true] at h2
  exact idxI_mem.1 (of_decide_eq_true (h2 x hx))
theorem haveB_no {ws r : List Int} (h : haveB ws r = false) : canC ws r = false := by
  unfold haveB at h
  cases hu : (unpO ws).2.2 with
  | false => exact canC_bad hu
  | true =>
    rw [hu, Bool.true_and] at h
    obtain ⟨x, hx, hi⟩ := plcB_all h
    exact canC_miss hx fun hm => by have := idxI_mem.2 hm; omega
set_option maxRecDepth 100000 in
set_option maxHeartbeats 3200000 in
theorem implCopyW_calls (ws r : List Int) (v rv : Value) (w : World) (hk : IIn w ws v) (hr : IIn w r rv) (hw : ∀ y ∈ ws, I64 y) (hl : ws.length ≤ 1048576) (hl2 : r.length ≤ 1048576) :
    Calls Try.prog 23 #[v, rv] w (OwnPack (copyO ws r) w) := by
  have HK := mkHid hk
  have HR := mkHid hr
  have HW := mkHid hw
  obtain ⟨adr, capr, rfl, hcr, hmr, -⟩ := hr
  unfold maxLen at hmr
  clear hk hw
  go_enter Try.func23, Try.ntmps23
  by_cases h20 : r.length ≤ 20
  case neg =>
    have HV := mkHid (copyO_no (canC_long (ws := ws) h20))
    have hb : (20 : Int) < (r.length : Int) := by omega
    clear h20
    go_wp2_with fail
    refine bodyPost_ret (v := .tuple #[.slice none 0 0, .slice none 0 0, .bool false]) (by simp [results, Try.results23, go_sem]) rfl ?_
    rw [HV.out]
    exact ⟨_, _, rfl, two_nil _ _, Below.refl _ _⟩
  go_wp2_with fail
  refine (haveCells_calls ws r v _ w HK.out HR.out HW.out hl hl2).mono ?_
  rintro e w1 ⟨rfl, hb1⟩
  have HB1 := mkHid hb1
  clear hb1
  cases hh : haveB ws r with
  | false =>
    have HV := mkHid (copyO_no (haveB_no hh))
    clear hh
    go_wp2_with fail
    refine bodyPost_ret (v := .tuple #[.slice none 0 0, .slice none 0 0, .bool false]) (by simp [results, Try.results23, go_sem]) rfl ?_
    rw [HV.out]
    exact ⟨_, _, rfl, two_nil _ _, HB1.out⟩
  | true =>
    obtain ⟨hu, hm⟩ := haveB_yes hh
    have HG := mkHid (unp_good hu)
    have HM := mkHid hm
    have HV := mkHid (copyO_yes (canC_all hu h20 hm))
    have hw16 : ws.length ≤ 1600 := HG.out.len
    clear hh hu hm
    go_wp2_with fail
    refine (spaceOf_calls ws v w1 (HK.out.next HB1.out) hw16).mono ?_
    rintro e w2 ⟨rfl, hs2, hb2, hn2⟩
    have HB2 : Hid (Below w.heap.size w w2) := below_step HB1.out hb2
    have HS2 := mkHid hs2
    have HQ : Hid (w.heap.size ≤ w1.heap.size) := HB1.out.size
    obtain ⟨Q, hQ⟩ : ∃ Q, Q = w1.heap.size := ⟨_, rfl⟩
    rw [← hQ] at HS2 HQ hn2 ⊢
    clear hs2 hb2 hQ hn2
    go_wp2_with fail
    refine (spaceOf_calls [] (.slice none 0 0) w2 ⟨none, 0, rfl, Nat.le_refl _, by simp [maxLen], Or.inl rfl⟩ (by simp)).mono ?_
    rintro e w3 ⟨rfl, hs3, hb3, hn3⟩
    have HB3 : Hid (Below w.heap.size w w3) := below_step HB2.out hb3
    have HO3 := mkHid (HS2.out.keep (hb3.block _ HS2.out.lt))
    have HS3 := mkHid hs3
    have HQS : Hid (Q < w2.heap.size) := HS2.out.lt
    obtain ⟨S, hS⟩ : ∃ S, S = w2.heap.size := ⟨_, rfl⟩
    rw [← hS] at HS3 HQS hn3 ⊢
    have HS2' := mkHid hn3
    clear hs3 hb3 hS hn3
    obtain ⟨w4, hw4⟩ : ∃ w4 : World, w4 = w3.alloc (.cells #[.pointer (some ⟨Q, 0, none⟩), .pointer (some ⟨S, 0, none⟩)] 68) := ⟨_, rfl⟩
    obtain ⟨M, hM⟩ : ∃ M, M = w3.heap.size := ⟨_, rfl⟩
    have HB4 : Hid (Below w.heap.size w w4) := by rw [hw4]; exact HB3.out.alloc HB3.out.size _
    have HML : Hid (M < w4.heap.size ∧ Q < w4.heap.size ∧ S < w4.heap.size) := by
      have := HQS.out; have := HS2'.out
      rw [hw4, hM, Hid, Deep.nblk_alloc]; omega
    have HMV : Hid (MvW w4 M Q S ws [] 0 0) := by
      rw [hw4, hM]
      exact ⟨Deep.blk_alloc_new _ _, HO3.out.keep (Deep.blk_alloc_lt _ _ _ HO3.out.lt), HS3.out.keep (Deep.blk_alloc_lt _ _ _ HS3.out.lt), by have := HQS.out; omega⟩
    go_wp2_with fail
    rw [← hM] at *
    rw [← hw4] at *
    clear hw4 hM
    refine (cloneW_calls r _ w4 (HR.out.next HB4.out) hl2).mono ?_
    rintro e w5 ⟨tv, rfl, hst5, hb5⟩
    have HB5 : Hid (Below w.heap.size w w5) := below_step HB4.out hb5
    have HM5 := mkHid (HMV.out.below hb5)
    have HT5 := mkHid hst5
    have HZ5 : Hid (w4.heap.size ≤ w5.heap.size) := hb5.size
    clear hst5 hb5
    go_wp2_with fail
    refine (forwardAllT_calls M Q S w.heap.size w4.heap.size ws _ r 0 0 tv w w5 HG.out HM.out HM5.out HT5.out h20 HML.out HB5.out ⟨HQ.out, by have := HQ.out; have := HQS.out; omega, HB4.out.size, HB5.out.size⟩).mono ?_
    rintro e w6 ⟨rfl, hm6, ht6, hb6, hz6⟩
    obtain ⟨st, hst⟩ : ∃ st, st = (unpO ws).2.1 := ⟨_, rfl⟩
    rw [← hst] at HG HM
    obtain ⟨s0, hs0⟩ : ∃ s : List Int × List Int × Nat, s = ((tpN ws r r.length).1, (tpN ws r r.length).2.1, 0) := ⟨_, rfl⟩
    obtain ⟨tp, htp⟩ : ∃ tp, tp = (tpN ws r r.length).2.2 := ⟨_, rfl⟩
    have HIN : Hid (CpI ws st s0.1 s0.2.1 s0.2.2) := by rw [hs0]; exact tpN_inv HG.out HM.out _ (Nat.le_refl _)
    have HM6 : Hid (MvW w6 M Q S s0.1 s0.2.1 0 (s0.2.2 : Int)) := by rw [hs0]; exact hm6
    rw [← hs0, ← htp] at HV
    rw [← htp] at ht6
    have HT6 := mkHid ht6
    have HB6 := mkHid hb6
    have HS0 : Hid (s0.2.2 = 0) := by rw [hs0]; rfl
    have HZ6 : Hid (w4.heap.size ≤ w6.heap.size) := Nat.le_trans HZ5.out hz6
    obtain ⟨adt, capt, rfl⟩ := ht6.len
    clear hm6 ht6 hb6 hz6 hst hs0 htp
    go_wp2_with fail
    go_loopg [] (ws.length + 1) (fun k wr => ∃ n : Nat, k = ws.length + 1 - n ∧ n ≤ (cpIt s0 n).2.2 ∧ MvW wr M Q S (cpIt s0 n).1 (cpIt s0 n).2.1 0 ((cpIt s0 n).2.2 : Int) ∧ StkI wr w4.heap.size tp (.slice adt tp.length capt) ∧ Below w.heap.size w wr ∧ w4.heap.size ≤ wr.heap.size)
    case atStart => exact ⟨0, rfl, by show 0 ≤ _; omega, HM6.out, HT6.out, HB6.out, HZ6.out⟩
    case round =>
      obtain ⟨n, rfl, hn, hmv, hst, hb, hz⟩ := hrel
      have HN := mkHid hn
      have HMVN := mkHid hmv
      have HST := mkHid hst
      have HBN := mkHid hb
      have HZN := mkHid hz
      have HCP := mkHid (cpIt_inv HG.out HIN.out n)
      obtain ⟨Fn, hFn⟩ : ∃ F, F = (cpIt s0 n).1 := ⟨_, rfl⟩
      obtain ⟨Tn, hTn⟩ : ∃ F, F = (cpIt s0 n).2.1 := ⟨_, rfl⟩
      obtain ⟨sc, hsc⟩ : ∃ k, k = (cpIt s0 n).2.2 := ⟨_, rfl⟩
      have HFN := mkHid hFn
      have HTN := mkHid hTn
      have HSN := mkHid hsc
      rw [← hFn, ← hTn, ← hsc] at HMVN HCP
      rw [← hsc] at HN
      have m1 := cell_of_blk HMVN.out.box 1 _ rfl
      have s1 := HMVN.out.new.scanC
      have s2 := HMVN.out.new.freeC
      clear hn hmv hst hb hz hFn hTn hsc
      go_wp2_with fail
      go_quiet (fail)
      rename_i nq
      have HBQ : Hid (Below w.heap.size w (wr.drewN nq)) := ⟨HBN.out.os, HBN.out.tape, HBN.out.output, HBN.out.size, HBN.out.block⟩
      have HMQ : Hid (MvW (wr.drewN nq) M Q S Fn Tn 0 (sc : Int)) := HMVN.out.far rfl rfl rfl
      have HSQ : Hid (StkI (wr.drewN nq) w4.heap.size tp (.slice adt tp.length capt)) := stki_drewN HST.out nq
      have HZQ : Hid (w4.heap.size ≤ (wr.drewN nq).heap.size) := HZN.out
      have hle := HCP.out.lenT HG.out
      by_cases hlt : sc < Tn.length
      · obtain ⟨hwh, hfit, hnx⟩ := HCP.out.scan HG.out hlt
        have hl8 := hnx.lenT HG.out
        have HC8 : Hid (Calls Try.prog 49 #[.pointer (some ⟨M, 0, none⟩)] (wr.drewN nq) fun e w' => e = .returned (.tuple #[]) ∧ MvW w' M Q S (scanC Fn Tn sc).1 (scanC Fn Tn sc).2 0 ((sc : Int) + (wLen (opW Tn sc) : Int)) ∧ KeepQ Q S (wr.drewN nq) w') := scanCell_calls M Q S sc Fn Tn 0 _ HMQ.out hwh hfit hl8
        have HNX : Hid (cpIt s0 (n + 1) = ((scanC Fn Tn sc).1, (scanC Fn Tn sc).2, sc + wLen (opW Tn sc))) := by
          have h := cpIt_next (s := s0) (n := n) (by rw [← HSN.out, ← HTN.out]; exact hlt)
          rw [← HSN.out, ← HTN.out, ← HFN.out] at h
          exact h
        have h2 : Hid (2 ≤ wLen (opW Tn sc)) := wLen_pos hwh.1
        have hsz := HCP.out.size
        have hnsc := HN.out
        clear hwh hfit hnx hl8 m1 s1 s2
        go_wp2_with fail
        refine HC8.out.mono ?_
        rintro e w8 ⟨rfl, hm8, hk8⟩
        have HM8 := mkHid hm8
        have HB8 : Hid (Below w.heap.size w w8) := KeepQ.base HBQ.out hk8 HQ.out (by have := HQ.out; have := HQS.out; omega) HBQ.out.size
        have HS8 : Hid (StkI w8 w4.heap.size tp (.slice adt tp.length capt)) := HSQ.out.keep fun k h1 h2 => hk8.block k h2 (by have := HML.out; omega) (by have := HML.out; omega)
        have HZ8 : Hid (w4.heap.size ≤ w8.heap.size) := Nat.le_trans HZQ.out hk8.size
        clear hm8 hk8
        go_wp2_with fail
        go_roundg (ws.length + 1 - (n + 1))
        case rel =>
          refine ⟨n + 1, rfl, ?_, ?_, HS8.out, HB8.out, HZ8.out⟩
          · rw [HNX.out]; have := h2.out; show n + 1 ≤ sc + wLen (opW Tn sc); omega
          · rw [HNX.out]
            have e : (((sc + wLen (opW Tn sc) : Nat)) : Int) = (sc : Int) + (wLen (opW Tn sc) : Int) := by omega
            show MvW w8 M Q S (scanC Fn Tn sc).1 (scanC Fn Tn sc).2 0 (((sc + wLen (opW Tn sc) : Nat)) : Int)
            rw [e]; exact HM8.out
        case measure => omega
      · have HEND : Hid ((cpLast s0).2.1 = Tn) := by
          have h := cpLast_end HG.out HIN.out (n := n) (by rw [← HSN.out]; exact HN.out) (by rw [← HSN.out, ← HTN.out]; exact hlt)
          rw [Hid, h, HTN.out]
        have HMR := mkHid HMQ.out
        have m1 := cell_of_blk HMR.out.box 1 _ rfl
        clear s1 s2
        go_wp2_with fail
        refine (inUse_calls S Tn (sc : Int) _ HMR.out.new).mono ?_
        rintro e w8 ⟨rfl, hb8⟩
        have HM8 := mkHid (HMR.out.below hb8)
        have HB8 : Hid (Below w.heap.size w w8) := below_step HBQ.out hb8
        have HS8 : Hid (StkI w8 w4.heap.size tp (.slice adt tp.length capt)) := HSQ.out.next hb8
        clear hb8 m1
        go_wp2_with fail
        refine (cloneW_calls Tn _ w8 HM8.out.new.inn (by omega)).mono ?_
        rintro e w9 ⟨cv, rfl, hst9, hb9⟩
        have HB9 : Hid (Below w.heap.size w w9) := below_step HB8.out hb9
        have HS9 := mkHid hst9
        have HBZ := mkHid hb9
        obtain ⟨ad9, n9, cap9, rfl⟩ := hst9.form
        clear hst9 hb9
        go_wp2_with fail
        refine bodyPost_ret (v := .tuple #[.slice ad9 n9 cap9, .slice adt tp.length capt, .bool true]) (by simp [results, Try.results23, go_sem]) rfl ?_
        rw [HV.out, HEND.out]
        exact ⟨_, _, rfl, two_rows (w1 := w8) (HS8.out.row.down HB4.out.size) HBZ.out HS9.out.row HB8.out.size, HB9.out⟩
end Go.Proofs.Ytiipcgnkfhjpeaa
/-
  A COPY OF A GRAPH, AS ROWS THAT MAY BE MARKED.
-/
namespace Go.Proofs.Ytiipcgnkfhjpeaa
set_option linter.unusedVariables false
set_option linter.unusedSimpArgs false
open Go.RowKit

theorem CellRow.shape {w : World} {lo : Nat} {g : List Ce} {v : Value} (h : CellRow w lo g v) : CShape w (List.range' lo (w.heap.size - lo)) (g.map (·.kids.length)) v := by
  obtain ⟨ad, cap, e, l1, l2, h⟩ := h
  refine ⟨ad, cap, by rw [List.length_map]; exact e, by rw [List.length_map]; exact l1, l2, ?_⟩
  rcases h with rfl | ⟨b, f, rfl, hb, hr, hf⟩
  · exact Or.inl rfl
  · refine Or.inr ⟨b, f, rfl, by rw [List.mem_range'_1]; have := hr.lt; omega, hr, fun i hi => ?_⟩
    rw [List.length_map] at hi
    obtain ⟨-, -, -, -, ad2, cap2, e2, l3, l4, h2⟩ := hf i hi
    refine ⟨ad2, cap2, by rw [e2]; simp, by simpa using l3, l4, ?_⟩
    rcases h2 with h2 | ⟨b2, f2, rfl, hb2, hr2, -⟩
    · left; simp [h2]
    · exact Or.inr ⟨b2, f2, rfl, by rw [List.mem_range'_1]; have := hr2.lt; omega, hr2⟩
end Go.Proofs.Ytiipcgnkfhjpeaa
/-
  THE LAWS' OWN COUNT OF AN ARGUMENT (szExpr, szExprS): what is left of the budget; nothing that was there is changed.
-/
namespace Go.Proofs.Ytiipcgnkfhjpeaa
set_option linter.unusedVariables false
set_option linter.unusedSimpArgs false
open Go.RowKit

end Go.Proofs.Ytiipcgnkfhjpeaa
