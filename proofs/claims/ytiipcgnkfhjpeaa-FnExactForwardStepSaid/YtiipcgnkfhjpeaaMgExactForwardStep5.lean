/-
  THE PROGRAM's wordMover: forwardAll AND scanCell.
-/
import Derived.Test.YtiipcgnkfhjpeaaMgExactForwardStep4
import Derived.Test.YtiipcgnkfhjpeaaMgExactForwardStep1
import Derived.Deep.RegionHeld3
import Derived.Test.YtiipcgnkfhjpeaaMgExactForwardStep3
import Derived.Test.YtiipcgnkfhjpeaaMgExactForwardStep2
import Derived.IntWalk
import Derived.Test.YtiipcgnkfhjpeaaProg
namespace Go.Proofs.Ytiipcgnkfhjpeaa
set_option linter.unusedVariables false
set_option linter.unusedSimpArgs false
open Go.RowKit


set_option maxRecDepth 100000 in
set_option maxHeartbeats 800000 in
theorem forwardAll_calls (M Q S scan n cap : Nat) (F T : List Int) (fs ts : Int) (ad : Option Addr) (w : World) (h : MvW w M Q S F T fs ts) (hn : n + 1 ≤ 4) (hsc : scan + (n + 1) ≤ T.length) (hf : FitsF F T scan (n + 1)) (hl : (scanN F T scan n).2.length ≤ 1600) (had : 0 < n → ad = some ⟨S, scan + 1, none⟩) (hcap : n ≤ cap) :
    Calls Try.prog 48 #[.pointer (some ⟨M, 0, none⟩), .slice ad n cap] w fun e w' => e = .returned (.tuple #[]) ∧ MvW w' M Q S (scanN F T scan n).1 (scanN F T scan n).2 fs ts ∧ KeepQ Q S w w' := by
  have HT : Hid (T.length ≤ 1600) := h.new.len
  have HF := mkHid hf
  have HL := mkHid hl
  have HI : ∀ q, q < n + 1 → ScanI F T scan (n + 1) q (scanN F T scan q) := fun q hq => scanN_inv hf hn hsc (by have := HT.out; omega) q hq
  have HII := mkHid HI
  have HMO : Hid (∀ q, q ≤ n → (scanN F T scan q).2.length ≤ 1600) := fun q hq => by
    have := scanN_mono hf hn hsc (by have := HT.out; omega) q (n - q) (by omega)
    have e : q + (n - q) = n := by omega
    rw [e] at this; exact Nat.le_trans this hl
  have H := mkHid h
  clear h hf hl HI
  go_enter Try.func48, Try.ntmps48
  go_wp2_with fail
  go_loopw [8] (fun a wr => ∃ q : Nat, a = .int .i64 q ∧ q ≤ n ∧ MvW wr M Q S (scanN F T scan q).1 (scanN F T scan q).2 fs ts ∧ KeepQ Q S w wr) (fun a _ => n - (intOf a).toNat)
  case atStart => exact ⟨0, rfl, Nat.zero_le _, H.out, KeepQ.refl _ _ _⟩
  case round =>
    obtain ⟨q, rfl, hq, hmv, hkq⟩ := hrel
    by_cases hlt : q < n
    · obtain rfl := had (by omega)
      obtain ⟨wo, rfl⟩ : ∃ wo : World, wo = wr := ⟨_, rfl⟩
      have HKQ := mkHid hkq
      have hi := HII.out q (by omega)
      have hca := hi.can (HF.out (q + 1) (by omega) (by omega))
      have hre := hi.rest (q + 1) (by omega) (by omega)
      have hlT := hi.lenT
      have HMN := mkHid (HMO.out (q + 1) (by omega))
      have HNX : Hid (scanN F T scan (q + 1) = scanS scan (q + 1) (scanN F T scan q)) := rfl
      generalize scanN F T scan q = s at hmv hi hca hre hlT HNX
      obtain ⟨F1, T1⟩ := s
      obtain ⟨x, hx⟩ : ∃ x : Nat, opW T (scan + (q + 1)) = (x : Int) := ⟨(opW T (scan + (q + 1))).toNat, by have := hca.1; omega⟩
      rw [hx] at hca hre
      simp only at hca hre hlT hmv
      have hxx : (opW T1 (scan + (q + 1))).toNat = x := by rw [hre]; rfl
      have eN : scanN F T scan (q + 1) = ((fwd F1 T1 x).1, (fwd F1 T1 x).2.1.set (scan + 1 + q) (fwd F1 T1 x).2.2) := by
        rw [HNX.out]; unfold scanS
        simp only [hxx]
        rw [show scan + 1 + q = scan + (q + 1) by omega]
      have HEN := mkHid eN
      have d0 : wo.cell? ⟨S, scan + 1 + q, none⟩ = some (.int .i64 (x : Int)) := by
        rw [show scan + 1 + q = scan + (q + 1) by omega, hmv.new.word (by omega), hre]
      have HCA := mkHid hca
      have HMV := mkHid hmv
      have HLN : Hid ((fwd F1 T1 x).2.1.length ≤ 1600 ∧ scan + 1 + q < (fwd F1 T1 x).2.1.length) := by
        have h1 := HMN.out
        rw [eN] at h1
        simp only [List.length_set] at h1
        have h2 := (fwd_lenT (T := T1) hca).1
        rw [Int.toNat_natCast] at h2
        exact ⟨h1, by omega⟩
      clear hmv hkq hi hca hre hlT HNX hx hxx eN
      go_wp2_with fail
      refine (forward_calls M Q S x F1 T1 fs ts wo HMV.out HCA.out HLN.out.1).mono ?_
      rintro e w5 ⟨rfl, hm5, hk5⟩
      have f5 := hm5.new.frz (scan + 1 + q)
      have c5 := hm5.new.word HLN.out.2
      have HM5 := mkHid (hm5.setS HLN.out.2 (fwd F1 T1 x).2.2)
      have HK5 : Hid (KeepQ Q S w (w5.setCell ⟨S, scan + 1 + q, none⟩ (.int .i64 (fwd F1 T1 x).2.2))) := (HKQ.out.trans hk5).trans (KeepQ.setS _ _ _ _ _)
      clear hm5 hk5 d0
      go_wp2_with fail
      go_roundw
      case rel => first | exact ⟨q + 1, by go_num, by omega, by rw [HEN.out]; exact HM5.out, HK5.out⟩ | ((repeat apply Exists.intro); exact ⟨⟨q + 1, by go_num, by omega, by rw [HEN.out]; exact HM5.out, HK5.out⟩, rfl⟩)
      case measure => simp [intOf]; omega
    · obtain rfl : q = n := by omega
      have HMV := mkHid hmv
      have HKQ := mkHid hkq
      clear hmv hkq
      go_wp2_with fail
      refine bodyPost_end (results_none rfl _ _ _) rfl ?_
      exact ⟨rfl, HMV.out, HKQ.out⟩
set_option maxRecDepth 100000 in
set_option maxHeartbeats 1600000 in
theorem scanCell_calls (M Q S a : Nat) (F T : List Int) (fs : Int) (w : World) (h : MvW w M Q S F T fs (a : Int)) (hw : WholeAt T a) (hf : FitsF F T a (kidsN7 (opW T a) + 1)) (hl : (scanC F T a).2.length ≤ 1600) :
    Calls Try.prog 49 #[.pointer (some ⟨M, 0, none⟩)] w fun e w' => e = .returned (.tuple #[]) ∧ MvW w' M Q S (scanC F T a).1 (scanC F T a).2 fs ((a : Int) + (wLen (opW T a) : Int)) ∧ KeepQ Q S w w' := by
  have H := mkHid h
  have HWH := mkHid hw
  have HFF := mkHid hf
  have HLL := mkHid hl
  have HT : Hid (T.length ≤ 1600) := h.new.len
  obtain ⟨k, hk⟩ : ∃ k : Nat, k = wLen (opW T a) := ⟨_, rfl⟩
  have HK := mkHid hk
  have HKB : Hid (2 ≤ k ∧ a + k ≤ T.length ∧ k ≤ 4) := by
    rw [hk]; exact ⟨wLen_pos hw.1, hw.2, wLen_le _⟩
  have hal : a < T.length := by have := HKB.out; omega
  have ha16 : a < 1600 := by have := HT.out; omega
  have HAL := mkHid hal
  have HIN : Hid (∀ W, Below w.heap.size w W → Calls Try.prog 50 #[.pointer (some ⟨S, 0, none⟩)] W fun e w' => e = .returned (.slice (some ⟨S, 0, none⟩) T.length 1600) ∧ Below W.heap.size W w') := fun W hW => inUse_calls S T (a : Int) W (H.out.below hW).new
  have HWA : Hid (∀ W, Below w.heap.size w W → Calls Try.prog 52 #[.slice (some ⟨S, 0, none⟩) T.length 1600, .int .i64 (a : Int)] W fun e w' => e = .returned (.tuple #[.slice (some ⟨S, a, none⟩) k (1600 - a), .bool true]) ∧ Below W.heap.size W w') := fun W hW => by
    have h := wordsAt_yes T a S 0 1600 W (H.out.below hW).new.inn HAL.out HWH.out (by have := HT.out; omega)
    rw [Nat.zero_add, ← HK.out] at h
    exact h
  have HCI : Hid (∀ W, Below w.heap.size w W → CellIn T a k S a (1600 - a) W) := fun W hW => by
    have h1 := HKB.out
    have h2 := HT.out
    exact ⟨HK.out, h1.1, by omega, by omega, fun q hq => (H.out.below hW).new.word (by omega), h1.2.1⟩
  have m1 := cell_of_blk h.box 1 _ rfl
  have s0 := h.new.scanC
  clear h hw hf hl hk
  have HB : Hid (Below w.heap.size w w) := Below.refl _ _
  go_enter Try.func49, Try.ntmps49
  go_wp2_with fail
  go_region_held3 (fun w' => w'.cell? ⟨M, 1, none⟩ = some (.pointer (some ⟨S, 0, none⟩)) ∧ w'.cell? ⟨S, 1600, none⟩ = some (.int .i64 (a : Int)))
    (first
      | go_keep
      | with_reducible exact ⟨m1, s0⟩)
    (first
      | (go_at_call 50; refine (HIN.out _ ?_).mono ?_; (first | exact HB.out | exact HB.out.drew); rintro e w3 ⟨rfl, hb3⟩; have HB3 : Hid (Below w.heap.size w w3) := ⟨hb3.os.trans HB.out.os, hb3.tape.trans HB.out.tape, hb3.output.trans HB.out.output, Nat.le_trans HB.out.size hb3.size, fun k hk => (hb3.block k (Nat.lt_of_lt_of_le hk HB.out.size)).trans (HB.out.block k hk)⟩; have HM3 := mkHid (H.out.below HB3.out); have m1 := cell_of_blk HM3.out.box 1 _ rfl; have s0 := HM3.out.new.scanC; clear hb3)
      | (go_at_call 52; refine (HWA.out _ ?_).mono ?_; (first | exact HB3.out | exact HB3.out.drew); rintro e w4 ⟨rfl, hb4⟩; have HB4 : Hid (Below w.heap.size w w4) := ⟨hb4.os.trans HB3.out.os, hb4.tape.trans HB3.out.tape, hb4.output.trans HB3.out.output, Nat.le_trans HB3.out.size hb4.size, fun k hk => (hb4.block k (Nat.lt_of_lt_of_le hk HB3.out.size)).trans (HB3.out.block k hk)⟩; have HM4 := mkHid (H.out.below HB4.out); have m1 := cell_of_blk HM4.out.box 1 _ rfl; have s0 := HM4.out.new.scanC; clear hb4))
  go_wp2_with fail
  refine (addr_calls T a k S a (1600 - a) _ (HCI.out _ HB4.out)).mono ?_
  rintro e w5 ⟨rfl, rfl⟩
  have HKN : Hid (kidsN7 (opW T a) + 1 ≤ k ∧ kidsN7 (opW T a) ≤ 3) := by rw [HK.out]; exact kidsN7_lt HWH.out.1
  have HKS : Hid (∃ (ad : Option Addr) (n cap : Nat), kidSl T a k S a (1600 - a) = .slice ad n cap ∧ n = kidsN7 (opW T a) ∧ (0 < n → ad = some ⟨S, a + 1, none⟩) ∧ n ≤ cap) := by
    have h1 := HKB.out
    have h2 := HT.out
    unfold kidSl kidsN7
    cases hn : isNumOp (opW T a) with
    | true => exact ⟨none, 0, 0, by rw [if_pos rfl], by rw [if_pos rfl], fun h => absurd h (by omega), Nat.le_refl _⟩
    | false => exact ⟨some ⟨S, a + 1, none⟩, k - 1, 1600 - a - 1, by rw [if_neg (by simp)], by rw [if_neg (by simp), HK.out], fun _ => rfl, by omega⟩
  obtain ⟨ad, n, cap, hks, hn, had, hcap⟩ := HKS.out
  rw [hks]
  have HN := mkHid hn
  have HSC : Hid (scanC F T a = scanN F T a n) := by rw [HN.out]; rfl
  have HCA : Hid (Calls Try.prog 48 #[.pointer (some ⟨M, 0, none⟩), .slice ad n cap] w4 fun e w' => e = .returned (.tuple #[]) ∧ MvW w' M Q S (scanN F T a n).1 (scanN F T a n).2 fs (a : Int) ∧ KeepQ Q S w4 w') := by
    have h1 := HKB.out
    have h2 := HKN.out
    refine forwardAll_calls M Q S a n cap F T fs (a : Int) ad w4 HM4.out (by rw [hn]; omega) (by rw [hn]; omega) (by rw [hn]; exact HFF.out) (by rw [← HSC.out]; exact HLL.out) had hcap
  clear hks hn had hcap HKS m1 s0
  go_wp2_with fail
  refine HCA.out.mono ?_
  rintro e w6 ⟨rfl, hm6, hk6⟩
  have HM6 := mkHid hm6
  have HK6 := mkHid hk6
  have m1 := cell_of_blk hm6.box 1 _ rfl
  have s0 := hm6.new.scanC
  have f0 := hm6.new.frz 1600
  have HADD : Hid (((a : Int) + (k : Int)) = ((a : Int) + (wLen (opW T a) : Int))) := by rw [Hid, HK.out]
  have hk4 := HKB.out
  clear hm6 hk6
  go_wp2_with fail
  refine bodyPost_end (results_none rfl _ _ _) rfl ?_
  rw [HSC.out, ← HADD.out]
  exact ⟨rfl, HM6.out.setScan _, ((KeepQ.below HB4.out).trans HK6.out).trans (KeepQ.setS _ _ _ _ _)⟩
end Go.Proofs.Ytiipcgnkfhjpeaa
/-
  A NODE OF THE PROGRAM: nodeOf's answer, the method fits that it leads to, and that one's answer.
-/
namespace Go.Proofs.Ytiipcgnkfhjpeaa
set_option linter.unusedVariables false
set_option linter.unusedSimpArgs false
open Go.RowKit

end Go.Proofs.Ytiipcgnkfhjpeaa
/-
  THE PROGRAM's GraphValid (cellFits, isCell, areCells); nothing that was there is changed.
-/
namespace Go.Proofs.Ytiipcgnkfhjpeaa
set_option linter.unusedVariables false
set_option linter.unusedSimpArgs false
open Go.RowKit

end Go.Proofs.Ytiipcgnkfhjpeaa
/-
  ONE ROW OF NUMBERS OF ITS OWN; a graph that keeps its rows while it is marked.
-/
namespace Go.Proofs.Ytiipcgnkfhjpeaa
set_option linter.unusedVariables false
set_option linter.unusedSimpArgs false
open Go.RowKit

/-- numbers in the row b -/
def OneRow (w : World) (b : Nat) (X : List Int) (v : Value) : Prop := KRow w [b] X b v
theorem OneRow.keep {w w' : World} {b : Nat} {X : List Int} {v : Value} (h : OneRow w b X v) (hb : ∀ k, k = b → k < w.heap.size → w'.heap[k]? = w.heap[k]?) : OneRow w' b X v := by
  unfold OneRow at h ⊢
  refine h.keep (fun _ h => h) fun hx hm => ?_
  obtain ⟨_, _, _, _, _, h5⟩ := h
  rcases h5 with h5 | ⟨f5, -, -, h6, -⟩
  · exact absurd h5 hx
  · exact hb _ rfl h6.lt
theorem OneRow.next {w w' : World} {b : Nat} {X : List Int} {v : Value} (h : OneRow w b X v) (hb : Below w.heap.size w w') : OneRow w' b X v := h.keep fun k _ hk => hb.block k hk
theorem OneRow.form {w : World} {b : Nat} {X : List Int} {v : Value} (h : OneRow w b X v) : ∃ ad cap, v = .slice ad X.length cap := by
  obtain ⟨ad, cap, e, -⟩ := h; exact ⟨ad, cap, e⟩
theorem OneRow.inn {w : World} {b : Nat} {X : List Int} {v : Value} (h : OneRow w b X v) : IIn w X v := by
  obtain ⟨ad, cap, e, l1, l2, h⟩ := h
  refine ⟨ad, cap, e, l1, l2, h.imp id ?_⟩
  rintro ⟨f, rfl, -, hr, hf⟩
  exact ⟨b, 0, rfl, hr.lt, fun i hi => by rw [Nat.zero_add, hr.cell (by omega), hf i hi]⟩
theorem OneRow.nil (w : World) (b : Nat) (ad : Option Addr) (cap : Nat) (h : cap ≤ maxLen) : OneRow w b [] (.slice ad 0 cap) := ⟨ad, cap, rfl, Nat.zero_le _, h, Or.inl rfl⟩
theorem one_of_row {w : World} {lo : Nat} {X : List Int} {v : Value} (h : IntRow w lo X v) (d : Nat) : ∃ b, OneRow w b X v ∧ ((X ≠ [] ∧ lo ≤ b ∧ b < w.heap.size ∧ v.ownBlock = some b) ∨ b = d) := by
  obtain ⟨ad, cap, e, l1, l2, h⟩ := h
  by_cases hx : X = []
  · exact ⟨d, ⟨ad, cap, e, l1, l2, Or.inl hx⟩, Or.inr rfl⟩
  · rcases h with h | ⟨g, f, rfl, hg, hr, hf⟩
    · exact absurd h hx
    · exact ⟨g, ⟨_, cap, e, l1, l2, Or.inr ⟨f, rfl, by simp, hr, hf⟩⟩, Or.inl ⟨hx, hg, hr.lt, by rw [e]; rfl⟩⟩
theorem markOne_calls (X : List Int) (b : Nat) (v : Value) (k : Int) (w : World) (h : OneRow w b X v) (h0 : 0 ≤ k) (h1 : k + (X.length : Int) ≤ 1152921504606846976) :
    Calls Try.prog 16 #[v, .int .i64 k] w fun e w' => e = .returned (.int .i64 (k + (X.length : Int))) ∧ OneRow w' b (upFrom k X.length) v ∧ ButL [b] w w' :=
  (markK_calls X [b] b v k w h h0 h1).mono fun e w' h => ⟨h.1, h.2.1, h.2.2.1⟩

/-- what a call hands back: a graph and numbers, in rows of their own -/
def GIRes (G : List Ce) (X : List Int) (gv tv : Value) (w w' : World) : Prop :=
  ∃ fG bL, GOwn w' fG G gv ∧ (∀ k ∈ fG, w.heap.size ≤ k ∧ k < w'.heap.size) ∧ OneRow w' bL X tv ∧ w.heap.size ≤ bL ∧ bL ∉ fG
theorem GIRes.inn {G : List Ce} {X : List Int} {gv tv : Value} {w w' : World} (h : GIRes G X gv tv w w') : CIn w' G gv ∧ IIn w' X tv := by
  obtain ⟨fG, bL, h1, -, h3, -⟩ := h
  exact ⟨h1.inn, h3.inn⟩
theorem IntRow.shape {w : World} {lo : Nat} {xs : List Int} {v : Value} (h : IntRow w lo xs v) : IShape w (List.range' lo (w.heap.size - lo)) xs.length v := by
  obtain ⟨ad, cap, e, l1, l2, h⟩ := h
  refine ⟨ad, cap, e, l1, l2, ?_⟩
  rcases h with rfl | ⟨b, f, rfl, hb, hr, -⟩
  · exact Or.inl rfl
  · exact Or.inr ⟨b, f, rfl, by rw [List.mem_range'_1]; have := hr.lt; omega, hr⟩
theorem IShape.blocks {fp : List Nat} {w w' : World} {n : Nat} {v : Value} (h : IShape w fp n v) (k : ∀ b ∈ fp, w'.heap[b]? = w.heap[b]?) : IShape w' fp n v := by
  obtain ⟨ad, cap, e, l1, l2, h⟩ := h
  refine ⟨ad, cap, e, l1, l2, h.imp id ?_⟩
  rintro ⟨g, f, rfl, hg, hr⟩
  exact ⟨g, f, rfl, hg, hr.of_block (k g hg)⟩
end Go.Proofs.Ytiipcgnkfhjpeaa
/-
  THE PROGRAM's PackGraph.
-/
namespace Go.Proofs.Ytiipcgnkfhjpeaa
set_option linter.unusedVariables false
set_option linter.unusedSimpArgs false
open Go.RowKit


/-- two lists of numbers in rows of their own -/
def TwoRows (X Y : List Int) (t s : Value) (w w' : World) : Prop := ∃ b0 b1, (OneRow w' b0 X t ∧ OneRow w' b1 Y s) ∧ (w.heap.size ≤ b0 ∧ w.heap.size ≤ b1) ∧ b0 ≠ b1
theorem two_rows {w w1 w' : World} {X Y : List Int} {t s : Value} (hs : IntRow w1 w.heap.size Y s) (hb : Below w1.heap.size w1 w') (ht : IntRow w' w1.heap.size X t) (hl : w.heap.size ≤ w1.heap.size) : TwoRows X Y t s w w' := by
  obtain ⟨b0, h0, c0⟩ := one_of_row ht w'.heap.size
  have hb0 : w1.heap.size ≤ b0 := by have := hb.size; rcases c0 with c0 | c0 <;> omega
  obtain ⟨ad, cap, rfl, l1, l2, h⟩ := hs
  rcases h with rfl | ⟨g, f, rfl, hg, hr, hf⟩
  · exact ⟨b0, b0 + 1, ⟨h0, OneRow.nil _ _ _ _ l2⟩, ⟨by omega, by omega⟩, by omega⟩
  · have h1 : OneRow w1 g Y (.slice (some ⟨g, 0, none⟩) Y.length cap) := ⟨_, cap, rfl, l1, l2, Or.inr ⟨f, rfl, by simp, hr, hf⟩⟩
    exact ⟨b0, g, ⟨h0, h1.next hb⟩, ⟨by omega, hg⟩, by have := hr.lt; omega⟩
theorem two_nil (w w' : World) : TwoRows [] [] (.slice none 0 0) (.slice none 0 0) w w' :=
  ⟨w.heap.size, w.heap.size + 1, ⟨OneRow.nil _ _ _ _ (by simp [maxLen]), OneRow.nil _ _ _ _ (by simp [maxLen])⟩, ⟨Nat.le_refl _, by omega⟩, by omega⟩
        end Go.Proofs.Ytiipcgnkfhjpeaa
/-
  THE PROGRAM's ForwardStep.
-/
namespace Go.Proofs.Ytiipcgnkfhjpeaa
set_option linter.unusedVariables false
set_option linter.unusedSimpArgs false
open Go.RowKit


/-- the answer of ForwardStep -/
def OwnStepW (r : List Int × List Int × Int × Bool) (w : World) (e : Ending) (w' : World) : Prop := ∃ t s, e = .returned (.tuple #[t, s, .int .i64 r.2.2.1, .bool r.2.2.2]) ∧ TwoRows r.1 r.2.1 t s w w' ∧ Below w.heap.size w w'
theorem TwoRows.swap {X Y : List Int} {t s : Value} {w w' : World} (h : TwoRows X Y t s w w') : TwoRows Y X s t w w' := by
  obtain ⟨b0, b1, h, hb, hn⟩ := h
  exact ⟨b1, b0, ⟨h.2, h.1⟩, ⟨hb.2, hb.1⟩, hn.symm⟩
theorem KeepQ.base {Q S lo : Nat} {w w1 w2 : World} (h : Below lo w w1) (k : KeepQ Q S w1 w2) (hQ : lo ≤ Q) (hS : lo ≤ S) (hl : lo ≤ w1.heap.size) : Below lo w w2 :=
  ⟨k.os.trans h.os, k.tape.trans h.tape, k.output.trans h.output, Nat.le_trans h.size k.size, fun j hj => (k.block j (by omega) (by omega) (by omega)).trans (h.block j hj)⟩
theorem MvW.drew {w : World} {M Q S : Nat} {F T : List Int} {fs ts : Int} (h : MvW w M Q S F T fs ts) : MvW w.drew M Q S F T fs ts := ⟨h.box, h.old.keep rfl, h.new.keep rfl, h.ne⟩
set_option maxRecDepth 100000 in
set_option maxHeartbeats 3200000 in
theorem implStepW_calls (F T : List Int) (x : Int) (fv tv : Value) (w : World) (hf : IIn w F fv) (ht : IIn w T tv) (hl : F.length ≤ 1048576) (hl2 : T.length ≤ 1048576) :
    Calls Try.prog 32 #[fv, tv, .int .i64 x] w (OwnStepW (stepO F T x) w) := by
  have HF := mkHid hf
  have HT := mkHid ht
  clear hf ht
  go_enter Try.func32, Try.ntmps32
  go_wp2_with fail
  refine (canScan_calls F T x fv tv w HF.out HT.out hl hl2).mono ?_
  rintro e w1 ⟨rfl, hb1⟩
  have HB1 := mkHid hb1
  cases hst : stepB F T x with
  | false =>
    have HV := mkHid (stepO_no hst)
    clear hb1 hst
    go_wp2_with fail
    refine bodyPost_ret (v := .tuple #[.slice none 0 0, .slice none 0 0, .int .i64 0, .bool false]) (by simp [results, Try.results32, go_sem]) rfl ?_
    rw [HV.out]
    exact ⟨_, _, rfl, two_nil _ _, HB1.out⟩
  | true =>
    have HV := mkHid (stepO_yes hst)
    have hst2 := hst
    unfold stepB at hst2
    rw [Bool.and_eq_true, Bool.and_eq_true] at hst2
    obtain ⟨hF, hT, hat⟩ := halfB_cell hst2.1
    obtain ⟨a, rfl, ha, hw⟩ := atB_cell hat
    rw [Int.toNat_natCast] at hst2 HV
    have HFT := mkHid (fits_F hst2.2.1 (by omega))
    have HLL := mkHid (of_decide_eq_true hst2.2.2)
    have HW := mkHid hw
    clear hb1 hst hst2 hat hw
    go_wp2_with fail
    refine (spaceOf_calls F fv w1 (HF.out.next HB1.out) hF).mono ?_
    rintro e w2 ⟨rfl, hs2, hb2, hn2⟩
    have HB2 : Hid (Below w.heap.size w w2) := below_step HB1.out hb2
    have HS2 := mkHid hs2
    have HQ : Hid (w.heap.size ≤ w1.heap.size) := HB1.out.size
    obtain ⟨Q, hQ⟩ : ∃ Q, Q = w1.heap.size := ⟨_, rfl⟩
    rw [← hQ] at HS2 HQ hn2 ⊢
    have HQ2 := mkHid hn2
    clear hs2 hb2 hQ hn2
    go_wp2_with fail
    refine (spaceOf_calls T tv w2 (HT.out.next HB2.out) hT).mono ?_
    rintro e w3 ⟨rfl, hs3, hb3, hn3⟩
    have HB3 : Hid (Below w.heap.size w w3) := below_step HB2.out hb3
    have HO3 := mkHid (HS2.out.keep (hb3.block _ HS2.out.lt))
    have HS3 := mkHid hs3
    have HQS : Hid (Q < w2.heap.size) := HS2.out.lt
    obtain ⟨S, hS⟩ : ∃ S, S = w2.heap.size := ⟨_, rfl⟩
    rw [← hS] at HS3 HQS hn3 ⊢
    have HS2' := mkHid hn3
    clear hs3 hb3 hS hn3
    obtain ⟨w4, hw4⟩ : ∃ w4 : World, w4 = w3.alloc (.cells #[.pointer (some ⟨Q, 0, none⟩), .pointer (some ⟨S, 0, none⟩)] 68) := ⟨_, rfl⟩
    obtain ⟨M, hM⟩ : ∃ M, M = w3.heap.size := ⟨_, rfl⟩
    have HB4 : Hid (Below w.heap.size w w4) := by rw [hw4]; exact HB3.out.alloc HB3.out.size _
    have HMV : Hid (MvW w4 M Q S F T 0 0) := by
      rw [hw4, hM]
      exact ⟨Deep.blk_alloc_new _ _, HO3.out.keep (Deep.blk_alloc_lt _ _ _ HO3.out.lt), HS3.out.keep (Deep.blk_alloc_lt _ _ _ HS3.out.lt), by have := HQS.out; omega⟩
    have m1 := cell_of_blk HMV.out.box 1 _ rfl
    have m0 := cell_of_blk HMV.out.box 0 _ rfl
    have s0 := HMV.out.new.scanC
    have f0 := HMV.out.new.frz 1600
    rw [hw4, hM] at m0 m1
    rw [hw4] at s0 f0
    go_wp2_with fail
    rw [← hM] at *
    rw [← hw4] at *
    have HM5 := mkHid (HMV.out.setScan (a : Int))
    have HB5 : Hid (Below w.heap.size w (w4.setCell ⟨S, 1600, none⟩ (.int .i64 (a : Int)))) := HB4.out.setCell (by have := HQ.out; have := HQS.out; show w.heap.size ≤ S; omega) _
    clear hw4 hM m0 m1 s0 f0
    refine (scanCell_calls M Q S a F T 0 _ HM5.out HW.out HFT.out HLL.out).mono ?_
    rintro e w6 ⟨rfl, hm6, hk6⟩
    have HM6 := mkHid hm6
    have HB6 : Hid (Below w.heap.size w w6) := KeepQ.base HB5.out hk6 HQ.out (by have := HQ.out; have := HQS.out; omega) HB5.out.size
    obtain ⟨sc, hsc⟩ : ∃ sc : Int, sc = (a : Int) + (wLen (opW T a) : Int) := ⟨_, rfl⟩
    obtain ⟨F2, hF2⟩ : ∃ F2, F2 = (scanC F T a).1 := ⟨_, rfl⟩
    obtain ⟨T2, hT2⟩ : ∃ T2, T2 = (scanC F T a).2 := ⟨_, rfl⟩
    rw [← hsc, ← hF2, ← hT2] at HM6
    rw [← hsc, ← hF2, ← hT2] at HV
    have HL6 : Hid (F2.length ≤ 1048576 ∧ T2.length ≤ 1048576) := by have h1 := HM6.out.old.len; have h2 := HM6.out.new.len; exact ⟨by omega, by omega⟩
    have HI0 : Hid (∀ W, Below w6.heap.size w6 W → Calls Try.prog 50 #[.pointer (some ⟨Q, 0, none⟩)] W fun e w' => e = .returned (.slice (some ⟨Q, 0, none⟩) F2.length 1600) ∧ Below W.heap.size W w') := fun W hW => inUse_calls Q F2 0 W (HM6.out.below hW).old
    have HI1 : Hid (∀ W, Below w6.heap.size w6 W → Calls Try.prog 50 #[.pointer (some ⟨S, 0, none⟩)] W fun e w' => e = .returned (.slice (some ⟨S, 0, none⟩) T2.length 1600) ∧ Below W.heap.size W w') := fun W hW => inUse_calls S T2 sc W (HM6.out.below hW).new
    have HK0 : Hid (∀ W, Below w6.heap.size w6 W → Calls Try.prog 47 #[.slice (some ⟨Q, 0, none⟩) F2.length 1600] W (CloneW F2 W)) := fun W hW => cloneW_calls F2 _ W (HM6.out.below hW).old.inn HL6.out.1
    have HK1 : Hid (∀ W, Below w6.heap.size w6 W → Calls Try.prog 47 #[.slice (some ⟨S, 0, none⟩) T2.length 1600] W (CloneW T2 W)) := fun W hW => cloneW_calls T2 _ W (HM6.out.below hW).new.inn HL6.out.2
    have HC6 : Hid (Below w6.heap.size w6 w6) := Below.refl _ _
    have m0 := cell_of_blk hm6.box 0 _ rfl
    have m1 := cell_of_blk hm6.box 1 _ rfl
    have s0 := HM6.out.new.scanC
    clear hm6 hk6 hsc hF2 hT2 HFT HLL HM5 HMV HW
    go_wp2_with fail
    go_region_held3 (fun w' => w'.cell? ⟨M, 0, none⟩ = some (.pointer (some ⟨Q, 0, none⟩)) ∧ w'.cell? ⟨M, 1, none⟩ = some (.pointer (some ⟨S, 0, none⟩)) ∧ w'.cell? ⟨S, 1600, none⟩ = some (.int .i64 sc))
      (first
        | go_keep
        | with_reducible exact ⟨m0, m1, s0⟩)
      (first
        | (have tk := HC9; clear tk; go_at_call 47; refine (HK1.out _ ?_).mono ?_; (first | exact HC9.out | exact HC9.out.drew); rintro e w10 ⟨v10, rfl, hst10, hb10⟩; have HD10 : Hid (Below w9.heap.size w9 w10) := ⟨hb10.os, hb10.tape, hb10.output, hb10.size, hb10.block⟩; have HC10 : Hid (Below w6.heap.size w6 w10) := below_step HC9.out HD10.out; have HN10 := mkHid (HM6.out.below HC10.out); have m0 := cell_of_blk HN10.out.box 0 _ rfl; have m1 := cell_of_blk HN10.out.box 1 _ rfl; have s0 := HN10.out.new.scanC; have HST10 : Hid (StkI w10 w9.heap.size T2 v10) := hst10; obtain ⟨ad10, n10, cap10, rfl⟩ := hst10.form; clear hst10; clear hb10)
        | (have tk := HC8; clear tk; go_at_call 50; refine (HI1.out _ ?_).mono ?_; (first | exact HC8.out | exact HC8.out.drew); rintro e w9 ⟨rfl, hb9⟩; have HD9 : Hid (Below w8.heap.size w8 w9) := ⟨hb9.os, hb9.tape, hb9.output, hb9.size, hb9.block⟩; have HC9 : Hid (Below w6.heap.size w6 w9) := below_step HC8.out HD9.out; have HN9 := mkHid (HM6.out.below HC9.out); have m0 := cell_of_blk HN9.out.box 0 _ rfl; have m1 := cell_of_blk HN9.out.box 1 _ rfl; have s0 := HN9.out.new.scanC; clear hb9)
        | (have tk := HC7; clear tk; go_at_call 47; refine (HK0.out _ ?_).mono ?_; (first | exact HC7.out | exact HC7.out.drew); rintro e w8 ⟨v8, rfl, hst8, hb8⟩; have HD8 : Hid (Below w7.heap.size w7 w8) := ⟨hb8.os, hb8.tape, hb8.output, hb8.size, hb8.block⟩; have HC8 : Hid (Below w6.heap.size w6 w8) := below_step HC7.out HD8.out; have HN8 := mkHid (HM6.out.below HC8.out); have m0 := cell_of_blk HN8.out.box 0 _ rfl; have m1 := cell_of_blk HN8.out.box 1 _ rfl; have s0 := HN8.out.new.scanC; have HST8 : Hid (StkI w8 w7.heap.size F2 v8) := hst8; obtain ⟨ad8, n8, cap8, rfl⟩ := hst8.form; clear hst8; clear hb8)
        | (go_at_call 50; refine (HI0.out _ ?_).mono ?_; (first | exact HC6.out | exact HC6.out.drew); rintro e w7 ⟨rfl, hb7⟩; have HD7 : Hid (Below w6.heap.size w6 w7) := ⟨hb7.os, hb7.tape, hb7.output, hb7.size, hb7.block⟩; have HC7 : Hid (Below w6.heap.size w6 w7) := below_step HC6.out HD7.out; have HN7 := mkHid (HM6.out.below HC7.out); have m0 := cell_of_blk HN7.out.box 0 _ rfl; have m1 := cell_of_blk HN7.out.box 1 _ rfl; have s0 := HN7.out.new.scanC; clear hb7))
    go_wp2_with fail
    refine bodyPost_ret (v := .tuple #[.slice ad8 n8 cap8, .slice ad10 n10 cap10, .int .i64 sc, .bool true]) (by simp [results, Try.results32, go_sem]) rfl ?_
    rw [HV.out]
    refine ⟨_, _, rfl, (two_rows (w1 := w9) ((HST8.out.row.next HD9.out).down (Nat.le_trans HB6.out.size HC7.out.size)) HD10.out HST10.out.row (Nat.le_trans HB6.out.size HC9.out.size)).swap, below_step HB6.out HC10.out⟩
end Go.Proofs.Ytiipcgnkfhjpeaa
/-
  A COPY OF A GRAPH, AS ROWS THAT MAY BE MARKED.
-/
namespace Go.Proofs.Ytiipcgnkfhjpeaa
set_option linter.unusedVariables false
set_option linter.unusedSimpArgs false
open Go.RowKit

theorem CellRow.shape {w : World} {lo : Nat} {g : List Ce} {v : Value} (h : CellRow w lo g v) : CShape w (List.range' lo (w.heap.size - lo)) (g.map (·.kids.length)) v := by
  obtain ⟨ad, cap, e, l1, l2, h⟩ := h
  refine ⟨ad, cap, by rw [List.length_map]; exact e, by rw [List.length_map]; exact l1, l2, ?_⟩
  rcases h with rfl | ⟨b, f, rfl, hb, hr, hf⟩
  · exact Or.inl rfl
  · refine Or.inr ⟨b, f, rfl, by rw [List.mem_range'_1]; have := hr.lt; omega, hr, fun i hi => ?_⟩
    rw [List.length_map] at hi
    obtain ⟨-, -, -, -, ad2, cap2, e2, l3, l4, h2⟩ := hf i hi
    refine ⟨ad2, cap2, by rw [e2]; simp, by simpa using l3, l4, ?_⟩
    rcases h2 with h2 | ⟨b2, f2, rfl, hb2, hr2, -⟩
    · left; simp [h2]
    · exact Or.inr ⟨b2, f2, rfl, by rw [List.mem_range'_1]; have := hr2.lt; omega, hr2⟩
end Go.Proofs.Ytiipcgnkfhjpeaa
/-
  THE LAWS' OWN COUNT OF AN ARGUMENT (szExpr, szExprS): what is left of the budget; nothing that was there is changed.
-/
namespace Go.Proofs.Ytiipcgnkfhjpeaa
set_option linter.unusedVariables false
set_option linter.unusedSimpArgs false
open Go.RowKit

end Go.Proofs.Ytiipcgnkfhjpeaa
