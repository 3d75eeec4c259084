/-
  THE LAWS' OWN SEARCH IN A LIST (glIn) AND COMPARISON OF LISTS (glInts).
-/
import Derived.Test.YtglpehelmlehiaaMb8
import Derived.BigQuiet
import Derived.Test.YtglpehelmlehiaaMb10
import Derived.Test.YtglpehelmlehiaaMb14
import Derived.Test.YtglpehelmlehiaaMb16
namespace Go.Proofs.Ytglpehelmlehiaa
set_option linter.unusedVariables false
set_option linter.unusedSimpArgs false
open Go.RowKit

set_option maxHeartbeats 800000 in
theorem glIn_calls (L : List Int) (v : Value) (x : Int) (w : World) (h : IIn w L v) : Calls Try.prog 25 #[v, .int .i64 x] w fun e w' => e = .returned (.bool (decide (x ∈ L))) ∧ Below w.heap.size w w' := by
  have HK := mkHid h
  obtain ⟨ad, cap, rfl, hl, hm, -⟩ := h
  unfold maxLen at hm
  obtain ⟨r, hr⟩ : ∃ r, r = decide (x ∈ L) := ⟨_, rfl⟩
  rw [← hr]
  have HR := mkHid hr
  clear hr
  go_enter Try.func25, Try.ntmps25
  go_wp2_with fail
  go_loopw [5] (fun iv wr => ∃ k : Nat, k ≤ L.length ∧ iv = .int .i64 (k : Int) ∧ Hid (∀ j (hj : j < L.length), j < k → L[j] ≠ x) ∧ Below w.heap.size w wr) (fun iv _ => L.length - (intOf iv).toNat)
  case atStart => exact ⟨0, Nat.zero_le _, rfl, fun j hj h => by omega, Below.refl _ _⟩
  case round =>
    obtain ⟨k, hk, rfl, HN, hb⟩ := hrel
    by_cases hlt : k < L.length
    · obtain ⟨bl, off, rfl, c0⟩ := (HK.out.next hb).at k hlt
      by_cases hx : L[k] = x
      · have HV : Hid (r = true) := by rw [Hid, HR.out]; simp only [decide_eq_true_eq]; rw [← hx]; exact List.getElem_mem hlt
        have t1 : (L[k] == x) = true := by simpa using hx
        go_wp2_with fail
        go_ret
        exact ⟨ret_bool HV.out.symm, hb⟩
      · have t1 : (L[k] == x) = false := by simpa using hx
        have HN2 : Hid (∀ j (hj : j < L.length), j < k + 1 → L[j] ≠ x) := fun j hj h => by
          by_cases e : j = k
          · subst e; exact hx
          · exact HN.out j hj (by omega)
        clear hx
        go_wp2_with fail
        go_roundw
        case rel => exact ⟨k + 1, by omega, by go_num, HN2, hb⟩
        case measure => simp [intOf]; omega
    · have HV : Hid (r = false) := by
        rw [Hid, HR.out]
        simp only [decide_eq_false_iff_not]
        intro hm
        obtain ⟨j, hj, e⟩ := List.getElem_of_mem hm
        exact HN.out j hj (by omega) e
      go_wp2_with fail
      go_ret
      exact ⟨ret_bool HV.out.symm, hb⟩

set_option maxHeartbeats 800000 in
theorem glInts_same (xs : List Int) (c d : Value) (w : World) (hc : IIn w xs c) (hd : IIn w xs d) :
    Calls Try.prog 23 #[c, d] w fun e w' => e = .returned (.bool true) ∧ Below w.heap.size w w' := by
  have HC : Hid (IIn w xs c) := hc
  have HD : Hid (IIn w xs d) := hd
  obtain ⟨ad, cap, rfl, hl, hm, -⟩ := hc
  obtain ⟨ad', cap', rfl, hl', hm', -⟩ := hd
  unfold maxLen at hm hm'
  have t1 : ((xs.length : Int) != xs.length) = false := by simp
  go_enter Try.func23, Try.ntmps23
  go_wp2_with fail
  go_loopw [5] (fun i wr => ∃ k : Nat, k ≤ xs.length ∧ i = .int .i64 k ∧ ∃ n, wr = w.drewN n) (fun i _ => xs.length - (intOf i).toNat)
  case atStart => exact ⟨0, Nat.zero_le _, rfl, 0, rfl⟩
  case round =>
    obtain ⟨k, hk, rfl, n, rfl⟩ := hrel
    by_cases hlt : k < xs.length
    · obtain ⟨_, _, he, -, -, hr1⟩ := HC.out
      cases he
      obtain ⟨_, _, he, -, -, hr2⟩ := HD.out
      cases he
      rcases hr1 with rfl | ⟨bl, off, rfl, -, hr1⟩
      · simp at hlt
      rcases hr2 with rfl | ⟨bl', off', rfl, -, hr2⟩
      · simp at hlt
      have c0 := hr1 k hlt
      have d0 := hr2 k hlt
      have t2 : (xs[k] != xs[k]) = false := by simp
      clear hr1 hr2
      go_wp2_with fail
      go_quiet (fail)
      go_wp2_with fail
      go_roundw
      case rel => exact ⟨k + 1, by omega, by go_num, _, rfl⟩
      case measure => simp [intOf]; omega
    · go_wp2_with fail
      go_ret
      exact ⟨rfl, below_drewN (Below.refl _ _) _⟩

end Go.Proofs.Ytglpehelmlehiaa
/-
  THE LAWS' glIn, AGAIN: IT ONLY READS.
-/
namespace Go.Proofs.Ytglpehelmlehiaa
set_option linter.unusedVariables false
set_option linter.unusedSimpArgs false
open Go.RowKit

set_option maxHeartbeats 800000 in
theorem glIn_same (L : List Int) (v : Value) (x : Int) (w : World) (h : IIn w L v) : Calls Try.prog 25 #[v, .int .i64 x] w fun e w' => e = .returned (.bool (decide (x ∈ L))) ∧ w' = w := by
  have HK := mkHid h
  obtain ⟨ad, cap, rfl, hl, hm, -⟩ := h
  unfold maxLen at hm
  obtain ⟨r, hr⟩ : ∃ r, r = decide (x ∈ L) := ⟨_, rfl⟩
  rw [← hr]
  have HR := mkHid hr
  clear hr
  go_enter Try.func25, Try.ntmps25
  go_wp2_with fail
  go_loopw [5] (fun iv wr => ∃ k : Nat, k ≤ L.length ∧ iv = .int .i64 (k : Int) ∧ Hid (∀ j (hj : j < L.length), j < k → L[j] ≠ x) ∧ wr = w) (fun iv _ => L.length - (intOf iv).toNat)
  case atStart => exact ⟨0, Nat.zero_le _, rfl, fun j hj h => by omega, rfl⟩
  case round =>
    obtain ⟨k, hk, rfl, HN, rfl⟩ := hrel
    by_cases hlt : k < L.length
    · obtain ⟨bl, off, rfl, c0⟩ := HK.out.at k hlt
      by_cases hx : L[k] = x
      · have HV : Hid (r = true) := by rw [Hid, HR.out]; simp only [decide_eq_true_eq]; rw [← hx]; exact List.getElem_mem hlt
        have t1 : (L[k] == x) = true := by simpa using hx
        go_wp2_with fail
        go_ret
        exact ⟨ret_bool HV.out.symm, rfl⟩
      · have t1 : (L[k] == x) = false := by simpa using hx
        have HN2 : Hid (∀ j (hj : j < L.length), j < k + 1 → L[j] ≠ x) := fun j hj h => by
          by_cases e : j = k
          · subst e; exact hx
          · exact HN.out j hj (by omega)
        clear hx
        go_wp2_with fail
        go_roundw
        case rel => exact ⟨k + 1, by omega, by go_num, HN2, by first | rfl | trivial⟩
        case measure => simp [intOf]; omega
    · have HV : Hid (r = false) := by
        rw [Hid, HR.out]
        simp only [decide_eq_false_iff_not]
        intro hm
        obtain ⟨j, hj, e⟩ := List.getElem_of_mem hm
        exact HN.out j hj (by omega) e
      go_wp2_with fail
      go_ret
      exact ⟨ret_bool HV.out.symm, rfl⟩
end Go.Proofs.Ytglpehelmlehiaa
/-
  THE MODEL's l5Places: the places of copies.
-/
namespace Go.Proofs.Ytglpehelmlehiaa
set_option linter.unusedVariables false
set_option linter.unusedSimpArgs false
open Go.RowKit

/-- a row of places of copies -/
abbrev PlW (w : World) (b n : Nat) (o : List Nat) : Prop := w.rowIs b 3 n (fun x => .int .i64 (placeV o x))
def NewPl (n : Nat) (o : List Nat) (w : World) (e : Ending) (w' : World) : Prop :=
  ∃ b, e = .returned (.slice (some ⟨b, 0, none⟩) n n) ∧ w.heap.size ≤ b ∧ PlW w' b n o ∧ Below w.heap.size w w'

set_option maxRecDepth 100000 in
set_option maxHeartbeats 1600000 in
theorem l5Places_calls (n : Nat) (o : List Nat) (ov : Value) (w : World) (ho : IIn w (plI o) ov) (hc : Cs n o) (hn : n ≤ 400) :
    Calls Try.prog 104 #[.int .i64 (n : Int), ov] w (NewPl n o w) := by
  have HO : Hid (IIn w (plI o) ov) := ho
  have HC : Hid (Cs n o) := hc
  obtain ⟨ad, cap, rfl, hl, hm⟩ := pl_form ho
  unfold maxLen at hm
  have hol := hc.len
  have hmk := make_ints n (by omega)
  have HZ : Hid ((w.alloc (.cells (madeCells #[.int .i64 0] n) 3)).rowIs w.heap.size 3 n (fun x => .int .i64 (if x < 0 then -1 else 0))) := World.rowIs.congr (zero_row w n) fun i _ => by simp
  clear hc ho
  go_enter Try.func104, Try.ntmps104
  go_wp2_with fail
  go_loopw [6] (fun i wr => ∃ k : Nat, k ≤ n ∧ i = .int .i64 k ∧ wr.rowIs w.heap.size 3 n (fun x => .int .i64 (if x < k then -1 else 0)) ∧ Below w.heap.size w wr) (fun i _ => n - (intOf i).toNat)
  case atStart => exact ⟨0, Nat.zero_le _, rfl, HZ.out, (Below.refl _ _).alloc (Nat.le_refl _) _⟩
  case round =>
    obtain ⟨k, hk, rfl, hrow, hb⟩ := hrel
    have HB : Hid (Below w.heap.size w wr) := hb
    have HR : Hid (wr.rowIs w.heap.size 3 n (fun x => .int .i64 (if x < k then -1 else 0))) := hrow
    by_cases hlt : k < n
    · have cm : wr.cell? ⟨w.heap.size, k, none⟩ = some (.int .i64 0) := by have h := hrow.cell (i := k) hlt; simpa using h
      have fm := hrow.frozen k
      have HR2 : Hid ((wr.setCell ⟨w.heap.size, k, none⟩ (.int .i64 (-1))).rowIs w.heap.size 3 n (fun x => .int .i64 (if x < k + 1 then -1 else 0))) := by
        refine World.rowIs.congr (hrow.set k _) fun x _ => ?_
        by_cases e : x = k
        · subst e; simp
        · have : (x < k + 1) = (x < k) := by apply propext; omega
          simp [e, this]
      have HB2 : Hid (Below w.heap.size w (wr.setCell ⟨w.heap.size, k, none⟩ (.int .i64 (-1)))) := hb.setCell (Nat.le_refl _) _
      clear hrow hb
      go_wp2_with fail
      go_roundw
      case rel => exact ⟨k + 1, by omega, by go_num, HR2.out, HB2.out⟩
      case measure => simp [intOf]; omega
    · have hke : k = n := by omega
      have HP : Hid (PlW wr w.heap.size n (o.take 0)) := by
        refine World.rowIs.congr HR.out fun x hx => ?_
        simp [placeV_nil, hke, hx]
      clear hke hrow hb
      go_wp2_with fail
      go_loopw [7] (fun i wr => ∃ k : Nat, k ≤ o.length ∧ i = .int .i64 k ∧ PlW wr w.heap.size n (o.take k) ∧ Below w.heap.size w wr) (fun i _ => o.length - (intOf i).toNat)
      case atStart => exact ⟨0, Nat.zero_le _, rfl, HP.out, HB.out⟩
      case round =>
        obtain ⟨k, hk, rfl, hrow, hb⟩ := hrel
        have HB : Hid (Below w.heap.size w wr) := hb
        have HR : Hid (PlW wr w.heap.size n (o.take k)) := hrow
        by_cases hlt : k < o.length
        · obtain ⟨bl, off, x, rfl, hbl, hx, hxm, d0w⟩ := pl_at HO.out k hlt
          have hxl := HC.out.2 x hxm
          have d0 := (hb.cell (p := ⟨bl, off + k, none⟩) hbl).trans d0w
          have cm := hrow.cell (i := x) hxl
          have fm := hrow.frozen x
          have HR2 : Hid (PlW (wr.setCell ⟨w.heap.size, x, none⟩ (.int .i64 (k : Int))) w.heap.size n (o.take (k + 1))) := by
            refine World.rowIs.congr (hrow.set x _) fun y _ => ?_
            rw [take_snoc hx, placeV_snoc (take_not HC.out.1 hx), List.length_take, Nat.min_eq_left (by omega)]
            by_cases e : y = x
            · simp [e]
            · simp [e]
          have HB2 : Hid (Below w.heap.size w (wr.setCell ⟨w.heap.size, x, none⟩ (.int .i64 (k : Int)))) := hb.setCell (Nat.le_refl _) _
          clear hx hxm d0w hrow hb
          go_wp2_with fail
          go_roundw
          case rel => exact ⟨k + 1, by omega, by go_num, HR2.out, HB2.out⟩
          case measure => simp [intOf]; omega
        · have hke : k = o.length := by omega
          have HV : Hid (PlW wr w.heap.size n o) := by
            have h := HR.out
            rw [hke, List.take_length] at h; exact h
          clear hke hrow hb
          go_wp2_with fail
          go_ret
          exact ⟨_, rfl, Nat.le_refl _, HV.out, HB.out⟩
end Go.Proofs.Ytglpehelmlehiaa
/-
  THE MODEL's l5Copy: a copy of the cells in their order.
-/
namespace Go.Proofs.Ytglpehelmlehiaa
set_option linter.unusedVariables false
set_option linter.unusedSimpArgs false
open Go.RowKit

theorem OwnC.lower {w : World} {lo lo' : Nat} {S S' : Nat → Prop} {g : List Ce} {v : Value} (h : OwnC w lo S g v) (hl : lo' ≤ lo) (hS : ∀ b, S b → S' b) : OwnC w lo' S' g v := by
  obtain ⟨h0, xs, kb, h1, h2, h3⟩ := h
  refine ⟨h0, xs, kb, ⟨h1.1, ?_⟩, fun j hj => ?_, h3⟩
  · rcases h1.2 with h | ⟨b, cap, cur, rfl, hg, r⟩
    · exact Or.inl h
    · exact Or.inr ⟨b, cap, cur, rfl, Nat.le_trans hl hg, r⟩
  · obtain ⟨kv, e0, e1, e2, e3⟩ := h2 j hj
    exact ⟨kv, e0, e1, e2, e3.keep (fun k hk _ => hS k hk) fun _ _ _ _ => rfl⟩
/-- a copied graph and the places of its roots, in new rows -/
def NewGI (g : List Ce) (ts : List Nat) (w : World) (e : Ending) (w' : World) : Prop :=
  ∃ gv tv, e = .returned (.tuple #[gv, tv]) ∧ OwnC w' w.heap.size (fun b => w.heap.size ≤ b) g gv ∧ Stk w' w.heap.size ts tv ∧ Below w.heap.size w w'
/-- the box of a copy while its operands are gathered in kv -/
structure CpRel5 (wo : World) (o n : Int) (ws : List Nat) (kv : Value) (wr : World) : Prop where
  box : wr.heap[wo.heap.size]? = some (.cells #[.int .i64 o, .int .i64 n, kv] 48)
  kids : Stk wr (wo.heap.size + 1) ws kv
  bel : Below wo.heap.size wo wr

theorem push_keep {w w5 : World} {B : Nat} {ws : List Nat} {v : Value} (hst : Stk w (B + 1) ws v) (hg : w.grownBy w5 v.ownBlock) {b : Nat} (hb : b ≤ B) (hl : b < w.heap.size) : w5.heap[b]? = w.heap[b]? :=
  hg.block b hl fun e => by have := own_lo hst e; omega
theorem cell_push {w w5 : World} {B : Nat} {ws : List Nat} {v : Value} {p : Addr} {u : Value} (h : w.cell? p = some u) (hst : Stk w (B + 1) ws v) (hg : w.grownBy w5 v.ownBlock) (hb : p.block ≤ B) : w5.cell? p = some u :=
  (World.cell?_of_block (push_keep hst hg hb (cell_lt h))).trans h
theorem frz_push {w w5 : World} {B : Nat} {ws : List Nat} {v : Value} {b : Nat} {C : Array Value} {T : TypeId} (h : w.heap[b]? = some (.cells C T)) (hst : Stk w (B + 1) ws v) (hg : w.grownBy w5 v.ownBlock) (hb : b ≤ B) (i : Nat) : w5.frozen? ⟨b, i, none⟩ = false :=
  frz_of_blk ((push_keep hst hg hb (Array.getElem?_eq_some_iff.1 h).1).trans h) i

end Go.Proofs.Ytglpehelmlehiaa
/-
  THE MODEL's CopyOrder AND CopyGraph.
-/
namespace Go.Proofs.Ytglpehelmlehiaa
set_option linter.unusedVariables false
set_option linter.unusedSimpArgs false
open Go.RowKit

/-- a graph and ints, somewhere in memory, and whether -/
def GotGI (r : List Ce × List Nat) (ok : Bool) (w : World) (e : Ending) (w' : World) : Prop :=
  ∃ gv tv, e = .returned (.tuple #[gv, tv, .bool ok]) ∧ CIn w' r.1 gv ∧ IIn w' (plI r.2) tv ∧ Below w.heap.size w w'
theorem cin_nil (w : World) (ad : Option Addr) (cap : Nat) (h : cap ≤ maxLen) : CIn w [] (.slice ad 0 cap) := ⟨ad, cap, rfl, Nat.zero_le _, h, Or.inl rfl⟩
theorem iin_nil (w : World) (ad : Option Addr) (cap : Nat) (h : cap ≤ maxLen) : IIn w [] (.slice ad 0 cap) := ⟨ad, cap, rfl, Nat.zero_le _, h, Or.inl rfl⟩
theorem OwnC.cin {w : World} {lo : Nat} {S : Nat → Prop} {g : List Ce} {v : Value} (h : OwnC w lo S g v) (hS : ∀ k, S k → k < w.heap.size → lo ≤ k) : CIn w g v := (h.own hS).inn

set_option maxHeartbeats 800000 in
theorem specOrderG_calls (g : List Ce) (rs : List Int) (v rv : Value) (w : World) (hk : CIn w g v) (hr : IIn w rs rv) :
    Calls Try.prog 24 #[v, rv] w (NewInts (plI (orderO g rs)) w) := by
  have HK : Hid (CIn w g v) := hk
  have HR : Hid (IIn w rs rv) := hr
  clear hk hr
  go_enter Try.func24, Try.ntmps24
  go_wp2_with fail
  refine (l5Right_calls g rs _ _ _ HK.out HR.out).mono ?_
  rintro e w1 ⟨rfl, hb1⟩
  have HB1 : Hid (Below w.heap.size w w1) := hb1
  clear hb1
  cases hg : rootB g rs with
  | false =>
    have HV := mkHid (orderO_no hg)
    clear hg
    go_wp2_with fail
    go_ret
    rw [HV.out]
    exact ⟨_, rfl, no_ints _ _ _ _ (by simp [maxLen]), HB1.out.alloc HB1.out.size _⟩
  | true =>
    have HT := mkHid hg
    have HV := mkHid (orderO_yes hg)
    have HR2 : Hid (IIn w1 (plI (natL rs)) rv) := by
      have h := HR.out.next HB1.out
      rw [root_back hg] at h
      exact h
    clear hg
    go_wp2_with fail
    refine (l5Order_calls g (natL rs) _ _ _ (HK.out.next HB1.out) HR2.out (rootB_iff.1 HT.out).1 (root_lt HT.out) (by rw [natL_len]; exact (rootB_iff.1 HT.out).2.1)).mono ?_
    rintro e w2 ⟨tv, rfl, hs, hb2⟩
    have HS := mkHid (hs.lower HB1.out.size).row
    have HB2 : Hid (Below w.heap.size w w2) := HB1.out.trans (hb2.mono HB1.out.size)
    clear hs hb2
    go_wp2_with fail
    go_ret
    rw [HV.out]
    exact ⟨_, rfl, HS.out, HB2.out⟩
end Go.Proofs.Ytglpehelmlehiaa
