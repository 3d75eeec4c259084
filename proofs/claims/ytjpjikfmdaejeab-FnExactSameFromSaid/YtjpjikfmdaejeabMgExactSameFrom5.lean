/-
  ONE ROW OF NUMBERS OF ITS OWN; a graph that keeps its rows while it is marked.
-/
import Derived.Test.YtjpjikfmdaejeabMgExactSameFrom3
import Derived.Test.YtjpjikfmdaejeabMgExactSameFrom4
import Derived.Test.YtjpjikfmdaejeabMgExactSameFrom1
import Derived.Deep.RegionHeld3
import Derived.Test.YtjpjikfmdaejeabMgExactSameFrom2
namespace Go.Proofs.Ytjpjikfmdaejeab
set_option linter.unusedVariables false
set_option linter.unusedSimpArgs false
open Go.RowKit

/-- numbers in the row b -/
def OneRow (w : World) (b : Nat) (X : List Int) (v : Value) : Prop := KRow w [b] X b v
theorem OneRow.keep {w w' : World} {b : Nat} {X : List Int} {v : Value} (h : OneRow w b X v) (hb : ∀ k, k = b → k < w.heap.size → w'.heap[k]? = w.heap[k]?) : OneRow w' b X v := by
  unfold OneRow at h ⊢
  refine h.keep (fun _ h => h) fun hx hm => ?_
  obtain ⟨_, _, _, _, _, h5⟩ := h
  rcases h5 with h5 | ⟨f5, -, -, h6, -⟩
  · exact absurd h5 hx
  · exact hb _ rfl h6.lt
theorem OneRow.next {w w' : World} {b : Nat} {X : List Int} {v : Value} (h : OneRow w b X v) (hb : Below w.heap.size w w') : OneRow w' b X v := h.keep fun k _ hk => hb.block k hk
theorem OneRow.form {w : World} {b : Nat} {X : List Int} {v : Value} (h : OneRow w b X v) : ∃ ad cap, v = .slice ad X.length cap := by
  obtain ⟨ad, cap, e, -⟩ := h; exact ⟨ad, cap, e⟩
theorem OneRow.inn {w : World} {b : Nat} {X : List Int} {v : Value} (h : OneRow w b X v) : IIn w X v := by
  obtain ⟨ad, cap, e, l1, l2, h⟩ := h
  refine ⟨ad, cap, e, l1, l2, h.imp id ?_⟩
  rintro ⟨f, rfl, -, hr, hf⟩
  exact ⟨b, 0, rfl, hr.lt, fun i hi => by rw [Nat.zero_add, hr.cell (by omega), hf i hi]⟩
theorem OneRow.nil (w : World) (b : Nat) (ad : Option Addr) (cap : Nat) (h : cap ≤ maxLen) : OneRow w b [] (.slice ad 0 cap) := ⟨ad, cap, rfl, Nat.zero_le _, h, Or.inl rfl⟩
theorem one_of_row {w : World} {lo : Nat} {X : List Int} {v : Value} (h : IntRow w lo X v) (d : Nat) : ∃ b, OneRow w b X v ∧ ((X ≠ [] ∧ lo ≤ b ∧ b < w.heap.size ∧ v.ownBlock = some b) ∨ b = d) := by
  obtain ⟨ad, cap, e, l1, l2, h⟩ := h
  by_cases hx : X = []
  · exact ⟨d, ⟨ad, cap, e, l1, l2, Or.inl hx⟩, Or.inr rfl⟩
  · rcases h with h | ⟨g, f, rfl, hg, hr, hf⟩
    · exact absurd h hx
    · exact ⟨g, ⟨_, cap, e, l1, l2, Or.inr ⟨f, rfl, by simp, hr, hf⟩⟩, Or.inl ⟨hx, hg, hr.lt, by rw [e]; rfl⟩⟩
theorem labC_half2 (g : List Ce) (k : Int) : HalfC g k g.length (labC g k) := ⟨labC_length g k, fun i hi hm => by rw [if_pos hi, labC_get g k i hi]⟩
/-- the rows of a graph that a call has built, but for one block -/
theorem OwnC.ownBut {w : World} {lo : Nat} {S : Nat → Prop} {g : List Ce} {v : Value} (h : OwnC w lo S g v) (b : Nat) (hS : ∀ k, S k → k < w.heap.size → lo ≤ k ∧ k ≠ b) (hv : some b ≠ v.ownBlock) : GOwn w ((List.range' lo (w.heap.size - lo)).filter fun k => k != b) g v := by
  obtain ⟨hi0, xs, kb, h1, h2, h3⟩ := h
  refine ⟨hi0, ?_⟩
  rcases h1.2 with ⟨rfl, h0⟩ | ⟨c, cap, cur, rfl, hg, hh2, hn, hc, hs, htk⟩
  · obtain rfl : g = [] := List.eq_nil_of_length_eq_zero h0
    exact ⟨none, 0, rfl, Nat.le_refl _, by simp [maxLen], Or.inl rfl⟩
  · have hbl : c < w.heap.size := (Array.getElem?_eq_some_iff.1 hh2).1
    have hcb : c ≠ b := fun e => hv (by simp [Value.ownBlock, e])
    refine ⟨_, cap, rfl, hn, hc, Or.inr ⟨c, kb, rfl, by rw [List.mem_filter, List.mem_range'_1]; exact ⟨by omega, by simpa using hcb⟩, ⟨fun i => cur.getD i undef, ⟨cur, hh2, hs, fun i hi => by simp [Array.getD, show i < cur.size by omega]⟩, fun i hi => ?_⟩, h3⟩⟩
    obtain ⟨kv, e0, e1, e2, e3⟩ := h2 i hi
    have get : ∀ m u, m < g.length * 3 → xs[m]? = some u → cur.getD m undef = u := by
      intro m u hm hu
      rw [← htk, List.getElem?_take_of_lt hm] at hu
      have hmc : m < cur.size := by omega
      simp [hmc] at hu
      simp [Array.getD, hmc, hu]
    refine ⟨get _ _ (by omega) e0, get _ _ (by omega) e1, ?_⟩
    simp only []
    rw [get _ _ (by omega) e2]
    obtain ⟨ad2, cap2, e4, l1, l2, h5⟩ := e3
    refine ⟨ad2, cap2, e4, l1, l2, h5.imp id ?_⟩
    rintro ⟨f, rfl, h6, h8, h9⟩
    have h10 := hS _ h6 h8.lt
    exact ⟨f, rfl, by rw [List.mem_filter, List.mem_range'_1]; have := h8.lt; exact ⟨by omega, by simpa using h10.2⟩, h8, h9⟩
/-- what a call hands back: a graph and numbers, in rows of their own -/
def GIRes (G : List Ce) (X : List Int) (gv tv : Value) (w w' : World) : Prop :=
  ∃ fG bL, GOwn w' fG G gv ∧ (∀ k ∈ fG, w.heap.size ≤ k ∧ k < w'.heap.size) ∧ OneRow w' bL X tv ∧ w.heap.size ≤ bL ∧ bL ∉ fG
theorem GIRes.inn {G : List Ce} {X : List Int} {gv tv : Value} {w w' : World} (h : GIRes G X gv tv w w') : CIn w' G gv ∧ IIn w' X tv := by
  obtain ⟨fG, bL, h1, -, h3, -⟩ := h
  exact ⟨h1.inn, h3.inn⟩
theorem gi_res {w w' : World} {lo : Nat} {S : Nat → Prop} {g : List Ce} {gv tv : Value} {X : List Int} (hg : OwnC w' lo S g gv) (hS : ∀ k, S k → lo ≤ k ∧ some k ≠ tv.ownBlock) (ht : IntRow w' lo X tv) (hl : w.heap.size ≤ lo) (hs : lo ≤ w'.heap.size) : GIRes g X gv tv w w' := by
  obtain ⟨b, h1, h2⟩ := one_of_row ht w'.heap.size
  obtain ⟨xs, hx⟩ := hg.row
  have hfp : ∀ k ∈ (List.range' lo (w'.heap.size - lo)).filter (fun k => k != b), w.heap.size ≤ k ∧ k < w'.heap.size := fun k hk => by
    have := (List.mem_filter.1 hk).1
    rw [List.mem_range'_1] at this
    omega
  refine ⟨_, b, hg.ownBut b (fun k hk hkl => ⟨(hS k hk).1, fun e => ?_⟩) (fun e => ?_), hfp, h1, ?_, fun hm => by simpa using (List.mem_filter.1 hm).2⟩
  · rcases h2 with h2 | h2
    · exact (hS k hk).2 (by rw [h2.2.2.2, e])
    · omega
  · rcases h2 with h2 | h2
    · obtain ⟨hne, hlb, hlt, hvb⟩ := h2
      rcases hx.2 with ⟨rfl, -⟩ | ⟨c, cap, cur, rfl, -, hh, -⟩
      · simp [Value.ownBlock] at e
      · simp only [Value.ownBlock, Option.some.injEq] at e
        subst e
        obtain ⟨ad, cap2, e2, -, -, h5⟩ := ht
        rcases h5 with h5 | ⟨g5, f5, rfl, -, ⟨C, hC, -⟩, -⟩
        · exact hne h5
        · rw [e2] at hvb
          simp only [Value.ownBlock, Option.some.injEq] at hvb
          subst hvb
          rw [hh] at hC
          simp only [Option.some.injEq, Obj.cells.injEq] at hC
          exact absurd hC.2.1 (by decide)
    · rcases hx.2 with ⟨rfl, -⟩ | ⟨c, cap, cur, rfl, -, hh, -⟩
      · simp [Value.ownBlock] at e
      · simp only [Value.ownBlock, Option.some.injEq] at e
        have := (Array.getElem?_eq_some_iff.1 hh).1
        omega
  · rcases h2 with h2 | h2 <;> omega
theorem IntRow.shape {w : World} {lo : Nat} {xs : List Int} {v : Value} (h : IntRow w lo xs v) : IShape w (List.range' lo (w.heap.size - lo)) xs.length v := by
  obtain ⟨ad, cap, e, l1, l2, h⟩ := h
  refine ⟨ad, cap, e, l1, l2, ?_⟩
  rcases h with rfl | ⟨b, f, rfl, hb, hr, -⟩
  · exact Or.inl rfl
  · exact Or.inr ⟨b, f, rfl, by rw [List.mem_range'_1]; have := hr.lt; omega, hr⟩
theorem IShape.blocks {fp : List Nat} {w w' : World} {n : Nat} {v : Value} (h : IShape w fp n v) (k : ∀ b ∈ fp, w'.heap[b]? = w.heap[b]?) : IShape w' fp n v := by
  obtain ⟨ad, cap, e, l1, l2, h⟩ := h
  refine ⟨ad, cap, e, l1, l2, h.imp id ?_⟩
  rintro ⟨g, f, rfl, hg, hr⟩
  exact ⟨g, f, rfl, hg, hr.of_block (k g hg)⟩
theorem GIRes.lower {G : List Ce} {X : List Int} {gv tv : Value} {w w1 w' : World} (h : GIRes G X gv tv w1 w') (hl : w.heap.size ≤ w1.heap.size) : GIRes G X gv tv w w' := by
  obtain ⟨fG, bL, h1, h2, h3, h4, h5⟩ := h
  exact ⟨fG, bL, h1, fun k hk => ⟨Nat.le_trans hl (h2 k hk).1, (h2 k hk).2⟩, h3, Nat.le_trans hl h4, h5⟩
end Go.Proofs.Ytjpjikfmdaejeab
/-
  THE PROGRAM's canCopy, CopyGraph AND CopyOrder.
-/
namespace Go.Proofs.Ytjpjikfmdaejeab
set_option linter.unusedVariables false
set_option linter.unusedSimpArgs false
open Go.RowKit

set_option maxHeartbeats 800000 in
theorem canCopy_calls (g : List Ce) (rs : List Int) (v rv : Value) (w : World) (hk : CIn w g v) (hr : IIn w rs rv) :
    Calls Try.prog 41 #[v, rv] w fun e w' => e = .returned (.bool (rootB g rs)) ∧ Below w.heap.size w w' := by
  have HK : Hid (CIn w g v) := hk
  have HR : Hid (IIn w rs rv) := hr
  obtain ⟨ad, cap, rfl, hl, hm, -⟩ := hk
  obtain ⟨adr, capr, rfl, hlr, hmr, -⟩ := hr
  unfold maxLen at hm hmr
  go_enter Try.func41, Try.ntmps41
  go_wp2_with fail
  refine (implGraph_calls g 6 _ _ HK.out).mono ?_
  rintro e w1 ⟨rfl, hb1⟩
  have HB1 : Hid (Below w.heap.size w w1) := hb1
  clear hb1
  cases hg : graphB g 6 with
  | false =>
    have HV : Hid (rootB g rs = false) := by unfold Hid rootB; rw [hg]; rfl
    clear hg
    go_wp2_with fail
    go_ret
    exact ⟨ret_bool HV.out.symm, HB1.out⟩
  | true =>
    have HG : Hid (graphB g 6 = true) := hg
    clear hg
    by_cases h20 : (rs.length : Int) ≤ 20
    · have HV : Hid (rootB g rs = rs.all (isAt g.length)) := by unfold Hid rootB; rw [HG.out, decide_eq_true (by omega)]; rfl
      go_wp2_with fail
      refine (areCells_calls g.length cap ad rs _ _ (by omega) (HR.out.next HB1.out)).mono ?_
      rintro e w2 ⟨rfl, hb2⟩
      have HB2 : Hid (Below w.heap.size w w2) := HB1.out.trans (hb2.mono HB1.out.size)
      clear hb2
      go_wp2_with fail
      go_ret
      exact ⟨ret_bool HV.out.symm, HB2.out⟩
    · have HV : Hid (rootB g rs = false) := by unfold Hid rootB; rw [decide_eq_false (by omega)]; simp
      go_wp2_with fail
      go_ret
      exact ⟨ret_bool HV.out.symm, HB1.out⟩

/-- a graph and numbers in rows of their own, and whether -/
def OwnGI (r : List Ce × List Nat) (ok : Bool) (w : World) (e : Ending) (w' : World) : Prop :=
  ∃ gv tv, e = .returned (.tuple #[gv, tv, .bool ok]) ∧ GIRes r.1 (plI r.2) gv tv w w' ∧ Below w.heap.size w w'

end Go.Proofs.Ytjpjikfmdaejeab
/-
  THE PROGRAM's GraphSame (slices.EqualFunc, cellSame, slices.Equal); nothing that was there is changed.
-/
namespace Go.Proofs.Ytjpjikfmdaejeab
set_option linter.unusedVariables false
set_option linter.unusedSimpArgs false
open Go.RowKit

set_option maxHeartbeats 800000 in
theorem equalI_calls (xs ys : List Int) (u v : Value) (w : World) (hu : IIn w xs u) (hv : IIn w ys v) :
    Calls Try.prog 82 #[u, v] w fun e w' => e = .returned (.bool (sameL sameI xs ys)) ∧ Below w.heap.size w w' := by
  have HU : Hid (IIn w xs u) := hu
  have HV : Hid (IIn w ys v) := hv
  obtain ⟨ad, cap, rfl, hl, hm, -⟩ := hu
  obtain ⟨ad', cap', rfl, hl', hm', -⟩ := hv
  unfold maxLen at hm hm'
  by_cases hlen : xs.length = ys.length
  · have t1 : ((xs.length : Int) != ys.length) = false := by simp [hlen]
    have HL : Hid (xs.length = ys.length) := hlen
    clear hlen
    go_enter Try.func82, Try.ntmps82
    go_wp2_with fail
    go_loopw [13] (fun i wr => ∃ k : Nat, k ≤ xs.length ∧ i = .int .i64 k ∧ (∀ j (h : j < xs.length) (h' : j < ys.length), j < k → sameI xs[j] ys[j] = true) ∧ ∃ n, wr = w.drewN n) (fun i _ => xs.length - (intOf i).toNat)
    case atStart => exact ⟨0, Nat.zero_le _, rfl, fun j _ _ h => absurd h (by omega), 0, rfl⟩
    case round =>
      obtain ⟨k, hk, rfl, hall, n, rfl⟩ := hrel
      have HA : Hid (∀ j (h : j < xs.length) (h' : j < ys.length), j < k → sameI xs[j] ys[j] = true) := hall
      clear hall
      by_cases hlt : k < xs.length
      · have hlt2 : k < ys.length := by have := HL.out; omega
        obtain ⟨bl, off, rfl, c0⟩ := HU.out.at k hlt
        obtain ⟨bl', off', rfl, d0⟩ := HV.out.at k hlt2
        by_cases hx : xs[k] = ys[k]
        · have t2 : (xs[k] != ys[k]) = false := by simp [hx]
          have HA2 : Hid (∀ j (h : j < xs.length) (h' : j < ys.length), j < k + 1 → sameI xs[j] ys[j] = true) := by
            intro j h h' hj
            by_cases e : j = k
            · subst e; unfold sameI; simpa using hx
            · exact HA.out j h h' (by omega)
          clear hx
          go_wp2_with fail
          go_quiet (fail)
          go_wp2_with fail
          go_roundw
          case rel => exact ⟨k + 1, by omega, by go_num, HA2.out, _, rfl⟩
          case measure => simp [intOf]; omega
        · have t2 : (xs[k] != ys[k]) = true := by simpa using hx
          have HV2 : Hid (sameL sameI xs ys = false) := sameL_no _ _ _ k hlt hlt2 (by unfold sameI; simpa using hx)
          clear hx
          go_wp2_with fail
          go_quiet (fail)
          go_wp2_with fail
          go_ret
          exact ⟨ret_bool HV2.out.symm, below_drewN (below_drewN (Below.refl _ _) _) _⟩
      · have HV2 : Hid (sameL sameI xs ys = true) := sameL_yes _ _ _ HL.out fun j h h' => HA.out j h h' (by omega)
        go_wp2_with fail
        go_ret
        exact ⟨ret_bool HV2.out.symm, below_drewN (Below.refl _ _) _⟩
  · have t1 : ((xs.length : Int) != ys.length) = true := by simp; omega
    have HV2 : Hid (sameL sameI xs ys = false) := sameL_len _ _ _ hlen
    clear hlen
    go_enter Try.func82, Try.ntmps82
    go_wp2_with fail
    go_ret
    exact ⟨ret_bool HV2.out.symm, Below.refl _ _⟩

set_option maxHeartbeats 800000 in
theorem cellSame_calls (a b : Ce) (u v : Value) (w : World) (hu : IIn w a.kids u) (hv : IIn w b.kids v) :
    Calls Try.prog 62 #[.agg #[.int .i64 a.op, .int .i64 a.num, u], .agg #[.int .i64 b.op, .int .i64 b.num, v]] w fun e w' => e = .returned (.bool (sameC a b)) ∧ Below w.heap.size w w' := by
  have HU : Hid (IIn w a.kids u) := hu
  have HV : Hid (IIn w b.kids v) := hv
  have hb0 : ∀ o1 o2, Below w.heap.size w ((w.alloc o1).alloc o2) := fun o1 o2 => ((Below.refl _ _).alloc (Nat.le_refl _) _).alloc (by simp) _
  have HB0 : Hid (∀ o1 o2, Below w.heap.size w ((w.alloc o1).alloc o2)) := hb0
  clear hu hv hb0
  by_cases ho : a.op = b.op
  · by_cases hn : a.num = b.num
    · have HS : Hid (sameC a b = sameL sameI a.kids b.kids) := sameC_kids ho hn
      have t1 : (a.op == b.op) = true := by simpa using ho
      have t2 : (a.num == b.num) = true := by simpa using hn
      clear ho hn
      go_enter Try.func62, Try.ntmps62
      go_wp2_with fail
      refine (equalI_calls a.kids b.kids u v _ (HU.out.next (HB0.out _ _)) (HV.out.next (HB0.out _ _))).mono ?_
      rintro e w1 ⟨rfl, hb⟩
      have HB : Hid (Below w.heap.size w w1) := (HB0.out _ _).trans (hb.mono (by simp; omega))
      clear hb
      go_wp2_with fail
      go_ret
      exact ⟨ret_bool HS.out.symm, HB.out⟩
    · have HS : Hid (sameC a b = false) := sameC_num hn
      have t1 : (a.op == b.op) = true := by simpa using ho
      have t2 : (a.num == b.num) = false := by simpa using hn
      clear ho hn
      go_enter Try.func62, Try.ntmps62
      go_wp2_with fail
      go_ret
      exact ⟨ret_bool HS.out.symm, HB0.out _ _⟩
  · have HS : Hid (sameC a b = false) := sameC_op ho
    have t1 : (a.op == b.op) = false := by simpa using ho
    clear ho
    go_enter Try.func62, Try.ntmps62
    go_wp2_with fail
    go_ret
    exact ⟨ret_bool HS.out.symm, HB0.out _ _⟩

set_option maxHeartbeats 1600000 in
theorem equalFunc_calls (a b : List Ce) (u v : Value) (w : World) (hu : CIn w a u) (hv : CIn w b v) :
    Calls Try.prog 61 #[u, v, .func (.func 62) #[] #[]] w fun e w' => e = .returned (.bool (sameG a b)) ∧ Below w.heap.size w w' := by
  have HU : Hid (CIn w a u) := hu
  have HV : Hid (CIn w b v) := hv
  obtain ⟨ad, cap, rfl, hl, hm, -⟩ := hu
  obtain ⟨ad', cap', rfl, hl', hm', -⟩ := hv
  unfold maxLen at hm hm'
  by_cases hlen : a.length = b.length
  · have t1 : ((a.length : Int) != b.length) = false := by simp [hlen]
    have HL : Hid (a.length = b.length) := hlen
    clear hlen
    go_enter Try.func61, Try.ntmps61
    go_wp2_with fail
    go_loopw [17] (fun i wr => ∃ k : Nat, k ≤ a.length ∧ i = .int .i64 k ∧ (∀ j (h : j < a.length) (h' : j < b.length), j < k → sameC a[j] b[j] = true) ∧ Below w.heap.size w wr) (fun i _ => a.length - (intOf i).toNat)
    case atStart => exact ⟨0, Nat.zero_le _, rfl, fun j _ _ h => absurd h (by omega), Below.refl _ _⟩
    case round =>
      obtain ⟨k, hk, rfl, hall, hb⟩ := hrel
      have HA : Hid (∀ j (h : j < a.length) (h' : j < b.length), j < k → sameC a[j] b[j] = true) := hall
      have HB : Hid (Below w.heap.size w wr) := hb
      clear hall hb
      by_cases hlt : k < a.length
      · have hlt2 : k < b.length := by have := HL.out; omega
        obtain ⟨bl, off, r, rfl, c0, c1, c2, -, -, hkk⟩ := (HU.out.next HB.out).at k hlt
        obtain ⟨bl', off', r', rfl, d0, d1, d2, -, -, hkk'⟩ := (HV.out.next HB.out).at k hlt2
        obtain ⟨ad2, cap2, rfl, -, -, -⟩ := id hkk
        obtain ⟨ad3, cap3, rfl, -, -, -⟩ := id hkk'
        have HK1 : Hid (IIn wr a[k].kids (.slice ad2 a[k].kids.length cap2)) := hkk
        have HK2 : Hid (IIn wr b[k].kids (.slice ad3 b[k].kids.length cap3)) := hkk'
        clear hkk hkk'
        have q0 := old_cell d0 (.cells #[.int .i64 a[k].op, .int .i64 a[k].num, .slice ad2 a[k].kids.length cap2] 60)
        have q1 := old_cell d1 (.cells #[.int .i64 a[k].op, .int .i64 a[k].num, .slice ad2 a[k].kids.length cap2] 60)
        have q2 := old_cell d2 (.cells #[.int .i64 a[k].op, .int .i64 a[k].num, .slice ad2 a[k].kids.length cap2] 60)
        clear d0 d1 d2
        go_wp2_with fail
        have hb0 : ∀ o1 o2, Below wr.heap.size wr ((wr.alloc o1).alloc o2) := fun o1 o2 => ((Below.refl _ _).alloc (Nat.le_refl _) _).alloc (by simp) _
        refine (cellSame_calls a[k] b[k] _ _ _ (HK1.out.next (hb0 _ _)) (HK2.out.next (hb0 _ _))).mono ?_
        rintro e w1 ⟨rfl, hb1⟩
        have HB1 : Hid (Below w.heap.size w w1) := HB.out.trans (((hb0 _ _).trans (hb1.mono (by simp; omega))).mono HB.out.size)
        clear hb1 hb0 c0 c1 c2 q0 q1 q2
        cases hx : sameC a[k] b[k] with
        | true =>
          have HA2 : Hid (∀ j (h : j < a.length) (h' : j < b.length), j < k + 1 → sameC a[j] b[j] = true) := by
            intro j h h' hj
            by_cases e : j = k
            · subst e; exact hx
            · exact HA.out j h h' (by omega)
          clear hx
          go_wp2_with fail
          go_roundw
          case rel => exact ⟨k + 1, by omega, by go_num, HA2.out, HB1.out⟩
          case measure => simp [intOf]; omega
        | false =>
          have HV2 : Hid (sameG a b = false) := sameL_no _ _ _ k hlt hlt2 hx
          clear hx
          go_wp2_with fail
          go_ret
          exact ⟨ret_bool HV2.out.symm, HB1.out⟩
      · have HV2 : Hid (sameG a b = true) := sameL_yes _ _ _ HL.out fun j h h' => HA.out j h h' (by omega)
        go_wp2_with fail
        go_ret
        exact ⟨ret_bool HV2.out.symm, HB.out⟩
  · have t1 : ((a.length : Int) != b.length) = true := by simp; omega
    have HV2 : Hid (sameG a b = false) := sameL_len _ _ _ hlen
    clear hlen
    go_enter Try.func61, Try.ntmps61
    go_wp2_with fail
    go_ret
    exact ⟨ret_bool HV2.out.symm, Below.refl _ _⟩

set_option maxHeartbeats 400000 in
theorem implSameG_calls (a b : List Ce) (u v : Value) (w : World) (hu : CIn w a u) (hv : CIn w b v) :
    Calls Try.prog 38 #[u, v] w fun e w' => e = .returned (.bool (sameG a b)) ∧ Below w.heap.size w w' := by
  have HU : Hid (CIn w a u) := hu
  have HV : Hid (CIn w b v) := hv
  clear hu hv
  go_enter Try.func38, Try.ntmps38
  go_wp2_with fail
  refine (equalFunc_calls a b u v _ HU.out HV.out).mono ?_
  rintro e w1 ⟨rfl, hb⟩
  have HB : Hid (Below w.heap.size w w1) := hb
  clear hb
  go_wp2_with fail
  go_ret
  exact ⟨rfl, HB.out⟩
end Go.Proofs.Ytjpjikfmdaejeab
/-
  THE PROGRAM's hasCell.
-/
namespace Go.Proofs.Ytjpjikfmdaejeab
set_option linter.unusedVariables false
set_option linter.unusedSimpArgs false
open Go.RowKit

set_option maxHeartbeats 800000 in
theorem hasCell_calls (g : List Ce) (a : Int) (v : Value) (w : World) (hk : CIn w g v) :
    Calls Try.prog 36 #[v, .int .i64 a] w fun e w' => e = .returned (.bool (graphB g 6 && isAt g.length a)) ∧ Below w.heap.size w w' := by
  have HK : Hid (CIn w g v) := hk
  obtain ⟨ad, cap, rfl, hl, hm, -⟩ := hk
  unfold maxLen at hm
  go_enter Try.func36, Try.ntmps36
  go_wp2_with fail
  refine (implGraph_calls g 6 _ _ HK.out).mono ?_
  rintro e w1 ⟨rfl, hb1⟩
  have HB1 : Hid (Below w.heap.size w w1) := hb1
  clear hb1
  cases hg : graphB g 6 with
  | false =>
    have HV : Hid ((graphB g 6 && isAt g.length a) = false) := by rw [Hid, hg]; rfl
    go_wp2_with fail
    go_ret
    exact ⟨ret_bool HV.out.symm, HB1.out⟩
  | true =>
    have HV : Hid ((graphB g 6 && isAt g.length a) = isAt g.length a) := by rw [Hid, hg]; rfl
    go_wp2_with fail
    refine (isCell_calls g.length cap ad a _ (by omega)).mono ?_
    rintro e w2 ⟨rfl, hb2⟩
    have HB2 : Hid (Below w.heap.size w w2) := HB1.out.trans (hb2.mono HB1.out.size)
    clear hb2
    go_wp2_with fail
    go_ret
    exact ⟨ret_bool HV.out.symm, HB2.out⟩

theorem isAt_iff {n a : Int} : isAt n a = true ↔ 0 ≤ a ∧ a < n := by unfold isAt; simp
end Go.Proofs.Ytjpjikfmdaejeab
/-
  THE PROGRAM's SameFrom.
-/
namespace Go.Proofs.Ytjpjikfmdaejeab
set_option linter.unusedVariables false
set_option linter.unusedSimpArgs false
open Go.RowKit

set_option maxHeartbeats 1600000 in
theorem implSF_calls (a : List Ce) (x : Int) (b : List Ce) (y : Int) (u v : Value) (w : World) (hu : CIn w a u) (hv : CIn w b v) :
    Calls Try.prog 11 #[u, .int .i64 x, v, .int .i64 y] w fun e w' => e = .returned (.bool (sameO a x b y)) ∧ Below w.heap.size w w' := by
  have HU : Hid (CIn w a u) := hu
  have HW : Hid (CIn w b v) := hv
  have HBX : Hid (∀ (W : World) (n : Int), Below W.heap.size W (W.alloc (.cells #[.int .i64 n] 3))) := fun W n => box_below _ _
  clear hu hv
  go_enter Try.func11, Try.ntmps11
  go_wp2_with fail
  refine (hasCell_calls a x _ _ HU.out).mono ?_
  rintro e w1 ⟨rfl, hb1⟩
  have HB1 : Hid (Below w.heap.size w w1) := hb1
  clear hb1
  rw [← root_one]
  cases hg : rootB a [x] with
  | false =>
    have HV := mkHid (sameO_no1 (b := b) (y := y) hg)
    clear hg
    go_wp2_with fail
    go_ret
    exact ⟨ret_bool HV.out.symm, HB1.out⟩
  | true =>
    have HT := mkHid hg
    clear hg
    go_wp2_with fail
    refine (hasCell_calls b y _ _ (HW.out.next HB1.out)).mono ?_
    rintro e w2 ⟨rfl, hb2⟩
    have HB2 : Hid (Below w.heap.size w w2) := HB1.out.trans (hb2.mono HB1.out.size)
    clear hb2
    rw [← root_one]
    cases hg2 : rootB b [y] with
    | false =>
      have HV := mkHid (sameO_no2 (a := a) (x := x) hg2)
      clear hg2
      go_wp2_with fail
      go_ret
      exact ⟨ret_bool HV.out.symm, HB2.out⟩
    | true =>
      have HT2 := mkHid hg2
      have HV := mkHid (sameO_yes HT.out hg2)
      have HN1 := mkHid (root_back HT.out)
      have HN2 := mkHid (root_back hg2)
      clear hg2
      go_wp2_with fail
      refine (copyFrom_calls a (natL [x]) _ _ _ (HU.out.next (HB2.out.trans ((box_below _ _).mono HB2.out.size))) (by have h := one_inI w2 x; rw [HN1.out] at h; exact h) (rootB_iff.1 HT.out).1 (root_lt HT.out) (by simp [natL])).mono ?_
      rintro e w3 ⟨C, M, fv, gv, ov, tv, S, rfl, hC, hbx, hog, hS, hoo, hot, hb3⟩
      have HB3 : Hid (Below w.heap.size w w3) := HB2.out.trans (((HBX.out w2 x).trans (hb3.mono (HBX.out w2 x).size)).mono HB2.out.size)
      have HO := mkHid (hog.own fun k h _ => (hS k h).1).inn
      have HBOX := mkHid hbx
      have HCl : Hid (C < w3.heap.size) := (Array.getElem?_eq_some_iff.1 hbx).1
      clear hbx hog hS hoo hot hb3
      go_wp2_with fail
      refine (copyFrom_calls b (natL [y]) _ _ _ (HW.out.next (HB3.out.trans ((box_below _ _).mono HB3.out.size))) (by have h := one_inI w3 y; rw [HN2.out] at h; exact h) (rootB_iff.1 HT2.out).1 (root_lt HT2.out) (by simp [natL])).mono ?_
      rintro e w4 ⟨C2, M2, fv2, gv2, ov2, tv2, S2, rfl, hC2, hbx, hog, hS, hoo, hot, hb4⟩
      have HBB : Hid (Below w3.heap.size w3 w4) := (HBX.out w3 y).trans (hb4.mono (HBX.out w3 y).size)
      have HB4 : Hid (Below w.heap.size w w4) := HB3.out.trans (HBB.out.mono HB3.out.size)
      have HO2 := mkHid (hog.own fun k h _ => (hS k h).1).inn
      have HO1 := mkHid (HO.out.next HBB.out)
      have c1 := cell_of_blk ((HBB.out.block C HCl.out).trans HBOX.out) 1 _ rfl
      have c2 := cell_of_blk hbx 1 _ rfl
      clear hbx hog hS hoo hot hb4
      go_wp2_with fail
      go_region_held3 (fun w' => w'.cell? ⟨C, 1, none⟩ = some gv ∧ w'.cell? ⟨C2, 1, none⟩ = some gv2)
        (first | go_keep | exact ⟨c1, c2⟩ | exact ⟨d1, d2⟩)
        (first
          | (go_at_call 38; refine (implSameG_calls _ _ _ _ _ HO1.out.drew HO2.out.drew).mono ?_; rintro e w5 ⟨rfl, hb5⟩; have HB5 : Hid (Below w.heap.size w w5) := HB4.out.trans ((((Below.refl _ _).drew).trans hb5).mono HB4.out.size); have d1 := (hb5.cell (p := ⟨C, 1, none⟩) (cell_lt c1)).trans c1; have d2 := (hb5.cell (p := ⟨C2, 1, none⟩) (cell_lt c2)).trans c2; clear hb5))
      go_wp2_with fail
      go_ret
      exact ⟨ret_bool HV.out.symm, HB5.out⟩
end Go.Proofs.Ytjpjikfmdaejeab
/-
  A COPY OF A GRAPH, AS ROWS THAT MAY BE MARKED.
-/
namespace Go.Proofs.Ytjpjikfmdaejeab
set_option linter.unusedVariables false
set_option linter.unusedSimpArgs false
open Go.RowKit

theorem CellRow.shape {w : World} {lo : Nat} {g : List Ce} {v : Value} (h : CellRow w lo g v) : CShape w (List.range' lo (w.heap.size - lo)) (g.map (·.kids.length)) v := by
  obtain ⟨ad, cap, e, l1, l2, h⟩ := h
  refine ⟨ad, cap, by rw [List.length_map]; exact e, by rw [List.length_map]; exact l1, l2, ?_⟩
  rcases h with rfl | ⟨b, f, rfl, hb, hr, hf⟩
  · exact Or.inl rfl
  · refine Or.inr ⟨b, f, rfl, by rw [List.mem_range'_1]; have := hr.lt; omega, hr, fun i hi => ?_⟩
    rw [List.length_map] at hi
    obtain ⟨-, -, -, -, ad2, cap2, e2, l3, l4, h2⟩ := hf i hi
    refine ⟨ad2, cap2, by rw [e2]; simp, by simpa using l3, l4, ?_⟩
    rcases h2 with h2 | ⟨b2, f2, rfl, hb2, hr2, -⟩
    · left; simp [h2]
    · exact Or.inr ⟨b2, f2, rfl, by rw [List.mem_range'_1]; have := hr2.lt; omega, hr2⟩
theorem sum_shape (g : List Ce) : sumN' (g.map (·.kids.length)) = sumK g := rfl
end Go.Proofs.Ytjpjikfmdaejeab
/-
  THE WALK OF FnExactSameFrom.
-/
namespace Go.Proofs.Ytjpjikfmdaejeab.lawExactSameFrom
open Go.ChangeShapes Go.WideShapes Go.ChangeAt Go.RowKit
set_option linter.unusedVariables false
set_option linter.unusedSimpArgs false

set_option maxRecDepth 100000 in
set_option maxHeartbeats 3200000 in
theorem walk (g0 : List Ce) (c0 : Value) (i1 : Int) (g2 : List Ce) (c2 : Value) (i3 : Int) (w : World) (hk0 : CIn w g0 c0) (hk2 : CIn w g2 c2) (hi1 : I64 i1) (hi3 : I64 i3) :
    Calls Try.prog 3 #[c0, .int .i64 i1, c2, .int .i64 i3] w fun e w' => e = .returned (.bool true) ∧ Below w.heap.size w w' := by
  have HK0 : Hid (CIn w g0 c0) := hk0
  have HK2 : Hid (CIn w g2 c2) := hk2
  obtain ⟨r0, hr0⟩ : ∃ r : Bool, r = sameO g0 i1 g2 i3 := ⟨_, rfl⟩
  have HSS : Hid (∀ (u0 u2 : Value) (W : World), CIn W g0 u0 → CIn W g2 u2 → Calls Try.prog 9 #[u0, .int .i64 i1, u2, .int .i64 i3] W fun en w' => en = .returned (.bool r0) ∧ Below W.heap.size W w') := fun u0 u2 W h0 h2 => by rw [hr0]; exact specSF_calls g0 i1 g2 i3 u0 u2 W h0 h2
  have HSI : Hid (∀ (u0 u2 : Value) (W : World), CIn W g0 u0 → CIn W g2 u2 → Calls Try.prog 11 #[u0, .int .i64 i1, u2, .int .i64 i3] W fun en w' => en = .returned (.bool r0) ∧ Below W.heap.size W w') := fun u0 u2 W h0 h2 => by rw [hr0]; exact implSF_calls g0 i1 g2 i3 u0 u2 W h0 h2
  have t0 : (r0 != r0) = false := by simp
  clear hr0
  clear hk0
  clear hk2
  clear hi1
  clear hi3
  go_enter Try.func3, Try.ntmps3
  have HB_w : Hid (Below w.heap.size w w) := Below.refl _ _
  have hleft0 : (0 : Int) ≤ 1048576 ∧ (1048576 : Int) ≤ 1048576 := by omega
  have hrg0 := szC_range g0 1048576 (by omega)
  go_wp2_with fail
  refine (szCells_calls g0 c0 _ _ (HK0.out.next HB_w.out) (by omega) (by omega)).mono ?_
  rintro en w1 ⟨rfl, hb⟩
  have HB_w1 : Hid (Below w.heap.size w w1) := HB_w.out.trans (hb.mono HB_w.out.size)
  clear hb
  by_cases hneg0 : szC g0 1048576 < 0
  · go_wp2_with fail
    go_ret
    exact ⟨rfl, HB_w1.out⟩
  have HZ0 : Hid (g0.length + sumK g0 ≤ 1048576) := by unfold szC at hneg0; unfold Hid; split at hneg0 <;> omega
  generalize szC g0 1048576 = left0 at *
  have hrg2 := szC_range g2 left0 (by omega)
  go_wp2_with fail
  refine (szCells_calls g2 c2 _ _ (HK2.out.next HB_w1.out) (by omega) (by omega)).mono ?_
  rintro en w2 ⟨rfl, hb⟩
  have HB_w2 : Hid (Below w.heap.size w w2) := HB_w1.out.trans (hb.mono HB_w1.out.size)
  clear hb
  by_cases hneg2 : szC g2 left0 < 0
  · go_wp2_with fail
    go_ret
    exact ⟨rfl, HB_w2.out⟩
  have HZ2 : Hid (g2.length + sumK g2 ≤ 1048576) := by unfold szC at hneg2; unfold Hid; split at hneg2 <;> omega
  generalize szC g2 left0 = left2 at *
  clear hrg0
  clear hrg2
  -- the model's answer
  go_wp2_with fail
  refine (toCells_calls g0 c0 _ (HK0.out.next HB_w2.out) HZ0.out).mono ?_
  rintro en w3 ⟨s0, rfl, hv, hb⟩
  have HB_w3 : Hid (Below w.heap.size w w3) := HB_w2.out.trans (hb.mono HB_w2.out.size)
  have s0_w3 : Hid (CIn w3 g0 s0) := hv.inn
  clear hv hb
  go_wp2_with fail
  refine (toCells_calls g2 c2 _ (HK2.out.next HB_w3.out) HZ2.out).mono ?_
  rintro en w4 ⟨s2, rfl, hv, hb⟩
  have s0_w4 : Hid (CIn w4 g0 s0) := s0_w3.out.next hb
  have HB_w4 : Hid (Below w.heap.size w w4) := HB_w3.out.trans (hb.mono HB_w3.out.size)
  have s2_w4 : Hid (CIn w4 g2 s2) := hv.inn
  clear hv hb
  go_wp2_with fail
  refine (HSS.out s0 s2 _ s0_w4.out s2_w4.out).mono ?_
  rintro en w5 ⟨rfl, hb⟩
  have HB_w5 : Hid (Below w.heap.size w w5) := HB_w4.out.trans (hb.mono HB_w4.out.size)
  clear hb
  -- the program's answer
  go_wp2_with fail
  refine (toCells_calls g0 c0 _ (HK0.out.next HB_w5.out) HZ0.out).mono ?_
  rintro en w6 ⟨x0, rfl, hv, hb⟩
  have HB_w6 : Hid (Below w.heap.size w w6) := HB_w5.out.trans (hb.mono HB_w5.out.size)
  have x0_w6 : Hid (CIn w6 g0 x0) := hv.inn
  clear hv hb
  go_wp2_with fail
  refine (toCells_calls g2 c2 _ (HK2.out.next HB_w6.out) HZ2.out).mono ?_
  rintro en w7 ⟨x2, rfl, hv, hb⟩
  have x0_w7 : Hid (CIn w7 g0 x0) := x0_w6.out.next hb
  have HB_w7 : Hid (Below w.heap.size w w7) := HB_w6.out.trans (hb.mono HB_w6.out.size)
  have x2_w7 : Hid (CIn w7 g2 x2) := hv.inn
  clear hv hb
  go_wp2_with fail
  refine (HSI.out x0 x2 _ x0_w7.out x2_w7.out).mono ?_
  rintro en w8 ⟨rfl, hb⟩
  have x0_w8 : Hid (CIn w8 g0 x0) := x0_w7.out.next hb
  have x2_w8 : Hid (CIn w8 g2 x2) := x2_w7.out.next hb
  have HB_w8 : Hid (Below w.heap.size w w8) := HB_w7.out.trans (hb.mono HB_w7.out.size)
  clear hb
  -- the arguments are as they were
  go_wp2_with fail
  refine (toCells_calls g0 c0 _ (HK0.out.next HB_w8.out) HZ0.out).mono ?_
  rintro en w9 ⟨y0, rfl, hv, hb⟩
  have x0_w9 : Hid (CIn w9 g0 x0) := x0_w8.out.next hb
  have x2_w9 : Hid (CIn w9 g2 x2) := x2_w8.out.next hb
  have HB_w9 : Hid (Below w.heap.size w w9) := HB_w8.out.trans (hb.mono HB_w8.out.size)
  have y0_w9 : Hid (CIn w9 g0 y0) := hv.inn
  clear hv hb
  go_wp2_with fail
  refine (eqCells_calls g0 x0 y0 _ x0_w9.out y0_w9.out).mono ?_
  rintro en w10 ⟨rfl, hb⟩
  have x0_w10 : Hid (CIn w10 g0 x0) := x0_w9.out.next hb
  have x2_w10 : Hid (CIn w10 g2 x2) := x2_w9.out.next hb
  have HB_w10 : Hid (Below w.heap.size w w10) := HB_w9.out.trans (hb.mono HB_w9.out.size)
  clear hb
  go_wp2_with fail
  refine (toCells_calls g2 c2 _ (HK2.out.next HB_w10.out) HZ2.out).mono ?_
  rintro en w11 ⟨y2, rfl, hv, hb⟩
  have x0_w11 : Hid (CIn w11 g0 x0) := x0_w10.out.next hb
  have x2_w11 : Hid (CIn w11 g2 x2) := x2_w10.out.next hb
  have HB_w11 : Hid (Below w.heap.size w w11) := HB_w10.out.trans (hb.mono HB_w10.out.size)
  have y2_w11 : Hid (CIn w11 g2 y2) := hv.inn
  clear hv hb
  go_wp2_with fail
  refine (eqCells_calls g2 x2 y2 _ x2_w11.out y2_w11.out).mono ?_
  rintro en w12 ⟨rfl, hb⟩
  have x0_w12 : Hid (CIn w12 g0 x0) := x0_w11.out.next hb
  have x2_w12 : Hid (CIn w12 g2 x2) := x2_w11.out.next hb
  have HB_w12 : Hid (Below w.heap.size w w12) := HB_w11.out.trans (hb.mono HB_w11.out.size)
  clear hb
  go_wp2_with fail
  go_ret
  exact ⟨rfl, HB_w12.out⟩
end Go.Proofs.Ytjpjikfmdaejeab.lawExactSameFrom
