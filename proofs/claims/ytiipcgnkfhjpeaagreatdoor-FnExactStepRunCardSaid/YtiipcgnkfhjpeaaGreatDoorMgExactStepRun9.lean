/-
  THE LAWS' OWN MARKS IN A GRAPH (markCellS): only the graph's own blocks are written.
-/
import Derived.Test.YtiipcgnkfhjpeaaGreatDoorMgExactStepRun4
import Derived.Test.YtiipcgnkfhjpeaaGreatDoorMgExactStepRun8
import Derived.Test.YtiipcgnkfhjpeaaGreatDoorMgExactStepRun3
namespace Go.Proofs.YtiipcgnkfhjpeaaGreatDoor
set_option linter.unusedVariables false
set_option linter.unusedSimpArgs false
open Go.RowKit

/-- a row of ints, whatever they are -/
def IShape (w : World) (fp : List Nat) (n : Nat) (v : Value) : Prop :=
  ∃ ad cap, v = .slice ad n cap ∧ n ≤ cap ∧ cap ≤ maxLen ∧ (n = 0 ∨ ∃ g f, ad = some ⟨g, 0, none⟩ ∧ g ∈ fp ∧ w.rowIs g 3 cap f)
/-- a row of cells, whatever their numbers are -/
def CShape (w : World) (fp : List Nat) (ns : List Nat) (v : Value) : Prop :=
  ∃ ad cap, v = .slice ad ns.length cap ∧ ns.length ≤ cap ∧ cap ≤ maxLen ∧ (ns = [] ∨ ∃ b f, ad = some ⟨b, 0, none⟩ ∧ b ∈ fp ∧ w.rowIs b 93 (cap * 3) f ∧ ∀ i (h : i < ns.length), IShape w fp ns[i] (f (i * 3 + 2)))
/-- shapes stay, and nothing but fp is written -/
structure Keeps (fp : List Nat) (w w' : World) : Prop where
  ints : ∀ n v, IShape w fp n v → IShape w' fp n v
  rows : ∀ b c f, w.rowIs b 93 c f → w'.rowIs b 93 c f
  but : ButL fp w w'
theorem Keeps.refl (fp : List Nat) (w : World) : Keeps fp w w := ⟨fun _ _ h => h, fun _ _ _ h => h, ButL.refl _ _⟩
theorem Keeps.trans {fp : List Nat} {a b c : World} (h : Keeps fp a b) (k : Keeps fp b c) : Keeps fp a c := ⟨fun n v x => k.ints n v (h.ints n v x), fun g c f x => k.rows g c f (h.rows g c f x), h.but.trans k.but⟩
theorem rows_part {w : World} {b g n m : Nat} {f f' : Nat → Value} (h : w.rowIs b 93 n f) (h' : w.rowIs g 3 m f') : b ≠ g := by
  rintro rfl
  obtain ⟨c, h1, -⟩ := h
  obtain ⟨c', h2, -⟩ := h'
  rw [h1] at h2
  simp at h2
theorem setCell_other (w : World) {b k : Nat} (o : Nat) (u : Value) (h : k ≠ b) : (w.setCell ⟨b, o, none⟩ u).heap[k]? = w.heap[k]? := Below.heap_setCell _ _ _ _ (fun e => h e)
/-- a store into a row of ints -/
theorem Keeps.int {fp : List Nat} {w : World} {g cap : Nat} {f : Nat → Value} (hg : g ∈ fp) (hr : w.rowIs g 3 cap f) (j : Nat) (u : Value) : Keeps fp w (w.setCell ⟨g, j, none⟩ u) where
  ints n v h := by
    obtain ⟨ad, cap2, e, l1, l2, h⟩ := h
    refine ⟨ad, cap2, e, l1, l2, h.imp id ?_⟩
    rintro ⟨g2, f2, rfl, hg2, hr2⟩
    by_cases hgg : g2 = g
    · subst hgg; exact ⟨g2, _, rfl, hg2, hr2.set j u⟩
    · exact ⟨g2, f2, rfl, hg2, hr2.of_block (setCell_other w j u hgg)⟩
  rows b c f2 h := h.of_block (setCell_other w j u (rows_part h hr))
  but := ButL.setCell w g j hg u

set_option maxHeartbeats 400000 in
theorem markI_calls (n : Nat) (fp : List Nat) (v : Value) (k : Int) (w : World) (hc : IShape w fp n v) (h0 : 0 ≤ k) (h1 : k + (n : Int) ≤ 1152921504606846976) :
    Calls Tryz.prog 63 #[v, .int .i64 k] w fun e w' => e = .returned (.int .i64 (k + (n : Int))) ∧ Keeps fp w w' := by
  have HC : Hid (IShape w fp n v) := hc
  obtain ⟨ad, cap, rfl, hl, hm, -⟩ := hc
  unfold maxLen at hm
  go_enter Tryz.func63, Tryz.ntmps63
  go_wp2_with fail
  go_loopw [1, 5] (fun q i wr => ∃ j : Nat, j ≤ n ∧ i = .int .i64 j ∧ q = .int .i64 (k + j) ∧ Keeps fp w wr) (fun _ i _ => n - (intOf i).toNat)
  case atStart => exact ⟨0, Nat.zero_le _, rfl, by simp, Keeps.refl _ _⟩
  case round =>
    obtain ⟨j, hj, rfl, rfl, hr⟩ := hrel
    have HR : Hid (Keeps fp w wr) := hr
    by_cases hlt : j < n
    · obtain ⟨_, _, he, -, -, hrow⟩ := hr.ints _ _ HC.out
      cases he
      rcases hrow with rfl | ⟨g, f, rfl, hg, hrow⟩
      · simp at hlt
      have HK : Hid (Keeps fp w (wr.setCell ⟨g, j, none⟩ (.int .i64 (k + (j : Int))))) := HR.out.trans (Keeps.int hg hrow j _)
      have c0 := hrow.cell (i := j) (by omega)
      have f0 := hrow.frozen j
      clear hr hrow
      go_wp2_with fail
      go_roundw
      case rel => exact ⟨j + 1, by omega, by go_num, congrArg (Value.int .i64) (by push_cast; omega), HK.out⟩
      case measure => simp [intOf]; omega
    · have hje : j = n := by omega
      have HJ : Hid (k + (n : Int) = k + (j : Int)) := by rw [hje]; rfl
      clear hje hr
      go_wp2_with fail
      go_ret
      exact ⟨ret_int HJ.out.symm, HR.out⟩

theorem CShape.keep {fp : List Nat} {w w' : World} {ns : List Nat} {v : Value} (h : CShape w fp ns v) (k : Keeps fp w w') : CShape w' fp ns v := by
  obtain ⟨ad, cap, e, l1, l2, h⟩ := h
  refine ⟨ad, cap, e, l1, l2, h.imp id ?_⟩
  rintro ⟨b, f, rfl, hb, hr, hi⟩
  exact ⟨b, f, rfl, hb, k.rows _ _ _ hr, fun i h => k.ints _ _ (hi i h)⟩
theorem CShape.blocks {fp : List Nat} {w w' : World} {ns : List Nat} {v : Value} (h : CShape w fp ns v) (k : ∀ b ∈ fp, w'.heap[b]? = w.heap[b]?) : CShape w' fp ns v := by
  obtain ⟨ad, cap, e, l1, l2, h⟩ := h
  refine ⟨ad, cap, e, l1, l2, h.imp id ?_⟩
  rintro ⟨b, f, rfl, hb, hr, hi⟩
  refine ⟨b, f, rfl, hb, hr.of_block (k b hb), fun i h => ?_⟩
  obtain ⟨ad, cap, e, l1, l2, h⟩ := hi i h
  refine ⟨ad, cap, e, l1, l2, h.imp id ?_⟩
  rintro ⟨g, f, rfl, hg, hr⟩
  exact ⟨g, f, rfl, hg, hr.of_block (k g hg)⟩
/-- a store into the row of cells, not at an operand -/
theorem CShape.store {fp : List Nat} {w : World} {ns : List Nat} {b n cap : Nat} (h : CShape w fp ns (.slice (some ⟨b, 0, none⟩) n cap)) (hn : 0 < ns.length) (i m : Nat) (hm : m < 2) (u : Value) :
    CShape (w.setCell ⟨b, i * 3 + m, none⟩ u) fp ns (.slice (some ⟨b, 0, none⟩) n cap) ∧ ButL fp w (w.setCell ⟨b, i * 3 + m, none⟩ u) := by
  obtain ⟨ad, cap2, e, l1, l2, h⟩ := h
  simp only [Value.slice.injEq] at e
  obtain ⟨rfl, rfl, rfl⟩ := e
  rcases h with rfl | ⟨b2, f, e, hb, hr, hi⟩
  · simp at hn
  simp only [Option.some.injEq, Addr.mk.injEq, and_true] at e
  subst e
  refine ⟨⟨_, cap, rfl, l1, l2, Or.inr ⟨b, _, rfl, hb, hr.set (i * 3 + m) u, fun j hj => ?_⟩⟩, ButL.setCell w b _ hb u⟩
  have hne : ¬ (j * 3 + 2 = i * 3 + m) := by omega
  simp only [if_neg hne]
  obtain ⟨ad, cap3, e, l3, l4, h⟩ := hi j hj
  refine ⟨ad, cap3, e, l3, l4, h.imp id ?_⟩
  rintro ⟨g2, f2, rfl, hg2, hr2⟩
  exact ⟨g2, f2, rfl, hg2, hr2.of_block (setCell_other w _ u (rows_part hr hr2).symm)⟩

def sumN' (l : List Nat) : Nat := l.sum
theorem sumN_take_succ (l : List Nat) (i : Nat) (h : i < l.length) : sumN' (l.take (i + 1)) = sumN' (l.take i) + l[i] := by
  unfold sumN'; rw [List.take_succ_eq_append_getElem h, List.sum_append]; simp
theorem sumN_take_le (l : List Nat) (i : Nat) : sumN' (l.take i) ≤ sumN' l := by
  unfold sumN'
  conv => rhs; rw [← List.take_append_drop i l, List.sum_append]
  omega

set_option maxRecDepth 100000 in
set_option maxHeartbeats 1600000 in
theorem markCells_calls (ns : List Nat) (fp : List Nat) (v : Value) (k : Int) (w : World) (hc : CShape w fp ns v) (h0 : 0 ≤ k) (h1 : k ≤ 576460752303423488) (hs : ns.length + sumN' ns ≤ 1048576) :
    Calls Tryz.prog 41 #[v, .int .i64 k] w fun e w' => e = .returned (.int .i64 (k + (2 * ns.length + sumN' ns : Nat))) ∧ ButL fp w w' := by
  have HC : Hid (CShape w fp ns v) := hc
  obtain ⟨ad, cap, rfl, hl, hm, -⟩ := hc
  unfold maxLen at hm
  go_enter Tryz.func41, Tryz.ntmps41
  go_wp2_with fail
  go_loopw [1, 5] (fun qv i wr => ∃ (j : Nat) (q : Int), j ≤ ns.length ∧ i = .int .i64 j ∧ qv = .int .i64 q ∧ Hid (q = k + ((2 * j + sumN' (ns.take j) : Nat) : Int)) ∧ CShape wr fp ns (.slice ad ns.length cap) ∧ ButL fp w wr) (fun _ i _ => ns.length - (intOf i).toNat)
  case atStart => exact ⟨0, k, Nat.zero_le _, rfl, rfl, by simp [Hid, sumN'], HC.out, ButL.refl _ _⟩
  case round =>
    obtain ⟨j, q, hj, rfl, rfl, HQ, hsh, hbw⟩ := hrel
    have HB : Hid (ButL fp w wr) := hbw
    clear hbw
    by_cases hlt : j < ns.length
    · have e1 := sumN_take_succ ns j hlt
      have e2 := sumN_take_le ns (j + 1)
      have HE : Hid (sumN' (ns.take (j + 1)) = sumN' (ns.take j) + ns[j]) := e1
      obtain ⟨b, rfl⟩ : ∃ b, ad = some ⟨b, 0, none⟩ := by
        obtain ⟨_, _, he, -, -, hr⟩ := hsh
        cases he
        rcases hr with hnil | ⟨b, f, rfl, -⟩
        · rw [hnil] at hlt; simp at hlt
        · exact ⟨b, rfl⟩
      have hq := HQ.out
      have hq0 : 0 ≤ q := by omega
      have hq1 : q + 2 + (ns[j] : Int) ≤ 1152921504606846976 := by omega
      clear hq
      have s1 := hsh.store (by omega) j 0 (by omega) (.int .i64 q)
      have s2 := s1.1.store (by omega) j 1 (by omega) (.int .i64 (q + 1))
      simp only [Nat.add_zero] at s1 s2
      obtain ⟨w2, hw2⟩ : ∃ w2 : World, w2 = (wr.setCell ⟨b, j * 3, none⟩ (.int .i64 q)).setCell ⟨b, j * 3 + 1, none⟩ (.int .i64 (q + 1)) := ⟨_, rfl⟩
      have HB2 : Hid (ButL fp w w2) := by rw [hw2]; exact (HB.out.trans s1.2).trans s2.2
      have HS2 : Hid (CShape w2 fp ns (.slice (some ⟨b, 0, none⟩) ns.length cap)) := by rw [hw2]; exact s2.1
      obtain ⟨_, _, he, -, -, hr⟩ := hsh
      cases he
      rcases hr with hnil | ⟨b', f, e, hb, hrow, hi⟩
      · rw [hnil] at hlt; simp at hlt
      simp only [Option.some.injEq, Addr.mk.injEq, and_true] at e
      subst e
      have c0 := hrow.cell (i := j * 3) (by omega)
      have f0 := hrow.frozen (j * 3)
      have r1 := hrow.set (j * 3) (.int .i64 q)
      have c1 := r1.cell (i := j * 3 + 1) (by omega)
      have f1 := r1.frozen (j * 3 + 1)
      have r2 := r1.set (j * 3 + 1) (.int .i64 (q + 1))
      have c2 := r2.cell (i := j * 3 + 2) (by omega)
      simp only [if_neg (show ¬ (j * 3 + 2 = j * 3 + 1) by omega), if_neg (show ¬ (j * 3 + 2 = j * 3) by omega), if_neg (show ¬ (j * 3 + 1 = j * 3) by omega)] at c1 c2
      obtain ⟨adk, capk, hfk, -, -, -⟩ := id (hi j hlt)
      have HI : Hid (IShape w2 fp ns[j] (f (j * 3 + 2))) := by
        obtain ⟨_, _, he2, -, -, hr2⟩ := HS2.out
        cases he2
        rcases hr2 with hnil | ⟨b', f', e, hb', hrow', hi'⟩
        · rw [hnil] at hlt; simp at hlt
        simp only [Option.some.injEq, Addr.mk.injEq, and_true] at e
        subst e
        have c3 := hrow'.cell (i := j * 3 + 2) (by omega)
        rw [hw2] at c3
        rw [c2] at c3
        simp only [Option.some.injEq] at c3
        rw [c3]
        exact hi' j hlt
      rw [hfk] at HI c2
      have HW2 : Hid (w2 = (wr.setCell ⟨b, j * 3, none⟩ (.int .i64 q)).setCell ⟨b, j * 3 + 1, none⟩ (.int .i64 (q + 1))) := hw2
      clear s1 s2 hrow r1 r2 hi hfk e1 hw2
      go_wp2_with fail
      refine (markI_calls ns[j] fp _ _ _ (by rw [← HW2.out]; exact HI.out) (by omega) (by omega)).mono ?_
      rintro e w3 ⟨rfl, hk3⟩
      rw [← HW2.out] at hk3
      have HS3 : Hid (CShape w3 fp ns (.slice (some ⟨b, 0, none⟩) ns.length cap)) := HS2.out.keep hk3
      have HB3 : Hid (ButL fp w w3) := HB2.out.trans hk3.but
      clear hk3
      go_wp2_with fail
      go_roundw
      case rel => exact ⟨j + 1, _, by omega, by go_num, rfl, by have h1 := HE.out; have h2 := HQ.out; unfold Hid; rw [h2, h1]; push_cast; omega, HS3.out, HB3.out⟩
      case measure => simp [intOf]; omega
    · have hje : j = ns.length := by omega
      have HJ : Hid (k + ((2 * ns.length + sumN' ns : Nat) : Int) = q) := by rw [Hid, HQ.out, hje, List.take_length]
      clear hje hsh
      go_wp2_with fail
      go_ret
      exact ⟨ret_int HJ.out.symm, HB.out⟩
end Go.Proofs.YtiipcgnkfhjpeaaGreatDoor
/-
  THE MARKS IN SLICES OF INTS: the laws' markIntS and heldIntS.
-/
namespace Go.Proofs.YtiipcgnkfhjpeaaGreatDoor
set_option linter.unusedVariables false
set_option linter.unusedSimpArgs false
open Go.RowKit

/-- the numbers from k on -/
def upFrom (k : Int) : Nat → List Int
  | 0 => []
  | n + 1 => k :: upFrom (k + 1) n
theorem upFrom_length : ∀ (n : Nat) (k : Int), (upFrom k n).length = n
  | 0, _ => rfl
  | n + 1, k => by simp [upFrom, upFrom_length n]
theorem upFrom_get : ∀ (n : Nat) (k : Int) (i : Nat) (h : i < (upFrom k n).length), (upFrom k n)[i] = k + i
  | 0, _, _, h => by simp [upFrom] at h
  | n + 1, k, 0, _ => by simp [upFrom]
  | n + 1, k, i + 1, h => by
    have := upFrom_get n (k + 1) i (by simpa [upFrom] using h)
    simp only [upFrom, List.getElem_cons_succ, this]
    push_cast
    omega

/-- what holds behind j rounds of the marking -/
def IMRel (w : World) (lo : Nat) (xs : List Int) (k : Int) (ad : Option Addr) (cap j : Nat) (wr : World) : Prop :=
  Below lo w wr ∧ (xs = [] ∨ ∃ g f, ad = some ⟨g, 0, none⟩ ∧ lo ≤ g ∧ wr.rowIs g 3 cap f ∧ xs.length ≤ cap ∧ ∀ i, i < j → f i = .int .i64 (k + (i : Int)))
theorem IMRel.start {w : World} {lo : Nat} {xs : List Int} {k : Int} {ad : Option Addr} {cap : Nat} (h : IntRow w lo xs (.slice ad xs.length cap)) : IMRel w lo xs k ad cap 0 w := by
  obtain ⟨_, _, he, l1, -, h⟩ := h
  cases he
  refine ⟨Below.refl _ _, h.imp id ?_⟩
  rintro ⟨g, f, rfl, hg, hr, -⟩
  exact ⟨g, f, rfl, hg, hr, l1, fun i hi => absurd hi (by omega)⟩
theorem IMRel.step {w wr : World} {lo : Nat} {xs : List Int} {k : Int} {g cap j : Nat} (h : IMRel w lo xs k (some ⟨g, 0, none⟩) cap j wr) (hj : j < xs.length) : IMRel w lo xs k (some ⟨g, 0, none⟩) cap (j + 1) (wr.setCell ⟨g, j, none⟩ (.int .i64 (k + (j : Int)))) := by
  obtain ⟨hb, h⟩ := h
  rcases h with rfl | ⟨g', f, e, hg, hr, hl, hf⟩
  · simp at hj
  · simp only [Option.some.injEq, Addr.mk.injEq, and_true] at e
    subst e
    refine ⟨hb.setCell hg _, Or.inr ⟨g, _, rfl, hg, hr.set j _, hl, fun i hi => ?_⟩⟩
    by_cases hij : i = j
    · subst hij; simp
    · simp [hij, hf i (by omega)]
theorem IMRel.done {w wr : World} {lo : Nat} {xs : List Int} {k : Int} {ad : Option Addr} {cap : Nat} (h : IMRel w lo xs k ad cap xs.length wr) (hm : cap ≤ maxLen) (hl : xs.length ≤ cap) : IntRow wr lo (upFrom k xs.length) (.slice ad xs.length cap) ∧ Below lo w wr := by
  obtain ⟨hb, h⟩ := h
  refine ⟨⟨ad, cap, by rw [upFrom_length], by rw [upFrom_length]; exact hl, hm, ?_⟩, hb⟩
  rcases h with rfl | ⟨g, f, rfl, hg, hr, -, hf⟩
  · exact Or.inl rfl
  · refine Or.inr ⟨g, f, rfl, hg, hr, fun i hi => ?_⟩
    rw [upFrom_get]
    rw [upFrom_length] at hi
    exact hf i hi

set_option maxHeartbeats 400000 in
theorem heldInts_calls (n : Nat) (c : Value) (k : Int) (w : World) (hc : IIn w (upFrom k n) c) (h0 : 0 ≤ k) (h1 : k + (n : Int) ≤ 1152921504606846976) :
    Calls Tryz.prog 64 #[c, .int .i64 k] w fun e w' => e = .returned (.int .i64 (k + (n : Int))) ∧ Below w.heap.size w w' := by
  have HC : Hid (IIn w (upFrom k n) c) := hc
  obtain ⟨ad, cap, rfl, hl, hm, -⟩ := hc
  unfold maxLen at hm
  rw [upFrom_length] at hl ⊢
  go_enter Tryz.func64, Tryz.ntmps64
  go_wp2_with fail
  go_loopw [1, 5] (fun q i wr => ∃ j : Nat, j ≤ n ∧ i = .int .i64 j ∧ q = .int .i64 (k + j) ∧ wr = w) (fun _ i _ => n - (intOf i).toNat)
  case atStart => exact ⟨0, Nat.zero_le _, rfl, by simp, rfl⟩
  case round =>
    obtain ⟨j, hj, rfl, rfl, rfl⟩ := hrel
    by_cases hlt : j < n
    · obtain ⟨_, _, he, -, -, hr⟩ := HC.out
      simp only [Value.slice.injEq] at he
      obtain ⟨rfl, -, rfl⟩ := he
      rcases hr with hnil | ⟨bl, off, rfl, -, hr⟩
      · have := congrArg List.length hnil; rw [upFrom_length] at this; simp at this; omega
      have c0 := hr j (by rw [upFrom_length]; exact hlt)
      rw [upFrom_get] at c0
      have t2 : (k + (j : Int) != k + (j : Int)) = false := by simp
      clear hr
      go_wp2_with fail
      go_roundw
      case rel => exact ⟨j + 1, by omega, by go_num, congrArg (Value.int .i64) (by push_cast; omega), trivial⟩
      case measure => simp [intOf]; omega
    · have HJ : Hid (k + (n : Int) = k + (j : Int)) := by unfold Hid; omega
      go_wp2_with fail
      go_ret
      exact ⟨ret_int HJ.out.symm, Below.refl _ _⟩
end Go.Proofs.YtiipcgnkfhjpeaaGreatDoor
