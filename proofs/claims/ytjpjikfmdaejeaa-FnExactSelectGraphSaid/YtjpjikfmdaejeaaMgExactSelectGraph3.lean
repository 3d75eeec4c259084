/-
  THE LAWS' OWN MARKS IN A GRAPH (markCellS): only the graph's own blocks are written.
-/
import Derived.Test.YtjpjikfmdaejeaaMgExactSelectGraph1
import Derived.Test.YtjpjikfmdaejeaaMgExactSelectGraph2
import Derived.Deep.DeepCutAuto
import Derived.Deep.RegionWith
import Derived.Deep.RegionHeld3
namespace Go.Proofs.Ytjpjikfmdaejeaa
set_option linter.unusedVariables false
set_option linter.unusedSimpArgs false
open Go.RowKit

/-- a row of ints, whatever they are -/
def IShape (w : World) (fp : List Nat) (n : Nat) (v : Value) : Prop :=
  ∃ ad cap, v = .slice ad n cap ∧ n ≤ cap ∧ cap ≤ maxLen ∧ (n = 0 ∨ ∃ g f, ad = some ⟨g, 0, none⟩ ∧ g ∈ fp ∧ w.rowIs g 3 cap f)
/-- a row of cells, whatever their numbers are -/
def CShape (w : World) (fp : List Nat) (ns : List Nat) (v : Value) : Prop :=
  ∃ ad cap, v = .slice ad ns.length cap ∧ ns.length ≤ cap ∧ cap ≤ maxLen ∧ (ns = [] ∨ ∃ b f, ad = some ⟨b, 0, none⟩ ∧ b ∈ fp ∧ w.rowIs b 45 (cap * 3) f ∧ ∀ i (h : i < ns.length), IShape w fp ns[i] (f (i * 3 + 2)))
/-- shapes stay, and nothing but fp is written -/
structure Keeps (fp : List Nat) (w w' : World) : Prop where
  ints : ∀ n v, IShape w fp n v → IShape w' fp n v
  rows : ∀ b c f, w.rowIs b 45 c f → w'.rowIs b 45 c f
  but : ButL fp w w'
theorem Keeps.refl (fp : List Nat) (w : World) : Keeps fp w w := ⟨fun _ _ h => h, fun _ _ _ h => h, ButL.refl _ _⟩
theorem Keeps.trans {fp : List Nat} {a b c : World} (h : Keeps fp a b) (k : Keeps fp b c) : Keeps fp a c := ⟨fun n v x => k.ints n v (h.ints n v x), fun g c f x => k.rows g c f (h.rows g c f x), h.but.trans k.but⟩
theorem rows_part {w : World} {b g n m : Nat} {f f' : Nat → Value} (h : w.rowIs b 45 n f) (h' : w.rowIs g 3 m f') : b ≠ g := by
  rintro rfl
  obtain ⟨c, h1, -⟩ := h
  obtain ⟨c', h2, -⟩ := h'
  rw [h1] at h2
  simp at h2
theorem setCell_other (w : World) {b k : Nat} (o : Nat) (u : Value) (h : k ≠ b) : (w.setCell ⟨b, o, none⟩ u).heap[k]? = w.heap[k]? := Below.heap_setCell _ _ _ _ (fun e => h e)
/-- a store into a row of ints -/
theorem Keeps.int {fp : List Nat} {w : World} {g cap : Nat} {f : Nat → Value} (hg : g ∈ fp) (hr : w.rowIs g 3 cap f) (j : Nat) (u : Value) : Keeps fp w (w.setCell ⟨g, j, none⟩ u) where
  ints n v h := by
    obtain ⟨ad, cap2, e, l1, l2, h⟩ := h
    refine ⟨ad, cap2, e, l1, l2, h.imp id ?_⟩
    rintro ⟨g2, f2, rfl, hg2, hr2⟩
    by_cases hgg : g2 = g
    · subst hgg; exact ⟨g2, _, rfl, hg2, hr2.set j u⟩
    · exact ⟨g2, f2, rfl, hg2, hr2.of_block (setCell_other w j u hgg)⟩
  rows b c f2 h := h.of_block (setCell_other w j u (rows_part h hr))
  but := ButL.setCell w g j hg u

set_option maxHeartbeats 400000 in
theorem markI_calls (n : Nat) (fp : List Nat) (v : Value) (k : Int) (w : World) (hc : IShape w fp n v) (h0 : 0 ≤ k) (h1 : k + (n : Int) ≤ 1152921504606846976) :
    Calls Try.prog 16 #[v, .int .i64 k] w fun e w' => e = .returned (.int .i64 (k + (n : Int))) ∧ Keeps fp w w' := by
  have HC : Hid (IShape w fp n v) := hc
  obtain ⟨ad, cap, rfl, hl, hm, -⟩ := hc
  unfold maxLen at hm
  go_enter Try.func16, Try.ntmps16
  go_wp2_with fail
  go_loopw [1, 5] (fun q i wr => ∃ j : Nat, j ≤ n ∧ i = .int .i64 j ∧ q = .int .i64 (k + j) ∧ Keeps fp w wr) (fun _ i _ => n - (intOf i).toNat)
  case atStart => exact ⟨0, Nat.zero_le _, rfl, by simp, Keeps.refl _ _⟩
  case round =>
    obtain ⟨j, hj, rfl, rfl, hr⟩ := hrel
    have HR : Hid (Keeps fp w wr) := hr
    by_cases hlt : j < n
    · obtain ⟨_, _, he, -, -, hrow⟩ := hr.ints _ _ HC.out
      cases he
      rcases hrow with rfl | ⟨g, f, rfl, hg, hrow⟩
      · simp at hlt
      have HK : Hid (Keeps fp w (wr.setCell ⟨g, j, none⟩ (.int .i64 (k + (j : Int))))) := HR.out.trans (Keeps.int hg hrow j _)
      have c0 := hrow.cell (i := j) (by omega)
      have f0 := hrow.frozen j
      clear hr hrow
      go_wp2_with fail
      go_roundw
      case rel => exact ⟨j + 1, by omega, by go_num, congrArg (Value.int .i64) (by push_cast; omega), HK.out⟩
      case measure => simp [intOf]; omega
    · have hje : j = n := by omega
      have HJ : Hid (k + (n : Int) = k + (j : Int)) := by rw [hje]; rfl
      clear hje hr
      go_wp2_with fail
      go_ret
      exact ⟨ret_int HJ.out.symm, HR.out⟩

theorem CShape.keep {fp : List Nat} {w w' : World} {ns : List Nat} {v : Value} (h : CShape w fp ns v) (k : Keeps fp w w') : CShape w' fp ns v := by
  obtain ⟨ad, cap, e, l1, l2, h⟩ := h
  refine ⟨ad, cap, e, l1, l2, h.imp id ?_⟩
  rintro ⟨b, f, rfl, hb, hr, hi⟩
  exact ⟨b, f, rfl, hb, k.rows _ _ _ hr, fun i h => k.ints _ _ (hi i h)⟩
theorem CShape.blocks {fp : List Nat} {w w' : World} {ns : List Nat} {v : Value} (h : CShape w fp ns v) (k : ∀ b ∈ fp, w'.heap[b]? = w.heap[b]?) : CShape w' fp ns v := by
  obtain ⟨ad, cap, e, l1, l2, h⟩ := h
  refine ⟨ad, cap, e, l1, l2, h.imp id ?_⟩
  rintro ⟨b, f, rfl, hb, hr, hi⟩
  refine ⟨b, f, rfl, hb, hr.of_block (k b hb), fun i h => ?_⟩
  obtain ⟨ad, cap, e, l1, l2, h⟩ := hi i h
  refine ⟨ad, cap, e, l1, l2, h.imp id ?_⟩
  rintro ⟨g, f, rfl, hg, hr⟩
  exact ⟨g, f, rfl, hg, hr.of_block (k g hg)⟩
/-- a store into the row of cells, not at an operand -/
theorem CShape.store {fp : List Nat} {w : World} {ns : List Nat} {b n cap : Nat} (h : CShape w fp ns (.slice (some ⟨b, 0, none⟩) n cap)) (hn : 0 < ns.length) (i m : Nat) (hm : m < 2) (u : Value) :
    CShape (w.setCell ⟨b, i * 3 + m, none⟩ u) fp ns (.slice (some ⟨b, 0, none⟩) n cap) ∧ ButL fp w (w.setCell ⟨b, i * 3 + m, none⟩ u) := by
  obtain ⟨ad, cap2, e, l1, l2, h⟩ := h
  simp only [Value.slice.injEq] at e
  obtain ⟨rfl, rfl, rfl⟩ := e
  rcases h with rfl | ⟨b2, f, e, hb, hr, hi⟩
  · simp at hn
  simp only [Option.some.injEq, Addr.mk.injEq, and_true] at e
  subst e
  refine ⟨⟨_, cap, rfl, l1, l2, Or.inr ⟨b, _, rfl, hb, hr.set (i * 3 + m) u, fun j hj => ?_⟩⟩, ButL.setCell w b _ hb u⟩
  have hne : ¬ (j * 3 + 2 = i * 3 + m) := by omega
  simp only [if_neg hne]
  obtain ⟨ad, cap3, e, l3, l4, h⟩ := hi j hj
  refine ⟨ad, cap3, e, l3, l4, h.imp id ?_⟩
  rintro ⟨g2, f2, rfl, hg2, hr2⟩
  exact ⟨g2, f2, rfl, hg2, hr2.of_block (setCell_other w _ u (rows_part hr hr2).symm)⟩

def sumN' (l : List Nat) : Nat := l.sum
theorem sumN_take_succ (l : List Nat) (i : Nat) (h : i < l.length) : sumN' (l.take (i + 1)) = sumN' (l.take i) + l[i] := by
  unfold sumN'; rw [List.take_succ_eq_append_getElem h, List.sum_append]; simp
theorem sumN_take_le (l : List Nat) (i : Nat) : sumN' (l.take i) ≤ sumN' l := by
  unfold sumN'
  conv => rhs; rw [← List.take_append_drop i l, List.sum_append]
  omega

set_option maxRecDepth 100000 in
set_option maxHeartbeats 1600000 in
theorem markCells_calls (ns : List Nat) (fp : List Nat) (v : Value) (k : Int) (w : World) (hc : CShape w fp ns v) (h0 : 0 ≤ k) (h1 : k ≤ 576460752303423488) (hs : ns.length + sumN' ns ≤ 1048576) :
    Calls Try.prog 15 #[v, .int .i64 k] w fun e w' => e = .returned (.int .i64 (k + (2 * ns.length + sumN' ns : Nat))) ∧ ButL fp w w' := by
  have HC : Hid (CShape w fp ns v) := hc
  obtain ⟨ad, cap, rfl, hl, hm, -⟩ := hc
  unfold maxLen at hm
  go_enter Try.func15, Try.ntmps15
  go_wp2_with fail
  go_loopw [1, 5] (fun qv i wr => ∃ (j : Nat) (q : Int), j ≤ ns.length ∧ i = .int .i64 j ∧ qv = .int .i64 q ∧ Hid (q = k + ((2 * j + sumN' (ns.take j) : Nat) : Int)) ∧ CShape wr fp ns (.slice ad ns.length cap) ∧ ButL fp w wr) (fun _ i _ => ns.length - (intOf i).toNat)
  case atStart => exact ⟨0, k, Nat.zero_le _, rfl, rfl, by simp [Hid, sumN'], HC.out, ButL.refl _ _⟩
  case round =>
    obtain ⟨j, q, hj, rfl, rfl, HQ, hsh, hbw⟩ := hrel
    have HB : Hid (ButL fp w wr) := hbw
    clear hbw
    by_cases hlt : j < ns.length
    · have e1 := sumN_take_succ ns j hlt
      have e2 := sumN_take_le ns (j + 1)
      have HE : Hid (sumN' (ns.take (j + 1)) = sumN' (ns.take j) + ns[j]) := e1
      obtain ⟨b, rfl⟩ : ∃ b, ad = some ⟨b, 0, none⟩ := by
        obtain ⟨_, _, he, -, -, hr⟩ := hsh
        cases he
        rcases hr with hnil | ⟨b, f, rfl, -⟩
        · rw [hnil] at hlt; simp at hlt
        · exact ⟨b, rfl⟩
      have hq := HQ.out
      have hq0 : 0 ≤ q := by omega
      have hq1 : q + 2 + (ns[j] : Int) ≤ 1152921504606846976 := by omega
      clear hq
      have s1 := hsh.store (by omega) j 0 (by omega) (.int .i64 q)
      have s2 := s1.1.store (by omega) j 1 (by omega) (.int .i64 (q + 1))
      simp only [Nat.add_zero] at s1 s2
      obtain ⟨w2, hw2⟩ : ∃ w2 : World, w2 = (wr.setCell ⟨b, j * 3, none⟩ (.int .i64 q)).setCell ⟨b, j * 3 + 1, none⟩ (.int .i64 (q + 1)) := ⟨_, rfl⟩
      have HB2 : Hid (ButL fp w w2) := by rw [hw2]; exact (HB.out.trans s1.2).trans s2.2
      have HS2 : Hid (CShape w2 fp ns (.slice (some ⟨b, 0, none⟩) ns.length cap)) := by rw [hw2]; exact s2.1
      obtain ⟨_, _, he, -, -, hr⟩ := hsh
      cases he
      rcases hr with hnil | ⟨b', f, e, hb, hrow, hi⟩
      · rw [hnil] at hlt; simp at hlt
      simp only [Option.some.injEq, Addr.mk.injEq, and_true] at e
      subst e
      have c0 := hrow.cell (i := j * 3) (by omega)
      have f0 := hrow.frozen (j * 3)
      have r1 := hrow.set (j * 3) (.int .i64 q)
      have c1 := r1.cell (i := j * 3 + 1) (by omega)
      have f1 := r1.frozen (j * 3 + 1)
      have r2 := r1.set (j * 3 + 1) (.int .i64 (q + 1))
      have c2 := r2.cell (i := j * 3 + 2) (by omega)
      simp only [if_neg (show ¬ (j * 3 + 2 = j * 3 + 1) by omega), if_neg (show ¬ (j * 3 + 2 = j * 3) by omega), if_neg (show ¬ (j * 3 + 1 = j * 3) by omega)] at c1 c2
      obtain ⟨adk, capk, hfk, -, -, -⟩ := id (hi j hlt)
      have HI : Hid (IShape w2 fp ns[j] (f (j * 3 + 2))) := by
        obtain ⟨_, _, he2, -, -, hr2⟩ := HS2.out
        cases he2
        rcases hr2 with hnil | ⟨b', f', e, hb', hrow', hi'⟩
        · rw [hnil] at hlt; simp at hlt
        simp only [Option.some.injEq, Addr.mk.injEq, and_true] at e
        subst e
        have c3 := hrow'.cell (i := j * 3 + 2) (by omega)
        rw [hw2] at c3
        rw [c2] at c3
        simp only [Option.some.injEq] at c3
        rw [c3]
        exact hi' j hlt
      rw [hfk] at HI c2
      have HW2 : Hid (w2 = (wr.setCell ⟨b, j * 3, none⟩ (.int .i64 q)).setCell ⟨b, j * 3 + 1, none⟩ (.int .i64 (q + 1))) := hw2
      clear s1 s2 hrow r1 r2 hi hfk e1 hw2
      go_wp2_with fail
      refine (markI_calls ns[j] fp _ _ _ (by rw [← HW2.out]; exact HI.out) (by omega) (by omega)).mono ?_
      rintro e w3 ⟨rfl, hk3⟩
      rw [← HW2.out] at hk3
      have HS3 : Hid (CShape w3 fp ns (.slice (some ⟨b, 0, none⟩) ns.length cap)) := HS2.out.keep hk3
      have HB3 : Hid (ButL fp w w3) := HB2.out.trans hk3.but
      clear hk3
      go_wp2_with fail
      go_roundw
      case rel => exact ⟨j + 1, _, by omega, by go_num, rfl, by have h1 := HE.out; have h2 := HQ.out; unfold Hid; rw [h2, h1]; push_cast; omega, HS3.out, HB3.out⟩
      case measure => simp [intOf]; omega
    · have hje : j = ns.length := by omega
      have HJ : Hid (k + ((2 * ns.length + sumN' ns : Nat) : Int) = q) := by rw [Hid, HQ.out, hje, List.take_length]
      clear hje hsh
      go_wp2_with fail
      go_ret
      exact ⟨ret_int HJ.out.symm, HB.out⟩
end Go.Proofs.Ytjpjikfmdaejeaa
/-
  THE MARKS IN SLICES OF INTS: the laws' markIntS and heldIntS.
-/
namespace Go.Proofs.Ytjpjikfmdaejeaa
set_option linter.unusedVariables false
set_option linter.unusedSimpArgs false
open Go.RowKit

/-- the numbers from k on -/
def upFrom (k : Int) : Nat → List Int
  | 0 => []
  | n + 1 => k :: upFrom (k + 1) n
theorem upFrom_length : ∀ (n : Nat) (k : Int), (upFrom k n).length = n
  | 0, _ => rfl
  | n + 1, k => by simp [upFrom, upFrom_length n]
theorem upFrom_get : ∀ (n : Nat) (k : Int) (i : Nat) (h : i < (upFrom k n).length), (upFrom k n)[i] = k + i
  | 0, _, _, h => by simp [upFrom] at h
  | n + 1, k, 0, _ => by simp [upFrom]
  | n + 1, k, i + 1, h => by
    have := upFrom_get n (k + 1) i (by simpa [upFrom] using h)
    simp only [upFrom, List.getElem_cons_succ, this]
    push_cast
    omega

/-- what holds behind j rounds of the marking -/
def IMRel (w : World) (lo : Nat) (xs : List Int) (k : Int) (ad : Option Addr) (cap j : Nat) (wr : World) : Prop :=
  Below lo w wr ∧ (xs = [] ∨ ∃ g f, ad = some ⟨g, 0, none⟩ ∧ lo ≤ g ∧ wr.rowIs g 3 cap f ∧ xs.length ≤ cap ∧ ∀ i, i < j → f i = .int .i64 (k + (i : Int)))
theorem IMRel.start {w : World} {lo : Nat} {xs : List Int} {k : Int} {ad : Option Addr} {cap : Nat} (h : IntRow w lo xs (.slice ad xs.length cap)) : IMRel w lo xs k ad cap 0 w := by
  obtain ⟨_, _, he, l1, -, h⟩ := h
  cases he
  refine ⟨Below.refl _ _, h.imp id ?_⟩
  rintro ⟨g, f, rfl, hg, hr, -⟩
  exact ⟨g, f, rfl, hg, hr, l1, fun i hi => absurd hi (by omega)⟩
theorem IMRel.step {w wr : World} {lo : Nat} {xs : List Int} {k : Int} {g cap j : Nat} (h : IMRel w lo xs k (some ⟨g, 0, none⟩) cap j wr) (hj : j < xs.length) : IMRel w lo xs k (some ⟨g, 0, none⟩) cap (j + 1) (wr.setCell ⟨g, j, none⟩ (.int .i64 (k + (j : Int)))) := by
  obtain ⟨hb, h⟩ := h
  rcases h with rfl | ⟨g', f, e, hg, hr, hl, hf⟩
  · simp at hj
  · simp only [Option.some.injEq, Addr.mk.injEq, and_true] at e
    subst e
    refine ⟨hb.setCell hg _, Or.inr ⟨g, _, rfl, hg, hr.set j _, hl, fun i hi => ?_⟩⟩
    by_cases hij : i = j
    · subst hij; simp
    · simp [hij, hf i (by omega)]
theorem IMRel.done {w wr : World} {lo : Nat} {xs : List Int} {k : Int} {ad : Option Addr} {cap : Nat} (h : IMRel w lo xs k ad cap xs.length wr) (hm : cap ≤ maxLen) (hl : xs.length ≤ cap) : IntRow wr lo (upFrom k xs.length) (.slice ad xs.length cap) ∧ Below lo w wr := by
  obtain ⟨hb, h⟩ := h
  refine ⟨⟨ad, cap, by rw [upFrom_length], by rw [upFrom_length]; exact hl, hm, ?_⟩, hb⟩
  rcases h with rfl | ⟨g, f, rfl, hg, hr, -, hf⟩
  · exact Or.inl rfl
  · refine Or.inr ⟨g, f, rfl, hg, hr, fun i hi => ?_⟩
    rw [upFrom_get]
    rw [upFrom_length] at hi
    exact hf i hi

set_option maxHeartbeats 400000 in
theorem markInts_calls (xs : List Int) (lo : Nat) (c : Value) (k : Int) (w : World) (hc : IntRow w lo xs c) (h0 : 0 ≤ k) (h1 : k + (xs.length : Int) ≤ 1152921504606846976) :
    Calls Try.prog 16 #[c, .int .i64 k] w fun e w' => e = .returned (.int .i64 (k + (xs.length : Int))) ∧ IntRow w' lo (upFrom k xs.length) c ∧ Below lo w w' := by
  have HC : Hid (IntRow w lo xs c) := hc
  obtain ⟨ad, cap, rfl, hl, hm, -⟩ := hc
  unfold maxLen at hm
  go_enter Try.func16, Try.ntmps16
  go_wp2_with fail
  go_loopw [1, 5] (fun q i wr => ∃ j : Nat, j ≤ xs.length ∧ i = .int .i64 j ∧ q = .int .i64 (k + j) ∧ IMRel w lo xs k ad cap j wr) (fun _ i _ => xs.length - (intOf i).toNat)
  case atStart => exact ⟨0, Nat.zero_le _, rfl, by simp, IMRel.start HC.out⟩
  case round =>
    obtain ⟨j, hj, rfl, rfl, hr⟩ := hrel
    have HR : Hid (IMRel w lo xs k ad cap j wr) := hr
    by_cases hlt : j < xs.length
    · obtain ⟨hb, hr⟩ := hr
      rcases hr with rfl | ⟨g, f, rfl, hg, hrow, hlc, hf⟩
      · simp at hlt
      have c0 := hrow.cell (i := j) (by omega)
      have f0 := hrow.frozen j
      clear hb hrow hf
      go_wp2_with fail
      go_roundw
      case rel => exact ⟨j + 1, by omega, by go_num, congrArg (Value.int .i64) (by push_cast; omega), HR.out.step hlt⟩
      case measure => simp [intOf]; omega
    · have hje : j = xs.length := by omega
      have HV : Hid (IntRow wr lo (upFrom k xs.length) (.slice ad xs.length cap) ∧ Below lo w wr) := by subst hje; exact HR.out.done (by unfold maxLen; omega) hl
      have HJ : Hid (k + (xs.length : Int) = k + (j : Int)) := by rw [hje]; rfl
      clear hje hr
      go_wp2_with fail
      go_ret
      exact ⟨ret_int HJ.out.symm, HV.out⟩

set_option maxHeartbeats 400000 in
theorem heldInts_calls (n : Nat) (c : Value) (k : Int) (w : World) (hc : IIn w (upFrom k n) c) (h0 : 0 ≤ k) (h1 : k + (n : Int) ≤ 1152921504606846976) :
    Calls Try.prog 18 #[c, .int .i64 k] w fun e w' => e = .returned (.int .i64 (k + (n : Int))) ∧ Below w.heap.size w w' := by
  have HC : Hid (IIn w (upFrom k n) c) := hc
  obtain ⟨ad, cap, rfl, hl, hm, -⟩ := hc
  unfold maxLen at hm
  rw [upFrom_length] at hl ⊢
  go_enter Try.func18, Try.ntmps18
  go_wp2_with fail
  go_loopw [1, 5] (fun q i wr => ∃ j : Nat, j ≤ n ∧ i = .int .i64 j ∧ q = .int .i64 (k + j) ∧ wr = w) (fun _ i _ => n - (intOf i).toNat)
  case atStart => exact ⟨0, Nat.zero_le _, rfl, by simp, rfl⟩
  case round =>
    obtain ⟨j, hj, rfl, rfl, rfl⟩ := hrel
    by_cases hlt : j < n
    · obtain ⟨_, _, he, -, -, hr⟩ := HC.out
      simp only [Value.slice.injEq] at he
      obtain ⟨rfl, -, rfl⟩ := he
      rcases hr with hnil | ⟨bl, off, rfl, -, hr⟩
      · have := congrArg List.length hnil; rw [upFrom_length] at this; simp at this; omega
      have c0 := hr j (by rw [upFrom_length]; exact hlt)
      rw [upFrom_get] at c0
      have t2 : (k + (j : Int) != k + (j : Int)) = false := by simp
      clear hr
      go_wp2_with fail
      go_roundw
      case rel => exact ⟨j + 1, by omega, by go_num, congrArg (Value.int .i64) (by push_cast; omega), trivial⟩
      case measure => simp [intOf]; omega
    · have HJ : Hid (k + (n : Int) = k + (j : Int)) := by unfold Hid; omega
      go_wp2_with fail
      go_ret
      exact ⟨ret_int HJ.out.symm, Below.refl _ _⟩
end Go.Proofs.Ytjpjikfmdaejeaa
/-
  A GRAPH IN ROWS OF ITS OWN, all distinct: the laws' marks (markCellS) and their re-reading (heldCellS), with what stands there.
-/
namespace Go.Proofs.Ytjpjikfmdaejeaa
set_option linter.unusedVariables false
set_option linter.unusedSimpArgs false
open Go.RowKit

/-- the operands of a cell, in the row blk -/
def KRow (w : World) (fp : List Nat) (xs : List Int) (blk : Nat) (v : Value) : Prop :=
  ∃ ad cap, v = .slice ad xs.length cap ∧ xs.length ≤ cap ∧ cap ≤ maxLen ∧ (xs = [] ∨ ∃ f, ad = some ⟨blk, 0, none⟩ ∧ blk ∈ fp ∧ w.rowIs blk 3 cap f ∧ ∀ i (h : i < xs.length), f i = .int .i64 xs[i])
/-- the cells, in the row b; the operands of cell i in the row kb i -/
def GRow (w : World) (fp : List Nat) (b cap : Nat) (kb : Nat → Nat) (g : List Ce) : Prop :=
  ∃ f, w.rowIs b 45 (cap * 3) f ∧ ∀ i (h : i < g.length), f (i * 3) = .int .i64 g[i].op ∧ f (i * 3 + 1) = .int .i64 g[i].num ∧ KRow w fp g[i].kids (kb i) (f (i * 3 + 2))
/-- two rows of operands are two blocks -/
def Dist (kb : Nat → Nat) (g : List Ce) : Prop := ∀ i j (hi : i < g.length) (hj : j < g.length), i ≠ j → g[i].kids ≠ [] → g[j].kids ≠ [] → kb i ≠ kb j
/-- a slice value that holds a graph in rows of its own -/
def GOwn (w : World) (fp : List Nat) (g : List Ce) (v : Value) : Prop :=
  (∀ i (h : i < g.length), I64 g[i].op ∧ I64 g[i].num) ∧ ∃ ad cap, v = .slice ad g.length cap ∧ g.length ≤ cap ∧ cap ≤ maxLen ∧ (g = [] ∨ ∃ b kb, ad = some ⟨b, 0, none⟩ ∧ b ∈ fp ∧ GRow w fp b cap kb g ∧ Dist kb g)

theorem KRow.keep {w w' : World} {fp fp' : List Nat} {xs : List Int} {blk : Nat} {v : Value} (h : KRow w fp xs blk v) (hf : xs ≠ [] → blk ∈ fp → blk ∈ fp') (hb : xs ≠ [] → blk ∈ fp → w'.heap[blk]? = w.heap[blk]?) : KRow w' fp' xs blk v := by
  obtain ⟨ad, cap, e, l1, l2, h⟩ := h
  refine ⟨ad, cap, e, l1, l2, ?_⟩
  by_cases hx : xs = []
  · exact Or.inl hx
  · rcases h with h | ⟨f, rfl, h1, h2, h3⟩
    · exact absurd h hx
    · exact Or.inr ⟨f, rfl, hf hx h1, h2.of_block (hb hx h1), h3⟩
theorem GOwn.keep {w w' : World} {fp : List Nat} {g : List Ce} {v : Value} (h : GOwn w fp g v) (hb : ∀ k ∈ fp, k < w.heap.size → w'.heap[k]? = w.heap[k]?) : GOwn w' fp g v := by
  obtain ⟨hi, ad, cap, e, l1, l2, h⟩ := h
  refine ⟨hi, ad, cap, e, l1, l2, h.imp id ?_⟩
  rintro ⟨b, kb, rfl, h1, ⟨f, hr, hf⟩, hd⟩
  refine ⟨b, kb, rfl, h1, ⟨f, hr.of_block (hb b h1 hr.lt), fun i h => ?_⟩, hd⟩
  obtain ⟨e0, e1, e2⟩ := hf i h
  refine ⟨e0, e1, e2.keep (fun _ h => h) fun hx hm => ?_⟩
  obtain ⟨_, _, _, _, _, h5⟩ := e2
  rcases h5 with h5 | ⟨f5, -, -, h6, -⟩
  · exact absurd h5 hx
  · exact hb _ hm h6.lt
/-- .. as cells that lie in a world -/
theorem GOwn.inn {w : World} {fp : List Nat} {g : List Ce} {v : Value} (h : GOwn w fp g v) : CIn w g v := by
  obtain ⟨hi, ad, cap, e, l1, l2, h⟩ := h
  refine ⟨ad, cap, e, l1, l2, h.imp id ?_⟩
  rintro ⟨b, kb, rfl, h1, ⟨f, hr, hf⟩, hd⟩
  refine ⟨b, 0, rfl, hr.lt, fun i h => ?_⟩
  obtain ⟨e0, e1, e2⟩ := hf i h
  refine ⟨f (i * 3 + 2), ?_, ?_, ?_, (hi i h).1, (hi i h).2, ?_⟩
  · rw [Nat.zero_add, hr.cell (by omega), e0]
  · rw [Nat.zero_add, hr.cell (by omega), e1]
  · rw [Nat.zero_add, hr.cell (by omega)]
  · obtain ⟨ad2, cap2, e3, l3, l4, h5⟩ := e2
    refine ⟨ad2, cap2, e3, l3, l4, h5.imp id ?_⟩
    rintro ⟨f5, rfl, -, h6, h7⟩
    exact ⟨_, 0, rfl, h6.lt, fun j hj => by rw [Nat.zero_add, h6.cell (by omega), h7 j hj]⟩

/-! ### The labels -/
/-- the number that stands at cell i -/
def cLab (g : List Ce) (k : Int) (i : Nat) : Int := k + 2 * (i : Int) + (sumK (g.take i) : Int)
theorem cLab_zero (g : List Ce) (k : Int) : cLab g k 0 = k := by simp [cLab, sumK]
theorem cLab_succ (g : List Ce) (k : Int) (i : Nat) (hi : i < g.length) : cLab g k (i + 1) = cLab g k i + 2 + (g[i].kids.length : Int) := by
  unfold cLab; rw [sumK_take_succ g i hi]; push_cast; omega
theorem cLab_le (g : List Ce) (k : Int) (i : Nat) (hi : i ≤ g.length) : k ≤ cLab g k i ∧ cLab g k i ≤ k + 2 * (g.length : Int) + (sumK g : Int) := by
  have := sumK_take_le g i
  unfold cLab; omega
theorem cLab_end (g : List Ce) (k : Int) : cLab g k g.length = k + 2 * (g.length : Int) + (sumK g : Int) := by simp [cLab]
/-- a marked cell -/
def markedC (l : Int) (n : Nat) : Ce := ⟨l, l + 1, upFrom (l + 2) n⟩
def labC (g : List Ce) (k : Int) : List Ce := (List.range g.length).map fun i => markedC (cLab g k i) ((g.getD i ⟨0, 0, []⟩).kids.length)
theorem labC_length (g : List Ce) (k : Int) : (labC g k).length = g.length := by simp [labC]
theorem labC_get (g : List Ce) (k : Int) (i : Nat) (hi : i < g.length) (hj : i < (labC g k).length) : (labC g k)[i] = markedC (cLab g k i) g[i].kids.length := by
  simp [labC, hi]
/-- a graph of which the first j cells are marked -/
def HalfC (g : List Ce) (k : Int) (j : Nat) (ms : List Ce) : Prop := ms.length = g.length ∧ ∀ i (hi : i < g.length) (hm : i < ms.length), ms[i] = if i < j then markedC (cLab g k i) g[i].kids.length else g[i]
theorem HalfC.zero (g : List Ce) (k : Int) : HalfC g k 0 g := ⟨rfl, fun i hi hm => by simp⟩
theorem HalfC.step {g ms : List Ce} {k : Int} {j : Nat} (h : HalfC g k j ms) (hj : j < g.length) : HalfC g k (j + 1) (ms.set j (markedC (cLab g k j) g[j].kids.length)) := by
  refine ⟨by rw [List.length_set]; exact h.1, fun i hi hm => ?_⟩
  rw [List.getElem_set]
  by_cases hij : j = i
  · subst hij; simp
  · rw [if_neg hij, h.2 i hi (by rw [h.1]; exact hi)]
    by_cases hlt : i < j
    · rw [if_pos hlt, if_pos (by omega)]
    · rw [if_neg hlt, if_neg (by omega)]
theorem HalfC.done {g ms : List Ce} {k : Int} (h : HalfC g k g.length ms) : ms = labC g k := by
  refine List.ext_getElem (by rw [h.1, labC_length]) fun i h1 h2 => ?_
  have hi : i < g.length := by rw [← h.1]; exact h1
  rw [h.2 i hi h1, if_pos hi, labC_get g k i hi]
theorem HalfC.at {g ms : List Ce} {k : Int} {j : Nat} (h : HalfC g k j ms) (hj : j < g.length) (hm : j < ms.length) : ms[j] = g[j] := by rw [h.2 j hj hm, if_neg (by omega)]
theorem HalfC.kids {g ms : List Ce} {k : Int} {j : Nat} (h : HalfC g k j ms) (i : Nat) (hi : i < g.length) (hm : i < ms.length) : ms[i].kids.length = g[i].kids.length := by
  rw [h.2 i hi hm]
  split
  · simp [markedC, upFrom_length]
  · rfl

/-! ### Marked -/
set_option maxHeartbeats 400000 in
/-- markIntS, over a row of operands -/
theorem markK_calls (xs : List Int) (fp : List Nat) (blk : Nat) (v : Value) (k : Int) (w : World) (hc : KRow w fp xs blk v) (h0 : 0 ≤ k) (h1 : k + (xs.length : Int) ≤ 1152921504606846976) :
    Calls Try.prog 16 #[v, .int .i64 k] w fun e w' => e = .returned (.int .i64 (k + (xs.length : Int))) ∧ KRow w' fp (upFrom k xs.length) blk v ∧ ButL [blk] w w' ∧ (xs = [] → ∀ b : Nat, w'.heap[b]? = w.heap[b]?) := by
  have HC : Hid (KRow w fp xs blk v) := hc
  obtain ⟨ad, cap, rfl, hl, hm, -⟩ := hc
  unfold maxLen at hm
  go_enter Try.func16, Try.ntmps16
  go_wp2_with fail
  go_loopw [1, 5] (fun q i wr => ∃ j : Nat, j ≤ xs.length ∧ i = .int .i64 j ∧ q = .int .i64 (k + j) ∧ ButL [blk] w wr ∧ (xs = [] → ∀ b : Nat, wr.heap[b]? = w.heap[b]?) ∧ (xs ≠ [] → ∃ f, ad = some ⟨blk, 0, none⟩ ∧ blk ∈ fp ∧ wr.rowIs blk 3 cap f ∧ ∀ i, i < j → f i = .int .i64 (k + (i : Int)))) (fun _ i _ => xs.length - (intOf i).toNat)
  case atStart =>
    refine ⟨0, Nat.zero_le _, rfl, by simp, ButL.refl _ _, fun _ _ => rfl, fun hx => ?_⟩
    obtain ⟨_, _, he, -, -, hr⟩ := HC.out
    cases he
    rcases hr with hr | ⟨f, rfl, h1, h2, -⟩
    · exact absurd hr hx
    · exact ⟨f, rfl, h1, h2, fun i hi => absurd hi (by omega)⟩
  case round =>
    obtain ⟨j, hj, rfl, rfl, hb, hnil, hrow⟩ := hrel
    have HB : Hid (ButL [blk] w wr) := hb
    have HN : Hid (xs = [] → ∀ b : Nat, wr.heap[b]? = w.heap[b]?) := hnil
    have HRW : Hid (xs ≠ [] → ∃ f, ad = some ⟨blk, 0, none⟩ ∧ blk ∈ fp ∧ wr.rowIs blk 3 cap f ∧ ∀ i, i < j → f i = .int .i64 (k + (i : Int))) := hrow
    clear hb hnil hrow
    by_cases hlt : j < xs.length
    · have hx : xs ≠ [] := by intro h; rw [h] at hlt; simp at hlt
      obtain ⟨f, rfl, hbm, hr, hf⟩ := HRW.out hx
      have c0 := hr.cell (i := j) (by omega)
      have f0 := hr.frozen j
      have HR2 : Hid ((wr.setCell ⟨blk, j, none⟩ (.int .i64 (k + (j : Int)))).rowIs blk 3 cap (fun i => if i = j then .int .i64 (k + (j : Int)) else f i)) := hr.set j _
      have HF2 : Hid (∀ i, i < j → f i = .int .i64 (k + (i : Int))) := hf
      have HX : Hid (xs ≠ []) := hx
      have HBM : Hid (blk ∈ fp) := hbm
      clear hr hf hx hbm
      go_wp2_with fail
      go_roundw
      case rel =>
        refine ⟨j + 1, by omega, by go_num, congrArg (Value.int .i64) (by push_cast; omega), HB.out.trans (ButL.setCell _ _ _ (by simp) _), fun h => absurd h HX.out, fun _ => ⟨_, by first | rfl | trivial, HBM.out, HR2.out, fun i hi => ?_⟩⟩
        by_cases e : i = j
        · subst e; simp
        · rw [if_neg e]; exact HF2.out i (by omega)
      case measure => simp [intOf]; omega
    · have hje : j = xs.length := by omega
      have HV : Hid (KRow wr fp (upFrom k xs.length) blk (.slice ad xs.length cap)) := by
        refine ⟨ad, cap, by rw [upFrom_length], by rw [upFrom_length]; exact hl, by unfold maxLen; exact hm, ?_⟩
        by_cases hx : xs = []
        · left; rw [hx]; rfl
        · obtain ⟨f, h1, h2, h3, h4⟩ := HRW.out hx
          refine Or.inr ⟨f, h1, h2, h3, fun i hi => ?_⟩
          rw [upFrom_get]
          rw [upFrom_length] at hi
          exact h4 i (by omega)
      have HJ : Hid (k + (xs.length : Int) = k + (j : Int)) := by rw [hje]; rfl
      clear hje
      go_wp2_with fail
      go_ret
      exact ⟨ret_int HJ.out.symm, HV.out, HB.out, HN.out⟩

/-- a store into the row of cells, not at an operand -/
theorem GRow.store {w : World} {fp : List Nat} {b cap : Nat} {kb : Nat → Nat} {g : List Ce} (h : GRow w fp b cap kb g) (j : Nat) (hj : j < g.length) (l : Int) :
    GRow ((w.setCell ⟨b, j * 3, none⟩ (.int .i64 l)).setCell ⟨b, j * 3 + 1, none⟩ (.int .i64 (l + 1))) fp b cap kb (g.set j ⟨l, l + 1, g[j].kids⟩) := by
  obtain ⟨f, hr, hf⟩ := h
  refine ⟨_, (hr.set (j * 3) _).set (j * 3 + 1) _, fun i hi => ?_⟩
  rw [List.length_set] at hi
  obtain ⟨e0, e1, e2⟩ := hf i hi
  have hk : KRow ((w.setCell ⟨b, j * 3, none⟩ (.int .i64 l)).setCell ⟨b, j * 3 + 1, none⟩ (.int .i64 (l + 1))) fp g[i].kids (kb i) (f (i * 3 + 2)) := by
    refine e2.keep (fun _ h => h) fun hx hm => ?_
    obtain ⟨_, _, _, _, _, h5⟩ := e2
    rcases h5 with h5 | ⟨f5, -, -, h6, -⟩
    · exact absurd h5 hx
    · have hne := rows_part hr h6
      rw [setCell_other _ _ _ hne.symm, setCell_other _ _ _ hne.symm]
  have n1 : ¬ (i * 3 + 2 = j * 3 + 1) := by omega
  have n2 : ¬ (i * 3 + 2 = j * 3) := by omega
  by_cases hij : i = j
  · subst hij
    simp only [List.getElem_set_self]
    refine ⟨by simp, by simp, ?_⟩
    simp only [if_neg n1, if_neg n2]
    exact hk
  · rw [List.getElem_set_ne (by omega)]
    have n3 : ¬ (i * 3 = j * 3 + 1) := by omega
    have n4 : ¬ (i * 3 = j * 3) := by omega
    have n5 : ¬ (i * 3 + 1 = j * 3 + 1) := by omega
    have n6 : ¬ (i * 3 + 1 = j * 3) := by omega
    refine ⟨?_, ?_, ?_⟩
    · simp only [if_neg n3, if_neg n4]; exact e0
    · simp only [if_neg n5, if_neg n6]; exact e1
    · simp only [if_neg n1, if_neg n2]; exact hk
/-- .. and the operands of that cell marked -/
theorem GRow.marked {w w' : World} {fp : List Nat} {b cap : Nat} {kb : Nat → Nat} {g : List Ce} {j : Nat} {l : Int} (hj : j < g.length) (hcap : g.length ≤ cap) (h : GRow w fp b cap kb (g.set j ⟨l, l + 1, g[j].kids⟩)) (hd : Dist kb g) {f : Nat → Value} (hr : w.rowIs b 45 (cap * 3) f)
    (hk : KRow w' fp (upFrom (l + 2) g[j].kids.length) (kb j) (f (j * 3 + 2))) (hb : ButL [kb j] w w') (hn : g[j].kids = [] → ∀ b : Nat, w'.heap[b]? = w.heap[b]?) : GRow w' fp b cap kb (g.set j (markedC l g[j].kids.length)) := by
  obtain ⟨f', hr', hf⟩ := h
  -- the two functions agree on the row
  have agree : ∀ i, i < cap * 3 → f' i = f i := by
    intro i hi
    have e1 := hr'.cell hi
    have e2 := hr.cell hi
    rw [e1] at e2
    exact Option.some.inj e2
  have hblk : ∀ x, x < w.heap.size → (x = kb j → g[j].kids = []) → w'.heap[x]? = w.heap[x]? := by
    intro x hx hxj
    by_cases e : g[j].kids = []
    · exact hn e x
    · exact hb.block x hx (by simp; intro h; exact e (hxj h))
  have hrow : w'.rowIs b 45 (cap * 3) f' := by
    refine hr'.of_block (hblk b hr'.lt fun e => ?_)
    have hjj := (hf j (by rw [List.length_set]; exact hj)).2.2
    rw [List.getElem_set_self] at hjj
    obtain ⟨_, _, _, _, _, h5⟩ := hjj
    rcases h5 with h5 | ⟨f5, -, -, h6, -⟩
    · exact h5
    · exact absurd e (rows_part hr' h6)
  refine ⟨f', hrow, fun i hi => ?_⟩
  rw [List.length_set] at hi
  have hfi := hf i (by rw [List.length_set]; exact hi)
  by_cases hij : i = j
  · subst hij
    rw [List.getElem_set_self] at hfi ⊢
    refine ⟨hfi.1, hfi.2.1, ?_⟩
    have hlt : i * 3 + 2 < cap * 3 := by omega
    rw [agree _ hlt]
    exact hk
  · rw [List.getElem_set_ne (by omega)] at hfi ⊢
    refine ⟨hfi.1, hfi.2.1, hfi.2.2.keep (fun _ h => h) fun hx hm => ?_⟩
    obtain ⟨_, _, _, _, _, h5⟩ := hfi.2.2
    rcases h5 with h5 | ⟨f5, -, -, h6, -⟩
    · exact absurd h5 hx
    · refine hblk _ h6.lt fun e => ?_
      by_cases e2 : g[j].kids = []
      · exact e2
      · exact absurd e (hd i j hi hj hij hx e2)

theorem HalfC.dist {g ms : List Ce} {k : Int} {j : Nat} {kb : Nat → Nat} (h : HalfC g k j ms) (hd : Dist kb g) : Dist kb ms := by
  intro x y hx hy hne ex ey
  have hl := h.1
  refine hd x y (by omega) (by omega) hne ?_ ?_
  · intro e
    have h1 := h.kids x (by omega) hx
    rw [e] at h1
    exact ex (List.eq_nil_of_length_eq_zero h1)
  · intro e
    have h1 := h.kids y (by omega) hy
    rw [e] at h1
    exact ey (List.eq_nil_of_length_eq_zero h1)

set_option maxRecDepth 100000 in
set_option maxHeartbeats 1600000 in
theorem gmark_calls (g : List Ce) (fp : List Nat) (b cap : Nat) (kb : Nat → Nat) (k : Int) (w : World) (hr : GRow w fp b cap kb g) (hb : b ∈ fp) (hd : Dist kb g) (hl : g.length ≤ cap) (hm : cap ≤ maxLen) (h0 : 0 ≤ k) (h1 : k ≤ 576460752303423488) (hs : g.length + sumK g ≤ 1048576) :
    Calls Try.prog 15 #[.slice (some ⟨b, 0, none⟩) g.length cap, .int .i64 k] w fun e w' => e = .returned (.int .i64 (k + 2 * (g.length : Int) + (sumK g : Int))) ∧ GRow w' fp b cap kb (labC g k) ∧ ButL fp w w' := by
  have HR : Hid (GRow w fp b cap kb g) := hr
  have HD : Hid (Dist kb g) := hd
  have HBF : Hid (b ∈ fp) := hb
  unfold maxLen at hm
  clear hr hd hb
  go_enter Try.func15, Try.ntmps15
  go_wp2_with fail
  go_loopw [1, 5] (fun qv i wr => ∃ (j : Nat) (ms : List Ce) (q : Int), j ≤ g.length ∧ i = .int .i64 j ∧ qv = .int .i64 q ∧ Hid (q = cLab g k j) ∧ HalfC g k j ms ∧ GRow wr fp b cap kb ms ∧ ButL fp w wr) (fun _ i _ => g.length - (intOf i).toNat)
  case atStart => exact ⟨0, g, k, Nat.zero_le _, rfl, rfl, (cLab_zero g k).symm, HalfC.zero g k, HR.out, ButL.refl _ _⟩
  case round =>
    obtain ⟨j, ms, q, hj, rfl, rfl, HQ, hh, hgr, hbw⟩ := hrel
    have HB : Hid (ButL fp w wr) := hbw
    have HH : Hid (HalfC g k j ms) := hh
    have HGR : Hid (GRow wr fp b cap kb ms) := hgr
    have hml := hh.1
    by_cases hlt : j < g.length
    · have hle := cLab_le g k j hj
      have hle2 := cLab_le g k (j + 1) hlt
      have hsu := cLab_succ g k j hlt
      have hq := HQ.out
      have hq0 : 0 ≤ q := by omega
      have hq1 : q + 2 + (g[j].kids.length : Int) ≤ 1152921504606846976 := by omega
      have HE : Hid (q + 2 + (g[j].kids.length : Int) = cLab g k (j + 1)) := by rw [Hid, hsu, ← hq]
      have hmj : ms[j]'(by omega) = g[j] := hh.at hlt (by omega)
      have hst := hgr.store j (by omega) q
      rw [hmj] at hst
      obtain ⟨f, hrow, hf⟩ := hgr
      have hfj := (hf j (by omega)).2.2
      rw [hmj] at hfj
      have c0 := hrow.cell (i := j * 3) (by omega)
      have f0 := hrow.frozen (j * 3)
      have r1 := hrow.set (j * 3) (.int .i64 q)
      have c1 := r1.cell (i := j * 3 + 1) (by omega)
      have f1 := r1.frozen (j * 3 + 1)
      have r2 := r1.set (j * 3 + 1) (.int .i64 (q + 1))
      have c2 := r2.cell (i := j * 3 + 2) (by omega)
      simp only [if_neg (show ¬ (j * 3 + 2 = j * 3 + 1) by omega), if_neg (show ¬ (j * 3 + 2 = j * 3) by omega), if_neg (show ¬ (j * 3 + 1 = j * 3) by omega)] at c1 c2
      obtain ⟨w2, hw2⟩ : ∃ w2 : World, w2 = (wr.setCell ⟨b, j * 3, none⟩ (.int .i64 q)).setCell ⟨b, j * 3 + 1, none⟩ (.int .i64 (q + 1)) := ⟨_, rfl⟩
      have HW2 : Hid (w2 = (wr.setCell ⟨b, j * 3, none⟩ (.int .i64 q)).setCell ⟨b, j * 3 + 1, none⟩ (.int .i64 (q + 1))) := hw2
      have HST : Hid (GRow w2 fp b cap kb (ms.set j ⟨q, q + 1, g[j].kids⟩)) := by rw [Hid, hw2]; exact hst
      have HR2 : Hid (w2.rowIs b 45 (cap * 3) (fun i => if i = j * 3 + 1 then .int .i64 (q + 1) else if i = j * 3 then .int .i64 q else f i)) := by rw [Hid, hw2]; exact r2
      have HB2 : Hid (ButL fp w w2) := by rw [Hid, hw2]; exact (HB.out.trans (ButL.setCell _ _ _ HBF.out _)).trans (ButL.setCell _ _ _ HBF.out _)
      have HKJ : Hid (KRow w2 fp g[j].kids (kb j) (f (j * 3 + 2))) := by
        obtain ⟨f', hr', hf'⟩ := HST.out
        have h3 := (hf' j (by rw [List.length_set]; omega)).2.2
        rw [List.getElem_set_self] at h3
        have e1 := hr'.cell (i := j * 3 + 2) (by omega)
        rw [hw2, c2] at e1
        rw [Option.some.inj e1]
        exact h3
      obtain ⟨adk, capk, hfk, -, -, -⟩ := id hfj
      have HFK : Hid (f (j * 3 + 2) = .slice adk g[j].kids.length capk) := hfk
      rw [hfk] at c2
      clear hq hsu hst hfj hfk hrow hf r1 r2 hw2 hh hbw hmj
      go_wp2_with fail
      refine (markK_calls g[j].kids fp (kb j) _ _ _ (by rw [← HW2.out, ← HFK.out]; exact HKJ.out) (by omega) (by omega)).mono ?_
      rintro e w3 ⟨rfl, hk3, hb3, hn3⟩
      rw [← HW2.out] at hb3 hn3
      have HG3 : Hid (GRow w3 fp b cap kb (ms.set j (markedC q g[j].kids.length))) := by
        have hmj : ms[j]'(by omega) = g[j] := HH.out.at hlt (by omega)
        have h := GRow.marked (w := w2) (w' := w3) (g := ms) (j := j) (l := q) (by omega) (by omega) (by rw [hmj]; exact HST.out) (HH.out.dist HD.out) HR2.out (by rw [hmj]; simp only [if_neg (show ¬ (j * 3 + 2 = j * 3 + 1) by omega), if_neg (show ¬ (j * 3 + 2 = j * 3) by omega)]; rw [HFK.out]; have h := hk3; rw [show q + 1 + 1 = q + 2 by omega] at h; exact h) hb3 (by rw [hmj]; exact hn3)
        rw [hmj] at h
        exact h
      have HB3 : Hid (ButL fp w w3) := by
        by_cases hx : g[j].kids = []
        · exact HB2.out.trans ⟨hb3.os, hb3.tape, hb3.output, hb3.size, fun x _ _ => hn3 hx x⟩
        · refine HB2.out.trans (hb3.mono fun x hx2 => ?_)
          obtain ⟨_, _, _, _, _, h5⟩ := HKJ.out
          rcases h5 with h5 | ⟨f5, -, h6, -⟩
          · exact absurd h5 hx
          · simp only [List.mem_singleton] at hx2
            rw [hx2]; exact h6
      clear hk3 hb3 hn3 c0 f0 c1 f1 c2
      go_wp2_with fail
      go_roundw
      case rel => exact ⟨j + 1, _, _, by omega, by go_num, rfl, by have := HE.out; unfold Hid; omega, by have h := HH.out.step hlt; rw [← HQ.out] at h; exact h, HG3.out, HB3.out⟩
      case measure => simp [intOf]; omega
    · have hje : j = g.length := by omega
      have HJ : Hid (k + 2 * (g.length : Int) + (sumK g : Int) = q) := by rw [Hid, HQ.out, hje, cLab_end]
      have HD2 : Hid (GRow wr fp b cap kb (labC g k)) := by
        have h := HH.out
        rw [hje] at h
        rw [← h.done]; exact HGR.out
      clear hje hh hgr hbw
      go_wp2_with fail
      go_ret
      exact ⟨ret_int HJ.out.symm, HD2.out, HB.out⟩

/-! ### Re-read -/
set_option maxRecDepth 100000 in
set_option maxHeartbeats 1600000 in
theorem gheld_calls (g : List Ce) (c : Value) (k : Int) (w : World) (hk : CIn w (labC g k) c) (h0 : 0 ≤ k) (h1 : k ≤ 576460752303423488) (hs : g.length + sumK g ≤ 1048576) :
    Calls Try.prog 17 #[c, .int .i64 k] w fun e w' => e = .returned (.int .i64 (k + 2 * (g.length : Int) + (sumK g : Int))) ∧ Below w.heap.size w w' := by
  have HK : Hid (CIn w (labC g k) c) := hk
  have hlen := labC_length g k
  obtain ⟨ad, cap, rfl, hl, hm, -⟩ := hk
  rw [hlen] at hl ⊢
  unfold maxLen at hm
  go_enter Try.func17, Try.ntmps17
  go_wp2_with fail
  go_loopw [1, 5] (fun qv i wr => ∃ (j : Nat) (q : Int), j ≤ g.length ∧ i = .int .i64 j ∧ qv = .int .i64 q ∧ Hid (q = cLab g k j) ∧ Below w.heap.size w wr) (fun _ i _ => g.length - (intOf i).toNat)
  case atStart => exact ⟨0, k, Nat.zero_le _, rfl, rfl, (cLab_zero g k).symm, Below.refl _ _⟩
  case round =>
    obtain ⟨j, q, hj, rfl, rfl, HQ, hb⟩ := hrel
    have HB : Hid (Below w.heap.size w wr) := hb
    by_cases hlt : j < g.length
    · have hle := cLab_le g k j hj
      have hle2 := cLab_le g k (j + 1) hlt
      have hsu := cLab_succ g k j hlt
      have hq := HQ.out
      have hq0 : 0 ≤ q := by omega
      have hq1 : q + 2 + (g[j].kids.length : Int) ≤ 1152921504606846976 := by omega
      have HE : Hid (q + 2 + (g[j].kids.length : Int) = cLab g k (j + 1)) := by rw [Hid, hsu, ← hq]
      have hin := HK.out.next hb
      obtain ⟨bl, off, r, e, c0, c1, c2, -, -, hkk⟩ := hin.at j (by rw [hlen]; exact hlt)
      subst e
      rw [labC_get g k j hlt, ← hq] at c0 c1 hkk
      simp only [markedC] at c0 c1 hkk
      obtain ⟨ad2, cap2, rfl, -, -, -⟩ := id hkk
      rw [upFrom_length] at c2
      have HKK : Hid (IIn wr (upFrom (q + 1 + 1) g[j].kids.length) (.slice ad2 g[j].kids.length cap2)) := by rw [upFrom_length] at hkk; rw [show q + 1 + 1 = q + 2 by omega]; exact hkk
      have t1 : (q != q) = false := by simp
      have t2 : (q + 1 != q + 1) = false := by simp
      clear hq hsu hin hkk hb
      go_wp2_with fail
      refine (heldInts_calls g[j].kids.length _ _ _ HKK.out (by omega) (by omega)).mono ?_
      rintro e w3 ⟨rfl, hb3⟩
      have HB3 : Hid (Below w.heap.size w w3) := HB.out.trans (hb3.mono HB.out.size)
      have hq3 : ¬ (q + 1 + 1 + (g[j].kids.length : Int) < 0) := by omega
      clear hb3 c0 c1 c2 t1 t2
      go_wp2_with fail
      go_roundw
      case rel => exact ⟨j + 1, _, by omega, by go_num, rfl, by have := HE.out; unfold Hid; omega, HB3.out⟩
      case measure => simp [intOf]; omega
    · have hje : j = g.length := by omega
      have HJ : Hid (k + 2 * (g.length : Int) + (sumK g : Int) = q) := by rw [Hid, HQ.out, hje, cLab_end]
      clear hje hb
      go_wp2_with fail
      go_ret
      exact ⟨ret_int HJ.out.symm, HB.out⟩
end Go.Proofs.Ytjpjikfmdaejeaa
/-
  A GRAPH THAT CALLS BUILD BY append: the row of cells is owned, the operands lie in rows of their own.
-/
namespace Go.Proofs.Ytjpjikfmdaejeaa
set_option linter.unusedVariables false
set_option linter.unusedSimpArgs false
open Go.RowKit

theorem infoC1 : ∃ i z, Try.prog.info? 45 = some i ∧ i.zero = some z ∧ i.size = 3 ∧ i.bytes = 40 ∧ z.cells.size = 3 := by
  obtain ⟨i, hi, hzz⟩ := Option.map_eq_some_iff.1 infoC
  simp only [Prod.mk.injEq] at hzz
  obtain ⟨hz, hs, hb⟩ := hzz
  exact ⟨i, _, hi, hz, hs, hb, rfl⟩
/-- the operands of a cell, in the row blk, a block of S -/
def KRowS (w : World) (S : Nat → Prop) (xs : List Int) (blk : Nat) (v : Value) : Prop :=
  ∃ ad cap, v = .slice ad xs.length cap ∧ xs.length ≤ cap ∧ cap ≤ maxLen ∧ (xs = [] ∨ ∃ f, ad = some ⟨blk, 0, none⟩ ∧ S blk ∧ w.rowIs blk 3 cap f ∧ ∀ i (h : i < xs.length), f i = .int .i64 xs[i])
theorem KRowS.keep {w w' : World} {S S' : Nat → Prop} {xs : List Int} {blk : Nat} {v : Value} (h : KRowS w S xs blk v) (hS : ∀ k, S k → k < w.heap.size → S' k) (hb : ∀ C, S blk → blk < w.heap.size → w.heap[blk]? = some (.cells C 3 (0, 0)) → w'.heap[blk]? = w.heap[blk]?) : KRowS w' S' xs blk v := by
  obtain ⟨ad, cap, e, l1, l2, h⟩ := h
  refine ⟨ad, cap, e, l1, l2, h.imp id ?_⟩
  rintro ⟨f, rfl, h1, h3, h4⟩
  obtain ⟨C, hC, -⟩ := id h3
  exact ⟨f, rfl, hS _ h1 h3.lt, h3.of_block (hb C h1 h3.lt hC), h4⟩
/-- a slice value that holds a graph that is being built: the row of cells is owned, from block lo on; the operands lie in blocks of S -/
def OwnC (w : World) (lo : Nat) (S : Nat → Prop) (g : List Ce) (v : Value) : Prop :=
  (∀ i (h : i < g.length), I64 g[i].op ∧ I64 g[i].num) ∧ ∃ (xs : List Value) (kb : Nat → Nat), w.ownsRow lo 45 3 v g.length xs ∧
    (∀ j (hj : j < g.length), ∃ kv, xs[j * 3]? = some (.int .i64 g[j].op) ∧ xs[j * 3 + 1]? = some (.int .i64 g[j].num) ∧ xs[j * 3 + 2]? = some kv ∧ KRowS w S g[j].kids (kb j) kv) ∧ Dist kb g
theorem OwnC.nil (w : World) (lo : Nat) (S : Nat → Prop) : OwnC w lo S [] (.slice none 0 0) := ⟨fun i h => absurd h (by simp), [], fun _ => 0, World.ownsRow_nil w lo _ _, fun j hj => absurd hj (by simp), fun i j hi _ => absurd hi (by simp)⟩
/-- it stays where the row of cells and all rows of ints in S stay -/
theorem OwnC.next {w w' : World} {lo : Nat} {S S' : Nat → Prop} {g : List Ce} {v : Value} (h : OwnC w lo S g v) (hS : ∀ k, S k → k < w.heap.size → S' k) (hr : ∀ k, some k = v.ownBlock → k < w.heap.size → w'.heap[k]? = w.heap[k]?) (hb : ∀ k, S k → k < w.heap.size → w'.heap[k]? = w.heap[k]?) : OwnC w' lo S' g v := by
  obtain ⟨hi0, xs, kb, h1, h2, h3⟩ := h
  refine ⟨hi0, xs, kb, ?_, fun j hj => ?_, h3⟩
  · refine ⟨h1.1, ?_⟩
    rcases h1.2 with h | ⟨b, cap, cur, rfl, hg, hh, r⟩
    · exact Or.inl h
    · exact Or.inr ⟨b, cap, cur, rfl, hg, (hr b rfl (Array.getElem?_eq_some_iff.1 hh).1).trans hh, r⟩
  · obtain ⟨kv, e0, e1, e2, e3⟩ := h2 j hj
    exact ⟨kv, e0, e1, e2, e3.keep hS fun C h1 h2 _ => hb _ h1 h2⟩
theorem OwnC.row {w : World} {lo : Nat} {S : Nat → Prop} {g : List Ce} {v : Value} (h : OwnC w lo S g v) : ∃ xs, w.ownsRow lo 45 3 v g.length xs := by
  obtain ⟨-, xs, kb, h1, -⟩ := h; exact ⟨xs, h1⟩
theorem OwnC.form {w : World} {lo : Nat} {S : Nat → Prop} {g : List Ce} {v : Value} (h : OwnC w lo S g v) : ∃ ad cap, v = .slice ad g.length cap := by
  obtain ⟨xs, h1⟩ := h.row
  rcases h1.2 with ⟨rfl, h0⟩ | ⟨b, cap, cur, rfl, -⟩
  · exact ⟨none, 0, by rw [h0]⟩
  · exact ⟨_, _, rfl⟩
/-- one cell more -/
theorem OwnC.step {w w' : World} {lo : Nat} {S : Nat → Prop} {g : List Ce} {v v' : Value} {c : Ce} {kv : Value} {blk : Nat} (h : OwnC w lo S g v)
    (hc : I64 c.op ∧ I64 c.num) (hk : KRowS w (fun b => b = blk) c.kids blk kv) (hS : ¬ S blk) (xs : List Value) (hx : w.ownsRow lo 45 3 v g.length xs)
    (hown : w'.ownsRow lo 45 3 v' (g.length + 1) (xs ++ [.int .i64 c.op, .int .i64 c.num, kv])) (hg : w.grownBy w' v.ownBlock) : OwnC w' lo (fun b => S b ∨ b = blk) (g ++ [c]) v' := by
  obtain ⟨hi0, xs2, kb, h1, h2, h3⟩ := h
  have hxs : xs2 = xs := by
    rcases h1.2 with ⟨rfl, h0⟩ | ⟨b, cap, cur, rfl, hg', hh, hn', hc', hs', htk⟩
    · have a1 := h1.1
      have a2 := hx.1
      rw [h0] at a1 a2
      rw [List.eq_nil_of_length_eq_zero (by omega : xs2.length = 0), List.eq_nil_of_length_eq_zero (by omega : xs.length = 0)]
    · rcases hx.2 with ⟨e, -⟩ | ⟨b2, cap2, cur2, e, -, hh2, -, -, -, htk2⟩
      · cases e
      · cases e
        rw [hh] at hh2
        cases hh2
        rw [← htk, ← htk2]
  subst hxs
  have hlen := h1.1
  -- a row of ints is not the row of cells
  have keep : ∀ (C : Array Value) (b : Nat), b < w.heap.size → w.heap[b]? = some (.cells C 3 (0, 0)) → w'.heap[b]? = w.heap[b]? := by
    intro C b hb hC
    refine hg.block b hb fun e => ?_
    rcases h1.2 with ⟨rfl, -⟩ | ⟨b2, cap, cur, rfl, -, hh, -⟩
    · simp [Value.ownBlock] at e
    · simp only [Value.ownBlock, Option.some.injEq] at e
      subst e
      rw [hh] at hC
      simp at hC
  refine ⟨fun i hi' => ?_, xs2 ++ [.int .i64 c.op, .int .i64 c.num, kv], fun j => if j = g.length then blk else kb j, by simpa using hown, fun j hj => ?_, ?_⟩
  · by_cases hil : i < g.length
    · rw [List.getElem_append_left hil]; exact hi0 i hil
    · have : i = g.length := by simp at hi'; omega
      subst this
      simpa using hc
  · by_cases hjl : j < g.length
    · obtain ⟨kv', e0, e1, e2, e3⟩ := h2 j hjl
      refine ⟨kv', ?_, ?_, ?_, ?_⟩
      · rw [List.getElem?_append_left (by omega), List.getElem_append_left hjl]; exact e0
      · rw [List.getElem?_append_left (by omega), List.getElem_append_left hjl]; exact e1
      · rw [List.getElem?_append_left (by omega)]; exact e2
      · simp only [if_neg (show ¬ j = g.length by omega)]
        rw [List.getElem_append_left hjl]
        exact e3.keep (fun k hk _ => Or.inl hk) fun C _ h5 hC => keep C _ h5 hC
    · have hj' : j = g.length := by simp at hj; omega
      subst hj'
      refine ⟨kv, ?_, ?_, ?_, ?_⟩
      · rw [List.getElem?_append_right (by omega)]; simp [hlen]
      · rw [List.getElem?_append_right (by omega)]; simp [hlen]
      · rw [List.getElem?_append_right (by omega)]; simp [hlen]
      · simp only [List.getElem_concat_length, if_pos]
        exact hk.keep (fun k hk _ => Or.inr hk) fun C _ h5 hC => keep C _ h5 hC
  · -- distinct
    have ne : ∀ i (hi' : i < g.length), g[i].kids ≠ [] → kb i ≠ blk := by
      intro i hi' hne e
      obtain ⟨kv', -, -, -, _, _, _, _, _, h5⟩ := h2 i hi'
      rcases h5 with h5 | ⟨f5, -, h6, -⟩
      · exact hne h5
      · exact hS (e ▸ h6)
    intro i j hi' hj' hij ei ej
    simp only [List.length_append, List.length_cons, List.length_nil] at hi' hj'
    by_cases il : i < g.length
    · rw [List.getElem_append_left il] at ei
      by_cases jl : j < g.length
      · rw [List.getElem_append_left jl] at ej
        simp only [if_neg (show ¬ i = g.length by omega), if_neg (show ¬ j = g.length by omega)]
        exact h3 i j il jl hij ei ej
      · have : j = g.length := by omega
        subst this
        simp only [if_neg (show ¬ i = g.length by omega), if_pos]
        exact ne i il ei
    · have : i = g.length := by omega
      subst this
      have jl : j < g.length := by omega
      rw [List.getElem_append_left jl] at ej
      simp only [if_neg (show ¬ j = g.length by omega), if_pos]
      exact (ne j jl ej).symm
/-- the graph, in rows of its own -/
theorem OwnC.own {w : World} {lo : Nat} {S : Nat → Prop} {g : List Ce} {v : Value} (h : OwnC w lo S g v) (hS : ∀ k, S k → k < w.heap.size → lo ≤ k) : GOwn w (List.range' lo (w.heap.size - lo)) g v := by
  obtain ⟨hi0, xs, kb, h1, h2, h3⟩ := h
  refine ⟨hi0, ?_⟩
  rcases h1.2 with ⟨rfl, h0⟩ | ⟨b, cap, cur, rfl, hg, hh2, hn, hc, hs, htk⟩
  · obtain rfl : g = [] := List.eq_nil_of_length_eq_zero h0
    exact ⟨none, 0, rfl, Nat.le_refl _, by simp [maxLen], Or.inl rfl⟩
  · have hbl : b < w.heap.size := (Array.getElem?_eq_some_iff.1 hh2).1
    refine ⟨_, cap, rfl, hn, hc, Or.inr ⟨b, kb, rfl, by rw [List.mem_range'_1]; omega, ⟨fun i => cur.getD i undef, ⟨cur, hh2, hs, fun i hi => by simp [Array.getD, show i < cur.size by omega]⟩, fun i hi => ?_⟩, h3⟩⟩
    obtain ⟨kv, e0, e1, e2, e3⟩ := h2 i hi
    have get : ∀ m u, m < g.length * 3 → xs[m]? = some u → cur.getD m undef = u := by
      intro m u hm hu
      rw [← htk, List.getElem?_take_of_lt hm] at hu
      have hmc : m < cur.size := by omega
      simp [hmc] at hu
      simp [Array.getD, hmc, hu]
    refine ⟨get _ _ (by omega) e0, get _ _ (by omega) e1, ?_⟩
    simp only []
    rw [get _ _ (by omega) e2]
    obtain ⟨ad2, cap2, e4, l1, l2, h5⟩ := e3
    refine ⟨ad2, cap2, e4, l1, l2, h5.imp id ?_⟩
    rintro ⟨f, rfl, h6, h8, h9⟩
    exact ⟨f, rfl, by rw [List.mem_range'_1]; have := h8.lt; have := hS _ h6 h8.lt; omega, h8, h9⟩
/-- a list of operands that a call has built by append -/
theorem stk_krow {w : World} {lo : Nat} {ws : List Nat} {v : Value} (h : Stk w lo ws v) : ∃ blk, (ws ≠ [] → v.ownBlock = some blk) ∧ KRowS w (fun b => b = blk) (ws.map fun (a : Nat) => (a : Int)) blk v := by
  obtain ⟨ad, cap, e, l1, l2, h5⟩ := h.row
  rcases h5 with h5 | ⟨g, f, rfl, h6, h7, h8⟩
  · have hw : ws = [] := by simpa using h5
    exact ⟨0, fun hx => absurd hw hx, ad, cap, e, l1, l2, Or.inl h5⟩
  · exact ⟨g, fun _ => by rw [e]; rfl, _, cap, e, l1, l2, Or.inr ⟨f, rfl, rfl, h7, h8⟩⟩
theorem news3c (w : World) (a b c : Value) (j : Nat) (u : Value) (h : [a, b, c][j]? = some u) : (w.alloc (.cells #[a, b, c] 45)).cell? ((⟨w.heap.size, 0, none⟩ : Addr).add j) = some u := by
  rw [WideShapes.add_plain, Nat.zero_add]
  exact box_cell w #[a, b, c] _ j u (by simpa using h)
theorem stk_form {w : World} {lo k : Nat} {ws : List Nat} {n : Nat} {v : Value} (h : Stk w lo (ws ++ [n]) v) (hk : ws.length = k) : ∃ ad cap, v = .slice ad (k + 1) cap := by
  obtain ⟨a, c, e⟩ := h.len
  exact ⟨a, c, by rw [e, List.length_append, hk]; rfl⟩
end Go.Proofs.Ytjpjikfmdaejeaa
/-
  THE MODEL's l3Copy: a copy of a graph, in new memory.
-/
namespace Go.Proofs.Ytjpjikfmdaejeaa
set_option linter.unusedVariables false
set_option linter.unusedSimpArgs false
open Go.RowKit

/-- a copy of a graph, in rows of its own from block w.heap.size on -/
def CopyRes (g : List Ce) (w : World) (e : Ending) (w' : World) : Prop := ∃ gv, e = .returned gv ∧ OwnC w' w.heap.size (fun b => w.heap.size ≤ b) g gv ∧ Below w.heap.size w w'

/-- one cell more, with operands in a new row -/
theorem copy_push {wr w1 w3 : World} {lo : Nat} {G : List Ce} {v v' kv : Value} {ws : List Nat} {o n : Int} (h : OwnC wr lo (fun b => lo ≤ b) G v) (hlo : lo ≤ wr.heap.size) (h1 : Below wr.heap.size wr w1) (hst : Stk w1 wr.heap.size ws kv) (obj : Obj) {xs : List Value}
    (hx : (w1.alloc obj).ownsRow lo 45 3 v G.length xs) (hown : w3.ownsRow lo 45 3 v' (G.length + 1) (xs ++ [.int .i64 o, .int .i64 n, kv])) (hg : (w1.alloc obj).grownBy w3 v.ownBlock) (ho : I64 o) (hn : I64 n) :
    OwnC w3 lo (fun b => lo ≤ b) (G ++ [⟨o, n, ws.map fun (a : Nat) => (a : Int)⟩]) v' := by
  have hs1 := h1.size
  obtain ⟨ys, hy⟩ := h.row
  have h4 : OwnC (w1.alloc obj) lo (fun b => lo ≤ b ∧ b < wr.heap.size) G v := h.next (fun b hb hb2 => ⟨hb, hb2⟩) (fun b _ hb => (Deep.blk_alloc_lt _ _ _ (by omega)).trans (h1.block b hb)) (fun b _ hb => (Deep.blk_alloc_lt _ _ _ (by omega)).trans (h1.block b hb))
  obtain ⟨blk, hb1, hb3⟩ : ∃ blk, wr.heap.size ≤ blk ∧ KRowS (w1.alloc obj) (fun b => b = blk) (ws.map fun (a : Nat) => (a : Int)) blk kv := by
    obtain ⟨blk, h1, h2⟩ := stk_krow (hst.alloc obj)
    by_cases he : ws = []
    · obtain ⟨ad, cap, e, l1, l2, -⟩ := h2
      exact ⟨wr.heap.size, Nat.le_refl _, ad, cap, e, l1, l2, Or.inl (by rw [he]; rfl)⟩
    · exact ⟨blk, (own_some hst blk (h1 he)).1, h2⟩
  have h5 := h4.step (c := ⟨o, n, ws.map fun (a : Nat) => (a : Int)⟩) (v' := v') ⟨ho, hn⟩ hb3 (fun h => by have := h.2; omega) xs hx hown hg
  refine h5.next (fun b hb _ => ?_) (fun _ _ _ => rfl) (fun _ _ _ => rfl)
  rcases hb with hb | rfl
  · exact hb.1
  · omega

theorem copy_below {wr w1 : World} {o : Obj} (h : (wr.alloc o).drew.grownBy w1 (Value.slice (some ⟨wr.heap.size, 0, none⟩) 0 0).ownBlock) : Below wr.heap.size wr w1 :=
  ⟨h.os, h.tape, h.output, by have h1 : (wr.alloc o).heap.size ≤ w1.heap.size := h.size; rw [Deep.nblk_alloc] at h1; omega, fun k hk => (h.block k (by show k < (wr.alloc o).heap.size; rw [Deep.nblk_alloc]; omega) (by simp only [Value.ownBlock, ne_eq, Option.some.injEq]; omega)).trans (Deep.blk_alloc_lt _ _ _ hk)⟩
theorem copy_own {wr w1 : World} {lo n : Nat} {v : Value} {xs : List Value} (h : wr.ownsRow lo 45 3 v n xs) (hb : Below wr.heap.size wr w1) (o : Obj) : (w1.alloc o).ownsRow lo 45 3 v n xs := by
  refine ⟨h.1, ?_⟩
  have hs := hb.size
  rcases h.2 with h' | ⟨g, cap, cur, rfl, hg, hh, r⟩
  · exact Or.inl h'
  · have hl := (Array.getElem?_eq_some_iff.1 hh).1
    exact Or.inr ⟨g, cap, cur, rfl, hg, ((Deep.blk_alloc_lt _ _ _ (by omega)).trans (hb.block g hl)).trans hh, r⟩

theorem copy_below3 {w wr w1 w3 : World} {n : Nat} {v : Value} {xs : List Value} {o : Obj} (hb : Below w.heap.size w wr) (h1 : Below wr.heap.size wr w1) (hx : wr.ownsRow w.heap.size 45 3 v n xs) (hg : (w1.alloc o).grownBy w3 v.ownBlock) : Below w.heap.size w w3 := by
  have hs := hb.size
  have hs1 := h1.size
  have hs3 := hg.size
  rw [Deep.nblk_alloc] at hs3
  exact ⟨(hg.os.trans h1.os).trans hb.os, (hg.tape.trans h1.tape).trans hb.tape, (hg.output.trans h1.output).trans hb.output, by omega, fun k hk => (((hg.block k (by rw [Deep.nblk_alloc]; omega) (fun e => by have := (own_some hx k e.symm).1; omega)).trans (Deep.blk_alloc_lt _ _ _ (by omega))).trans (h1.block k (by omega))).trans (hb.block k hk)⟩

set_option maxRecDepth 100000 in
set_option maxHeartbeats 1600000 in
theorem l3Copy_calls (g : List Ce) (v : Value) (w : World) (hk : CIn w g v) (hg : ∃ defs, graphB g defs = true) : Calls Try.prog 50 #[v] w (CopyRes g w) := by
  have HK : Hid (CIn w g v) := hk
  obtain ⟨defs, hg⟩ := hg
  have HG : Hid (graphB g defs = true) := hg
  obtain ⟨ad, cap, rfl, hl, hm, -⟩ := hk
  unfold maxLen at hm
  have h400 : g.length ≤ 400 := graphB_len hg
  clear hg
  go_enter Try.func50, Try.ntmps50
  go_wp2_with fail
  have HST : Hid (OwnC (w.alloc (.cells #[] 45)) w.heap.size (fun b => w.heap.size ≤ b) (g.take 0) (.slice (some ⟨w.heap.size, 0, none⟩) 0 0)) :=
    ⟨fun i h => absurd h (by simp), [], fun _ => 0, ⟨rfl, Or.inr ⟨w.heap.size, 0, #[], rfl, Nat.le_refl _, Deep.blk_alloc_new _ _, Nat.le_refl _, by simp [maxLen], rfl, rfl⟩⟩, fun j hj => absurd hj (by simp), fun i j hi _ => absurd hi (by simp)⟩
  go_loopw [3, 4] (fun out i wr => ∃ k : Nat, k ≤ g.length ∧ i = .int .i64 k ∧ OwnC wr w.heap.size (fun b => w.heap.size ≤ b) (g.take k) out ∧ Below w.heap.size w wr) (fun _ i _ => g.length - (intOf i).toNat)
  case atStart => exact ⟨0, Nat.zero_le _, rfl, HST.out, box_below _ _⟩
  case round =>
    obtain ⟨k, hk, rfl, hown, hb⟩ := hrel
    have HO : Hid (OwnC wr w.heap.size (fun b => w.heap.size ≤ b) (g.take k) u3) := hown
    have HB : Hid (Below w.heap.size w wr) := hb
    have hsz := hb.size
    by_cases hlt : k < g.length
    · obtain ⟨bl, off, r2, rfl, c0w, c1w, c2w, io, iN, hkk⟩ := HK.out.at k hlt
      have HKK : Hid (IIn wr g[k].kids r2) := hkk.next hb
      have HLW : Hid (bl < w.heap.size) := cell_lt c0w
      have c0 := (hb.cell (p := ⟨bl, off + k * 3, none⟩) HLW.out).trans c0w
      have c1 := (hb.cell (p := ⟨bl, off + k * 3 + 1, none⟩) HLW.out).trans c1w
      have c2 := (hb.cell (p := ⟨bl, off + k * 3 + 2, none⟩) HLW.out).trans c2w
      have HC : Hid (w.cell? ⟨bl, off + k * 3, none⟩ = some (.int .i64 g[k].op) ∧ w.cell? ⟨bl, off + k * 3 + 1, none⟩ = some (.int .i64 g[k].num) ∧ w.cell? ⟨bl, off + k * 3 + 2, none⟩ = some r2) := ⟨c0w, c1w, c2w⟩
      clear c0w c1w c2w
      have HIO : Hid (I64 g[k].op ∧ I64 g[k].num) := ⟨io, iN⟩
      have lg := cell_lt c0
      have HTL : Hid ((g.take k).length = k) := by rw [Hid, List.length_take]; omega
      obtain ⟨adk, capk, rfl, -, -, -⟩ := id hkk
      clear hown hb hkk io iN
      obtain ⟨xs, hx⟩ := HO.out.row
      rw [HTL.out] at hx
      have HX : Hid (wr.ownsRow w.heap.size 45 3 u3 k xs) := hx
      obtain ⟨iC, zC, hII⟩ := infoC1
      have HII : Hid (Try.prog.info? 45 = some iC ∧ iC.zero = some zC ∧ iC.size = 3 ∧ iC.bytes = 40 ∧ zC.cells.size = 3) := hII
      have HK3 : Hid (g[k].kids.length ≤ 3) := (kids_graph HG.out k hlt).1
      have HKN : Hid ((kidsN g k).length = g[k].kids.length) := by rw [Hid, kidsN_at k hlt]; simp
      clear hII hx
      go_wp2_with fail
      go_region_held3 (fun w' => w'.cell? ⟨bl, off + k * 3, none⟩ = some (.int .i64 g[k].op) ∧ w'.cell? ⟨bl, off + k * 3 + 1, none⟩ = some (.int .i64 g[k].num) ∧ w'.cell? ⟨bl, off + k * 3 + 2, none⟩ = some (.slice adk g[k].kids.length capk))
        (first
          | go_keep
          | exact ⟨e0, e1, e2⟩
          | exact ⟨d0, d1, d2⟩
          | exact ⟨old_cell d0 _, old_cell d1 _, old_cell d2 _⟩
          | exact ⟨old_cell c0 _, old_cell c1 _, old_cell c2 _⟩)
        (first
          | (refine step_push (by rfl) (.tmp 23) (.tmp 28) (by rfl) wr.heap.size [] (kidsN g k) (.slice (some ⟨wr.heap.size, 0, none⟩) 0 0) (.slice adk g[k].kids.length capk) (by rfl) (stk_zero (Deep.blk_alloc_new wr _) (Nat.le_refl _)) (by rfl) (HKK.out.next ((box_below wr _).drew)) (kids_back HG.out k hlt) (by show wr.heap.size ≤ (wr.alloc _).heap.size; rw [Deep.nblk_alloc]; omega) (by rw [HKN.out]; have := HK3.out; simp only [List.length_nil]; omega) ?_; intro v1 w1 hst1 hg1; have HB1 : Hid (Below wr.heap.size wr w1) := copy_below hg1; have HST1 : Hid (Stk w1 wr.heap.size (kidsN g k) v1) := hst1; obtain ⟨ad1, cap1, rfl⟩ := stk_len2 hst1 HKN.out; have d0 := (HB1.out.cell (p := ⟨bl, off + k * 3, none⟩) lg).trans c0; have d1 := (HB1.out.cell (p := ⟨bl, off + k * 3 + 1, none⟩) lg).trans c1; have d2 := (HB1.out.cell (p := ⟨bl, off + k * 3 + 2, none⟩) lg).trans c2; clear hst1 hg1)
          | (refine step_append_where (by rfl) (.tmp 12) (.tmp 31) 25 (by rfl) w.heap.size 45 iC zC 3 40 Try.underlying25 HII.out.1 HII.out.2.1 HII.out.2.2.1 HII.out.2.2.2.1 HII.out.2.2.2.2 (by decide) u3 k xs (by rfl) (copy_own HX.out HB1.out _) ⟨w1.heap.size, 0, none⟩ 1 1 [.int .i64 g[k].op, .int .i64 g[k].num, .slice ad1 g[k].kids.length cap1] (by rfl) (by rfl) (news3c w1 _ _ _) (by simp [Value.oneCell']) (by unfold maxLen; omega) (by omega) (by show w.heap.size ≤ (w1.alloc _).heap.size; rw [Deep.nblk_alloc]; have := HB1.out.size; omega) (by omega) ?_; intro v3 w3 hown3 hg3 hw3; have HOWN3 : Hid (w3.ownsRow w.heap.size 45 3 v3 (k + 1) (xs ++ [.int .i64 g[k].op, .int .i64 g[k].num, .slice ad1 g[k].kids.length cap1])) := hown3; have HG3 : Hid ((w1.alloc (.cells #[.int .i64 g[k].op, .int .i64 g[k].num, .slice ad1 g[k].kids.length cap1] 45)).grownBy w3 u3.ownBlock) := hg3; have HB3 : Hid (Below w.heap.size w w3) := copy_below3 HB.out HB1.out HX.out hg3; have e0 := (HB3.out.cell (p := ⟨bl, off + k * 3, none⟩) HLW.out).trans HC.out.1; have e1 := (HB3.out.cell (p := ⟨bl, off + k * 3 + 1, none⟩) HLW.out).trans HC.out.2.1; have e2 := (HB3.out.cell (p := ⟨bl, off + k * 3 + 2, none⟩) HLW.out).trans HC.out.2.2; clear hown3 hg3 hw3))
      go_wp2_with fail
      go_roundw
      case rel =>
        refine ⟨k + 1, by omega, by go_num, ?_, HB3.out⟩
        have h := copy_push (G := g.take k) (ws := kidsN g k) (o := g[k].op) (n := g[k].num) HO.out HB.out.size HB1.out HST1.out _ (by rw [HTL.out]; exact copy_own HX.out HB1.out _) (by rw [HTL.out]; exact HOWN3.out) HG3.out HIO.out.1 HIO.out.2
        rw [← kids_back HG.out k hlt] at h
        rw [List.take_succ_eq_append_getElem hlt]
        exact h
      case measure => simp [intOf]; omega
    · have hke : k = g.length := by omega
      have HE : Hid (OwnC wr w.heap.size (fun b => w.heap.size ≤ b) g u3) := by
        have h := HO.out
        rw [hke, List.take_length] at h
        exact h
      clear hown hb hke
      go_wp2_with fail
      go_ret
      exact ⟨_, rfl, HE.out, HB.out⟩
end Go.Proofs.Ytjpjikfmdaejeaa
/-
  PLAIN: what CopyGraph, CopyOrder and CollectGraph answer. No program is named here.
-/
namespace Go.Proofs.Ytjpjikfmdaejeaa
set_option linter.unusedVariables false
set_option linter.unusedSimpArgs false

theorem order_closed {g : List Ce} {roots : List Nat} (hg : graphB g 6 = true) (hr : ∀ x ∈ roots, x < g.length) : ∀ a ∈ orderG g roots, ∀ k ∈ kidsN g a, k ∈ orderG g roots := by
  obtain ⟨i, h, hi⟩ := order_rel hg hr
  intro a ha k hk
  obtain ⟨j, hj, rfl⟩ := List.getElem_of_mem ha
  refine h.cl j (by omega) k ?_
  rw [getD_at _ _ _ hj]; exact hk
theorem order_cs {g : List Ce} {roots : List Nat} (hg : graphB g 6 = true) (hr : ∀ x ∈ roots, x < g.length) : Cs g.length (orderG g roots) := by
  obtain ⟨i, h, hi⟩ := order_rel hg hr
  exact h.cs
theorem order_root {g : List Ce} {roots : List Nat} (hg : graphB g 6 = true) (hr : ∀ x ∈ roots, x < g.length) : ∀ x ∈ roots, x ∈ orderG g roots := by
  obtain ⟨i, h, hi⟩ := order_rel hg hr
  exact h.rt
/-- what CopyGraph answers, but for whether -/
def copyO (g : List Ce) (rs : List Int) : List Ce × List Nat := if rootB g rs = true then (copyG g (natL rs), topsG g (natL rs)) else ([], [])
theorem copyO_no {g : List Ce} {rs : List Int} (h : rootB g rs = false) : copyO g rs = ([], []) := by unfold copyO; rw [if_neg (by rw [h]; simp)]
theorem copyO_yes {g : List Ce} {rs : List Int} (h : rootB g rs = true) : copyO g rs = (copyG g (natL rs), topsG g (natL rs)) := by unfold copyO; rw [if_pos h]
/-- what CopyOrder answers -/
def orderO (g : List Ce) (rs : List Int) : List Nat := if rootB g rs = true then orderG g (natL rs) else []
theorem orderO_no {g : List Ce} {rs : List Int} (h : rootB g rs = false) : orderO g rs = [] := by unfold orderO; rw [if_neg (by rw [h]; simp)]
theorem orderO_yes {g : List Ce} {rs : List Int} (h : rootB g rs = true) : orderO g rs = orderG g (natL rs) := by unfold orderO; rw [if_pos h]

/-! ### Past indirections -/
def skipN (g : List Ce) (a : Nat) : Nat := (followN g g.length a).getD a
def shortC (g : List Ce) (c : Ce) : Ce := ⟨c.op, c.num, (c.kids.map Int.toNat).map fun k => (skipN g k : Int)⟩
def shortG (g : List Ce) : List Ce := g.map (shortC g)
theorem skip_lt {g : List Ce} {defs : Int} (h : graphB g defs = true) {a : Nat} (ha : a < g.length) : skipN g a < g.length := by
  unfold skipN
  cases hf : followN g g.length a with
  | none => exact ha
  | some b => exact (followN_lt h _ a b ha hf).1
theorem shortG_len (g : List Ce) : (shortG g).length = g.length := by simp [shortG]
theorem shortG_at (g : List Ce) (i : Nat) (h : i < g.length) : (shortG g)[i]'(by rw [shortG_len]; exact h) = shortC g g[i] := by simp [shortG]
theorem shortG_valid {g : List Ce} {defs : Int} (h : graphB g defs = true) : graphB (shortG g) defs = true := by
  have h' := h
  unfold graphB at h ⊢
  simp only [Bool.and_eq_true, List.all_eq_true, decide_eq_true_eq] at h ⊢
  rw [shortG_len]
  refine ⟨h.1, fun c hc => ?_⟩
  obtain ⟨i, hi, rfl⟩ := List.getElem_of_mem hc
  rw [shortG_len] at hi
  rw [shortG_at g i hi]
  have hc := graphB_cell h' i hi
  unfold cellB fitsB shortC at *
  simp only [Bool.and_eq_true, decide_eq_true_eq, List.length_map] at hc ⊢
  refine ⟨hc.1, ?_⟩
  rw [List.all_eq_true]
  intro x hx
  simp only [List.mem_map] at hx
  obtain ⟨k, ⟨y, hy, rfl⟩, rfl⟩ := hx
  have hy2 := (kids_graph h' i hi).2 y hy
  have := skip_lt h' (a := y.toNat) (by omega)
  simp only [isAt, decide_eq_true_eq]
  omega
/-- what CollectGraph answers -/
def collO (g : List Ce) (rs : List Int) : List Ce × List Nat := if rootB g rs = true then (copyG (shortG g) ((natL rs).map (skipN g)), topsG (shortG g) ((natL rs).map (skipN g))) else ([], [])
theorem collO_no {g : List Ce} {rs : List Int} (h : rootB g rs = false) : collO g rs = ([], []) := by unfold collO; rw [if_neg (by rw [h]; simp)]
theorem collO_yes {g : List Ce} {rs : List Int} (h : rootB g rs = true) : collO g rs = (copyG (shortG g) ((natL rs).map (skipN g)), topsG (shortG g) ((natL rs).map (skipN g))) := by unfold collO; rw [if_pos h]
theorem coll_lt {g : List Ce} {rs : List Int} (h : rootB g rs = true) : ∀ x ∈ (natL rs).map (skipN g), x < (shortG g).length := by
  intro x hx
  simp only [List.mem_map] at hx
  obtain ⟨a, ha, rfl⟩ := hx
  rw [shortG_len]
  exact skip_lt (rootB_iff.1 h).1 (root_lt h a ha)

/-! ### How large -/
theorem kidsSum_le3 : ∀ (g : List Ce), (∀ c ∈ g, c.kids.length ≤ 3) → sumK g ≤ 3 * g.length
  | [], _ => by simp [sumK]
  | c :: g, h => by
    have h1 := h c (List.mem_cons_self ..)
    have h2 := kidsSum_le3 g fun d hd => h d (List.mem_cons_of_mem _ hd)
    have h3 : sumK (c :: g) = c.kids.length + sumK g := by simp [sumK]
    rw [h3]
    simp only [List.length_cons]
    omega
theorem copyG_small {g : List Ce} {roots : List Nat} (hg : graphB g 6 = true) (hr : ∀ x ∈ roots, x < g.length) : (copyG g roots).length + sumK (copyG g roots) ≤ 2000 := by
  have hl := (order_cs hg hr).len
  have h4 := graphB_len hg
  have h3 : sumK (copyG g roots) ≤ 3 * (copyG g roots).length := by
    refine kidsSum_le3 _ fun c hc => ?_
    unfold copyG at hc
    simp only [List.mem_map] at hc
    obtain ⟨a, ha, rfl⟩ := hc
    simp only [cpCell, List.length_map]
    exact kidsN_len hg a ((order_cs hg hr).2 a ha)
  rw [copyG_len] at h3 ⊢
  omega
theorem copyO_small (g : List Ce) (rs : List Int) : (copyO g rs).1.length + sumK (copyO g rs).1 ≤ 2000 ∧ (copyO g rs).2.length ≤ 2000 := by
  cases h : rootB g rs with
  | false => rw [copyO_no h]; simp [sumK]
  | true =>
    rw [copyO_yes h]
    refine ⟨copyG_small (rootB_iff.1 h).1 (root_lt h), ?_⟩
    have := (rootB_iff.1 h).2.1
    simp only [topsG, List.length_map, natL_len]; omega
theorem orderO_small (g : List Ce) (rs : List Int) : (orderO g rs).length ≤ 2000 := by
  cases h : rootB g rs with
  | false => rw [orderO_no h]; simp
  | true =>
    rw [orderO_yes h]
    have := (order_cs (rootB_iff.1 h).1 (root_lt h)).len
    have := graphB_len (rootB_iff.1 h).1
    omega
theorem collO_small (g : List Ce) (rs : List Int) : (collO g rs).1.length + sumK (collO g rs).1 ≤ 2000 ∧ (collO g rs).2.length ≤ 2000 := by
  cases h : rootB g rs with
  | false => rw [collO_no h]; simp [sumK]
  | true =>
    rw [collO_yes h]
    refine ⟨copyG_small (shortG_valid (rootB_iff.1 h).1) (coll_lt h), ?_⟩
    have := (rootB_iff.1 h).2.1
    simp only [topsG, List.length_map, natL_len]; omega
end Go.Proofs.Ytjpjikfmdaejeaa
/-
  THE MODEL's l5Copy: a copy of the cells in their order.
-/
namespace Go.Proofs.Ytjpjikfmdaejeaa
set_option linter.unusedVariables false
set_option linter.unusedSimpArgs false
open Go.RowKit

theorem OwnC.lower {w : World} {lo lo' : Nat} {S S' : Nat → Prop} {g : List Ce} {v : Value} (h : OwnC w lo S g v) (hl : lo' ≤ lo) (hS : ∀ b, S b → S' b) : OwnC w lo' S' g v := by
  obtain ⟨h0, xs, kb, h1, h2, h3⟩ := h
  refine ⟨h0, xs, kb, ⟨h1.1, ?_⟩, fun j hj => ?_, h3⟩
  · rcases h1.2 with h | ⟨b, cap, cur, rfl, hg, r⟩
    · exact Or.inl h
    · exact Or.inr ⟨b, cap, cur, rfl, Nat.le_trans hl hg, r⟩
  · obtain ⟨kv, e0, e1, e2, e3⟩ := h2 j hj
    exact ⟨kv, e0, e1, e2, e3.keep (fun k hk _ => hS k hk) fun _ _ _ _ => rfl⟩
/-- a copied graph and the places of its roots, in new rows -/
def NewGI (g : List Ce) (ts : List Nat) (w : World) (e : Ending) (w' : World) : Prop :=
  ∃ gv tv, e = .returned (.tuple #[gv, tv]) ∧ OwnC w' w.heap.size (fun b => w.heap.size ≤ b) g gv ∧ Stk w' w.heap.size ts tv ∧ Below w.heap.size w w'
/-- the box of a copy while its operands are gathered in kv -/
structure CpRel (wo : World) (o n : Int) (ws : List Nat) (kv : Value) (wr : World) : Prop where
  box : wr.heap[wo.heap.size]? = some (.cells #[.int .i64 o, .int .i64 n, kv] 45)
  kids : Stk wr (wo.heap.size + 1) ws kv
  bel : Below wo.heap.size wo wr

theorem push_keep {w w5 : World} {B : Nat} {ws : List Nat} {v : Value} (hst : Stk w (B + 1) ws v) (hg : w.grownBy w5 v.ownBlock) {b : Nat} (hb : b ≤ B) (hl : b < w.heap.size) : w5.heap[b]? = w.heap[b]? :=
  hg.block b hl fun e => by have := own_lo hst e; omega
theorem cell_push {w w5 : World} {B : Nat} {ws : List Nat} {v : Value} {p : Addr} {u : Value} (h : w.cell? p = some u) (hst : Stk w (B + 1) ws v) (hg : w.grownBy w5 v.ownBlock) (hb : p.block ≤ B) : w5.cell? p = some u :=
  (World.cell?_of_block (push_keep hst hg hb (cell_lt h))).trans h
theorem frz_push {w w5 : World} {B : Nat} {ws : List Nat} {v : Value} {b : Nat} {C : Array Value} {T : TypeId} (h : w.heap[b]? = some (.cells C T)) (hst : Stk w (B + 1) ws v) (hg : w.grownBy w5 v.ownBlock) (hb : b ≤ B) (i : Nat) : w5.frozen? ⟨b, i, none⟩ = false :=
  frz_of_blk ((push_keep hst hg hb (Array.getElem?_eq_some_iff.1 h).1).trans h) i

theorem cp_step {wo wr w5 : World} {o n : Int} {ws : List Nat} {kv kv' : Value} {m : Nat} {obj : Obj} (h : CpRel wo o n ws kv wr) (hst : Stk w5 (wo.heap.size + 1) (ws ++ [m]) kv') (hg : (wr.alloc obj).drew.grownBy w5 kv.ownBlock) :
    CpRel wo o n (ws ++ [m]) kv' (w5.setCell ⟨wo.heap.size, 2, none⟩ kv') := by
  have hl := (Array.getElem?_eq_some_iff.1 h.box).1
  have hk : Stk (wr.alloc obj).drew (wo.heap.size + 1) ws kv := h.kids.alloc obj
  have hb : Below wo.heap.size wo (wr.alloc obj).drew := (h.bel.alloc h.bel.size obj).drew
  refine ⟨box_set (c := kv) ?_ _, hst.keep fun b h1 h2 => Below.heap_setCell _ _ _ _ (by show b ≠ wo.heap.size; omega), (push_below hk hb (Nat.le_succ _) hg (Nat.le_refl _)).setCell (Nat.le_refl _) _⟩
  refine (push_keep hk hg (Nat.le_refl _) (by show wo.heap.size < (wr.alloc obj).heap.size; rw [Deep.nblk_alloc]; omega)).trans ((Deep.blk_alloc_lt _ _ _ hl).trans h.box)

set_option maxRecDepth 100000 in
set_option maxHeartbeats 3200000 in
theorem l5Copy_calls (g : List Ce) (rs : List Nat) (v rv : Value) (w : World) (hk : CIn w g v) (hr : IIn w (plI rs) rv) (hg : graphB g 6 = true) (hlt : ∀ x ∈ rs, x < g.length) (h20 : rs.length ≤ 20) :
    Calls Try.prog 29 #[v, rv] w (NewGI (copyG g rs) (topsG g rs) w) := by
  have HK : Hid (CIn w g v) := hk
  have HR : Hid (IIn w (plI rs) rv) := hr
  have HG : Hid (graphB g 6 = true) := hg
  have HLT : Hid (∀ x ∈ rs, x < g.length) := hlt
  have h400 : g.length ≤ 400 := graphB_len hg
  have HVC : Hid (copyG g rs = (orderG g rs).map (cpCell g (orderG g rs))) := rfl
  have HVT : Hid (topsG g rs = rs.map (posN (orderG g rs))) := rfl
  obtain ⟨o, hoo⟩ : ∃ o, o = orderG g rs := ⟨_, rfl⟩
  have HOO : Hid (o = orderG g rs) := hoo
  have HCS : Hid (Cs g.length o) := by rw [hoo]; exact order_cs hg hlt
  have HCL : Hid (∀ a ∈ o, ∀ k ∈ kidsN g a, k ∈ o) := by rw [hoo]; exact order_closed hg hlt
  have HRT : Hid (∀ x ∈ rs, x ∈ o) := by rw [hoo]; exact order_root hg hlt
  have hol : o.length ≤ g.length := HCS.out.len
  obtain ⟨ad, cap, rfl, hl, hm, -⟩ := hk
  obtain ⟨adr, capr, rfl, hlr, hmr⟩ := pl_form hr
  unfold maxLen at hm hmr
  clear hg hlt hr hoo
  go_enter Try.func29, Try.ntmps29
  go_wp2_with fail
  refine (l5Order_calls g rs _ _ _ HK.out HR.out HG.out HLT.out h20).mono ?_
  rintro e w1 ⟨ov, rfl, hst, hb1⟩
  rw [← HOO.out] at hst
  have HS1 : Hid (IIn w1 (plI o) ov) := hst.pin
  have HB1 : Hid (Below w.heap.size w w1) := hb1
  obtain ⟨ado, capo, rfl, hlo, hmo⟩ := pl_form hst.pin
  unfold maxLen at hmo
  clear hst hb1
  go_wp2_with fail
  refine (l5Places_calls g.length o _ _ HS1.out HCS.out h400).mono ?_
  rintro e w2 ⟨bp, rfl, hbp, hpl, hb2⟩
  have HPL : Hid (PlW w2 bp g.length o) := hpl
  have hbpl : bp < w2.heap.size := hpl.lt
  have HS2 : Hid (IIn w2 (plI o) (.slice ado o.length capo)) := HS1.out.next hb2
  have HB2 : Hid (Below w.heap.size w w2) := HB1.out.trans (hb2.mono HB1.out.size)
  have HSTA : Hid (OwnC (w2.alloc (.cells #[] 45)) w2.heap.size (fun b => w2.heap.size ≤ b) ((o.take 0).map (cpCell g o)) (.slice (some ⟨w2.heap.size, 0, none⟩) 0 0)) :=
    ⟨fun i h => absurd h (by simp), [], fun _ => 0, ⟨rfl, Or.inr ⟨w2.heap.size, 0, #[], rfl, Nat.le_refl _, Deep.blk_alloc_new _ _, Nat.le_refl _, by simp [maxLen], rfl, rfl⟩⟩, fun j hj => absurd hj (by simp), fun i j hi _ => absurd hi (by simp)⟩
  clear hpl hb2
  go_wp2_with fail
  go_loopw [8, 9] (fun out i wr => ∃ k : Nat, k ≤ o.length ∧ i = .int .i64 k ∧ OwnC wr w2.heap.size (fun b => w2.heap.size ≤ b) ((o.take k).map (cpCell g o)) out ∧ Below w2.heap.size w2 wr) (fun _ i _ => o.length - (intOf i).toNat)
  case atStart => exact ⟨0, Nat.zero_le _, rfl, HSTA.out, box_below _ _⟩
  case round =>
    obtain ⟨k, hk, rfl, hown, hb⟩ := hrel
    obtain ⟨wo, rfl⟩ : ∃ wo : World, wo = wr := ⟨_, rfl⟩
    have HO : Hid (OwnC wo w2.heap.size (fun b => w2.heap.size ≤ b) ((o.take k).map (cpCell g o)) u8) := hown
    have HB : Hid (Below w2.heap.size w2 wo) := hb
    have hsz := hb.size
    have HTL : Hid (((o.take k).map (cpCell g o)).length = k) := by rw [Hid, List.length_map, List.length_take]; omega
    obtain ⟨ad8, cap8, rfl⟩ := hown.form
    rw [HTL.out]
    by_cases hlt : k < o.length
    · obtain ⟨blo, offo, a, rfl, hblo, ha, ham, dow⟩ := pl_at HS2.out k hlt
      have hal := HCS.out.2 a ham
      obtain ⟨bl, off, r2, rfl, c0w, c1w, c2w, io, iN, hkk⟩ := (HK.out.next HB2.out).at a hal
      have HLW : Hid (bl < w2.heap.size) := cell_lt c0w
      have c0 := (hb.cell (p := ⟨bl, off + a * 3, none⟩) HLW.out).trans c0w
      have c1 := (hb.cell (p := ⟨bl, off + a * 3 + 1, none⟩) HLW.out).trans c1w
      have co := (hb.cell (p := ⟨blo, offo + k, none⟩) hblo).trans dow
      have HC2 : Hid (w2.cell? ⟨bl, off + a * 3 + 2, none⟩ = some r2) := c2w
      have HD : Hid (w2.cell? ⟨blo, offo + k, none⟩ = some (.int .i64 (a : Int))) := dow
      have HKK : Hid (IIn w2 (plI (kidsN g a)) r2) := kids_pl HG.out hal hkk
      have HIO : Hid (I64 g[a].op ∧ I64 g[a].num) := ⟨io, iN⟩
      clear c0w c1w c2w dow hkk hown hb io iN
      have lo1 := cell_lt co
      have lg1 := cell_lt c0
      go_wp2_with fail
      go_region_held3 (fun w' => w'.cell? ⟨blo, offo + k, none⟩ = some (.int .i64 (a : Int)) ∧ w'.cell? ⟨bl, off + a * 3, none⟩ = some (.int .i64 g[a].op) ∧ w'.cell? ⟨bl, off + a * 3 + 1, none⟩ = some (.int .i64 g[a].num))
        (first
          | go_keep
          | exact ⟨co, c0, c1⟩
          | exact ⟨old_cell co _, old_cell c0 _, old_cell c1 _⟩)
        (first
          | fail)
      obtain ⟨ks, hks⟩ : ∃ ks, ks = kidsN g a := ⟨_, rfl⟩
      rw [← hks] at HKK
      have HKS : Hid (ks = kidsN g a) := hks
      obtain ⟨adk, capk, rfl, hlk, hmk⟩ := pl_form HKK.out
      unfold maxLen at hmk
      have hk3 : ks.length ≤ 3 := by rw [hks]; exact kidsN_len HG.out a hal
      have HKL : Hid (∀ x ∈ ks, x < g.length ∧ x ∈ o) := by rw [hks]; exact fun x hx => ⟨kidsN_lt HG.out a hal x hx, HCL.out a ham x hx⟩
      have HCP0 : Hid (CpRel wo g[a].op g[a].num ((ks.take 0).map (posN o)) (.slice none 0 0) ((wo.alloc (.cells #[.int .i64 g[a].op, .int .i64 g[a].num, .slice none 0 0] 45)).drew)) :=
        ⟨Deep.blk_alloc_new wo _, World.ownsRow_nil _ _ _ _, (box_below wo _).drew⟩
      have HA : Hid (o[k]? = some a) := ha
      clear co c0 c1 hks ha
      go_wp2_with fail
      go_loopw [11] (fun z wr => ∃ (q : Nat) (kv : Value), q ≤ ks.length ∧ z = .int .i64 q ∧ CpRel wo g[a].op g[a].num ((ks.take q).map (posN o)) kv wr) (fun z _ => ks.length - (intOf z).toNat)
      case atStart => exact ⟨0, _, Nat.zero_le _, rfl, HCP0.out⟩
      case round =>
        obtain ⟨q, kv, hq, rfl, hcp⟩ := hrel
        have HCP : Hid (CpRel wo g[a].op g[a].num ((ks.take q).map (posN o)) kv wr) := hcp
        have HBW : Hid (Below w2.heap.size w2 wr) := HB.out.trans (hcp.bel.mono hsz)
        have hsw := hcp.bel.size
        have hbl := hcp.box
        have hblt : wo.heap.size < wr.heap.size := (Array.getElem?_eq_some_iff.1 hbl).1
        have b2 := cell_of_blk hbl 2 _ rfl
        have co := (HBW.out.cell (p := ⟨blo, offo + k, none⟩) hblo).trans HD.out
        have c2 := (HBW.out.cell (p := ⟨bl, off + a * 3 + 2, none⟩) HLW.out).trans HC2.out
        have hkl : ((ks.take q).map (posN o)).length = q := by rw [List.length_map, List.length_take]; omega
        have HLQ : Hid (((ks.take q).map (posN o)).length = q) := hkl
        have HKV : Hid (Stk wr (wo.heap.size + 1) ((ks.take q).map (posN o)) kv) := hcp.kids
        obtain ⟨adv, capv, rfl⟩ : ∃ adv capv, kv = .slice adv q capv := by obtain ⟨x, y, e⟩ := hcp.kids.len; rw [hkl] at e; exact ⟨x, y, e⟩
        have HBX : Hid (wr.heap[wo.heap.size]? = some (.cells #[.int .i64 g[a].op, .int .i64 g[a].num, .slice adv q capv] 45)) := hbl
        clear hcp hbl hkl
        by_cases hltq : q < ks.length
        · obtain ⟨blk, offk, x, rfl, hblk, hx, hxm, dkw⟩ := pl_at HKK.out q hltq
          obtain ⟨hxl, hxo⟩ := HKL.out x hxm
          have dk := (HBW.out.cell (p := ⟨blk, offk + q, none⟩) hblk).trans dkw
          have dpw := HPL.out.cell (i := x) hxl
          have dp := (HBW.out.cell (p := ⟨bp, x, none⟩) hbpl).trans dpw
          rw [placeV_in hxo] at dp
          have HX : Hid (ks[q]? = some x) := hx
          obtain ⟨m, hm2⟩ : ∃ m, m = posN o x := ⟨_, rfl⟩
          have HM : Hid (m = posN o x) := hm2
          rw [← hm2] at dp
          have l1 := cell_lt co
          have l2 := cell_lt c2
          have l3 := cell_lt dk
          have l4 := cell_lt dp
          have b2a := old_cell b2 (.cells #[.int .i64 (m : Int)] 3)
          have HBX1 : Hid ((wr.alloc (.cells #[.int .i64 (m : Int)] 3)).drew.heap[wo.heap.size]? = some (.cells #[.int .i64 g[a].op, .int .i64 g[a].num, .slice adv q capv] 45)) := (Deep.blk_alloc_lt _ _ _ hblt).trans HBX.out
          have HKV1 : Hid (Stk (wr.alloc (.cells #[.int .i64 (m : Int)] 3)).drew (wo.heap.size + 1) ((ks.take q).map (posN o)) (.slice adv q capv)) := HKV.out.alloc _
          have HK1 : Hid (IIn (wr.alloc (.cells #[.int .i64 (m : Int)] 3)).drew [(m : Int)] (.slice (some ⟨wr.heap.size, 0, none⟩) 1 1)) := one_in wr m
          have HLO1 : Hid (wo.heap.size + 1 ≤ (wr.alloc (.cells #[.int .i64 (m : Int)] 3)).drew.heap.size) := by show _ ≤ (wr.alloc _).heap.size; rw [Deep.nblk_alloc]; omega
          have b2b : (wr.alloc (.cells #[.int .i64 (m : Int)] 3)).drew.cell? ⟨wo.heap.size, 2, none⟩ = _ := b2a
          have co1 : (wr.alloc (.cells #[.int .i64 (m : Int)] 3)).drew.cell? ⟨blo, offo + k, none⟩ = _ := old_cell co (.cells #[.int .i64 (m : Int)] 3)
          have c21 : (wr.alloc (.cells #[.int .i64 (m : Int)] 3)).drew.cell? ⟨bl, off + a * 3 + 2, none⟩ = _ := old_cell c2 (.cells #[.int .i64 (m : Int)] 3)
          have dk1 : (wr.alloc (.cells #[.int .i64 (m : Int)] 3)).drew.cell? ⟨blk, offk + q, none⟩ = _ := old_cell dk (.cells #[.int .i64 (m : Int)] 3)
          have dp1 : (wr.alloc (.cells #[.int .i64 (m : Int)] 3)).drew.cell? ⟨bp, x, none⟩ = _ := old_cell dp (.cells #[.int .i64 (m : Int)] 3)
          have HSS := mkHid (And.intro b2b (And.intro co1 (And.intro c21 (And.intro dk1 dp1))))
          have b2c : wr.drew.cell? ⟨wo.heap.size, 2, none⟩ = _ := b2
          clear hx hxm dkw dpw hm2
          go_wp2_with fail
          go_region_law (first
              | (refine step_push (by rfl) (.tmp 59) (.tmp 74) (by rfl) (wo.heap.size + 1) ((ks.take q).map (posN o)) [m] (.slice adv q capv) (.slice (some ⟨wr.heap.size, 0, none⟩) 1 1) (by rfl) HKV1.out (by rfl) HK1.out rfl HLO1.out (by rw [HLQ.out]; simp; omega) ?_; intro v5 w5 hst5 hg5; go_must (obtain ⟨ad6, cap6, rfl⟩ := stk_form hst5 HLQ.out); have HST5 := mkHid hst5; have HG5 := mkHid hg5; go_must (have s5 := cell_push HSS.out.1 HKV1.out hg5 (Nat.le_refl _); have s1 := cell_push HSS.out.2.1 HKV1.out hg5 (by show blo ≤ _; omega); have s2 := cell_push HSS.out.2.2.1 HKV1.out hg5 (by show bl ≤ _; omega); have s3 := cell_push HSS.out.2.2.2.1 HKV1.out hg5 (by show blk ≤ _; omega); have s4 := cell_push HSS.out.2.2.2.2 HKV1.out hg5 (by show bp ≤ _; omega); have sf := frz_push HBX1.out HKV1.out hg5 (Nat.le_refl _) 2); clear hst5 hg5))
          all_goals
            have HCP2 : Hid (CpRel wo g[a].op g[a].num ((ks.take (q + 1)).map (posN o)) (.slice ad6 (q + 1) cap6) (w5.setCell ⟨wo.heap.size, 2, none⟩ (.slice ad6 (q + 1) cap6))) := by
              rw [Hid, take_snoc HX.out, List.map_append, List.map_singleton, ← HM.out]
              exact cp_step HCP.out HST5.out HG5.out
            clear s1 s2 s3 s4 s5 sf
            go_wp2_with fail
            go_roundw
            case rel => exact ⟨q + 1, _, by omega, by go_num, HCP2.out⟩
            case measure => simp [intOf]; omega
        · have hqe : q = ks.length := by omega
          have HWS : Hid ((ks.take q).map (posN o) = (kidsN g a).map (posN o)) := by rw [Hid, hqe, List.take_length, HKS.out]
          have r0 := cell_of_blk HBX.out 0 _ rfl
          have r1 := cell_of_blk HBX.out 1 _ rfl
          obtain ⟨xs, hx⟩ := HO.out.row
          rw [HTL.out] at hx
          have HX : Hid (wo.ownsRow w2.heap.size 45 3 (.slice ad8 k cap8) k xs) := hx
          have HX1 : Hid ((wr.alloc (.cells #[.int .i64 g[a].op, .int .i64 g[a].num, .slice adv q capv] 45)).ownsRow w2.heap.size 45 3 (.slice ad8 k cap8) k xs) := copy_own hx HCP.out.bel _
          obtain ⟨iC, zC, hII⟩ := infoC1
          have HII : Hid (Try.prog.info? 45 = some iC ∧ iC.zero = some zC ∧ iC.size = 3 ∧ iC.bytes = 40 ∧ zC.cells.size = 3) := hII
          have HBO := HCP.out.bel
          clear hx hII hqe
          go_wp2_with (at_builtin; go_must (refine wpList_append_where _ rfl _ _ 25 rfl w2.heap.size 45 iC zC 3 40 Try.underlying25 HII.out.1 HII.out.2.1 HII.out.2.2.1 HII.out.2.2.2.1 HII.out.2.2.2.2 (by decide) (.slice ad8 k cap8) k xs rfl HX1.out ⟨wr.heap.size, 0, none⟩ 1 1 [.int .i64 g[a].op, .int .i64 g[a].num, .slice adv q capv] rfl rfl (news3c wr _ _ _) (by simp [Value.oneCell']) (by unfold maxLen; omega) (by omega) (by rw [Deep.nblk_alloc]; omega) (by omega) ?_); go_must (intro v' w5 hown hg5 hw5); go_must (have HOWN := mkHid hown); go_must (have HG5 := mkHid hg5); clear hown hg5 hw5)
          have HNEW : Hid (OwnC w5 w2.heap.size (fun b => w2.heap.size ≤ b) ((o.take (k + 1)).map (cpCell g o)) v') := by
            have h := copy_push (G := (o.take k).map (cpCell g o)) (ws := (ks.take q).map (posN o)) (o := g[a].op) (n := g[a].num) HO.out hsz HBO (HCP.out.kids.lower (Nat.le_succ _)) (.cells #[.int .i64 g[a].op, .int .i64 g[a].num, .slice adv q capv] 45) (by rw [HTL.out]; exact HX1.out) (by rw [HTL.out]; exact HOWN.out) (by rw [HTL.out]; exact HG5.out) HIO.out.1 HIO.out.2
            rw [Hid, take_snoc HA.out, List.map_append, List.map_singleton]
            have e : cpCell g o a = ⟨g[a].op, g[a].num, ((ks.take q).map (posN o)).map fun (x : Nat) => (x : Int)⟩ := by
              rw [HWS.out, List.map_map]
              unfold cpCell opAt numAt
              rw [getD_at _ _ _ hal]
              rfl
            rw [e]; exact h
          have HB5 : Hid (Below w2.heap.size w2 w5) := copy_below3 HB.out HBO HX.out HG5.out
          obtain ⟨adn, capn, rfl⟩ := HNEW.out.form
          go_roundw
          case rel => exact ⟨k + 1, by omega, by go_num, HNEW.out, HB5.out⟩
          case measure => simp [intOf]; omega
    · have hke : k = o.length := by omega
      have HF : Hid (OwnC wo w2.heap.size (fun b => w2.heap.size ≤ b) (o.map (cpCell g o)) (.slice ad8 k cap8)) := by
        have h := HO.out
        rw [HTL.out, hke, List.take_length] at h
        rw [Hid, hke]; exact h
      have HS0 : Hid (Stk (wo.alloc (.cells #[] 3)) wo.heap.size ((rs.take 0).map (posN o)) (.slice (some ⟨wo.heap.size, 0, none⟩) 0 0)) := stk_zero (Deep.blk_alloc_new wo _) (Nat.le_refl _)
      clear hown hb hke
      go_wp2_with fail
      go_loopw [12, 13] (fun top i wr => ∃ j : Nat, j ≤ rs.length ∧ i = .int .i64 j ∧ Stk wr wo.heap.size ((rs.take j).map (posN o)) top ∧ Below wo.heap.size wo wr) (fun _ i _ => rs.length - (intOf i).toNat)
      case atStart => exact ⟨0, Nat.zero_le _, rfl, HS0.out, box_below _ _⟩
      case round =>
        obtain ⟨j, hj, rfl, hst, hb⟩ := hrel
        have HB3 : Hid (Below wo.heap.size wo wr) := hb
        have HBW : Hid (Below w2.heap.size w2 wr) := HB.out.trans (hb.mono hsz)
        have hsw := hb.size
        have hjl : ((rs.take j).map (posN o)).length = j := by rw [List.length_map, List.length_take]; omega
        have HJL : Hid (((rs.take j).map (posN o)).length = j) := hjl
        have HS : Hid (Stk wr wo.heap.size ((rs.take j).map (posN o)) u12) := hst
        obtain ⟨adt, capt, rfl⟩ : ∃ ad cap, u12 = .slice ad j cap := by obtain ⟨x, y, e⟩ := hst.len; rw [hjl] at e; exact ⟨x, y, e⟩
        clear hst hb hjl
        by_cases hltj : j < rs.length
        · obtain ⟨bl, off, x, rfl, hbl, hx, hxm, d0w⟩ := pl_at (HR.out.next HB2.out) j hltj
          have hxl := HLT.out x hxm
          have d0 := (HBW.out.cell (p := ⟨bl, off + j, none⟩) hbl).trans d0w
          have dpw := HPL.out.cell (i := x) hxl
          have dp := (HBW.out.cell (p := ⟨bp, x, none⟩) hbpl).trans dpw
          rw [placeV_in (HRT.out x hxm)] at dp
          have HX : Hid (rs[j]? = some x) := hx
          obtain ⟨m, hm2⟩ : ∃ m, m = posN o x := ⟨_, rfl⟩
          have HM : Hid (m = posN o x) := hm2
          rw [← hm2] at dp
          have HS3 : Hid (Stk (wr.alloc (.cells #[.int .i64 (m : Int)] 3)) wo.heap.size ((rs.take j).map (posN o)) (.slice adt j capt)) := HS.out.alloc _
          have HK3 : Hid (IIn (wr.alloc (.cells #[.int .i64 (m : Int)] 3)) [(m : Int)] (.slice (some ⟨wr.heap.size, 0, none⟩) 1 1)) := one_in wr m
          have HLO : Hid (wo.heap.size ≤ (wr.alloc (.cells #[.int .i64 (m : Int)] 3)).heap.size) := by rw [Hid, Deep.nblk_alloc]; omega
          clear hx hxm d0w dpw hm2
          go_wp2_with (at_builtin; go_must (refine wpList_push rfl _ _ rfl _ wo.heap.size ((rs.take j).map (posN o)) [m] (.slice adt j capt) (.slice (some ⟨wr.heap.size, 0, none⟩) 1 1) rfl HS3.out rfl HK3.out rfl HLO.out (by rw [HJL.out]; simp; omega) ?_); go_must (intro v' w5 hst5 hg5); go_must (have HS5 := mkHid hst5); go_must (have HB5 : Hid (Below wo.heap.size wo w5) := push_below HS3.out (HB3.out.alloc hsw _) (Nat.le_refl _) hg5 (Nat.le_refl _)); clear hst5 hg5 d0 dp)
          have HS6 : Hid (Stk w5 wo.heap.size ((rs.take (j + 1)).map (posN o)) v') := by
            rw [Hid, take_snoc HX.out, List.map_append, List.map_singleton, ← HM.out]; exact HS5.out
          go_roundw
          case rel => first | exact ⟨j + 1, by omega, by go_num, HS6.out, HB5.out⟩ | ((repeat apply Exists.intro); exact ⟨⟨j + 1, by omega, by go_num, HS6.out, HB5.out⟩, rfl⟩)
          case measure => simp [intOf]; omega
        · have hje : j = rs.length := by omega
          have HT : Hid (Stk wr wo.heap.size (rs.map (posN o)) (.slice adt j capt)) := by
            have h := HS.out
            rw [hje, List.take_length] at h
            rw [hje]; exact h
          have HG2 : Hid (OwnC wr w2.heap.size (fun b => w2.heap.size ≤ b) (o.map (cpCell g o)) (.slice ad8 k cap8)) := HF.out.next (fun _ h _ => h) (fun b _ hb => HB3.out.block b hb) (fun b _ hb => HB3.out.block b hb)
          clear hje
          go_wp2_with fail
          go_ret2
          rw [HVC.out, HVT.out, ← HOO.out]
          exact ⟨_, _, rfl, HG2.out.lower HB2.out.size fun b hb => Nat.le_trans HB2.out.size hb, HT.out.lower (Nat.le_trans HB2.out.size hsz), HB2.out.trans (HBW.out.mono HB2.out.size)⟩
end Go.Proofs.Ytjpjikfmdaejeaa
/-
  THE MODEL's l5Right: a graph and some of its cells.
-/
namespace Go.Proofs.Ytjpjikfmdaejeaa
set_option linter.unusedVariables false
set_option linter.unusedSimpArgs false
open Go.RowKit

theorem root_noG {g : List Ce} {rs : List Int} (h : graphB g 6 = false) : rootB g rs = false := by unfold rootB; rw [h]; rfl
theorem root_noL {g : List Ce} {rs : List Int} (h : 20 < rs.length) : rootB g rs = false := by
  unfold rootB; rw [decide_eq_false (by omega)]; simp
theorem root_noA {g : List Ce} {rs : List Int} (h : rs.all (isAt g.length) = false) : rootB g rs = false := by
  unfold rootB; rw [h]; simp

set_option maxHeartbeats 800000 in
theorem l5Right_calls (g : List Ce) (rs : List Int) (v rv : Value) (w : World) (hk : CIn w g v) (hr : IIn w rs rv) :
    Calls Try.prog 28 #[v, rv] w fun e w' => e = .returned (.bool (rootB g rs)) ∧ Below w.heap.size w w' := by
  have HK : Hid (CIn w g v) := hk
  have HR : Hid (IIn w rs rv) := hr
  obtain ⟨ad, cap, rfl, hl, hm, -⟩ := hk
  obtain ⟨adr, capr, rfl, hlr, hmr, -⟩ := hr
  unfold maxLen at hm hmr
  go_enter Try.func28, Try.ntmps28
  go_wp2_with fail
  refine (specGraph_calls g 6 _ _ HK.out).mono ?_
  rintro e w1 ⟨rfl, hb1⟩
  have HB1 : Hid (Below w.heap.size w w1) := hb1
  clear hb1
  cases hg : graphB g 6 with
  | false =>
    have HV : Hid (rootB g rs = false) := root_noG hg
    clear hg
    go_wp2_with fail
    go_ret
    exact ⟨ret_bool HV.out.symm, HB1.out⟩
  | true =>
    have HG : Hid (graphB g 6 = true) := hg
    clear hg
    by_cases h20 : (20 : Int) < rs.length
    · have HV : Hid (rootB g rs = false) := root_noL (by omega)
      go_wp2_with fail
      go_ret
      exact ⟨ret_bool HV.out.symm, HB1.out⟩
    have H20 : Hid (rs.length ≤ 20) := by unfold Hid; omega
    go_wp2_with fail
    go_loopw [5] (fun i wr => ∃ k : Nat, k ≤ rs.length ∧ i = .int .i64 k ∧ (rs.take k).all (isAt g.length) = true ∧ Below w.heap.size w wr) (fun i _ => rs.length - (intOf i).toNat)
    case atStart => exact ⟨0, Nat.zero_le _, rfl, by simp, HB1.out⟩
    case round =>
      obtain ⟨k, hk, rfl, hall, hb⟩ := hrel
      have HA : Hid ((rs.take k).all (isAt g.length) = true) := hall
      have HB : Hid (Below w.heap.size w wr) := hb
      clear hall hb
      by_cases hlt : k < rs.length
      · obtain ⟨bl, off, rfl, d0⟩ := (HR.out.next HB.out).at k hlt
        by_cases h0 : rs[k] < 0
        · have HV : Hid (rootB g rs = false) := root_noA (allI_false_of _ _ k hlt (isAt_lo h0))
          go_wp2_with fail
          go_ret
          exact ⟨ret_bool HV.out.symm, HB.out⟩
        by_cases h1 : (g.length : Int) ≤ rs[k]
        · have HV : Hid (rootB g rs = false) := root_noA (allI_false_of _ _ k hlt (isAt_hi (by omega)))
          go_wp2_with fail
          go_ret
          exact ⟨ret_bool HV.out.symm, HB.out⟩
        have HA2 : Hid ((rs.take (k + 1)).all (isAt g.length) = true) := by rw [Hid, allI_take_succ _ _ _ hlt, HA.out, isAt_in (by omega) (by omega)]; rfl
        go_wp2_with fail
        go_roundw
        case rel => exact ⟨k + 1, by omega, by go_num, HA2.out, HB.out⟩
        case measure => simp [intOf]; omega
      · have hke : rs.length = k := by omega
        have HV : Hid (rootB g rs = true) := rootB_iff.2 ⟨HG.out, H20.out, all_end HA.out hke⟩
        clear hke
        go_wp2_with fail
        go_ret
        exact ⟨ret_bool HV.out.symm, HB.out⟩
end Go.Proofs.Ytjpjikfmdaejeaa
