/-
  THE LAWS' OWN MARKS IN A GRAPH (markCellS): only the graph's own blocks are written.
-/
import Derived.Test.YthlblgibgfledaaMgExactAddExpr1
import Derived.Test.YthlblgibgfledaaProg
import Derived.Deep.RegionLaw
import Derived.Deep.RegionLawGrows
import Derived.Deep.DeepMust
import Derived.Laws.AppendOwn
import Derived.Laws.AppendOwnNone
namespace Go.Proofs.Ythlblgibgfledaa
set_option linter.unusedVariables false
set_option linter.unusedSimpArgs false
open Go.RowKit

/-- a row of ints, whatever they are -/
def IShape (w : World) (fp : List Nat) (n : Nat) (v : Value) : Prop :=
  ∃ ad cap, v = .slice ad n cap ∧ n ≤ cap ∧ cap ≤ maxLen ∧ (n = 0 ∨ ∃ g f, ad = some ⟨g, 0, none⟩ ∧ g ∈ fp ∧ w.rowIs g 3 cap f)
/-- a row of cells, whatever their numbers are -/
def CShape (w : World) (fp : List Nat) (ns : List Nat) (v : Value) : Prop :=
  ∃ ad cap, v = .slice ad ns.length cap ∧ ns.length ≤ cap ∧ cap ≤ maxLen ∧ (ns = [] ∨ ∃ b f, ad = some ⟨b, 0, none⟩ ∧ b ∈ fp ∧ w.rowIs b 64 (cap * 3) f ∧ ∀ i (h : i < ns.length), IShape w fp ns[i] (f (i * 3 + 2)))
/-- shapes stay, and nothing but fp is written -/
structure Keeps (fp : List Nat) (w w' : World) : Prop where
  ints : ∀ n v, IShape w fp n v → IShape w' fp n v
  rows : ∀ b c f, w.rowIs b 64 c f → w'.rowIs b 64 c f
  but : ButL fp w w'
theorem Keeps.refl (fp : List Nat) (w : World) : Keeps fp w w := ⟨fun _ _ h => h, fun _ _ _ h => h, ButL.refl _ _⟩
theorem Keeps.trans {fp : List Nat} {a b c : World} (h : Keeps fp a b) (k : Keeps fp b c) : Keeps fp a c := ⟨fun n v x => k.ints n v (h.ints n v x), fun g c f x => k.rows g c f (h.rows g c f x), h.but.trans k.but⟩
theorem rows_part {w : World} {b g n m : Nat} {f f' : Nat → Value} (h : w.rowIs b 64 n f) (h' : w.rowIs g 3 m f') : b ≠ g := by
  rintro rfl
  obtain ⟨c, h1, -⟩ := h
  obtain ⟨c', h2, -⟩ := h'
  rw [h1] at h2
  simp at h2
theorem setCell_other (w : World) {b k : Nat} (o : Nat) (u : Value) (h : k ≠ b) : (w.setCell ⟨b, o, none⟩ u).heap[k]? = w.heap[k]? := Below.heap_setCell _ _ _ _ (fun e => h e)
/-- a store into a row of ints -/
theorem Keeps.int {fp : List Nat} {w : World} {g cap : Nat} {f : Nat → Value} (hg : g ∈ fp) (hr : w.rowIs g 3 cap f) (j : Nat) (u : Value) : Keeps fp w (w.setCell ⟨g, j, none⟩ u) where
  ints n v h := by
    obtain ⟨ad, cap2, e, l1, l2, h⟩ := h
    refine ⟨ad, cap2, e, l1, l2, h.imp id ?_⟩
    rintro ⟨g2, f2, rfl, hg2, hr2⟩
    by_cases hgg : g2 = g
    · subst hgg; exact ⟨g2, _, rfl, hg2, hr2.set j u⟩
    · exact ⟨g2, f2, rfl, hg2, hr2.of_block (setCell_other w j u hgg)⟩
  rows b c f2 h := h.of_block (setCell_other w j u (rows_part h hr))
  but := ButL.setCell w g j hg u

set_option maxHeartbeats 400000 in
theorem markI_calls (n : Nat) (fp : List Nat) (v : Value) (k : Int) (w : World) (hc : IShape w fp n v) (h0 : 0 ≤ k) (h1 : k + (n : Int) ≤ 1152921504606846976) :
    Calls Try.prog 18 #[v, .int .i64 k] w fun e w' => e = .returned (.int .i64 (k + (n : Int))) ∧ Keeps fp w w' := by
  have HC : Hid (IShape w fp n v) := hc
  obtain ⟨ad, cap, rfl, hl, hm, -⟩ := hc
  unfold maxLen at hm
  go_enter Try.func18, Try.ntmps18
  go_wp2_with fail
  go_loopw [1, 5] (fun q i wr => ∃ j : Nat, j ≤ n ∧ i = .int .i64 j ∧ q = .int .i64 (k + j) ∧ Keeps fp w wr) (fun _ i _ => n - (intOf i).toNat)
  case atStart => exact ⟨0, Nat.zero_le _, rfl, by simp, Keeps.refl _ _⟩
  case round =>
    obtain ⟨j, hj, rfl, rfl, hr⟩ := hrel
    have HR : Hid (Keeps fp w wr) := hr
    by_cases hlt : j < n
    · obtain ⟨_, _, he, -, -, hrow⟩ := hr.ints _ _ HC.out
      cases he
      rcases hrow with rfl | ⟨g, f, rfl, hg, hrow⟩
      · simp at hlt
      have HK : Hid (Keeps fp w (wr.setCell ⟨g, j, none⟩ (.int .i64 (k + (j : Int))))) := HR.out.trans (Keeps.int hg hrow j _)
      have c0 := hrow.cell (i := j) (by omega)
      have f0 := hrow.frozen j
      clear hr hrow
      go_wp2_with fail
      go_roundw
      case rel => exact ⟨j + 1, by omega, by go_num, congrArg (Value.int .i64) (by push_cast; omega), HK.out⟩
      case measure => simp [intOf]; omega
    · have hje : j = n := by omega
      have HJ : Hid (k + (n : Int) = k + (j : Int)) := by rw [hje]; rfl
      clear hje hr
      go_wp2_with fail
      go_ret
      exact ⟨ret_int HJ.out.symm, HR.out⟩

theorem CShape.keep {fp : List Nat} {w w' : World} {ns : List Nat} {v : Value} (h : CShape w fp ns v) (k : Keeps fp w w') : CShape w' fp ns v := by
  obtain ⟨ad, cap, e, l1, l2, h⟩ := h
  refine ⟨ad, cap, e, l1, l2, h.imp id ?_⟩
  rintro ⟨b, f, rfl, hb, hr, hi⟩
  exact ⟨b, f, rfl, hb, k.rows _ _ _ hr, fun i h => k.ints _ _ (hi i h)⟩
theorem CShape.blocks {fp : List Nat} {w w' : World} {ns : List Nat} {v : Value} (h : CShape w fp ns v) (k : ∀ b ∈ fp, w'.heap[b]? = w.heap[b]?) : CShape w' fp ns v := by
  obtain ⟨ad, cap, e, l1, l2, h⟩ := h
  refine ⟨ad, cap, e, l1, l2, h.imp id ?_⟩
  rintro ⟨b, f, rfl, hb, hr, hi⟩
  refine ⟨b, f, rfl, hb, hr.of_block (k b hb), fun i h => ?_⟩
  obtain ⟨ad, cap, e, l1, l2, h⟩ := hi i h
  refine ⟨ad, cap, e, l1, l2, h.imp id ?_⟩
  rintro ⟨g, f, rfl, hg, hr⟩
  exact ⟨g, f, rfl, hg, hr.of_block (k g hg)⟩
/-- a store into the row of cells, not at an operand -/
theorem CShape.store {fp : List Nat} {w : World} {ns : List Nat} {b n cap : Nat} (h : CShape w fp ns (.slice (some ⟨b, 0, none⟩) n cap)) (hn : 0 < ns.length) (i m : Nat) (hm : m < 2) (u : Value) :
    CShape (w.setCell ⟨b, i * 3 + m, none⟩ u) fp ns (.slice (some ⟨b, 0, none⟩) n cap) ∧ ButL fp w (w.setCell ⟨b, i * 3 + m, none⟩ u) := by
  obtain ⟨ad, cap2, e, l1, l2, h⟩ := h
  simp only [Value.slice.injEq] at e
  obtain ⟨rfl, rfl, rfl⟩ := e
  rcases h with rfl | ⟨b2, f, e, hb, hr, hi⟩
  · simp at hn
  simp only [Option.some.injEq, Addr.mk.injEq, and_true] at e
  subst e
  refine ⟨⟨_, cap, rfl, l1, l2, Or.inr ⟨b, _, rfl, hb, hr.set (i * 3 + m) u, fun j hj => ?_⟩⟩, ButL.setCell w b _ hb u⟩
  have hne : ¬ (j * 3 + 2 = i * 3 + m) := by omega
  simp only [if_neg hne]
  obtain ⟨ad, cap3, e, l3, l4, h⟩ := hi j hj
  refine ⟨ad, cap3, e, l3, l4, h.imp id ?_⟩
  rintro ⟨g2, f2, rfl, hg2, hr2⟩
  exact ⟨g2, f2, rfl, hg2, hr2.of_block (setCell_other w _ u (rows_part hr hr2).symm)⟩

def sumN' (l : List Nat) : Nat := l.sum
theorem sumN_take_succ (l : List Nat) (i : Nat) (h : i < l.length) : sumN' (l.take (i + 1)) = sumN' (l.take i) + l[i] := by
  unfold sumN'; rw [List.take_succ_eq_append_getElem h, List.sum_append]; simp
theorem sumN_take_le (l : List Nat) (i : Nat) : sumN' (l.take i) ≤ sumN' l := by
  unfold sumN'
  conv => rhs; rw [← List.take_append_drop i l, List.sum_append]
  omega

set_option maxRecDepth 100000 in
set_option maxHeartbeats 1600000 in
theorem markCells_calls (ns : List Nat) (fp : List Nat) (v : Value) (k : Int) (w : World) (hc : CShape w fp ns v) (h0 : 0 ≤ k) (h1 : k ≤ 576460752303423488) (hs : ns.length + sumN' ns ≤ 1048576) :
    Calls Try.prog 16 #[v, .int .i64 k] w fun e w' => e = .returned (.int .i64 (k + (2 * ns.length + sumN' ns : Nat))) ∧ ButL fp w w' := by
  have HC : Hid (CShape w fp ns v) := hc
  obtain ⟨ad, cap, rfl, hl, hm, -⟩ := hc
  unfold maxLen at hm
  go_enter Try.func16, Try.ntmps16
  go_wp2_with fail
  go_loopw [1, 5] (fun qv i wr => ∃ (j : Nat) (q : Int), j ≤ ns.length ∧ i = .int .i64 j ∧ qv = .int .i64 q ∧ Hid (q = k + ((2 * j + sumN' (ns.take j) : Nat) : Int)) ∧ CShape wr fp ns (.slice ad ns.length cap) ∧ ButL fp w wr) (fun _ i _ => ns.length - (intOf i).toNat)
  case atStart => exact ⟨0, k, Nat.zero_le _, rfl, rfl, by simp [Hid, sumN'], HC.out, ButL.refl _ _⟩
  case round =>
    obtain ⟨j, q, hj, rfl, rfl, HQ, hsh, hbw⟩ := hrel
    have HB : Hid (ButL fp w wr) := hbw
    clear hbw
    by_cases hlt : j < ns.length
    · have e1 := sumN_take_succ ns j hlt
      have e2 := sumN_take_le ns (j + 1)
      have HE : Hid (sumN' (ns.take (j + 1)) = sumN' (ns.take j) + ns[j]) := e1
      obtain ⟨b, rfl⟩ : ∃ b, ad = some ⟨b, 0, none⟩ := by
        obtain ⟨_, _, he, -, -, hr⟩ := hsh
        cases he
        rcases hr with hnil | ⟨b, f, rfl, -⟩
        · rw [hnil] at hlt; simp at hlt
        · exact ⟨b, rfl⟩
      have hq := HQ.out
      have hq0 : 0 ≤ q := by omega
      have hq1 : q + 2 + (ns[j] : Int) ≤ 1152921504606846976 := by omega
      clear hq
      have s1 := hsh.store (by omega) j 0 (by omega) (.int .i64 q)
      have s2 := s1.1.store (by omega) j 1 (by omega) (.int .i64 (q + 1))
      simp only [Nat.add_zero] at s1 s2
      obtain ⟨w2, hw2⟩ : ∃ w2 : World, w2 = (wr.setCell ⟨b, j * 3, none⟩ (.int .i64 q)).setCell ⟨b, j * 3 + 1, none⟩ (.int .i64 (q + 1)) := ⟨_, rfl⟩
      have HB2 : Hid (ButL fp w w2) := by rw [hw2]; exact (HB.out.trans s1.2).trans s2.2
      have HS2 : Hid (CShape w2 fp ns (.slice (some ⟨b, 0, none⟩) ns.length cap)) := by rw [hw2]; exact s2.1
      obtain ⟨_, _, he, -, -, hr⟩ := hsh
      cases he
      rcases hr with hnil | ⟨b', f, e, hb, hrow, hi⟩
      · rw [hnil] at hlt; simp at hlt
      simp only [Option.some.injEq, Addr.mk.injEq, and_true] at e
      subst e
      have c0 := hrow.cell (i := j * 3) (by omega)
      have f0 := hrow.frozen (j * 3)
      have r1 := hrow.set (j * 3) (.int .i64 q)
      have c1 := r1.cell (i := j * 3 + 1) (by omega)
      have f1 := r1.frozen (j * 3 + 1)
      have r2 := r1.set (j * 3 + 1) (.int .i64 (q + 1))
      have c2 := r2.cell (i := j * 3 + 2) (by omega)
      simp only [if_neg (show ¬ (j * 3 + 2 = j * 3 + 1) by omega), if_neg (show ¬ (j * 3 + 2 = j * 3) by omega), if_neg (show ¬ (j * 3 + 1 = j * 3) by omega)] at c1 c2
      obtain ⟨adk, capk, hfk, -, -, -⟩ := id (hi j hlt)
      have HI : Hid (IShape w2 fp ns[j] (f (j * 3 + 2))) := by
        obtain ⟨_, _, he2, -, -, hr2⟩ := HS2.out
        cases he2
        rcases hr2 with hnil | ⟨b', f', e, hb', hrow', hi'⟩
        · rw [hnil] at hlt; simp at hlt
        simp only [Option.some.injEq, Addr.mk.injEq, and_true] at e
        subst e
        have c3 := hrow'.cell (i := j * 3 + 2) (by omega)
        rw [hw2] at c3
        rw [c2] at c3
        simp only [Option.some.injEq] at c3
        rw [c3]
        exact hi' j hlt
      rw [hfk] at HI c2
      have HW2 : Hid (w2 = (wr.setCell ⟨b, j * 3, none⟩ (.int .i64 q)).setCell ⟨b, j * 3 + 1, none⟩ (.int .i64 (q + 1))) := hw2
      clear s1 s2 hrow r1 r2 hi hfk e1 hw2
      go_wp2_with fail
      refine (markI_calls ns[j] fp _ _ _ (by rw [← HW2.out]; exact HI.out) (by omega) (by omega)).mono ?_
      rintro e w3 ⟨rfl, hk3⟩
      rw [← HW2.out] at hk3
      have HS3 : Hid (CShape w3 fp ns (.slice (some ⟨b, 0, none⟩) ns.length cap)) := HS2.out.keep hk3
      have HB3 : Hid (ButL fp w w3) := HB2.out.trans hk3.but
      clear hk3
      go_wp2_with fail
      go_roundw
      case rel => exact ⟨j + 1, _, by omega, by go_num, rfl, by have h1 := HE.out; have h2 := HQ.out; unfold Hid; rw [h2, h1]; push_cast; omega, HS3.out, HB3.out⟩
      case measure => simp [intOf]; omega
    · have hje : j = ns.length := by omega
      have HJ : Hid (k + ((2 * ns.length + sumN' ns : Nat) : Int) = q) := by rw [Hid, HQ.out, hje, List.take_length]
      clear hje hsh
      go_wp2_with fail
      go_ret
      exact ⟨ret_int HJ.out.symm, HB.out⟩
end Go.Proofs.Ythlblgibgfledaa
/-
  THE MARKS IN SLICES OF INTS: the laws' markIntS and heldIntS.
-/
namespace Go.Proofs.Ythlblgibgfledaa
set_option linter.unusedVariables false
set_option linter.unusedSimpArgs false
open Go.RowKit

/-- the numbers from k on -/
def upFrom (k : Int) : Nat → List Int
  | 0 => []
  | n + 1 => k :: upFrom (k + 1) n
theorem upFrom_length : ∀ (n : Nat) (k : Int), (upFrom k n).length = n
  | 0, _ => rfl
  | n + 1, k => by simp [upFrom, upFrom_length n]
theorem upFrom_get : ∀ (n : Nat) (k : Int) (i : Nat) (h : i < (upFrom k n).length), (upFrom k n)[i] = k + i
  | 0, _, _, h => by simp [upFrom] at h
  | n + 1, k, 0, _ => by simp [upFrom]
  | n + 1, k, i + 1, h => by
    have := upFrom_get n (k + 1) i (by simpa [upFrom] using h)
    simp only [upFrom, List.getElem_cons_succ, this]
    push_cast
    omega

/-- what holds behind j rounds of the marking -/
def IMRel (w : World) (lo : Nat) (xs : List Int) (k : Int) (ad : Option Addr) (cap j : Nat) (wr : World) : Prop :=
  Below lo w wr ∧ (xs = [] ∨ ∃ g f, ad = some ⟨g, 0, none⟩ ∧ lo ≤ g ∧ wr.rowIs g 3 cap f ∧ xs.length ≤ cap ∧ ∀ i, i < j → f i = .int .i64 (k + (i : Int)))
theorem IMRel.start {w : World} {lo : Nat} {xs : List Int} {k : Int} {ad : Option Addr} {cap : Nat} (h : IntRow w lo xs (.slice ad xs.length cap)) : IMRel w lo xs k ad cap 0 w := by
  obtain ⟨_, _, he, l1, -, h⟩ := h
  cases he
  refine ⟨Below.refl _ _, h.imp id ?_⟩
  rintro ⟨g, f, rfl, hg, hr, -⟩
  exact ⟨g, f, rfl, hg, hr, l1, fun i hi => absurd hi (by omega)⟩
theorem IMRel.step {w wr : World} {lo : Nat} {xs : List Int} {k : Int} {g cap j : Nat} (h : IMRel w lo xs k (some ⟨g, 0, none⟩) cap j wr) (hj : j < xs.length) : IMRel w lo xs k (some ⟨g, 0, none⟩) cap (j + 1) (wr.setCell ⟨g, j, none⟩ (.int .i64 (k + (j : Int)))) := by
  obtain ⟨hb, h⟩ := h
  rcases h with rfl | ⟨g', f, e, hg, hr, hl, hf⟩
  · simp at hj
  · simp only [Option.some.injEq, Addr.mk.injEq, and_true] at e
    subst e
    refine ⟨hb.setCell hg _, Or.inr ⟨g, _, rfl, hg, hr.set j _, hl, fun i hi => ?_⟩⟩
    by_cases hij : i = j
    · subst hij; simp
    · simp [hij, hf i (by omega)]
theorem IMRel.done {w wr : World} {lo : Nat} {xs : List Int} {k : Int} {ad : Option Addr} {cap : Nat} (h : IMRel w lo xs k ad cap xs.length wr) (hm : cap ≤ maxLen) (hl : xs.length ≤ cap) : IntRow wr lo (upFrom k xs.length) (.slice ad xs.length cap) ∧ Below lo w wr := by
  obtain ⟨hb, h⟩ := h
  refine ⟨⟨ad, cap, by rw [upFrom_length], by rw [upFrom_length]; exact hl, hm, ?_⟩, hb⟩
  rcases h with rfl | ⟨g, f, rfl, hg, hr, -, hf⟩
  · exact Or.inl rfl
  · refine Or.inr ⟨g, f, rfl, hg, hr, fun i hi => ?_⟩
    rw [upFrom_get]
    rw [upFrom_length] at hi
    exact hf i hi

set_option maxHeartbeats 400000 in
theorem markInts_calls (xs : List Int) (lo : Nat) (c : Value) (k : Int) (w : World) (hc : IntRow w lo xs c) (h0 : 0 ≤ k) (h1 : k + (xs.length : Int) ≤ 1152921504606846976) :
    Calls Try.prog 18 #[c, .int .i64 k] w fun e w' => e = .returned (.int .i64 (k + (xs.length : Int))) ∧ IntRow w' lo (upFrom k xs.length) c ∧ Below lo w w' := by
  have HC : Hid (IntRow w lo xs c) := hc
  obtain ⟨ad, cap, rfl, hl, hm, -⟩ := hc
  unfold maxLen at hm
  go_enter Try.func18, Try.ntmps18
  go_wp2_with fail
  go_loopw [1, 5] (fun q i wr => ∃ j : Nat, j ≤ xs.length ∧ i = .int .i64 j ∧ q = .int .i64 (k + j) ∧ IMRel w lo xs k ad cap j wr) (fun _ i _ => xs.length - (intOf i).toNat)
  case atStart => exact ⟨0, Nat.zero_le _, rfl, by simp, IMRel.start HC.out⟩
  case round =>
    obtain ⟨j, hj, rfl, rfl, hr⟩ := hrel
    have HR : Hid (IMRel w lo xs k ad cap j wr) := hr
    by_cases hlt : j < xs.length
    · obtain ⟨hb, hr⟩ := hr
      rcases hr with rfl | ⟨g, f, rfl, hg, hrow, hlc, hf⟩
      · simp at hlt
      have c0 := hrow.cell (i := j) (by omega)
      have f0 := hrow.frozen j
      clear hb hrow hf
      go_wp2_with fail
      go_roundw
      case rel => exact ⟨j + 1, by omega, by go_num, congrArg (Value.int .i64) (by push_cast; omega), HR.out.step hlt⟩
      case measure => simp [intOf]; omega
    · have hje : j = xs.length := by omega
      have HV : Hid (IntRow wr lo (upFrom k xs.length) (.slice ad xs.length cap) ∧ Below lo w wr) := by subst hje; exact HR.out.done (by unfold maxLen; omega) hl
      have HJ : Hid (k + (xs.length : Int) = k + (j : Int)) := by rw [hje]; rfl
      clear hje hr
      go_wp2_with fail
      go_ret
      exact ⟨ret_int HJ.out.symm, HV.out⟩

set_option maxHeartbeats 400000 in
theorem heldInts_calls (n : Nat) (c : Value) (k : Int) (w : World) (hc : IIn w (upFrom k n) c) (h0 : 0 ≤ k) (h1 : k + (n : Int) ≤ 1152921504606846976) :
    Calls Try.prog 22 #[c, .int .i64 k] w fun e w' => e = .returned (.int .i64 (k + (n : Int))) ∧ Below w.heap.size w w' := by
  have HC : Hid (IIn w (upFrom k n) c) := hc
  obtain ⟨ad, cap, rfl, hl, hm, -⟩ := hc
  unfold maxLen at hm
  rw [upFrom_length] at hl ⊢
  go_enter Try.func22, Try.ntmps22
  go_wp2_with fail
  go_loopw [1, 5] (fun q i wr => ∃ j : Nat, j ≤ n ∧ i = .int .i64 j ∧ q = .int .i64 (k + j) ∧ wr = w) (fun _ i _ => n - (intOf i).toNat)
  case atStart => exact ⟨0, Nat.zero_le _, rfl, by simp, rfl⟩
  case round =>
    obtain ⟨j, hj, rfl, rfl, rfl⟩ := hrel
    by_cases hlt : j < n
    · obtain ⟨_, _, he, -, -, hr⟩ := HC.out
      simp only [Value.slice.injEq] at he
      obtain ⟨rfl, -, rfl⟩ := he
      rcases hr with hnil | ⟨bl, off, rfl, -, hr⟩
      · have := congrArg List.length hnil; rw [upFrom_length] at this; simp at this; omega
      have c0 := hr j (by rw [upFrom_length]; exact hlt)
      rw [upFrom_get] at c0
      have t2 : (k + (j : Int) != k + (j : Int)) = false := by simp
      clear hr
      go_wp2_with fail
      go_roundw
      case rel => exact ⟨j + 1, by omega, by go_num, congrArg (Value.int .i64) (by push_cast; omega), trivial⟩
      case measure => simp [intOf]; omega
    · have HJ : Hid (k + (n : Int) = k + (j : Int)) := by unfold Hid; omega
      go_wp2_with fail
      go_ret
      exact ⟨ret_int HJ.out.symm, Below.refl _ _⟩
end Go.Proofs.Ythlblgibgfledaa
/-
  A GRAPH IN ROWS OF ITS OWN, all distinct: the laws' marks (markCellS) and their re-reading (heldCellS), with what stands there.
-/
namespace Go.Proofs.Ythlblgibgfledaa
set_option linter.unusedVariables false
set_option linter.unusedSimpArgs false
open Go.RowKit

/-- the operands of a cell, in the row blk -/
def KRow (w : World) (fp : List Nat) (xs : List Int) (blk : Nat) (v : Value) : Prop :=
  ∃ ad cap, v = .slice ad xs.length cap ∧ xs.length ≤ cap ∧ cap ≤ maxLen ∧ (xs = [] ∨ ∃ f, ad = some ⟨blk, 0, none⟩ ∧ blk ∈ fp ∧ w.rowIs blk 3 cap f ∧ ∀ i (h : i < xs.length), f i = .int .i64 xs[i])
/-- the cells, in the row b; the operands of cell i in the row kb i -/
def GRow (w : World) (fp : List Nat) (b cap : Nat) (kb : Nat → Nat) (g : List Ce) : Prop :=
  ∃ f, w.rowIs b 64 (cap * 3) f ∧ ∀ i (h : i < g.length), f (i * 3) = .int .i64 g[i].op ∧ f (i * 3 + 1) = .int .i64 g[i].num ∧ KRow w fp g[i].kids (kb i) (f (i * 3 + 2))
/-- two rows of operands are two blocks -/
def Dist (kb : Nat → Nat) (g : List Ce) : Prop := ∀ i j (hi : i < g.length) (hj : j < g.length), i ≠ j → g[i].kids ≠ [] → g[j].kids ≠ [] → kb i ≠ kb j
/-- a slice value that holds a graph in rows of its own -/
def GOwn (w : World) (fp : List Nat) (g : List Ce) (v : Value) : Prop :=
  (∀ i (h : i < g.length), I64 g[i].op ∧ I64 g[i].num) ∧ ∃ ad cap, v = .slice ad g.length cap ∧ g.length ≤ cap ∧ cap ≤ maxLen ∧ (g = [] ∨ ∃ b kb, ad = some ⟨b, 0, none⟩ ∧ b ∈ fp ∧ GRow w fp b cap kb g ∧ Dist kb g)

theorem KRow.keep {w w' : World} {fp fp' : List Nat} {xs : List Int} {blk : Nat} {v : Value} (h : KRow w fp xs blk v) (hf : xs ≠ [] → blk ∈ fp → blk ∈ fp') (hb : xs ≠ [] → blk ∈ fp → w'.heap[blk]? = w.heap[blk]?) : KRow w' fp' xs blk v := by
  obtain ⟨ad, cap, e, l1, l2, h⟩ := h
  refine ⟨ad, cap, e, l1, l2, ?_⟩
  by_cases hx : xs = []
  · exact Or.inl hx
  · rcases h with h | ⟨f, rfl, h1, h2, h3⟩
    · exact absurd h hx
    · exact Or.inr ⟨f, rfl, hf hx h1, h2.of_block (hb hx h1), h3⟩
theorem GOwn.keep {w w' : World} {fp : List Nat} {g : List Ce} {v : Value} (h : GOwn w fp g v) (hb : ∀ k ∈ fp, k < w.heap.size → w'.heap[k]? = w.heap[k]?) : GOwn w' fp g v := by
  obtain ⟨hi, ad, cap, e, l1, l2, h⟩ := h
  refine ⟨hi, ad, cap, e, l1, l2, h.imp id ?_⟩
  rintro ⟨b, kb, rfl, h1, ⟨f, hr, hf⟩, hd⟩
  refine ⟨b, kb, rfl, h1, ⟨f, hr.of_block (hb b h1 hr.lt), fun i h => ?_⟩, hd⟩
  obtain ⟨e0, e1, e2⟩ := hf i h
  refine ⟨e0, e1, e2.keep (fun _ h => h) fun hx hm => ?_⟩
  obtain ⟨_, _, _, _, _, h5⟩ := e2
  rcases h5 with h5 | ⟨f5, -, -, h6, -⟩
  · exact absurd h5 hx
  · exact hb _ hm h6.lt
/-- .. as cells that lie in a world -/
theorem GOwn.inn {w : World} {fp : List Nat} {g : List Ce} {v : Value} (h : GOwn w fp g v) : CIn w g v := by
  obtain ⟨hi, ad, cap, e, l1, l2, h⟩ := h
  refine ⟨ad, cap, e, l1, l2, h.imp id ?_⟩
  rintro ⟨b, kb, rfl, h1, ⟨f, hr, hf⟩, hd⟩
  refine ⟨b, 0, rfl, hr.lt, fun i h => ?_⟩
  obtain ⟨e0, e1, e2⟩ := hf i h
  refine ⟨f (i * 3 + 2), ?_, ?_, ?_, (hi i h).1, (hi i h).2, ?_⟩
  · rw [Nat.zero_add, hr.cell (by omega), e0]
  · rw [Nat.zero_add, hr.cell (by omega), e1]
  · rw [Nat.zero_add, hr.cell (by omega)]
  · obtain ⟨ad2, cap2, e3, l3, l4, h5⟩ := e2
    refine ⟨ad2, cap2, e3, l3, l4, h5.imp id ?_⟩
    rintro ⟨f5, rfl, -, h6, h7⟩
    exact ⟨_, 0, rfl, h6.lt, fun j hj => by rw [Nat.zero_add, h6.cell (by omega), h7 j hj]⟩

/-! ### The labels -/
/-- the number that stands at cell i -/
def cLab (g : List Ce) (k : Int) (i : Nat) : Int := k + 2 * (i : Int) + (sumK (g.take i) : Int)
theorem cLab_zero (g : List Ce) (k : Int) : cLab g k 0 = k := by simp [cLab, sumK]
theorem cLab_succ (g : List Ce) (k : Int) (i : Nat) (hi : i < g.length) : cLab g k (i + 1) = cLab g k i + 2 + (g[i].kids.length : Int) := by
  unfold cLab; rw [sumK_take_succ g i hi]; push_cast; omega
theorem cLab_le (g : List Ce) (k : Int) (i : Nat) (hi : i ≤ g.length) : k ≤ cLab g k i ∧ cLab g k i ≤ k + 2 * (g.length : Int) + (sumK g : Int) := by
  have := sumK_take_le g i
  unfold cLab; omega
theorem cLab_end (g : List Ce) (k : Int) : cLab g k g.length = k + 2 * (g.length : Int) + (sumK g : Int) := by simp [cLab]
/-- a marked cell -/
def markedC (l : Int) (n : Nat) : Ce := ⟨l, l + 1, upFrom (l + 2) n⟩
def labC (g : List Ce) (k : Int) : List Ce := (List.range g.length).map fun i => markedC (cLab g k i) ((g.getD i ⟨0, 0, []⟩).kids.length)
theorem labC_length (g : List Ce) (k : Int) : (labC g k).length = g.length := by simp [labC]
theorem labC_get (g : List Ce) (k : Int) (i : Nat) (hi : i < g.length) (hj : i < (labC g k).length) : (labC g k)[i] = markedC (cLab g k i) g[i].kids.length := by
  simp [labC, hi]
/-- a graph of which the first j cells are marked -/
def HalfC (g : List Ce) (k : Int) (j : Nat) (ms : List Ce) : Prop := ms.length = g.length ∧ ∀ i (hi : i < g.length) (hm : i < ms.length), ms[i] = if i < j then markedC (cLab g k i) g[i].kids.length else g[i]
theorem HalfC.zero (g : List Ce) (k : Int) : HalfC g k 0 g := ⟨rfl, fun i hi hm => by simp⟩
theorem HalfC.step {g ms : List Ce} {k : Int} {j : Nat} (h : HalfC g k j ms) (hj : j < g.length) : HalfC g k (j + 1) (ms.set j (markedC (cLab g k j) g[j].kids.length)) := by
  refine ⟨by rw [List.length_set]; exact h.1, fun i hi hm => ?_⟩
  rw [List.getElem_set]
  by_cases hij : j = i
  · subst hij; simp
  · rw [if_neg hij, h.2 i hi (by rw [h.1]; exact hi)]
    by_cases hlt : i < j
    · rw [if_pos hlt, if_pos (by omega)]
    · rw [if_neg hlt, if_neg (by omega)]
theorem HalfC.done {g ms : List Ce} {k : Int} (h : HalfC g k g.length ms) : ms = labC g k := by
  refine List.ext_getElem (by rw [h.1, labC_length]) fun i h1 h2 => ?_
  have hi : i < g.length := by rw [← h.1]; exact h1
  rw [h.2 i hi h1, if_pos hi, labC_get g k i hi]
theorem HalfC.at {g ms : List Ce} {k : Int} {j : Nat} (h : HalfC g k j ms) (hj : j < g.length) (hm : j < ms.length) : ms[j] = g[j] := by rw [h.2 j hj hm, if_neg (by omega)]
theorem HalfC.kids {g ms : List Ce} {k : Int} {j : Nat} (h : HalfC g k j ms) (i : Nat) (hi : i < g.length) (hm : i < ms.length) : ms[i].kids.length = g[i].kids.length := by
  rw [h.2 i hi hm]
  split
  · simp [markedC, upFrom_length]
  · rfl

/-! ### Marked -/
set_option maxHeartbeats 400000 in
/-- markIntS, over a row of operands -/
theorem markK_calls (xs : List Int) (fp : List Nat) (blk : Nat) (v : Value) (k : Int) (w : World) (hc : KRow w fp xs blk v) (h0 : 0 ≤ k) (h1 : k + (xs.length : Int) ≤ 1152921504606846976) :
    Calls Try.prog 18 #[v, .int .i64 k] w fun e w' => e = .returned (.int .i64 (k + (xs.length : Int))) ∧ KRow w' fp (upFrom k xs.length) blk v ∧ ButL [blk] w w' ∧ (xs = [] → ∀ b : Nat, w'.heap[b]? = w.heap[b]?) := by
  have HC : Hid (KRow w fp xs blk v) := hc
  obtain ⟨ad, cap, rfl, hl, hm, -⟩ := hc
  unfold maxLen at hm
  go_enter Try.func18, Try.ntmps18
  go_wp2_with fail
  go_loopw [1, 5] (fun q i wr => ∃ j : Nat, j ≤ xs.length ∧ i = .int .i64 j ∧ q = .int .i64 (k + j) ∧ ButL [blk] w wr ∧ (xs = [] → ∀ b : Nat, wr.heap[b]? = w.heap[b]?) ∧ (xs ≠ [] → ∃ f, ad = some ⟨blk, 0, none⟩ ∧ blk ∈ fp ∧ wr.rowIs blk 3 cap f ∧ ∀ i, i < j → f i = .int .i64 (k + (i : Int)))) (fun _ i _ => xs.length - (intOf i).toNat)
  case atStart =>
    refine ⟨0, Nat.zero_le _, rfl, by simp, ButL.refl _ _, fun _ _ => rfl, fun hx => ?_⟩
    obtain ⟨_, _, he, -, -, hr⟩ := HC.out
    cases he
    rcases hr with hr | ⟨f, rfl, h1, h2, -⟩
    · exact absurd hr hx
    · exact ⟨f, rfl, h1, h2, fun i hi => absurd hi (by omega)⟩
  case round =>
    obtain ⟨j, hj, rfl, rfl, hb, hnil, hrow⟩ := hrel
    have HB : Hid (ButL [blk] w wr) := hb
    have HN : Hid (xs = [] → ∀ b : Nat, wr.heap[b]? = w.heap[b]?) := hnil
    have HRW : Hid (xs ≠ [] → ∃ f, ad = some ⟨blk, 0, none⟩ ∧ blk ∈ fp ∧ wr.rowIs blk 3 cap f ∧ ∀ i, i < j → f i = .int .i64 (k + (i : Int))) := hrow
    clear hb hnil hrow
    by_cases hlt : j < xs.length
    · have hx : xs ≠ [] := by intro h; rw [h] at hlt; simp at hlt
      obtain ⟨f, rfl, hbm, hr, hf⟩ := HRW.out hx
      have c0 := hr.cell (i := j) (by omega)
      have f0 := hr.frozen j
      have HR2 : Hid ((wr.setCell ⟨blk, j, none⟩ (.int .i64 (k + (j : Int)))).rowIs blk 3 cap (fun i => if i = j then .int .i64 (k + (j : Int)) else f i)) := hr.set j _
      have HF2 : Hid (∀ i, i < j → f i = .int .i64 (k + (i : Int))) := hf
      have HX : Hid (xs ≠ []) := hx
      have HBM : Hid (blk ∈ fp) := hbm
      clear hr hf hx hbm
      go_wp2_with fail
      go_roundw
      case rel =>
        refine ⟨j + 1, by omega, by go_num, congrArg (Value.int .i64) (by push_cast; omega), HB.out.trans (ButL.setCell _ _ _ (by simp) _), fun h => absurd h HX.out, fun _ => ⟨_, by first | rfl | trivial, HBM.out, HR2.out, fun i hi => ?_⟩⟩
        by_cases e : i = j
        · subst e; simp
        · rw [if_neg e]; exact HF2.out i (by omega)
      case measure => simp [intOf]; omega
    · have hje : j = xs.length := by omega
      have HV : Hid (KRow wr fp (upFrom k xs.length) blk (.slice ad xs.length cap)) := by
        refine ⟨ad, cap, by rw [upFrom_length], by rw [upFrom_length]; exact hl, by unfold maxLen; exact hm, ?_⟩
        by_cases hx : xs = []
        · left; rw [hx]; rfl
        · obtain ⟨f, h1, h2, h3, h4⟩ := HRW.out hx
          refine Or.inr ⟨f, h1, h2, h3, fun i hi => ?_⟩
          rw [upFrom_get]
          rw [upFrom_length] at hi
          exact h4 i (by omega)
      have HJ : Hid (k + (xs.length : Int) = k + (j : Int)) := by rw [hje]; rfl
      clear hje
      go_wp2_with fail
      go_ret
      exact ⟨ret_int HJ.out.symm, HV.out, HB.out, HN.out⟩

/-- a store into the row of cells, not at an operand -/
theorem GRow.store {w : World} {fp : List Nat} {b cap : Nat} {kb : Nat → Nat} {g : List Ce} (h : GRow w fp b cap kb g) (j : Nat) (hj : j < g.length) (l : Int) :
    GRow ((w.setCell ⟨b, j * 3, none⟩ (.int .i64 l)).setCell ⟨b, j * 3 + 1, none⟩ (.int .i64 (l + 1))) fp b cap kb (g.set j ⟨l, l + 1, g[j].kids⟩) := by
  obtain ⟨f, hr, hf⟩ := h
  refine ⟨_, (hr.set (j * 3) _).set (j * 3 + 1) _, fun i hi => ?_⟩
  rw [List.length_set] at hi
  obtain ⟨e0, e1, e2⟩ := hf i hi
  have hk : KRow ((w.setCell ⟨b, j * 3, none⟩ (.int .i64 l)).setCell ⟨b, j * 3 + 1, none⟩ (.int .i64 (l + 1))) fp g[i].kids (kb i) (f (i * 3 + 2)) := by
    refine e2.keep (fun _ h => h) fun hx hm => ?_
    obtain ⟨_, _, _, _, _, h5⟩ := e2
    rcases h5 with h5 | ⟨f5, -, -, h6, -⟩
    · exact absurd h5 hx
    · have hne := rows_part hr h6
      rw [setCell_other _ _ _ hne.symm, setCell_other _ _ _ hne.symm]
  have n1 : ¬ (i * 3 + 2 = j * 3 + 1) := by omega
  have n2 : ¬ (i * 3 + 2 = j * 3) := by omega
  by_cases hij : i = j
  · subst hij
    simp only [List.getElem_set_self]
    refine ⟨by simp, by simp, ?_⟩
    simp only [if_neg n1, if_neg n2]
    exact hk
  · rw [List.getElem_set_ne (by omega)]
    have n3 : ¬ (i * 3 = j * 3 + 1) := by omega
    have n4 : ¬ (i * 3 = j * 3) := by omega
    have n5 : ¬ (i * 3 + 1 = j * 3 + 1) := by omega
    have n6 : ¬ (i * 3 + 1 = j * 3) := by omega
    refine ⟨?_, ?_, ?_⟩
    · simp only [if_neg n3, if_neg n4]; exact e0
    · simp only [if_neg n5, if_neg n6]; exact e1
    · simp only [if_neg n1, if_neg n2]; exact hk
/-- .. and the operands of that cell marked -/
theorem GRow.marked {w w' : World} {fp : List Nat} {b cap : Nat} {kb : Nat → Nat} {g : List Ce} {j : Nat} {l : Int} (hj : j < g.length) (hcap : g.length ≤ cap) (h : GRow w fp b cap kb (g.set j ⟨l, l + 1, g[j].kids⟩)) (hd : Dist kb g) {f : Nat → Value} (hr : w.rowIs b 64 (cap * 3) f)
    (hk : KRow w' fp (upFrom (l + 2) g[j].kids.length) (kb j) (f (j * 3 + 2))) (hb : ButL [kb j] w w') (hn : g[j].kids = [] → ∀ b : Nat, w'.heap[b]? = w.heap[b]?) : GRow w' fp b cap kb (g.set j (markedC l g[j].kids.length)) := by
  obtain ⟨f', hr', hf⟩ := h
  -- the two functions agree on the row
  have agree : ∀ i, i < cap * 3 → f' i = f i := by
    intro i hi
    have e1 := hr'.cell hi
    have e2 := hr.cell hi
    rw [e1] at e2
    exact Option.some.inj e2
  have hblk : ∀ x, x < w.heap.size → (x = kb j → g[j].kids = []) → w'.heap[x]? = w.heap[x]? := by
    intro x hx hxj
    by_cases e : g[j].kids = []
    · exact hn e x
    · exact hb.block x hx (by simp; intro h; exact e (hxj h))
  have hrow : w'.rowIs b 64 (cap * 3) f' := by
    refine hr'.of_block (hblk b hr'.lt fun e => ?_)
    have hjj := (hf j (by rw [List.length_set]; exact hj)).2.2
    rw [List.getElem_set_self] at hjj
    obtain ⟨_, _, _, _, _, h5⟩ := hjj
    rcases h5 with h5 | ⟨f5, -, -, h6, -⟩
    · exact h5
    · exact absurd e (rows_part hr' h6)
  refine ⟨f', hrow, fun i hi => ?_⟩
  rw [List.length_set] at hi
  have hfi := hf i (by rw [List.length_set]; exact hi)
  by_cases hij : i = j
  · subst hij
    rw [List.getElem_set_self] at hfi ⊢
    refine ⟨hfi.1, hfi.2.1, ?_⟩
    have hlt : i * 3 + 2 < cap * 3 := by omega
    rw [agree _ hlt]
    exact hk
  · rw [List.getElem_set_ne (by omega)] at hfi ⊢
    refine ⟨hfi.1, hfi.2.1, hfi.2.2.keep (fun _ h => h) fun hx hm => ?_⟩
    obtain ⟨_, _, _, _, _, h5⟩ := hfi.2.2
    rcases h5 with h5 | ⟨f5, -, -, h6, -⟩
    · exact absurd h5 hx
    · refine hblk _ h6.lt fun e => ?_
      by_cases e2 : g[j].kids = []
      · exact e2
      · exact absurd e (hd i j hi hj hij hx e2)

theorem HalfC.dist {g ms : List Ce} {k : Int} {j : Nat} {kb : Nat → Nat} (h : HalfC g k j ms) (hd : Dist kb g) : Dist kb ms := by
  intro x y hx hy hne ex ey
  have hl := h.1
  refine hd x y (by omega) (by omega) hne ?_ ?_
  · intro e
    have h1 := h.kids x (by omega) hx
    rw [e] at h1
    exact ex (List.eq_nil_of_length_eq_zero h1)
  · intro e
    have h1 := h.kids y (by omega) hy
    rw [e] at h1
    exact ey (List.eq_nil_of_length_eq_zero h1)

set_option maxRecDepth 100000 in
set_option maxHeartbeats 1600000 in
theorem gmark_calls (g : List Ce) (fp : List Nat) (b cap : Nat) (kb : Nat → Nat) (k : Int) (w : World) (hr : GRow w fp b cap kb g) (hb : b ∈ fp) (hd : Dist kb g) (hl : g.length ≤ cap) (hm : cap ≤ maxLen) (h0 : 0 ≤ k) (h1 : k ≤ 576460752303423488) (hs : g.length + sumK g ≤ 1048576) :
    Calls Try.prog 16 #[.slice (some ⟨b, 0, none⟩) g.length cap, .int .i64 k] w fun e w' => e = .returned (.int .i64 (k + 2 * (g.length : Int) + (sumK g : Int))) ∧ GRow w' fp b cap kb (labC g k) ∧ ButL fp w w' := by
  have HR : Hid (GRow w fp b cap kb g) := hr
  have HD : Hid (Dist kb g) := hd
  have HBF : Hid (b ∈ fp) := hb
  unfold maxLen at hm
  clear hr hd hb
  go_enter Try.func16, Try.ntmps16
  go_wp2_with fail
  go_loopw [1, 5] (fun qv i wr => ∃ (j : Nat) (ms : List Ce) (q : Int), j ≤ g.length ∧ i = .int .i64 j ∧ qv = .int .i64 q ∧ Hid (q = cLab g k j) ∧ HalfC g k j ms ∧ GRow wr fp b cap kb ms ∧ ButL fp w wr) (fun _ i _ => g.length - (intOf i).toNat)
  case atStart => exact ⟨0, g, k, Nat.zero_le _, rfl, rfl, (cLab_zero g k).symm, HalfC.zero g k, HR.out, ButL.refl _ _⟩
  case round =>
    obtain ⟨j, ms, q, hj, rfl, rfl, HQ, hh, hgr, hbw⟩ := hrel
    have HB : Hid (ButL fp w wr) := hbw
    have HH : Hid (HalfC g k j ms) := hh
    have HGR : Hid (GRow wr fp b cap kb ms) := hgr
    have hml := hh.1
    by_cases hlt : j < g.length
    · have hle := cLab_le g k j hj
      have hle2 := cLab_le g k (j + 1) hlt
      have hsu := cLab_succ g k j hlt
      have hq := HQ.out
      have hq0 : 0 ≤ q := by omega
      have hq1 : q + 2 + (g[j].kids.length : Int) ≤ 1152921504606846976 := by omega
      have HE : Hid (q + 2 + (g[j].kids.length : Int) = cLab g k (j + 1)) := by rw [Hid, hsu, ← hq]
      have hmj : ms[j]'(by omega) = g[j] := hh.at hlt (by omega)
      have hst := hgr.store j (by omega) q
      rw [hmj] at hst
      obtain ⟨f, hrow, hf⟩ := hgr
      have hfj := (hf j (by omega)).2.2
      rw [hmj] at hfj
      have c0 := hrow.cell (i := j * 3) (by omega)
      have f0 := hrow.frozen (j * 3)
      have r1 := hrow.set (j * 3) (.int .i64 q)
      have c1 := r1.cell (i := j * 3 + 1) (by omega)
      have f1 := r1.frozen (j * 3 + 1)
      have r2 := r1.set (j * 3 + 1) (.int .i64 (q + 1))
      have c2 := r2.cell (i := j * 3 + 2) (by omega)
      simp only [if_neg (show ¬ (j * 3 + 2 = j * 3 + 1) by omega), if_neg (show ¬ (j * 3 + 2 = j * 3) by omega), if_neg (show ¬ (j * 3 + 1 = j * 3) by omega)] at c1 c2
      obtain ⟨w2, hw2⟩ : ∃ w2 : World, w2 = (wr.setCell ⟨b, j * 3, none⟩ (.int .i64 q)).setCell ⟨b, j * 3 + 1, none⟩ (.int .i64 (q + 1)) := ⟨_, rfl⟩
      have HW2 : Hid (w2 = (wr.setCell ⟨b, j * 3, none⟩ (.int .i64 q)).setCell ⟨b, j * 3 + 1, none⟩ (.int .i64 (q + 1))) := hw2
      have HST : Hid (GRow w2 fp b cap kb (ms.set j ⟨q, q + 1, g[j].kids⟩)) := by rw [Hid, hw2]; exact hst
      have HR2 : Hid (w2.rowIs b 64 (cap * 3) (fun i => if i = j * 3 + 1 then .int .i64 (q + 1) else if i = j * 3 then .int .i64 q else f i)) := by rw [Hid, hw2]; exact r2
      have HB2 : Hid (ButL fp w w2) := by rw [Hid, hw2]; exact (HB.out.trans (ButL.setCell _ _ _ HBF.out _)).trans (ButL.setCell _ _ _ HBF.out _)
      have HKJ : Hid (KRow w2 fp g[j].kids (kb j) (f (j * 3 + 2))) := by
        obtain ⟨f', hr', hf'⟩ := HST.out
        have h3 := (hf' j (by rw [List.length_set]; omega)).2.2
        rw [List.getElem_set_self] at h3
        have e1 := hr'.cell (i := j * 3 + 2) (by omega)
        rw [hw2, c2] at e1
        rw [Option.some.inj e1]
        exact h3
      obtain ⟨adk, capk, hfk, -, -, -⟩ := id hfj
      have HFK : Hid (f (j * 3 + 2) = .slice adk g[j].kids.length capk) := hfk
      rw [hfk] at c2
      clear hq hsu hst hfj hfk hrow hf r1 r2 hw2 hh hbw hmj
      go_wp2_with fail
      refine (markK_calls g[j].kids fp (kb j) _ _ _ (by rw [← HW2.out, ← HFK.out]; exact HKJ.out) (by omega) (by omega)).mono ?_
      rintro e w3 ⟨rfl, hk3, hb3, hn3⟩
      rw [← HW2.out] at hb3 hn3
      have HG3 : Hid (GRow w3 fp b cap kb (ms.set j (markedC q g[j].kids.length))) := by
        have hmj : ms[j]'(by omega) = g[j] := HH.out.at hlt (by omega)
        have h := GRow.marked (w := w2) (w' := w3) (g := ms) (j := j) (l := q) (by omega) (by omega) (by rw [hmj]; exact HST.out) (HH.out.dist HD.out) HR2.out (by rw [hmj]; simp only [if_neg (show ¬ (j * 3 + 2 = j * 3 + 1) by omega), if_neg (show ¬ (j * 3 + 2 = j * 3) by omega)]; rw [HFK.out]; have h := hk3; rw [show q + 1 + 1 = q + 2 by omega] at h; exact h) hb3 (by rw [hmj]; exact hn3)
        rw [hmj] at h
        exact h
      have HB3 : Hid (ButL fp w w3) := by
        by_cases hx : g[j].kids = []
        · exact HB2.out.trans ⟨hb3.os, hb3.tape, hb3.output, hb3.size, fun x _ _ => hn3 hx x⟩
        · refine HB2.out.trans (hb3.mono fun x hx2 => ?_)
          obtain ⟨_, _, _, _, _, h5⟩ := HKJ.out
          rcases h5 with h5 | ⟨f5, -, h6, -⟩
          · exact absurd h5 hx
          · simp only [List.mem_singleton] at hx2
            rw [hx2]; exact h6
      clear hk3 hb3 hn3 c0 f0 c1 f1 c2
      go_wp2_with fail
      go_roundw
      case rel => exact ⟨j + 1, _, _, by omega, by go_num, rfl, by have := HE.out; unfold Hid; omega, by have h := HH.out.step hlt; rw [← HQ.out] at h; exact h, HG3.out, HB3.out⟩
      case measure => simp [intOf]; omega
    · have hje : j = g.length := by omega
      have HJ : Hid (k + 2 * (g.length : Int) + (sumK g : Int) = q) := by rw [Hid, HQ.out, hje, cLab_end]
      have HD2 : Hid (GRow wr fp b cap kb (labC g k)) := by
        have h := HH.out
        rw [hje] at h
        rw [← h.done]; exact HGR.out
      clear hje hh hgr hbw
      go_wp2_with fail
      go_ret
      exact ⟨ret_int HJ.out.symm, HD2.out, HB.out⟩

/-! ### Re-read -/
set_option maxRecDepth 100000 in
set_option maxHeartbeats 1600000 in
theorem gheld_calls (g : List Ce) (c : Value) (k : Int) (w : World) (hk : CIn w (labC g k) c) (h0 : 0 ≤ k) (h1 : k ≤ 576460752303423488) (hs : g.length + sumK g ≤ 1048576) :
    Calls Try.prog 19 #[c, .int .i64 k] w fun e w' => e = .returned (.int .i64 (k + 2 * (g.length : Int) + (sumK g : Int))) ∧ Below w.heap.size w w' := by
  have HK : Hid (CIn w (labC g k) c) := hk
  have hlen := labC_length g k
  obtain ⟨ad, cap, rfl, hl, hm, -⟩ := hk
  rw [hlen] at hl ⊢
  unfold maxLen at hm
  go_enter Try.func19, Try.ntmps19
  go_wp2_with fail
  go_loopw [1, 5] (fun qv i wr => ∃ (j : Nat) (q : Int), j ≤ g.length ∧ i = .int .i64 j ∧ qv = .int .i64 q ∧ Hid (q = cLab g k j) ∧ Below w.heap.size w wr) (fun _ i _ => g.length - (intOf i).toNat)
  case atStart => exact ⟨0, k, Nat.zero_le _, rfl, rfl, (cLab_zero g k).symm, Below.refl _ _⟩
  case round =>
    obtain ⟨j, q, hj, rfl, rfl, HQ, hb⟩ := hrel
    have HB : Hid (Below w.heap.size w wr) := hb
    by_cases hlt : j < g.length
    · have hle := cLab_le g k j hj
      have hle2 := cLab_le g k (j + 1) hlt
      have hsu := cLab_succ g k j hlt
      have hq := HQ.out
      have hq0 : 0 ≤ q := by omega
      have hq1 : q + 2 + (g[j].kids.length : Int) ≤ 1152921504606846976 := by omega
      have HE : Hid (q + 2 + (g[j].kids.length : Int) = cLab g k (j + 1)) := by rw [Hid, hsu, ← hq]
      have hin := HK.out.next hb
      obtain ⟨bl, off, r, e, c0, c1, c2, -, -, hkk⟩ := hin.at j (by rw [hlen]; exact hlt)
      subst e
      rw [labC_get g k j hlt, ← hq] at c0 c1 hkk
      simp only [markedC] at c0 c1 hkk
      obtain ⟨ad2, cap2, rfl, -, -, -⟩ := id hkk
      rw [upFrom_length] at c2
      have HKK : Hid (IIn wr (upFrom (q + 1 + 1) g[j].kids.length) (.slice ad2 g[j].kids.length cap2)) := by rw [upFrom_length] at hkk; rw [show q + 1 + 1 = q + 2 by omega]; exact hkk
      have t1 : (q != q) = false := by simp
      have t2 : (q + 1 != q + 1) = false := by simp
      clear hq hsu hin hkk hb
      go_wp2_with fail
      refine (heldInts_calls g[j].kids.length _ _ _ HKK.out (by omega) (by omega)).mono ?_
      rintro e w3 ⟨rfl, hb3⟩
      have HB3 : Hid (Below w.heap.size w w3) := HB.out.trans (hb3.mono HB.out.size)
      have hq3 : ¬ (q + 1 + 1 + (g[j].kids.length : Int) < 0) := by omega
      clear hb3 c0 c1 c2 t1 t2
      go_wp2_with fail
      go_roundw
      case rel => exact ⟨j + 1, _, by omega, by go_num, rfl, by have := HE.out; unfold Hid; omega, HB3.out⟩
      case measure => simp [intOf]; omega
    · have hje : j = g.length := by omega
      have HJ : Hid (k + 2 * (g.length : Int) + (sumK g : Int) = q) := by rw [Hid, HQ.out, hje, cLab_end]
      clear hje hb
      go_wp2_with fail
      go_ret
      exact ⟨ret_int HJ.out.symm, HB.out⟩
end Go.Proofs.Ythlblgibgfledaa
/-
  PLAIN: the cells of an expression, added to a graph. No program is named here.
-/
namespace Go.Proofs.Ythlblgibgfledaa
set_option linter.unusedVariables false
set_option linter.unusedSimpArgs false

mutual
/-- the graph with the cells of a tree, and the tree's cell -/
def addT (args : List Nat) : Tr → List Ce → List Ce × Nat
  | .node op n ks, g => if op = 1 then (g, args.getD n.toNat 0) else ((addL args ks g).1 ++ [⟨op, n, (addL args ks g).2.map fun (a : Nat) => (a : Int)⟩], (addL args ks g).1.length)
/-- .. of the trees of a list, one behind the other -/
def addL (args : List Nat) : List Tr → List Ce → List Ce × List Nat
  | [], g => (g, [])
  | t :: ts, g => ((addL args ts (addT args t g).1).1, (addT args t g).2 :: (addL args ts (addT args t g).1).2)
end
theorem addT_var {args : List Nat} {t : Tr} (g : List Ce) (h : t.op = 1) : addT args t g = (g, args.getD t.num.toNat 0) := by
  cases t with
  | node op n ks => simp only [Tr.op_node] at h; simp [addT, h]
theorem addT_other {args : List Nat} {t : Tr} (g : List Ce) (h : ¬ t.op = 1) : addT args t g = ((addL args t.kids g).1 ++ [⟨t.op, t.num, (addL args t.kids g).2.map fun (a : Nat) => (a : Int)⟩], (addL args t.kids g).1.length) := by
  cases t with
  | node op n ks => simp only [Tr.op_node] at h; simp [addT, h]
theorem addL_snoc (args : List Nat) : ∀ (ts : List Tr) (t : Tr) (g : List Ce), addL args (ts ++ [t]) g = ((addT args t (addL args ts g).1).1, (addL args ts g).2 ++ [(addT args t (addL args ts g).1).2])
  | [], t, g => by simp [addL]
  | x :: ts, t, g => by
    have := addL_snoc args ts t (addT args x g).1
    simp only [List.cons_append, addL, this]
theorem addL_length (args : List Nat) : ∀ (ts : List Tr) (g : List Ce), (addL args ts g).2.length = ts.length
  | [], g => by simp [addL]
  | x :: ts, g => by simp [addL, addL_length args ts]
theorem addL_take_succ (args : List Nat) (ts : List Tr) (g : List Ce) (k : Nat) (hk : k < ts.length) : addL args (ts.take (k + 1)) g = ((addT args ts[k] (addL args (ts.take k) g).1).1, (addL args (ts.take k) g).2 ++ [(addT args ts[k] (addL args (ts.take k) g).1).2]) := by
  rw [List.take_succ_eq_append_getElem hk, addL_snoc]
theorem sumK_one (c : Ce) : sumK [c] = c.kids.length := by simp [sumK]
mutual
theorem addT_size (args : List Nat) : ∀ (t : Tr) (g : List Ce), g.length ≤ (addT args t g).1.length ∧ (addT args t g).1.length ≤ g.length + 1 + szT t ∧ sumK (addT args t g).1 ≤ sumK g + szT t
  | .node op n ks, g => by
    have h := addL_size args ks g
    have hl := addL_length args ks g
    unfold addT
    split
    · simp only [szT]; omega
    · have e : sumK ((addL args ks g).1 ++ [⟨op, n, (addL args ks g).2.map fun (a : Nat) => (a : Int)⟩]) = sumK (addL args ks g).1 + ks.length := by
        rw [sumK_append, sumK_one]; simp [hl]
      have e2 : szL ks = ks.length + sumT ks := szL_sum ks
      simp only [List.length_append, List.length_cons, List.length_nil, szT, e]
      have h3 := h.2.2
      omega
theorem addL_size (args : List Nat) : ∀ (ts : List Tr) (g : List Ce), g.length ≤ (addL args ts g).1.length ∧ (addL args ts g).1.length ≤ g.length + szL ts ∧ sumK (addL args ts g).1 ≤ sumK g + sumT ts
  | [], g => by simp [addL, szL, sumT]
  | t :: ts, g => by
    have h1 := addT_size args t g
    have h2 := addL_size args ts (addT args t g).1
    simp only [addL, szL, sumT_cons]
    omega
end
end Go.Proofs.Ythlblgibgfledaa
/-
  THE LAWS' OWN COPY OF AN ARGUMENT (toExpr, toExprS): the same trees, in new memory; nothing that was there is changed.
-/
namespace Go.Proofs.Ythlblgibgfledaa
set_option linter.unusedVariables false
set_option linter.unusedSimpArgs false
open Go.RowKit

/-- blocks from lo on, below hi -/
def Btw (lo hi : Nat) : Nat → Prop := fun k => lo ≤ k ∧ k < hi
theorem KidsOn.btw_in {w : World} {lo : Nat} {ks : List Tr} {c : Value} (h : KidsOn w (Btw lo w.heap.size) ks c) : In w ks c :=
  h.mono (fun _ hk => hk.2) (fun _ _ => rfl)
theorem KidsOn.btw_next {w w' : World} {lo : Nat} {ks : List Tr} {c : Value} (h : KidsOn w (Btw lo w.heap.size) ks c) (hb : Below w.heap.size w w') : KidsOn w' (Btw lo w'.heap.size) ks c :=
  h.mono (fun _ hk => ⟨hk.1, Nat.lt_of_lt_of_le hk.2 hb.size⟩) (fun k hk => hb.block k hk.2)

/-- a call has handed back these trees in new memory -/
def NewKids (ks : List Tr) (w : World) (e : Ending) (w' : World) : Prop := ∃ v, e = .returned v ∧ KidsOn w' (Btw w.heap.size w'.heap.size) ks v ∧ Below w.heap.size w w'
/-- .. one tree -/
def NewTr (o n : Int) (ks : List Tr) (w : World) (e : Ending) (w' : World) : Prop := ∃ v, e = .returned (.agg #[.int .i64 o, .int .i64 n, v]) ∧ KidsOn w' (Btw w.heap.size w'.heap.size) ks v ∧ Below w.heap.size w w'

def ToSSaid (ks : List Tr) : Prop := ∀ (c : Value) (w : World), In w ks c → szL ks ≤ 1048576 → Calls Try.prog 35 #[c] w (NewKids ks w)
def ToSaid (ks : List Tr) : Prop := ∀ (o n : Int) (c : Value) (w : World), In w ks c → szL ks ≤ 1048576 → Calls Try.prog 10 #[.agg #[.int .i64 o, .int .i64 n, c]] w (NewTr o n ks w)

set_option maxHeartbeats 400000 in
theorem to_of (ks : List Tr) (h : ToSSaid ks) : ToSaid ks := by
  intro o n c w hk hsz
  have HK : Hid (In w ks c) := hk
  have HS : Hid (ToSSaid ks) := h
  clear h hk
  go_enter Try.func10, Try.ntmps10
  go_wp2_with fail
  refine (HS.out c _ ?_ hsz).mono ?_
  · exact HK.out.next ((((Below.refl _ _).alloc (Nat.le_refl _) _).alloc (by simp) _).alloc (by simp; omega) _)
  rintro e w1 ⟨v, rfl, hv, hb⟩
  obtain ⟨hc, hf⟩ := bcell hb
  have hz : w.heap.size + 2 < w1.heap.size := by have := hb.size; simp at this; omega
  have hlo : w.heap.size + 3 ≤ w1.heap.size := by omega
  have HV : Hid (KidsOn w1 (Btw (w.heap.size + 3) w1.heap.size) ks v) := hv.mono (fun k hk => ⟨by have := hk.1; simpa using this, hk.2⟩) (fun _ _ => rfl)
  have HB : Hid (Below w.heap.size w w1) := ((((Below.refl _ _).alloc (Nat.le_refl _) _).alloc (by simp) _).alloc (by simp; omega) _).trans (hb.mono (by simp; omega))
  obtain ⟨ad, cap, rfl, _, _, _⟩ := hv
  go_wp2_with fail
  refine bodyPost_ret (v := .agg #[.int .i64 o, .int .i64 n, .slice ad ks.length cap]) (by simp [results, Try.results10, go_sem, hc, hf, hz]) rfl ⟨_, rfl, ?_, ?_⟩
  · simp only [size_setCell]
    exact ((((HV.out.setCell (by simp [Btw] <;> omega) _).setCell (by simp [Btw] <;> omega) _).setCell (by simp [Btw] <;> omega) _).setCell (by simp [Btw] <;> omega) _).mono (fun k hk => ⟨by have := hk.1; omega, hk.2⟩) (fun _ _ => rfl)
  · exact (((HB.out.setCell (by simp; omega) _).setCell (by simp) _).setCell (by simp) _).setCell (by simp) _

theorem infoE : (Try.prog.info? 35).map (fun i => (i.zero, i.size, i.bytes)) = some (some (.agg #[.int .i64 0, .int .i64 0, .slice none 0 0]), 3, 40) := by kernel_rfl

/-- make, of so many expressions: a new row of cells -/
theorem make_exprs (n : Nat) (h : n ≤ 1048576) : ∃ C : Array Value, C.size = n * 3 ∧ ∀ w : World, (Instr.makeSlice 33 (.int .i64 (n : Int)) (.int .i64 (n : Int))).run Try.prog w = .ok (.slice (some ⟨w.heap.size, 0, none⟩) n n) (w.alloc (.cells C 35)) := by
  obtain ⟨i, hi, hzz⟩ := Option.map_eq_some_iff.1 infoE
  simp only [Prod.mk.injEq] at hzz
  obtain ⟨hz, hs, hb⟩ := hzz
  refine ⟨madeCells (Value.agg #[.int .i64 0, .int .i64 0, .slice none 0 0]).cells (n * 3), size_madeCells _ _, fun w => ?_⟩
  have hr := run_make (P := Try.prog) w 33 35 i _ Try.underlying33 hi hz .i64 .i64 n n (by omega) (Int.le_refl _) (by rw [hb]; omega) (by omega)
  simp only [Int.toNat_natCast, hs] at hr
  exact hr

/-- what holds of the copy of a list behind k rounds -/
def ToRel (ks : List Tr) (w : World) (k : Nat) (wr : World) : Prop :=
  ∃ f : Nat → Value, wr.rowIs w.heap.size 35 (ks.length * 3) f ∧ (∀ j (_ : j < k) (hj : j < ks.length), TrOn wr (Btw (w.heap.size + 1) wr.heap.size) ks[j] (f (j * 3)) (f (j * 3 + 1)) (f (j * 3 + 2))) ∧ Below w.heap.size w wr

theorem toRel_start (ks : List Tr) (w : World) (C : Array Value) (h : C.size = ks.length * 3) : ToRel ks w 0 (w.alloc (.cells C 35)) := by
  refine ⟨fun i => C.getD i undef, ⟨C, Deep.blk_alloc_new _ _, h, fun i hi => ?_⟩, fun j hj => absurd hj (by omega), (Below.refl _ _).alloc (Nat.le_refl _) _⟩
  simp [Array.getElem?_eq_getElem (h ▸ hi : i < C.size), Array.getD, (h ▸ hi : i < C.size)]

theorem toRel_step (ks : List Tr) (w wr w1 : World) (k : Nat) (hk : k < ks.length) (h : ToRel ks w k wr) (v : Value) (hb : Below wr.heap.size wr w1) (hv : KidsOn w1 (Btw wr.heap.size w1.heap.size) (ks[k]).kids v) (ho : I64 (ks[k]).op) (hn : I64 (ks[k]).num) :
    ToRel ks w (k + 1) (((w1.setCell ⟨w.heap.size, k * 3, none⟩ (.int .i64 (ks[k]).op)).setCell ⟨w.heap.size, k * 3 + 1, none⟩ (.int .i64 (ks[k]).num)).setCell ⟨w.heap.size, k * 3 + 2, none⟩ v) := by
  obtain ⟨f, hr, ht, hbw⟩ := h
  have hlt := hr.lt
  have hr1 : w1.rowIs w.heap.size 35 (ks.length * 3) f := hr.of_block (hb.block _ hlt)
  have hsz := hb.size
  have keep : ∀ (t : Tr) (a b c : Value), TrOn w1 (Btw (w.heap.size + 1) w1.heap.size) t a b c → TrOn (((w1.setCell ⟨w.heap.size, k * 3, none⟩ (.int .i64 (ks[k]).op)).setCell ⟨w.heap.size, k * 3 + 1, none⟩ (.int .i64 (ks[k]).num)).setCell ⟨w.heap.size, k * 3 + 2, none⟩ v) (Btw (w.heap.size + 1) w1.heap.size) t a b c :=
    fun t a b c g => ((g.setCell (by simp [Btw] <;> omega) _).setCell (by simp [Btw] <;> omega) _).setCell (by simp [Btw] <;> omega) _
  have hs3 : k * 3 + 2 < ks.length * 3 := by omega
  refine ⟨_, ((hr1.set (k * 3) _).set (k * 3 + 1) _).set (k * 3 + 2) _, fun j hj hjl => ?_, ?_⟩
  · simp only [size_setCell]
    by_cases hjk : j = k
    · subst hjk
      have : TrOn w1 (Btw (w.heap.size + 1) w1.heap.size) ks[j] (.int .i64 (ks[j]).op) (.int .i64 (ks[j]).num) v := trOn_iff.2 ⟨rfl, rfl, ho, hn, hv.mono (fun k hk => ⟨by have := hk.1; omega, hk.2⟩) (fun _ _ => rfl)⟩
      simpa using keep _ _ _ _ this
    · have h0 := ht j (by omega) hjl
      have h1 : TrOn w1 (Btw (w.heap.size + 1) w1.heap.size) ks[j] (f (j * 3)) (f (j * 3 + 1)) (f (j * 3 + 2)) := h0.mono (fun k hk => ⟨hk.1, by have := hk.2; omega⟩) (fun k hk => hb.block k hk.2)
      have h2 := keep _ _ _ _ h1
      have e1 : ∀ m, m < 3 → j * 3 + m ≠ k * 3 + 2 ∧ j * 3 + m ≠ k * 3 + 1 ∧ j * 3 + m ≠ k * 3 := fun m hm => by omega
      have a0 := e1 0 (by omega)
      have a1 := e1 1 (by omega)
      have a2 := e1 2 (by omega)
      simp only [Nat.add_zero] at a0
      simpa [a0, a1, a2] using h2
  · exact (((hbw.trans (hb.mono (Nat.le_of_lt hlt))).setCell (by simp) _).setCell (by simp) _).setCell (by simp) _

theorem toRel_end (ks : List Tr) (w wr : World) (h : ToRel ks w ks.length wr) (hl : ks.length ≤ 1048576) : NewKids ks w (.returned (.slice (some ⟨w.heap.size, 0, none⟩) ks.length ks.length)) wr := by
  obtain ⟨f, hr, ht, hbw⟩ := h
  have hlt := hr.lt
  refine ⟨_, rfl, ⟨_, _, rfl, Nat.le_refl _, by unfold maxLen; omega, Or.inr ⟨_, _, rfl, ⟨Nat.le_refl _, hlt⟩, RowOn.of _ _ fun i hi => ?_⟩⟩, hbw⟩
  refine ⟨f (i * 3), f (i * 3 + 1), f (i * 3 + 2), ?_, ?_, ?_, (ht i hi hi).mono (fun k hk => ⟨by have := hk.1; omega, hk.2⟩) (fun _ _ => rfl)⟩
  · simpa using hr.cell (i := i * 3) (by omega)
  · simpa [Nat.zero_add] using hr.cell (i := i * 3 + 1) (by omega)
  · simpa [Nat.zero_add] using hr.cell (i := i * 3 + 2) (by omega)

set_option maxHeartbeats 400000 in
theorem toS_step (ks : List Tr) (ih : ∀ i (hi : i < ks.length), ToSaid (ks[i]).kids) : ToSSaid ks := by
  intro c w hk hsz
  have HI : Hid (∀ i (hi : i < ks.length), ToSaid (ks[i]).kids) := ih
  have HK : Hid (In w ks c) := hk
  have HZ : Hid (szL ks ≤ 1048576) := hsz
  have hlen : ks.length ≤ 1048576 := by rw [szL_sum] at hsz; omega
  clear ih hsz
  obtain ⟨ad, cap, rfl, hl, hm, hrow⟩ := hk
  clear hrow hm hl
  obtain ⟨C, hC, hmk⟩ := make_exprs ks.length hlen
  have HC : Hid (C.size = ks.length * 3) := hC
  clear hC
  go_enter Try.func35, Try.ntmps35
  go_wp2_with fail
  go_loopw [4] (fun i wr => ∃ k : Nat, k ≤ ks.length ∧ i = .int .i64 k ∧ ToRel ks w k wr) (fun i _ => ks.length - (intOf i).toNat)
  case atStart => exact ⟨0, Nat.zero_le _, rfl, toRel_start ks w C HC.out⟩
  case round =>
    obtain ⟨k, hk, rfl, hto⟩ := hrel
    have HT : Hid (ToRel ks w k wr) := hto
    obtain ⟨f, hr0, _, hb⟩ := hto
    have hlt0 := hr0.lt
    by_cases hlt : k < ks.length
    · have hrow' := HK.out.next hb
      obtain ⟨ad', cap', he, _, _, hr⟩ := hrow'
      cases he
      rcases hr with rfl | ⟨bl, off, rfl, _, hr⟩
      · simp at hlt
      obtain ⟨p, q, r, c0, c1, c2, ht⟩ := RowOn.at ks off k hlt hr
      obtain ⟨rfl, rfl, io, iN, hkk⟩ := trOn_iff.1 ht
      have HKK : Hid (In wr ks[k].kids r) := hkk
      have hkz : szL ks[k].kids ≤ 1048576 := by have := szL_kids_lt ks k hlt; have := HZ.out; omega
      have HR : Hid (wr.rowIs w.heap.size 35 (ks.length * 3) f) := hr0
      clear hkk ht hr hr0 hb
      go_wp2_with fail
      refine (HI.out k hlt _ _ r _ HKK.out hkz).mono ?_
      rintro e w1 ⟨v, rfl, hv, hb1⟩
      have hr1 : w1.rowIs w.heap.size 35 (ks.length * 3) f := HR.out.of_block (hb1.block _ hlt0)
      have HS : Hid (ToRel ks w (k + 1) (((w1.setCell ⟨w.heap.size, k * 3, none⟩ (.int .i64 (ks[k]).op)).setCell ⟨w.heap.size, k * 3 + 1, none⟩ (.int .i64 (ks[k]).num)).setCell ⟨w.heap.size, k * 3 + 2, none⟩ v)) := toRel_step ks w wr w1 k hlt HT.out v hb1 hv io iN
      obtain ⟨ad2, cap2, rfl, _, _, _⟩ := hv
      have g0 := hr1.cell (i := k * 3) (by omega)
      have g1 := hr1.cell (i := k * 3 + 1) (by omega)
      have g2 := hr1.cell (i := k * 3 + 2) (by omega)
      have f0 := hr1.frozen (k * 3)
      have f1 := hr1.frozen (k * 3 + 1)
      have f2 := hr1.frozen (k * 3 + 2)
      clear hr1 hb1
      go_wp2_with fail
      go_roundw
      case rel => exact ⟨k + 1, by omega, by go_num, HS.out⟩
      case measure => simp [intOf]; omega
    · have hke : ks.length = k := by omega
      have HV : Hid (NewKids ks w (.returned (.slice (some ⟨w.heap.size, 0, none⟩) ks.length ks.length)) wr) := by subst hke; exact toRel_end ks w wr HT.out hlen
      clear hke hr0 hb
      go_wp2_with fail
      go_ret
      exact HV.out

/-- THE COPY, FOR EVERY LIST OF TREES. -/
theorem toS_any : ∀ (n : Nat) (ks : List Tr), szL ks ≤ n → ToSSaid ks := by
  intro n
  induction n with
  | zero =>
    intro ks h
    exact toS_step ks fun i hi => absurd (szT_lt_szL ks i hi) (by omega)
  | succ n ih =>
    intro ks h
    exact toS_step ks fun i hi => to_of _ (ih _ (by have := szL_kids_lt ks i hi; omega))

theorem toS_calls (ks : List Tr) : ToSSaid ks := toS_any _ ks (Nat.le_refl _)
theorem to_calls (ks : List Tr) : ToSaid ks := to_of ks (toS_calls ks)
end Go.Proofs.Ythlblgibgfledaa
/-
  SMALL FACTS ON ROWS OF EXPRESSIONS' CELLS: the element type's row of the table; a new block's cells.
-/
namespace Go.Proofs.Ythlblgibgfledaa
set_option linter.unusedVariables false
set_option linter.unusedSimpArgs false
open Go.RowKit

theorem news3 (w : World) (a b c : Value) (j : Nat) (u : Value) (h : [a, b, c][j]? = some u) : (w.alloc (.cells #[a, b, c] 35)).cell? ((⟨w.heap.size, 0, none⟩ : Addr).add j) = some u := by
  rw [WideShapes.add_plain, Nat.zero_add]
  exact box_cell w #[a, b, c] _ j u (by simpa using h)
theorem cell_of_blk {w : World} {b : Nat} {C : Array Value} {T : TypeId} (h : w.heap[b]? = some (.cells C T)) (i : Nat) (v : Value) (hv : C[i]? = some v) : w.cell? ⟨b, i, none⟩ = some v := by
  simp only [World.cell?, h]; exact hv
theorem frz_of_blk {w : World} {b : Nat} {C : Array Value} {T : TypeId} (h : w.heap[b]? = some (.cells C T)) (i : Nat) : w.frozen? ⟨b, i, none⟩ = false := by
  simp [World.frozen?, h]
theorem infoE3 : ∃ i z, Try.prog.info? 35 = some i ∧ i.zero = some z ∧ i.size = 3 ∧ i.bytes = 40 ∧ z.cells.size = 3 := by
  obtain ⟨i, hi, hzz⟩ := Option.map_eq_some_iff.1 infoE
  simp only [Prod.mk.injEq] at hzz
  obtain ⟨hz, hs, hb⟩ := hzz
  exact ⟨i, _, hi, hz, hs, hb, rfl⟩
theorem own_keep {w w' : World} {base n size : Nat} {e : TypeId} {v : Value} {xs : List Value} (h : w.ownsRow base e size v n xs) (hk : ∀ k, base ≤ k → k < w.heap.size → w'.heap[k]? = w.heap[k]?) : w'.ownsRow base e size v n xs := by
  refine ⟨h.1, ?_⟩
  rcases h.2 with h | ⟨g, cap, cur, rfl, hg, hh, r⟩
  · exact Or.inl h
  · exact Or.inr ⟨g, cap, cur, rfl, hg, (hk g hg (Array.getElem?_eq_some_iff.1 hh).1).trans hh, r⟩
theorem own_block {w : World} {base n size : Nat} {e : TypeId} {v : Value} {xs : List Value} (h : w.ownsRow base e size v n xs) {k : Nat} (hk : some k = v.ownBlock) : base ≤ k := by
  rcases h.2 with ⟨rfl, -⟩ | ⟨g, cap, cur, rfl, hg, -⟩
  · simp [Value.ownBlock] at hk
  · simp only [Value.ownBlock, Option.some.injEq] at hk
    omega
/-- a parameter's box behind a call -/
theorem box_after {w w1 : World} {a b c : Value} {T : TypeId} (hb : Below (w.alloc (.cells #[a, b, c] T)).heap.size (w.alloc (.cells #[a, b, c] T)) w1) :
    w1.cell? ⟨w.heap.size, 0, none⟩ = some a ∧ w1.cell? ⟨w.heap.size, 1, none⟩ = some b ∧ w1.cell? ⟨w.heap.size, 2, none⟩ = some c ∧ w.heap.size < w1.heap.size ∧ Below w.heap.size w w1 := by
  have hz : w.heap.size < (w.alloc (.cells #[a, b, c] T)).heap.size := by rw [Deep.nblk_alloc]; omega
  refine ⟨(hb.cell (p := ⟨w.heap.size, 0, none⟩) hz).trans (box_cell w #[a, b, c] T 0 _ rfl), (hb.cell (p := ⟨w.heap.size, 1, none⟩) hz).trans (box_cell w #[a, b, c] T 1 _ rfl), (hb.cell (p := ⟨w.heap.size, 2, none⟩) hz).trans (box_cell w #[a, b, c] T 2 _ rfl), Nat.lt_of_lt_of_le hz hb.size, (box_below _ _).trans (hb.mono (Nat.le_of_lt hz))⟩
end Go.Proofs.Ythlblgibgfledaa
/-
  LISTS OF TREES THAT A CALL BUILDS BY append: the row that it owns, and the trees elsewhere; append as one step of a region that draws its order, with where the new row lies.
-/
namespace Go.Proofs.Ythlblgibgfledaa
set_option linter.unusedVariables false
set_option linter.unusedSimpArgs false
open Go.RowKit

/-- append to an owned row: it stays in its block, or lies in a new one -/
theorem run_append_where {P : Program} (w : World) (base : Nat) (t ty e : TypeId) (i : TypeInfo) (z : Value) (size bytes : Nat) (ht : P.underlying t = some (.slice e)) (hi : P.info? e = some i) (hz : i.zero = some z)
    (hsize : i.size = size) (hby : i.bytes = bytes) (hzs : z.cells.size = size) (hsz : 0 < size)
    (v : Value) (n : Nat) (xs : List Value) (hown : w.ownsRow base e size v n xs)
    (a : Addr) (m c : Nat) (news : List Value) (hl : news.length = m * size) (hnews : ∀ j u, news[j]? = some u → w.cell? (a.add j) = some u) (h1 : ∀ u ∈ news, u.oneCell' = true)
    (h63 : n + m ≤ maxLen) (hbytes : (n + m) * bytes ≤ 140737488355328) (hbase : base ≤ w.heap.size) (hm : 0 < m) :
    ∃ v' w', (Builtin.append_ #[t, t] ty #[v, .slice (some a) m c]).run P w = .ok v' w' ∧ w'.ownsRow base e size v' (n + m) (xs ++ news) ∧ w.grownBy w' v.ownBlock ∧
      (v'.ownBlock = v.ownBlock ∨ ∃ g, v'.ownBlock = some g ∧ w.heap.size ≤ g) := by
  obtain ⟨v', w', hrun, hown', hgr, -⟩ := run_append_own (P := P) w base t ty e i z size bytes ht hi hz hsize hby hzs hsz v n xs hown a m c news hl hnews h1 h63 hbytes hbase
  refine ⟨v', w', hrun, hown', hgr, ?_⟩
  have hform := hown
  rcases hform.2 with ⟨rfl, rfl⟩ | ⟨g, cap, cur, rfl, hb, hh, hn, hc, hs, htk⟩
  · right
    obtain rfl : xs = [] := List.eq_nil_of_length_eq_zero (by simpa using hform.1)
    obtain ⟨v2, w2, hrun2, hown2, -, -⟩ := run_append_own (P := P) w w.heap.size t ty e i z size bytes ht hi hz hsize hby hzs hsz (.slice none 0 0) 0 [] (World.ownsRow_nil w _ e size) a m c news hl hnews h1 h63 hbytes (Nat.le_refl _)
    rw [hrun] at hrun2
    cases hrun2
    rcases hown2.2 with ⟨rfl, h0⟩ | ⟨g, cap, cur, rfl, hb, _⟩
    · omega
    · exact ⟨g, rfl, hb⟩
  · by_cases hroom : n + m ≤ cap
    · left
      have hcell : ∀ j, j < news.length → w.cell? ⟨g, 0 + n * i.size + j, none⟩ = cur[n * size + j]? := fun j hj => by
        rw [Nat.zero_add, hsize]; simp [World.cell?, hh]
      have hin : ∀ j, j < news.length → n * size + j < cur.size := fun j hj => by
        have h2 : (n + m) * size ≤ cap * size := Nat.mul_le_mul_right _ hroom
        rw [Nat.add_mul] at h2
        omega
      have hrun2 := run_append_room_cells (P := P) w t ty e i ht hi g 0 n cap a m c news (by rw [hsize]; exact hl) hnews h1 hroom
        (fun j hj => by rw [hcell j hj, Array.getElem?_eq_getElem (hin j hj)]; rfl) (fun j hj => by simp [World.frozen?, hh])
      rw [hrun] at hrun2
      cases hrun2
      rfl
    · right
      obtain ⟨v2, w2, hrun2, hown2, -⟩ := run_append_arg_grows (P := P) w t ty e i z size bytes ht hi hz hsize hby hzs hsz ⟨g, 0, none⟩ n cap xs hform.1
        (fun j u hu => hform.cells rfl j u hu) a m c news hl hnews (by omega) h63 hbytes
      rw [hrun] at hrun2
      cases hrun2
      rcases hown2.2 with ⟨rfl, h0⟩ | ⟨g2, cap2, cur2, rfl, hb2, _⟩
      · omega
      · exact ⟨g2, rfl, hb2⟩

/-- .. as one step of a region that draws its order -/
theorem step_append_where {P : Program} {ops : Array Oper} {o : Oper} {a : Act} {w : World} {K : Act → World → Prop} {Q : Exit → Act → World → Prop} {E : Prop}
    (hg : o.guard = none) (s x : Operand) (t : TypeId) (hop : o.op = Op.call { callee := Callee.builtin Builtin.append, args := #[s, x], argTypes := #[t, t] })
    (base : Nat) (e : TypeId) (i : TypeInfo) (z : Value) (size bytes : Nat) (ht : P.underlying t = some (.slice e)) (hi : P.info? e = some i) (hz : i.zero = some z)
    (hsize : i.size = size) (hby : i.bytes = bytes) (hzs : z.cells.size = size) (hsz : 0 < size)
    (v : Value) (n : Nat) (xs : List Value) (hs : a.eval s = v) (hown : w.ownsRow base e size v n xs)
    (ad : Addr) (m c : Nat) (news : List Value) (hx : a.eval x = .slice (some ad) m c) (hl : news.length = m * size) (hnews : ∀ j u, news[j]? = some u → w.cell? (ad.add j) = some u) (h1 : ∀ u ∈ news, u.oneCell' = true)
    (h63 : n + m ≤ maxLen) (hbytes : (n + m) * bytes ≤ 140737488355328) (hbase : base ≤ w.heap.size) (hm : 0 < m)
    (hK : ∀ v' w', w'.ownsRow base e size v' (n + m) (xs ++ news) → w.grownBy w' v.ownBlock → (v'.ownBlock = v.ownBlock ∨ ∃ g, v'.ownBlock = some g ∧ w.heap.size ≤ g) → K (a.put o.dst v') w') :
    if Region.wanted o (yielded ops a.tmps) = true then Oper.wp P o a w K Q else E := by
  have hw : Region.wanted o (yielded ops a.tmps) = true := by simp [Region.wanted, hg]
  rw [if_pos hw]
  obtain ⟨v', w', hrun, r1, r2, r3⟩ := run_append_where (P := P) w base t o.type e i z size bytes ht hi hz hsize hby hzs hsz v n xs hown ad m c news hl hnews h1 h63 hbytes hbase hm
  unfold Oper.wp
  simp [execOp, hop, resolve, invoke, builtin, hs, hx, hrun, Result.andThen]
  exact hK v' w' r1 r2 r3

/-- a list of trees that a call has built by append: the row is its own, the trees lie elsewhere, all from lo on -/
def OwnTr (w : World) (lo : Nat) (ts : List Tr) (v : Value) : Prop :=
  ∃ xs, w.ownsRow lo 35 3 v ts.length xs ∧ ∀ j (hj : j < ts.length), ∃ a b c, xs[j * 3]? = some a ∧ xs[j * 3 + 1]? = some b ∧ xs[j * 3 + 2]? = some c ∧ TrOn w (fun k => lo ≤ k ∧ k < w.heap.size ∧ some k ≠ v.ownBlock) ts[j] a b c

theorem OwnTr.nil (w : World) (lo : Nat) : OwnTr w lo [] (.slice none 0 0) := ⟨[], World.ownsRow_nil w lo _ _, fun j hj => absurd hj (by simp)⟩

/-- it stays where all blocks from lo on stay -/
theorem OwnTr.next {w w' : World} {lo : Nat} {ts : List Tr} {v : Value} (h : OwnTr w lo ts v) (hsz : w.heap.size ≤ w'.heap.size) (hb : ∀ k, lo ≤ k → k < w.heap.size → w'.heap[k]? = w.heap[k]?) : OwnTr w' lo ts v := by
  obtain ⟨xs, h1, h2⟩ := h
  refine ⟨xs, ⟨h1.1, ?_⟩, fun j hj => ?_⟩
  · rcases h1.2 with h | ⟨g, cap, cur, rfl, hg, hh, r⟩
    · exact Or.inl h
    · exact Or.inr ⟨g, cap, cur, rfl, hg, (hb g hg (Array.getElem?_eq_some_iff.1 hh).1).trans hh, r⟩
  · obtain ⟨a, b, c, e1, e2, e3, e4⟩ := h2 j hj
    exact ⟨a, b, c, e1, e2, e3, e4.mono (fun k hk => ⟨hk.1, Nat.lt_of_lt_of_le hk.2.1 hsz, hk.2.2⟩) (fun k hk => hb k hk.1 hk.2.1)⟩

/-- one tree more -/
theorem OwnTr.step {w w' : World} {lo : Nat} {ts : List Tr} {v v' : Value} {t : Tr} {a b c : Value} (h : OwnTr w lo ts v) (xs : List Value) (hx : w.ownsRow lo 35 3 v ts.length xs) (hlo : lo ≤ w.heap.size)
    (ht : ∀ j (hj : j < ts.length), ∃ a b c, xs[j * 3]? = some a ∧ xs[j * 3 + 1]? = some b ∧ xs[j * 3 + 2]? = some c ∧ TrOn w (fun k => lo ≤ k ∧ k < w.heap.size ∧ some k ≠ v.ownBlock) ts[j] a b c)
    (hn : TrOn w (fun k => lo ≤ k ∧ k < w.heap.size ∧ some k ≠ v.ownBlock) t a b c)
    (hown : w'.ownsRow lo 35 3 v' (ts.length + 1) (xs ++ [a, b, c])) (hg : w.grownBy w' v.ownBlock) (hw : v'.ownBlock = v.ownBlock ∨ ∃ g, v'.ownBlock = some g ∧ w.heap.size ≤ g) : OwnTr w' lo (ts ++ [t]) v' := by
  have hlen := hx.1
  have keep : ∀ (s : Tr) (x y z : Value), TrOn w (fun k => lo ≤ k ∧ k < w.heap.size ∧ some k ≠ v.ownBlock) s x y z → TrOn w' (fun k => lo ≤ k ∧ k < w'.heap.size ∧ some k ≠ v'.ownBlock) s x y z := by
    intro s x y z hs
    refine hs.mono (fun k hk => ⟨hk.1, Nat.lt_of_lt_of_le hk.2.1 hg.size, ?_⟩) (fun k hk => hg.block k hk.2.1 hk.2.2)
    rcases hw with hw | ⟨g, hw, hge⟩
    · rw [hw]; exact hk.2.2
    · rw [hw]; intro e; simp only [Option.some.injEq] at e; have := hk.2.1; omega
  refine ⟨xs ++ [a, b, c], by simpa using hown, fun j hj => ?_⟩
  by_cases hjl : j < ts.length
  · obtain ⟨x, y, z, e1, e2, e3, e4⟩ := ht j hjl
    have l1 : j * 3 + 2 < xs.length := by omega
    refine ⟨x, y, z, ?_, ?_, ?_, ?_⟩
    · rw [List.getElem?_append_left (by omega)]; exact e1
    · rw [List.getElem?_append_left (by omega)]; exact e2
    · rw [List.getElem?_append_left (by omega)]; exact e3
    · rw [List.getElem_append_left hjl]; exact keep _ _ _ _ e4
  · have hj' : j = ts.length := by simp at hj; omega
    subst hj'
    refine ⟨a, b, c, ?_, ?_, ?_, ?_⟩
    · rw [List.getElem?_append_right (by omega)]; simp [hlen]
    · rw [List.getElem?_append_right (by omega)]; simp [hlen]
    · rw [List.getElem?_append_right (by omega)]; simp [hlen]
    · simpa using keep _ _ _ _ hn

/-- the list, as trees in memory -/
theorem OwnTr.kids {w : World} {lo : Nat} {ts : List Tr} {v : Value} (h : OwnTr w lo ts v) : KidsOn w (Btw lo w.heap.size) ts v := by
  obtain ⟨xs, h1, h2⟩ := h
  rcases h1.2 with ⟨rfl, h0⟩ | ⟨g, cap, cur, rfl, hg, hh, hn, hc, hs, htk⟩
  · obtain rfl : ts = [] := List.eq_nil_of_length_eq_zero h0
    exact ⟨none, 0, rfl, Nat.le_refl _, by simp [maxLen], Or.inl rfl⟩
  · refine ⟨_, cap, rfl, hn, hc, Or.inr ⟨g, 0, rfl, ⟨hg, (Array.getElem?_eq_some_iff.1 hh).1⟩, RowOn.of _ _ fun i hi => ?_⟩⟩
    obtain ⟨a, b, c, e1, e2, e3, e4⟩ := h2 i hi
    refine ⟨a, b, c, ?_, ?_, ?_, e4.mono (fun k hk => ⟨hk.1, hk.2.1⟩) (fun _ _ => rfl)⟩
    · rw [Nat.zero_add, h1.cellAt (i * 3) (by omega)]; exact e1
    · rw [Nat.zero_add, h1.cellAt (i * 3 + 1) (by omega)]; exact e2
    · rw [Nat.zero_add, h1.cellAt (i * 3 + 2) (by omega)]; exact e3
end Go.Proofs.Ythlblgibgfledaa
/-
  append AS A STEP OF THE WALK, WITH WHERE THE NEW ROW LIES.
-/
namespace Go.Proofs.Ythlblgibgfledaa
set_option linter.unusedVariables false
set_option linter.unusedSimpArgs false
open Go.RowKit

theorem wpList_append_where {P : Program} (w : World) {ops : Array Oper} {rest : List Oper} {o : Oper} {a : Act} {Q : Exit → Act → World → Prop}
    (hg : o.guard = none) (s x : Operand) (t : TypeId) (hop : o.op = Op.call { callee := Callee.builtin Builtin.append, args := #[s, x], argTypes := #[t, t] })
    (base : Nat) (e : TypeId) (i : TypeInfo) (z : Value) (size bytes : Nat) (ht : P.underlying t = some (.slice e)) (hi : P.info? e = some i) (hz : i.zero = some z)
    (hsize : i.size = size) (hby : i.bytes = bytes) (hzs : z.cells.size = size) (hsz : 0 < size)
    (v : Value) (n : Nat) (xs : List Value) (hs : a.eval s = v) (hown : w.ownsRow base e size v n xs)
    (ad : Addr) (m c : Nat) (news : List Value) (hx : a.eval x = .slice (some ad) m c) (hl : news.length = m * size) (hnews : ∀ j u, news[j]? = some u → w.cell? (ad.add j) = some u) (h1 : ∀ u ∈ news, u.oneCell' = true)
    (h63 : n + m ≤ maxLen) (hbytes : (n + m) * bytes ≤ 140737488355328) (hbase : base ≤ w.heap.size) (hm : 0 < m)
    (hK : ∀ v' w', w'.ownsRow base e size v' (n + m) (xs ++ news) → w.grownBy w' v.ownBlock → (v'.ownBlock = v.ownBlock ∨ ∃ g, v'.ownBlock = some g ∧ w.heap.size ≤ g) → wpList P ops Q rest (a.put o.dst v') w') :
    wpList P ops Q (o :: rest) a w := by
  refine wpList_plain hg fun K' hK' => ?_
  obtain ⟨v', w', hrun, r1, r2, r3⟩ := run_append_where (P := P) w base t o.type e i z size bytes ht hi hz hsize hby hzs hsz v n xs hown ad m c news hl hnews h1 h63 hbytes hbase hm
  unfold Oper.wp
  simp [execOp, hop, resolve, invoke, builtin, hs, hx, hrun, Result.andThen]
  exact hK' _ _ (hK v' w' r1 r2 r3)

/-- an owned row that is not empty lies somewhere -/
theorem own_form {w : World} {base n size : Nat} {e : TypeId} {v : Value} {xs : List Value} (h : w.ownsRow base e size v n xs) (hn : 0 < n) : ∃ g cap, v = .slice (some ⟨g, 0, none⟩) n cap ∧ base ≤ g ∧ g < w.heap.size ∧ n ≤ cap ∧ cap ≤ maxLen := by
  rcases h.2 with ⟨-, h0⟩ | ⟨g, cap, cur, rfl, hg, hh, hn', hc, -⟩
  · omega
  · exact ⟨g, cap, rfl, hg, (Array.getElem?_eq_some_iff.1 hh).1, hn', hc⟩
/-- a block of two cells -/
theorem box2_cell (w : World) (C : Array Value) (t : TypeId) (i : Nat) (v : Value) (h : C[i]? = some v) : (w.alloc (.cells C t)).cell? ((⟨w.heap.size, 0, none⟩ : Addr).add i) = some v := by
  rw [WideShapes.add_plain, Nat.zero_add]
  exact box_cell w C t i v h
end Go.Proofs.Ythlblgibgfledaa
/-
  A STACK OF PLACES (a slice of ints that a call owns) AND MARKS (a row of bools).
-/
namespace Go.Proofs.Ythlblgibgfledaa
set_option linter.unusedVariables false
set_option linter.unusedSimpArgs false
open Go.RowKit

theorem infoI1 : ∃ i z, Try.prog.info? 3 = some i ∧ i.zero = some z ∧ i.size = 1 ∧ i.bytes = 8 ∧ z.cells.size = 1 := by
  obtain ⟨i, hi, hzz⟩ := Option.map_eq_some_iff.1 infoI
  simp only [Prod.mk.injEq] at hzz
  obtain ⟨hz, hs, hb⟩ := hzz
  exact ⟨i, _, hi, hz, hs, hb, rfl⟩
/-- places, as values -/
def plV (ws : List Nat) : List Value := ws.map fun (a : Nat) => Value.int .i64 (a : Int)
theorem plV_length (ws : List Nat) : (plV ws).length = ws.length := by simp [plV]
theorem plV_one (ws : List Nat) : ∀ u ∈ plV ws, u.oneCell' = true := by
  intro u hu
  simp only [plV, List.mem_map] at hu
  obtain ⟨a, -, rfl⟩ := hu
  rfl
def Stk (w : World) (lo : Nat) (ws : List Nat) (v : Value) : Prop := w.ownsRow lo 3 1 v ws.length (plV ws)
theorem Stk.keep {w w' : World} {lo : Nat} {ws : List Nat} {v : Value} (h : Stk w lo ws v) (hk : ∀ k, lo ≤ k → k < w.heap.size → w'.heap[k]? = w.heap[k]?) : Stk w' lo ws v := by
  refine ⟨h.1, ?_⟩
  rcases h.2 with h | ⟨g, cap, cur, rfl, hg, hh, r⟩
  · exact Or.inl h
  · exact Or.inr ⟨g, cap, cur, rfl, hg, (hk g hg (Array.getElem?_eq_some_iff.1 hh).1).trans hh, r⟩
theorem Stk.top {w : World} {lo : Nat} {ws : List Nat} {a : Nat} {v : Value} (h : Stk w lo (ws ++ [a]) v) :
    ∃ g cap, v = .slice (some ⟨g, 0, none⟩) (ws.length + 1) cap ∧ lo ≤ g ∧ g < w.heap.size ∧ ws.length + 1 ≤ cap ∧ cap ≤ maxLen ∧ w.cell? ⟨g, ws.length, none⟩ = some (.int .i64 (a : Int)) ∧ Stk w lo ws (.slice (some ⟨g, 0, none⟩) ws.length cap) := by
  obtain ⟨h1, h2⟩ := h
  rcases h2 with ⟨-, h0⟩ | ⟨g, cap, cur, hv, hg, hh, hn, hc, hs, htk⟩
  · simp at h0
  · simp only [List.length_append, List.length_cons, List.length_nil, Nat.zero_add] at hv hn htk
    simp only [Nat.mul_one] at hs htk
    have hlt : ws.length < cur.size := by omega
    have e1 : (cur.toList.take (ws.length + 1))[ws.length]? = (plV (ws ++ [a]))[ws.length]? := by rw [htk]
    have e2 : cur.toList.take ws.length = plV ws := by
      have := congrArg (List.take ws.length) htk
      rw [List.take_take, Nat.min_eq_left (by omega)] at this
      rw [this]
      simp [plV]
    refine ⟨g, cap, hv, hg, (Array.getElem?_eq_some_iff.1 hh).1, hn, hc, ?_, by rw [plV_length]; omega, Or.inr ⟨g, cap, cur, rfl, hg, hh, by omega, hc, by omega, by rw [Nat.mul_one]; exact e2⟩⟩
    simp only [World.cell?, hh]
    rw [List.getElem?_take_of_lt (by omega)] at e1
    have e3 : (plV (ws ++ [a]))[ws.length]? = some (.int .i64 (a : Int)) := by simp [plV]
    rw [e3] at e1
    simpa using e1
theorem own_lo {w : World} {base n size : Nat} {e : TypeId} {v : Value} {xs : List Value} (h : w.ownsRow base e size v n xs) {k : Nat} (hk : some k = v.ownBlock) : base ≤ k := by
  rcases h.2 with ⟨rfl, -⟩ | ⟨g, cap, cur, rfl, hg, -⟩
  · simp [Value.ownBlock] at hk
  · simp only [Value.ownBlock, Option.some.injEq] at hk
    omega
theorem Stk.nil {w : World} {lo : Nat} {v : Value} {n : Nat} (h : Stk w lo [] v) : ∃ ad cap, v = .slice ad 0 cap := by
  rcases h.2 with ⟨rfl, -⟩ | ⟨g, cap, cur, rfl, -⟩
  · exact ⟨_, _, rfl⟩
  · exact ⟨_, _, rfl⟩
theorem Stk.len {w : World} {lo : Nat} {ws : List Nat} {v : Value} (h : Stk w lo ws v) : ∃ ad cap, v = .slice ad ws.length cap := by
  rcases h.2 with ⟨rfl, h0⟩ | ⟨g, cap, cur, rfl, -⟩
  · exact ⟨none, 0, by rw [h0]⟩
  · exact ⟨_, _, rfl⟩
/-- a new row of one place -/
theorem Stk.one (w : World) (lo : Nat) (a : Nat) (h : lo ≤ w.heap.size) : Stk (w.alloc (.cells #[.int .i64 (a : Int)] 3)) lo [a] (.slice (some ⟨w.heap.size, 0, none⟩) 1 1) :=
  ⟨rfl, Or.inr ⟨w.heap.size, 1, _, rfl, h, Deep.blk_alloc_new _ _, Nat.le_refl _, by simp [maxLen], rfl, rfl⟩⟩

theorem Stk.row {w : World} {lo : Nat} {ws : List Nat} {v : Value} (h : Stk w lo ws v) : IntRow w lo (ws.map fun (a : Nat) => (a : Int)) v := by
  rcases h.2 with ⟨rfl, h0⟩ | ⟨g, cap, cur, rfl, hg, hh, hn, hc, hs, htk⟩
  · obtain rfl : ws = [] := List.eq_nil_of_length_eq_zero h0
    exact IntRow.none _ _
  · rw [Nat.mul_one] at hs htk
    refine ⟨_, cap, by rw [List.length_map], by rw [List.length_map]; exact hn, hc, Or.inr ⟨g, fun i => cur.getD i undef, rfl, hg, ⟨cur, hh, hs, fun i hi => ?_⟩, fun i hi => ?_⟩⟩
    · have hi' : i < cur.size := by omega
      simp [Array.getD, hi']
    · rw [List.length_map] at hi
      have hi' : i < cur.size := by omega
      have e1 : (cur.toList.take ws.length)[i]? = (plV ws)[i]? := by rw [htk]
      rw [List.getElem?_take_of_lt hi] at e1
      have e2 : (plV ws)[i]? = some (.int .i64 (ws[i] : Int)) := by simp [plV, hi]
      rw [e2] at e1
      simp [Array.getD, hi'] at e1 ⊢
      exact e1
/-- one place in a new block, as a slice that is appended -/
theorem one_in (w : World) (a : Nat) : IIn (w.alloc (.cells #[.int .i64 (a : Int)] 3)) [(a : Int)] (.slice (some ⟨w.heap.size, 0, none⟩) 1 1) := by
  refine ⟨_, 1, rfl, Nat.le_refl _, by simp [maxLen], Or.inr ⟨_, 0, rfl, by show w.heap.size < _; rw [Deep.nblk_alloc]; omega, fun i hi => ?_⟩⟩
  obtain rfl : i = 0 := by simp at hi; omega
  exact box_cell w #[.int .i64 (a : Int)] 3 0 _ rfl
theorem Stk.alloc {w : World} {lo : Nat} {ws : List Nat} {v : Value} (h : Stk w lo ws v) (o : Obj) : Stk (w.alloc o) lo ws v := h.keep fun k _ hk => Deep.blk_alloc_lt _ _ _ hk

/-- the operands of a cell, as values -/
theorem ints_news {w : World} {xs : List Int} {ws : List Nat} {ad : Addr} {n cap : Nat} (h : IIn w xs (.slice (some ad) n cap)) (hx : xs = ws.map fun (a : Nat) => (a : Int)) : ∀ j u, (plV ws)[j]? = some u → w.cell? (ad.add j) = some u := by
  intro j u hu
  subst hx
  obtain ⟨ad', cap', he, -, -, hr⟩ := h
  simp only [Value.slice.injEq, Option.some.injEq] at he
  obtain ⟨rfl, -, -⟩ := he
  have hj : j < ws.length := by
    rcases Nat.lt_or_ge j ws.length with h | h
    · exact h
    · rw [List.getElem?_eq_none (by rw [plV_length]; exact h)] at hu; cases hu
  rcases hr with hnil | ⟨bl, off, e, -, hr⟩
  · simp at hnil; subst hnil; simp at hj
  · simp only [Option.some.injEq] at e
    subst e
    rw [WideShapes.add_plain]
    have := hr j (by simpa using hj)
    rw [this]
    simp [plV, hj] at hu
    simpa using hu
theorem kids_back {g : List Ce} {defs : Int} (h : graphB g defs = true) (a : Nat) (ha : a < g.length) : g[a].kids = (kidsN g a).map fun (a : Nat) => (a : Int) := by
  rw [kidsN_at a ha, List.map_map]
  refine List.ext_getElem (by simp) fun i h1 h2 => ?_
  have := (kids_graph h a ha).2 _ (List.getElem_mem h1)
  simp
  omega
theorem split_last {α : Type} (l : List α) (h : 0 < l.length) : ∃ r a, l = r ++ [a] := by
  have hne : l ≠ [] := by intro e; subst e; simp at h
  exact ⟨l.dropLast, l.getLast hne, (List.dropLast_concat_getLast hne).symm⟩

/-- append of places to a stack, out of any slice of ints -/
theorem run_push (w : World) (lo : Nat) (ws news : List Nat) (v x : Value) (ty : TypeId) (hst : Stk w lo ws v) {xs : List Int} (hx : IIn w xs x) (hxs : xs = news.map fun (a : Nat) => (a : Int)) (hlo : lo ≤ w.heap.size) (hb : ws.length + news.length ≤ 1048576) :
    ∃ v' w', (Builtin.append_ #[26, 26] ty #[v, x]).run Try.prog w = .ok v' w' ∧ Stk w' lo (ws ++ news) v' ∧ w.grownBy w' v.ownBlock := by
  obtain ⟨i, z, hi, hz, hs, hby, hzs⟩ := infoI1
  have hlen : xs.length = news.length := by rw [hxs]; simp
  have hx2 := hx
  obtain ⟨ad, cap, rfl, -, -, hr⟩ := hx2
  rcases ad with _ | ad
  · have hnil : news = [] := by
      rcases hr with h | ⟨_, _, h, -⟩
      · rw [h] at hlen; exact List.eq_nil_of_length_eq_zero hlen.symm
      · simp at h
    subst hnil
    rw [hlen]
    refine ⟨v, w, ?_, by simpa using hst, ⟨rfl, rfl, rfl, Nat.le_refl _, fun _ _ _ => rfl⟩⟩
    rcases hst.2 with ⟨rfl, h0⟩ | ⟨g, cap, cur, rfl, _, _, hnc, _⟩
    · simp [Builtin.append_, run_underlying Try.underlying26, sizeOf, typeInfo, hi, Builtin.lenOf, Builtin.firstCells]
    · simp [Builtin.append_, run_underlying Try.underlying26, sizeOf, typeInfo, hi, Builtin.lenOf, Builtin.firstCells, hnc, storeCells]
  · obtain ⟨v', w', hrun, hown, hg, -⟩ := run_append_own (P := Try.prog) w lo 26 ty 3 i z 1 8 Try.underlying26 hi hz hs hby hzs (by decide) v ws.length (plV ws) hst ad news.length cap (plV news) (by rw [plV_length, Nat.mul_one]) (ints_news hx hxs) (plV_one _) (by unfold maxLen; omega) (by omega) hlo
    rw [← hlen] at hrun
    refine ⟨v', w', hrun, ?_, hg⟩
    unfold Stk
    have e : plV (ws ++ news) = plV ws ++ plV news := by simp [plV]
    rw [e, List.length_append]
    exact hown
theorem wpList_push {ops : Array Oper} {rest : List Oper} {o : Oper} {a : Act} {Q : Exit → Act → World → Prop} (hgd : o.guard = none) (s x : Operand)
    (ho : o.op = .call { callee := .builtin .append, args := #[s, x], argTypes := #[26, 26] })
    (w : World) (lo : Nat) (ws news : List Nat) (v xv : Value) (hs : a.eval s = v) (hst : Stk w lo ws v) (hxe : a.eval x = xv) {xs : List Int} (hx : IIn w xs xv) (hxs : xs = news.map fun (a : Nat) => (a : Int)) (hlo : lo ≤ w.heap.size) (hb : ws.length + news.length ≤ 1048576)
    (h : ∀ v' w', Stk w' lo (ws ++ news) v' → w.grownBy w' v.ownBlock → wpList Try.prog ops Q rest (a.put o.dst v') w') : wpList Try.prog ops Q (o :: rest) a w := by
  refine wpList_plain hgd fun K hK => ?_
  obtain ⟨v', w', hrun, h2, h3⟩ := run_push w lo ws news v xv o.type hst hx hxs hlo hb
  unfold Oper.wp
  simp [execOp, ho, resolve, invoke, builtin, hs, hxe, hrun, Result.andThen]
  exact hK _ _ (h v' w' h2 h3)

/-- no numbers, in whatever block -/
theorem no_ints (w : World) (lo : Nat) (ad : Option Addr) (cap : Nat) (h : cap ≤ maxLen) : IntRow w lo [] (.slice ad 0 cap) := ⟨ad, cap, rfl, Nat.zero_le _, h, Or.inl rfl⟩
end Go.Proofs.Ythlblgibgfledaa
/-
  A GRAPH THAT CALLS BUILD BY append: the row of cells is owned, the operands lie in rows of their own.
-/
namespace Go.Proofs.Ythlblgibgfledaa
set_option linter.unusedVariables false
set_option linter.unusedSimpArgs false
open Go.RowKit

theorem infoC1 : ∃ i z, Try.prog.info? 64 = some i ∧ i.zero = some z ∧ i.size = 3 ∧ i.bytes = 40 ∧ z.cells.size = 3 := by
  obtain ⟨i, hi, hzz⟩ := Option.map_eq_some_iff.1 infoC
  simp only [Prod.mk.injEq] at hzz
  obtain ⟨hz, hs, hb⟩ := hzz
  exact ⟨i, _, hi, hz, hs, hb, rfl⟩
/-- the operands of a cell, in the row blk, a block of S -/
def KRowS (w : World) (S : Nat → Prop) (xs : List Int) (blk : Nat) (v : Value) : Prop :=
  ∃ ad cap, v = .slice ad xs.length cap ∧ xs.length ≤ cap ∧ cap ≤ maxLen ∧ (xs = [] ∨ ∃ f, ad = some ⟨blk, 0, none⟩ ∧ S blk ∧ w.rowIs blk 3 cap f ∧ ∀ i (h : i < xs.length), f i = .int .i64 xs[i])
theorem KRowS.keep {w w' : World} {S S' : Nat → Prop} {xs : List Int} {blk : Nat} {v : Value} (h : KRowS w S xs blk v) (hS : ∀ k, S k → k < w.heap.size → S' k) (hb : ∀ C, S blk → blk < w.heap.size → w.heap[blk]? = some (.cells C 3 (0, 0)) → w'.heap[blk]? = w.heap[blk]?) : KRowS w' S' xs blk v := by
  obtain ⟨ad, cap, e, l1, l2, h⟩ := h
  refine ⟨ad, cap, e, l1, l2, h.imp id ?_⟩
  rintro ⟨f, rfl, h1, h3, h4⟩
  obtain ⟨C, hC, -⟩ := id h3
  exact ⟨f, rfl, hS _ h1 h3.lt, h3.of_block (hb C h1 h3.lt hC), h4⟩
/-- a slice value that holds a graph that is being built: the row of cells is owned, from block lo on; the operands lie in blocks of S -/
def OwnC (w : World) (lo : Nat) (S : Nat → Prop) (g : List Ce) (v : Value) : Prop :=
  (∀ i (h : i < g.length), I64 g[i].op ∧ I64 g[i].num) ∧ ∃ (xs : List Value) (kb : Nat → Nat), w.ownsRow lo 64 3 v g.length xs ∧
    (∀ j (hj : j < g.length), ∃ kv, xs[j * 3]? = some (.int .i64 g[j].op) ∧ xs[j * 3 + 1]? = some (.int .i64 g[j].num) ∧ xs[j * 3 + 2]? = some kv ∧ KRowS w S g[j].kids (kb j) kv) ∧ Dist kb g
theorem OwnC.nil (w : World) (lo : Nat) (S : Nat → Prop) : OwnC w lo S [] (.slice none 0 0) := ⟨fun i h => absurd h (by simp), [], fun _ => 0, World.ownsRow_nil w lo _ _, fun j hj => absurd hj (by simp), fun i j hi _ => absurd hi (by simp)⟩
/-- it stays where the row of cells and all rows of ints in S stay -/
theorem OwnC.next {w w' : World} {lo : Nat} {S S' : Nat → Prop} {g : List Ce} {v : Value} (h : OwnC w lo S g v) (hS : ∀ k, S k → k < w.heap.size → S' k) (hr : ∀ k, some k = v.ownBlock → k < w.heap.size → w'.heap[k]? = w.heap[k]?) (hb : ∀ k, S k → k < w.heap.size → w'.heap[k]? = w.heap[k]?) : OwnC w' lo S' g v := by
  obtain ⟨hi0, xs, kb, h1, h2, h3⟩ := h
  refine ⟨hi0, xs, kb, ?_, fun j hj => ?_, h3⟩
  · refine ⟨h1.1, ?_⟩
    rcases h1.2 with h | ⟨b, cap, cur, rfl, hg, hh, r⟩
    · exact Or.inl h
    · exact Or.inr ⟨b, cap, cur, rfl, hg, (hr b rfl (Array.getElem?_eq_some_iff.1 hh).1).trans hh, r⟩
  · obtain ⟨kv, e0, e1, e2, e3⟩ := h2 j hj
    exact ⟨kv, e0, e1, e2, e3.keep hS fun C h1 h2 _ => hb _ h1 h2⟩
theorem OwnC.row {w : World} {lo : Nat} {S : Nat → Prop} {g : List Ce} {v : Value} (h : OwnC w lo S g v) : ∃ xs, w.ownsRow lo 64 3 v g.length xs := by
  obtain ⟨-, xs, kb, h1, -⟩ := h; exact ⟨xs, h1⟩
theorem OwnC.form {w : World} {lo : Nat} {S : Nat → Prop} {g : List Ce} {v : Value} (h : OwnC w lo S g v) : ∃ ad cap, v = .slice ad g.length cap := by
  obtain ⟨xs, h1⟩ := h.row
  rcases h1.2 with ⟨rfl, h0⟩ | ⟨b, cap, cur, rfl, -⟩
  · exact ⟨none, 0, by rw [h0]⟩
  · exact ⟨_, _, rfl⟩
/-- one cell more -/
theorem OwnC.step {w w' : World} {lo : Nat} {S : Nat → Prop} {g : List Ce} {v v' : Value} {c : Ce} {kv : Value} {blk : Nat} (h : OwnC w lo S g v)
    (hc : I64 c.op ∧ I64 c.num) (hk : KRowS w (fun b => b = blk) c.kids blk kv) (hS : ¬ S blk) (xs : List Value) (hx : w.ownsRow lo 64 3 v g.length xs)
    (hown : w'.ownsRow lo 64 3 v' (g.length + 1) (xs ++ [.int .i64 c.op, .int .i64 c.num, kv])) (hg : w.grownBy w' v.ownBlock) : OwnC w' lo (fun b => S b ∨ b = blk) (g ++ [c]) v' := by
  obtain ⟨hi0, xs2, kb, h1, h2, h3⟩ := h
  have hxs : xs2 = xs := by
    rcases h1.2 with ⟨rfl, h0⟩ | ⟨b, cap, cur, rfl, hg', hh, hn', hc', hs', htk⟩
    · have a1 := h1.1
      have a2 := hx.1
      rw [h0] at a1 a2
      rw [List.eq_nil_of_length_eq_zero (by omega : xs2.length = 0), List.eq_nil_of_length_eq_zero (by omega : xs.length = 0)]
    · rcases hx.2 with ⟨e, -⟩ | ⟨b2, cap2, cur2, e, -, hh2, -, -, -, htk2⟩
      · cases e
      · cases e
        rw [hh] at hh2
        cases hh2
        rw [← htk, ← htk2]
  subst hxs
  have hlen := h1.1
  -- a row of ints is not the row of cells
  have keep : ∀ (C : Array Value) (b : Nat), b < w.heap.size → w.heap[b]? = some (.cells C 3 (0, 0)) → w'.heap[b]? = w.heap[b]? := by
    intro C b hb hC
    refine hg.block b hb fun e => ?_
    rcases h1.2 with ⟨rfl, -⟩ | ⟨b2, cap, cur, rfl, -, hh, -⟩
    · simp [Value.ownBlock] at e
    · simp only [Value.ownBlock, Option.some.injEq] at e
      subst e
      rw [hh] at hC
      simp at hC
  refine ⟨fun i hi' => ?_, xs2 ++ [.int .i64 c.op, .int .i64 c.num, kv], fun j => if j = g.length then blk else kb j, by simpa using hown, fun j hj => ?_, ?_⟩
  · by_cases hil : i < g.length
    · rw [List.getElem_append_left hil]; exact hi0 i hil
    · have : i = g.length := by simp at hi'; omega
      subst this
      simpa using hc
  · by_cases hjl : j < g.length
    · obtain ⟨kv', e0, e1, e2, e3⟩ := h2 j hjl
      refine ⟨kv', ?_, ?_, ?_, ?_⟩
      · rw [List.getElem?_append_left (by omega), List.getElem_append_left hjl]; exact e0
      · rw [List.getElem?_append_left (by omega), List.getElem_append_left hjl]; exact e1
      · rw [List.getElem?_append_left (by omega)]; exact e2
      · simp only [if_neg (show ¬ j = g.length by omega)]
        rw [List.getElem_append_left hjl]
        exact e3.keep (fun k hk _ => Or.inl hk) fun C _ h5 hC => keep C _ h5 hC
    · have hj' : j = g.length := by simp at hj; omega
      subst hj'
      refine ⟨kv, ?_, ?_, ?_, ?_⟩
      · rw [List.getElem?_append_right (by omega)]; simp [hlen]
      · rw [List.getElem?_append_right (by omega)]; simp [hlen]
      · rw [List.getElem?_append_right (by omega)]; simp [hlen]
      · simp only [List.getElem_concat_length, if_pos]
        exact hk.keep (fun k hk _ => Or.inr hk) fun C _ h5 hC => keep C _ h5 hC
  · -- distinct
    have ne : ∀ i (hi' : i < g.length), g[i].kids ≠ [] → kb i ≠ blk := by
      intro i hi' hne e
      obtain ⟨kv', -, -, -, _, _, _, _, _, h5⟩ := h2 i hi'
      rcases h5 with h5 | ⟨f5, -, h6, -⟩
      · exact hne h5
      · exact hS (e ▸ h6)
    intro i j hi' hj' hij ei ej
    simp only [List.length_append, List.length_cons, List.length_nil] at hi' hj'
    by_cases il : i < g.length
    · rw [List.getElem_append_left il] at ei
      by_cases jl : j < g.length
      · rw [List.getElem_append_left jl] at ej
        simp only [if_neg (show ¬ i = g.length by omega), if_neg (show ¬ j = g.length by omega)]
        exact h3 i j il jl hij ei ej
      · have : j = g.length := by omega
        subst this
        simp only [if_neg (show ¬ i = g.length by omega), if_pos]
        exact ne i il ei
    · have : i = g.length := by omega
      subst this
      have jl : j < g.length := by omega
      rw [List.getElem_append_left jl] at ej
      simp only [if_neg (show ¬ j = g.length by omega), if_pos]
      exact (ne j jl ej).symm
/-- the graph, in rows of its own -/
theorem OwnC.own {w : World} {lo : Nat} {S : Nat → Prop} {g : List Ce} {v : Value} (h : OwnC w lo S g v) (hS : ∀ k, S k → k < w.heap.size → lo ≤ k) : GOwn w (List.range' lo (w.heap.size - lo)) g v := by
  obtain ⟨hi0, xs, kb, h1, h2, h3⟩ := h
  refine ⟨hi0, ?_⟩
  rcases h1.2 with ⟨rfl, h0⟩ | ⟨b, cap, cur, rfl, hg, hh2, hn, hc, hs, htk⟩
  · obtain rfl : g = [] := List.eq_nil_of_length_eq_zero h0
    exact ⟨none, 0, rfl, Nat.le_refl _, by simp [maxLen], Or.inl rfl⟩
  · have hbl : b < w.heap.size := (Array.getElem?_eq_some_iff.1 hh2).1
    refine ⟨_, cap, rfl, hn, hc, Or.inr ⟨b, kb, rfl, by rw [List.mem_range'_1]; omega, ⟨fun i => cur.getD i undef, ⟨cur, hh2, hs, fun i hi => by simp [Array.getD, show i < cur.size by omega]⟩, fun i hi => ?_⟩, h3⟩⟩
    obtain ⟨kv, e0, e1, e2, e3⟩ := h2 i hi
    have get : ∀ m u, m < g.length * 3 → xs[m]? = some u → cur.getD m undef = u := by
      intro m u hm hu
      rw [← htk, List.getElem?_take_of_lt hm] at hu
      have hmc : m < cur.size := by omega
      simp [hmc] at hu
      simp [Array.getD, hmc, hu]
    refine ⟨get _ _ (by omega) e0, get _ _ (by omega) e1, ?_⟩
    simp only []
    rw [get _ _ (by omega) e2]
    obtain ⟨ad2, cap2, e4, l1, l2, h5⟩ := e3
    refine ⟨ad2, cap2, e4, l1, l2, h5.imp id ?_⟩
    rintro ⟨f, rfl, h6, h8, h9⟩
    exact ⟨f, rfl, by rw [List.mem_range'_1]; have := h8.lt; have := hS _ h6 h8.lt; omega, h8, h9⟩
/-- a list of operands that a call has built by append -/
theorem stk_krow {w : World} {lo : Nat} {ws : List Nat} {v : Value} (h : Stk w lo ws v) : ∃ blk, (ws ≠ [] → v.ownBlock = some blk) ∧ KRowS w (fun b => b = blk) (ws.map fun (a : Nat) => (a : Int)) blk v := by
  obtain ⟨ad, cap, e, l1, l2, h5⟩ := h.row
  rcases h5 with h5 | ⟨g, f, rfl, h6, h7, h8⟩
  · have hw : ws = [] := by simpa using h5
    exact ⟨0, fun hx => absurd hw hx, ad, cap, e, l1, l2, Or.inl h5⟩
  · exact ⟨g, fun _ => by rw [e]; rfl, _, cap, e, l1, l2, Or.inr ⟨f, rfl, rfl, h7, h8⟩⟩
theorem news3c (w : World) (a b c : Value) (j : Nat) (u : Value) (h : [a, b, c][j]? = some u) : (w.alloc (.cells #[a, b, c] 64)).cell? ((⟨w.heap.size, 0, none⟩ : Addr).add j) = some u := by
  rw [WideShapes.add_plain, Nat.zero_add]
  exact box_cell w #[a, b, c] _ j u (by simpa using h)
theorem stk_form {w : World} {lo k : Nat} {ws : List Nat} {n : Nat} {v : Value} (h : Stk w lo (ws ++ [n]) v) (hk : ws.length = k) : ∃ ad cap, v = .slice ad (k + 1) cap := by
  obtain ⟨a, c, e⟩ := h.len
  exact ⟨a, c, by rw [e, List.length_append, hk]; rfl⟩
end Go.Proofs.Ythlblgibgfledaa
